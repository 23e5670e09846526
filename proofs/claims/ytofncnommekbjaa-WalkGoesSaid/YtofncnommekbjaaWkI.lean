/-
  Index at a tree that is one leaf, as the example of layer 10 asks it; such a tree.
-/
import Derived.Test.YtofncnommekbjaaWkH
namespace Go.Proofs.Ytofncnommekbjaa
open Go Go.RowKit Go.Shelf
set_option linter.unusedVariables false

theorem leaf_of {w : World} {T : TypeId} {x : Option Addr} {L : List Value} (H : Tin w T (.pointer x) L) (h0 : 0 < L.length) (h5 : L.length ≤ 5) : ∃ b, x = some ⟨b, 0, none⟩ ∧ In w T 0 L b := by
  rcases H with ⟨_, rfl⟩ | ⟨b, h, t, hx, hin, hok, rfl⟩
  · simp at h0
  · injection hx with hx
    have h1 := ok_pow h hok
    match h, t, hin, hok, h0, h5, h1 with
    | 0, t, hin, hok, h0, h5, h1 => 
      have aux : ∀ M : List Value, M = (t : List Value) → In w T 0 (M : List Value) b := fun M h => by subst h; exact hin
      exact ⟨b, hx, aux _ (flatL_zero t)⟩
    | h + 1, t, hin, hok, h0, h5, h1 =>
      rw [rlo_succ] at h1
      have h4 : 3 ^ (h + 1) = 3 ^ h * 3 := by rw [Nat.pow_succ]
      have h3 : 0 < 3 ^ h := Nat.pow_pos (by omega)
      omega

set_option maxRecDepth 100000 in
theorem is3_i {w : World} (x : Int) : Calls Try.prog 73 #[.int .i64 x] w fun e w' => e = .returned (.bool (decide (x = 3))) ∧ w = w' := by
  go_enter Try.func73, Try.ntmps73
  go_wp2_with fail
  go_ret
  exact ⟨rfl, rfl⟩

theorem eq_fn (w : World) : Sem.run Try.prog (binOp BinOp.eql 75 (fnv 73) Value.nilFunc) w = .ok (.bool false) w := by kernel_rfl

/-- What Index keeps between two rounds, and where it has found. -/
def IdxI (w4 : World) (j : Nat) (pre : List (Nat × Int)) (E : Bls) (W : World) : Prop := (∀ k, E k → w4.heap.size ≤ k) ∧ Below w4.heap.size w4 W ∧ pre.length ≤ j
def IdxX (w w4 : World) (q j : Nat) (c : Code) (pre : List (Nat × Int)) (E : Bls) (W : World) : Prop := c = .ret ∧ (∀ k, E k → w4.heap.size ≤ k) ∧ Below w.heap.size w W ∧ w4.heap.size ≤ W.heap.size ∧ W.cell? ⟨q, 0, none⟩ = some (.int .i64 j)
theorem IdxI.firm {w4 : World} {j : Nat} : Firm (IdxI w4 j) := by
  rintro s D D' W W' ⟨h1, h2, h3⟩ hm hd
  have := h2.size
  exact ⟨fun k hk => (hd k hk).elim (h1 k) (fun h => by omega), ⟨hm.os.trans h2.os, hm.tape.trans h2.tape, hm.output.trans h2.output, Nat.le_trans h2.size hm.size, fun k hk => (hm.block k (by omega) (fun h => by have := h1 k h; omega)).trans (h2.block k hk)⟩, h3⟩
theorem IdxX.firm {w w4 : World} {q j : Nat} (hw : w.heap.size ≤ w4.heap.size) (hq : q < w4.heap.size) (c : Code) : Firm (IdxX w w4 q j c) := by
  rintro s D D' W W' ⟨h0, h1, h2, h3, h4⟩ hm hd
  have := h2.size
  exact ⟨h0, fun k hk => (hd k hk).elim (h1 k) (fun h => by omega), ⟨hm.os.trans h2.os, hm.tape.trans h2.tape, hm.output.trans h2.output, Nat.le_trans h2.size hm.size, fun k hk => (hm.block k (by omega) (fun h => by have := h1 k h; omega)).trans (h2.block k hk)⟩, Nat.le_trans h3 hm.size, (hm.cell (by omega) (fun h => by have := h1 q h; omega)).trans h4⟩

attribute [local go_sem] Oper.semAt_some
set_option maxRecDepth 100000 in
set_option maxHeartbeats 4000000 in
theorem index_in (n : Nat) {w : World} {b j : Nat} {xs : List Int} (HT : Tin w 95 (ptr b) (nums xs)) (H : In w 95 0 (nums xs) b) (hj : xs[j]? = some 3) (hfirst : ∀ i, i < j → xs[i]? ≠ some 3) (hl : xs.length ≤ 1000000) :
    CallsIn Fence.wide n Try.prog 40 #[.agg #[ptr b], .int .i64 0, fnv 73] w fun e w' => e = .returned (.int .i64 j) ∧ Below w.heap.size w w' := by
  have hjl : j < xs.length := (List.getElem?_eq_some_iff.1 hj).1
  obtain ⟨w4, hw4, hb4, hz4, hA, hU, hC⟩ := three_blocks w (Obj.cells #[ptr b] 27) (Obj.cells #[fnv 73] 75) (Obj.cells #[Value.int .i64 0] 3)
  have c04 : w4.cell? ⟨w.heap.size, 0, none⟩ = some (ptr b) := (cell_at hA 0).trans rfl
  have c14 : w4.cell? ⟨w.heap.size + 1, 0, none⟩ = some (fnv 73) := (cell_at hU 0).trans rfl
  have c24 : w4.cell? ⟨w.heap.size + 2, 0, none⟩ = some (.int .i64 0) := (cell_at hC 0).trans rfl
  have f24 : w4.frozen? ⟨w.heap.size + 2, 0, none⟩ = false := unfrozen hC 0
  have HT4 := HT.below hb4
  obtain ⟨len, hlen⟩ : ∃ len, xs.length = len := ⟨_, rfl⟩
  have HLe := Lib.hid hlen
  have HLq := Lib.hid (len_i (w := w4.drew) (HT4.below (Below.refl _ w4).drew))
  rw [nums_len] at HLq
  rw [hlen] at hl hjl HLq
  have hmix : Try.prog.follows .mixedOrders = true := by kernel_rfl
  clear hA hU hC hlen
  refine callsIn_of_wp_marks Try.func40 rfl trivial ?_ rfl
  simp only [Try.ntmps40, List.size_toArray, List.length_cons, List.length_nil, Nat.reduceAdd, Nat.reduceSub, Array.replicate_succ, Array.replicate_zero, List.push_toArray, List.append_toArray, List.nil_append, List.cons_append]
  have hef := eq_fn w4
  gi_wp2
  clear hw4 hef
  rename_i KK hKK
  have key : ∀ (w5 w6 : World), Below w4.heap.size w4 w5 → Five w5 b len 69 70 w6 → KK { tmps := #[.agg #[ptr b], .int .i64 0, fnv 73, pbox w.heap.size, undef, pbox (w.heap.size + 1), pbox (w.heap.size + 1 + 1), undef, undef, fnv 73, .bool false, .agg #[ptr b], .int .i64 0, .agg #[ptr b], .int .i64 len, .func (.func 90) #[] #[pbox w5.heap.size, pbox (w5.heap.size + 1), pbox (w5.heap.size + 2), pbox (w5.heap.size + 3), pbox (w5.heap.size + 4)], undef, undef, undef, undef, undef, undef], defers := [] } w6 := by
    intro w5 w6 hb5 F5
    have hb46 := hb5.trans (F5.below.mono hb5.size)
    have hbw6 := hb4.trans (hb46.mono hb4.size)
    have hs5 := hb5.size
    have hs6 := F5.size
    have hs4 := hb4.size
    have cj := F5.c2
    rw [← HLe.out] at cj
    refine hKK _ _ ?_
    clear hKK
    gi_wp2
    refine range_outer (gf := 90) (lb := #[pbox w5.heap.size, pbox (w5.heap.size + 1), pbox (w5.heap.size + 2), pbox (w5.heap.size + 3), pbox (w5.heap.size + 4)]) rfl (fun h => by simp [Fence.wide] at h) rfl trivial (enters_of Try.func90 (by kernel_rfl) rfl)
      (thru_iter (n - 1) w.heap.size w5.heap.size (w5.heap.size + 1) (w5.heap.size + 2) (w5.heap.size + 3) (w5.heap.size + 4) (D0 := fun k => w5.heap.size ≤ k ∧ k < w5.heap.size + 5) hbw6 (Nat.le_refl _) hbw6.size (fun k h => by omega) (by omega) (by omega) (by omega) (by omega) (by omega) F5.c0 F5.c1 cj F5.c3 F5.c4 HT H (by rw [HLe.out]; omega) (by rw [HLe.out]; exact hl)) hbw6.size (Below.refl _ _) (fun k h => by omega) (fun _ => rfl)
      (IdxI w4 j) (IdxX w w4 (w.heap.size + 2) j) IdxI.firm (IdxX.firm hs4 (by omega)) ⟨fun k h => by omega, hb46, Nat.zero_le _⟩
      (fun x a' _ _ => a' = { tmps := #[.agg #[ptr b], .int .i64 0, fnv 73, pbox w.heap.size, undef, pbox (w.heap.size + 1), pbox (w.heap.size + 1 + 1), .int .i64 (x.1 : Int), .int .i64 x.2, fnv 73, .bool false, .agg #[ptr b], .int .i64 0, .agg #[ptr b], .int .i64 len, .func (.func 90) #[] #[pbox w5.heap.size, pbox (w5.heap.size + 1), pbox (w5.heap.size + 2), pbox (w5.heap.size + 3), pbox (w5.heap.size + 4)], .int .i64 (x.1 : Int), .int .i64 x.2, undef, undef, undef, undef], defers := [] })
      (fun x a' E V l r o h _ => h) ?assign ?body ?done ?stop
    case assign =>
      intro l' pre x E V K hl' hi hE hK
      simp only [encP]
      gi_wp2
      exact hK _ E _ (fun k h => h) hE (Same.refl _ _) (Below.refl _ _) hi rfl
    case body =>
      rintro lo pre ⟨k, x⟩ a' E V hEl _ hE ⟨m1, m2, m3⟩ rfl hN
      obtain ⟨rfl, hx⟩ := pairs_inv hN
      have c1V := (m2.cell (p := ⟨w.heap.size + 1, 0, none⟩) (show w.heap.size + 1 < w4.heap.size by omega)).trans c14
      have c2V := (m2.cell (p := ⟨w.heap.size + 2, 0, none⟩) (show w.heap.size + 2 < w4.heap.size by omega)).trans c24
      have f2V := (m2.frozen (p := ⟨w.heap.size + 2, 0, none⟩) (show w.heap.size + 2 < w4.heap.size by omega)).trans f24
      have hs := m2.size
      have HI := CallsIn.inRound lo ((callsIn_wide (n := n - 1 - 1 - 1)).2 (is3_i (w := V) x))
      by_cases hx3 : x = 3
      · have hpj : pre.length = j := by
          rcases Nat.lt_or_ge pre.length j with h | h
          · exact absurd (by rw [hx, hx3]) (hfirst _ h)
          · omega
        rw [hx3, decide_eq_true rfl] at HI
        gi_wp2
        refine ⟨trivial, fun h => by simp [Fence.wide] at h, HI.mono ?_⟩
        rintro e V2 ⟨rfl, rfl⟩
        gi_wp2
        refine ⟨fun k hk => heap_set_other (by have := m1 k hk; omega), rfl, m1, (hb4.trans (m2.mono hs4)).setCell (p := ⟨w.heap.size + 2, 0, none⟩) (by show w.heap.size ≤ w.heap.size + 2; omega) _, by rw [World.size_setCell]; exact hs, World.cell?_setCell_same' _ _ _ (by rw [c2V]; rfl)⟩
      · have hpj : pre.length ≠ j := fun h => by rw [h, hj] at hx; injection hx with hx; exact hx3 hx.symm
        rw [decide_eq_false hx3] at HI
        gi_wp2
        refine ⟨trivial, fun h => by simp [Fence.wide] at h, HI.mono ?_⟩
        rintro e V2 ⟨rfl, rfl⟩
        gi_wp2
        exact ⟨Same.refl _ _, Below.refl _ _, m1, m2, by rw [List.length_append, List.length_singleton]; omega⟩
    case done =>
      rintro d ys E W3 hd hEd rfl ⟨m1, m2, m3⟩ hK
      rw [pairs_len, HLe.out] at m3
      omega
    case stop =>
      rintro d c pre E W3 hd hEd hSp ⟨rfl, m1, m2, m3, m4⟩ hK
      gi_wp2
      refine ⟨by simp, .inl ⟨_, _, rfl, run_takeDeferred hK, ?_⟩⟩
      have m4' : (W3.putObj d (.deferred none)).cell? ⟨w.heap.size + 1 + 1, 0, none⟩ = some (.int .i64 j) := cell_kept m4 (grownBy_putObj' W3 d (.deferred none)) (fun r e => by cases e; exact ⟨_, hK, rfl⟩)
      have ms := m2.size
      exact ⟨.int .i64 j, by simp [results, Try.results40, go_sem, m4'], rfl, m2.grown (grownBy_putObj' W3 d _) ms (fun k e => by cases e; omega)⟩
  clear hKK
  have hq4 : w.heap.size < w4.heap.size := by omega
  refine wpIn_mono (Q := Exit.then KK (fun _ _ _ => False)) ?_ (fun e a W h => by cases e <;> first | exact h | exact h.elim)
  gi_region_with_o (first
    | (refine ⟨trivial, (fun h => by simp [Fence.wide] at h), ((callsIn_wide (n := n - 1)).2 HLq.out).mono ?_⟩; clear HLq; rintro e V ⟨rfl, hbV⟩
       have hb4V := (Below.refl _ w4).drew.trans hbV
       have c0V := (hb4V.cell (p := ⟨w.heap.size, 0, none⟩) hq4).trans c04
       have HRg := Lib.hid (range_i (HT4.below hb4V) (by rw [HLe.out]; exact hl))
       rw [HLe.out] at HRg)
    | (refine ⟨trivial, (fun h => by simp [Fence.wide] at h), ((callsIn_wide (n := n - 1)).2 HRg.out).mono ?_⟩; clear HRg; rintro e w6 ⟨w5, hb5, F5, rfl⟩))
  all_goals (exact key _ _ (hb4V.trans (hb5.mono hb4V.size)) F5)

end Go.Proofs.Ytofncnommekbjaa
