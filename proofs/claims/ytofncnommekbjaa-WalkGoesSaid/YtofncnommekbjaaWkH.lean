/-
  All at a tree that is one leaf.
-/
import Derived.Test.YtofncnommekbjaaWkG
namespace Go.Proofs.Ytofncnommekbjaa
open Go Go.RowKit Go.Shelf
set_option linter.unusedVariables false
attribute [local go_sem] Oper.semAt_some

theorem own_block {W W' : World} {B s g n c : Nat} {e : TypeId} {xs : List Value} (h : W.ownsRow B e s (.slice (some ⟨g, 0, none⟩) n c) n xs) (hb : W'.heap[g]? = W.heap[g]?) : W'.ownsRow B e s (.slice (some ⟨g, 0, none⟩) n c) n xs := by
  refine ⟨h.1, ?_⟩
  rcases h.2 with hn | ⟨g', cap, cur, he, h1, h2, rest⟩
  · exact .inl hn
  · have : g' = g := by injection he with he; injection he with he; injection he with he; exact he.symm
    subst this
    exact .inr ⟨g', cap, cur, he, h1, hb.trans h2, rest⟩
/-- What All keeps between two rounds. -/
def AllI (w : World) (g q len : Nat) (pre : List (Nat × Int)) (E : Bls) (W : World) : Prop :=
  (∀ k, E k → q + 1 ≤ k) ∧ Below w.heap.size w W ∧ q + 1 ≤ W.heap.size ∧ W.cell? ⟨q, 0, none⟩ = some (.slice (some ⟨g, 0, none⟩) pre.length len) ∧ W.frozen? ⟨q, 0, none⟩ = false ∧
    W.ownsRow w.heap.size 3 1 (.slice (some ⟨g, 0, none⟩) pre.length len) pre.length (nums (pre.map (·.2)))
theorem AllI.firm {w : World} {g q len : Nat} (hg : w.heap.size ≤ g) (hq : g < q) : Firm (AllI w g q len) := by
  rintro s D D' W W' ⟨h1, h2, h3, h4, h5, h6⟩ hm hd
  have b0 := hm.block g (by omega) (fun h => by have := h1 g h; omega)
  have b1 := hm.block q (by omega) (fun h => by have := h1 q h; omega)
  exact ⟨fun k hk => (hd k hk).elim (h1 k) (fun h => by omega), ⟨hm.os.trans h2.os, hm.tape.trans h2.tape, hm.output.trans h2.output, Nat.le_trans h2.size hm.size, fun k hk => (hm.block k (by have := h2.size; omega) (fun h => by have := h1 k h; omega)).trans (h2.block k hk)⟩, Nat.le_trans h3 hm.size, (hm.cell (by omega) (fun h => by have := h1 q h; omega)).trans h4, (World.frozen?_of_block b1).trans h5, own_block h6 b0⟩
theorem pairs_snd (xs : List Int) : (pairs xs).map (·.2) = xs := by
  apply List.ext_getElem
  · simp [pairs]
  · intro i h1 h2
    simp [pairs, List.getD, h2]

set_option maxRecDepth 100000 in
set_option maxHeartbeats 4000000 in
theorem all_in (n : Nat) {w : World} {b : Nat} {xs : List Int} (HT : Tin w 95 (ptr b) (nums xs)) (H : In w 95 0 (nums xs) b) (hL : 0 < xs.length) (hl : xs.length ≤ 1000000) :
    CallsIn Fence.wide n Try.prog 31 #[.agg #[ptr b]] w fun e w' => ∃ a c, e = .returned (.slice a xs.length c) ∧ Sl w' a c (nums xs) ∧ Below w.heap.size w w' := by
  obtain ⟨i0, hi0, hz0, hz1, hz2⟩ := info_parts info_int
  have hh := World.alloc_heap_new w (Obj.cells #[ptr b] 27)
  have al := t_al w (Obj.cells #[ptr b] 27)
  obtain ⟨w1, hw1⟩ : ∃ w1, w.alloc (Obj.cells #[ptr b] 27) = w1 := ⟨_, rfl⟩
  have hsz : (w.alloc (Obj.cells #[ptr b] 27)).heap.size = w.heap.size + 1 := by simp
  rw [hw1] at hh al hsz
  have c0 : w1.cell? ⟨w.heap.size, 0, none⟩ = some (ptr b) := (cell_at hh 0).trans rfl
  have HL := Lib.hid (len_i (HT.below al))
  rw [nums_len] at HL
  obtain ⟨len, hlen⟩ : ∃ len, xs.length = len := ⟨_, rfl⟩
  have HLe := Lib.hid hlen
  rw [hlen] at hl hL HL
  clear hlen hh
  refine callsIn_of_wp_marks Try.func31 rfl trivial ?_ rfl
  simp only [Try.ntmps31, List.size_toArray, List.length_cons, List.length_nil, Nat.reduceAdd, Nat.reduceSub, Array.replicate_succ, Array.replicate_zero, List.push_toArray, List.append_toArray, List.nil_append, List.cons_append]
  gi_wp2
  refine ⟨trivial, fun h => by simp [Fence.wide] at h, ((callsIn_wide (n := n - 1)).2 HL.out).mono ?_⟩
  rintro e w2 ⟨rfl, hb2⟩
  have c02 := (hb2.cell (p := ⟨w.heap.size, 0, none⟩) (show w.heap.size < w1.heap.size by omega)).trans c0
  have hlt2 := hb2.size
  gi_wp2_with (gi_at_make; refine wpListIn_make_own _ rfl _ _ 22 rfl w.heap.size 3 i0 (.int .i64 0) 1 Try.underlying22 hi0 hz0 hz1 .i64 .i64 _ len rfl rfl rfl (by rw [hz2]; omega) (by unfold maxLen; omega) (by omega) ?_; rintro w3 ho3 hg3)
  obtain ⟨g, hg⟩ : ∃ g, w2.heap.size = g := ⟨_, rfl⟩
  rw [hg] at ho3
  have hgl : g < w3.heap.size := by
    rcases t_form ho3 with ⟨h, _⟩ | ⟨g', h, _, h2, _⟩
    · cases h
    · injection h with h; injection h with h; omega
  have hb13 : Below w1.heap.size w1 w3 := hb2.grown hg3 hb2.size (fun k e => by cases e)
  have hh4 := World.alloc_heap_new w3 (Obj.cells #[.slice (some ⟨g, 0, none⟩) 0 len] 22)
  have al4 := t_al w3 (Obj.cells #[.slice (some ⟨g, 0, none⟩) 0 len] 22)
  obtain ⟨w4, hw4⟩ : ∃ w4, w3.alloc (Obj.cells #[.slice (some ⟨g, 0, none⟩) 0 len] 22) = w4 := ⟨_, rfl⟩
  have hsz4 : (w3.alloc (Obj.cells #[.slice (some ⟨g, 0, none⟩) 0 len] 22)).heap.size = w3.heap.size + 1 := by simp
  have ho4 := ho3.alloc (Obj.cells #[.slice (some ⟨g, 0, none⟩) 0 len] 22)
  rw [hw4] at hh4 al4 hsz4 ho4
  have hb14 := hb13.trans (al4.mono hb13.size)
  have hbw4 : Below w.heap.size w w4 := al.trans (hb14.mono al.size)
  have c04 := (hb14.cell (p := ⟨w.heap.size, 0, none⟩) (show w.heap.size < w1.heap.size by omega)).trans c0
  have cq4 : w4.cell? ⟨w3.heap.size, 0, none⟩ = some (.slice (some ⟨g, 0, none⟩) 0 len) := (cell_at hh4 0).trans rfl
  have fq4 : w4.frozen? ⟨w3.heap.size, 0, none⟩ = false := unfrozen hh4 0
  rw [hg, hw4]
  obtain ⟨q, hq⟩ : ∃ q, w3.heap.size = q := ⟨_, rfl⟩
  rw [hq] at hgl hsz4 cq4 fq4 ⊢
  have hwg : w.heap.size ≤ g := by omega
  have HT4 := HT.below hbw4
  have HLq := Lib.hid (len_i (w := w4.drew) (HT4.below (Below.refl _ w4).drew))
  rw [nums_len, HLe.out] at HLq
  have hmix : Try.prog.follows .mixedOrders = true := by kernel_rfl
  clear hw1 hw4 hh4 al4 ho3 hg3 hb13 hb2 c02 c0 HL hq
  rename_i KK hKK
  have key : ∀ (w5 w6 : World), Below w4.heap.size w4 w5 → Five w5 b len 69 70 w6 → KK { tmps := #[.agg #[ptr b], pbox w.heap.size, .slice none 0 0, pbox q, undef, undef, .agg #[ptr b], .int .i64 len, .slice (some ⟨g, 0, none⟩) 0 len, .agg #[ptr b], .agg #[ptr b], .int .i64 len, .func (.func 90) #[] #[pbox w5.heap.size, pbox (w5.heap.size + 1), pbox (w5.heap.size + 2), pbox (w5.heap.size + 3), pbox (w5.heap.size + 4)], undef, undef, undef, undef, undef, undef, undef], defers := [] } w6 := by
    intro w5 w6 hb5 F5
    have hb46 := hb5.trans (F5.below.mono hb5.size)
    have hbw6 := hbw4.trans (hb46.mono hbw4.size)
    have ho6 := own_block ho4 (hb46.block g (by omega))
    have cq6 := (hb46.cell (p := ⟨q, 0, none⟩) (show q < w4.heap.size by omega)).trans cq4
    have fq6 := (hb46.frozen (p := ⟨q, 0, none⟩) (show q < w4.heap.size by omega)).trans fq4
    have hs5 := hb5.size
    have hs6 := F5.size
    have cj := F5.c2
    rw [← HLe.out] at cj
    refine hKK _ _ ?_
    clear hKK
    gi_wp2
    refine range_outer (gf := 90) (lb := #[pbox w5.heap.size, pbox (w5.heap.size + 1), pbox (w5.heap.size + 2), pbox (w5.heap.size + 3), pbox (w5.heap.size + 4)]) rfl (fun h => by simp [Fence.wide] at h) rfl trivial (enters_of Try.func90 (by kernel_rfl) rfl)
      (thru_iter (n - 1) w.heap.size w5.heap.size (w5.heap.size + 1) (w5.heap.size + 2) (w5.heap.size + 3) (w5.heap.size + 4) (D0 := fun k => w5.heap.size ≤ k ∧ k < w5.heap.size + 5) hbw6 (Nat.le_refl _) hbw6.size (fun k h => by omega) (by omega) (by omega) (by omega) (by omega) (by omega) F5.c0 F5.c1 cj F5.c3 F5.c4 HT H (by rw [HLe.out]; exact hL) (by rw [HLe.out]; exact hl)) hbw6.size (Below.refl _ _) (fun k h => by omega) (fun _ => rfl)
      (AllI w g q len) (fun _ _ _ _ => False) (AllI.firm hwg hgl) (fun _ _ _ _ _ _ h _ _ => h) ⟨fun k h => by omega, hbw6, by omega, cq6, fq6, ho6⟩
      (fun x a' _ _ => a' = { tmps := #[.agg #[ptr b], pbox w.heap.size, .slice none 0 0, pbox q, undef, .int .i64 x.2, .agg #[ptr b], .int .i64 len, .slice (some ⟨g, 0, none⟩) 0 len, .agg #[ptr b], .agg #[ptr b], .int .i64 len, .func (.func 90) #[] #[pbox w5.heap.size, pbox (w5.heap.size + 1), pbox (w5.heap.size + 2), pbox (w5.heap.size + 3), pbox (w5.heap.size + 4)], .int .i64 (x.1 : Int), .int .i64 x.2, undef, undef, undef, undef, undef], defers := [] })
      (fun x a' E V l r o h _ => h) ?assign ?body ?done ?stop
    case assign =>
      intro l' pre x E V K hl' hi hE hK
      simp only [encP]
      gi_wp2
      exact hK _ E _ (fun k h => h) hE (Same.refl _ _) (Below.refl _ _) hi rfl
    case body =>
      rintro lo pre ⟨k, x⟩ a' E V hEl _ hE ⟨m1, m2, m3, m4, m5, m6⟩ rfl hN
      obtain ⟨rfl, hx⟩ := pairs_inv hN
      have hkl : pre.length < len := by rw [← HLe.out]; exact (List.getElem?_eq_some_iff.1 hx).1
      have ms := m2.size
      have hqV : q < V.heap.size := by omega
      have al1 := t_al V (Obj.cells #[.int .i64 x] 3)
      have hqa : q < (V.alloc (Obj.cells #[.int .i64 x] 3)).heap.size := Nat.lt_of_lt_of_le hqV al1.size
      have ma4 := (al1.cell (p := ⟨q, 0, none⟩) hqV).trans m4
      have ma5 := (al1.frozen (p := ⟨q, 0, none⟩) hqV).trans m5
      gi_wp2_with (gi_at_builtin; refine wpListIn_append_fits _ rfl (.tmp 15) (.tmp 17) 22 rfl w.heap.size 3 i0 1 Try.underlying22 hi0 hz1 g pre.length len (nums (pre.map (·.2))) rfl (m6.alloc _) ⟨V.heap.size, 0, none⟩ 1 1 [.int .i64 x] rfl rfl (cell_one_new _ _ _) (by simp [Value.oneCell']) (by omega) ?_; rintro W5 ho5 hg5; have f5 := (hg5.frozen_far ⟨q, 0, none⟩ hqa (fun e => by injection e with e; simp only [] at e; omega)).trans ma5; have c5 := hg5.cell ma4 (fun e => by injection e with e; simp only [] at e; omega))
      have hz5 := hg5.size
      rw [World.size_alloc] at hz5
      have hl' : (pre ++ [(pre.length, x)]).length = pre.length + 1 := by simp
      have hm' : nums ((pre ++ [(pre.length, x)]).map (·.2)) = nums (pre.map (·.2)) ++ [.int .i64 x] := by rw [List.map_append, ← nums_app]; rfl
      have hst : ∀ k, k < V.heap.size → k ≠ g → k ≠ q → (W5.setCell ⟨q, 0, none⟩ (.slice (some ⟨g, 0, none⟩) (pre.length + 1) len)).heap[k]? = V.heap[k]? := fun k h1 h2 h3 =>
        (heap_set_other h3).trans ((hg5.block k (by rw [World.size_alloc]; omega) (fun e => by injection e with e; omega)).trans (al1.block k h1))
      have hB : Below w.heap.size V (W5.setCell ⟨q, 0, none⟩ (.slice (some ⟨g, 0, none⟩) (pre.length + 1) len)) :=
        ((al1.mono ms).grown hg5 (by rw [World.size_alloc]; omega) (fun k e => by cases e; exact hwg)).setCell (p := ⟨q, 0, none⟩) (by show w.heap.size ≤ q; omega) _
      refine ⟨fun k hk => hst k (hE k hk) (by have := m1 k hk; omega) (by have := m1 k hk; omega), hB, m1, m2.trans hB, by rw [World.size_setCell]; omega, ?_, by rw [World.frozen?_setCell]; exact f5, ?_⟩
      · rw [hl']; exact World.cell?_setCell_same' _ _ _ (by rw [c5]; rfl)
      · rw [hl', hm']; exact own_block ho5 (heap_set_other (by omega))
    case done =>
      rintro d ys E W3 hd hEd rfl ⟨m1, m2, m3, m4, m5, m6⟩ hK
      rw [pairs_snd, pairs_len] at m6
      rw [pairs_len, HLe.out] at m4
      rw [HLe.out] at m6
      have HM := Lib.hid m6
      have ms := m2.size
      gi_wp2
      refine ⟨by simp, .inl ⟨_, _, rfl, run_takeDeferred hK, ?_⟩⟩
      refine ⟨_, results_tmp rfl _ _ _, some ⟨g, 0, none⟩, len, by rw [HLe.out]; rfl, Sl.own (B := w.heap.size) (e := 3) (by rw [nums_len, HLe.out]; exact own_block HM.out (World.putObj_heap_other (by omega))) (nums_one _), m2.grown (grownBy_putObj' W3 d _) ms (fun k e => by cases e; omega)⟩
    case stop =>
      rintro d c pre E W3 hd hEd hSp h hK
      exact h.elim
  clear hKK
  have hq4 : w.heap.size < w4.heap.size := by omega
  gi_region_with_o (first
    | (refine ⟨trivial, (fun h => by simp [Fence.wide] at h), ((callsIn_wide (n := n - 1)).2 HLq.out).mono ?_⟩; clear HLq; rintro e V ⟨rfl, hbV⟩
       have hb4V := (Below.refl _ w4).drew.trans hbV
       have c0V := (hb4V.cell (p := ⟨w.heap.size, 0, none⟩) hq4).trans c04
       have HRg := Lib.hid (range_i (HT4.below hb4V) (by rw [HLe.out]; exact hl))
       rw [HLe.out] at HRg)
    | (refine ⟨trivial, (fun h => by simp [Fence.wide] at h), ((callsIn_wide (n := n - 1)).2 HRg.out).mono ?_⟩; clear HRg; rintro e w6 ⟨w5, hb5, F5, rfl⟩))
  all_goals (exact key _ _ (hb4V.trans (hb5.mono hb4V.size)) F5)

end Go.Proofs.Ytofncnommekbjaa
