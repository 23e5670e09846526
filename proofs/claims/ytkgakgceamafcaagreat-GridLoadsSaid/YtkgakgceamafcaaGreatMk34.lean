/-
  Texts of this seat, put together (a claim holds few texts): WgN, WgO, WgP, GeI, GeJ.
-/
import Derived.Test.YtkgakgceamafcaaGreatMk33
import Derived.Lib.MinMax
import Derived.Deep.RegionLaw
import Derived.Deep.Upon
import Derived.Lib.AppendStr
import Derived.Maps.AppendAt

namespace Go.Proofs.YtkgakgceamafcaaGreat
open Go Go.RowKit
set_option linter.unusedVariables false

/-- A number held between 0 and n. -/
def heldN (I : Int) (n : Nat) : Nat := if I ≤ 0 then 0 else if (n : Int) ≤ I then n else I.toNat
theorem heldN_nat {j n : Nat} (h : j ≤ n) : heldN (j : Int) n = j := by unfold heldN; split <;> (try split) <;> omega
theorem heldN_le (I : Int) (n : Nat) : heldN I n ≤ n := by
  unfold heldN
  split
  · omega
  · split
    · omega
    · omega
/-- The five boxes of through. -/
structure Five2 (w : World) (x : Option Addr) (I K : Int) (pk wk : Nat) (W : World) : Prop where
  below : Below w.heap.size w W
  size : w.heap.size + 5 ≤ W.heap.size
  c0 : W.cell? ⟨w.heap.size, 0, none⟩ = some (.pointer x)
  c1 : W.cell? ⟨w.heap.size + 1, 0, none⟩ = some (.int .i64 I)
  c2 : W.cell? ⟨w.heap.size + 2, 0, none⟩ = some (.int .i64 K)
  c3 : W.cell? ⟨w.heap.size + 3, 0, none⟩ = some (fnv pk)
  c4 : W.cell? ⟨w.heap.size + 4, 0, none⟩ = some (fnv wk)
  f1 : W.frozen? ⟨w.heap.size + 1, 0, none⟩ = false
  f2 : W.frozen? ⟨w.heap.size + 2, 0, none⟩ = false
theorem Five2.grow {w W W' : World} {x : Option Addr} {I K : Int} {pk wk : Nat} (h : Five2 w x I K pk wk W) (hb : Below W.heap.size W W') : Five2 w x I K pk wk W' := by
  have hs := h.size
  exact ⟨h.below.trans (hb.mono h.below.size), Nat.le_trans hs hb.size, (hb.cell (p := ⟨w.heap.size, 0, none⟩) (show w.heap.size < W.heap.size by omega)).trans h.c0, (hb.cell (p := ⟨w.heap.size + 1, 0, none⟩) (show w.heap.size + 1 < W.heap.size by omega)).trans h.c1, (hb.cell (p := ⟨w.heap.size + 2, 0, none⟩) (show w.heap.size + 2 < W.heap.size by omega)).trans h.c2, (hb.cell (p := ⟨w.heap.size + 3, 0, none⟩) (show w.heap.size + 3 < W.heap.size by omega)).trans h.c3, (hb.cell (p := ⟨w.heap.size + 4, 0, none⟩) (show w.heap.size + 4 < W.heap.size by omega)).trans h.c4, (hb.frozen (p := ⟨w.heap.size + 1, 0, none⟩) (show w.heap.size + 1 < W.heap.size by omega)).trans h.f1, (hb.frozen (p := ⟨w.heap.size + 2, 0, none⟩) (show w.heap.size + 2 < W.heap.size by omega)).trans h.f2⟩
theorem Five2.seti {w W : World} {x : Option Addr} {I K : Int} {pk wk : Nat} (h : Five2 w x I K pk wk W) (J : Int) : Five2 w x J K pk wk (W.setCell ⟨w.heap.size + 1, 0, none⟩ (.int .i64 J)) := by
  have hs := h.size
  have ne (k : Nat) (hk : k ≠ w.heap.size + 1) : (⟨w.heap.size + 1, 0, none⟩ : Addr) ≠ ⟨k, 0, none⟩ := fun e => by injection e with e1 e2; exact hk e1.symm
  exact ⟨h.below.setCell (p := ⟨w.heap.size + 1, 0, none⟩) (Nat.le_add_right _ _) _, by rw [World.size_setCell]; exact hs, (World.cell?_setCell_other (h := ne _ (by omega)) ..).trans h.c0, World.cell?_setCell_same' _ _ _ (by rw [h.c1]; rfl), (World.cell?_setCell_other (h := ne _ (by omega)) ..).trans h.c2, (World.cell?_setCell_other (h := ne _ (by omega)) ..).trans h.c3, (World.cell?_setCell_other (h := ne _ (by omega)) ..).trans h.c4, by rw [World.frozen?_setCell]; exact h.f1, by rw [World.frozen?_setCell]; exact h.f2⟩
theorem Five2.setk {w W : World} {x : Option Addr} {I K : Int} {pk wk : Nat} (h : Five2 w x I K pk wk W) (J : Int) : Five2 w x I J pk wk (W.setCell ⟨w.heap.size + 2, 0, none⟩ (.int .i64 J)) := by
  have hs := h.size
  have ne (k : Nat) (hk : k ≠ w.heap.size + 2) : (⟨w.heap.size + 2, 0, none⟩ : Addr) ≠ ⟨k, 0, none⟩ := fun e => by injection e with e1 e2; exact hk e1.symm
  exact ⟨h.below.setCell (p := ⟨w.heap.size + 2, 0, none⟩) (Nat.le_add_right _ _) _, by rw [World.size_setCell]; exact hs, (World.cell?_setCell_other (h := ne _ (by omega)) ..).trans h.c0, (World.cell?_setCell_other (h := ne _ (by omega)) ..).trans h.c1, World.cell?_setCell_same' _ _ _ (by rw [h.c2]; rfl), (World.cell?_setCell_other (h := ne _ (by omega)) ..).trans h.c3, (World.cell?_setCell_other (h := ne _ (by omega)) ..).trans h.c4, by rw [World.frozen?_setCell]; exact h.f1, by rw [World.frozen?_setCell]; exact h.f2⟩

theorem clamp_i (I : Int) (n : Nat) : min (max I 0) (n : Int) = (heldN I n : Int) := by
  unfold heldN
  by_cases h1 : I ≤ 0 <;> by_cases h2 : (n : Int) ≤ I <;> simp only [h1, h2, if_true, if_false] <;> omega
theorem clamp_k (K : Int) {p n : Nat} (hp : p ≤ n) : min (max K (p : Int)) (n : Int) = ((max p (heldN K n) : Nat) : Int) := by
  unfold heldN
  by_cases h1 : K ≤ 0 <;> by_cases h2 : (n : Int) ≤ K <;> simp only [h1, h2, if_true, if_false] <;> omega

set_option maxRecDepth 100000 in
set_option maxHeartbeats 2000000 in
theorem thru_call {w : World} {x : Option Addr} {L : List Value} {n p q : Nat} (I K : Int) (HT : Tin w 194 (.pointer x) L) (hn : L.length = n) (hl : n ≤ 1000000) (hp : heldN I n = p) (hq : max p (heldN K n) = q) (pk wk : Nat) :
    Calls Tryz.prog 121 #[.agg #[.pointer x], .int .i64 I, .int .i64 K, fnv pk, fnv wk] w fun e w' => e = .returned (.func (.func 159) #[] #[pbox w.heap.size, pbox (w.heap.size + 1), pbox (w.heap.size + 2), pbox (w.heap.size + 3), pbox (w.heap.size + 4)]) ∧ Five2 w x p q pk wk w' := by
  obtain ⟨hb1, hz1, hh⟩ := allocs_w [Obj.cells #[.pointer x] 25, Obj.cells #[Value.int .i64 I] 3, Obj.cells #[Value.int .i64 K] 3, Obj.cells #[fnv pk] 208, Obj.cells #[fnv wk] 212] w
  simp only [List.foldl_cons, List.foldl_nil] at hb1 hz1 hh
  obtain ⟨w1, hw1⟩ : ∃ w1, ((((w.alloc (Obj.cells #[.pointer x] 25)).alloc (Obj.cells #[Value.int .i64 I] 3)).alloc (Obj.cells #[Value.int .i64 K] 3)).alloc (Obj.cells #[fnv pk] 208)).alloc (Obj.cells #[fnv wk] 212) = w1 := ⟨_, rfl⟩
  rw [hw1] at hb1 hz1 hh
  have c0 : w1.cell? ⟨w.heap.size, 0, none⟩ = some (.pointer x) := (cell_at (hh 0 (by simp)) 0).trans rfl
  have c1 : w1.cell? ⟨w.heap.size + 1, 0, none⟩ = some (.int .i64 I) := (cell_at (hh 1 (by simp)) 0).trans rfl
  have c2 : w1.cell? ⟨w.heap.size + 2, 0, none⟩ = some (.int .i64 K) := (cell_at (hh 2 (by simp)) 0).trans rfl
  have c3 : w1.cell? ⟨w.heap.size + 3, 0, none⟩ = some (fnv pk) := (cell_at (hh 3 (by simp)) 0).trans rfl
  have c4 : w1.cell? ⟨w.heap.size + 4, 0, none⟩ = some (fnv wk) := (cell_at (hh 4 (by simp)) 0).trans rfl
  have HL := Lib.hid (len_i (w := w1.drew) ((HT.below hb1).below (Below.refl _ w1).drew))
  rw [hn] at HL
  have hpn : p ≤ n := by rw [← hp]; exact heldN_le I n
  have hm0 : min (max I 0) (n : Int) = p := by rw [clamp_i, hp]
  have hm1 : min (max K (p : Int)) (n : Int) = q := by rw [clamp_k K hpn, hq]
  have hh1 : w1.heap[w.heap.size + 1]? = some (.cells #[.int .i64 I] 3 (0, 0)) := hh 1 (by simp)
  have hh2 : w1.heap[w.heap.size + 2]? = some (.cells #[.int .i64 K] 3 (0, 0)) := hh 2 (by simp)
  have h5 : Five2 w x I K pk wk w1 := ⟨hb1, Nat.le_of_eq hz1.symm, c0, c1, c2, c3, c4, unfrozen hh1 0, unfrozen hh2 0⟩
  have HT1 := HT.below hb1
  clear hh c0 c1 c2 c3 c4 hh1 hh2 hz1 hb1 hp hq
  go_enter Tryz.func121, Tryz.ntmps121
  have c0 := h5.c0
  have c1 := h5.c1
  have hf1 := h5.f1
  go_wp2_with fail
  rename_i K' hKK
  have key : ∀ W, Five2 w x p K pk wk W → K' { tmps := #[.agg #[.pointer x], .int .i64 I, .int .i64 K, fnv pk, fnv wk, pbox w.heap.size, pbox (w.heap.size + 1), pbox (w.heap.size + 1 + 1), pbox (w.heap.size + 1 + 1 + 1), pbox (w.heap.size + 1 + 1 + 1 + 1), .nilFunc, .int .i64 I, .int .i64 (max I 0), .agg #[.pointer x], .int .i64 n, .int .i64 p, undef, undef, undef, undef, undef, undef, undef], defers := [] } W := by
    intro W F5
    have HTW := HT.below F5.below
    refine hKK _ _ ?_
    clear hKK K' c0 c1 h5 HT1 hw1 hf1
    have c0 := F5.c0
    have c1 := F5.c1
    have c2 := F5.c2
    have HL := Lib.hid (len_i (w := W.drew) (HTW.below (Below.refl _ W).drew))
    rw [hn] at HL
    go_wp2_with fail
    rename_i K' hKK
    have key : ∀ V, Five2 w x p q pk wk V → K' { tmps := #[.agg #[.pointer x], .int .i64 I, .int .i64 K, fnv pk, fnv wk, pbox w.heap.size, pbox (w.heap.size + 1), pbox (w.heap.size + 1 + 1), pbox (w.heap.size + 1 + 1 + 1), pbox (w.heap.size + 1 + 1 + 1 + 1), .nilFunc, .int .i64 I, .int .i64 (max I 0), .agg #[.pointer x], .int .i64 n, .int .i64 p, .int .i64 K, .int .i64 p, .int .i64 (max K p), .agg #[.pointer x], .int .i64 n, .int .i64 q, undef], defers := [] } V := by
      intro V F5
      refine hKK _ _ ?_
      clear hKK
      go_wp2_with fail
      go_ret
      exact ⟨rfl, F5⟩
    clear hKK
    go_region_law (go_simp; go_at_call 54; refine HL.out.mono ?_; rintro e V ⟨rfl, hb2⟩; have G5 := F5.grow ((Below.refl _ W).drew.trans hb2); have c2' := G5.c2; have c1' := G5.c1; have c0' := G5.c0; have zz := G5.f2)
    all_goals (exact key _ (G5.setk _))
  clear hKK
  have HL := Lib.hid (len_i (w := w1.drew) (HT1.below (Below.refl _ w1).drew))
  rw [hn] at HL
  go_region_law (go_simp; go_at_call 54; refine HL.out.mono ?_; rintro e w2 ⟨rfl, hb2⟩; have G5 := h5.grow ((Below.refl _ w1).drew.trans hb2); have c1' := G5.c1; have zz := G5.f1)
  all_goals (exact key _ (G5.seti _))

end Go.Proofs.YtkgakgceamafcaaGreat

namespace Go.Proofs.YtkgakgceamafcaaGreat
open Go Go.RowKit Go.Shelf
set_option linter.unusedVariables false

set_option maxRecDepth 100000 in
set_option maxHeartbeats 2000000 in
theorem range_call {w : World} {x : Option Addr} {L : List Value} {n p q : Nat} (I K : Int) (HT : Tin w 194 (.pointer x) L) (hn : L.length = n) (hl : n ≤ 1000000) (hp : heldN I n = p) (hq : max p (heldN K n) = q) :
    Calls Tryz.prog 63 #[.agg #[.pointer x], .int .i64 I, .int .i64 K] w fun e w' => ∃ w1, Below w.heap.size w w1 ∧ w.heap.size < w1.heap.size ∧ Five2 w1 x p q 122 123 w' ∧ e = .returned (.func (.func 159) #[] #[pbox w1.heap.size, pbox (w1.heap.size + 1), pbox (w1.heap.size + 2), pbox (w1.heap.size + 3), pbox (w1.heap.size + 4)]) := by
  have hh := World.alloc_heap_new w (Obj.cells #[.pointer x] 25)
  have al := t_al w (Obj.cells #[.pointer x] 25)
  have hz : (w.alloc (Obj.cells #[.pointer x] 25)).heap.size = w.heap.size + 1 := by simp
  obtain ⟨w1, hw1⟩ : ∃ w1, w.alloc (Obj.cells #[.pointer x] 25) = w1 := ⟨_, rfl⟩
  rw [hw1] at hh al hz
  have c0 : w1.cell? ⟨w.heap.size, 0, none⟩ = some (.pointer x) := (cell_at hh 0).trans rfl
  have HR := Lib.hid (thru_call I K (HT.below al) hn hl hp hq 122 123)
  have AL := Lib.hid (And.intro al (show w.heap.size < w1.heap.size by omega))
  clear hh al HT hz
  go_enter Tryz.func63, Tryz.ntmps63
  go_wp2_with fail
  refine HR.out.mono ?_; rintro e w2 ⟨rfl, F5⟩
  go_wp2_with fail
  go_ret
  exact ⟨w1, AL.out.1, AL.out.2, F5, rfl⟩

set_option maxRecDepth 100000 in
set_option maxHeartbeats 2000000 in
theorem back_call {w : World} {x : Option Addr} {L : List Value} {n p q : Nat} (I K : Int) (HT : Tin w 194 (.pointer x) L) (hn : L.length = n) (hl : n ≤ 1000000) (hp : heldN I n = p) (hq : max p (heldN K n) = q) :
    Calls Tryz.prog 133 #[.agg #[.pointer x], .int .i64 I, .int .i64 K] w fun e w' => ∃ w1, Below w.heap.size w w1 ∧ w.heap.size < w1.heap.size ∧ Five2 w1 x p q 164 165 w' ∧ e = .returned (.func (.func 159) #[] #[pbox w1.heap.size, pbox (w1.heap.size + 1), pbox (w1.heap.size + 2), pbox (w1.heap.size + 3), pbox (w1.heap.size + 4)]) := by
  have hh := World.alloc_heap_new w (Obj.cells #[.pointer x] 25)
  have al := t_al w (Obj.cells #[.pointer x] 25)
  have hz : (w.alloc (Obj.cells #[.pointer x] 25)).heap.size = w.heap.size + 1 := by simp
  obtain ⟨w1, hw1⟩ : ∃ w1, w.alloc (Obj.cells #[.pointer x] 25) = w1 := ⟨_, rfl⟩
  rw [hw1] at hh al hz
  have c0 : w1.cell? ⟨w.heap.size, 0, none⟩ = some (.pointer x) := (cell_at hh 0).trans rfl
  have HR := Lib.hid (thru_call I K (HT.below al) hn hl hp hq 164 165)
  have AL := Lib.hid (And.intro al (show w.heap.size < w1.heap.size by omega))
  clear hh al HT hz
  go_enter Tryz.func133, Tryz.ntmps133
  go_wp2_with fail
  refine HR.out.mono ?_; rintro e w2 ⟨rfl, F5⟩
  go_wp2_with fail
  go_ret
  exact ⟨w1, AL.out.1, AL.out.2, F5, rfl⟩

theorem filter_all {α : Type} {p : α → Bool} {l : List α} (h : ∀ x ∈ l, p x = true) : l.filter p = l := List.filter_eq_self.2 h
theorem filter_none {α : Type} {p : α → Bool} {l : List α} (h : ∀ x ∈ l, p x = false) : l.filter p = [] := List.filter_eq_nil_iff.2 (fun x hx => by rw [h x hx]; simp)
theorem shift_mem {f : Nat} {xs : List R3} {p : Nat × R3} (h : p ∈ shiftP f (pairs xs)) : f ≤ p.1 ∧ p.1 < f + xs.length := by
  unfold shiftP at h
  obtain ⟨⟨k, x⟩, hq, rfl⟩ := List.mem_map.1 h
  have := pairs_lt hq
  constructor
  · show f ≤ f + k; omega
  · show f + k < f + xs.length; omega
/-- The stretch's pairs. -/
theorem sel_pairs (L : List R3) {p q : Nat} (hpq : p ≤ q) (hq : q ≤ L.length) : (pairs L).filter (inS p q) = shiftP p (pairs ((L.drop p).take (q - p))) := by
  have e : L = L.take p ++ ((L.drop p).take (q - p) ++ (L.drop p).drop (q - p)) := by rw [List.take_append_drop, List.take_append_drop]
  have l1 : (L.take p).length = p := by rw [List.length_take]; omega
  have l2 : ((L.drop p).take (q - p)).length = q - p := by rw [List.length_take, List.length_drop]; omega
  conv => lhs; rw [e]
  rw [pairs_app, pairs_app, List.filter_append, shiftP_app, List.filter_append, shiftP_shift, l1, l2]
  rw [filter_none (l := pairs (L.take p)), filter_all (l := shiftP p (pairs ((L.drop p).take (q - p)))), filter_none (l := shiftP (p + (q - p)) (pairs ((L.drop p).drop (q - p))))]
  · simp
  · intro x hx
    have := shift_mem hx
    unfold inS
    rw [decide_eq_false (show ¬ x.1 < q by omega)]; simp
  · intro x hx
    have := shift_mem hx
    unfold inS
    rw [decide_eq_true (show p ≤ x.1 by omega), decide_eq_true (show x.1 < q by omega)]; rfl
  · intro x hx
    have := shift_mem (f := 0) (by rw [shiftP_zero]; exact hx)
    unfold inS
    rw [decide_eq_false (show ¬ p ≤ x.1 by omega)]; rfl

theorem run_end {w : World} {T : TypeId} : ∀ {ls : List Leaf} {f : Nat} {x : Leaf}, Run w T f ls → x ∈ ls → x.2.1 + x.2.2.length ≤ f + tot ls
  | y :: ls, f, x, ⟨e1, e2, e3, e4⟩, h => by
    rw [tot_cons]
    rcases List.mem_cons.1 h with rfl | h
    · omega
    · have := run_end e4 h; omega
/-- The leaves of a tree's stretch. -/
theorem lv_of {w0 : World} {x : Option Addr} {L : List R3} (d : Bool) {p q : Nat} (HT : Tin w0 194 (.pointer x) (rws L)) (hpq : p ≤ q) (hq : q ≤ L.length) (hl : L.length ≤ 100000) :
    ∃ R1, LvOf w0 d p q x R1 ∧ LvN w0 R1 ∧ R1.flatMap (selL d p q) = dirL d (shiftP p (pairs ((L.drop p).take (q - p)))) := by
  by_cases e : p = q
  · refine ⟨[], .inl ⟨e, rfl⟩, fun x hx => by simp at hx, ?_⟩
    rw [e, Nat.sub_self, List.take_zero]
    exact (dirL_nil d).symm
  · have hT := HT
    rcases HT with ⟨_, h0⟩ | ⟨b, h, t, hx, hin, hok, hL⟩
    · have := congrArg List.length h0
      rw [rws_len, List.length_nil] at this
      omega
    · injection hx with hx
      obtain ⟨en, r1, r2, r3, r4, r5, r6⟩ := node_of h (lo := rlo h) 0 (rlo_pos h) (fun hh => by cases h with | zero => omega | succ h => rw [rlo_succ]; omega) hin hok
      rw [← hL, rws_len] at r3
      rw [← hL] at r5
      have hxe : x = some ⟨en.b, 0, none⟩ := by rw [r1]; exact hx
      refine ⟨remL d p q [en], .inr ⟨en, h, rws L, by omega, hxe, by rw [hxe] at hT; exact hT, r4, r2, by omega, by omega, rfl⟩, fun y hy => ?_, by rw [sel_all r4 r2 r5, sel_pairs L hpq hq]⟩
      have hy' : y ∈ en.ls := by
        have : remL d p q [en] = dirL d (en.ls.filter (inR p q)) ++ [] := rfl
        rw [this, List.append_nil] at hy
        unfold dirL at hy
        cases d
        · exact (List.mem_filter.1 (List.mem_reverse.1 hy)).1
        · exact (List.mem_filter.1 hy).1
      obtain ⟨u1, u2, _⟩ := node_run r4
      obtain ⟨v1, v2⟩ := run_at u1 hy'
      have v3 := run_end u1 hy'
      have hn := rws_sub (l := L) (vs := y.2.2) (fun v hv => by rw [← r5]; exact List.mem_flatMap.2 ⟨y, hy', hv⟩)
      refine ⟨rwsOf y.2.2, hn, by rw [← hn]; exact v1, by rw [rwsOf_len]; exact v2, by rw [rwsOf_len]; omega⟩

/-- What Range hands over. -/
theorem rng_f (n n₀ : Nat) {w0 w1 w : World} {x : Option Addr} {L : List R3} {p q : Nat} {D0 : Bls} (F5 : Five2 w1 x p q 122 123 w) (HT : Tin w0 194 (.pointer x) (rws L)) (hw : Below w0.heap.size w0 w) (hn0 : w0.heap.size ≤ n₀) (hn : n₀ ≤ w.heap.size) (hD0 : Have D0 w)
    (hbx : ∀ k, w1.heap.size ≤ k → k < w1.heap.size + 5 → D0 k ∨ k < n₀) (hpq : p ≤ q) (hq : q ≤ L.length) (hl : L.length ≤ 100000) :
    Iter Fence.wide n Tryz.prog 159 #[pbox w1.heap.size, pbox (w1.heap.size + 1), pbox (w1.heap.size + 2), pbox (w1.heap.size + 3), pbox (w1.heap.size + 4)] encP n₀ (fun ys => ys = shiftP p (pairs ((L.drop p).take (q - p)))) (fun pre => pre <+: shiftP p (pairs ((L.drop p).take (q - p)))) (fun pre y => (shiftP p (pairs ((L.drop p).take (q - p))))[pre.length]? = some y) D0 w := by
  obtain ⟨R1, h1, h2, h3⟩ := lv_of true HT hpq hq hl
  have := thru_fwd n n₀ w1.heap.size (w1.heap.size + 1) (w1.heap.size + 2) (w1.heap.size + 3) (w1.heap.size + 4) hw hn0 hn hD0 (hbx _ (by omega) (by omega)) (hbx _ (by omega) (by omega)) (hbx _ (by omega) (by omega)) (hbx _ (by omega) (by omega)) (hbx _ (by omega) (by omega)) F5.c0 F5.c1 F5.c2 F5.c3 F5.c4 h1 h2 (by omega)
  rw [h3] at this
  exact this
/-- What Back hands over. -/
theorem rng_b (n n₀ : Nat) {w0 w1 w : World} {x : Option Addr} {L : List R3} {p q : Nat} {D0 : Bls} (F5 : Five2 w1 x p q 164 165 w) (HT : Tin w0 194 (.pointer x) (rws L)) (hw : Below w0.heap.size w0 w) (hn0 : w0.heap.size ≤ n₀) (hn : n₀ ≤ w.heap.size) (hD0 : Have D0 w)
    (hbx : ∀ k, w1.heap.size ≤ k → k < w1.heap.size + 5 → D0 k ∨ k < n₀) (hpq : p ≤ q) (hq : q ≤ L.length) (hl : L.length ≤ 100000) :
    Iter Fence.wide n Tryz.prog 159 #[pbox w1.heap.size, pbox (w1.heap.size + 1), pbox (w1.heap.size + 2), pbox (w1.heap.size + 3), pbox (w1.heap.size + 4)] encP n₀ (fun ys => ys = (shiftP p (pairs ((L.drop p).take (q - p)))).reverse) (fun pre => pre <+: (shiftP p (pairs ((L.drop p).take (q - p)))).reverse) (fun pre y => (shiftP p (pairs ((L.drop p).take (q - p)))).reverse[pre.length]? = some y) D0 w := by
  obtain ⟨R1, h1, h2, h3⟩ := lv_of false HT hpq hq hl
  have := thru_bwd n n₀ w1.heap.size (w1.heap.size + 1) (w1.heap.size + 2) (w1.heap.size + 3) (w1.heap.size + 4) hw hn0 hn hD0 (hbx _ (by omega) (by omega)) (hbx _ (by omega) (by omega)) (hbx _ (by omega) (by omega)) (hbx _ (by omega) (by omega)) (hbx _ (by omega) (by omega)) F5.c0 F5.c1 F5.c2 F5.c3 F5.c4 h1 h2 (by omega)
  rw [h3] at this
  exact this

theorem whole_pairs (L : List R3) : shiftP 0 (pairs ((L.drop 0).take (L.length - 0))) = pairs L := by
  rw [shiftP_zero, List.drop_zero, Nat.sub_zero, List.take_length]
/-- What Range over the whole tree hands over. -/
theorem rng_all (n n₀ : Nat) {w0 w1 w : World} {x : Option Addr} {L : List R3} {D0 : Bls} (F5 : Five2 w1 x ((0 : Nat) : Int) L.length 122 123 w) (HT : Tin w0 194 (.pointer x) (rws L)) (hw : Below w0.heap.size w0 w) (hn0 : w0.heap.size ≤ n₀) (hn : n₀ ≤ w.heap.size) (hD0 : Have D0 w)
    (hbx : ∀ k, w1.heap.size ≤ k → k < w1.heap.size + 5 → D0 k ∨ k < n₀) (hl : L.length ≤ 100000) :
    Iter Fence.wide n Tryz.prog 159 #[pbox w1.heap.size, pbox (w1.heap.size + 1), pbox (w1.heap.size + 2), pbox (w1.heap.size + 3), pbox (w1.heap.size + 4)] encP n₀ (fun ys => ys = pairs L) (fun pre => pre <+: pairs L) (fun pre y => (pairs L)[pre.length]? = some y) D0 w := by
  have := rng_f n n₀ (p := 0) (q := L.length) F5 HT hw hn0 hn hD0 hbx (Nat.zero_le _) (Nat.le_refl _) hl
  rw [whole_pairs] at this
  exact this

end Go.Proofs.YtkgakgceamafcaaGreat

namespace Go.Proofs.YtkgakgceamafcaaGreat
open Go Go.RowKit Go.Shelf
set_option linter.unusedVariables false

/-- An iterator's contract, where the rounds' word tells what the iterator reads. -/
def IterQ {α : Type} (Qr : World → Prop) (F : Fence) (n : Nat) (P : Program) (g : Nat) (lb : Array Value) (encs : α → Array Value) (n₀ : Nat) (S Sp : List α → Prop) (N : List α → α → Prop) (D0 : Bls) (w : World) : Prop :=
  ∀ (l : Nat) (J Jx : List α → Bls → World → Prop) (W : World), Below w.heap.size w W → Firm J → Firm Jx → (∀ s D W1, J s D W1 → Qr W1) →
    (∀ pre x D W1, J pre D W1 → Have D W1 → N pre x → YieldAt F (n - 1) P l (encs x) W1 fun e W' => Same D W1 W' ∧
      ((e = .returned (.bool true) ∧ J (pre ++ [x]) D W' ∧ Below n₀ W1 W') ∨ (e = .returned (.bool false) ∧ Jx (pre ++ [x]) D W'))) →
    J [] D0 W →
    CallsIn F n P g (#[.func (.yield l) #[] #[]] ++ lb) W fun e W' => (∃ v, e = .returned v) ∧ ((∃ xs D, S xs ∧ J xs D W') ∨ (∃ pre D, Sp pre ∧ Jx pre D W'))

theorem range_outerQ {α : Type} {F : Fence} {n : Nat} {P : Program} {g : Operand} {ps : Array Tmp} {assign body : Code} {Q : Exit → Act → World → Prop} {a : Act} {w : World}
    (hro : F.round = none) (h1 : F.depth.isSome = true → 1 ≤ n) {gf : Nat} {lb : Array Value} (hg : a.eval g = .func (.func gf) #[] lb) (hFg : F.fn gf) (eg : ∀ args w, (callFunc gf args).run P w = .ok (.enter gf args) w)
    {encs : α → Array Value} {n₀ : Nat} {S Sp : List α → Prop} {N : List α → α → Prop} {D0 : Bls} {w0 : World} {Qr : World → Prop} (hseq : IterQ Qr F (n - 1) P gf lb encs n₀ S Sp N D0 w0) (hn : n₀ ≤ w.heap.size) (hb0 : Below w0.heap.size w0 w) (hD0 : Have D0 w) (hps : ∀ x, (encs x).size = ps.size)
    (I : List α → Bls → World → Prop) (Ix : Code → List α → Bls → World → Prop) (hI : Firm I) (hIx : ∀ c, Firm (Ix c)) (hQ : ∀ s E W, I s E W → Qr W) (h0 : I [] D0 w) (Ax : α → Act → Bls → World → Prop)
    (hAx : ∀ x a' E V l r o, Ax x a' E V → V.heap[l]? = some (.loop r) → Ax x a' E (V.putObj l o))
    (hassign : ∀ (l : Nat) (pre : List α) (x : α) (E : Bls) (W : World) (K : Act → World → Prop), w.heap.size ≤ l → I pre E W → Have E W → (∀ a' E' W', (∀ k, E k → E' k) → Have E' W' → Same E W W' → Below n₀ W W' → I pre E' W' → Ax x a' E' W' → K a' W') →
      assign.wpIn (F.inRound l) (n - 1 - 1) P (Exit.then K (fun _ _ _ => False)) { tmps := (ps.zip (encs x)).foldl (fun t (p, v) => t.setIfInBounds p v) a.tmps, defers := [] } W)
    (hbody : ∀ (l : Nat) (pre : List α) (x : α) (a' : Act) (E : Bls) (W : World), E l → (∃ r, W.heap[l]? = some (.loop r)) → Have E W → I pre E W → Ax x a' E W → N pre x → body.wpIn (F.inRound l) (n - 1 - 1) P (roundPost n₀ E I Ix (pre ++ [x]) W) a' W)
    (hdone : ∀ (d : Nat) (xs : List α) (E : Bls) (W : World), w.heap.size ≤ d → E d → S xs → I xs E W → W.heap[d]? = some (.deferred (some [])) → Q .normal { a with defers := { target := .collected d, args := #[] } :: a.defers } W)
    (hstop : ∀ (d : Nat) (c : Code) (pre : List α) (E : Bls) (W : World), w.heap.size ≤ d → E d → Sp pre → Ix c pre E W → W.heap[d]? = some (.deferred (some [])) → c.wpIn F n P Q { a with defers := { target := .collected d, args := #[] } :: a.defers } W) :
    (Code.rangeFunc g ps assign body).wpIn F n P Q a w := by
  refine wpIn_rangeFunc fun fn hfn => ?_
  rw [hro]
  obtain ⟨rec, hrec⟩ : ∃ rec : LoopState → Option Code → Loop, rec = fun st pe => { state := st, pending := pe, fn, tmps := a.tmps, params := ps, assign, body, defers := w.heap.size } := ⟨_, rfl⟩
  have hnew1 := World.alloc_heap_new w (.deferred (some []))
  have hnew2 := World.alloc_heap_new (w.alloc (.deferred (some []))) (.loop (rec .ready none))
  have hol := (t_al (w.alloc (.deferred (some []))) (.loop (rec .ready none))).block w.heap.size (by simp)
  have hsz : ((w.alloc (.deferred (some []))).alloc (.loop (rec .ready none))).heap.size = w.heap.size + 2 := by simp
  have hen := run_enterLoop_outer (P := P) (w := w) fn a.tmps ps assign body
  have hrd : (.loop { state := .ready, pending := none, fn, tmps := a.tmps, params := ps, assign, body, defers := w.heap.size } : Obj) = .loop (rec .ready none) := by rw [hrec]
  rw [hrd] at hen
  have hbw : Below w.heap.size w ((w.alloc (.deferred (some []))).alloc (.loop (rec .ready none))) := (t_al w _).trans ((t_al _ _).mono (by simp))
  generalize (w.alloc (.deferred (some []))).alloc (.loop (rec .ready none)) = V at *
  rw [World.size_alloc] at hnew2
  have hD : V.heap[w.heap.size]? = some (.deferred (some [])) := hol.trans hnew1
  obtain ⟨L, hL⟩ : ∃ L : Bls, L = fun k => k = w.heap.size ∨ k = w.heap.size + 1 := ⟨_, rfl⟩
  have L0 : L w.heap.size := by rw [hL]; exact .inl rfl
  have L1 : L (w.heap.size + 1) := by rw [hL]; exact .inr rfl
  have Lx : ∀ k, L k → k = w.heap.size ∨ k = w.heap.size + 1 := fun k hk => by rw [hL] at hk; exact hk
  clear hL hol hnew1 hrd
  have hI1 : I [] (fun k => D0 k ∨ L k) V := hI _ _ _ _ _ h0 (Moves.below hbw) (fun k hk => hk.elim .inl (fun h => .inr (by rcases Lx k h with h | h <;> omega)))
  refine ⟨w.heap.size + 1, _, V, { target := .fn (.func gf) lb, args := #[.func (.yield (w.heap.size + 1)) #[] #[]] }, V, gf, #[.func (.yield (w.heap.size + 1)) #[] #[]] ++ lb, V, hen, by simp only [resolve, hg]; simp [go_sem], ?_, by simp [invoke, go_sem, eg], h1, ?_⟩
  · intro f' hf'; simp [Target.leads] at hf'; subst hf'; exact hFg
  have firm {β : Type} {Y : β → Bls → World → Prop} (hY : Firm Y) (st : LoopState) (pe : Option Code) : Firm (fun (pre : β) (D : Bls) (W : World) => Y pre (fun k => D k ∨ L k) W ∧ W.heap[w.heap.size + 1]? = some (.loop (rec st pe)) ∧ W.heap[w.heap.size]? = some (.deferred (some [])) ∧ (∀ k, L k → ¬ D k)) := by
    rintro s D D' A A' ⟨h1, h2, h3, h4⟩ hm hd
    refine ⟨hY _ _ _ _ _ h1 (hm.mono fun _ h => .inl h) (fun k hk => hk.elim (fun h => (hd k h).elim (fun h => .inl (.inl h)) .inr) (fun h => .inl (.inr h))), (hm.block _ (lt_of_at h2) (h4 _ L1)).trans h2, (hm.block _ (lt_of_at h3) (h4 _ L0)).trans h3, fun k hk hD' => ?_⟩
    rcases hd k hD' with h | h
    · exact h4 k hk h
    · have i1 := lt_of_at h2
      have i2 := lt_of_at h3
      rcases Lx k hk with e | e <;> omega
  refine (hseq (w.heap.size + 1)
    (fun pre D W => I pre (fun k => D k ∨ L k) W ∧ W.heap[w.heap.size + 1]? = some (.loop (rec .ready none)) ∧ W.heap[w.heap.size]? = some (.deferred (some [])) ∧ (∀ k, L k → ¬ D k))
    (fun pre D W => ∃ c, Ix c pre (fun k => D k ∨ L k) W ∧ W.heap[w.heap.size + 1]? = some (.loop (rec .done (some c))) ∧ W.heap[w.heap.size]? = some (.deferred (some [])) ∧ (∀ k, L k → ¬ D k))
    V (hb0.trans (hbw.mono hb0.size)) (firm hI _ _)
    (fun s D D' A A' ⟨c, hs⟩ hm hd => ⟨c, firm (hIx c) _ _ s D D' A A' hs hm hd⟩) (fun s D W h => hQ s _ W h.1) ?_ ⟨hI1, hnew2, hD, fun k hk hd => by have := hD0 k hd; rcases Lx k hk with e | e <;> omega⟩).mono ?_
  · rintro pre x D W ⟨hi, hl, hk, hLD⟩ hbd hN
    refine (round_of hrec hfn hps (by omega) hl (D := fun k => D k ∨ L k) (.inr L1) (fun k h => h.elim (hbd k) (fun h => by rcases Lx k h with e | e; rw [e]; exact lt_of_at hk; rw [e]; exact lt_of_at hl)) I Ix hI hIx Ax (fun x a' E V r o => hAx x a' E V _ r o) (fun pre x E W K => hassign _ pre x E W K (by omega)) (fun pre x a' E W => hbody _ pre x a' E W) pre x hi hN).mono ?_
    rintro e W' ⟨hs, (⟨rfl, h2, h3, h4⟩ | ⟨rfl, c, h2, h3⟩)⟩
    · exact ⟨fun k hkD => hs k (.inl hkD) (fun e => hLD _ L1 (by rw [e] at hkD; exact hkD)), .inl ⟨rfl, ⟨h2, h3, (hs _ (.inr L0) (by omega)).trans hk, hLD⟩, h4⟩⟩
    · exact ⟨fun k hkD => hs k (.inl hkD) (fun e => hLD _ L1 (by rw [e] at hkD; exact hkD)), .inr ⟨rfl, c, h2, h3, (hs _ (.inr L0) (by omega)).trans hk, hLD⟩⟩
  · rintro e W2 ⟨⟨v, rfl⟩, (⟨xs, D, hS, hi, hl, hk, _⟩ | ⟨pre, D, hSp, c, hi, hl, hk, _⟩)⟩
    · have he := run_endLoop (P := P) hl (by rw [hrec]; simp)
      rw [hrec] at he
      exact ⟨none, _, he, hdone _ xs _ _ (Nat.le_refl _) (.inr L0) hS (hI.go hi (Moves.put _ (.inr L1))) ((World.putObj_heap_other (by omega)).trans hk)⟩
    · have he := run_endLoop (P := P) hl (by rw [hrec]; simp)
      rw [hrec] at he
      exact ⟨some c, _, he, hstop _ c pre _ _ (Nat.le_refl _) (.inr L0) hSp ((hIx c).go hi (Moves.put _ (.inr L1))) ((World.putObj_heap_other (by omega)).trans hk)⟩


end Go.Proofs.YtkgakgceamafcaaGreat

namespace Go.Proofs.YtkgakgceamafcaaGreat
open Go Go.RowKit Go.Shelf
set_option linter.unusedVariables false

set_option maxRecDepth 100000 in
set_option maxHeartbeats 2000000 in
theorem each_of {w : World} {x : Option Addr} {L : List Value} {n : Nat} (tl : Bool) (en : Int) (HT : Tin w 194 (.pointer x) L) (hn : L.length = n) (hl : n ≤ 1000000) :
    Calls Tryz.prog 55 #[.agg #[.pointer x, .bool tl, .int .i64 en]] w fun e w' => ∃ w1, Below w.heap.size w w1 ∧ w.heap.size < w1.heap.size ∧ Five2 w1 x 0 n 122 123 w' ∧ e = .returned (.func (.func 159) #[] #[pbox w1.heap.size, pbox (w1.heap.size + 1), pbox (w1.heap.size + 2), pbox (w1.heap.size + 3), pbox (w1.heap.size + 4)]) := by
  have hh := heap_alloc_new w (Obj.cells #[.pointer x, .bool tl, .int .i64 en] 27)
  have al := t_al w (Obj.cells #[.pointer x, .bool tl, .int .i64 en] 27)
  obtain ⟨w1, hw1⟩ : ∃ w1, w.alloc (Obj.cells #[.pointer x, .bool tl, .int .i64 en] 27) = w1 := ⟨_, rfl⟩
  have hz : w.heap.size < w1.heap.size := by rw [← hw1, World.size_alloc]; omega
  rw [hw1] at hh al
  have c0 : w1.cell? ⟨w.heap.size, 0, none⟩ = some (.pointer x) := (cell_at hh 0).trans rfl
  have c1 : w1.cell? ⟨w.heap.size, 1, none⟩ = some (.bool tl) := (cell_at hh 1).trans rfl
  have c2 : w1.cell? ⟨w.heap.size, 2, none⟩ = some (.int .i64 en) := (cell_at hh 2).trans rfl
  have HW := Lib.hid hw1
  have AL := Lib.hid al
  have hd : Below w1.heap.size w1 w1.drew := (Below.refl _ _).drew
  have hbd := al.trans (hd.mono al.size)
  have k0 : w1.drew.cell? ⟨w.heap.size, 0, none⟩ = some (.pointer x) := c0
  have k1 : w1.drew.cell? ⟨w.heap.size, 1, none⟩ = some (.bool tl) := c1
  have k2 : w1.drew.cell? ⟨w.heap.size, 2, none⟩ = some (.int .i64 en) := c2
  have HLn := Lib.hid (gln_of (n := n) tl en (HT.below hbd) hn)
  have HTd := Lib.hid (HT.below hbd)
  have HBD := Lib.hid hbd
  have hzd : w.heap.size < w1.drew.heap.size := hz
  have HNn := Lib.hid hn
  clear hh al hw1 HT hd hbd hn
  go_enter Tryz.func55, Tryz.ntmps55
  go_upto_region 1 with fail
  rw [HW.out]
  go_region_held (fun w' => w'.cell? ⟨w.heap.size, 0, none⟩ = some (.pointer x) ∧ w'.cell? ⟨w.heap.size, 1, none⟩ = some (.bool tl) ∧ w'.cell? ⟨w.heap.size, 2, none⟩ = some (.int .i64 en)) (first | assumption | (refine ⟨?_, ?_, ?_⟩ <;> assumption) | go_keep) ((first
    | (go_at_call 15; refine HLn.out.mono ?_; rintro e w3 ⟨rfl, hb3⟩; have c03 := (hb3.cell (p := ⟨w.heap.size, 0, none⟩) hzd).trans k0; have c13 := (hb3.cell (p := ⟨w.heap.size, 1, none⟩) hzd).trans k1; have c23 := (hb3.cell (p := ⟨w.heap.size, 2, none⟩) hzd).trans k2; have HB3 := Lib.hid (HBD.out.trans (hb3.mono HBD.out.size)); have hz3 : w.heap.size < w3.heap.size := Nat.lt_of_lt_of_le hzd hb3.size; have HRg := Lib.hid (range_call (p := 0) (q := n) 0 (n : Int) (HTd.out.below hb3) HNn.out hl (by unfold heldN; simp) (by unfold heldN; split <;> (try split) <;> omega)); clear hb3)
    | (go_at_call 63; refine HRg.out.mono ?_; rintro e w4 ⟨w5, h1, h2, h3, rfl⟩; have c04 : w4.cell? ⟨w.heap.size, 0, none⟩ = some (.pointer x) := ((h1.trans (h3.below.mono h1.size)).cell (p := ⟨w.heap.size, 0, none⟩) hz3).trans c03; have c14 : w4.cell? ⟨w.heap.size, 1, none⟩ = some (.bool tl) := ((h1.trans (h3.below.mono h1.size)).cell (p := ⟨w.heap.size, 1, none⟩) hz3).trans c13; have c24 : w4.cell? ⟨w.heap.size, 2, none⟩ = some (.int .i64 en) := ((h1.trans (h3.below.mono h1.size)).cell (p := ⟨w.heap.size, 2, none⟩) hz3).trans c23; have HX := Lib.hid (And.intro h1 (And.intro h2 h3)); clear h1 h2 h3)))
  all_goals
    go_wp2_with fail
    go_ret
    exact ⟨w5, HB3.out.trans (HX.out.1.mono HB3.out.size), by have := HX.out.2.1; omega, HX.out.2.2, rfl⟩
end Go.Proofs.YtkgakgceamafcaaGreat

namespace Go.Proofs.YtkgakgceamafcaaGreat
open Go Go.RowKit Go.Shelf
set_option linter.unusedVariables false

theorem own_cap {W : World} {B K c : Nat} {a : Option Addr} {xs : List Value} {e : TypeId} (ho : W.ownsRow B e 1 (.slice a K c) K xs) : K ≤ c := by
  rcases ho.2 with ⟨h, _⟩ | ⟨g, cap, cur, h, _, _, r1, _⟩
  · injection h with _ h1 h2; omega
  · injection h with _ _ h2; omega
theorem grown_refl (W : World) (r : Option Nat) : W.grownBy W r := ⟨rfl, rfl, rfl, Nat.le_refl _, fun _ _ _ => rfl⟩
theorem slice_shape {w : World} {B n : Nat} {e : TypeId} {v : Value} {xs : List Value} (h : w.ownsRow B e 1 v n xs) : ∃ a c, v = .slice a n c := by
  rcases h.2 with ⟨h1, h0⟩ | ⟨g, cap, cur, h1, _⟩
  · exact ⟨none, 0, by rw [h1, h0]⟩
  · exact ⟨_, _, h1⟩

theorem bapp {W : World} {B B2 K c K2 c2 : Nat} {a a2 : Option Addr} {l s : List UInt8} (ho : W.ownsRow B 5 1 (.slice a K c) K (bc l)) (hs : W.ownsRow B2 5 1 (.slice a2 K2 c2) K2 (bc s)) (hB : B ≤ W.heap.size) (hK : K + K2 ≤ 100000000) :
    ∃ a' c' W1, (Builtin.append_ #[32, 32] 32 #[.slice a K c, .slice a2 K2 c2]).run Tryz.prog W = .ok (.slice a' (K + K2) c') W1 ∧ W1.ownsRow B 5 1 (.slice a' (K + K2) c') (K + K2) (bc (l ++ s)) ∧ W.grownBy W1 (Value.slice a K c).ownBlock ∧
      ((Value.slice a' (K + K2) c').ownBlock = (Value.slice a K c).ownBlock ∨ (Value.slice a' (K + K2) c').ownBlock = some W.heap.size) := by
  obtain ⟨i0, hi0, hz0, hz1, hz2⟩ := info_parts info_u8
  rcases hs.2 with ⟨h1, h0⟩ | ⟨g, cap, cur, h1, hBg, hg, r1, r2, r3, r4⟩
  · injection h1 with e1 e2 e3
    subst e1 e2 e3
    have hnil : s = [] := by
      have := hs.1
      rw [bc_len, Nat.zero_mul] at this
      exact List.length_eq_zero_iff.1 this
    subst hnil
    refine ⟨a, c, W, ?_, by rw [List.append_nil]; exact ho, grown_refl _ _, .inl rfl⟩
    have := run_append_nothing (P := Tryz.prog) W 32 32 32 5 i0 Tryz.underlying32 hi0 a K c (own_cap ho) (.slice none 0 0) (Src.ofNil W Tryz.underlying32 0)
    simpa using this
  · injection h1 with e1 e2 e3
    subst e1 e3
    obtain ⟨v', w', hr, g1, g2, _, g4⟩ := run_append_own_at (P := Tryz.prog) W B 32 32 5 i0 (.int .u8 0) 1 1 Tryz.underlying32 hi0 hz0 hz1 hz2 rfl (by decide) (.slice a K c) K (bc l) ho ⟨g, 0, none⟩ K2 c2 (bc s) hs.1 (hs.cells (g := g) rfl) (bc_one s) (by unfold maxLen; omega) (by omega) hB
    obtain ⟨a', c', rfl⟩ := slice_shape g1
    exact ⟨a', c', w', hr, by rw [bc_append]; exact g1, g2, g4⟩

theorem sapp {W : World} {B K c : Nat} {a : Option Addr} {l s : List UInt8} (ho : W.ownsRow B 5 1 (.slice a K c) K (bc l)) (hB : B ≤ W.heap.size) {K2 : Nat} (hn : s.length = K2) (hK : K + K2 ≤ 100000000) :
    ∃ a' c' W1, (Builtin.append_ #[32, 9] 32 #[.slice a K c, .string (strOf s)]).run Tryz.prog W = .ok (.slice a' (K + K2) c') W1 ∧ W1.ownsRow B 5 1 (.slice a' (K + K2) c') (K + K2) (bc (l ++ s)) ∧ W.grownBy W1 (Value.slice a K c).ownBlock ∧
      ((Value.slice a' (K + K2) c').ownBlock = (Value.slice a K c).ownBlock ∨ (Value.slice a' (K + K2) c').ownBlock = some W.heap.size) := by
  obtain ⟨i0, hi0, hz0, hz1, hz2⟩ := info_parts info_u8
  have hsz : (strOf s).size = K2 := by rw [strOf_size]; exact hn
  have hcells : Lib.strCells (strOf s) = bc s := rfl
  obtain ⟨v', w', hr, g1, g2, g3⟩ := Lib.run_append_own_string (P := Tryz.prog) W B 32 9 32 5 i0 Tryz.underlying32 Tryz.underlying9 hi0 hz0 hz1 hz2 (.slice a K c) K (bc l) ho (strOf s) (by rw [hsz]; unfold maxLen; omega) (by rw [hsz]; omega) hB
  rw [hsz] at g1
  obtain ⟨a', c', rfl⟩ := slice_shape g1
  refine ⟨a', c', w', hr, by rw [bc_append]; rw [hcells] at g1; exact g1, g2, ?_⟩
  rcases ho.2 with ⟨h1, h0⟩ | ⟨g, cap, cur, h1, hBg, hg, r1, r2, r3, r4⟩
  · injection h1 with e1 e2 e3
    subst e1 e2 e3
    rcases Nat.eq_zero_or_pos K2 with hk | hk
    · have := g3.2 ⟨rfl, by omega⟩
      left; rw [this]
    · have hr2 := run_append_nil_string (P := Tryz.prog) W 32 9 32 5 i0 (.int .u8 0) Tryz.underlying32 Tryz.underlying9 hi0 hz0 (strOf s) (by omega) (by omega) (by rw [hz2]; omega)
      rw [hr] at hr2
      injection hr2 with e1 _
      right; rw [e1]; rfl
  · injection h1 with e1 e2 e3
    subst e1 e3
    by_cases hroom : K + K2 ≤ c
    · have hr2 := Lib.run_append_room_string (P := Tryz.prog) W 32 9 32 5 i0 Tryz.underlying32 Tryz.underlying9 hi0 hz1 g K c cur hg (strOf s) (by omega) (by omega)
      rw [hr] at hr2
      injection hr2 with e1 _
      left; rw [e1]; rfl
    · have hr2 := Lib.run_append_grow_string (P := Tryz.prog) W 32 9 32 5 i0 (.int .u8 0) Tryz.underlying32 Tryz.underlying9 hi0 hz0 ⟨g, 0, none⟩ K c (bc l) (by rw [hz1]; exact ho.1) (ho.cells (g := g) rfl) (strOf s) (by omega) (by omega) (by rw [hz2]; exact growslice_fits (by omega) (by rw [Nat.mul_one]; omega))
      rw [hr] at hr2
      injection hr2 with e1 _
      right; rw [e1]; rfl

end Go.Proofs.YtkgakgceamafcaaGreat
