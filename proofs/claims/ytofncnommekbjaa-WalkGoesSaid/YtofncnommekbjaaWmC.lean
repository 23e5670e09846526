/-
  Texts of layer 8, put together (a claim holds few texts): WlJ, WlK, WlL.
-/
import Derived.Test.YtofncnommekbjaaWmB
import Derived.Test.YtofncnommekbjaaWkK
import Derived.Lib.MinMax
import Derived.Deep.RegionLaw
import Derived.Test.YtofncnommekbjaaWkH
import Derived.Test.YtofncnommekbjaaTrV
namespace Go.Proofs.Ytofncnommekbjaa
open Go Go.RowKit Go.Shelf
set_option linter.unusedVariables false

/-- The five boxes of through. -/
structure Five2 (w : World) (x : Option Addr) (I K : Int) (pk wk : Nat) (W : World) : Prop where
  below : Below w.heap.size w W
  size : w.heap.size + 5 ≤ W.heap.size
  c0 : W.cell? ⟨w.heap.size, 0, none⟩ = some (.pointer x)
  c1 : W.cell? ⟨w.heap.size + 1, 0, none⟩ = some (.int .i64 I)
  c2 : W.cell? ⟨w.heap.size + 2, 0, none⟩ = some (.int .i64 K)
  c3 : W.cell? ⟨w.heap.size + 3, 0, none⟩ = some (fnv pk)
  c4 : W.cell? ⟨w.heap.size + 4, 0, none⟩ = some (fnv wk)
  f1 : W.frozen? ⟨w.heap.size + 1, 0, none⟩ = false
  f2 : W.frozen? ⟨w.heap.size + 2, 0, none⟩ = false
theorem Five2.grow {w W W' : World} {x : Option Addr} {I K : Int} {pk wk : Nat} (h : Five2 w x I K pk wk W) (hb : Below W.heap.size W W') : Five2 w x I K pk wk W' := by
  have hs := h.size
  exact ⟨h.below.trans (hb.mono h.below.size), Nat.le_trans hs hb.size, (hb.cell (p := ⟨w.heap.size, 0, none⟩) (show w.heap.size < W.heap.size by omega)).trans h.c0, (hb.cell (p := ⟨w.heap.size + 1, 0, none⟩) (show w.heap.size + 1 < W.heap.size by omega)).trans h.c1, (hb.cell (p := ⟨w.heap.size + 2, 0, none⟩) (show w.heap.size + 2 < W.heap.size by omega)).trans h.c2, (hb.cell (p := ⟨w.heap.size + 3, 0, none⟩) (show w.heap.size + 3 < W.heap.size by omega)).trans h.c3, (hb.cell (p := ⟨w.heap.size + 4, 0, none⟩) (show w.heap.size + 4 < W.heap.size by omega)).trans h.c4, (hb.frozen (p := ⟨w.heap.size + 1, 0, none⟩) (show w.heap.size + 1 < W.heap.size by omega)).trans h.f1, (hb.frozen (p := ⟨w.heap.size + 2, 0, none⟩) (show w.heap.size + 2 < W.heap.size by omega)).trans h.f2⟩
theorem Five2.seti {w W : World} {x : Option Addr} {I K : Int} {pk wk : Nat} (h : Five2 w x I K pk wk W) (J : Int) : Five2 w x J K pk wk (W.setCell ⟨w.heap.size + 1, 0, none⟩ (.int .i64 J)) := by
  have hs := h.size
  have ne (k : Nat) (hk : k ≠ w.heap.size + 1) : (⟨w.heap.size + 1, 0, none⟩ : Addr) ≠ ⟨k, 0, none⟩ := fun e => by injection e with e1 e2; exact hk e1.symm
  exact ⟨h.below.setCell (p := ⟨w.heap.size + 1, 0, none⟩) (Nat.le_add_right _ _) _, by rw [World.size_setCell]; exact hs, (World.cell?_setCell_other (h := ne _ (by omega)) ..).trans h.c0, World.cell?_setCell_same' _ _ _ (by rw [h.c1]; rfl), (World.cell?_setCell_other (h := ne _ (by omega)) ..).trans h.c2, (World.cell?_setCell_other (h := ne _ (by omega)) ..).trans h.c3, (World.cell?_setCell_other (h := ne _ (by omega)) ..).trans h.c4, by rw [World.frozen?_setCell]; exact h.f1, by rw [World.frozen?_setCell]; exact h.f2⟩
theorem Five2.setk {w W : World} {x : Option Addr} {I K : Int} {pk wk : Nat} (h : Five2 w x I K pk wk W) (J : Int) : Five2 w x I J pk wk (W.setCell ⟨w.heap.size + 2, 0, none⟩ (.int .i64 J)) := by
  have hs := h.size
  have ne (k : Nat) (hk : k ≠ w.heap.size + 2) : (⟨w.heap.size + 2, 0, none⟩ : Addr) ≠ ⟨k, 0, none⟩ := fun e => by injection e with e1 e2; exact hk e1.symm
  exact ⟨h.below.setCell (p := ⟨w.heap.size + 2, 0, none⟩) (Nat.le_add_right _ _) _, by rw [World.size_setCell]; exact hs, (World.cell?_setCell_other (h := ne _ (by omega)) ..).trans h.c0, (World.cell?_setCell_other (h := ne _ (by omega)) ..).trans h.c1, World.cell?_setCell_same' _ _ _ (by rw [h.c2]; rfl), (World.cell?_setCell_other (h := ne _ (by omega)) ..).trans h.c3, (World.cell?_setCell_other (h := ne _ (by omega)) ..).trans h.c4, by rw [World.frozen?_setCell]; exact h.f1, by rw [World.frozen?_setCell]; exact h.f2⟩

theorem clamp_i (I : Int) (n : Nat) : min (max I 0) (n : Int) = (heldN I n : Int) := by
  unfold heldN
  by_cases h1 : I ≤ 0 <;> by_cases h2 : (n : Int) ≤ I <;> simp only [h1, h2, if_true, if_false] <;> omega
theorem clamp_k (K : Int) {p n : Nat} (hp : p ≤ n) : min (max K (p : Int)) (n : Int) = ((max p (heldN K n) : Nat) : Int) := by
  unfold heldN
  by_cases h1 : K ≤ 0 <;> by_cases h2 : (n : Int) ≤ K <;> simp only [h1, h2, if_true, if_false] <;> omega

set_option maxRecDepth 100000 in
set_option maxHeartbeats 2000000 in
theorem thru_call {w : World} {x : Option Addr} {L : List Value} {n p q : Nat} (I K : Int) (HT : Tin w 95 (.pointer x) L) (hn : L.length = n) (hl : n ≤ 1000000) (hp : heldN I n = p) (hq : max p (heldN K n) = q) (pk wk : Nat) :
    Calls Try.prog 68 #[.agg #[.pointer x], .int .i64 I, .int .i64 K, fnv pk, fnv wk] w fun e w' => e = .returned (.func (.func 90) #[] #[pbox w.heap.size, pbox (w.heap.size + 1), pbox (w.heap.size + 2), pbox (w.heap.size + 3), pbox (w.heap.size + 4)]) ∧ Five2 w x p q pk wk w' := by
  obtain ⟨hb1, hz1, hh⟩ := allocs [Obj.cells #[.pointer x] 27, Obj.cells #[Value.int .i64 I] 3, Obj.cells #[Value.int .i64 K] 3, Obj.cells #[fnv pk] 107, Obj.cells #[fnv wk] 111] w
  simp only [List.foldl_cons, List.foldl_nil] at hb1 hz1 hh
  obtain ⟨w1, hw1⟩ : ∃ w1, ((((w.alloc (Obj.cells #[.pointer x] 27)).alloc (Obj.cells #[Value.int .i64 I] 3)).alloc (Obj.cells #[Value.int .i64 K] 3)).alloc (Obj.cells #[fnv pk] 107)).alloc (Obj.cells #[fnv wk] 111) = w1 := ⟨_, rfl⟩
  rw [hw1] at hb1 hz1 hh
  have c0 : w1.cell? ⟨w.heap.size, 0, none⟩ = some (.pointer x) := (cell_at (hh 0 (by simp)) 0).trans rfl
  have c1 : w1.cell? ⟨w.heap.size + 1, 0, none⟩ = some (.int .i64 I) := (cell_at (hh 1 (by simp)) 0).trans rfl
  have c2 : w1.cell? ⟨w.heap.size + 2, 0, none⟩ = some (.int .i64 K) := (cell_at (hh 2 (by simp)) 0).trans rfl
  have c3 : w1.cell? ⟨w.heap.size + 3, 0, none⟩ = some (fnv pk) := (cell_at (hh 3 (by simp)) 0).trans rfl
  have c4 : w1.cell? ⟨w.heap.size + 4, 0, none⟩ = some (fnv wk) := (cell_at (hh 4 (by simp)) 0).trans rfl
  have HL := Lib.hid (len_i (w := w1.drew) ((HT.below hb1).below (Below.refl _ w1).drew))
  rw [hn] at HL
  have hpn : p ≤ n := by rw [← hp]; exact heldN_le I n
  have hm0 : min (max I 0) (n : Int) = p := by rw [clamp_i, hp]
  have hm1 : min (max K (p : Int)) (n : Int) = q := by rw [clamp_k K hpn, hq]
  have hh1 : w1.heap[w.heap.size + 1]? = some (.cells #[.int .i64 I] 3 (0, 0)) := hh 1 (by simp)
  have hh2 : w1.heap[w.heap.size + 2]? = some (.cells #[.int .i64 K] 3 (0, 0)) := hh 2 (by simp)
  have h5 : Five2 w x I K pk wk w1 := ⟨hb1, Nat.le_of_eq hz1.symm, c0, c1, c2, c3, c4, unfrozen hh1 0, unfrozen hh2 0⟩
  have HT1 := HT.below hb1
  clear hh c0 c1 c2 c3 c4 hh1 hh2 hz1 hb1 hp hq
  go_enter Try.func68, Try.ntmps68
  have c0 := h5.c0
  have c1 := h5.c1
  have hf1 := h5.f1
  go_wp2_with fail
  rename_i K' hKK
  have key : ∀ W, Five2 w x p K pk wk W → K' { tmps := #[.agg #[.pointer x], .int .i64 I, .int .i64 K, fnv pk, fnv wk, pbox w.heap.size, pbox (w.heap.size + 1), pbox (w.heap.size + 1 + 1), pbox (w.heap.size + 1 + 1 + 1), pbox (w.heap.size + 1 + 1 + 1 + 1), .nilFunc, .int .i64 I, .int .i64 (max I 0), .agg #[.pointer x], .int .i64 n, .int .i64 p, undef, undef, undef, undef, undef, undef, undef], defers := [] } W := by
    intro W F5
    have HTW := HT.below F5.below
    refine hKK _ _ ?_
    clear hKK K' c0 c1 h5 HT1 hw1 hf1
    have c0 := F5.c0
    have c1 := F5.c1
    have c2 := F5.c2
    have HL := Lib.hid (len_i (w := W.drew) (HTW.below (Below.refl _ W).drew))
    rw [hn] at HL
    go_wp2_with fail
    rename_i K' hKK
    have key : ∀ V, Five2 w x p q pk wk V → K' { tmps := #[.agg #[.pointer x], .int .i64 I, .int .i64 K, fnv pk, fnv wk, pbox w.heap.size, pbox (w.heap.size + 1), pbox (w.heap.size + 1 + 1), pbox (w.heap.size + 1 + 1 + 1), pbox (w.heap.size + 1 + 1 + 1 + 1), .nilFunc, .int .i64 I, .int .i64 (max I 0), .agg #[.pointer x], .int .i64 n, .int .i64 p, .int .i64 K, .int .i64 p, .int .i64 (max K p), .agg #[.pointer x], .int .i64 n, .int .i64 q, undef], defers := [] } V := by
      intro V F5
      refine hKK _ _ ?_
      clear hKK
      go_wp2_with fail
      go_ret
      exact ⟨rfl, F5⟩
    clear hKK
    go_region_law (go_simp; go_at_call 46; refine HL.out.mono ?_; rintro e V ⟨rfl, hb2⟩; have G5 := F5.grow ((Below.refl _ W).drew.trans hb2); have c2' := G5.c2; have c1' := G5.c1; have c0' := G5.c0; have zz := G5.f2)
    all_goals (exact key _ (G5.setk _))
  clear hKK
  have HL := Lib.hid (len_i (w := w1.drew) (HT1.below (Below.refl _ w1).drew))
  rw [hn] at HL
  go_region_law (go_simp; go_at_call 46; refine HL.out.mono ?_; rintro e w2 ⟨rfl, hb2⟩; have G5 := h5.grow ((Below.refl _ w1).drew.trans hb2); have c1' := G5.c1; have zz := G5.f1)
  all_goals (exact key _ (G5.seti _))

set_option maxRecDepth 100000 in
set_option maxHeartbeats 2000000 in
theorem range_call {w : World} {x : Option Addr} {L : List Value} {n p q : Nat} (I K : Int) (HT : Tin w 95 (.pointer x) L) (hn : L.length = n) (hl : n ≤ 1000000) (hp : heldN I n = p) (hq : max p (heldN K n) = q) :
    Calls Try.prog 29 #[.agg #[.pointer x], .int .i64 I, .int .i64 K] w fun e w' => ∃ w1, Below w.heap.size w w1 ∧ w.heap.size < w1.heap.size ∧ Five2 w1 x p q 69 70 w' ∧ e = .returned (.func (.func 90) #[] #[pbox w1.heap.size, pbox (w1.heap.size + 1), pbox (w1.heap.size + 2), pbox (w1.heap.size + 3), pbox (w1.heap.size + 4)]) := by
  have hh := World.alloc_heap_new w (Obj.cells #[.pointer x] 27)
  have al := t_al w (Obj.cells #[.pointer x] 27)
  have hz : (w.alloc (Obj.cells #[.pointer x] 27)).heap.size = w.heap.size + 1 := by simp
  obtain ⟨w1, hw1⟩ : ∃ w1, w.alloc (Obj.cells #[.pointer x] 27) = w1 := ⟨_, rfl⟩
  rw [hw1] at hh al hz
  have c0 : w1.cell? ⟨w.heap.size, 0, none⟩ = some (.pointer x) := (cell_at hh 0).trans rfl
  have HR := Lib.hid (thru_call I K (HT.below al) hn hl hp hq 69 70)
  have AL := Lib.hid (And.intro al (show w.heap.size < w1.heap.size by omega))
  clear hh al HT hz
  go_enter Try.func29, Try.ntmps29
  go_wp2_with fail
  refine HR.out.mono ?_; rintro e w2 ⟨rfl, F5⟩
  go_wp2_with fail
  go_ret
  exact ⟨w1, AL.out.1, AL.out.2, F5, rfl⟩

set_option maxRecDepth 100000 in
set_option maxHeartbeats 2000000 in
theorem back_call {w : World} {x : Option Addr} {L : List Value} {n p q : Nat} (I K : Int) (HT : Tin w 95 (.pointer x) L) (hn : L.length = n) (hl : n ≤ 1000000) (hp : heldN I n = p) (hq : max p (heldN K n) = q) :
    Calls Try.prog 30 #[.agg #[.pointer x], .int .i64 I, .int .i64 K] w fun e w' => ∃ w1, Below w.heap.size w w1 ∧ w.heap.size < w1.heap.size ∧ Five2 w1 x p q 71 72 w' ∧ e = .returned (.func (.func 90) #[] #[pbox w1.heap.size, pbox (w1.heap.size + 1), pbox (w1.heap.size + 2), pbox (w1.heap.size + 3), pbox (w1.heap.size + 4)]) := by
  have hh := World.alloc_heap_new w (Obj.cells #[.pointer x] 27)
  have al := t_al w (Obj.cells #[.pointer x] 27)
  have hz : (w.alloc (Obj.cells #[.pointer x] 27)).heap.size = w.heap.size + 1 := by simp
  obtain ⟨w1, hw1⟩ : ∃ w1, w.alloc (Obj.cells #[.pointer x] 27) = w1 := ⟨_, rfl⟩
  rw [hw1] at hh al hz
  have c0 : w1.cell? ⟨w.heap.size, 0, none⟩ = some (.pointer x) := (cell_at hh 0).trans rfl
  have HR := Lib.hid (thru_call I K (HT.below al) hn hl hp hq 71 72)
  have AL := Lib.hid (And.intro al (show w.heap.size < w1.heap.size by omega))
  clear hh al HT hz
  go_enter Try.func30, Try.ntmps30
  go_wp2_with fail
  refine HR.out.mono ?_; rintro e w2 ⟨rfl, F5⟩
  go_wp2_with fail
  go_ret
  exact ⟨w1, AL.out.1, AL.out.2, F5, rfl⟩

theorem filter_all {α : Type} {p : α → Bool} {l : List α} (h : ∀ x ∈ l, p x = true) : l.filter p = l := List.filter_eq_self.2 h
theorem filter_none {α : Type} {p : α → Bool} {l : List α} (h : ∀ x ∈ l, p x = false) : l.filter p = [] := List.filter_eq_nil_iff.2 (fun x hx => by rw [h x hx]; simp)
theorem shift_mem {f : Nat} {xs : List Int} {p : Nat × Int} (h : p ∈ shiftP f (pairs xs)) : f ≤ p.1 ∧ p.1 < f + xs.length := by
  unfold shiftP at h
  obtain ⟨⟨k, x⟩, hq, rfl⟩ := List.mem_map.1 h
  have := pairs_lt hq
  constructor
  · show f ≤ f + k; omega
  · show f + k < f + xs.length; omega
/-- The stretch's pairs. -/
theorem sel_pairs (L : List Int) {p q : Nat} (hpq : p ≤ q) (hq : q ≤ L.length) : (pairs L).filter (inS p q) = shiftP p (pairs ((L.drop p).take (q - p))) := by
  have e : L = L.take p ++ ((L.drop p).take (q - p) ++ (L.drop p).drop (q - p)) := by rw [List.take_append_drop, List.take_append_drop]
  have l1 : (L.take p).length = p := by rw [List.length_take]; omega
  have l2 : ((L.drop p).take (q - p)).length = q - p := by rw [List.length_take, List.length_drop]; omega
  conv => lhs; rw [e]
  rw [pairs_app, pairs_app, List.filter_append, shiftP_app, List.filter_append, shiftP_shift, l1, l2]
  rw [filter_none (l := pairs (L.take p)), filter_all (l := shiftP p (pairs ((L.drop p).take (q - p)))), filter_none (l := shiftP (p + (q - p)) (pairs ((L.drop p).drop (q - p))))]
  · simp
  · intro x hx
    have := shift_mem hx
    unfold inS
    rw [decide_eq_false (show ¬ x.1 < q by omega)]; simp
  · intro x hx
    have := shift_mem hx
    unfold inS
    rw [decide_eq_true (show p ≤ x.1 by omega), decide_eq_true (show x.1 < q by omega)]; rfl
  · intro x hx
    have := shift_mem (f := 0) (by rw [shiftP_zero]; exact hx)
    unfold inS
    rw [decide_eq_false (show ¬ p ≤ x.1 by omega)]; rfl

theorem run_end {w : World} {T : TypeId} : ∀ {ls : List Leaf} {f : Nat} {x : Leaf}, Run w T f ls → x ∈ ls → x.2.1 + x.2.2.length ≤ f + tot ls
  | y :: ls, f, x, ⟨e1, e2, e3, e4⟩, h => by
    rw [tot_cons]
    rcases List.mem_cons.1 h with rfl | h
    · omega
    · have := run_end e4 h; omega
/-- The leaves of a tree's stretch. -/
theorem lv_of {w0 : World} {x : Option Addr} {L : List Int} (d : Bool) {p q : Nat} (HT : Tin w0 95 (.pointer x) (nums L)) (hpq : p ≤ q) (hq : q ≤ L.length) (hl : L.length ≤ 100000) :
    ∃ R1, LvOf w0 d p q x R1 ∧ LvN w0 R1 ∧ R1.flatMap (selL d p q) = dirL d (shiftP p (pairs ((L.drop p).take (q - p)))) := by
  by_cases e : p = q
  · refine ⟨[], .inl ⟨e, rfl⟩, fun x hx => by simp at hx, ?_⟩
    rw [e, Nat.sub_self, List.take_zero]
    exact (dirL_nil d).symm
  · have hT := HT
    rcases HT with ⟨_, h0⟩ | ⟨b, h, t, hx, hin, hok, hL⟩
    · have := congrArg List.length h0
      rw [nums_len, List.length_nil] at this
      omega
    · injection hx with hx
      obtain ⟨en, r1, r2, r3, r4, r5, r6⟩ := node_of h (lo := rlo h) 0 (rlo_pos h) (fun hh => by cases h with | zero => omega | succ h => rw [rlo_succ]; omega) hin hok
      rw [← hL, nums_len] at r3
      rw [← hL] at r5
      have hxe : x = some ⟨en.b, 0, none⟩ := by rw [r1]; exact hx
      refine ⟨remL d p q [en], .inr ⟨en, h, nums L, by omega, hxe, by rw [hxe] at hT; exact hT, r4, r2, by omega, by omega, rfl⟩, fun y hy => ?_, by rw [sel_all r4 r2 r5, sel_pairs L hpq hq]⟩
      have hy' : y ∈ en.ls := by
        have : remL d p q [en] = dirL d (en.ls.filter (inR p q)) ++ [] := rfl
        rw [this, List.append_nil] at hy
        unfold dirL at hy
        cases d
        · exact (List.mem_filter.1 (List.mem_reverse.1 hy)).1
        · exact (List.mem_filter.1 hy).1
      obtain ⟨u1, u2, _⟩ := node_run r4
      obtain ⟨v1, v2⟩ := run_at u1 hy'
      have v3 := run_end u1 hy'
      have hn := nums_sub (l := L) (vs := y.2.2) (fun v hv => by rw [← r5]; exact List.mem_flatMap.2 ⟨y, hy', hv⟩)
      refine ⟨intsOf y.2.2, hn, by rw [← hn]; exact v1, by rw [intsOf_len]; exact v2, by rw [intsOf_len]; omega⟩

/-- What Range hands over. -/
theorem rng_f (n n₀ : Nat) {w0 w1 w : World} {x : Option Addr} {L : List Int} {p q : Nat} {D0 : Bls} (F5 : Five2 w1 x p q 69 70 w) (HT : Tin w0 95 (.pointer x) (nums L)) (hw : Below w0.heap.size w0 w) (hn0 : w0.heap.size ≤ n₀) (hn : n₀ ≤ w.heap.size) (hD0 : Have D0 w)
    (hbx : ∀ k, w1.heap.size ≤ k → k < w1.heap.size + 5 → D0 k ∨ k < n₀) (hpq : p ≤ q) (hq : q ≤ L.length) (hl : L.length ≤ 100000) :
    Iter Fence.wide n Try.prog 90 #[pbox w1.heap.size, pbox (w1.heap.size + 1), pbox (w1.heap.size + 2), pbox (w1.heap.size + 3), pbox (w1.heap.size + 4)] encP n₀ (fun ys => ys = shiftP p (pairs ((L.drop p).take (q - p)))) (fun pre => pre <+: shiftP p (pairs ((L.drop p).take (q - p)))) (fun pre y => (shiftP p (pairs ((L.drop p).take (q - p))))[pre.length]? = some y) D0 w := by
  obtain ⟨R1, h1, h2, h3⟩ := lv_of true HT hpq hq hl
  have := thru_fwd n n₀ w1.heap.size (w1.heap.size + 1) (w1.heap.size + 2) (w1.heap.size + 3) (w1.heap.size + 4) hw hn0 hn hD0 (hbx _ (by omega) (by omega)) (hbx _ (by omega) (by omega)) (hbx _ (by omega) (by omega)) (hbx _ (by omega) (by omega)) (hbx _ (by omega) (by omega)) F5.c0 F5.c1 F5.c2 F5.c3 F5.c4 h1 h2 (by omega)
  rw [h3] at this
  exact this
/-- What Back hands over. -/
theorem rng_b (n n₀ : Nat) {w0 w1 w : World} {x : Option Addr} {L : List Int} {p q : Nat} {D0 : Bls} (F5 : Five2 w1 x p q 71 72 w) (HT : Tin w0 95 (.pointer x) (nums L)) (hw : Below w0.heap.size w0 w) (hn0 : w0.heap.size ≤ n₀) (hn : n₀ ≤ w.heap.size) (hD0 : Have D0 w)
    (hbx : ∀ k, w1.heap.size ≤ k → k < w1.heap.size + 5 → D0 k ∨ k < n₀) (hpq : p ≤ q) (hq : q ≤ L.length) (hl : L.length ≤ 100000) :
    Iter Fence.wide n Try.prog 90 #[pbox w1.heap.size, pbox (w1.heap.size + 1), pbox (w1.heap.size + 2), pbox (w1.heap.size + 3), pbox (w1.heap.size + 4)] encP n₀ (fun ys => ys = (shiftP p (pairs ((L.drop p).take (q - p)))).reverse) (fun pre => pre <+: (shiftP p (pairs ((L.drop p).take (q - p)))).reverse) (fun pre y => (shiftP p (pairs ((L.drop p).take (q - p)))).reverse[pre.length]? = some y) D0 w := by
  obtain ⟨R1, h1, h2, h3⟩ := lv_of false HT hpq hq hl
  have := thru_bwd n n₀ w1.heap.size (w1.heap.size + 1) (w1.heap.size + 2) (w1.heap.size + 3) (w1.heap.size + 4) hw hn0 hn hD0 (hbx _ (by omega) (by omega)) (hbx _ (by omega) (by omega)) (hbx _ (by omega) (by omega)) (hbx _ (by omega) (by omega)) (hbx _ (by omega) (by omega)) F5.c0 F5.c1 F5.c2 F5.c3 F5.c4 h1 h2 (by omega)
  rw [h3] at this
  exact this

attribute [local go_sem] Oper.semAt_some

theorem whole_pairs (L : List Int) : shiftP 0 (pairs ((L.drop 0).take (L.length - 0))) = pairs L := by
  rw [shiftP_zero, List.drop_zero, Nat.sub_zero, List.take_length]
/-- What Range over the whole tree hands over. -/
theorem rng_all (n n₀ : Nat) {w0 w1 w : World} {x : Option Addr} {L : List Int} {D0 : Bls} (F5 : Five2 w1 x ((0 : Nat) : Int) L.length 69 70 w) (HT : Tin w0 95 (.pointer x) (nums L)) (hw : Below w0.heap.size w0 w) (hn0 : w0.heap.size ≤ n₀) (hn : n₀ ≤ w.heap.size) (hD0 : Have D0 w)
    (hbx : ∀ k, w1.heap.size ≤ k → k < w1.heap.size + 5 → D0 k ∨ k < n₀) (hl : L.length ≤ 100000) :
    Iter Fence.wide n Try.prog 90 #[pbox w1.heap.size, pbox (w1.heap.size + 1), pbox (w1.heap.size + 2), pbox (w1.heap.size + 3), pbox (w1.heap.size + 4)] encP n₀ (fun ys => ys = pairs L) (fun pre => pre <+: pairs L) (fun pre y => (pairs L)[pre.length]? = some y) D0 w := by
  have := rng_f n n₀ (p := 0) (q := L.length) F5 HT hw hn0 hn hD0 hbx (Nat.zero_le _) (Nat.le_refl _) hl
  rw [whole_pairs] at this
  exact this

set_option maxRecDepth 100000 in
set_option maxHeartbeats 4000000 in
theorem all_gen (n : Nat) {w : World} {x0 : Option Addr} {xs : List Int} (HT : Tin w 95 (.pointer x0) (nums xs)) (hl : xs.length ≤ 100000) :
    CallsIn Fence.wide n Try.prog 31 #[.agg #[.pointer x0]] w fun e w' => ∃ a c, e = .returned (.slice a xs.length c) ∧ Sl w' a c (nums xs) ∧ Below w.heap.size w w' := by
  obtain ⟨i0, hi0, hz0, hz1, hz2⟩ := info_parts info_int
  have hh := World.alloc_heap_new w (Obj.cells #[.pointer x0] 27)
  have al := t_al w (Obj.cells #[.pointer x0] 27)
  obtain ⟨w1, hw1⟩ : ∃ w1, w.alloc (Obj.cells #[.pointer x0] 27) = w1 := ⟨_, rfl⟩
  have hsz : (w.alloc (Obj.cells #[.pointer x0] 27)).heap.size = w.heap.size + 1 := by simp
  rw [hw1] at hh al hsz
  have c0 : w1.cell? ⟨w.heap.size, 0, none⟩ = some (.pointer x0) := (cell_at hh 0).trans rfl
  have HL := Lib.hid (len_i (HT.below al))
  rw [nums_len] at HL
  obtain ⟨len, hlen⟩ : ∃ len, xs.length = len := ⟨_, rfl⟩
  have HLe := Lib.hid hlen
  rw [hlen] at hl HL
  clear hlen hh
  refine callsIn_of_wp_marks Try.func31 rfl trivial ?_ rfl
  simp only [Try.ntmps31, List.size_toArray, List.length_cons, List.length_nil, Nat.reduceAdd, Nat.reduceSub, Array.replicate_succ, Array.replicate_zero, List.push_toArray, List.append_toArray, List.nil_append, List.cons_append]
  gi_wp2
  refine ⟨trivial, fun h => by simp [Fence.wide] at h, ((callsIn_wide (n := n - 1)).2 HL.out).mono ?_⟩
  rintro e w2 ⟨rfl, hb2⟩
  have c02 := (hb2.cell (p := ⟨w.heap.size, 0, none⟩) (show w.heap.size < w1.heap.size by omega)).trans c0
  have hlt2 := hb2.size
  gi_wp2_with (gi_at_make; refine wpListIn_make_own _ rfl _ _ 22 rfl w.heap.size 3 i0 (.int .i64 0) 1 Try.underlying22 hi0 hz0 hz1 .i64 .i64 _ len rfl rfl rfl (by rw [hz2]; omega) (by unfold maxLen; omega) (by omega) ?_; rintro w3 ho3 hg3)
  obtain ⟨g, hg⟩ : ∃ g, w2.heap.size = g := ⟨_, rfl⟩
  rw [hg] at ho3
  have hgl : g < w3.heap.size := by
    rcases t_form ho3 with ⟨h, _⟩ | ⟨g', h, _, h2, _⟩
    · cases h
    · injection h with h; injection h with h; omega
  have hb13 : Below w1.heap.size w1 w3 := hb2.grown hg3 hb2.size (fun k e => by cases e)
  have hh4 := World.alloc_heap_new w3 (Obj.cells #[.slice (some ⟨g, 0, none⟩) 0 len] 22)
  have al4 := t_al w3 (Obj.cells #[.slice (some ⟨g, 0, none⟩) 0 len] 22)
  obtain ⟨w4, hw4⟩ : ∃ w4, w3.alloc (Obj.cells #[.slice (some ⟨g, 0, none⟩) 0 len] 22) = w4 := ⟨_, rfl⟩
  have hsz4 : (w3.alloc (Obj.cells #[.slice (some ⟨g, 0, none⟩) 0 len] 22)).heap.size = w3.heap.size + 1 := by simp
  have ho4 := ho3.alloc (Obj.cells #[.slice (some ⟨g, 0, none⟩) 0 len] 22)
  rw [hw4] at hh4 al4 hsz4 ho4
  have hb14 := hb13.trans (al4.mono hb13.size)
  have hbw4 : Below w.heap.size w w4 := al.trans (hb14.mono al.size)
  have c04 := (hb14.cell (p := ⟨w.heap.size, 0, none⟩) (show w.heap.size < w1.heap.size by omega)).trans c0
  have cq4 : w4.cell? ⟨w3.heap.size, 0, none⟩ = some (.slice (some ⟨g, 0, none⟩) 0 len) := (cell_at hh4 0).trans rfl
  have fq4 : w4.frozen? ⟨w3.heap.size, 0, none⟩ = false := unfrozen hh4 0
  rw [hg, hw4]
  obtain ⟨q, hq⟩ : ∃ q, w3.heap.size = q := ⟨_, rfl⟩
  rw [hq] at hgl hsz4 cq4 fq4 ⊢
  have hwg : w.heap.size ≤ g := by omega
  have HT4 := HT.below hbw4
  have HLq := Lib.hid (len_i (w := w4.drew) (HT4.below (Below.refl _ w4).drew))
  rw [nums_len, HLe.out] at HLq
  have hmix : Try.prog.follows .mixedOrders = true := by kernel_rfl
  clear hw1 hw4 hh4 al4 ho3 hg3 hb13 hb2 c02 c0 HL hq
  rename_i KK hKK
  have key : ∀ (w5 w6 : World), Below w4.heap.size w4 w5 → Five2 w5 x0 ((0 : Nat) : Int) len 69 70 w6 → KK { tmps := #[.agg #[.pointer x0], pbox w.heap.size, .slice none 0 0, pbox q, undef, undef, .agg #[.pointer x0], .int .i64 len, .slice (some ⟨g, 0, none⟩) 0 len, .agg #[.pointer x0], .agg #[.pointer x0], .int .i64 len, .func (.func 90) #[] #[pbox w5.heap.size, pbox (w5.heap.size + 1), pbox (w5.heap.size + 2), pbox (w5.heap.size + 3), pbox (w5.heap.size + 4)], undef, undef, undef, undef, undef, undef, undef], defers := [] } w6 := by
    intro w5 w6 hb5 F5
    have hb46 := hb5.trans (F5.below.mono hb5.size)
    have hbw6 := hbw4.trans (hb46.mono hbw4.size)
    have ho6 := own_block ho4 (hb46.block g (by omega))
    have cq6 := (hb46.cell (p := ⟨q, 0, none⟩) (show q < w4.heap.size by omega)).trans cq4
    have fq6 := (hb46.frozen (p := ⟨q, 0, none⟩) (show q < w4.heap.size by omega)).trans fq4
    have hs5 := hb5.size
    have hs6 := F5.size
    refine hKK _ _ ?_
    clear hKK
    gi_wp2
    refine range_outer (gf := 90) (lb := #[pbox w5.heap.size, pbox (w5.heap.size + 1), pbox (w5.heap.size + 2), pbox (w5.heap.size + 3), pbox (w5.heap.size + 4)]) rfl (fun h => by simp [Fence.wide] at h) rfl trivial (enters_of Try.func90 (by kernel_rfl) rfl)
      (rng_all (n - 1) w.heap.size (D0 := fun k => w5.heap.size ≤ k ∧ k < w5.heap.size + 5) (by rw [HLe.out]; exact F5) HT hbw6 (Nat.le_refl _) hbw6.size (fun k h => by omega) (fun k h1 h2 => .inl ⟨h1, h2⟩) (by rw [HLe.out]; exact hl)) hbw6.size (Below.refl _ _) (fun k h => by omega) (fun _ => rfl)
      (AllI w g q len) (fun _ _ _ _ => False) (AllI.firm hwg hgl) (fun _ _ _ _ _ _ h _ _ => h) ⟨fun k h => by omega, hbw6, by omega, cq6, fq6, ho6⟩
      (fun x a' _ _ => a' = { tmps := #[.agg #[.pointer x0], pbox w.heap.size, .slice none 0 0, pbox q, undef, .int .i64 x.2, .agg #[.pointer x0], .int .i64 len, .slice (some ⟨g, 0, none⟩) 0 len, .agg #[.pointer x0], .agg #[.pointer x0], .int .i64 len, .func (.func 90) #[] #[pbox w5.heap.size, pbox (w5.heap.size + 1), pbox (w5.heap.size + 2), pbox (w5.heap.size + 3), pbox (w5.heap.size + 4)], .int .i64 (x.1 : Int), .int .i64 x.2, undef, undef, undef, undef, undef], defers := [] })
      (fun x a' E V l r o h _ => h) ?assign ?body ?done ?stop
    case assign =>
      intro l' pre x E V K hl' hi hE hK
      simp only [encP]
      gi_wp2
      exact hK _ E _ (fun k h => h) hE (Same.refl _ _) (Below.refl _ _) hi rfl
    case body =>
      rintro lo pre ⟨k, x⟩ a' E V hEl _ hE ⟨m1, m2, m3, m4, m5, m6⟩ rfl hN
      obtain ⟨rfl, hx⟩ := pairs_inv hN
      have hkl : pre.length < len := by rw [← HLe.out]; exact (List.getElem?_eq_some_iff.1 hx).1
      have ms := m2.size
      have hqV : q < V.heap.size := by omega
      have al1 := t_al V (Obj.cells #[.int .i64 x] 3)
      have hqa : q < (V.alloc (Obj.cells #[.int .i64 x] 3)).heap.size := Nat.lt_of_lt_of_le hqV al1.size
      have ma4 := (al1.cell (p := ⟨q, 0, none⟩) hqV).trans m4
      have ma5 := (al1.frozen (p := ⟨q, 0, none⟩) hqV).trans m5
      gi_wp2_with (gi_at_builtin; refine wpListIn_append_fits _ rfl (.tmp 15) (.tmp 17) 22 rfl w.heap.size 3 i0 1 Try.underlying22 hi0 hz1 g pre.length len (nums (pre.map (·.2))) rfl (m6.alloc _) ⟨V.heap.size, 0, none⟩ 1 1 [.int .i64 x] rfl rfl (cell_one_new _ _ _) (by simp [Value.oneCell']) (by omega) ?_; rintro W5 ho5 hg5; have f5 := (hg5.frozen_far ⟨q, 0, none⟩ hqa (fun e => by injection e with e; simp only [] at e; omega)).trans ma5; have c5 := hg5.cell ma4 (fun e => by injection e with e; simp only [] at e; omega))
      have hz5 := hg5.size
      rw [World.size_alloc] at hz5
      have hl' : (pre ++ [(pre.length, x)]).length = pre.length + 1 := by simp
      have hm' : nums ((pre ++ [(pre.length, x)]).map (·.2)) = nums (pre.map (·.2)) ++ [.int .i64 x] := by rw [List.map_append, ← nums_app]; rfl
      have hst : ∀ k, k < V.heap.size → k ≠ g → k ≠ q → (W5.setCell ⟨q, 0, none⟩ (.slice (some ⟨g, 0, none⟩) (pre.length + 1) len)).heap[k]? = V.heap[k]? := fun k h1 h2 h3 =>
        (heap_set_other h3).trans ((hg5.block k (by rw [World.size_alloc]; omega) (fun e => by injection e with e; omega)).trans (al1.block k h1))
      have hB : Below w.heap.size V (W5.setCell ⟨q, 0, none⟩ (.slice (some ⟨g, 0, none⟩) (pre.length + 1) len)) :=
        ((al1.mono ms).grown hg5 (by rw [World.size_alloc]; omega) (fun k e => by cases e; exact hwg)).setCell (p := ⟨q, 0, none⟩) (by show w.heap.size ≤ q; omega) _
      refine ⟨fun k hk => hst k (hE k hk) (by have := m1 k hk; omega) (by have := m1 k hk; omega), hB, m1, m2.trans hB, by rw [World.size_setCell]; omega, ?_, by rw [World.frozen?_setCell]; exact f5, ?_⟩
      · rw [hl']; exact World.cell?_setCell_same' _ _ _ (by rw [c5]; rfl)
      · rw [hl', hm']; exact own_block ho5 (heap_set_other (by omega))
    case done =>
      rintro d ys E W3 hd hEd rfl ⟨m1, m2, m3, m4, m5, m6⟩ hK
      rw [pairs_snd, pairs_len] at m6
      rw [pairs_len, HLe.out] at m4
      rw [HLe.out] at m6
      have HM := Lib.hid m6
      have ms := m2.size
      gi_wp2
      refine ⟨by simp, .inl ⟨_, _, rfl, run_takeDeferred hK, ?_⟩⟩
      refine ⟨_, results_tmp rfl _ _ _, some ⟨g, 0, none⟩, len, by rw [HLe.out]; rfl, Sl.own (B := w.heap.size) (e := 3) (by rw [nums_len, HLe.out]; exact own_block HM.out (World.putObj_heap_other (by omega))) (nums_one _), m2.grown (grownBy_putObj' W3 d _) ms (fun k e => by cases e; omega)⟩
    case stop =>
      rintro d c pre E W3 hd hEd hSp h hK
      exact h.elim
  clear hKK
  have hq4 : w.heap.size < w4.heap.size := by omega
  have HRgA := fun V (hb : Below w4.heap.size w4 V) => range_call (p := 0) (q := len) 0 (len : Int) (HT4.below hb) (by rw [nums_len]; exact HLe.out) (show len ≤ 1000000 by omega) (by simp [heldN]) (by rw [heldN_nat (Nat.le_refl _)]; exact Nat.max_eq_right (Nat.zero_le _))
  gi_region_with_o (first
    | (refine ⟨trivial, (fun h => by simp [Fence.wide] at h), ((callsIn_wide (n := n - 1)).2 HLq.out).mono ?_⟩; clear HLq; rintro e V ⟨rfl, hbV⟩
       have hb4V := (Below.refl _ w4).drew.trans hbV
       have c0V := (hb4V.cell (p := ⟨w.heap.size, 0, none⟩) hq4).trans c04
       have HRg := Lib.hid (HRgA V hb4V))
    | (refine ⟨trivial, (fun h => by simp [Fence.wide] at h), ((callsIn_wide (n := n - 1)).2 HRg.out).mono ?_⟩; clear HRg; rintro e w6 ⟨w5, hb5, _, F5, rfl⟩))
  all_goals (exact key _ _ (hb4V.trans (hb5.mono hb4V.size)) F5)

end Go.Proofs.Ytofncnommekbjaa
