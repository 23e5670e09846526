/-
  Texts of this seat, put together (a claim holds few texts): WgN, WgO, Shelf, ArD, ArE.
-/
import Derived.Test.YtkgakgceamafcaaMk19
import Derived.Lib.MinMax
import Derived.Deep.RegionLaw
import Derived.Ground.SlbCloneProg
import Derived.Shelf.Bytes.SlClone
import Derived.Test.YtkgakgceamafcaaProg
import Derived.Lib.Bytes
import Derived.Lib.IndexMore

namespace Go.Proofs.Ytkgakgceamafcaa
open Go Go.RowKit
set_option linter.unusedVariables false

/-- A number held between 0 and n. -/
def heldN (I : Int) (n : Nat) : Nat := if I ≤ 0 then 0 else if (n : Int) ≤ I then n else I.toNat
theorem heldN_nat {j n : Nat} (h : j ≤ n) : heldN (j : Int) n = j := by unfold heldN; split <;> (try split) <;> omega
theorem heldN_le (I : Int) (n : Nat) : heldN I n ≤ n := by
  unfold heldN
  split
  · omega
  · split
    · omega
    · omega
/-- The five boxes of through. -/
structure Five2 (w : World) (x : Option Addr) (I K : Int) (pk wk : Nat) (W : World) : Prop where
  below : Below w.heap.size w W
  size : w.heap.size + 5 ≤ W.heap.size
  c0 : W.cell? ⟨w.heap.size, 0, none⟩ = some (.pointer x)
  c1 : W.cell? ⟨w.heap.size + 1, 0, none⟩ = some (.int .i64 I)
  c2 : W.cell? ⟨w.heap.size + 2, 0, none⟩ = some (.int .i64 K)
  c3 : W.cell? ⟨w.heap.size + 3, 0, none⟩ = some (fnv pk)
  c4 : W.cell? ⟨w.heap.size + 4, 0, none⟩ = some (fnv wk)
  f1 : W.frozen? ⟨w.heap.size + 1, 0, none⟩ = false
  f2 : W.frozen? ⟨w.heap.size + 2, 0, none⟩ = false
theorem Five2.grow {w W W' : World} {x : Option Addr} {I K : Int} {pk wk : Nat} (h : Five2 w x I K pk wk W) (hb : Below W.heap.size W W') : Five2 w x I K pk wk W' := by
  have hs := h.size
  exact ⟨h.below.trans (hb.mono h.below.size), Nat.le_trans hs hb.size, (hb.cell (p := ⟨w.heap.size, 0, none⟩) (show w.heap.size < W.heap.size by omega)).trans h.c0, (hb.cell (p := ⟨w.heap.size + 1, 0, none⟩) (show w.heap.size + 1 < W.heap.size by omega)).trans h.c1, (hb.cell (p := ⟨w.heap.size + 2, 0, none⟩) (show w.heap.size + 2 < W.heap.size by omega)).trans h.c2, (hb.cell (p := ⟨w.heap.size + 3, 0, none⟩) (show w.heap.size + 3 < W.heap.size by omega)).trans h.c3, (hb.cell (p := ⟨w.heap.size + 4, 0, none⟩) (show w.heap.size + 4 < W.heap.size by omega)).trans h.c4, (hb.frozen (p := ⟨w.heap.size + 1, 0, none⟩) (show w.heap.size + 1 < W.heap.size by omega)).trans h.f1, (hb.frozen (p := ⟨w.heap.size + 2, 0, none⟩) (show w.heap.size + 2 < W.heap.size by omega)).trans h.f2⟩
theorem Five2.seti {w W : World} {x : Option Addr} {I K : Int} {pk wk : Nat} (h : Five2 w x I K pk wk W) (J : Int) : Five2 w x J K pk wk (W.setCell ⟨w.heap.size + 1, 0, none⟩ (.int .i64 J)) := by
  have hs := h.size
  have ne (k : Nat) (hk : k ≠ w.heap.size + 1) : (⟨w.heap.size + 1, 0, none⟩ : Addr) ≠ ⟨k, 0, none⟩ := fun e => by injection e with e1 e2; exact hk e1.symm
  exact ⟨h.below.setCell (p := ⟨w.heap.size + 1, 0, none⟩) (Nat.le_add_right _ _) _, by rw [World.size_setCell]; exact hs, (World.cell?_setCell_other (h := ne _ (by omega)) ..).trans h.c0, World.cell?_setCell_same' _ _ _ (by rw [h.c1]; rfl), (World.cell?_setCell_other (h := ne _ (by omega)) ..).trans h.c2, (World.cell?_setCell_other (h := ne _ (by omega)) ..).trans h.c3, (World.cell?_setCell_other (h := ne _ (by omega)) ..).trans h.c4, by rw [World.frozen?_setCell]; exact h.f1, by rw [World.frozen?_setCell]; exact h.f2⟩
theorem Five2.setk {w W : World} {x : Option Addr} {I K : Int} {pk wk : Nat} (h : Five2 w x I K pk wk W) (J : Int) : Five2 w x I J pk wk (W.setCell ⟨w.heap.size + 2, 0, none⟩ (.int .i64 J)) := by
  have hs := h.size
  have ne (k : Nat) (hk : k ≠ w.heap.size + 2) : (⟨w.heap.size + 2, 0, none⟩ : Addr) ≠ ⟨k, 0, none⟩ := fun e => by injection e with e1 e2; exact hk e1.symm
  exact ⟨h.below.setCell (p := ⟨w.heap.size + 2, 0, none⟩) (Nat.le_add_right _ _) _, by rw [World.size_setCell]; exact hs, (World.cell?_setCell_other (h := ne _ (by omega)) ..).trans h.c0, (World.cell?_setCell_other (h := ne _ (by omega)) ..).trans h.c1, World.cell?_setCell_same' _ _ _ (by rw [h.c2]; rfl), (World.cell?_setCell_other (h := ne _ (by omega)) ..).trans h.c3, (World.cell?_setCell_other (h := ne _ (by omega)) ..).trans h.c4, by rw [World.frozen?_setCell]; exact h.f1, by rw [World.frozen?_setCell]; exact h.f2⟩

theorem clamp_i (I : Int) (n : Nat) : min (max I 0) (n : Int) = (heldN I n : Int) := by
  unfold heldN
  by_cases h1 : I ≤ 0 <;> by_cases h2 : (n : Int) ≤ I <;> simp only [h1, h2, if_true, if_false] <;> omega
theorem clamp_k (K : Int) {p n : Nat} (hp : p ≤ n) : min (max K (p : Int)) (n : Int) = ((max p (heldN K n) : Nat) : Int) := by
  unfold heldN
  by_cases h1 : K ≤ 0 <;> by_cases h2 : (n : Int) ≤ K <;> simp only [h1, h2, if_true, if_false] <;> omega

set_option maxRecDepth 100000 in
set_option maxHeartbeats 2000000 in
theorem thru_call {w : World} {x : Option Addr} {L : List Value} {n p q : Nat} (I K : Int) (HT : Tin w 118 (.pointer x) L) (hn : L.length = n) (hl : n ≤ 1000000) (hp : heldN I n = p) (hq : max p (heldN K n) = q) (pk wk : Nat) :
    Calls Try.prog 58 #[.agg #[.pointer x], .int .i64 I, .int .i64 K, fnv pk, fnv wk] w fun e w' => e = .returned (.func (.func 68) #[] #[pbox w.heap.size, pbox (w.heap.size + 1), pbox (w.heap.size + 2), pbox (w.heap.size + 3), pbox (w.heap.size + 4)]) ∧ Five2 w x p q pk wk w' := by
  obtain ⟨hb1, hz1, hh⟩ := allocs_w [Obj.cells #[.pointer x] 48, Obj.cells #[Value.int .i64 I] 3, Obj.cells #[Value.int .i64 K] 3, Obj.cells #[fnv pk] 120, Obj.cells #[fnv wk] 124] w
  simp only [List.foldl_cons, List.foldl_nil] at hb1 hz1 hh
  obtain ⟨w1, hw1⟩ : ∃ w1, ((((w.alloc (Obj.cells #[.pointer x] 48)).alloc (Obj.cells #[Value.int .i64 I] 3)).alloc (Obj.cells #[Value.int .i64 K] 3)).alloc (Obj.cells #[fnv pk] 120)).alloc (Obj.cells #[fnv wk] 124) = w1 := ⟨_, rfl⟩
  rw [hw1] at hb1 hz1 hh
  have c0 : w1.cell? ⟨w.heap.size, 0, none⟩ = some (.pointer x) := (cell_at (hh 0 (by simp)) 0).trans rfl
  have c1 : w1.cell? ⟨w.heap.size + 1, 0, none⟩ = some (.int .i64 I) := (cell_at (hh 1 (by simp)) 0).trans rfl
  have c2 : w1.cell? ⟨w.heap.size + 2, 0, none⟩ = some (.int .i64 K) := (cell_at (hh 2 (by simp)) 0).trans rfl
  have c3 : w1.cell? ⟨w.heap.size + 3, 0, none⟩ = some (fnv pk) := (cell_at (hh 3 (by simp)) 0).trans rfl
  have c4 : w1.cell? ⟨w.heap.size + 4, 0, none⟩ = some (fnv wk) := (cell_at (hh 4 (by simp)) 0).trans rfl
  have HL := Lib.hid (len_i (w := w1.drew) ((HT.below hb1).below (Below.refl _ w1).drew))
  rw [hn] at HL
  have hpn : p ≤ n := by rw [← hp]; exact heldN_le I n
  have hm0 : min (max I 0) (n : Int) = p := by rw [clamp_i, hp]
  have hm1 : min (max K (p : Int)) (n : Int) = q := by rw [clamp_k K hpn, hq]
  have hh1 : w1.heap[w.heap.size + 1]? = some (.cells #[.int .i64 I] 3 (0, 0)) := hh 1 (by simp)
  have hh2 : w1.heap[w.heap.size + 2]? = some (.cells #[.int .i64 K] 3 (0, 0)) := hh 2 (by simp)
  have h5 : Five2 w x I K pk wk w1 := ⟨hb1, Nat.le_of_eq hz1.symm, c0, c1, c2, c3, c4, unfrozen hh1 0, unfrozen hh2 0⟩
  have HT1 := HT.below hb1
  clear hh c0 c1 c2 c3 c4 hh1 hh2 hz1 hb1 hp hq
  go_enter Try.func58, Try.ntmps58
  have c0 := h5.c0
  have c1 := h5.c1
  have hf1 := h5.f1
  go_wp2_with fail
  rename_i K' hKK
  have key : ∀ W, Five2 w x p K pk wk W → K' { tmps := #[.agg #[.pointer x], .int .i64 I, .int .i64 K, fnv pk, fnv wk, pbox w.heap.size, pbox (w.heap.size + 1), pbox (w.heap.size + 1 + 1), pbox (w.heap.size + 1 + 1 + 1), pbox (w.heap.size + 1 + 1 + 1 + 1), .nilFunc, .int .i64 I, .int .i64 (max I 0), .agg #[.pointer x], .int .i64 n, .int .i64 p, undef, undef, undef, undef, undef, undef, undef], defers := [] } W := by
    intro W F5
    have HTW := HT.below F5.below
    refine hKK _ _ ?_
    clear hKK K' c0 c1 h5 HT1 hw1 hf1
    have c0 := F5.c0
    have c1 := F5.c1
    have c2 := F5.c2
    have HL := Lib.hid (len_i (w := W.drew) (HTW.below (Below.refl _ W).drew))
    rw [hn] at HL
    go_wp2_with fail
    rename_i K' hKK
    have key : ∀ V, Five2 w x p q pk wk V → K' { tmps := #[.agg #[.pointer x], .int .i64 I, .int .i64 K, fnv pk, fnv wk, pbox w.heap.size, pbox (w.heap.size + 1), pbox (w.heap.size + 1 + 1), pbox (w.heap.size + 1 + 1 + 1), pbox (w.heap.size + 1 + 1 + 1 + 1), .nilFunc, .int .i64 I, .int .i64 (max I 0), .agg #[.pointer x], .int .i64 n, .int .i64 p, .int .i64 K, .int .i64 p, .int .i64 (max K p), .agg #[.pointer x], .int .i64 n, .int .i64 q, undef], defers := [] } V := by
      intro V F5
      refine hKK _ _ ?_
      clear hKK
      go_wp2_with fail
      go_ret
      exact ⟨rfl, F5⟩
    clear hKK
    go_region_law (go_simp; go_at_call 61; refine HL.out.mono ?_; rintro e V ⟨rfl, hb2⟩; have G5 := F5.grow ((Below.refl _ W).drew.trans hb2); have c2' := G5.c2; have c1' := G5.c1; have c0' := G5.c0; have zz := G5.f2)
    all_goals (exact key _ (G5.setk _))
  clear hKK
  have HL := Lib.hid (len_i (w := w1.drew) (HT1.below (Below.refl _ w1).drew))
  rw [hn] at HL
  go_region_law (go_simp; go_at_call 61; refine HL.out.mono ?_; rintro e w2 ⟨rfl, hb2⟩; have G5 := h5.grow ((Below.refl _ w1).drew.trans hb2); have c1' := G5.c1; have zz := G5.f1)
  all_goals (exact key _ (G5.seti _))

end Go.Proofs.Ytkgakgceamafcaa

namespace Go.Proofs.Ytkgakgceamafcaa
open Go Go.RowKit Go.Shelf
set_option linter.unusedVariables false

set_option maxRecDepth 100000 in
set_option maxHeartbeats 2000000 in
theorem range_call {w : World} {x : Option Addr} {L : List Value} {n p q : Nat} (I K : Int) (HT : Tin w 118 (.pointer x) L) (hn : L.length = n) (hl : n ≤ 1000000) (hp : heldN I n = p) (hq : max p (heldN K n) = q) :
    Calls Try.prog 48 #[.agg #[.pointer x], .int .i64 I, .int .i64 K] w fun e w' => ∃ w1, Below w.heap.size w w1 ∧ w.heap.size < w1.heap.size ∧ Five2 w1 x p q 59 60 w' ∧ e = .returned (.func (.func 68) #[] #[pbox w1.heap.size, pbox (w1.heap.size + 1), pbox (w1.heap.size + 2), pbox (w1.heap.size + 3), pbox (w1.heap.size + 4)]) := by
  have hh := World.alloc_heap_new w (Obj.cells #[.pointer x] 48)
  have al := t_al w (Obj.cells #[.pointer x] 48)
  have hz : (w.alloc (Obj.cells #[.pointer x] 48)).heap.size = w.heap.size + 1 := by simp
  obtain ⟨w1, hw1⟩ : ∃ w1, w.alloc (Obj.cells #[.pointer x] 48) = w1 := ⟨_, rfl⟩
  rw [hw1] at hh al hz
  have c0 : w1.cell? ⟨w.heap.size, 0, none⟩ = some (.pointer x) := (cell_at hh 0).trans rfl
  have HR := Lib.hid (thru_call I K (HT.below al) hn hl hp hq 59 60)
  have AL := Lib.hid (And.intro al (show w.heap.size < w1.heap.size by omega))
  clear hh al HT hz
  go_enter Try.func48, Try.ntmps48
  go_wp2_with fail
  refine HR.out.mono ?_; rintro e w2 ⟨rfl, F5⟩
  go_wp2_with fail
  go_ret
  exact ⟨w1, AL.out.1, AL.out.2, F5, rfl⟩

theorem filter_all {α : Type} {p : α → Bool} {l : List α} (h : ∀ x ∈ l, p x = true) : l.filter p = l := List.filter_eq_self.2 h
theorem filter_none {α : Type} {p : α → Bool} {l : List α} (h : ∀ x ∈ l, p x = false) : l.filter p = [] := List.filter_eq_nil_iff.2 (fun x hx => by rw [h x hx]; simp)
theorem shift_mem {f : Nat} {xs : List R3} {p : Nat × R3} (h : p ∈ shiftP f (pairs xs)) : f ≤ p.1 ∧ p.1 < f + xs.length := by
  unfold shiftP at h
  obtain ⟨⟨k, x⟩, hq, rfl⟩ := List.mem_map.1 h
  have := pairs_lt hq
  constructor
  · show f ≤ f + k; omega
  · show f + k < f + xs.length; omega
/-- The stretch's pairs. -/
theorem sel_pairs (L : List R3) {p q : Nat} (hpq : p ≤ q) (hq : q ≤ L.length) : (pairs L).filter (inS p q) = shiftP p (pairs ((L.drop p).take (q - p))) := by
  have e : L = L.take p ++ ((L.drop p).take (q - p) ++ (L.drop p).drop (q - p)) := by rw [List.take_append_drop, List.take_append_drop]
  have l1 : (L.take p).length = p := by rw [List.length_take]; omega
  have l2 : ((L.drop p).take (q - p)).length = q - p := by rw [List.length_take, List.length_drop]; omega
  conv => lhs; rw [e]
  rw [pairs_app, pairs_app, List.filter_append, shiftP_app, List.filter_append, shiftP_shift, l1, l2]
  rw [filter_none (l := pairs (L.take p)), filter_all (l := shiftP p (pairs ((L.drop p).take (q - p)))), filter_none (l := shiftP (p + (q - p)) (pairs ((L.drop p).drop (q - p))))]
  · simp
  · intro x hx
    have := shift_mem hx
    unfold inS
    rw [decide_eq_false (show ¬ x.1 < q by omega)]; simp
  · intro x hx
    have := shift_mem hx
    unfold inS
    rw [decide_eq_true (show p ≤ x.1 by omega), decide_eq_true (show x.1 < q by omega)]; rfl
  · intro x hx
    have := shift_mem (f := 0) (by rw [shiftP_zero]; exact hx)
    unfold inS
    rw [decide_eq_false (show ¬ p ≤ x.1 by omega)]; rfl

theorem run_end {w : World} {T : TypeId} : ∀ {ls : List Leaf} {f : Nat} {x : Leaf}, Run w T f ls → x ∈ ls → x.2.1 + x.2.2.length ≤ f + tot ls
  | y :: ls, f, x, ⟨e1, e2, e3, e4⟩, h => by
    rw [tot_cons]
    rcases List.mem_cons.1 h with rfl | h
    · omega
    · have := run_end e4 h; omega
/-- The leaves of a tree's stretch. -/
theorem lv_of {w0 : World} {x : Option Addr} {L : List R3} (d : Bool) {p q : Nat} (HT : Tin w0 118 (.pointer x) (rws L)) (hpq : p ≤ q) (hq : q ≤ L.length) (hl : L.length ≤ 100000) :
    ∃ R1, LvOf w0 d p q x R1 ∧ LvN w0 R1 ∧ R1.flatMap (selL d p q) = dirL d (shiftP p (pairs ((L.drop p).take (q - p)))) := by
  by_cases e : p = q
  · refine ⟨[], .inl ⟨e, rfl⟩, fun x hx => by simp at hx, ?_⟩
    rw [e, Nat.sub_self, List.take_zero]
    exact (dirL_nil d).symm
  · have hT := HT
    rcases HT with ⟨_, h0⟩ | ⟨b, h, t, hx, hin, hok, hL⟩
    · have := congrArg List.length h0
      rw [rws_len, List.length_nil] at this
      omega
    · injection hx with hx
      obtain ⟨en, r1, r2, r3, r4, r5, r6⟩ := node_of h (lo := rlo h) 0 (rlo_pos h) (fun hh => by cases h with | zero => omega | succ h => rw [rlo_succ]; omega) hin hok
      rw [← hL, rws_len] at r3
      rw [← hL] at r5
      have hxe : x = some ⟨en.b, 0, none⟩ := by rw [r1]; exact hx
      refine ⟨remL d p q [en], .inr ⟨en, h, rws L, by omega, hxe, by rw [hxe] at hT; exact hT, r4, r2, by omega, by omega, rfl⟩, fun y hy => ?_, by rw [sel_all r4 r2 r5, sel_pairs L hpq hq]⟩
      have hy' : y ∈ en.ls := by
        have : remL d p q [en] = dirL d (en.ls.filter (inR p q)) ++ [] := rfl
        rw [this, List.append_nil] at hy
        unfold dirL at hy
        cases d
        · exact (List.mem_filter.1 (List.mem_reverse.1 hy)).1
        · exact (List.mem_filter.1 hy).1
      obtain ⟨u1, u2, _⟩ := node_run r4
      obtain ⟨v1, v2⟩ := run_at u1 hy'
      have v3 := run_end u1 hy'
      have hn := rws_sub (l := L) (vs := y.2.2) (fun v hv => by rw [← r5]; exact List.mem_flatMap.2 ⟨y, hy', hv⟩)
      refine ⟨rwsOf y.2.2, hn, by rw [← hn]; exact v1, by rw [rwsOf_len]; exact v2, by rw [rwsOf_len]; omega⟩

/-- What Range hands over. -/
theorem rng_f (n n₀ : Nat) {w0 w1 w : World} {x : Option Addr} {L : List R3} {p q : Nat} {D0 : Bls} (F5 : Five2 w1 x p q 59 60 w) (HT : Tin w0 118 (.pointer x) (rws L)) (hw : Below w0.heap.size w0 w) (hn0 : w0.heap.size ≤ n₀) (hn : n₀ ≤ w.heap.size) (hD0 : Have D0 w)
    (hbx : ∀ k, w1.heap.size ≤ k → k < w1.heap.size + 5 → D0 k ∨ k < n₀) (hpq : p ≤ q) (hq : q ≤ L.length) (hl : L.length ≤ 100000) :
    Iter Fence.wide n Try.prog 68 #[pbox w1.heap.size, pbox (w1.heap.size + 1), pbox (w1.heap.size + 2), pbox (w1.heap.size + 3), pbox (w1.heap.size + 4)] encP n₀ (fun ys => ys = shiftP p (pairs ((L.drop p).take (q - p)))) (fun pre => pre <+: shiftP p (pairs ((L.drop p).take (q - p)))) (fun pre y => (shiftP p (pairs ((L.drop p).take (q - p))))[pre.length]? = some y) D0 w := by
  obtain ⟨R1, h1, h2, h3⟩ := lv_of true HT hpq hq hl
  have := thru_fwd n n₀ w1.heap.size (w1.heap.size + 1) (w1.heap.size + 2) (w1.heap.size + 3) (w1.heap.size + 4) hw hn0 hn hD0 (hbx _ (by omega) (by omega)) (hbx _ (by omega) (by omega)) (hbx _ (by omega) (by omega)) (hbx _ (by omega) (by omega)) (hbx _ (by omega) (by omega)) F5.c0 F5.c1 F5.c2 F5.c3 F5.c4 h1 h2 (by omega)
  rw [h3] at this
  exact this
theorem whole_pairs (L : List R3) : shiftP 0 (pairs ((L.drop 0).take (L.length - 0))) = pairs L := by
  rw [shiftP_zero, List.drop_zero, Nat.sub_zero, List.take_length]
/-- What Range over the whole tree hands over. -/
theorem rng_all (n n₀ : Nat) {w0 w1 w : World} {x : Option Addr} {L : List R3} {D0 : Bls} (F5 : Five2 w1 x ((0 : Nat) : Int) L.length 59 60 w) (HT : Tin w0 118 (.pointer x) (rws L)) (hw : Below w0.heap.size w0 w) (hn0 : w0.heap.size ≤ n₀) (hn : n₀ ≤ w.heap.size) (hD0 : Have D0 w)
    (hbx : ∀ k, w1.heap.size ≤ k → k < w1.heap.size + 5 → D0 k ∨ k < n₀) (hl : L.length ≤ 100000) :
    Iter Fence.wide n Try.prog 68 #[pbox w1.heap.size, pbox (w1.heap.size + 1), pbox (w1.heap.size + 2), pbox (w1.heap.size + 3), pbox (w1.heap.size + 4)] encP n₀ (fun ys => ys = pairs L) (fun pre => pre <+: pairs L) (fun pre y => (pairs L)[pre.length]? = some y) D0 w := by
  have := rng_f n n₀ (p := 0) (q := L.length) F5 HT hw hn0 hn hD0 hbx (Nat.zero_le _) (Nat.le_refl _) hl
  rw [whole_pairs] at this
  exact this

end Go.Proofs.Ytkgakgceamafcaa

namespace Go.Proofs
open Go.Shelf
def Try.laysSlK4_ren : Go.Shelf.Ren := ⟨fun | 4 => 40 | n => n, fun | 22 => 23 | 4 => 4 | 5 => 5 | n => n, fun | n => n⟩
theorem Try.laysSlK4 : Go.Proofs.SlLaysK.n4 Try.prog Try.laysSlK4_ren := {
  mixed := by kernel_rfl
  f4 := Try.func40.trans (congrArg some (by kernel_rfl))
  t4 := Try.underlying4
  a4 := Try.isAgg4
  z4 := Try.sizeOf4
  v4 := Try.zeroValue4
  t22 := Try.underlying23
  a22 := Try.isAgg23
  z22 := Try.sizeOf23
  v22 := Try.zeroValue23
  t5 := Try.underlying5
  i5 := by kernel_rfl }
open Go.RowKit Go.Lib in
/-- bytes.Clone: "Clone returns a copy of b[:len(b)]. The result may have additional unused capacity.": OF A SLICE THAT IS NOT nil IT RETURNS A SLICE THAT IS NOT nil, OF THE SAME BYTES, IN MEMORY OF THE CALL's OWN: in the how-to's words (6f): 'w'.ownsRow B e 1 v' n cells' · 'Below B w w'', B the heap's size at the call. b AT WHATEVER ADDRESS, its cells as 'open_ints' hands them ('a.add i'; the numbers 'xs'). No byte: no cell is asked for. (LAID: no walk: one application.) -/
theorem Try.bytes_Clone_at (a : Addr) (n c : Nat) (xs : List Int) (w : World) (hx : xs.length = n) (hbig : n ≤ 140737488355328) (hc : ∀ i, i < n → w.cell? (a.add i) = some (.int .u8 (xs.getD i 0))) :
    Calls Try.prog 40 #[.slice (some a) n c] w fun e w' => ∃ v', e = .returned v' ∧ w'.ownsRow w.heap.size 5 1 v' n (xs.map (Value.int .u8)) ∧ v' ≠ .slice none 0 0 ∧ Below w.heap.size w w' := Any.bytes_Clone_at Try.laysSlK4 a n c xs w hx hbig hc
open Go.RowKit Go.Lib in
/-- "Clone(nil) returns nil.": the world is as it was. (LAID: no walk: one application.) -/
theorem Try.bytes_Clone_nil (n c : Nat) (w : World) :
    Calls Try.prog 40 #[.slice none n c] w fun e w' => e = .returned (.slice none 0 0) ∧ w' = w := Any.bytes_Clone_nil Try.laysSlK4 n c w
end Go.Proofs

namespace Go.Proofs.Ytkgakgceamafcaa
open Go Go.RowKit
set_option linter.unusedVariables false

/-- What Add answers, and leaves. -/
def addR (l t : List UInt8) : Int × Int × Int := if 16384 - (l.length : Int) < t.length then (0, 0, 6) else if t.length = 0 then (0, 0, 0) else (l.length, t.length, 0)
def addL (l t : List UInt8) : List UInt8 := if 16384 - (l.length : Int) < t.length then l else l ++ t
def ret3 (r : Int × Int × Int) : Ending := .returned (.tuple #[.agg #[.int .i64 r.1, .int .i64 r.2.1], .int .i64 r.2.2])
/-- What a call that may turn the arena at p leaves. -/
def ArPost (r : Int × Int × Int) (l' : List UInt8) (B p : Nat) (w : World) (e : Ending) (w' : World) : Prop := e = ret3 r ∧ Ar w' B p l' ∧ Turned B w w'

/-- The bytes, as numbers. -/
def nums (l : List UInt8) : List Int := l.map fun b => (b.toNat : Int)
theorem nums_len (l : List UInt8) : (nums l).length = l.length := by simp [nums]
theorem nums_cells (l : List UInt8) : (nums l).map (Value.int .u8) = bc l := by simp [nums, bc, Function.comp_def]
theorem nums_lt (l : List UInt8) : ∀ x ∈ nums l, 0 ≤ x ∧ x < 256 := by
  intro x hx
  simp [nums] at hx
  obtain ⟨b, _, rfl⟩ := hx
  have := b.toNat_lt
  omega
theorem nums_bytes (l : List UInt8) : Lib.bytesOf (nums l) = l := by
  unfold nums Lib.bytesOf
  rw [List.map_map]
  conv => rhs; rw [← List.map_id l]
  apply List.map_congr_left
  intro b _
  simp
theorem nums_at {l : List UInt8} {i : Nat} (hi : i < l.length) : (bc l)[i]? = some (.int .u8 ((nums l).getD i 0)) := by
  unfold bc nums
  rw [List.getElem?_map, List.getElem?_eq_getElem hi, List.getD_eq_getElem?_getD, List.getElem?_map, List.getElem?_eq_getElem hi]
  rfl

theorem own_slice {w : World} {B : Nat} {e : TypeId} {v : Value} {n : Nat} {xs : List Value} {s : Nat} (h : w.ownsRow B e s v n xs) : ∃ a c, v = .slice a n c := by
  rcases h.2 with ⟨rfl, rfl⟩ | ⟨g, cap, cur, rfl, _⟩
  · exact ⟨none, 0, rfl⟩
  · exact ⟨_, cap, rfl⟩

theorem clone_rd {w : World} {t : List UInt8} (a : Option Addr) (c : Nat) (ht : Rd w 1 a t.length (bc t)) (hl : t.length ≤ 140737488355328) :
    Calls Try.prog 40 #[.slice a t.length c] w (BytesPost t w) := by
  cases a with
  | none =>
    have h0 : t.length = 0 := by
      rcases Nat.eq_zero_or_pos t.length with h | h
      · exact h
      · obtain ⟨b, off, e, _⟩ := ht.2 h; cases e
    refine (Try.bytes_Clone_nil t.length c w).mono ?_
    rintro e w' ⟨rfl, rfl⟩
    obtain rfl := List.eq_nil_of_length_eq_zero h0
    exact ⟨none, 0, rfl, ⟨by simp [bc], .inl ⟨rfl, rfl⟩⟩, Below.refl _ _⟩
  | some ad =>
    refine (Try.bytes_Clone_at ad t.length c (nums t) w (nums_len t) hl (fun i hi => ?_)).mono ?_
    · obtain ⟨b, off, e, _, hc⟩ := ht.2 (by omega)
      injection e with e
      subst e
      rw [Addr.add_lit]
      exact hc i _ (nums_at hi)
    · rintro e w' ⟨v', rfl, h2, h3, h4⟩
      rw [nums_cells] at h2
      obtain ⟨a', c', rfl⟩ := own_slice h2
      exact ⟨a', c', rfl, h2, h4⟩

theorem new_big (v : Option Addr) (m c : Nat) (w : World) (hm : m ≤ maxLen) (h : 4096 < m) :
    Calls Try.prog 29 #[.slice v m c] w fun e w' => e = .returned (.tuple #[.pointer none, .int .i64 8]) ∧ w = w' := by
  unfold maxLen at hm
  go_enter Try.func29, Try.ntmps29
  go_wp2_with fail
  go_ret2
  exact ⟨rfl, rfl⟩
theorem new_of {w : World} {t : List UInt8} (a : Option Addr) (c : Nat) (ht : Rd w 1 a t.length (bc t)) (hl : t.length ≤ 4096) :
    Calls Try.prog 29 #[.slice a t.length c] w fun e w' => ∃ p, e = .returned (.tuple #[.pointer (some ⟨p, 0, none⟩), .int .i64 0]) ∧ Ar w' w.heap.size p t ∧ Below w.heap.size w w' := by
  have HC := Lib.hid (clone_rd a c ht (by omega))
  clear ht
  go_enter Try.func29, Try.ntmps29
  go_wp2_with fail
  refine HC.out.mono ?_
  rintro e w1 ⟨a', c', rfl, hown, hb⟩
  have HO := Lib.hid hown
  have HB := Lib.hid hb
  clear hown hb HC
  go_wp2_with fail
  go_ret2
  have hs := HB.out.size
  exact ⟨w1.heap.size, rfl, ⟨a', c', hs, heap_alloc_new _ _, HO.out.alloc _, by omega⟩, HB.out.alloc hs _⟩

/-- The first place at which bytes stand, as a span. -/
def firstR (l t : List UInt8) : Int × Int := if t.length = 0 ∨ Lib.index l t < 0 then (0, 0) else (Lib.index l t, t.length)
def ret2 (r : Int × Int) : Ending := .returned (.agg #[.int .i64 r.1, .int .i64 r.2])

theorem Ar.cell0 {w : World} {B p : Nat} {l : List UInt8} (h : Ar w B p l) : ∃ a c, w.cell? ⟨p, 0, none⟩ = some (.slice a l.length c) ∧ Rd w 1 a l.length (bc l) ∧ l.length ≤ c ∧ c ≤ maxLen ∧ p < w.heap.size ∧ (a = none → c = 0) := by
  obtain ⟨a, c, h1, h2, h3, h4⟩ := h
  obtain ⟨a', c', h5, h6, h7, h8, h9⟩ := Ar.cell ⟨a, c, h1, h2, h3, h4⟩
  refine ⟨a', c', h5, h6, h7, h8, h9, fun hn => ?_⟩
  rw [cell_at h2] at h5
  injection h5 with h5
  injection h5 with e1 _ e2
  subst e1 e2
  rcases h3.2 with ⟨e, _⟩ | ⟨g, cap, cur, e, _⟩
  · injection e
  · rw [hn] at e; injection e with e; cases e

/-- What Keep answers, and leaves. -/
def keepR (l t : List UInt8) : Int × Int × Int := if t.length = 0 ∨ Lib.index l t < 0 then addR l t else (Lib.index l t, t.length, 0)
def keepL (l t : List UInt8) : List UInt8 := if t.length = 0 ∨ Lib.index l t < 0 then addL l t else l

/-- A span's block, and what becomes of it. -/
structure SpB (w : World) (b : Nat) (x y : Int) : Prop where
  blk : w.heap[b]? = some (.cells #[.int .i64 x, .int .i64 y] 91 (0, 0))
theorem SpB.c0 {w : World} {b : Nat} {x y : Int} (h : SpB w b x y) : w.cell? ⟨b, 0, none⟩ = some (.int .i64 x) := by rw [cell_at h.blk]; rfl
theorem SpB.c1 {w : World} {b : Nat} {x y : Int} (h : SpB w b x y) : w.cell? ⟨b, 1, none⟩ = some (.int .i64 y) := by rw [cell_at h.blk]; rfl
theorem SpB.f {w : World} {b : Nat} {x y : Int} (h : SpB w b x y) (i : Nat) : w.frozen? ⟨b, i, none⟩ = false := unfrozen h.blk i
theorem SpB.lt {w : World} {b : Nat} {x y : Int} (h : SpB w b x y) : b < w.heap.size := lt_of_heap h.blk
theorem SpB.new (w : World) (x y : Int) : SpB (w.alloc (.cells #[.int .i64 x, .int .i64 y] 91)) w.heap.size x y := ⟨heap_alloc_new _ _⟩
theorem SpB.below {w w' : World} {b : Nat} {x y : Int} (h : SpB w b x y) (hb : Below w.heap.size w w') : SpB w' b x y := ⟨(hb.block b h.lt).trans h.blk⟩
theorem SpB.turned {B : Nat} {w w' : World} {b : Nat} {x y : Int} (h : SpB w b x y) (ht : Turned B w w') : SpB w' b x y :=
  ⟨(ht.rest b h.lt (fun cs hc => by rw [h.blk] at hc; injection hc with hc; injection hc with _ hc; exact absurd hc (by decide)) (fun cs hc => by rw [h.blk] at hc; injection hc with hc; injection hc with _ hc; exact absurd hc (by decide))).trans h.blk⟩
theorem SpB.both {w : World} {b : Nat} {x' y' x y : Int} (h : SpB w b x' y') : SpB ((w.setCell ⟨b, 0, none⟩ (.int .i64 x)).setCell ⟨b, 1, none⟩ (.int .i64 y)) b x y :=
  ⟨by rw [heap_set_at (heap_set_at h.blk)]; rfl⟩
theorem below_two {w0 w : World} {b : Nat} (h : Below w0.heap.size w0 w) (hb : w0.heap.size ≤ b) (u v : Value) : Below w0.heap.size w0 ((w.setCell ⟨b, 0, none⟩ u).setCell ⟨b, 1, none⟩ v) :=
  (h.setCell (p := ⟨b, 0, none⟩) hb u).setCell (p := ⟨b, 1, none⟩) hb v
theorem turned_two {B : Nat} {w0 w : World} {b : Nat} (h : Turned B w0 w) (hB : B ≤ w0.heap.size) (hb : w0.heap.size ≤ b) (u v : Value) : Turned B w0 ((w.setCell ⟨b, 0, none⟩ u).setCell ⟨b, 1, none⟩ v) :=
  (h.set_new hB hb).set_new hB hb

end Go.Proofs.Ytkgakgceamafcaa

namespace Go.Proofs.Ytkgakgceamafcaa
open Go Go.RowKit
set_option linter.unusedVariables false

/-- What the library's search reads: one of its variables, whatever it holds. -/
def ML (w : World) : Prop := 0 < w.heap.size ∧ ∃ m, w.cell? ⟨0, 0, none⟩ = some (.int .i64 m)
theorem ML.below {B : Nat} {w w' : World} (h : ML w) (hb : Below B w w') (hB : 0 < B) : ML w' := by
  obtain ⟨h1, m, h2⟩ := h
  exact ⟨Nat.lt_of_lt_of_le h1 hb.size, m, (hb.cell (p := ⟨0, 0, none⟩) hB).trans h2⟩

/-- A block of bytes that stands in memory reads as these. -/
theorem rd_new {w : World} {b : Nat} {t : List UInt8} {fr : Nat × Nat} {ty : TypeId} (h : w.heap[b]? = some (.cells (bc t).toArray ty fr)) : Rd w 1 (some ⟨b, 0, none⟩) t.length (bc t) :=
  ⟨by rw [bc_len]; omega, fun hn => ⟨b, 0, rfl, lt_of_heap h, fun j u hu => by rw [Nat.zero_add, cell_at h]; simpa using hu⟩⟩

theorem ex_new {w : World} {b c : Nat} {fr : Nat × Nat} {ty : TypeId} (h : w.heap[b]? = some (.cells #[.int .u8 120] ty fr)) :
    Calls Try.prog 29 #[.slice (some ⟨b, 0, none⟩) 1 c] w fun e w' => ∃ p, e = .returned (.tuple #[.pointer (some ⟨p, 0, none⟩), .int .i64 0]) ∧ Ar w' w.heap.size p [120] ∧ Below w.heap.size w w' :=
  new_of (t := [120]) _ c (rd_new (t := [120]) h) (by decide)
theorem own_form {w : World} {B sz n c : Nat} {e : TypeId} {a : Option Addr} {xs : List Value} (h : w.ownsRow B e sz (.slice a n c) n xs) : (a = none ∧ n = 0) ∨ ∃ g, a = some ⟨g, 0, none⟩ ∧ B ≤ g ∧ g < w.heap.size := by
  rcases h.2 with ⟨e, h0⟩ | ⟨g, cap, cur, e, h1, h2, _⟩
  · injection e with e1
    exact .inl ⟨e1, h0⟩
  · injection e with e1
    exact .inr ⟨g, e1, h1, lt_of_heap h2⟩
theorem string_own {w : World} {B : Nat} {a : Option Addr} {c : Nat} {l : List UInt8} (h : w.ownsRow B 5 1 (.slice a l.length c) l.length (bc l)) :
    (convert 23 9 (.slice a l.length c)).run Try.prog w = .ok (.string (strOf l)) w := by
  rcases own_form h with ⟨rfl, h0⟩ | ⟨g, rfl, _, hlt⟩
  · obtain rfl := List.eq_nil_of_length_eq_zero h0
    exact run_convert_bytes_nil w 23 5 Try.underlying23 Try.underlying5 0 c 9 Try.underlying9
  · refine string_of (strOf l) w g 0 c (fun j hj => ?_)
    have hj' : j < l.length := hj
    have := h.cells (g := g) rfl j _ (nums_at hj')
    rw [Addr.add_lit] at this
    rw [this]
    unfold bt strOf nums
    simp [List.getD_eq_getElem?_getD, List.getElem?_map, List.getElem?_eq_getElem hj']
theorem ex_bytes {w : World} {B p : Nat} (hA : Ar w B p [120, 97, 98]) :
    Calls Try.prog 82 #[.pointer (some ⟨p, 0, none⟩), .agg #[.int .i64 1, .int .i64 2]] w fun e w' => ∃ a c, e = .returned (.slice a 2 c) ∧ (convert 23 9 (.slice a 2 c)).run Try.prog w' = .ok (.string ⟨#[97, 98]⟩) w' ∧ Below w.heap.size w w' := by
  refine (abytes_of hA (by decide) 1 2).mono ?_
  rintro e w' ⟨a, c, rfl, ho, hb⟩
  exact ⟨a, c, rfl, string_own (l := [97, 98]) ho, hb⟩

end Go.Proofs.Ytkgakgceamafcaa
