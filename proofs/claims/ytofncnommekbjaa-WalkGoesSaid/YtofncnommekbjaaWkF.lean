/-
  through and Range at a tree that is one leaf, over all of it.
-/
import Derived.Test.YtofncnommekbjaaWkE
import Derived.Lib.MinMax
namespace Go.Proofs.Ytofncnommekbjaa
open Go Go.RowKit Go.Shelf
set_option linter.unusedVariables false

theorem cell_again {W : World} {p q : Addr} {u v : Value} (h : W.cell? q = some u) (hp : W.cell? p = some v) : (W.setCell p v).cell? q = some u := by
  by_cases e : p = q
  · subst e
    rw [h] at hp
    injection hp with hp
    rw [World.cell?_setCell_same' _ _ _ (by rw [h]; rfl), hp]
  · exact (World.cell?_setCell_other (h := e) ..).trans h
/-- The five boxes of through. -/
structure Five (w : World) (b len pk wk : Nat) (W : World) : Prop where
  below : Below w.heap.size w W
  size : w.heap.size + 5 ≤ W.heap.size
  c0 : W.cell? ⟨w.heap.size, 0, none⟩ = some (ptr b)
  c1 : W.cell? ⟨w.heap.size + 1, 0, none⟩ = some (.int .i64 0)
  c2 : W.cell? ⟨w.heap.size + 2, 0, none⟩ = some (.int .i64 len)
  c3 : W.cell? ⟨w.heap.size + 3, 0, none⟩ = some (fnv pk)
  c4 : W.cell? ⟨w.heap.size + 4, 0, none⟩ = some (fnv wk)
  f1 : W.frozen? ⟨w.heap.size + 1, 0, none⟩ = false
  f2 : W.frozen? ⟨w.heap.size + 2, 0, none⟩ = false
theorem Five.grow {w W W' : World} {b len pk wk : Nat} (h : Five w b len pk wk W) (hb : Below W.heap.size W W') : Five w b len pk wk W' := by
  have hs := h.size
  exact ⟨h.below.trans (hb.mono h.below.size), Nat.le_trans hs hb.size, (hb.cell (p := ⟨w.heap.size, 0, none⟩) (show w.heap.size < W.heap.size by omega)).trans h.c0, (hb.cell (p := ⟨w.heap.size + 1, 0, none⟩) (show w.heap.size + 1 < W.heap.size by omega)).trans h.c1, (hb.cell (p := ⟨w.heap.size + 2, 0, none⟩) (show w.heap.size + 2 < W.heap.size by omega)).trans h.c2, (hb.cell (p := ⟨w.heap.size + 3, 0, none⟩) (show w.heap.size + 3 < W.heap.size by omega)).trans h.c3, (hb.cell (p := ⟨w.heap.size + 4, 0, none⟩) (show w.heap.size + 4 < W.heap.size by omega)).trans h.c4, (hb.frozen (p := ⟨w.heap.size + 1, 0, none⟩) (show w.heap.size + 1 < W.heap.size by omega)).trans h.f1, (hb.frozen (p := ⟨w.heap.size + 2, 0, none⟩) (show w.heap.size + 2 < W.heap.size by omega)).trans h.f2⟩
theorem Five.set {w W : World} {b len pk wk i : Nat} {v : Value} (h : Five w b len pk wk W) (hv : W.cell? ⟨w.heap.size + i, 0, none⟩ = some v) : Five w b len pk wk (W.setCell ⟨w.heap.size + i, 0, none⟩ v) :=
  ⟨h.below.setCell (p := ⟨w.heap.size + i, 0, none⟩) (Nat.le_add_right _ _) _, by rw [World.size_setCell]; exact h.size, cell_again h.c0 hv, cell_again h.c1 hv, cell_again h.c2 hv, cell_again h.c3 hv, cell_again h.c4 hv, by rw [World.frozen?_setCell]; exact h.f1, by rw [World.frozen?_setCell]; exact h.f2⟩

set_option maxRecDepth 100000 in
set_option maxHeartbeats 2000000 in
theorem thru_i {w : World} {b : Nat} {xs : List Int} (HT : Tin w 95 (ptr b) (nums xs)) (hl : xs.length ≤ 1000000) (pk wk : Nat) :
    Calls Try.prog 68 #[.agg #[ptr b], .int .i64 0, .int .i64 xs.length, fnv pk, fnv wk] w fun e w' => e = .returned (.func (.func 90) #[] #[pbox w.heap.size, pbox (w.heap.size + 1), pbox (w.heap.size + 2), pbox (w.heap.size + 3), pbox (w.heap.size + 4)]) ∧ Five w b xs.length pk wk w' := by
  obtain ⟨hb1, hz1, hh⟩ := allocs [Obj.cells #[ptr b] 27, Obj.cells #[Value.int .i64 0] 3, Obj.cells #[Value.int .i64 xs.length] 3, Obj.cells #[fnv pk] 107, Obj.cells #[fnv wk] 111] w
  simp only [List.foldl_cons, List.foldl_nil] at hb1 hz1 hh
  obtain ⟨w1, hw1⟩ : ∃ w1, ((((w.alloc (Obj.cells #[ptr b] 27)).alloc (Obj.cells #[Value.int .i64 0] 3)).alloc (Obj.cells #[Value.int .i64 xs.length] 3)).alloc (Obj.cells #[fnv pk] 107)).alloc (Obj.cells #[fnv wk] 111) = w1 := ⟨_, rfl⟩
  rw [hw1] at hb1 hz1 hh
  have c0 : w1.cell? ⟨w.heap.size, 0, none⟩ = some (ptr b) := (cell_at (hh 0 (by simp)) 0).trans rfl
  have c1 : w1.cell? ⟨w.heap.size + 1, 0, none⟩ = some (.int .i64 0) := (cell_at (hh 1 (by simp)) 0).trans rfl
  have c2 : w1.cell? ⟨w.heap.size + 2, 0, none⟩ = some (.int .i64 xs.length) := (cell_at (hh 2 (by simp)) 0).trans rfl
  have c3 : w1.cell? ⟨w.heap.size + 3, 0, none⟩ = some (fnv pk) := (cell_at (hh 3 (by simp)) 0).trans rfl
  have c4 : w1.cell? ⟨w.heap.size + 4, 0, none⟩ = some (fnv wk) := (cell_at (hh 4 (by simp)) 0).trans rfl
  have HL := Lib.hid (len_i (w := w1.drew) ((HT.below hb1).below (Below.refl _ w1).drew))
  rw [nums_len] at HL
  have hm0 : min (0 : Int) (xs.length : Int) = 0 := by omega
  have hm1 : max (xs.length : Int) 0 = xs.length := by omega
  have hh1 : w1.heap[w.heap.size + 1]? = some (.cells #[.int .i64 0] 3 (0, 0)) := hh 1 (by simp)
  have hh2 : w1.heap[w.heap.size + 2]? = some (.cells #[.int .i64 xs.length] 3 (0, 0)) := hh 2 (by simp)
  have h5 : Five w b xs.length pk wk w1 := ⟨hb1, Nat.le_of_eq hz1.symm, c0, c1, c2, c3, c4, unfrozen hh1 0, unfrozen hh2 0⟩
  have HT1 := HT.below hb1
  clear hh c0 c1 c2 c3 c4 hh1 hh2 hz1 hb1
  go_enter Try.func68, Try.ntmps68
  have c0 := h5.c0
  have c1 := h5.c1
  go_wp2_with fail
  rename_i K hKK
  have key : ∀ W, Five w b xs.length pk wk W → K { tmps := #[.agg #[ptr b], .int .i64 0, .int .i64 xs.length, fnv pk, fnv wk, pbox w.heap.size, pbox (w.heap.size + 1), pbox (w.heap.size + 1 + 1), pbox (w.heap.size + 1 + 1 + 1), pbox (w.heap.size + 1 + 1 + 1 + 1), .nilFunc, .int .i64 0, .int .i64 0, .agg #[ptr b], .int .i64 xs.length, .int .i64 0, undef, undef, undef, undef, undef, undef, undef], defers := [] } W := by
    intro W F5
    have HTW := HT.below F5.below
    refine hKK _ _ ?_
    clear hKK K c0 c1 h5 HT1 hw1
    have c0 := F5.c0
    have c1 := F5.c1
    have c2 := F5.c2
    have HL := Lib.hid (len_i (w := W.drew) (HTW.below (Below.refl _ W).drew))
    rw [nums_len] at HL
    go_wp2_with fail
    rename_i K hKK
    have key : ∀ V, Five w b xs.length pk wk V → K { tmps := #[.agg #[ptr b], .int .i64 0, .int .i64 xs.length, fnv pk, fnv wk, pbox w.heap.size, pbox (w.heap.size + 1), pbox (w.heap.size + 1 + 1), pbox (w.heap.size + 1 + 1 + 1), pbox (w.heap.size + 1 + 1 + 1 + 1), .nilFunc, .int .i64 0, .int .i64 0, .agg #[ptr b], .int .i64 xs.length, .int .i64 0, .int .i64 xs.length, .int .i64 0, .int .i64 xs.length, .agg #[ptr b], .int .i64 xs.length, .int .i64 xs.length, undef], defers := [] } V := by
      intro V F5
      refine hKK _ _ ?_
      clear hKK
      go_wp2_with fail
      go_ret
      exact ⟨rfl, F5⟩
    clear hKK
    go_region_law (go_simp; go_at_call 46; refine HL.out.mono ?_; rintro e V ⟨rfl, hb2⟩; have G5 := F5.grow ((Below.refl _ W).drew.trans hb2); have c2' := G5.c2; have c1' := G5.c1; have c0' := G5.c0; have zz := G5.f2)
    all_goals (exact key _ (G5.set (i := 2) G5.c2))
  clear hKK
  have HL := Lib.hid (len_i (w := w1.drew) (HT1.below (Below.refl _ w1).drew))
  rw [nums_len] at HL
  go_region_law (go_simp; go_at_call 46; refine HL.out.mono ?_; rintro e w2 ⟨rfl, hb2⟩; have G5 := h5.grow ((Below.refl _ w1).drew.trans hb2); have c1' := G5.c1; have zz := G5.f1)
  all_goals (exact key _ (G5.set (i := 1) G5.c1))

end Go.Proofs.Ytofncnommekbjaa
