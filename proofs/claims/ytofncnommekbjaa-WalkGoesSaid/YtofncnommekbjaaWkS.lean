/-
  walk.Slice, Splice and Move.
-/
import Derived.Test.YtofncnommekbjaaTrW
import Derived.Test.YtofncnommekbjaaTrV
import Derived.Lib.MinMax
namespace Go.Proofs.Ytofncnommekbjaa
open Go Go.RowKit
set_option linter.unusedVariables false

theorem pair_boxes (w4 : World) (TT : TypeId) (x y : Option Addr) : ∃ w5 w6, (w4.alloc (Obj.cells #[Value.pointer none] TT)).alloc (Obj.cells #[Value.pointer none] TT) = w5 ∧ (w5.setCell ⟨w4.heap.size, 0, none⟩ (.pointer x)).setCell ⟨w4.heap.size + 1, 0, none⟩ (.pointer y) = w6 ∧
    (∀ i, w5.frozen? ⟨w4.heap.size, i, none⟩ = false) ∧ w5.cell? ⟨w4.heap.size, 0, none⟩ = some (.pointer none) ∧ (∀ i, (w5.setCell ⟨w4.heap.size, 0, none⟩ (.pointer x)).frozen? ⟨w4.heap.size + 1, i, none⟩ = false) ∧ (w5.setCell ⟨w4.heap.size, 0, none⟩ (.pointer x)).cell? ⟨w4.heap.size + 1, 0, none⟩ = some (.pointer none) ∧
    Below w4.heap.size w4 w6 ∧ w6.heap.size = w4.heap.size + 2 ∧ w6.cell? ⟨w4.heap.size, 0, none⟩ = some (.pointer x) ∧ w6.cell? ⟨w4.heap.size + 1, 0, none⟩ = some (.pointer y) ∧ w5.heap.size = w4.heap.size + 2 := by
  obtain ⟨w5, hw5, hb5, hz5, hE, hF⟩ := two_blocks w4 (Obj.cells #[Value.pointer none] TT) (Obj.cells #[Value.pointer none] TT)
  have hF2 : (w5.setCell ⟨w4.heap.size, 0, none⟩ (Value.pointer x)).heap[w4.heap.size + 1]? = some (.cells #[Value.pointer none] TT (0, 0)) := (heap_set_other (by omega)).trans hF
  have hE2 : (w5.setCell ⟨w4.heap.size, 0, none⟩ (Value.pointer x)).heap[w4.heap.size]? = some (.cells #[Value.pointer x] TT (0, 0)) := by rw [heap_set_at hE]; rfl
  have m1 := (heap_set_other (w := w5.setCell ⟨w4.heap.size, 0, none⟩ (Value.pointer x)) (p := w4.heap.size + 1) (b := w4.heap.size) (o := 0) (u := Value.pointer y) (by omega)).trans hE2
  have m2 : ((w5.setCell ⟨w4.heap.size, 0, none⟩ (Value.pointer x)).setCell ⟨w4.heap.size + 1, 0, none⟩ (Value.pointer y)).heap[w4.heap.size + 1]? = some (.cells #[Value.pointer y] TT (0, 0)) := by rw [heap_set_at hF2]; rfl
  refine ⟨w5, _, hw5, rfl, fun i => unfrozen hE i, by rw [cell_at hE]; rfl, fun i => unfrozen hF2 i, by rw [cell_at hF2]; rfl, ?_, by rw [size_set, size_set]; exact hz5, by rw [cell_at m1]; rfl, by rw [cell_at m2]; rfl, hz5⟩
  exact (hb5.setCell (p := ⟨w4.heap.size, 0, none⟩) (Nat.le_refl _) _).setCell (p := ⟨w4.heap.size + 1, 0, none⟩) (by show w4.heap.size ≤ w4.heap.size + 1; omega) _

abbrev pbx (b : Nat) : Value := .pointer (some ⟨b, 0, none⟩)
/-- The things from I to K. -/
def slV {α : Type} (L : List α) (I K : Int) : List α := (L.take (heldN K L.length)).drop (heldN I (L.take (heldN K L.length)).length)

set_option maxRecDepth 100000 in
set_option maxHeartbeats 2000000 in
theorem slice_i {w : World} {x : Option Addr} {L : List Value} (I K : Int) (H : Tin w 95 (.pointer x) L) (hg : Gd L) (hf : L.length ≤ 100000) :
    Calls Try.prog 33 #[.agg #[.pointer x], .int .i64 I, .int .i64 K] w fun e w' => ∃ y, e = .returned (.agg #[.pointer y]) ∧ Tin w' 95 (.pointer y) (slV L I K) ∧ Below w.heap.size w w' := by
  unfold slV
  obtain ⟨w1, hw1, hb1, hz1, hA, hC⟩ := two_blocks w (Obj.cells #[.pointer x] 27) (Obj.cells #[Value.pointer none] 27)
  have c0 : w1.cell? ⟨w.heap.size, 0, none⟩ = some (.pointer x) := by rw [cell_at hA]; rfl
  have HB1 := Lib.hid (And.intro hb1 hC)
  have HS := Lib.hid (split_i _ (pv := .pointer x) K (Nat.le_refl _) (H.below hb1) hg hf)
  unfold SpPost at HS
  have hf2 : (L.take (heldN K L.length)).length ≤ 100000 := by rw [List.length_take]; omega
  have HG := Lib.hid (gd_take hg (heldN K L.length))
  generalize L.take (heldN K L.length) = M at *
  have hlt1 : w.heap.size + 1 < w1.heap.size := by omega
  clear hA hC hb1 H hg hf
  go_enter Try.func33, Try.ntmps33
  go_wp2_with fail
  refine HS.out.mono ?_; rintro e w2 ⟨x1, x2, rfl, t1, t2, hb2⟩
  obtain ⟨w3, w4, hw3, hw4, zA, rA, zB, rB, hb4, hz4, q1, q2, hz3⟩ := pair_boxes w2 27 x1 x2
  have hb14 := hb2.trans (hb4.mono hb2.size)
  have hC4 := (hb14.block _ hlt1).trans HB1.out.2
  have HB4 := Lib.hid (And.intro (HB1.out.1.trans (hb14.mono HB1.out.1.size)) hC4)
  have hlt4 := Nat.lt_of_lt_of_le hlt1 hb14.size
  have HS2 := Lib.hid (split_i _ (pv := .pointer x1) I (Nat.le_refl _) (t1.below hb4) HG.out hf2)
  unfold SpPost at HS2
  clear t1 t2 hb2 hb4 hb14 hC4 HS
  go_wp2_with fail
  refine HS2.out.mono ?_; rintro e w5 ⟨x3, x4, rfl, t3, t4, hb5⟩
  obtain ⟨w6, w7, hw6, hw7, zC, rC, zD, rD, hb7, hz7, q3, q4, hz6⟩ := pair_boxes w5 27 x3 x4
  have hb47 := hb5.trans (hb7.mono hb5.size)
  have hC7 := (hb47.block _ hlt4).trans HB4.out.2
  have HB7 := Lib.hid (And.intro (HB4.out.1.trans (hb47.mono HB4.out.1.size)) hC7)
  have HT7 := Lib.hid (t4.below hb7)
  have zz := fun i => unfrozen hC7 i
  have r0 : w7.cell? ⟨w.heap.size + 1, 0, none⟩ = some (.pointer none) := by rw [cell_at hC7]; rfl
  have HG4 := Lib.hid (gd_drop HG.out (heldN I M.length))
  clear t3 t4 hb5 hb7 hb47 hC7 HS2
  go_wp2_with fail
  have hs := heap_set_at (o := 0) (u := Value.pointer x4) HB7.out.2
  have hB := HB7.out.1.setCell (p := ⟨w.heap.size + 1, 0, none⟩) (by show _ ≤ w.heap.size + 1; omega) (Value.pointer x4)
  have hT := HT7.out.setNil (u := Value.pointer x4) HB7.out.2 (by decide) HG4.out
  have q0 : (w7.setCell ⟨w.heap.size + 1, 0, none⟩ (Value.pointer x4)).cell? ⟨w.heap.size + 1, 0, none⟩ = some (Value.pointer x4) := by rw [cell_at hs]; rfl
  exact bodyPost_ret (v := .agg #[.pointer x4]) (by simp [results, Try.results33, go_sem, q0]) rfl ⟨x4, rfl, hT, hB⟩

/-- The things with others in the place of those from I to K. -/
def spV {α : Type} (L : List α) (I K : Int) (M : List α) : List α := L.take (heldN I L.length) ++ M ++ L.drop (heldN (max I K) L.length)

set_option maxRecDepth 100000 in
set_option maxHeartbeats 4000000 in
theorem splice_i {w : World} {x u : Option Addr} {L M : List Value} (I K : Int) (H : Tin w 95 (.pointer x) L) (H' : Tin w 95 (.pointer u) M) (hg : Gd L) (hg' : Gd M) (hf : L.length + M.length + L.length ≤ 100000) :
    Calls Try.prog 34 #[.agg #[.pointer x], .int .i64 I, .int .i64 K, .agg #[.pointer u]] w fun e w' => ∃ y, e = .returned (.agg #[.pointer y]) ∧ Tin w' 95 (.pointer y) (spV L I K M) ∧ Below w.heap.size w w' := by
  unfold spV
  obtain ⟨X, hX⟩ : ∃ X, max I K = X := ⟨_, rfl⟩
  rw [hX]
  obtain ⟨w1, hw1, hb1, hz1, hA, hU, hC⟩ := three_blocks w (Obj.cells #[.pointer x] 27) (Obj.cells #[.pointer u] 27) (Obj.cells #[Value.pointer none] 27)
  have c0 : w1.cell? ⟨w.heap.size, 0, none⟩ = some (.pointer x) := by rw [cell_at hA]; rfl
  have u0 : w1.cell? ⟨w.heap.size + 1, 0, none⟩ = some (.pointer u) := by rw [cell_at hU]; rfl
  have HB1 := Lib.hid (And.intro hb1 hC)
  have HT1 := Lib.hid (And.intro (H.below hb1) (H'.below hb1))
  have HS := Lib.hid (split_i _ (pv := .pointer x) I (Nat.le_refl _) (H.below hb1) hg (by omega))
  unfold SpPost at HS
  have hl1 : (L.take (heldN I L.length)).length ≤ L.length := by rw [List.length_take]; omega
  have hl2 : (L.drop (heldN X L.length)).length ≤ L.length := by rw [List.length_drop]; omega
  have HG := Lib.hid (And.intro (gd_take hg (heldN I L.length)) (gd_drop hg (heldN X L.length)))
  have HS2 := Lib.hid (fun W (hT : Tin W 95 (.pointer x) L) => split_i _ (pv := .pointer x) X (Nat.le_refl _) hT hg (by omega))
  unfold SpPost at HS2
  generalize L.take (heldN I L.length) = L1 at *
  generalize L.drop (heldN X L.length) = L2 at *
  have hlt1 : w.heap.size + 2 < w1.heap.size := by omega
  clear hA hC hU hb1 H H' hg
  go_enter Try.func34, Try.ntmps34
  go_wp2_with fail
  refine HS.out.mono ?_; rintro e w2 ⟨x1, x2, rfl, t1, _, hb2⟩
  obtain ⟨w3, w4, hw3, hw4, zA, rA, zB, rB, hb4, hz4, q1, q2, hz3⟩ := pair_boxes w2 27 x1 x2
  have hb14 := hb2.trans (hb4.mono hb2.size)
  have hC4 := (hb14.block _ hlt1).trans HB1.out.2
  have HB4 := Lib.hid (And.intro (HB1.out.1.trans (hb14.mono HB1.out.1.size)) hC4)
  have c04 := (hb14.cell (p := ⟨w.heap.size, 0, none⟩) (show w.heap.size < w1.heap.size by omega)).trans c0
  have u04 := (hb14.cell (p := ⟨w.heap.size + 1, 0, none⟩) (show w.heap.size + 1 < w1.heap.size by omega)).trans u0
  have hlt4 := Nat.lt_of_lt_of_le hlt1 hb14.size
  have hlt24 : w2.heap.size < w4.heap.size := by omega
  have HT4 := Lib.hid (And.intro (HT1.out.1.below hb14) (And.intro (HT1.out.2.below hb14) (t1.below hb4)))
  have HS3 := Lib.hid (HS2.out _ HT4.out.1)
  clear t1 hb2 hb4 hb14 hC4 HS c0 u0
  go_wp2_with fail
  refine HS3.out.mono ?_; rintro e w5 ⟨x3, x4, rfl, _, t4, hb5⟩
  obtain ⟨w6, w7, hw6, hw7, zC, rC, zD, rD, hb7, hz7, q3, q4, hz6⟩ := pair_boxes w5 27 x3 x4
  have hb47 := hb5.trans (hb7.mono hb5.size)
  have hC7 := (hb47.block _ hlt4).trans HB4.out.2
  have HB7 := Lib.hid (And.intro (HB4.out.1.trans (hb47.mono HB4.out.1.size)) hC7)
  have HT7 := Lib.hid (And.intro (HT4.out.2.1.below hb47) (And.intro (HT4.out.2.2.below hb47) (t4.below hb7)))
  have u07 := (hb47.cell (p := ⟨w.heap.size + 1, 0, none⟩) (show w.heap.size + 1 < w4.heap.size by omega)).trans u04
  have q17 := (hb47.cell (p := ⟨w2.heap.size, 0, none⟩) hlt24).trans q1
  have HJ1 := Lib.hid (Join_i (w := w7.drew) (HT7.out.2.1.below (Below.refl _ w7).drew) (HT7.out.1.below (Below.refl _ w7).drew) HG.out.1 hg' (by omega))
  have hlt7 := Nat.lt_of_lt_of_le hlt4 hb47.size
  have hlt57 : w5.heap.size + 1 < w7.heap.size := by omega
  clear t4 hb5 hb7 hb47 hC7 HS3 HS2
  go_wp2_with fail
  rename_i KK hKK
  have hx4 : Tin w7 95 (.pointer x4) L2 := HT7.out.2.2
  have key : ∀ (j y : Option Addr) (W : World), Below w7.heap.size w7 W → Tin W 95 (.pointer y) (L1 ++ M ++ L2) → KK { tmps := #[.agg #[.pointer x], .int .i64 I, .int .i64 K, .agg #[.pointer u], pbx w.heap.size, undef, undef, pbx (w.heap.size + 1), pbx (w.heap.size + 1 + 1), pbx w2.heap.size, pbx (w2.heap.size + 1), pbx w5.heap.size, pbx (w5.heap.size + 1), .tuple #[.agg #[.pointer x1], .agg #[.pointer x2]], .agg #[.pointer x], .int .i64 I, .tuple #[.agg #[.pointer x1], .agg #[.pointer x2]], .agg #[.pointer x1], .agg #[.pointer x2], .tuple #[.agg #[.pointer x3], .agg #[.pointer x4]], .agg #[.pointer x], .int .i64 I, .int .i64 K, .int .i64 X, .tuple #[.agg #[.pointer x3], .agg #[.pointer x4]], .agg #[.pointer x3], .agg #[.pointer x4], .agg #[.pointer x1], .agg #[.pointer u], .agg #[.pointer j], .agg #[.pointer x4], .agg #[.pointer y]], defers := [] } (W.setCell ⟨w.heap.size + 1 + 1, 0, none⟩ (.pointer y)) := by
    intro j y W hbW hTW
    refine hKK _ _ ?_
    have hCW := (hbW.block _ hlt7).trans HB7.out.2
    have hBW := HB7.out.1.trans (hbW.mono HB7.out.1.size)
    have hGG : Gd (L1 ++ M ++ L2) := fun v hv => by
      rcases List.mem_append.1 hv with h | h
      · rcases List.mem_append.1 h with h | h
        · exact HG.out.1 v h
        · exact hg' v h
      · exact HG.out.2 v h
    have hs := heap_set_at (o := 0) (u := Value.pointer y) hCW
    have hB := hBW.setCell (p := ⟨w.heap.size + 2, 0, none⟩) (by show _ ≤ w.heap.size + 2; omega) (Value.pointer y)
    have hT := hTW.setNil (u := Value.pointer y) hCW (by decide) hGG
    have q0 : (W.setCell ⟨w.heap.size + 1 + 1, 0, none⟩ (Value.pointer y)).cell? ⟨w.heap.size + 1 + 1, 0, none⟩ = some (Value.pointer y) := by rw [cell_at hs]; rfl
    clear hKK hw1 hw3 hw4 hw6 hw7
    go_wp2_with fail
    exact bodyPost_ret (v := .agg #[.pointer y]) (by simp [results, Try.results34, go_sem, q0]) rfl ⟨y, rfl, hT, hB⟩
  clear hKK
  go_region_with (first
    | (refine HJ1.out.mono ?_; clear HJ1; rintro e V ⟨j, rfl, tj, hbV⟩
       have q4V := (hbV.cell (p := ⟨w5.heap.size + 1, 0, none⟩) hlt57).trans q4
       have hb7V := (Below.refl _ w7).drew.trans hbV
       have HJ2 := Lib.hid (Join_i tj (hx4.below hb7V) (fun v hv => (List.mem_append.1 hv).elim (HG.out.1 v) (hg' v)) HG.out.2 (by rw [List.length_append]; omega)))
    | (refine HJ2.out.mono ?_; clear HJ2; rintro e V2 ⟨y, rfl, ty, hbV2⟩
       have hb7V2 := hb7V.trans (hbV2.mono hb7V.size)
       have hCV := (hb7V2.block _ hlt7).trans HB7.out.2
       have zz := fun i => unfrozen hCV i
       have r0 : V2.cell? ⟨w.heap.size + 2, 0, none⟩ = some (.pointer none) := by rw [cell_at hCV]; rfl))
  all_goals (exact key _ _ _ hb7V2 ty)

end Go.Proofs.Ytofncnommekbjaa
