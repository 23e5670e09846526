/-
  The example of layer 10, at this seat's numbers.
-/
import Derived.Test.YtofncnommekbjaaWkI
import Derived.Test.YtofncnommekbjaaWkT
namespace Go.Proofs.Ytofncnommekbjaa
open Go Go.RowKit
set_option linter.unusedVariables false

set_option maxRecDepth 100000 in
set_option maxHeartbeats 4000000 in
/-- Four numbers, the first one put last. -/
theorem awake10_of {w : World} : Calls Try.prog 32 #[] w fun e w' => e = .returned (.bool true) ∧ Below w.heap.size w w' := by
  have hh := heap_alloc_new w (Obj.cells (nums [1, 2, 3, 4]).toArray 3)
  have al := t_al w (Obj.cells (nums [1, 2, 3, 4]).toArray 3)
  have HO := Lib.hid (tof_i (n := 4) (Sl.new hh (by unfold maxLen; decide) (nums_one _)) rfl (by omega) (nums_gd _))
  have AL := Lib.hid al
  have hV : mvV (nums [1, 2, 3, 4]) 0 1 3 = nums [2, 3, 4, 1] := by kernel_rfl
  have HV := Lib.hid hV
  clear hh al hV
  go_enter Try.func32, Try.ntmps32
  go_wp2_with fail
  refine HO.out.mono ?_; rintro e w1 ⟨x1, rfl, hT1, hb1⟩
  obtain ⟨b1, rfl, hin1⟩ := leaf_of hT1 (by decide) (by decide)
  obtain ⟨w2, hw2, hb2, hz2, hh2⟩ := box_eq w1 27 (some ⟨b1, 0, none⟩)
  have c2 : w2.cell? ⟨w1.heap.size, 0, none⟩ = some (ptr b1) := by rw [cell_at hh2]; rfl
  have HT2 := Lib.hid (And.intro (hT1.below hb2) (hin1.below hb2))
  have HM := Lib.hid (move_i 0 1 3 HT2.out.1 (nums_gd _) (by decide))
  rw [HV.out] at HM
  have HB2 := Lib.hid (AL.out.trans ((hb1.trans (hb2.mono hb1.size)).mono AL.out.size))
  have hlt2 : w1.heap.size < w2.heap.size := by omega
  clear hT1 hb1 HO hb2 hin1
  go_wp2_with fail
  refine HM.out.mono ?_; rintro e w3 ⟨x3, rfl, hT3, hb3⟩
  obtain ⟨b3, rfl, hin3⟩ := leaf_of hT3 (by decide) (by decide)
  have c2 := (hb3.cell (p := ⟨w1.heap.size, 0, none⟩) hlt2).trans c2
  have hlt3 := Nat.lt_of_lt_of_le hlt2 hb3.size
  have HT3 := Lib.hid (And.intro (HT2.out.1.below hb3) (HT2.out.2.below hb3))
  have HB3 := Lib.hid (HB2.out.trans (hb3.mono HB2.out.size))
  have HA := Lib.hid (callsIn_wide.1 (all_in 0 hT3 hin3 (by decide) (by decide)))
  clear hb3 hT3 hin3 HM hh2 hz2
  go_wp2_with fail
  refine HA.out.mono ?_; rintro e w4 ⟨a4, c4, rfl, hS4, hb4⟩
  have c2 := (hb4.cell (p := ⟨w1.heap.size, 0, none⟩) hlt3).trans c2
  have hlt4 := Nat.lt_of_lt_of_le hlt3 hb4.size
  have hh5 := heap_alloc_new w4 (Obj.cells (nums [2, 3, 4, 1]).toArray 3)
  have al5 := t_al w4 (Obj.cells (nums [2, 3, 4, 1]).toArray 3)
  have c25 := (al5.cell (p := ⟨w1.heap.size, 0, none⟩) hlt4).trans c2
  have hb45 := hb4.trans (al5.mono hb4.size)
  have HT5 := Lib.hid (And.intro (HT3.out.1.below hb45) (HT3.out.2.below hb45))
  have HB5 := Lib.hid (HB3.out.trans (hb45.mono HB3.out.size))
  have HS := Lib.hid (nsame [2, 3, 4, 1] [2, 3, 4, 1] (hS4.below al5) (Sl.new hh5 (by unfold maxLen; decide) (nums_one _)) (by decide))
  have hlt5 := Nat.lt_of_lt_of_le hlt4 al5.size
  clear hb4 hb45 al5 hh5 hS4 HA
  go_wp2_with fail
  refine HS.out.mono ?_; rintro e w6 ⟨rfl, hb6⟩
  simp only [decide_true]
  have c26 := (hb6.cell (p := ⟨w1.heap.size, 0, none⟩) hlt5).trans c25
  have HB6 := Lib.hid (HB5.out.trans (hb6.mono HB5.out.size))
  have HI := Lib.hid (callsIn_wide.1 (index_in 0 (j := 2) (xs := [1, 2, 3, 4]) (HT5.out.1.below hb6) (HT5.out.2.below hb6) rfl (fun i hi => by match i, hi with | 0, _ => simp | 1, _ => simp) (by decide)))
  clear hb6 HS c25 c2
  go_wp2_with fail
  refine HI.out.mono ?_; rintro e w7 ⟨rfl, hb7⟩
  have HB7 := Lib.hid (HB6.out.trans (hb7.mono HB6.out.size))
  clear hb7 HI
  go_wp2_with fail
  go_ret
  exact ⟨rfl, HB7.out⟩

end Go.Proofs.Ytofncnommekbjaa
