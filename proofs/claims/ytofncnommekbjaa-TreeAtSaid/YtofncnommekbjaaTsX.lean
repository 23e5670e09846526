/-
  The walk of TreeAt, at this seat's numbers.
-/
import Derived.Test.YtofncnommekbjaaTrX
import Derived.Test.YtofncnommekbjaaTsW
namespace Go.Proofs.Ytofncnommekbjaa
open Go Go.RowKit
set_option linter.unusedVariables false

def texts (l : List ByteArray) : List Value := l.map Value.string
theorem texts_len (l : List ByteArray) : (texts l).length = l.length := by unfold texts; simp
theorem texts_gd (l : List ByteArray) : Gd (texts l) := fun v hv => by
  unfold texts at hv
  obtain ⟨x, _, rfl⟩ := List.mem_map.1 hv
  intro h; cases h
theorem texts_take (l : List ByteArray) (n : Nat) : (texts l).take n = texts (l.take n) := by unfold texts; rw [List.map_take]
theorem at_set {L : List Value} {I : Int} {v z : Value} (h : 0 ≤ I ∧ I < L.length) : atV (setV L I v) I z = v := by
  have hl := setV_len L I v
  unfold atV
  rw [if_pos (by rw [hl]; exact h)]
  unfold setV
  rw [if_pos h]
  unfold replL
  rw [List.getD_eq_getElem?_getD, List.append_assoc, List.getElem?_append_right (by rw [List.length_take]; omega), List.length_take, Nat.min_eq_left (by omega), Nat.sub_self]
  rfl


set_option maxRecDepth 100000 in
set_option maxHeartbeats 2000000 in
theorem treeAt_long_in {w : World} {g o : Nat} {c : Nat} (n : Nat) (M : List ByteArray) (i : Nat) (hS : Sl w (some ⟨g, o, none⟩) c (texts M)) (hm : M.length = 200) (hi : i < 200) (hn : 200 < n) (hc : n ≤ c) :
    Calls Try.prog 6 #[.slice (some ⟨g, o, none⟩) n c, .int .i64 (i : Int)] w fun e w' => e = .returned (.bool true) ∧ Below w.heap.size w w' := by
  have hml : (texts M).length = 200 := by rw [texts_len, hm]
  have HO := Lib.hid (fun w' (hb : Below w.heap.size w w') => tof_s (hS.below hb) hml (by omega) (texts_gd _))
  obtain ⟨s, hs⟩ : ∃ s, M[i]? = some s := ⟨_, List.getElem?_eq_getElem (by omega)⟩
  have hts : (texts M)[i]? = some (.string s) := by unfold texts; rw [List.getElem?_map, hs]; rfl
  have hcell : w.cell? ⟨g, o + i, none⟩ = some (.string s) := by
    obtain ⟨g', o', e', _, hc⟩ := hS.rd.2 (by omega)
    cases e'
    exact hc i _ hts
  have hgz : g < w.heap.size := by
    obtain ⟨g', o', e', hz, _⟩ := hS.rd.2 (by omega)
    cases e'; exact hz
  have hIn : 0 ≤ (i : Int) ∧ (i : Int) < ((texts M).length : Int) := ⟨by omega, by omega⟩
  have hat : atV (texts M) (i : Int) (.string ByteArray.empty) = .string s := by
    unfold atV
    rw [if_pos hIn, Int.toNat_natCast, List.getD_eq_getElem?_getD, hts]; rfl
  have hat2 := at_set (v := (.string { data := #[110, 101, 119] })) (z := .string ByteArray.empty) hIn
  have hsl := setV_len (texts M) (i : Int) (.string { data := #[110, 101, 119] })
  have hdl := delV_len (texts M) (i : Int)
  rw [if_pos hIn, hml] at hdl
  have hgs := gd_setV (I := (i : Int)) (v := (.string { data := #[110, 101, 119] })) (texts_gd M) (by intro h; cases h)
  have hdI : decide (0 ≤ (i : Int) ∧ (i : Int) < ((texts M).length : Int)) = true := decide_eq_true hIn
  have hdI2 : decide (0 ≤ (i : Int) ∧ (i : Int) < ((setV (texts M) (i : Int) (.string { data := #[110, 101, 119] })).length : Int)) = true := decide_eq_true (by rw [hsl]; exact hIn)
  have d0 : decide ((0 : Int) ≤ (i : Int)) = true := decide_eq_true (by omega)
  have d1 : decide ((i : Int) < (200 : Int)) = true := decide_eq_true (by omega)
  have e0 : (0 : Int) ≤ (i : Int) := by omega
  have e1 : (i : Int) < (200 : Int) := by omega
  have HV := Lib.hid (And.intro hat (And.intro hat2 (And.intro hsl (And.intro hdl (And.intro hdI (And.intro hdI2 hgs))))))
  have hm90 : (texts M).length ≤ 200 := by omega
  have HM := Lib.hid (And.intro hml hm90)
  have HG := Lib.hid (texts_gd M)
  generalize texts M = TM at *
  clear hat hat2 hsl hdl hdI hdI2 hgs hm90
  clear hs hts hIn
  clear hS hml hm
  have d200 : decide ((200 : Int) < (n : Int)) = true := decide_eq_true (by omega)
  have f0 : (200 : Int) ≤ (n : Int) := by omega
  have f1 : (200 : Int) ≤ (c : Int) := by omega
  have f2 : (n : Int) ≤ (c : Int) := by omega
  have hwm : IntKind.i64.wrap ((200 : Int) - 1) = ((200 - 1 : Nat) : Int) := by rw [IntKind.wrap_i64]; omega
  go_enter Try.func6, Try.ntmps6
  go_wp2_with fail
  refine (HO.out _ (Below.refl _ _)).mono ?_; rintro e w1 ⟨x1, rfl, hT1, hb1⟩
  obtain ⟨w2, hw2, hb2, hz2, hh2⟩ := box_eq w1 48 x1
  have c2 : w2.cell? ⟨w1.heap.size, 0, none⟩ = some (.pointer x1) := by rw [cell_at hh2]; rfl
  have HT2 := Lib.hid (hT1.below hb2)
  have HA := Lib.hid (tat_s (i : Int) HT2.out (by have := HM.out.2; omega))
  rw [HV.out.1, HV.out.2.2.2.2.1] at HA
  have HB2 := Lib.hid (hb1.trans (hb2.mono hb1.size))
  have hlt2 : w1.heap.size < w2.heap.size := by omega
  clear hT1 hb1 HO hb2 hz2 hh2
  go_wp2_with fail
  refine HA.out.mono ?_; rintro e w3 ⟨rfl, hb3⟩
  have c3 := (hb3.cell (p := ⟨w1.heap.size, 0, none⟩) hlt2).trans c2
  have HT3 := Lib.hid (HT2.out.below hb3)
  have HB3 := Lib.hid (HB2.out.trans (hb3.mono HB2.out.size))
  have hlt3 := Nat.lt_of_lt_of_le hlt2 hb3.size
  have hcell3 := (HB3.out.cell (p := ⟨g, o + i, none⟩) hgz).trans hcell
  have HS := Lib.hid (tset_s { data := #[110, 101, 119] } (i : Int) HT3.out HG.out (by have := HM.out.2; omega))
  rw [HV.out.2.2.2.2.1] at HS
  clear hb3 HA hw2 c2
  go_wp2_with fail
  refine HS.out.mono ?_; rintro e w4 ⟨x4, rfl, hT4, hb4⟩
  obtain ⟨w5, hw5, hb5, hz5, hh5⟩ := box_eq w4 48 x4
  have hb35 := hb4.trans (hb5.mono hb4.size)
  have c5 : w5.cell? ⟨w4.heap.size, 0, none⟩ = some (.pointer x4) := by rw [cell_at hh5]; rfl
  have c3' := (hb35.cell (p := ⟨w1.heap.size, 0, none⟩) hlt3).trans c3
  have HT5 := Lib.hid (HT3.out.below hb35)
  have HU5 := Lib.hid (hT4.below hb5)
  have HB5 := Lib.hid (HB3.out.trans (hb35.mono HB3.out.size))
  have hlt5 := Nat.lt_of_lt_of_le hlt3 hb35.size
  have HA2 := Lib.hid (tat_s (i : Int) HU5.out (by rw [HV.out.2.2.1]; have := HM.out.2; omega))
  rw [HV.out.2.1, HV.out.2.2.2.2.2.1] at HA2
  clear hT4 hb4 hb5 HS hz5 hh5 hb35 c3
  go_wp2_with fail
  refine HA2.out.mono ?_; rintro e w6 ⟨rfl, hb6⟩
  have c6 := (hb6.cell (p := ⟨w1.heap.size, 0, none⟩) hlt5).trans c3'
  have HT6 := Lib.hid (HT5.out.below hb6)
  have HB6 := Lib.hid (HB5.out.trans (hb6.mono HB5.out.size))
  have HD := Lib.hid (tdel_s (i : Int) HT6.out HG.out (by have := HM.out.2; omega))
  rw [HV.out.2.2.2.2.1] at HD
  clear hb6 HA2 hw5 c5 c3'
  go_wp2_with fail
  refine HD.out.mono ?_; rintro e w7 ⟨x7, rfl, hT7, hb7⟩
  obtain ⟨w8, hw8, hb8, hz8, hh8⟩ := box_eq w7 48 x7
  have c8 : w8.cell? ⟨w7.heap.size, 0, none⟩ = some (.pointer x7) := by rw [cell_at hh8]; rfl
  have HU8 := Lib.hid (hT7.below hb8)
  have HB8 := Lib.hid (HB6.out.trans ((hb7.trans (hb8.mono hb7.size)).mono HB6.out.size))
  have HL := Lib.hid (len_s HU8.out)
  rw [HV.out.2.2.2.1] at HL
  clear hT7 hb7 hb8 HD hz8 hh8 c6
  go_wp2_with fail
  refine HL.out.mono ?_; rintro e w9 ⟨rfl, hb9⟩
  have HB9 := Lib.hid (HB8.out.trans (hb9.mono HB8.out.size))
  have HW := Lib.hid (awake9_of (w := w9))
  clear hb9 HL hw8 c8
  go_wp2_with fail
  refine HW.out.mono ?_; rintro e wa ⟨rfl, hba⟩
  have HBa := Lib.hid (HB9.out.trans (hba.mono HB9.out.size))
  clear hba HW
  go_wp2_with fail
  go_ret
  exact ⟨rfl, HBa.out⟩

set_option maxRecDepth 100000 in
set_option maxHeartbeats 2000000 in
theorem treeAt_long_out {w : World} {g o : Nat} {c : Nat} (n : Nat) (M : List ByteArray) (I : Int) (hS : Sl w (some ⟨g, o, none⟩) c (texts M)) (hm : M.length = 200) (hI : ¬ (0 ≤ I ∧ I < (200 : Nat))) (hn : 200 < n) (hc : n ≤ c) :
    Calls Try.prog 6 #[.slice (some ⟨g, o, none⟩) n c, .int .i64 I] w fun e w' => e = .returned (.bool true) ∧ Below w.heap.size w w' := by
  have hml : (texts M).length = 200 := by rw [texts_len, hm]
  have HO := Lib.hid (fun w' (hb : Below w.heap.size w w') => tof_s (hS.below hb) hml (by omega) (texts_gd _))
  have hnI : ¬ (0 ≤ I ∧ I < ((texts M).length : Int)) := by rw [hml]; exact hI
  have hat : atV (texts M) I (.string ByteArray.empty) = .string ByteArray.empty := by unfold atV; rw [if_neg hnI]
  have hsv : setV (texts M) I (.string { data := #[110, 101, 119] }) = texts M := by unfold setV; rw [if_neg hnI]
  have hat2 : atV (setV (texts M) I (.string { data := #[110, 101, 119] })) I (.string ByteArray.empty) = .string ByteArray.empty := by rw [hsv]; exact hat
  have hsl := setV_len (texts M) I (.string { data := #[110, 101, 119] })
  have hdl := delV_len (texts M) I
  rw [if_neg hnI, hml] at hdl
  have hgs := gd_setV (I := I) (v := (.string { data := #[110, 101, 119] })) (texts_gd M) (by intro h; cases h)
  have hdI : decide (0 ≤ I ∧ I < ((texts M).length : Int)) = false := decide_eq_false hnI
  have hdI2 : decide (0 ≤ I ∧ I < ((setV (texts M) I (.string { data := #[110, 101, 119] })).length : Int)) = false := decide_eq_false (by rw [hsl]; exact hnI)
  have HV := Lib.hid (And.intro hat (And.intro hat2 (And.intro hsl (And.intro hdl (And.intro hdI (And.intro hdI2 hgs))))))
  have hm90 : (texts M).length ≤ 200 := by omega
  have HM := Lib.hid (And.intro hml hm90)
  have HG := Lib.hid (texts_gd M)
  generalize texts M = TM at *
  clear hat hat2 hsl hdl hdI hdI2 hgs hm90
  clear hnI hsv
  clear hS hml hm
  have d200 : decide ((200 : Int) < (n : Int)) = true := decide_eq_true (by omega)
  have f0 : (200 : Int) ≤ (n : Int) := by omega
  have f1 : (200 : Int) ≤ (c : Int) := by omega
  have f2 : (n : Int) ≤ (c : Int) := by omega
  by_cases h0 : 0 ≤ I
  · have d0 : decide (0 ≤ I) = true := decide_eq_true h0
    have d1 : decide (I < (200 : Int)) = false := decide_eq_false (by omega)
    go_enter Try.func6, Try.ntmps6
    go_wp2_with fail
    refine (HO.out _ (Below.refl _ _)).mono ?_; rintro e w1 ⟨x1, rfl, hT1, hb1⟩
    obtain ⟨w2, hw2, hb2, hz2, hh2⟩ := box_eq w1 48 x1
    have c2 : w2.cell? ⟨w1.heap.size, 0, none⟩ = some (.pointer x1) := by rw [cell_at hh2]; rfl
    have HT2 := Lib.hid (hT1.below hb2)
    have HA := Lib.hid (tat_s I HT2.out (by have := HM.out.2; omega))
    rw [HV.out.1, HV.out.2.2.2.2.1] at HA
    have HB2 := Lib.hid (hb1.trans (hb2.mono hb1.size))
    have hlt2 : w1.heap.size < w2.heap.size := by omega
    clear hT1 hb1 HO hb2 hz2 hh2
    go_wp2_with fail
    refine HA.out.mono ?_; rintro e w3 ⟨rfl, hb3⟩
    have c3 := (hb3.cell (p := ⟨w1.heap.size, 0, none⟩) hlt2).trans c2
    have HT3 := Lib.hid (HT2.out.below hb3)
    have HB3 := Lib.hid (HB2.out.trans (hb3.mono HB2.out.size))
    have hlt3 := Nat.lt_of_lt_of_le hlt2 hb3.size
    have HS := Lib.hid (tset_s { data := #[110, 101, 119] } I HT3.out HG.out (by have := HM.out.2; omega))
    rw [HV.out.2.2.2.2.1] at HS
    clear hb3 HA hw2 c2
    go_wp2_with fail
    refine HS.out.mono ?_; rintro e w4 ⟨x4, rfl, hT4, hb4⟩
    obtain ⟨w5, hw5, hb5, hz5, hh5⟩ := box_eq w4 48 x4
    have hb35 := hb4.trans (hb5.mono hb4.size)
    have c5 : w5.cell? ⟨w4.heap.size, 0, none⟩ = some (.pointer x4) := by rw [cell_at hh5]; rfl
    have c3' := (hb35.cell (p := ⟨w1.heap.size, 0, none⟩) hlt3).trans c3
    have HT5 := Lib.hid (HT3.out.below hb35)
    have HU5 := Lib.hid (hT4.below hb5)
    have HB5 := Lib.hid (HB3.out.trans (hb35.mono HB3.out.size))
    have hlt5 := Nat.lt_of_lt_of_le hlt3 hb35.size
    have HA2 := Lib.hid (tat_s I HU5.out (by rw [HV.out.2.2.1]; have := HM.out.2; omega))
    rw [HV.out.2.1, HV.out.2.2.2.2.2.1] at HA2
    clear hT4 hb4 hb5 HS hz5 hh5 hb35 c3
    go_wp2_with fail
    refine HA2.out.mono ?_; rintro e w6 ⟨rfl, hb6⟩
    have c6 := (hb6.cell (p := ⟨w1.heap.size, 0, none⟩) hlt5).trans c3'
    have HT6 := Lib.hid (HT5.out.below hb6)
    have HB6 := Lib.hid (HB5.out.trans (hb6.mono HB5.out.size))
    have HD := Lib.hid (tdel_s I HT6.out HG.out (by have := HM.out.2; omega))
    rw [HV.out.2.2.2.2.1] at HD
    clear hb6 HA2 hw5 c5 c3'
    go_wp2_with fail
    refine HD.out.mono ?_; rintro e w7 ⟨x7, rfl, hT7, hb7⟩
    obtain ⟨w8, hw8, hb8, hz8, hh8⟩ := box_eq w7 48 x7
    have c8 : w8.cell? ⟨w7.heap.size, 0, none⟩ = some (.pointer x7) := by rw [cell_at hh8]; rfl
    have HU8 := Lib.hid (hT7.below hb8)
    have HB8 := Lib.hid (HB6.out.trans ((hb7.trans (hb8.mono hb7.size)).mono HB6.out.size))
    have HL := Lib.hid (len_s HU8.out)
    rw [HV.out.2.2.2.1] at HL
    clear hT7 hb7 hb8 HD hz8 hh8 c6
    go_wp2_with fail
    refine HL.out.mono ?_; rintro e w9 ⟨rfl, hb9⟩
    have HB9 := Lib.hid (HB8.out.trans (hb9.mono HB8.out.size))
    have HW := Lib.hid (awake9_of (w := w9))
    clear hb9 HL hw8 c8
    go_wp2_with fail
    refine HW.out.mono ?_; rintro e wa ⟨rfl, hba⟩
    have HBa := Lib.hid (HB9.out.trans (hba.mono HB9.out.size))
    clear hba HW
    go_wp2_with fail
    go_ret
    exact ⟨rfl, HBa.out⟩
  · have d0 : decide (0 ≤ I) = false := decide_eq_false h0
    go_enter Try.func6, Try.ntmps6
    go_wp2_with fail
    refine (HO.out _ (Below.refl _ _)).mono ?_; rintro e w1 ⟨x1, rfl, hT1, hb1⟩
    obtain ⟨w2, hw2, hb2, hz2, hh2⟩ := box_eq w1 48 x1
    have c2 : w2.cell? ⟨w1.heap.size, 0, none⟩ = some (.pointer x1) := by rw [cell_at hh2]; rfl
    have HT2 := Lib.hid (hT1.below hb2)
    have HA := Lib.hid (tat_s I HT2.out (by have := HM.out.2; omega))
    rw [HV.out.1, HV.out.2.2.2.2.1] at HA
    have HB2 := Lib.hid (hb1.trans (hb2.mono hb1.size))
    have hlt2 : w1.heap.size < w2.heap.size := by omega
    clear hT1 hb1 HO hb2 hz2 hh2
    go_wp2_with fail
    refine HA.out.mono ?_; rintro e w3 ⟨rfl, hb3⟩
    have c3 := (hb3.cell (p := ⟨w1.heap.size, 0, none⟩) hlt2).trans c2
    have HT3 := Lib.hid (HT2.out.below hb3)
    have HB3 := Lib.hid (HB2.out.trans (hb3.mono HB2.out.size))
    have hlt3 := Nat.lt_of_lt_of_le hlt2 hb3.size
    have HS := Lib.hid (tset_s { data := #[110, 101, 119] } I HT3.out HG.out (by have := HM.out.2; omega))
    rw [HV.out.2.2.2.2.1] at HS
    clear hb3 HA hw2 c2
    go_wp2_with fail
    refine HS.out.mono ?_; rintro e w4 ⟨x4, rfl, hT4, hb4⟩
    obtain ⟨w5, hw5, hb5, hz5, hh5⟩ := box_eq w4 48 x4
    have hb35 := hb4.trans (hb5.mono hb4.size)
    have c5 : w5.cell? ⟨w4.heap.size, 0, none⟩ = some (.pointer x4) := by rw [cell_at hh5]; rfl
    have c3' := (hb35.cell (p := ⟨w1.heap.size, 0, none⟩) hlt3).trans c3
    have HT5 := Lib.hid (HT3.out.below hb35)
    have HU5 := Lib.hid (hT4.below hb5)
    have HB5 := Lib.hid (HB3.out.trans (hb35.mono HB3.out.size))
    have hlt5 := Nat.lt_of_lt_of_le hlt3 hb35.size
    have HA2 := Lib.hid (tat_s I HU5.out (by rw [HV.out.2.2.1]; have := HM.out.2; omega))
    rw [HV.out.2.1, HV.out.2.2.2.2.2.1] at HA2
    clear hT4 hb4 hb5 HS hz5 hh5 hb35 c3
    go_wp2_with fail
    refine HA2.out.mono ?_; rintro e w6 ⟨rfl, hb6⟩
    have c6 := (hb6.cell (p := ⟨w1.heap.size, 0, none⟩) hlt5).trans c3'
    have HT6 := Lib.hid (HT5.out.below hb6)
    have HB6 := Lib.hid (HB5.out.trans (hb6.mono HB5.out.size))
    have HD := Lib.hid (tdel_s I HT6.out HG.out (by have := HM.out.2; omega))
    rw [HV.out.2.2.2.2.1] at HD
    clear hb6 HA2 hw5 c5 c3'
    go_wp2_with fail
    refine HD.out.mono ?_; rintro e w7 ⟨x7, rfl, hT7, hb7⟩
    obtain ⟨w8, hw8, hb8, hz8, hh8⟩ := box_eq w7 48 x7
    have c8 : w8.cell? ⟨w7.heap.size, 0, none⟩ = some (.pointer x7) := by rw [cell_at hh8]; rfl
    have HU8 := Lib.hid (hT7.below hb8)
    have HB8 := Lib.hid (HB6.out.trans ((hb7.trans (hb8.mono hb7.size)).mono HB6.out.size))
    have HL := Lib.hid (len_s HU8.out)
    rw [HV.out.2.2.2.1] at HL
    clear hT7 hb7 hb8 HD hz8 hh8 c6
    go_wp2_with fail
    refine HL.out.mono ?_; rintro e w9 ⟨rfl, hb9⟩
    have HB9 := Lib.hid (HB8.out.trans (hb9.mono HB8.out.size))
    have HW := Lib.hid (awake9_of (w := w9))
    clear hb9 HL hw8 c8
    go_wp2_with fail
    refine HW.out.mono ?_; rintro e wa ⟨rfl, hba⟩
    have HBa := Lib.hid (HB9.out.trans (hba.mono HB9.out.size))
    clear hba HW
    go_wp2_with fail
    go_ret
    exact ⟨rfl, HBa.out⟩

set_option maxRecDepth 100000 in
set_option maxHeartbeats 2000000 in
theorem treeAt_short_in {w : World} {g o : Nat} {c : Nat} (n : Nat) (M : List ByteArray) (i : Nat) (hS : Sl w (some ⟨g, o, none⟩) c (texts M)) (hm : M.length = n) (hi : i < n) (hn : n ≤ 200) :
    Calls Try.prog 6 #[.slice (some ⟨g, o, none⟩) n c, .int .i64 (i : Int)] w fun e w' => e = .returned (.bool true) ∧ Below w.heap.size w w' := by
  have hml : (texts M).length = n := by rw [texts_len, hm]
  have HO := Lib.hid (fun w' (hb : Below w.heap.size w w') => tof_s (hS.below hb) hml (by omega) (texts_gd _))
  obtain ⟨s, hs⟩ : ∃ s, M[i]? = some s := ⟨_, List.getElem?_eq_getElem (by omega)⟩
  have hts : (texts M)[i]? = some (.string s) := by unfold texts; rw [List.getElem?_map, hs]; rfl
  have hcell : w.cell? ⟨g, o + i, none⟩ = some (.string s) := by
    obtain ⟨g', o', e', _, hc⟩ := hS.rd.2 (by omega)
    cases e'
    exact hc i _ hts
  have hgz : g < w.heap.size := by
    obtain ⟨g', o', e', hz, _⟩ := hS.rd.2 (by omega)
    cases e'; exact hz
  have hIn : 0 ≤ (i : Int) ∧ (i : Int) < ((texts M).length : Int) := ⟨by omega, by omega⟩
  have hat : atV (texts M) (i : Int) (.string ByteArray.empty) = .string s := by
    unfold atV
    rw [if_pos hIn, Int.toNat_natCast, List.getD_eq_getElem?_getD, hts]; rfl
  have hat2 := at_set (v := (.string { data := #[110, 101, 119] })) (z := .string ByteArray.empty) hIn
  have hsl := setV_len (texts M) (i : Int) (.string { data := #[110, 101, 119] })
  have hdl := delV_len (texts M) (i : Int)
  rw [if_pos hIn, hml] at hdl
  have hgs := gd_setV (I := (i : Int)) (v := (.string { data := #[110, 101, 119] })) (texts_gd M) (by intro h; cases h)
  have hdI : decide (0 ≤ (i : Int) ∧ (i : Int) < ((texts M).length : Int)) = true := decide_eq_true hIn
  have hdI2 : decide (0 ≤ (i : Int) ∧ (i : Int) < ((setV (texts M) (i : Int) (.string { data := #[110, 101, 119] })).length : Int)) = true := decide_eq_true (by rw [hsl]; exact hIn)
  have d0 : decide ((0 : Int) ≤ (i : Int)) = true := decide_eq_true (by omega)
  have d1 : decide ((i : Int) < (n : Int)) = true := decide_eq_true (by omega)
  have e0 : (0 : Int) ≤ (i : Int) := by omega
  have e1 : (i : Int) < (n : Int) := by omega
  have HV := Lib.hid (And.intro hat (And.intro hat2 (And.intro hsl (And.intro hdl (And.intro hdI (And.intro hdI2 hgs))))))
  have hm90 : (texts M).length ≤ 200 := by omega
  have HM := Lib.hid (And.intro hml hm90)
  have HG := Lib.hid (texts_gd M)
  generalize texts M = TM at *
  clear hat hat2 hsl hdl hdI hdI2 hgs hm90
  clear hs hts hIn
  clear hS hml hm
  have d200 : decide ((200 : Int) < (n : Int)) = false := decide_eq_false (by omega)
  have hwm : IntKind.i64.wrap ((n : Int) - 1) = ((n - 1 : Nat) : Int) := by rw [IntKind.wrap_i64]; omega
  go_enter Try.func6, Try.ntmps6
  go_wp2_with fail
  refine (HO.out _ (Below.refl _ _)).mono ?_; rintro e w1 ⟨x1, rfl, hT1, hb1⟩
  obtain ⟨w2, hw2, hb2, hz2, hh2⟩ := box_eq w1 48 x1
  have c2 : w2.cell? ⟨w1.heap.size, 0, none⟩ = some (.pointer x1) := by rw [cell_at hh2]; rfl
  have HT2 := Lib.hid (hT1.below hb2)
  have HA := Lib.hid (tat_s (i : Int) HT2.out (by have := HM.out.2; omega))
  rw [HV.out.1, HV.out.2.2.2.2.1] at HA
  have HB2 := Lib.hid (hb1.trans (hb2.mono hb1.size))
  have hlt2 : w1.heap.size < w2.heap.size := by omega
  clear hT1 hb1 HO hb2 hz2 hh2
  go_wp2_with fail
  refine HA.out.mono ?_; rintro e w3 ⟨rfl, hb3⟩
  have c3 := (hb3.cell (p := ⟨w1.heap.size, 0, none⟩) hlt2).trans c2
  have HT3 := Lib.hid (HT2.out.below hb3)
  have HB3 := Lib.hid (HB2.out.trans (hb3.mono HB2.out.size))
  have hlt3 := Nat.lt_of_lt_of_le hlt2 hb3.size
  have hcell3 := (HB3.out.cell (p := ⟨g, o + i, none⟩) hgz).trans hcell
  have HS := Lib.hid (tset_s { data := #[110, 101, 119] } (i : Int) HT3.out HG.out (by have := HM.out.2; omega))
  rw [HV.out.2.2.2.2.1] at HS
  clear hb3 HA hw2 c2
  go_wp2_with fail
  refine HS.out.mono ?_; rintro e w4 ⟨x4, rfl, hT4, hb4⟩
  obtain ⟨w5, hw5, hb5, hz5, hh5⟩ := box_eq w4 48 x4
  have hb35 := hb4.trans (hb5.mono hb4.size)
  have c5 : w5.cell? ⟨w4.heap.size, 0, none⟩ = some (.pointer x4) := by rw [cell_at hh5]; rfl
  have c3' := (hb35.cell (p := ⟨w1.heap.size, 0, none⟩) hlt3).trans c3
  have HT5 := Lib.hid (HT3.out.below hb35)
  have HU5 := Lib.hid (hT4.below hb5)
  have HB5 := Lib.hid (HB3.out.trans (hb35.mono HB3.out.size))
  have hlt5 := Nat.lt_of_lt_of_le hlt3 hb35.size
  have HA2 := Lib.hid (tat_s (i : Int) HU5.out (by rw [HV.out.2.2.1]; have := HM.out.2; omega))
  rw [HV.out.2.1, HV.out.2.2.2.2.2.1] at HA2
  clear hT4 hb4 hb5 HS hz5 hh5 hb35 c3
  go_wp2_with fail
  refine HA2.out.mono ?_; rintro e w6 ⟨rfl, hb6⟩
  have c6 := (hb6.cell (p := ⟨w1.heap.size, 0, none⟩) hlt5).trans c3'
  have HT6 := Lib.hid (HT5.out.below hb6)
  have HB6 := Lib.hid (HB5.out.trans (hb6.mono HB5.out.size))
  have HD := Lib.hid (tdel_s (i : Int) HT6.out HG.out (by have := HM.out.2; omega))
  rw [HV.out.2.2.2.2.1] at HD
  clear hb6 HA2 hw5 c5 c3'
  go_wp2_with fail
  refine HD.out.mono ?_; rintro e w7 ⟨x7, rfl, hT7, hb7⟩
  obtain ⟨w8, hw8, hb8, hz8, hh8⟩ := box_eq w7 48 x7
  have c8 : w8.cell? ⟨w7.heap.size, 0, none⟩ = some (.pointer x7) := by rw [cell_at hh8]; rfl
  have HU8 := Lib.hid (hT7.below hb8)
  have HB8 := Lib.hid (HB6.out.trans ((hb7.trans (hb8.mono hb7.size)).mono HB6.out.size))
  have HL := Lib.hid (len_s HU8.out)
  rw [HV.out.2.2.2.1] at HL
  clear hT7 hb7 hb8 HD hz8 hh8 c6
  go_wp2_with fail
  refine HL.out.mono ?_; rintro e w9 ⟨rfl, hb9⟩
  have HB9 := Lib.hid (HB8.out.trans (hb9.mono HB8.out.size))
  have HW := Lib.hid (awake9_of (w := w9))
  clear hb9 HL hw8 c8
  go_wp2_with fail
  refine HW.out.mono ?_; rintro e wa ⟨rfl, hba⟩
  have HBa := Lib.hid (HB9.out.trans (hba.mono HB9.out.size))
  clear hba HW
  go_wp2_with fail
  go_ret
  exact ⟨rfl, HBa.out⟩

set_option maxRecDepth 100000 in
set_option maxHeartbeats 2000000 in
theorem treeAt_short_out {w : World} {a : Option Addr} {c : Nat} (n : Nat) (M : List ByteArray) (I : Int) (hS : Sl w a c (texts M)) (hm : M.length = n) (hI : ¬ (0 ≤ I ∧ I < (n : Nat))) (hn : n ≤ 200) :
    Calls Try.prog 6 #[.slice a n c, .int .i64 I] w fun e w' => e = .returned (.bool true) ∧ Below w.heap.size w w' := by
  have hml : (texts M).length = n := by rw [texts_len, hm]
  have HO := Lib.hid (fun w' (hb : Below w.heap.size w w') => tof_s (hS.below hb) hml (by omega) (texts_gd _))
  have hnI : ¬ (0 ≤ I ∧ I < ((texts M).length : Int)) := by rw [hml]; exact hI
  have hat : atV (texts M) I (.string ByteArray.empty) = .string ByteArray.empty := by unfold atV; rw [if_neg hnI]
  have hsv : setV (texts M) I (.string { data := #[110, 101, 119] }) = texts M := by unfold setV; rw [if_neg hnI]
  have hat2 : atV (setV (texts M) I (.string { data := #[110, 101, 119] })) I (.string ByteArray.empty) = .string ByteArray.empty := by rw [hsv]; exact hat
  have hsl := setV_len (texts M) I (.string { data := #[110, 101, 119] })
  have hdl := delV_len (texts M) I
  rw [if_neg hnI, hml] at hdl
  have hgs := gd_setV (I := I) (v := (.string { data := #[110, 101, 119] })) (texts_gd M) (by intro h; cases h)
  have hdI : decide (0 ≤ I ∧ I < ((texts M).length : Int)) = false := decide_eq_false hnI
  have hdI2 : decide (0 ≤ I ∧ I < ((setV (texts M) I (.string { data := #[110, 101, 119] })).length : Int)) = false := decide_eq_false (by rw [hsl]; exact hnI)
  have HV := Lib.hid (And.intro hat (And.intro hat2 (And.intro hsl (And.intro hdl (And.intro hdI (And.intro hdI2 hgs))))))
  have hm90 : (texts M).length ≤ 200 := by omega
  have HM := Lib.hid (And.intro hml hm90)
  have HG := Lib.hid (texts_gd M)
  generalize texts M = TM at *
  clear hat hat2 hsl hdl hdI hdI2 hgs hm90
  clear hnI hsv
  clear hS hml hm
  have d200 : decide ((200 : Int) < (n : Int)) = false := decide_eq_false (by omega)
  by_cases h0 : 0 ≤ I
  · have d0 : decide (0 ≤ I) = true := decide_eq_true h0
    have d1 : decide (I < (n : Int)) = false := decide_eq_false (by omega)
    go_enter Try.func6, Try.ntmps6
    go_wp2_with fail
    refine (HO.out _ (Below.refl _ _)).mono ?_; rintro e w1 ⟨x1, rfl, hT1, hb1⟩
    obtain ⟨w2, hw2, hb2, hz2, hh2⟩ := box_eq w1 48 x1
    have c2 : w2.cell? ⟨w1.heap.size, 0, none⟩ = some (.pointer x1) := by rw [cell_at hh2]; rfl
    have HT2 := Lib.hid (hT1.below hb2)
    have HA := Lib.hid (tat_s I HT2.out (by have := HM.out.2; omega))
    rw [HV.out.1, HV.out.2.2.2.2.1] at HA
    have HB2 := Lib.hid (hb1.trans (hb2.mono hb1.size))
    have hlt2 : w1.heap.size < w2.heap.size := by omega
    clear hT1 hb1 HO hb2 hz2 hh2
    go_wp2_with fail
    refine HA.out.mono ?_; rintro e w3 ⟨rfl, hb3⟩
    have c3 := (hb3.cell (p := ⟨w1.heap.size, 0, none⟩) hlt2).trans c2
    have HT3 := Lib.hid (HT2.out.below hb3)
    have HB3 := Lib.hid (HB2.out.trans (hb3.mono HB2.out.size))
    have hlt3 := Nat.lt_of_lt_of_le hlt2 hb3.size
    have HS := Lib.hid (tset_s { data := #[110, 101, 119] } I HT3.out HG.out (by have := HM.out.2; omega))
    rw [HV.out.2.2.2.2.1] at HS
    clear hb3 HA hw2 c2
    go_wp2_with fail
    refine HS.out.mono ?_; rintro e w4 ⟨x4, rfl, hT4, hb4⟩
    obtain ⟨w5, hw5, hb5, hz5, hh5⟩ := box_eq w4 48 x4
    have hb35 := hb4.trans (hb5.mono hb4.size)
    have c5 : w5.cell? ⟨w4.heap.size, 0, none⟩ = some (.pointer x4) := by rw [cell_at hh5]; rfl
    have c3' := (hb35.cell (p := ⟨w1.heap.size, 0, none⟩) hlt3).trans c3
    have HT5 := Lib.hid (HT3.out.below hb35)
    have HU5 := Lib.hid (hT4.below hb5)
    have HB5 := Lib.hid (HB3.out.trans (hb35.mono HB3.out.size))
    have hlt5 := Nat.lt_of_lt_of_le hlt3 hb35.size
    have HA2 := Lib.hid (tat_s I HU5.out (by rw [HV.out.2.2.1]; have := HM.out.2; omega))
    rw [HV.out.2.1, HV.out.2.2.2.2.2.1] at HA2
    clear hT4 hb4 hb5 HS hz5 hh5 hb35 c3
    go_wp2_with fail
    refine HA2.out.mono ?_; rintro e w6 ⟨rfl, hb6⟩
    have c6 := (hb6.cell (p := ⟨w1.heap.size, 0, none⟩) hlt5).trans c3'
    have HT6 := Lib.hid (HT5.out.below hb6)
    have HB6 := Lib.hid (HB5.out.trans (hb6.mono HB5.out.size))
    have HD := Lib.hid (tdel_s I HT6.out HG.out (by have := HM.out.2; omega))
    rw [HV.out.2.2.2.2.1] at HD
    clear hb6 HA2 hw5 c5 c3'
    go_wp2_with fail
    refine HD.out.mono ?_; rintro e w7 ⟨x7, rfl, hT7, hb7⟩
    obtain ⟨w8, hw8, hb8, hz8, hh8⟩ := box_eq w7 48 x7
    have c8 : w8.cell? ⟨w7.heap.size, 0, none⟩ = some (.pointer x7) := by rw [cell_at hh8]; rfl
    have HU8 := Lib.hid (hT7.below hb8)
    have HB8 := Lib.hid (HB6.out.trans ((hb7.trans (hb8.mono hb7.size)).mono HB6.out.size))
    have HL := Lib.hid (len_s HU8.out)
    rw [HV.out.2.2.2.1] at HL
    clear hT7 hb7 hb8 HD hz8 hh8 c6
    go_wp2_with fail
    refine HL.out.mono ?_; rintro e w9 ⟨rfl, hb9⟩
    have HB9 := Lib.hid (HB8.out.trans (hb9.mono HB8.out.size))
    have HW := Lib.hid (awake9_of (w := w9))
    clear hb9 HL hw8 c8
    go_wp2_with fail
    refine HW.out.mono ?_; rintro e wa ⟨rfl, hba⟩
    have HBa := Lib.hid (HB9.out.trans (hba.mono HB9.out.size))
    clear hba HW
    go_wp2_with fail
    go_ret
    exact ⟨rfl, HBa.out⟩
  · have d0 : decide (0 ≤ I) = false := decide_eq_false h0
    go_enter Try.func6, Try.ntmps6
    go_wp2_with fail
    refine (HO.out _ (Below.refl _ _)).mono ?_; rintro e w1 ⟨x1, rfl, hT1, hb1⟩
    obtain ⟨w2, hw2, hb2, hz2, hh2⟩ := box_eq w1 48 x1
    have c2 : w2.cell? ⟨w1.heap.size, 0, none⟩ = some (.pointer x1) := by rw [cell_at hh2]; rfl
    have HT2 := Lib.hid (hT1.below hb2)
    have HA := Lib.hid (tat_s I HT2.out (by have := HM.out.2; omega))
    rw [HV.out.1, HV.out.2.2.2.2.1] at HA
    have HB2 := Lib.hid (hb1.trans (hb2.mono hb1.size))
    have hlt2 : w1.heap.size < w2.heap.size := by omega
    clear hT1 hb1 HO hb2 hz2 hh2
    go_wp2_with fail
    refine HA.out.mono ?_; rintro e w3 ⟨rfl, hb3⟩
    have c3 := (hb3.cell (p := ⟨w1.heap.size, 0, none⟩) hlt2).trans c2
    have HT3 := Lib.hid (HT2.out.below hb3)
    have HB3 := Lib.hid (HB2.out.trans (hb3.mono HB2.out.size))
    have hlt3 := Nat.lt_of_lt_of_le hlt2 hb3.size
    have HS := Lib.hid (tset_s { data := #[110, 101, 119] } I HT3.out HG.out (by have := HM.out.2; omega))
    rw [HV.out.2.2.2.2.1] at HS
    clear hb3 HA hw2 c2
    go_wp2_with fail
    refine HS.out.mono ?_; rintro e w4 ⟨x4, rfl, hT4, hb4⟩
    obtain ⟨w5, hw5, hb5, hz5, hh5⟩ := box_eq w4 48 x4
    have hb35 := hb4.trans (hb5.mono hb4.size)
    have c5 : w5.cell? ⟨w4.heap.size, 0, none⟩ = some (.pointer x4) := by rw [cell_at hh5]; rfl
    have c3' := (hb35.cell (p := ⟨w1.heap.size, 0, none⟩) hlt3).trans c3
    have HT5 := Lib.hid (HT3.out.below hb35)
    have HU5 := Lib.hid (hT4.below hb5)
    have HB5 := Lib.hid (HB3.out.trans (hb35.mono HB3.out.size))
    have hlt5 := Nat.lt_of_lt_of_le hlt3 hb35.size
    have HA2 := Lib.hid (tat_s I HU5.out (by rw [HV.out.2.2.1]; have := HM.out.2; omega))
    rw [HV.out.2.1, HV.out.2.2.2.2.2.1] at HA2
    clear hT4 hb4 hb5 HS hz5 hh5 hb35 c3
    go_wp2_with fail
    refine HA2.out.mono ?_; rintro e w6 ⟨rfl, hb6⟩
    have c6 := (hb6.cell (p := ⟨w1.heap.size, 0, none⟩) hlt5).trans c3'
    have HT6 := Lib.hid (HT5.out.below hb6)
    have HB6 := Lib.hid (HB5.out.trans (hb6.mono HB5.out.size))
    have HD := Lib.hid (tdel_s I HT6.out HG.out (by have := HM.out.2; omega))
    rw [HV.out.2.2.2.2.1] at HD
    clear hb6 HA2 hw5 c5 c3'
    go_wp2_with fail
    refine HD.out.mono ?_; rintro e w7 ⟨x7, rfl, hT7, hb7⟩
    obtain ⟨w8, hw8, hb8, hz8, hh8⟩ := box_eq w7 48 x7
    have c8 : w8.cell? ⟨w7.heap.size, 0, none⟩ = some (.pointer x7) := by rw [cell_at hh8]; rfl
    have HU8 := Lib.hid (hT7.below hb8)
    have HB8 := Lib.hid (HB6.out.trans ((hb7.trans (hb8.mono hb7.size)).mono HB6.out.size))
    have HL := Lib.hid (len_s HU8.out)
    rw [HV.out.2.2.2.1] at HL
    clear hT7 hb7 hb8 HD hz8 hh8 c6
    go_wp2_with fail
    refine HL.out.mono ?_; rintro e w9 ⟨rfl, hb9⟩
    have HB9 := Lib.hid (HB8.out.trans (hb9.mono HB8.out.size))
    have HW := Lib.hid (awake9_of (w := w9))
    clear hb9 HL hw8 c8
    go_wp2_with fail
    refine HW.out.mono ?_; rintro e wa ⟨rfl, hba⟩
    have HBa := Lib.hid (HB9.out.trans (hba.mono HB9.out.size))
    clear hba HW
    go_wp2_with fail
    go_ret
    exact ⟨rfl, HBa.out⟩

theorem treeAt_walk (a : Option Addr) (c : Nat) (L : List ByteArray) (I : Int) (w : World) (hL : Sl w a c (L.map Value.string) ∧ ∀ s ∈ L, s.size ≤ maxLen) (_ : -9223372036854775808 ≤ I) (_ : I ≤ 9223372036854775807) :
    Calls Try.prog 6 #[.slice a L.length c, .int .i64 I] w fun e w' => e = .returned (.bool true) ∧ Below w.heap.size w w' := by
  have hS : Sl w a c (texts L) := hL.1
  have hl := texts_len L
  by_cases h200 : 200 < L.length
  · obtain ⟨g, o, rfl, hg, _⟩ := hS.rd.2 (by omega)
    have hS2 := hS.take 200
    rw [texts_take] at hS2
    have hm : (L.take 200).length = 200 := by rw [List.length_take]; omega
    have hcap := hS.cap
    rw [hl] at hcap
    generalize L.length = n at *
    generalize L.take 200 = M at *
    by_cases hI : 0 ≤ I ∧ I < 200
    · obtain ⟨i, rfl⟩ : ∃ i : Nat, I = (i : Int) := ⟨I.toNat, by omega⟩
      exact treeAt_long_in n M i hS2 hm (by omega) (by omega) (by omega)
    · exact treeAt_long_out n M I hS2 hm hI (by omega) (by omega)
  · by_cases hI : 0 ≤ I ∧ I < L.length
    · obtain ⟨i, rfl⟩ : ∃ i : Nat, I = (i : Int) := ⟨I.toNat, by omega⟩
      obtain ⟨g, o, rfl, hg, _⟩ := hS.rd.2 (by omega)
      exact treeAt_short_in L.length L i hS rfl (by omega) (by omega)
    · exact treeAt_short_out L.length L I hS rfl hI (by omega)

end Go.Proofs.Ytofncnommekbjaa
