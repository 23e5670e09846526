/-
  The document's prefix, for any keys, at this seat's numbers.
-/
import Derived.Test.YtjmpokgdgnjojaaDoorGrT
namespace Go.Proofs.YtjmpokgdgnjojaaDoor
open Go Go.RowKit
set_option linter.unusedVariables false

/-- How prefix ends: R is what all keys come to. -/
def PreP (w0 : World) (q : Nat) (a : Option Addr) (k : Nat) (l : List Int) (way : Int) (r : Bool) (R : Cm × Int × Int) (e : Ending) (w' : World) : Prop :=
  ∃ i c, (∃ wh er, e = .returned (.tuple #[.int .i64 0, .bool false]) ∧ RgIn w0 w' q a k l i c wh er ∧ wh ≠ 1 ∧ R.2 = (wh, er)) ∨
    (∃ x, e = .returned (.tuple #[.int .i64 x, .bool true]) ∧ i ≤ l.length ∧ RgIn w0 w' q a k l i c 0 0 ∧ x ≠ 34 ∧ ¬ (49 ≤ x ∧ x ≤ 57) ∧ c.op = 0 ∧ (0 ≤ c.ct ∧ c.ct ≤ 9999) ∧ R = runS way r (some .begin) c (x :: l.drop i))
section
variable {w0 w : World} {q : Nat} {a : Option Addr} {k : Nat} {l : List Int} {at_ i : Nat} {c : Cm} {wh er : Int} {way : Int} {r : Bool} {R : Cm × Int × Int}
theorem PreP.no (h : RgIn w0 w q a k l i c wh er) (h1 : wh ≠ 1) (h2 : R.2 = (wh, er)) : PreP w0 q a k l way r R (.returned (.tuple #[.int .i64 0, .bool false])) w := ⟨i, c, .inl ⟨wh, er, rfl, h, h1, h2⟩⟩
theorem PreP.yes {x : Int} (h0 : i ≤ l.length) (h : RgIn w0 w q a k l i c 0 0) (h1 : x ≠ 34) (h2 : ¬ (49 ≤ x ∧ x ≤ 57)) (h3 : c.op = 0) (h4 : 0 ≤ c.ct ∧ c.ct ≤ 9999) (h5 : R = runS way r (some .begin) c (x :: l.drop i)) : PreP w0 q a k l way r R (.returned (.tuple #[.int .i64 x, .bool true])) w := ⟨i, c, .inr ⟨x, rfl, h0, h, h1, h2, h3, h4, h5⟩⟩
theorem reg_more (c : Cm) (t : List Int) : runS way r (some .begin) c (34 :: t) = runS way r (some .register) c t := runS_more (by show begF _ _ _ _ = _; unfold begF; rw [if_pos rfl])
theorem reg_yes (c : Cm) {y : Int} (t : List Int) (h : (97 ≤ y ∧ y ≤ 122) ∨ (65 ≤ y ∧ y ≤ 90)) : runS way r (some .register) c (y :: t) = runS way r (some .begin) { c with rg := y } t := runS_more (by show regF _ _ = _; unfold regF; rw [if_pos h])
theorem reg_no (c : Cm) {y : Int} (t : List Int) (h : ¬ ((97 ≤ y ∧ y ≤ 122) ∨ (65 ≤ y ∧ y ≤ 90))) : runS way r (some .register) c (y :: t) = (c, 2, 10) := runS_no (by show regF _ _ = _; unfold regF; rw [if_neg h]) (by decide)

set_option maxRecDepth 100000 in
set_option maxHeartbeats 16000000 in
theorem prefix_all (H : RgIn w0 w q a k l 0 c0M 0 0) (way : Int) (r : Bool) : Calls Tryd.prog 19 #[pbox q] w (PreP w0 q a k l way r (runS way r (some .begin) c0M l)) := by
  obtain ⟨R, hR⟩ : ∃ R, R = runS way r (some .begin) c0M l := ⟨_, rfl⟩
  rw [← hR]
  have HH := Lib.hid H
  have HR := Lib.hid hR
  clear H hR
  go_enter Tryd.func19, Tryd.ntmps19
  go_wp2_with fail
  go_loopw [2, 3] (fun v2 v3 wr => ∃ (i : Nat) (c : Cm) (z : Int) (b : Bool), v2 = .int .i64 z ∧ v3 = .bool b ∧ i ≤ l.length ∧ RgIn w0 wr q a k l i c 0 0 ∧ (0 ≤ c.ct ∧ c.ct ≤ 9999) ∧ c.op = 0 ∧ R = runS way r (some .begin) c (l.drop i)) (fun _ _ wr => l.length - atOf wr q)
  case atStart => exact ⟨0, c0M, 0, false, rfl, rfl, Nat.zero_le _, HH.out, ⟨by decide, by decide⟩, rfl, by rw [HR.out]; rfl⟩
  case round =>
    obtain ⟨i, c, z, b, rfl, rfl, hi, hr, hct, hop, hRr⟩ := hrel
    have hC : Calls Tryd.prog 36 #[pbox q] wr fun e w' => e = .returned (.bool (cntR c.ct (l.drop i)).1) ∧ RgIn w0 w' q a k l (l.length - (cntR c.ct (l.drop i)).2.2.length) { c with ct := (cntR c.ct (l.drop i)).2.1 } (if (cntR c.ct (l.drop i)).1 = true then 0 else 2) (if (cntR c.ct (l.drop i)).1 = true then 0 else 5) := count_all hr hi hct
    have hsuf := cntR_drop c.ct l i
    have hlen := (cntR_suf c.ct (l.drop i)).length_le
    rw [List.length_drop] at hlen
    have hrun : _ := cntR_run (way := way) (r := r) false c hct (l.drop i)
    obtain ⟨h1, h2, h4⟩ := hrun
    change (cntR c.ct (l.drop i)).1 = false → (runS way r (some .begin) c (l.drop i)).2 = (2, 5) at h1
    change (cntR c.ct (l.drop i)).1 = true → (cntR c.ct (l.drop i)).2.2 = [] → (runS way r (some .begin) c (l.drop i)).2 = (0, 0) at h2
    change (cntR c.ct (l.drop i)).1 = true → ∀ x t, (cntR c.ct (l.drop i)).2.2 = x :: t → ¬ (49 ≤ x ∧ x ≤ 57) ∧ (0 ≤ (cntR c.ct (l.drop i)).2.1 ∧ (cntR c.ct (l.drop i)).2.1 ≤ 9999) ∧ runS way r (some .begin) c (l.drop i) = runS way r (some .begin) { c with ct := (cntR c.ct (l.drop i)).2.1 } (x :: t) at h4
    rw [← hRr] at h1 h2 h4
    have HAt := Lib.hid hr.atOf
    generalize cntR c.ct (l.drop i) = Y at hC hsuf hlen h1 h2 h4
    obtain ⟨bb, ct2, rest⟩ := Y
    simp only at hC hsuf hlen h1 h2 h4
    clear hr hRr HH HR
    cases bb
    · simp only [Bool.false_eq_true, if_false] at hC
      have HC := Lib.hid hC
      have HX := Lib.hid (h1 rfl)
      clear hC hsuf hlen h1 h2 h4 hi hct hop
      go_wp2_with fail
      refine HC.out.mono ?_; rintro e w1 ⟨rfl, hw1⟩
      have H1 := Lib.hid hw1
      clear hw1
      go_wp2_with fail
      go_ret2
      exact PreP.no H1.out (by decide) HX.out
    · simp only [if_true] at hC
      cases rest with
      | nil =>
        simp only [List.length_nil, Nat.sub_zero] at hC
        have HC := Lib.hid hC
        have HX := Lib.hid (h2 rfl rfl)
        clear hC hsuf hlen h1 h2 h4 hi hct hop
        go_wp2_with fail
        refine HC.out.mono ?_; rintro e w1 ⟨rfl, hw1⟩
        have HK := Lib.hid (rkey_none hw1)
        clear hw1
        go_wp2_with fail
        refine HK.out.mono ?_; rintro e w2 ⟨rfl, hw2⟩
        have H2 := Lib.hid hw2
        clear hw2
        go_wp2_with fail
        go_ret2
        exact PreP.no H2.out (by decide) HX.out
      | cons x t =>
        obtain ⟨hx, ht⟩ := head_at hsuf
        obtain ⟨hxd, hct2, hrun⟩ := h4 rfl x t rfl
        obtain ⟨C, hCC⟩ : ∃ C : Cm, C = { c with ct := ct2 } := ⟨_, rfl⟩
        have hCo : C.op = 0 := by rw [hCC]; exact hop
        have hCt : 0 ≤ C.ct ∧ C.ct ≤ 9999 := by rw [hCC]; exact hct2
        rw [← hCC] at hC hrun
        obtain ⟨j, hj⟩ : ∃ j, j = l.length - (x :: t).length := ⟨_, rfl⟩
        rw [← hj] at hC hx ht
        rw [ht] at hrun
        have hjl := (List.getElem?_eq_some_iff.1 hx).1
        have hij : i ≤ j := by omega
        have HC := Lib.hid hC
        have HKx := Lib.hid (fun w' (h : RgIn w0 w' q a k l j C 0 0) => rkey_some h hx)
        have HRun := Lib.hid hrun
        have HCo := Lib.hid hCo
        have HCt := Lib.hid hCt
        have HXd := Lib.hid hxd
        clear hC hsuf hlen h1 h2 h4 hct hop hx ht hrun hCC hct2 hCo hCt hj hxd hi
        by_cases h34 : x = 34
        · subst h34
          by_cases hlt : j + 1 < l.length
          · obtain ⟨y, hy⟩ : ∃ y, l[j + 1]? = some y := ⟨_, List.getElem?_eq_getElem hlt⟩
            have HKy := Lib.hid (fun w' (h : RgIn w0 w' q a k l (j + 1) C 0 0) => rkey_some h hy)
            have HDy := Lib.hid (drop_at hy)
            clear hy
            rcases (show (97 ≤ y ∧ y ≤ 122) ∨ 122 < y ∨ (65 ≤ y ∧ y ≤ 90) ∨ (90 < y ∧ y < 97) ∨ y < 65 by omega) with hc | hc | hc | hc | hc
            · skip
              have d1 : decide ((97 : Int) ≤ y) = true := decide_eq_true (by omega)
              have d2 : decide (y ≤ (122 : Int)) = true := decide_eq_true (by omega)
              have HR2 : Hid (R = runS way r (some .begin) { C with rg := y } (l.drop (j + 1 + 1))) := by show _ = _; rw [HRun.out, HDy.out, reg_more, reg_yes C _ (by omega)]
              go_wp2_with fail
              refine HC.out.mono ?_; rintro e w1 ⟨rfl, hw1⟩
              have HK := Lib.hid (HKx.out _ hw1)
              clear hw1
              go_wp2_with fail
              refine HK.out.mono ?_; rintro e w2 ⟨rfl, hw2⟩
              have HK2 := Lib.hid (HKy.out _ hw2)
              clear hw2
              go_wp2_with fail
              refine HK2.out.mono ?_; rintro e w3 ⟨rfl, hw3⟩
              obtain ⟨c0, c1, c2, c3, c4, c5, c6, c7, c8⟩ := hw3.cs
              have f5 := hw3.fr 5
              have H4 := Lib.hid (hw3.setRg y)
              clear hw3
              go_wp2_with fail
              go_roundw
              case rel => exact ⟨j + 1 + 1, { C with rg := y }, _, _, rfl, rfl, by omega, H4.out, HCt.out, HCo.out, HR2.out⟩
              case measure => rw [H4.out.atOf, HAt.out]; omega
            · skip
              have d1 : decide ((97 : Int) ≤ y) = true := decide_eq_true (by omega)
              have d2 : decide (y ≤ (122 : Int)) = false := decide_eq_false (by omega)
              have d3 : decide ((65 : Int) ≤ y) = true := decide_eq_true (by omega)
              have d4 : decide (y ≤ (90 : Int)) = false := decide_eq_false (by omega)
              have HR2 : Hid (R.2 = (2, 10)) := by show _ = _; rw [HRun.out, HDy.out, reg_more, reg_no C _ (by omega)]
              go_wp2_with fail
              refine HC.out.mono ?_; rintro e w1 ⟨rfl, hw1⟩
              have HK := Lib.hid (HKx.out _ hw1)
              clear hw1
              go_wp2_with fail
              refine HK.out.mono ?_; rintro e w2 ⟨rfl, hw2⟩
              have HK2 := Lib.hid (HKy.out _ hw2)
              clear hw2
              go_wp2_with fail
              refine HK2.out.mono ?_; rintro e w3 ⟨rfl, hw3⟩
              have HW := Lib.hid (rwrong_of hw3)
              clear hw3
              go_wp2_with fail
              refine HW.out.mono ?_; rintro e w4 ⟨rfl, hw4⟩
              have H4 := Lib.hid hw4
              clear hw4
              go_wp2_with fail
              go_ret2
              exact PreP.no H4.out (by decide) HR2.out
            · skip
              have d1 : decide ((97 : Int) ≤ y) = false := decide_eq_false (by omega)
              have d3 : decide ((65 : Int) ≤ y) = true := decide_eq_true (by omega)
              have d4 : decide (y ≤ (90 : Int)) = true := decide_eq_true (by omega)
              have HR2 : Hid (R = runS way r (some .begin) { C with rg := y } (l.drop (j + 1 + 1))) := by show _ = _; rw [HRun.out, HDy.out, reg_more, reg_yes C _ (by omega)]
              go_wp2_with fail
              refine HC.out.mono ?_; rintro e w1 ⟨rfl, hw1⟩
              have HK := Lib.hid (HKx.out _ hw1)
              clear hw1
              go_wp2_with fail
              refine HK.out.mono ?_; rintro e w2 ⟨rfl, hw2⟩
              have HK2 := Lib.hid (HKy.out _ hw2)
              clear hw2
              go_wp2_with fail
              refine HK2.out.mono ?_; rintro e w3 ⟨rfl, hw3⟩
              obtain ⟨c0, c1, c2, c3, c4, c5, c6, c7, c8⟩ := hw3.cs
              have f5 := hw3.fr 5
              have H4 := Lib.hid (hw3.setRg y)
              clear hw3
              go_wp2_with fail
              go_roundw
              case rel => exact ⟨j + 1 + 1, { C with rg := y }, _, _, rfl, rfl, by omega, H4.out, HCt.out, HCo.out, HR2.out⟩
              case measure => rw [H4.out.atOf, HAt.out]; omega
            · skip
              have d1 : decide ((97 : Int) ≤ y) = false := decide_eq_false (by omega)
              have d3 : decide ((65 : Int) ≤ y) = true := decide_eq_true (by omega)
              have d4 : decide (y ≤ (90 : Int)) = false := decide_eq_false (by omega)
              have HR2 : Hid (R.2 = (2, 10)) := by show _ = _; rw [HRun.out, HDy.out, reg_more, reg_no C _ (by omega)]
              go_wp2_with fail
              refine HC.out.mono ?_; rintro e w1 ⟨rfl, hw1⟩
              have HK := Lib.hid (HKx.out _ hw1)
              clear hw1
              go_wp2_with fail
              refine HK.out.mono ?_; rintro e w2 ⟨rfl, hw2⟩
              have HK2 := Lib.hid (HKy.out _ hw2)
              clear hw2
              go_wp2_with fail
              refine HK2.out.mono ?_; rintro e w3 ⟨rfl, hw3⟩
              have HW := Lib.hid (rwrong_of hw3)
              clear hw3
              go_wp2_with fail
              refine HW.out.mono ?_; rintro e w4 ⟨rfl, hw4⟩
              have H4 := Lib.hid hw4
              clear hw4
              go_wp2_with fail
              go_ret2
              exact PreP.no H4.out (by decide) HR2.out
            · skip
              have d1 : decide ((97 : Int) ≤ y) = false := decide_eq_false (by omega)
              have d3 : decide ((65 : Int) ≤ y) = false := decide_eq_false (by omega)
              have HR2 : Hid (R.2 = (2, 10)) := by show _ = _; rw [HRun.out, HDy.out, reg_more, reg_no C _ (by omega)]
              go_wp2_with fail
              refine HC.out.mono ?_; rintro e w1 ⟨rfl, hw1⟩
              have HK := Lib.hid (HKx.out _ hw1)
              clear hw1
              go_wp2_with fail
              refine HK.out.mono ?_; rintro e w2 ⟨rfl, hw2⟩
              have HK2 := Lib.hid (HKy.out _ hw2)
              clear hw2
              go_wp2_with fail
              refine HK2.out.mono ?_; rintro e w3 ⟨rfl, hw3⟩
              have HW := Lib.hid (rwrong_of hw3)
              clear hw3
              go_wp2_with fail
              refine HW.out.mono ?_; rintro e w4 ⟨rfl, hw4⟩
              have H4 := Lib.hid hw4
              clear hw4
              go_wp2_with fail
              go_ret2
              exact PreP.no H4.out (by decide) HR2.out
          · have hj1 : j + 1 = l.length := by omega
            have HR2 : Hid (R.2 = (0, 0)) := by show _ = _; rw [HRun.out, hj1, List.drop_length, reg_more, runS_nil]
            have HJ := Lib.hid hj1
            clear hj1 hlt
            go_wp2_with fail
            refine HC.out.mono ?_; rintro e w1 ⟨rfl, hw1⟩
            have HK := Lib.hid (HKx.out _ hw1)
            clear hw1
            go_wp2_with fail
            refine HK.out.mono ?_; rintro e w2 ⟨rfl, hw2⟩
            rw [HJ.out] at hw2
            have HK2 := Lib.hid (rkey_none hw2)
            clear hw2
            go_wp2_with fail
            refine HK2.out.mono ?_; rintro e w3 ⟨rfl, hw3⟩
            have H3 := Lib.hid hw3
            clear hw3
            go_wp2_with fail
            go_ret2
            exact PreP.no H3.out (by decide) HR2.out
        · have z34 : (x != 34) = true := bne_iff_ne.2 h34
          have HN := Lib.hid h34
          clear h34
          go_wp2_with fail
          refine HC.out.mono ?_; rintro e w1 ⟨rfl, hw1⟩
          have HK := Lib.hid (HKx.out _ hw1)
          clear hw1
          go_wp2_with fail
          refine HK.out.mono ?_; rintro e w2 ⟨rfl, hw2⟩
          have H2 := Lib.hid hw2
          clear hw2
          go_wp2_with fail
          go_ret2
          exact PreP.yes (by omega) H2.out HN.out HXd.out HCo.out HCt.out HRun.out
end
end Go.Proofs.YtjmpokgdgnjojaaDoor
