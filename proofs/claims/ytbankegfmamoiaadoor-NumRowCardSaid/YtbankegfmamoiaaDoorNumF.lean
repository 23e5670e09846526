/-
  The walk of the statement NumRow, at this seat's numbers.
-/
import Derived.Test.YtbankegfmamoiaaDoorNumE
import Derived.Test.YtbankegfmamoiaaDoorNumP
namespace Go.Proofs.YtbankegfmamoiaaDoor
open Go Go.RowKit
set_option linter.unusedVariables false

theorem compare_held {b cap b' cap' : Nat} {s t : ByteArray} {w : World} (h : Held w b cap s) (h' : Held w b' cap' t) :
    Calls Tryd.prog 39 #[.slice (some ⟨b, 0, none⟩) s.size cap, .slice (some ⟨b', 0, none⟩) t.size cap'] w fun e w' => e = .returned (.int .i64 (compare s t)) ∧ Below w.heap.size w w' :=
  compare_below b 0 cap b' 0 cap' s t w h.size h'.size h.fits h.cap h'.fits h'.cap h.bytes h'.bytes _ rfl

theorem compare_chain {b cap b' cap' : Nat} {s t : ByteArray} {W : World} (h : Held W b cap s) (h' : Held W b' cap' t) (w : World) (hw : Below W.heap.size W w) :
    Calls Tryd.prog 39 #[.slice (some ⟨b, 0, none⟩) s.size cap, .slice (some ⟨b', 0, none⟩) t.size cap'] w fun e w' => e = .returned (.int .i64 (compare s t)) ∧ Below W.heap.size W w' :=
  (compare_held (h.below hw) (h'.below hw)).mono fun _ _ ⟨he, hb⟩ => ⟨he, hw.trans (hb.mono hw.size)⟩

set_option maxHeartbeats 1000000 in
theorem numRow_walk (a b c : ByteArray) (w : World) (ha : a.size ≤ maxLen) (hb : b.size ≤ maxLen) (hc : c.size ≤ maxLen) (ht : Tens w) :
    Calls Tryd.prog 11 #[.string a, .string b, .string c] w fun e w' => e = .returned (.bool true) ∧ Below w.heap.size w w' := by
  have HC1 := Lib.hid fun w => cut_of a 60 w ha (by decide)
  have HC2 := Lib.hid fun w => cut_of b 60 w hb (by decide)
  have HC3 := Lib.hid fun w => cut_of c 60 w hc (by decide)
  have l1 := cutS_le a 60
  have l2 := cutS_le b 60
  have l3 := cutS_le c 60
  generalize cutS a 60 = x at *
  generalize cutS b 60 = y at *
  generalize cutS c 60 = z at *
  clear ha hb hc
  obtain ⟨cx, W1, r1, h1, b1⟩ := held_of x w (by unfold maxLen; omega)
  obtain ⟨cy, W2, r2, h2, b2⟩ := held_of y W1 (by unfold maxLen; omega)
  obtain ⟨cz, W3, r3, h3, b3⟩ := held_of z W2 (by unfold maxLen; omega)
  have hw3 : Below w.heap.size w W3 := b1.trans ((b2.mono b1.size).trans (b3.mono (Nat.le_trans b1.size b2.size)))
  have X3 : Held W3 w.heap.size cx x := (h1.below b2).below b3
  have Y3 : Held W3 W1.heap.size cy y := h2.below b3
  have B3 := Lib.hid hw3
  have T3 := Lib.hid (ht.below hw3 ht.at)
  have HXY := Lib.hid (compare_chain X3 Y3)
  have HYX := Lib.hid (compare_chain Y3 X3)
  have HXX := Lib.hid (compare_chain X3 X3)
  have HYZ := Lib.hid (compare_chain Y3 h3)
  have HXZ := Lib.hid (compare_chain X3 h3)
  have B0 := Lib.hid (Below.refl W3.heap.size W3)
  clear h1 h2 h3 X3 Y3 hw3 ht b1 b2 b3 l1 l2 l3
  have e1' : (compare x y != - compare y x) = false := by rw [compare_anti x y]; simp
  have e2 : (compare x x != 0) = false := by rw [compare_self]; rfl
  have g1 : -1 ≤ compare x y ∧ compare x y ≤ 1 := by have := compare_range x y; omega
  have g1' : -1 ≤ compare y x ∧ compare y x ≤ 1 := by have := compare_range y x; omega
  have g2 : -1 ≤ compare y z ∧ compare y z ≤ 1 := by have := compare_range y z; omega
  have g3 : -1 ≤ compare x z ∧ compare x z ≤ 1 := by have := compare_range x z; omega
  have tr := Lib.hid (compare_trans x y z)
  obtain ⟨g1a, g1b⟩ := g1
  obtain ⟨g1c, g1d⟩ := g1'
  obtain ⟨g2a, g2b⟩ := g2
  obtain ⟨g3a, g3b⟩ := g3
  by_cases k1 : compare x y ≤ 0
  · by_cases k2 : compare y z ≤ 0
    · have t1 := (tr.out k1 k2).1
      have t2 : ((compare x z == 0) == (compare x y + compare y z == 0)) = true := by
        have := (tr.out k1 k2).2
        rw [beq_iff_eq, Bool.eq_iff_iff, beq_iff_eq, beq_iff_eq]
        exact this
      have t3 : ¬ 0 < compare x z := by omega
      clear tr
      go_enter Tryd.func11, Tryd.ntmps11
      go_wp2_with fail
      refine (HC1.out _).mono ?_; rintro e w1 ⟨rfl, rfl⟩
      go_wp2_with fail
      refine (HC2.out _).mono ?_; rintro e w1 ⟨rfl, rfl⟩
      go_wp2_with fail
      refine (HC3.out _).mono ?_; rintro e w1 ⟨rfl, rfl⟩
      go_wp2_with fail
      refine (HXY.out _ B0.out).mono ?_; rintro e w2 ⟨rfl, hb⟩; have C0 := Lib.hid hb; clear hb
      go_wp2_with fail
      refine (HYX.out _ C0.out).mono ?_; rintro e w3 ⟨rfl, hb⟩; have C1 := Lib.hid hb; clear hb
      go_wp2_with fail
      refine (HXX.out _ C1.out).mono ?_; rintro e w4 ⟨rfl, hb⟩; have C2 := Lib.hid hb; clear hb
      go_wp2_with fail
      refine (HXY.out _ C2.out).mono ?_; rintro e w5 ⟨rfl, hb⟩; have C3 := Lib.hid hb; clear hb
      go_wp2_with fail
      refine (HYZ.out _ C3.out).mono ?_; rintro e w6 ⟨rfl, hb⟩; have C4 := Lib.hid hb; clear hb
      go_wp2_with fail
      refine (HXY.out _ C4.out).mono ?_; rintro e w7 ⟨rfl, hb⟩; have C5 := Lib.hid hb; clear hb
      go_wp2_with fail
      refine (HYZ.out _ C5.out).mono ?_; rintro e w8 ⟨rfl, hb⟩; have C6 := Lib.hid hb; clear hb
      go_wp2_with fail
      refine (HXZ.out _ C6.out).mono ?_; rintro e w9 ⟨rfl, hb⟩; have C7 := Lib.hid hb; clear hb
      go_wp2_with fail
      refine (HXZ.out _ C7.out).mono ?_; rintro e w10 ⟨rfl, hb⟩; have C8 := Lib.hid hb; clear hb
      go_wp2_with fail
      refine (awake_of _ (T3.out.below C8.out T3.out.at)).mono ?_; rintro e w9 ⟨rfl, hb⟩
      go_wp2_with fail
      go_ret
      exact ⟨rfl, B3.out.trans ((C8.out.trans (hb.mono C8.out.size)).mono B3.out.size)⟩
    · clear tr
      go_enter Tryd.func11, Tryd.ntmps11
      go_wp2_with fail
      refine (HC1.out _).mono ?_; rintro e w1 ⟨rfl, rfl⟩
      go_wp2_with fail
      refine (HC2.out _).mono ?_; rintro e w1 ⟨rfl, rfl⟩
      go_wp2_with fail
      refine (HC3.out _).mono ?_; rintro e w1 ⟨rfl, rfl⟩
      go_wp2_with fail
      refine (HXY.out _ B0.out).mono ?_; rintro e w2 ⟨rfl, hb⟩; have C0 := Lib.hid hb; clear hb
      go_wp2_with fail
      refine (HYX.out _ C0.out).mono ?_; rintro e w3 ⟨rfl, hb⟩; have C1 := Lib.hid hb; clear hb
      go_wp2_with fail
      refine (HXX.out _ C1.out).mono ?_; rintro e w4 ⟨rfl, hb⟩; have C2 := Lib.hid hb; clear hb
      go_wp2_with fail
      refine (HXY.out _ C2.out).mono ?_; rintro e w5 ⟨rfl, hb⟩; have C3 := Lib.hid hb; clear hb
      go_wp2_with fail
      refine (HYZ.out _ C3.out).mono ?_; rintro e w6 ⟨rfl, hb⟩; have C4 := Lib.hid hb; clear hb
      go_wp2_with fail
      refine (awake_of _ (T3.out.below C4.out T3.out.at)).mono ?_; rintro e w9 ⟨rfl, hb⟩
      go_wp2_with fail
      go_ret
      exact ⟨rfl, B3.out.trans ((C4.out.trans (hb.mono C4.out.size)).mono B3.out.size)⟩
  · clear tr
    go_enter Tryd.func11, Tryd.ntmps11
    go_wp2_with fail
    refine (HC1.out _).mono ?_; rintro e w1 ⟨rfl, rfl⟩
    go_wp2_with fail
    refine (HC2.out _).mono ?_; rintro e w1 ⟨rfl, rfl⟩
    go_wp2_with fail
    refine (HC3.out _).mono ?_; rintro e w1 ⟨rfl, rfl⟩
    go_wp2_with fail
    refine (HXY.out _ B0.out).mono ?_; rintro e w2 ⟨rfl, hb⟩; have C0 := Lib.hid hb; clear hb
    go_wp2_with fail
    refine (HYX.out _ C0.out).mono ?_; rintro e w3 ⟨rfl, hb⟩; have C1 := Lib.hid hb; clear hb
    go_wp2_with fail
    refine (HXX.out _ C1.out).mono ?_; rintro e w4 ⟨rfl, hb⟩; have C2 := Lib.hid hb; clear hb
    go_wp2_with fail
    refine (HXY.out _ C2.out).mono ?_; rintro e w5 ⟨rfl, hb⟩; have C3 := Lib.hid hb; clear hb
    go_wp2_with fail
    refine (awake_of _ (T3.out.below C3.out T3.out.at)).mono ?_; rintro e w9 ⟨rfl, hb⟩
    go_wp2_with fail
    go_ret
    exact ⟨rfl, B3.out.trans ((C3.out.trans (hb.mono C3.out.size)).mono B3.out.size)⟩

end Go.Proofs.YtbankegfmamoiaaDoor
