/-
  The contract of the document's own At, at this seat's numbers: a class of lead bytes at a time.
-/
import Derived.Test.YtkendmlbmdhnaaaDoorUtfG
import Derived.BigQuiet
namespace Go.Proofs.YtkendmlbmdhnaaaDoor
open Go Go.RowKit
set_option linter.unusedVariables false

set_option maxRecDepth 100000 in
set_option maxHeartbeats 1000000 in
theorem at_three_no (s : ByteArray) (i : Nat) (w : World) (hs : s.size ≤ maxLen) (hi : i < s.size) (k2 : 224 ≤ bt s i) (k3 : bt s i < 240) (hno : moreB s (i + 1) = false ∨ moreB s (i + 2) = false) :
    Calls Tryd.prog 26 #[.string s, .int .i64 i] w fun e w' => e = .returned (.tuple #[.int .i64 (rn s i), .int .i64 (wd s i)]) ∧ Below w.heap.size w w' := by
  have HS := Lib.hid hs
  unfold maxLen at hs
  have hc := refC_at s i hi
  have hb0 := bt_get s i hi
  have u0 := bt_hi s i
  have c1 := more_of s (i + 1) w HS.out
  have c2 := more_of s (i + 2) w HS.out
  have c3 := more_of s (i + 3) w HS.out
  rw [show ((i + 1 : Nat) : Int) = (i : Int) + 1 from by omega] at c1
  rw [show ((i + 2 : Nat) : Int) = (i : Int) + 2 from by omega] at c2
  rw [show ((i + 3 : Nat) : Int) = (i : Int) + 3 from by omega] at c3
  have C1 := Lib.hid c1
  have C2 := Lib.hid c2
  have C3 := Lib.hid c3
  clear c1 c2 c3
  have k0 : ¬ bt s i < 128 := by omega
  have hm1 : moreB s (i + 1) = true → i + 1 < s.size ∧ 128 ≤ bt s (i + 1) ∧ bt s (i + 1) ≤ 191 := fun h => by unfold moreB at h; exact of_decide_eq_true h
  have hm2 : moreB s (i + 2) = true → i + 2 < s.size ∧ 128 ≤ bt s (i + 2) ∧ bt s (i + 2) ≤ 191 := fun h => by unfold moreB at h; exact of_decide_eq_true h
  have hm3 : moreB s (i + 3) = true → i + 3 < s.size ∧ 128 ≤ bt s (i + 3) ∧ bt s (i + 3) ≤ 191 := fun h => by unfold moreB at h; exact of_decide_eq_true h
  generalize moreB s (i + 1) = m1 at *
  generalize moreB s (i + 2) = m2 at *
  generalize moreB s (i + 3) = m3 at *
  generalize rn s i = R at *
  generalize wd s i = K at *
  have hres : ∀ v k : Int, refC (bt s i) (bt s (i + 1)) (bt s (i + 2)) (bt s (i + 3)) m1 m2 m3 = (v, k) → R = v ∧ (K : Int) = k := fun v k h => by
    rw [hc] at h
    exact ⟨congrArg Prod.fst h, congrArg Prod.snd h⟩
  clear hc
  cases m1
  · clear hm1 hm2 hm3 hno
    have HR := Lib.hid (hres _ _ (refC_none _ _ _ _ _ _ _ k0 (fun h => Bool.false_ne_true h.1.2.2) (fun h => Bool.false_ne_true h.1.2.2.1) (fun h => Bool.false_ne_true h.1.2.2.1)))
    clear hres HS
    have dA : decide (bt s i < 128) = false := by simp <;> omega
    have dB : decide (192 ≤ bt s i) = true := by simp <;> omega
    have dC : decide (bt s i < 224) = false := by simp <;> omega
    have dD : decide (224 ≤ bt s i) = true := by simp <;> omega
    have dE : decide (bt s i < 240) = true := by simp <;> omega
    have dF : decide (240 ≤ bt s i) = false := by simp <;> omega
    have dH : decide ((i : Int) < 0) = false := by simp
    have dI : decide (s.size ≤ i) = false := by simp; omega
    clear u0
    go_enter Tryd.func26, Tryd.ntmps26
    go_wp2_with fail
    refine C1.out.mono ?_; rintro e w1 ⟨rfl, rfl⟩
    go_wp2_with fail
    go_ret2
    exact ⟨ret_two HR.out.1.symm HR.out.2.symm, Below.refl _ _⟩
  · have e2 : m2 = false := by rcases hno with h | h; cases h; exact h
    subst e2
    obtain ⟨j1, l1, u1⟩ := hm1 rfl
    clear hm1 hm2 hm3 hno l1 u1
    have HR := Lib.hid (hres _ _ (refC_none _ _ _ _ _ _ _ k0 (fun h => by omega) (fun h => Bool.false_ne_true h.1.2.2.2) (fun h => by omega)))
    clear hres HS
    have dA : decide (bt s i < 128) = false := by simp <;> omega
    have dB : decide (192 ≤ bt s i) = true := by simp <;> omega
    have dC : decide (bt s i < 224) = false := by simp <;> omega
    have dD : decide (224 ≤ bt s i) = true := by simp <;> omega
    have dE : decide (bt s i < 240) = true := by simp <;> omega
    have dF : decide (240 ≤ bt s i) = false := by simp <;> omega
    have dH : decide ((i : Int) < 0) = false := by simp
    have dI : decide (s.size ≤ i) = false := by simp; omega
    clear u0
    go_enter Tryd.func26, Tryd.ntmps26
    go_wp2_with fail
    refine C1.out.mono ?_; rintro e w1 ⟨rfl, rfl⟩
    go_wp2_with fail
    refine C2.out.mono ?_; rintro e w1 ⟨rfl, rfl⟩
    go_wp2_with fail
    go_ret2
    exact ⟨ret_two HR.out.1.symm HR.out.2.symm, Below.refl _ _⟩

set_option maxRecDepth 100000 in
set_option maxHeartbeats 1000000 in
theorem at_three (s : ByteArray) (i : Nat) (w : World) (hs : s.size ≤ maxLen) (hi : i < s.size) (k2 : 224 ≤ bt s i) (k3 : bt s i < 240) (y1 : moreB s (i + 1) = true) (y2 : moreB s (i + 2) = true) :
    Calls Tryd.prog 26 #[.string s, .int .i64 i] w fun e w' => e = .returned (.tuple #[.int .i64 (rn s i), .int .i64 (wd s i)]) ∧ Below w.heap.size w w' := by
  have HS := Lib.hid hs
  unfold maxLen at hs
  have hc := refC_at s i hi
  have hb0 := bt_get s i hi
  have u0 := bt_hi s i
  have c1 := more_of s (i + 1) w HS.out
  have c2 := more_of s (i + 2) w HS.out
  have c3 := more_of s (i + 3) w HS.out
  rw [show ((i + 1 : Nat) : Int) = (i : Int) + 1 from by omega] at c1
  rw [show ((i + 2 : Nat) : Int) = (i : Int) + 2 from by omega] at c2
  rw [show ((i + 3 : Nat) : Int) = (i : Int) + 3 from by omega] at c3
  have C1 := Lib.hid c1
  have C2 := Lib.hid c2
  have C3 := Lib.hid c3
  clear c1 c2 c3
  have k0 : ¬ bt s i < 128 := by omega
  have hm1 : moreB s (i + 1) = true → i + 1 < s.size ∧ 128 ≤ bt s (i + 1) ∧ bt s (i + 1) ≤ 191 := fun h => by unfold moreB at h; exact of_decide_eq_true h
  have hm2 : moreB s (i + 2) = true → i + 2 < s.size ∧ 128 ≤ bt s (i + 2) ∧ bt s (i + 2) ≤ 191 := fun h => by unfold moreB at h; exact of_decide_eq_true h
  have hm3 : moreB s (i + 3) = true → i + 3 < s.size ∧ 128 ≤ bt s (i + 3) ∧ bt s (i + 3) ≤ 191 := fun h => by unfold moreB at h; exact of_decide_eq_true h
  generalize moreB s (i + 1) = m1 at *
  generalize moreB s (i + 2) = m2 at *
  generalize moreB s (i + 3) = m3 at *
  generalize rn s i = R at *
  generalize wd s i = K at *
  have hres : ∀ v k : Int, refC (bt s i) (bt s (i + 1)) (bt s (i + 2)) (bt s (i + 3)) m1 m2 m3 = (v, k) → R = v ∧ (K : Int) = k := fun v k h => by
    rw [hc] at h
    exact ⟨congrArg Prod.fst h, congrArg Prod.snd h⟩
  clear hc
  subst y1
  subst y2
  obtain ⟨j1, l1, u1⟩ := hm1 rfl
  obtain ⟨j2, l2, u2⟩ := hm2 rfl
  have hb1 := bt_get s (i + 1) j1
  have hb2 := bt_get s (i + 2) j2
  have z1 : (0 : Int) ≤ (i : Int) + 1 := by omega
  have z2 : (0 : Int) ≤ (i : Int) + 2 := by omega
  have z3 : (0 : Int) ≤ (i : Int) + 3 := by omega
  have g1 : (i : Int) + 1 < (s.size : Int) := by omega
  have g2 : (i : Int) + 2 < (s.size : Int) := by omega
  clear hm1 hm2 hm3
  by_cases q : 2048 ≤ (bt s i - 224) * 4096 + (bt s (i + 1) - 128) * 64 + bt s (i + 2) - 128
  · have q' := decide_eq_true q
    by_cases q2 : (bt s i - 224) * 4096 + (bt s (i + 1) - 128) * 64 + bt s (i + 2) - 128 < 55296
    · have q2' := decide_eq_true q2
      have HR := Lib.hid (hres _ _ (refC_three _ _ _ _ _ k2 k3 q (Or.inl q2)))
      clear hres HS
      have dA : decide (bt s i < 128) = false := by simp <;> omega
      have dB : decide (192 ≤ bt s i) = true := by simp <;> omega
      have dC : decide (bt s i < 224) = false := by simp <;> omega
      have dD : decide (224 ≤ bt s i) = true := by simp <;> omega
      have dE : decide (bt s i < 240) = true := by simp <;> omega
      have dF : decide (240 ≤ bt s i) = false := by simp <;> omega
      have dH : decide ((i : Int) < 0) = false := by simp
      have dI : decide (s.size ≤ i) = false := by simp; omega
      clear u0
      go_enter Tryd.func26, Tryd.ntmps26
      go_wp2_with fail
      refine C1.out.mono ?_; rintro e w1 ⟨rfl, rfl⟩
      go_wp2_with fail
      refine C2.out.mono ?_; rintro e w1 ⟨rfl, rfl⟩
      go_wp2_with fail
      go_quiet (fail)
      go_wp2_with fail
      go_ret2
      exact ⟨ret_two HR.out.1.symm HR.out.2.symm, Below.draws _ _⟩
    · have q2' := decide_eq_false q2
      by_cases q3 : 57343 < (bt s i - 224) * 4096 + (bt s (i + 1) - 128) * 64 + bt s (i + 2) - 128
      · have q3' := decide_eq_true q3
        have HR := Lib.hid (hres _ _ (refC_three _ _ _ _ _ k2 k3 q (Or.inr q3)))
        clear hres HS
        have dA : decide (bt s i < 128) = false := by simp <;> omega
        have dB : decide (192 ≤ bt s i) = true := by simp <;> omega
        have dC : decide (bt s i < 224) = false := by simp <;> omega
        have dD : decide (224 ≤ bt s i) = true := by simp <;> omega
        have dE : decide (bt s i < 240) = true := by simp <;> omega
        have dF : decide (240 ≤ bt s i) = false := by simp <;> omega
        have dH : decide ((i : Int) < 0) = false := by simp
        have dI : decide (s.size ≤ i) = false := by simp; omega
        clear u0
        go_enter Tryd.func26, Tryd.ntmps26
        go_wp2_with fail
        refine C1.out.mono ?_; rintro e w1 ⟨rfl, rfl⟩
        go_wp2_with fail
        refine C2.out.mono ?_; rintro e w1 ⟨rfl, rfl⟩
        go_wp2_with fail
        go_quiet (fail)
        go_wp2_with fail
        go_ret2
        exact ⟨ret_two HR.out.1.symm HR.out.2.symm, Below.draws _ _⟩
      · have q3' := decide_eq_false q3
        have HR := Lib.hid (hres _ _ (refC_none _ _ _ _ _ _ _ k0 (fun h => by omega) (fun h => h.2.2.elim q2 q3) (fun h => by omega)))
        clear hres HS
        have dA : decide (bt s i < 128) = false := by simp <;> omega
        have dB : decide (192 ≤ bt s i) = true := by simp <;> omega
        have dC : decide (bt s i < 224) = false := by simp <;> omega
        have dD : decide (224 ≤ bt s i) = true := by simp <;> omega
        have dE : decide (bt s i < 240) = true := by simp <;> omega
        have dF : decide (240 ≤ bt s i) = false := by simp <;> omega
        have dH : decide ((i : Int) < 0) = false := by simp
        have dI : decide (s.size ≤ i) = false := by simp; omega
        clear u0
        go_enter Tryd.func26, Tryd.ntmps26
        go_wp2_with fail
        refine C1.out.mono ?_; rintro e w1 ⟨rfl, rfl⟩
        go_wp2_with fail
        refine C2.out.mono ?_; rintro e w1 ⟨rfl, rfl⟩
        go_wp2_with fail
        go_quiet (fail)
        go_wp2_with fail
        go_ret2
        exact ⟨ret_two HR.out.1.symm HR.out.2.symm, Below.draws _ _⟩
  · have q' := decide_eq_false q
    have HR := Lib.hid (hres _ _ (refC_none _ _ _ _ _ _ _ k0 (fun h => by omega) (fun h => q h.2.1) (fun h => by omega)))
    clear hres HS
    have dA : decide (bt s i < 128) = false := by simp <;> omega
    have dB : decide (192 ≤ bt s i) = true := by simp <;> omega
    have dC : decide (bt s i < 224) = false := by simp <;> omega
    have dD : decide (224 ≤ bt s i) = true := by simp <;> omega
    have dE : decide (bt s i < 240) = true := by simp <;> omega
    have dF : decide (240 ≤ bt s i) = false := by simp <;> omega
    have dH : decide ((i : Int) < 0) = false := by simp
    have dI : decide (s.size ≤ i) = false := by simp; omega
    clear u0
    go_enter Tryd.func26, Tryd.ntmps26
    go_wp2_with fail
    refine C1.out.mono ?_; rintro e w1 ⟨rfl, rfl⟩
    go_wp2_with fail
    refine C2.out.mono ?_; rintro e w1 ⟨rfl, rfl⟩
    go_wp2_with fail
    go_quiet (fail)
    go_wp2_with fail
    go_ret2
    exact ⟨ret_two HR.out.1.symm HR.out.2.symm, Below.draws _ _⟩

end Go.Proofs.YtkendmlbmdhnaaaDoor
