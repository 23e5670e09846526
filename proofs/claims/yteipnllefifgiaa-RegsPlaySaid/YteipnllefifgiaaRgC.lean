/-
  The small contracts of regs: letters, any, fits, takes, Size; at this seat's numbers.
-/
import Derived.Test.YteipnllefifgiaaRgB
namespace Go.Proofs.Yteipnllefifgiaa
open Go Go.RowKit
set_option linter.unusedVariables false

/-- Which register a letter means; -1: none. -/
def letK (x : Int) : Int := if 97 ≤ x ∧ x ≤ 122 then x - 97 else if 65 ≤ x ∧ x ≤ 90 then x - 65 else -1
def apB (x : Int) : Bool := decide (65 ≤ x ∧ x ≤ 90)
theorem letK_hi (x : Int) : letK x < 26 ∧ -1 ≤ letK x := by
  unfold letK
  split
  · omega
  · split <;> omega

theorem slot_of (x : Int) (w : World) : Calls Try.prog 38 #[.int .i64 x] w fun e w' => e = .returned (.tuple #[.int .i64 (if letK x < 0 then 0 else letK x), .bool (decide (0 ≤ letK x))]) ∧ w = w' := by
  by_cases k0 : 97 ≤ x
  · by_cases k1 : x ≤ 122
    · have e : letK x = x - 97 := by unfold letK; rw [if_pos ⟨k0, k1⟩]
      rw [e, if_neg (by omega), decide_eq_true (by omega)]
      have hw : IntKind.i64.wrap (x - 97) = x - 97 := by rw [IntKind.wrap_i64]; omega
      clear e
      go_enter Try.func38, Try.ntmps38
      go_wp2
      go_ret2
      exact ⟨by first | rfl | simp | simp [hw], rfl⟩
    · have e : letK x = -1 := by unfold letK; rw [if_neg (by omega), if_neg (by omega)]
      rw [e, if_pos (by omega), decide_eq_false (by omega)]
      have k2 : 65 ≤ x := by omega
      have k3 : ¬ x ≤ 90 := by omega
      clear e
      go_enter Try.func38, Try.ntmps38
      go_wp2
      go_ret2
      exact ⟨rfl, rfl⟩
  · by_cases k2 : 65 ≤ x
    · by_cases k3 : x ≤ 90
      · have e : letK x = x - 65 := by unfold letK; rw [if_neg (by omega), if_pos ⟨k2, k3⟩]
        rw [e, if_neg (by omega), decide_eq_true (by omega)]
        have hw : IntKind.i64.wrap (x - 65) = x - 65 := by rw [IntKind.wrap_i64]; omega
        clear e
        go_enter Try.func38, Try.ntmps38
        go_wp2
        go_ret2
        exact ⟨by first | rfl | simp | simp [hw], rfl⟩
      · have e : letK x = -1 := by unfold letK; rw [if_neg (by omega), if_neg (by omega)]
        rw [e, if_pos (by omega), decide_eq_false (by omega)]
        clear e
        go_enter Try.func38, Try.ntmps38
        go_wp2
        go_ret2
        exact ⟨rfl, rfl⟩
    · have e : letK x = -1 := by unfold letK; rw [if_neg (by omega), if_neg (by omega)]
      rw [e, if_pos (by omega), decide_eq_false (by omega)]
      clear e
      go_enter Try.func38, Try.ntmps38
      go_wp2
      go_ret2
      exact ⟨rfl, rfl⟩

theorem letter_of (x : Int) (w : World) : Calls Try.prog 39 #[.int .i64 x] w fun e w' => e = .returned (.int .i64 (letK x)) ∧ w = w' := by
  by_cases k0 : 97 ≤ x
  · by_cases k1 : x ≤ 122
    · have e : letK x = x - 97 := by unfold letK; rw [if_pos ⟨k0, k1⟩]
      rw [e]
      have hw : IntKind.i64.wrap (x - 97) = x - 97 := by rw [IntKind.wrap_i64]; omega
      clear e
      go_enter Try.func39, Try.ntmps39
      go_wp2
      go_ret
      exact ⟨by first | rfl | simp | simp [hw], rfl⟩
    · have e : letK x = -1 := by unfold letK; rw [if_neg (by omega), if_neg (by omega)]
      rw [e]
      have k2 : 65 ≤ x := by omega
      have k3 : ¬ x ≤ 90 := by omega
      clear e
      go_enter Try.func39, Try.ntmps39
      go_wp2
      go_ret
      exact ⟨rfl, rfl⟩
  · by_cases k2 : 65 ≤ x
    · by_cases k3 : x ≤ 90
      · have e : letK x = x - 65 := by unfold letK; rw [if_neg (by omega), if_pos ⟨k2, k3⟩]
        rw [e]
        have hw : IntKind.i64.wrap (x - 65) = x - 65 := by rw [IntKind.wrap_i64]; omega
        clear e
        go_enter Try.func39, Try.ntmps39
        go_wp2
        go_ret
        exact ⟨by first | rfl | simp | simp [hw], rfl⟩
      · have e : letK x = -1 := by unfold letK; rw [if_neg (by omega), if_neg (by omega)]
        rw [e]
        clear e
        go_enter Try.func39, Try.ntmps39
        go_wp2
        go_ret
        exact ⟨rfl, rfl⟩
    · have e : letK x = -1 := by unfold letK; rw [if_neg (by omega), if_neg (by omega)]
      rw [e]
      clear e
      go_enter Try.func39, Try.ntmps39
      go_wp2
      go_ret
      exact ⟨rfl, rfl⟩

theorem appends_of (x : Int) (w : World) : Calls Try.prog 30 #[.int .i64 x] w fun e w' => e = .returned (.bool (apB x)) ∧ w = w' := by
  unfold apB
  by_cases k2 : 65 ≤ x
  · by_cases k3 : x ≤ 90
    · rw [decide_eq_true (by omega)]
      go_enter Try.func30, Try.ntmps30
      go_wp2
      go_ret
      exact ⟨rfl, rfl⟩
    · rw [decide_eq_false (by omega)]
      go_enter Try.func30, Try.ntmps30
      go_wp2
      go_ret
      exact ⟨rfl, rfl⟩
  · rw [decide_eq_false (by omega)]
    go_enter Try.func30, Try.ntmps30
    go_wp2
    go_ret
    exact ⟨rfl, rfl⟩

theorem any_of (k : Int) (a : Option Addr) (n c : Nat) (w : World) : Calls Try.prog 34 #[rgV k a n c] w fun e w' => e = .returned (.bool (decide (0 < n))) ∧ Below w.heap.size w w' := by
  unfold rgV
  have al := Lib.hid (t_al w (.cells #[.int .i64 k, .slice a n c] 41))
  by_cases h : 0 < n
  · have d0 : decide ((0 : Int) < (n : Int)) = true := decide_eq_true (by omega)
    rw [decide_eq_true h]
    go_enter Try.func34, Try.ntmps34
    go_wp2
    go_ret
    exact ⟨rfl, al.out⟩
  · obtain rfl : n = 0 := by omega
    go_enter Try.func34, Try.ntmps34
    go_wp2
    go_ret
    exact ⟨rfl, al.out⟩

end Go.Proofs.Yteipnllefifgiaa
