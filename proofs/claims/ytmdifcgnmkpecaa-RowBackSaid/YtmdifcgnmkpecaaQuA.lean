/-
  Plain words for quote, and the contracts of its small functions, at this seat's numbers.
-/
import Derived.Test.YtmdifcgnmkpecaaScB
namespace Go.Proofs.Ytmdifcgnmkpecaa
open Go Go.RowKit
set_option linter.unusedVariables false

/-- A text with this byte needs quotes. -/
def spB (c : Int) : Bool := decide (c = 44 ∨ c = 34 ∨ c = 13 ∨ c = 10)
def needsP (l : List UInt8) : Bool := decide (∃ k, k < l.length ∧ spB (lb l k) = true)
def dupB (c : UInt8) : List UInt8 := if (c.toNat : Int) = 34 then [c, c] else [c]
/-- A text as a field. -/
def putP (l : List UInt8) : List UInt8 := if needsP l = true then 34 :: (l.flatMap dupB ++ [34]) else l
def endedP (c : Int) : Int := if c = 44 then 0 else if c = 13 then 4 else 5
/-- To which place a byte leads. -/
def nextP (p c : Int) : Int :=
  if p = 2 then (if c = 34 then 3 else 2)
  else if p = 4 then (if c = 10 then 0 else 5)
  else if p = 0 then (if c = 34 then 2 else if spB c = true then endedP c else 1)
  else if p = 1 then (if spB c = true then endedP c else 1)
  else if p = 3 then (if c = 34 then 2 else endedP c)
  else 5
def runP (l : List UInt8) : Int := l.foldl (fun p c => nextP p (c.toNat : Int)) 0
/-- At which places a right file may end. -/
def mayP (p : Int) : Bool := decide (p = 0 ∨ p = 1 ∨ p = 3)
/-- Is a file right? -/
def rightP (l : List UInt8) : Bool := mayP (runP l)
theorem endedP_range (c : Int) : 0 ≤ endedP c ∧ endedP c ≤ 5 := by unfold endedP; split <;> (try split) <;> omega
theorem nextP_range (p c : Int) : 0 ≤ nextP p c ∧ nextP p c ≤ 5 := by
  have := endedP_range c
  unfold nextP
  repeat' split
  all_goals omega
theorem runP_range (l : List UInt8) : 0 ≤ runP l ∧ runP l ≤ 5 := by
  rcases List.eq_nil_or_concat l with rfl | ⟨l0, c, rfl⟩
  · exact ⟨by decide, by decide⟩
  · rw [List.concat_eq_append]
    unfold runP
    rw [List.foldl_append]
    exact nextP_range _ _
theorem runP_take {l : List UInt8} {k : Nat} (h : k < l.length) : runP (l.take (k + 1)) = nextP (runP (l.take k)) (lb l k) := by
  rw [List.take_succ_eq_append_getElem h]
  unfold runP
  rw [List.foldl_append]
  unfold lb
  rw [List.getD_eq_getElem?_getD, List.getElem?_eq_getElem h]
  rfl

theorem special_yes (x : Int) (h : spB x = true) (w : World) : Calls Try.prog 100 #[.int .u8 x] w fun e w' => e = .returned (.bool true) ∧ w = w' := by
  unfold spB at h
  simp only [decide_eq_true_eq] at h
  rcases h with rfl | rfl | rfl | rfl
  all_goals
    go_enter Try.func100, Try.ntmps100
    go_wp2_with fail
    go_ret
    exact ⟨rfl, rfl⟩
theorem special_no (x : Int) (h : spB x = false) (w : World) : Calls Try.prog 100 #[.int .u8 x] w fun e w' => e = .returned (.bool false) ∧ w = w' := by
  unfold spB at h
  simp only [decide_eq_false_iff_not, not_or] at h
  have d1 : (x == 44) = false := by simpa using h.1
  have d2 : (x == 34) = false := by simpa using h.2.1
  have d3 : (x == 13) = false := by simpa using h.2.2.1
  have d4 : (x == 10) = false := by simpa using h.2.2.2
  clear h
  go_enter Try.func100, Try.ntmps100
  go_wp2_with fail
  go_ret
  exact ⟨rfl, rfl⟩
/-- Some place. -/
theorem idxf_no {w : World} {a : Option Addr} {c : Nat} {l : List UInt8} (hr : Rd w 1 a l.length (bc l)) (hl : l.length ≤ 1000000) (h : ∀ k, k < l.length → spB (lb l k) = false) :
    Calls Try.prog 111 #[.slice a l.length c, .func (.func 100) #[] #[]] w fun e w' => e = .returned (.int .i64 (-1)) ∧ w = w' := by
  have HR := Lib.hid hr
  have HX := Lib.hid h
  clear hr h
  go_enter Try.func111, Try.ntmps111
  go_wp2_with fail
  go_loop [8] (fun v => ∃ k : Nat, k ≤ l.length ∧ v = .int .i64 k) (fun v => l.length - (intOf v).toNat)
  case atStart => exact ⟨0, by omega, rfl⟩
  case round =>
    obtain ⟨k, hk, rfl⟩ := hrel
    by_cases hlt : k < l.length
    · have dk : decide (k < l.length) = true := decide_eq_true hlt
      obtain ⟨b, off, rfl, hb, hc⟩ := rd_at HR.out hlt
      have HM := Lib.hid (special_no _ (HX.out k hlt))
      generalize lb l k = y at *
      go_wp2_with (go_at_call 100; refine (HM.out _).mono ?_; rintro e w' ⟨rfl, rfl⟩)
      go_round
      case rel => exact ⟨k + 1, hlt, by go_num⟩
      case measure => simp [intOf]; omega
    · have dk : decide (k < l.length) = false := decide_eq_false hlt
      go_wp2_with fail
      go_ret
      exact ⟨rfl, rfl⟩
theorem idxf_yes {w : World} {a : Option Addr} {c : Nat} {l : List UInt8} (hr : Rd w 1 a l.length (bc l)) (hl : l.length ≤ 1000000) (h : ∃ k, k < l.length ∧ spB (lb l k) = true) :
    Calls Try.prog 111 #[.slice a l.length c, .func (.func 100) #[] #[]] w (SomeIdx w) := by
  have HR := Lib.hid hr
  obtain ⟨q, hq, hqx⟩ := h
  have HQ := Lib.hid hqx
  clear hr hqx
  go_enter Try.func111, Try.ntmps111
  go_wp2_with fail
  go_loop [8] (fun v => ∃ k : Nat, k ≤ q ∧ v = .int .i64 k) (fun v => l.length - (intOf v).toNat)
  case atStart => exact ⟨0, by omega, rfl⟩
  case round =>
    obtain ⟨k, hk, rfl⟩ := hrel
    have hlt : k < l.length := by omega
    have dk : decide (k < l.length) = true := decide_eq_true hlt
    obtain ⟨b, off, rfl, hb, hc⟩ := rd_at HR.out hlt
    by_cases hm : spB (lb l k) = true
    · have HM := Lib.hid (special_yes _ hm)
      clear hm HQ
      generalize lb l k = y at *
      go_wp2_with (go_at_call 100; refine (HM.out _).mono ?_; rintro e w' ⟨rfl, rfl⟩)
      go_ret
      exact ⟨k, rfl, rfl⟩
    · have HM := Lib.hid (special_no _ (Bool.eq_false_iff.2 hm))
      have hkq : k < q := by
        have := HQ.out
        rcases Nat.lt_or_ge k q with h | h
        · exact h
        · obtain rfl : k = q := by omega
          exact absurd this hm
      clear hm HQ
      generalize lb l k = y at *
      go_wp2_with (go_at_call 100; refine (HM.out _).mono ?_; rintro e w' ⟨rfl, rfl⟩)
      go_round
      case rel => exact ⟨k + 1, hkq, by go_num⟩
      case measure => simp [intOf]; omega
theorem qneeds_of {w : World} {a : Option Addr} {c : Nat} {l : List UInt8} (hr : Rd w 1 a l.length (bc l)) (hl : l.length ≤ 1000000) :
    Calls Try.prog 86 #[.slice a l.length c] w fun e w' => e = .returned (.bool (needsP l)) ∧ w = w' := by
  have HCF : Hid (Calls Try.prog 99 #[.slice a l.length c, .func (.func 100) #[] #[]] w fun e w' => e = .returned (.bool (needsP l)) ∧ w = w') := by
    by_cases h : ∃ k, k < l.length ∧ spB (lb l k) = true
    · have e : needsP l = true := decide_eq_true h
      rw [e]
      have HC := Lib.hid (idxf_yes (c := c) hr hl h)
      clear hr h e
      show Calls _ _ _ _ _
      go_enter Try.func99, Try.ntmps99
      go_wp2_with (go_at_call 111; refine HC.out.mono ?_; rintro e w' ⟨r, rfl, rfl⟩; have hr0 : decide ((0 : Int) ≤ (r : Int)) = true := decide_eq_true (by omega))
      go_ret
      exact ⟨rfl, rfl⟩
    · have e : needsP l = false := decide_eq_false h
      rw [e]
      have HC := Lib.hid (idxf_no (c := c) hr hl (fun k hk => Bool.eq_false_iff.2 (fun hh => h ⟨k, hk, hh⟩)))
      clear hr h e
      show Calls _ _ _ _ _
      go_enter Try.func99, Try.ntmps99
      go_wp2_with (go_at_call 111; refine HC.out.mono ?_; rintro e w' ⟨rfl, rfl⟩)
      go_ret
      exact ⟨rfl, rfl⟩
  clear hr
  go_enter Try.func86, Try.ntmps86
  go_wp2_with (go_at_call 99; refine HCF.out.mono ?_; rintro e w' ⟨rfl, rfl⟩)
  go_ret
  exact ⟨rfl, rfl⟩

end Go.Proofs.Ytmdifcgnmkpecaa
