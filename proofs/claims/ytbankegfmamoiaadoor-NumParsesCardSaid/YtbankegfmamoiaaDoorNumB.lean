/-
  The contracts of num.sign and num.Parse over a slice of bytes that is not nil, at this seat's numbers.
-/
import Derived.Test.YtbankegfmamoiaaDoorNumA
namespace Go.Proofs.YtbankegfmamoiaaDoor
open Go Go.RowKit
set_option linter.unusedVariables false

def SignPost (b off : Nat) (s : ByteArray) (k : Nat) (m : Bool) (w : World) (e : Ending) (w' : World) : Prop :=
  ∃ off' cap' n, e = .returned (.tuple #[.slice (some ⟨b, off', none⟩) (s.size - k) cap', .bool m]) ∧ (k < s.size → off' = off + k) ∧ w' = w.drewN n

set_option maxHeartbeats 400000 in
theorem sign_none (b off cap : Nat) (s : ByteArray) (w : World) (hs : s.size ≤ maxLen) (h0 : s.size = 0) :
    Calls Tryd.prog 49 #[.slice (some ⟨b, off, none⟩) s.size cap] w (SignPost b off s 0 false w) := by
  have hz : ¬ ((0 : Int) < (s.size : Int)) := by omega
  have H0 := Lib.hid h0
  clear h0
  go_enter Tryd.func49, Tryd.ntmps49
  go_wp2
  go_ret2
  exact ⟨off, cap, 0, rfl, fun _ => rfl, rfl⟩

set_option maxHeartbeats 400000 in
theorem sign_plain (b off cap : Nat) (s : ByteArray) (w : World) (hs : s.size ≤ maxLen) (h0 : 0 < s.size) (hb : Bs w b off s) (hp : bt s 0 ≠ 43) (hm : bt s 0 ≠ 45) :
    Calls Tryd.prog 49 #[.slice (some ⟨b, off, none⟩) s.size cap] w (SignPost b off s 0 false w) := by
  have hc := hb 0 h0
  rw [Nat.add_zero] at hc
  clear hb
  have hz : (0 : Int) < (s.size : Int) := by omega
  have e1 : (bt s 0 == 43) = false := by simpa using hp
  have e2 : (bt s 0 == 45) = false := by simpa using hm
  clear hp hm
  go_enter Tryd.func49, Tryd.ntmps49
  go_wp2
  go_ret2
  exact ⟨off, cap, 0, rfl, fun _ => rfl, rfl⟩

set_option maxHeartbeats 400000 in
theorem sign_sign (b off cap : Nat) (s : ByteArray) (w : World) (hs : s.size ≤ maxLen) (hcap : s.size ≤ cap) (hcm : cap ≤ maxLen) (h0 : 0 < s.size) (hb : Bs w b off s) (hp : bt s 0 = 43 ∨ bt s 0 = 45) :
    Calls Tryd.prog 49 #[.slice (some ⟨b, off, none⟩) s.size cap] w (SignPost b off s 1 (bt s 0 == 45) w) := by
  unfold maxLen at hs hcm
  have hc := hb 0 h0
  rw [Nat.add_zero] at hc
  clear hb
  have hz : (0 : Int) < (s.size : Int) := by omega
  rcases hp with h | h
  · rw [h] at hc ⊢
    clear h
    by_cases hk : cap = 1
    · subst hk
      go_enter Tryd.func49, Tryd.ntmps49
      go_wp2
      go_quiet (fail)
      go_wp2
      go_ret2
      have e1 : s.size - 1 = 0 := by omega
      exact ⟨off, 0, nq, by rw [e1]; rfl, fun h => by omega, rfl⟩
    · go_enter Tryd.func49, Tryd.ntmps49
      go_wp2
      go_quiet (fail)
      go_wp2
      go_ret2
      exact ⟨off + 1, cap - 1, nq, rfl, fun _ => rfl, rfl⟩
  · rw [h] at hc ⊢
    clear h
    by_cases hk : cap = 1
    · subst hk
      go_enter Tryd.func49, Tryd.ntmps49
      go_wp2
      go_quiet (fail)
      go_wp2
      go_ret2
      have e1 : s.size - 1 = 0 := by omega
      exact ⟨off, 0, nq, by rw [e1]; rfl, fun h => by omega, rfl⟩
    · go_enter Tryd.func49, Tryd.ntmps49
      go_wp2
      go_quiet (fail)
      go_wp2
      go_ret2
      exact ⟨off + 1, cap - 1, nq, rfl, fun _ => rfl, rfl⟩

/-- How many bytes the sign has; whether it is a minus. -/
def signK (s : ByteArray) : Nat := if 0 < s.size ∧ (bt s 0 = 43 ∨ bt s 0 = 45) then 1 else 0
def signM (s : ByteArray) : Bool := decide (0 < s.size ∧ bt s 0 = 45)

theorem sign_of (b off cap : Nat) (s : ByteArray) (w : World) (hs : s.size ≤ maxLen) (hcap : s.size ≤ cap) (hcm : cap ≤ maxLen) (hb : Bs w b off s) :
    Calls Tryd.prog 49 #[.slice (some ⟨b, off, none⟩) s.size cap] w (SignPost b off s (signK s) (signM s) w) := by
  by_cases h0 : 0 < s.size
  · by_cases hp : bt s 0 = 43 ∨ bt s 0 = 45
    · have e1 : signK s = 1 := by unfold signK; rw [if_pos ⟨h0, hp⟩]
      have e2 : signM s = (bt s 0 == 45) := by unfold signM; rw [Bool.eq_iff_iff]; simp; omega
      rw [e1, e2]
      exact sign_sign b off cap s w hs hcap hcm h0 hb hp
    · have e1 : signK s = 0 := by unfold signK; rw [if_neg (by omega)]
      have e2 : signM s = false := by unfold signM; simp; omega
      rw [e1, e2]
      exact sign_plain b off cap s w hs h0 hb (by omega) (by omega)
  · have e1 : signK s = 0 := by unfold signK; rw [if_neg (by omega)]
    have e2 : signM s = false := by unfold signM; simp; omega
    rw [e1, e2]
    exact sign_none b off cap s w hs (by omega)

/-- The least number that may come ahead of a digit d. -/
def least (d : Int) : Int := (-9223372036854775808 + d).tdiv 10
theorem least_eq (d : Int) (h0 : 0 ≤ d) (h1 : d ≤ 9) : least d = -((9223372036854775808 - d) / 10) := by
  unfold least
  rw [show (-9223372036854775808 + d : Int) = -(9223372036854775808 - d) from by omega, Int.neg_tdiv, Int.tdiv_eq_ediv_of_nonneg (by omega)]
theorem least_ok (x d : Int) (h0 : 0 ≤ d) (h1 : d ≤ 9) (h : ¬ x < least d) : -9223372036854775808 ≤ x * 10 - d := by
  rw [least_eq d h0 h1] at h
  omega
theorem least_no (x d : Int) (h0 : 0 ≤ d) (h1 : d ≤ 9) (h : x < least d) : x * 10 - d < -9223372036854775808 := by
  rw [least_eq d h0 h1] at h
  omega
def pFrom (s : ByteArray) : Nat → Nat → Int → Option Int
  | 0, _, n => some n
  | k + 1, i, n => if 48 ≤ bt s i ∧ bt s i ≤ 57 ∧ ¬ n < least (bt s i - 48) then pFrom s k (i + 1) (n * 10 - (bt s i - 48)) else none
def pEnd (minus : Bool) : Option Int → Int × Bool
  | none => (0, false)
  | some n => if minus then (n, true) else if n = -9223372036854775808 then (0, false) else (-n, true)
def parse (s : ByteArray) : Int × Bool := if s.size - signK s = 0 then (0, false) else pEnd (signM s) (pFrom s (s.size - signK s) (signK s) 0)
def ParsePost (s : ByteArray) (w : World) (e : Ending) (w' : World) : Prop := e = .returned (.tuple #[.int .i64 (parse s).1, .bool (parse s).2]) ∧ ∃ n, w' = w.drewN n
def AtP (s : ByteArray) (j : Nat) (m : Int) : Prop := -9223372036854775808 ≤ m ∧ m ≤ 0 ∧ pFrom s (s.size - signK s - j) (signK s + j) m = pFrom s (s.size - signK s) (signK s) 0

theorem atP_step (s : ByteArray) (j : Nat) (x : Int) (h : AtP s j x) (hj : j < s.size - signK s) (h0 : 48 ≤ bt s (signK s + j)) (h1 : bt s (signK s + j) ≤ 57) (h2 : ¬ x < least (bt s (signK s + j) - 48)) :
    AtP s (j + 1) (x * 10 - (bt s (signK s + j) - 48)) := by
  obtain ⟨a, b, c⟩ := h
  refine ⟨least_ok _ _ (by omega) (by omega) h2, by omega, ?_⟩
  rw [← c, show s.size - signK s - j = (s.size - signK s - (j + 1)) + 1 from by omega]
  conv => rhs; unfold pFrom
  rw [if_pos ⟨h0, h1, h2⟩, Nat.add_assoc]

theorem atP_stop (s : ByteArray) (j : Nat) (x : Int) (h : AtP s j x) (hj : j < s.size - signK s) (h0 : ¬ (48 ≤ bt s (signK s + j) ∧ bt s (signK s + j) ≤ 57 ∧ ¬ x < least (bt s (signK s + j) - 48))) : parse s = (0, false) := by
  obtain ⟨a, b, c⟩ := h
  unfold parse
  rw [if_neg (by omega), ← c, show s.size - signK s - j = (s.size - signK s - (j + 1)) + 1 from by omega]
  unfold pFrom
  rw [if_neg h0]
  rfl

theorem atP_end (s : ByteArray) (x : Int) (h : AtP s (s.size - signK s) x) (hz : ¬ s.size - signK s = 0) : parse s = pEnd (signM s) (some x) := by
  obtain ⟨a, b, c⟩ := h
  unfold parse
  rw [if_neg hz, ← c, Nat.sub_self]
  rfl

theorem ret_ib {a c : Int} {b d : Bool} (h : (c, d) = (a, b)) : Ending.returned (.tuple #[.int .i64 a, .bool b]) = .returned (.tuple #[.int .i64 (c, d).1, .bool (c, d).2]) := by rw [h]

set_option maxRecDepth 100000 in
set_option maxHeartbeats 400000 in
theorem parse_of (b off cap : Nat) (s : ByteArray) (w : World) (hs : s.size ≤ maxLen) (hcap : s.size ≤ cap) (hcm : cap ≤ maxLen) (hb : Bs w b off s) :
    Calls Tryd.prog 33 #[.slice (some ⟨b, off, none⟩) s.size cap] w (ParsePost s w) := by
  have hsg := sign_of b off cap s w hs hcap hcm hb
  obtain ⟨k, hk⟩ : ∃ k, signK s = k := ⟨_, rfl⟩
  obtain ⟨mi, hmi⟩ : ∃ m, signM s = m := ⟨_, rfl⟩
  rw [hk, hmi] at hsg
  have hk1 : k ≤ 1 := by rw [← hk]; unfold signK; split <;> omega
  have HK := Lib.hid hk
  have HM := Lib.hid hmi
  have HS := Lib.hid hsg
  have HB := Lib.hid hb
  clear hk hmi hsg hb
  unfold maxLen at hs hcm
  go_enter Tryd.func33, Tryd.ntmps33
  go_wp2_with fail
  refine HS.out.mono ?_
  rintro e w' ⟨off', cap', n, rfl, hoff, rfl⟩
  have HO := Lib.hid hoff
  clear hoff HS
  by_cases hz : s.size - k = 0
  · have hz' : ((s.size - k : Nat) : Int) = 0 := by omega
    go_wp2_with fail
    go_ret2
    have e : parse s = (0, false) := by unfold parse; rw [HK.out, if_pos hz]
    exact ⟨by rw [e]; rfl, n, rfl⟩
  · have hlt : k < s.size := by omega
    obtain rfl : off' = off + k := HO.out hlt
    clear HO
    have hz' : (((s.size - k : Nat) : Int) == 0) = false := by rw [beq_eq_false_iff_ne]; omega
    go_wp2_with fail
    go_loop [6, 20] (fun m i => ∃ (j : Nat) (x : Int), j ≤ s.size - k ∧ i = .int .i64 j ∧ m = .int .i64 x ∧ AtP s j x) (fun _ i => (s.size - k) - (intOf i).toNat)
    case atStart => exact ⟨0, 0, Nat.zero_le _, rfl, rfl, by refine ⟨by omega, by omega, by simp⟩⟩
    case round =>
      obtain ⟨j, x, hj, rfl, rfl, hat⟩ := hrel
      have hm0 := hat.1
      have hm1 := hat.2.1
      by_cases hl : j < s.size - k
      · have hc : w.cell? ⟨b, off + k + j, none⟩ = some (.int .u8 (bt s (k + j))) := by rw [Nat.add_assoc]; exact HB.out (k + j) (by omega)
        have b0 := bt_lo s (k + j)
        have b1 := bt_hi s (k + j)
        by_cases hdg : 48 ≤ bt s (k + j) ∧ bt s (k + j) ≤ 57
        · obtain ⟨d0, d1⟩ := hdg
          by_cases hle : x < (-9223372036854775808 + (bt s (k + j) - 48)).tdiv 10
          · go_wp2_with (first | (go_at_call 50; refine (digit_yes _ _ (by assumption) (by assumption)).mono ?_; rintro e w' ⟨rfl, rfl⟩))
            go_ret2
            have e : parse s = (0, false) := atP_stop s j x hat (by rw [HK.out]; exact hl) (by rw [HK.out]; intro h; exact h.2.2 hle)
            exact ⟨by rw [e]; rfl, n, rfl⟩
          · have hat' := atP_step s j x hat (by rw [HK.out]; exact hl) (by rw [HK.out]; exact d0) (by rw [HK.out]; exact d1) (by rw [HK.out]; exact hle)
            rw [HK.out] at hat'
            have hbd := hat'.1
            go_wp2_with (first | (go_at_call 50; refine (digit_yes _ _ (by assumption) (by assumption)).mono ?_; rintro e w' ⟨rfl, rfl⟩))
            go_round
            case rel => exact ⟨j + 1, _, by omega, by go_num, rfl, hat'⟩
            case measure => simp [intOf]; omega
        · go_wp2_with (first | (go_at_call 50; refine (digit_no _ _ (by omega)).mono ?_; rintro e w' ⟨rfl, rfl⟩))
          go_ret2
          have e : parse s = (0, false) := atP_stop s j x hat (by rw [HK.out]; exact hl) (by rw [HK.out]; intro h; omega)
          exact ⟨by rw [e]; rfl, n, rfl⟩
      · obtain rfl : j = s.size - k := by omega
        have e : parse s = pEnd (signM s) (some x) := atP_end s x (by rw [HK.out]; exact hat) (by rw [HK.out]; exact hz)
        rw [HM.out] at e
        have HE := Lib.hid e
        clear e
        cases mi
        · by_cases hx : x = -9223372036854775808
          · have hx' : (x == -9223372036854775808) = true := by simpa using hx
            have HX := Lib.hid hx
            clear hx
            go_wp2_with fail
            go_ret2
            have e2 : parse s = (0, false) := by rw [HE.out, HX.out]; rfl
            exact ⟨by rw [e2]; rfl, n, rfl⟩
          · have hx' : (x == -9223372036854775808) = false := by simpa using hx
            have hx1 : -9223372036854775807 ≤ x := by omega
            have HX := Lib.hid hx
            clear hx
            go_wp2_with fail
            go_ret2
            have e2 : parse s = (-x, true) := by rw [HE.out]; unfold pEnd; simp only [Bool.false_eq_true, if_false, if_neg HX.out]
            exact ⟨by rw [e2]; rfl, n, rfl⟩
        · go_wp2_with fail
          go_ret2
          exact ⟨by rw [HE.out]; rfl, n, rfl⟩

end Go.Proofs.YtbankegfmamoiaaDoor
