/-
  The contracts of num.digit, num.Digits and of the document's own Digit, Digits, at this seat's numbers.
-/
import Derived.Test.YtbankegfmamoiaaDoorBase
namespace Go.Proofs.YtbankegfmamoiaaDoor
open Go Go.RowKit

theorem digit_yes (c : Int) (w : World) (h0 : 48 ≤ c) (h1 : c ≤ 57) :
    Calls Tryd.prog 50 #[.int .u8 c] w fun e w' => e = .returned (.tuple #[.int .i64 (c - 48), .bool true]) ∧ w = w' := by
  go_enter Tryd.func50, Tryd.ntmps50
  go_wp2
  go_ret2
  exact ⟨rfl, rfl⟩

theorem digit_no (c : Int) (w : World) (h : c < 48 ∨ 57 < c) :
    Calls Tryd.prog 50 #[.int .u8 c] w fun e w' => e = .returned (.tuple #[.int .i64 0, .bool false]) ∧ w = w' := by
  rcases h with h | h
  · go_enter Tryd.func50, Tryd.ntmps50
    go_wp2
    go_ret2
    exact ⟨rfl, rfl⟩
  · have h' : ¬ c < 48 := by omega
    go_enter Tryd.func50, Tryd.ntmps50
    go_wp2
    go_ret2
    exact ⟨rfl, rfl⟩

theorem rdigit_yes (c : Int) (w : World) (h0 : 48 ≤ c) (h1 : c ≤ 57) :
    Calls Tryd.prog 51 #[.int .u8 c] w fun e w' => e = .returned (.bool true) ∧ w = w' := by
  go_enter Tryd.func51, Tryd.ntmps51
  go_wp2
  go_ret
  exact ⟨rfl, rfl⟩

theorem rdigit_no (c : Int) (w : World) (h : c < 48 ∨ 57 < c) :
    Calls Tryd.prog 51 #[.int .u8 c] w fun e w' => e = .returned (.bool false) ∧ w = w' := by
  rcases h with h | h
  · have h' : ¬ 48 ≤ c := by omega
    go_enter Tryd.func51, Tryd.ntmps51
    go_wp2
    go_ret
    exact ⟨rfl, rfl⟩
  · have h' : 48 ≤ c := by omega
    go_enter Tryd.func51, Tryd.ntmps51
    go_wp2
    go_ret
    exact ⟨by simp; omega, rfl⟩


/-- The digits from place i on, k bytes being left: the number so far is n. -/
def digFrom (s : ByteArray) (M : Int) : Nat → Nat → Int → Int × Nat
  | 0, i, n => (n, i)
  | k + 1, i, n => if 48 ≤ bt s i ∧ bt s i ≤ 57 then digFrom s M k (i + 1) (min (n * 10 + (bt s i - 48)) M) else (n, i)
def digM (most : Int) : Int := min (max most 0) 2147483647
def digNum (s : ByteArray) (most : Int) : Int := (digFrom s (digM most) s.size 0 0).1
def digLen (s : ByteArray) (most : Int) : Int := (digFrom s (digM most) s.size 0 0).2
def Digs (s : ByteArray) (most : Int) (w : World) (e : Ending) (w' : World) : Prop := e = .returned (.tuple #[.int .i64 (digNum s most), .int .i64 (digLen s most)]) ∧ w = w'
def AtDig (s : ByteArray) (M : Int) (k : Nat) (m : Int) : Prop := 0 ≤ m ∧ m ≤ M ∧ digFrom s M (s.size - k) k m = digFrom s M s.size 0 0

theorem atDig_step (s : ByteArray) (M : Int) (k : Nat) (m : Int) (h : AtDig s M k m) (hk : k < s.size) (h0 : 48 ≤ bt s k) (h1 : bt s k ≤ 57) : AtDig s M (k + 1) (min (m * 10 + (bt s k - 48)) M) := by
  obtain ⟨a, b, c⟩ := h
  refine ⟨by omega, by omega, ?_⟩
  rw [← c, show s.size - k = (s.size - (k + 1)) + 1 from by omega]
  simp only [digFrom]
  rw [if_pos ⟨h0, h1⟩]

theorem atDig_stop (s : ByteArray) (most : Int) (k : Nat) (m : Int) (h : AtDig s (digM most) k m) (hk : k < s.size) (h0 : bt s k < 48 ∨ 57 < bt s k) : digNum s most = m ∧ digLen s most = k := by
  obtain ⟨a, b, c⟩ := h
  unfold digNum digLen
  rw [← c, show s.size - k = (s.size - (k + 1)) + 1 from by omega]
  simp only [digFrom]
  rw [if_neg (by omega)]
  exact ⟨rfl, rfl⟩

theorem atDig_end (s : ByteArray) (most : Int) (m : Int) (h : AtDig s (digM most) s.size m) : digNum s most = m ∧ digLen s most = s.size := by
  obtain ⟨a, b, c⟩ := h
  unfold digNum digLen
  rw [← c, Nat.sub_self]
  exact ⟨rfl, rfl⟩

set_option maxRecDepth 100000 in
set_option maxHeartbeats 400000 in
theorem digits_of (s : ByteArray) (most : Int) (w : World) (hs : s.size ≤ maxLen) (h0 : -9223372036854775808 ≤ most) (h1 : most ≤ 9223372036854775807) :
    Calls Tryd.prog 41 #[.string s, .int .i64 most] w (Digs s most w) := by
  unfold maxLen at hs
  have hM : (most < 0 ∧ digM most = 0) ∨ (0 ≤ most ∧ most ≤ 2147483647 ∧ digM most = most) ∨ (2147483647 < most ∧ digM most = 2147483647) := by unfold digM; omega
  have hM0 : 0 ≤ digM most := by unfold digM; omega
  have hM1 : digM most ≤ 2147483647 := by unfold digM; omega
  rcases hM with ⟨hc, hd⟩ | ⟨hc, hc', hd⟩ | ⟨hc, hd⟩
  all_goals
    have HD := Lib.hid hd
    clear hd
    go_enter Tryd.func41, Tryd.ntmps41
    go_wp2
    go_loop [6, 15] (fun n i => ∃ (k : Nat) (m : Int), k ≤ s.size ∧ i = .int .i64 k ∧ n = .int .i64 m ∧ AtDig s (digM most) k m) (fun _ i => s.size - (intOf i).toNat)
    case atStart => exact ⟨0, 0, Nat.zero_le _, rfl, rfl, by refine ⟨by omega, by omega, by simp⟩⟩
    case round =>
      obtain ⟨k, m, hk, rfl, rfl, hat⟩ := hrel
      have hm0 := hat.1
      have hm1 := hat.2.1
      by_cases hlt : k < s.size
      · have hb := bt_get s k hlt
        have b0 := bt_lo s k
        have b1 := bt_hi s k
        by_cases hdg : 48 ≤ bt s k ∧ bt s k ≤ 57
        · obtain ⟨d0, d1⟩ := hdg
          have hat' := atDig_step s _ k m hat hlt d0 d1
          go_wp2_with (first | (go_at_call 50; refine (digit_yes _ _ (by assumption) (by assumption)).mono ?_; rintro e w' ⟨rfl, rfl⟩))
          go_round
          case rel => exact ⟨k + 1, _, by omega, by go_num, int_eq (by rw [HD.out]; split <;> omega), hat'⟩
          case measure => simp [intOf]; omega
        · go_wp2_with (first | (go_at_call 50; refine (digit_no _ _ (by omega)).mono ?_; rintro e w' ⟨rfl, rfl⟩))
          go_ret2
          obtain ⟨e1, e2⟩ := atDig_stop s most k m hat hlt (by omega)
          exact ⟨ret_two e1.symm e2.symm, rfl⟩
      · obtain rfl : k = s.size := by omega
        go_wp2_with fail
        go_ret2
        obtain ⟨e1, e2⟩ := atDig_end s most m hat
        exact ⟨ret_two e1.symm e2.symm, rfl⟩

set_option maxRecDepth 100000 in
set_option maxHeartbeats 400000 in
theorem rdigits_of (s : ByteArray) (most : Int) (w : World) (hs : s.size ≤ maxLen) (h0 : -9223372036854775808 ≤ most) (h1 : most ≤ 9223372036854775807) :
    Calls Tryd.prog 42 #[.string s, .int .i64 most] w (Digs s most w) := by
  unfold maxLen at hs
  have hM : (most < 0 ∧ digM most = 0) ∨ (0 ≤ most ∧ most ≤ 2147483647 ∧ digM most = most) ∨ (2147483647 < most ∧ digM most = 2147483647) := by unfold digM; omega
  have hM0 : 0 ≤ digM most := by unfold digM; omega
  have hM1 : digM most ≤ 2147483647 := by unfold digM; omega
  rcases hM with ⟨hc, hd⟩ | ⟨hc, hc', hd⟩ | ⟨hc, hd⟩
  all_goals
    have HD := Lib.hid hd
    clear hd
    go_enter Tryd.func42, Tryd.ntmps42
    go_wp2
    go_loop [6, 7] (fun n i => ∃ (k : Nat) (m : Int), k ≤ s.size ∧ i = .int .i64 k ∧ n = .int .i64 m ∧ AtDig s (digM most) k m) (fun _ i => s.size - (intOf i).toNat)
    case atStart => exact ⟨0, 0, Nat.zero_le _, rfl, rfl, by refine ⟨by omega, by omega, by simp⟩⟩
    case round =>
      obtain ⟨k, m, hk, rfl, rfl, hat⟩ := hrel
      have hm0 := hat.1
      have hm1 := hat.2.1
      by_cases hlt : k < s.size
      · have hb := bt_get s k hlt
        have b0 := bt_lo s k
        have b1 := bt_hi s k
        by_cases hdg : 48 ≤ bt s k ∧ bt s k ≤ 57
        · obtain ⟨d0, d1⟩ := hdg
          have hat' := atDig_step s _ k m hat hlt d0 d1
          go_wp2_with (first | (go_at_call 51; refine (rdigit_yes _ _ (by assumption) (by assumption)).mono ?_; rintro e w' ⟨rfl, rfl⟩))
          all_goals
            go_round
            case rel => exact ⟨k + 1, _, by omega, by go_num, int_eq (by rw [HD.out]; omega), hat'⟩
            case measure => simp [intOf]; omega
        · go_wp2_with (first | (go_at_call 51; refine (rdigit_no _ _ (by omega)).mono ?_; rintro e w' ⟨rfl, rfl⟩))
          go_ret2
          obtain ⟨e1, e2⟩ := atDig_stop s most k m hat hlt (by omega)
          exact ⟨ret_two e1.symm e2.symm, rfl⟩
      · obtain rfl : k = s.size := by omega
        go_wp2_with fail
        go_ret2
        obtain ⟨e1, e2⟩ := atDig_end s most m hat
        exact ⟨ret_two e1.symm e2.symm, rfl⟩
end Go.Proofs.YtbankegfmamoiaaDoor
