/-
  The contracts of the document's own Bound, Next, Prev, Count and First, at this seat's numbers.
-/
import Derived.Test.YtbankegfmamoiaaDoorUtfL
namespace Go.Proofs.YtbankegfmamoiaaDoor
open Go Go.RowKit
set_option linter.unusedVariables false

theorem count_le (s : ByteArray) : Lib.runeCount s ≤ s.size := by
  have := bd_count_le s _ (fun i hi => count_lt s i hi)
  rwa [count_end] at this
theorem bd_after (s : ByteArray) (k : Nat) (h : Lib.runeCount s ≤ k) : bd s k = s.size := by
  have := bd_mono s h
  rw [count_end] at this
  have := bd_le s k
  omega
theorem bd0 (s : ByteArray) : bd s 0 = 0 := rfl
theorem bnd_yes (s : ByteArray) (j : Nat) (at_ : Int) (h : (bd s j : Int) = at_) : bnd s at_ = true := by subst h; exact bd_isB s j
theorem bnd_not (s : ByteArray) (at_ : Int) (h : ∀ j, j ≤ Lib.runeCount s → (bd s j : Int) ≠ at_) : bnd s at_ = false := by
  cases hb : bnd s at_
  · rfl
  · have h2 := hb
    unfold bnd at h2
    obtain ⟨h0, h1, _⟩ := of_decide_eq_true h2
    obtain ⟨n, rfl⟩ := Int.eq_ofNat_of_zero_le h0
    obtain ⟨k, hk⟩ := (bnd_iff s n (by omega)).1 hb
    by_cases hkn : k ≤ Lib.runeCount s
    · exact absurd (by rw [hk]) (h k hkn)
    · have e := bd_after s k (by omega)
      have := h _ (Nat.le_refl _)
      rw [count_end] at this
      omega

theorem next_yes (s : ByteArray) (k : Nat) (at_ : Int) (hk : k ≤ Lib.runeCount s) (h : at_ < bd s k) (hb : ∀ j, j < k → (bd s j : Int) ≤ at_) : nextAt s at_ = bd s k := by
  unfold nextAt
  by_cases h0 : at_ < 0
  · rw [if_pos h0]
    cases k with
    | zero => rfl
    | succ k => have := hb 0 (by omega); rw [bd0] at this; omega
  · rw [if_neg h0]
    have hle := bd_le s k
    rw [if_neg (by omega)]
    obtain ⟨n, rfl⟩ := Int.eq_ofNat_of_zero_le (show 0 ≤ at_ by omega)
    cases k with
    | zero => rw [bd0] at h; omega
    | succ k =>
      have hp := hb k (by omega)
      have hl := count_lt s k (by omega)
      have := nf_spec s (bd s (k + 1)) hle (bd_isB s _) (bd s (k + 1) - (n + 1)) (n + 1) (by omega) (fun x h1 h2 => between_no s k x hl (by omega) h2)
      rw [Int.toNat_natCast, this]
theorem next_not (s : ByteArray) (at_ : Int) (hb : ∀ j, j ≤ Lib.runeCount s → (bd s j : Int) ≤ at_) : nextAt s at_ = s.size := by
  have := hb _ (Nat.le_refl _)
  rw [count_end] at this
  unfold nextAt
  rw [if_neg (by omega), if_pos (by omega)]

def lastB (s : ByteArray) (at_ : Int) : Nat → Nat
  | 0 => 0
  | k + 1 => if (bd s k : Int) < at_ then bd s k else lastB s at_ k
theorem lastB_yes (s : ByteArray) (at_ : Int) (k : Nat) (h : (bd s k : Int) < at_) : lastB s at_ (k + 1) = bd s k := by show (if _ then _ else _) = _; rw [if_pos h]
theorem lastB_no (s : ByteArray) (at_ : Int) (k : Nat) (h : ¬ (bd s k : Int) < at_) : lastB s at_ (k + 1) = lastB s at_ k := by show (if _ then _ else _) = _; rw [if_neg h]
theorem lastB_is (s : ByteArray) (at_ : Int) : ∀ k, ((∀ j, j < k → at_ ≤ bd s j) ∧ lastB s at_ k = 0) ∨ ∃ j, j < k ∧ (bd s j : Int) < at_ ∧ lastB s at_ k = bd s j ∧ ∀ i, j < i → i < k → at_ ≤ bd s i := by
  intro k
  induction k with
  | zero => exact .inl ⟨fun j hj => absurd hj (Nat.not_lt_zero _), rfl⟩
  | succ k ih =>
    by_cases h : (bd s k : Int) < at_
    · exact .inr ⟨k, Nat.lt_succ_self _, h, lastB_yes s at_ k h, fun i h1 h2 => by omega⟩
    · rw [lastB_no s at_ k h]
      rcases ih with ⟨h1, h2⟩ | ⟨j, hj, h1, h2, h3⟩
      · refine .inl ⟨fun j hj => ?_, h2⟩
        rcases Nat.lt_or_ge j k with hlt | hge
        · exact h1 j hlt
        · have : j = k := by omega
          rw [this]; omega
      · refine .inr ⟨j, by omega, h1, h2, fun i h4 h5 => ?_⟩
        rcases Nat.lt_or_ge i k with hlt | hge
        · exact h3 i h4 hlt
        · have : i = k := by omega
          rw [this]; omega
theorem prev_is (s : ByteArray) (at_ : Int) : prevAt s at_ = lastB s at_ (Lib.runeCount s + 1) := by
  unfold prevAt
  rcases lastB_is s at_ (Lib.runeCount s + 1) with ⟨h1, h2⟩ | ⟨j, hj, h1, h2, h3⟩
  · have := h1 0 (by omega)
    rw [bd0] at this
    rw [if_pos (by omega), h2]; rfl
  · rw [if_neg (by omega), h2]
    by_cases hjn : j = Lib.runeCount s
    · rw [hjn, count_end] at h1
      rw [if_pos h1, hjn, count_end]
    · have h4 := h3 (j + 1) (by omega) (by omega)
      have h5 := bd_le s (j + 1)
      have hl := count_lt s j (by omega)
      rw [if_neg (by omega)]
      obtain ⟨n, rfl⟩ := Int.eq_ofNat_of_zero_le (show 0 ≤ at_ by omega)
      rw [Int.toNat_natCast, pf_spec s (bd s j) (bd_isB s j) (n - 1 - bd s j) (n - 1) (by omega) (fun x h6 h7 => between_no s j x hl h6 (by omega))]

set_option maxHeartbeats 1600000 in
theorem rbound_of (s : ByteArray) (at_ : Int) (w : World) (hs : s.size ≤ 4096) :
    Calls Tryd.prog 18 #[.string s, .int .i64 at_] w fun e w' => e = .returned (.bool (bnd s at_)) ∧ Below w.heap.size w w' := by
  have HC := Lib.hid (bounds_of s w hs)
  have hcl := count_le s
  go_enter Tryd.func18, Tryd.ntmps18
  go_wp2_with fail
  refine HC.out.mono ?_; rintro e w1 ⟨v, rfl, ⟨b, cap, rfl, hb1, hb2, hcell⟩, hb⟩
  have HCell := Lib.hid hcell
  have HB := Lib.hid hb
  clear hcell hb HC
  go_wp2_with fail
  go_loopw [10] (fun i wr => ∃ k : Nat, k ≤ Lib.runeCount s + 1 ∧ i = .int .i64 k ∧ (∀ j, j < k → (bd s j : Int) ≠ at_) ∧ w1 = wr) (fun i _ => Lib.runeCount s + 1 - (intOf i).toNat)
  case atStart => exact ⟨0, Nat.zero_le _, rfl, fun j hj => absurd hj (Nat.not_lt_zero _), rfl⟩
  case round =>
    obtain ⟨k, hk, rfl, hne, rfl⟩ := hrel
    have HN := Lib.hid hne
    clear hne
    by_cases hlt : k < Lib.runeCount s + 1
    · have hc := HCell.out k (by omega)
      by_cases he : (bd s k : Int) = at_
      · have HE := Lib.hid (bnd_yes s k at_ he)
        have d : ((bd s k : Int) == at_) = true := by simp [he]
        go_wp2_with fail
        go_ret
        exact ⟨by rw [HE.out] <;> rfl, HB.out⟩
      · have d : ((bd s k : Int) == at_) = false := by simp [he]
        have HE := Lib.hid he
        clear he
        go_wp2_with fail
        go_roundw
        case rel =>
          refine ⟨k + 1, by omega, int_eq (by omega), fun j hj => ?_, trivial⟩
          rcases Nat.lt_or_ge j k with h | h
          · exact HN.out j h
          · have : j = k := by omega
            rw [this]; exact HE.out
        case measure => simp [intOf]; omega
    · have HE := Lib.hid (bnd_not s at_ fun j hj => HN.out j (by omega))
      go_wp2_with fail
      go_ret
      exact ⟨by rw [HE.out] <;> rfl, HB.out⟩

set_option maxHeartbeats 1600000 in
theorem rnext_of (s : ByteArray) (at_ : Int) (w : World) (hs : s.size ≤ 4096) :
    Calls Tryd.prog 20 #[.string s, .int .i64 at_] w fun e w' => e = .returned (.int .i64 (nextAt s at_)) ∧ Below w.heap.size w w' := by
  have HC := Lib.hid (bounds_of s w hs)
  have hcl := count_le s
  go_enter Tryd.func20, Tryd.ntmps20
  go_wp2_with fail
  refine HC.out.mono ?_; rintro e w1 ⟨v, rfl, ⟨b, cap, rfl, hb1, hb2, hcell⟩, hb⟩
  have HCell := Lib.hid hcell
  have HB := Lib.hid hb
  clear hcell hb HC
  go_wp2_with fail
  go_loopw [10] (fun i wr => ∃ k : Nat, k ≤ Lib.runeCount s + 1 ∧ i = .int .i64 k ∧ (∀ j, j < k → (bd s j : Int) ≤ at_) ∧ w1 = wr) (fun i _ => Lib.runeCount s + 1 - (intOf i).toNat)
  case atStart => exact ⟨0, Nat.zero_le _, rfl, fun j hj => absurd hj (Nat.not_lt_zero _), rfl⟩
  case round =>
    obtain ⟨k, hk, rfl, hne, rfl⟩ := hrel
    have HN := Lib.hid hne
    clear hne
    by_cases hlt : k < Lib.runeCount s + 1
    · have hc := HCell.out k (by omega)
      by_cases he : at_ < (bd s k : Int)
      · have HE := Lib.hid (next_yes s k at_ (by omega) he HN.out)
        have d : decide (at_ < (bd s k : Int)) = true := decide_eq_true he
        go_wp2_with fail
        go_ret
        exact ⟨by rw [HE.out] <;> rfl, HB.out⟩
      · have d : decide (at_ < (bd s k : Int)) = false := decide_eq_false he
        have HE := Lib.hid he
        clear he
        go_wp2_with fail
        go_roundw
        case rel =>
          refine ⟨k + 1, by omega, int_eq (by omega), fun j hj => ?_, trivial⟩
          rcases Nat.lt_or_ge j k with h | h
          · exact HN.out j h
          · have : j = k := by omega
            have := HE.out
            subst j; omega
        case measure => simp [intOf]; omega
    · have HE := Lib.hid (next_not s at_ fun j hj => HN.out j (by omega))
      go_wp2_with fail
      go_ret
      exact ⟨by rw [HE.out] <;> rfl, HB.out⟩

set_option maxHeartbeats 1600000 in
theorem rprev_of (s : ByteArray) (at_ : Int) (w : World) (hs : s.size ≤ 4096) :
    Calls Tryd.prog 22 #[.string s, .int .i64 at_] w fun e w' => e = .returned (.int .i64 (prevAt s at_)) ∧ Below w.heap.size w w' := by
  have HC := Lib.hid (bounds_of s w hs)
  have hcl := count_le s
  have HP := Lib.hid (prev_is s at_)
  go_enter Tryd.func22, Tryd.ntmps22
  go_wp2_with fail
  refine HC.out.mono ?_; rintro e w1 ⟨v, rfl, ⟨b, cap, rfl, hb1, hb2, hcell⟩, hb⟩
  have HCell := Lib.hid hcell
  have HB := Lib.hid hb
  clear hcell hb HC
  go_wp2_with fail
  go_loopw [5, 11] (fun p i wr => ∃ k : Nat, k ≤ Lib.runeCount s + 1 ∧ p = .int .i64 (lastB s at_ k) ∧ i = .int .i64 k ∧ w1 = wr) (fun _ i _ => Lib.runeCount s + 1 - (intOf i).toNat)
  case atStart => exact ⟨0, Nat.zero_le _, rfl, rfl, rfl⟩
  case round =>
    obtain ⟨k, hk, rfl, rfl, rfl⟩ := hrel
    by_cases hlt : k < Lib.runeCount s + 1
    · have hc := HCell.out k (by omega)
      by_cases he : (bd s k : Int) < at_
      · have HE := Lib.hid (lastB_yes s at_ k he)
        have d : decide ((bd s k : Int) < at_) = true := decide_eq_true he
        go_wp2_with fail
        go_roundw
        case rel => exact ⟨k + 1, by omega, int_eq (by rw [HE.out]), int_eq (by omega), trivial⟩
        case measure => simp [intOf]; omega
      · have HE := Lib.hid (lastB_no s at_ k he)
        have d : decide ((bd s k : Int) < at_) = false := decide_eq_false he
        go_wp2_with fail
        go_roundw
        case rel => exact ⟨k + 1, by omega, int_eq (by rw [HE.out]), int_eq (by omega), trivial⟩
        case measure => simp [intOf]; omega
    · have e : k = Lib.runeCount s + 1 := by omega
      have HE := Lib.hid e
      clear e
      go_wp2_with fail
      go_ret
      exact ⟨by rw [HP.out, HE.out] <;> rfl, HB.out⟩

theorem rcount_of (s : ByteArray) (w : World) (hs : s.size ≤ 4096) :
    Calls Tryd.prog 25 #[.string s] w fun e w' => e = .returned (.int .i64 (Lib.runeCount s)) ∧ Below w.heap.size w w' := by
  have HC := Lib.hid (bounds_of s w hs)
  have hcl := count_le s
  go_enter Tryd.func25, Tryd.ntmps25
  go_wp2_with fail
  refine HC.out.mono ?_; rintro e w1 ⟨v, rfl, ⟨b, cap, rfl, hb1, hb2, hcell⟩, hb⟩
  have HB := Lib.hid hb
  clear hcell hb HC
  go_wp2_with fail
  go_ret
  exact ⟨ret_i (by omega), HB.out⟩

set_option maxHeartbeats 1600000 in
theorem rfirst_of (s : ByteArray) (n : Int) (w : World) (hs : s.size ≤ 4096) :
    Calls Tryd.prog 27 #[.string s, .int .i64 n] w fun e w' => e = .returned (.int .i64 (bd s n.toNat)) ∧ Below w.heap.size w w' := by
  have HC := Lib.hid (bounds_of s w hs)
  have hcl := count_le s
  by_cases h0 : n < 0
  · have e : bd s n.toNat = 0 := by rw [show n.toNat = 0 by omega]; rfl
    have HE := Lib.hid e
    clear e
    go_enter Tryd.func27, Tryd.ntmps27
    go_wp2_with fail
    refine HC.out.mono ?_; rintro e w1 ⟨v, rfl, ⟨b, cap, rfl, hb1, hb2, hcell⟩, hb⟩
    have HCell := Lib.hid hcell
    have HB := Lib.hid hb
    clear hcell hb HC
    go_wp2_with fail
    go_ret
    exact ⟨by rw [HE.out] <;> rfl, HB.out⟩
  · obtain ⟨k, rfl⟩ := Int.eq_ofNat_of_zero_le (show 0 ≤ n by omega)
    rw [Int.toNat_natCast]
    by_cases hk : k < Lib.runeCount s + 1
    · skip
      go_enter Tryd.func27, Tryd.ntmps27
      go_wp2_with fail
      refine HC.out.mono ?_; rintro e w1 ⟨v, rfl, ⟨b, cap, rfl, hb1, hb2, hcell⟩, hb⟩
      have HCell := Lib.hid hcell
      have HB := Lib.hid hb
      clear hcell hb HC
      have hc := HCell.out k (by omega)
      go_wp2_with fail
      go_ret
      exact ⟨rfl, HB.out⟩
    · have HE := Lib.hid (bd_after s k (by omega))
      go_enter Tryd.func27, Tryd.ntmps27
      go_wp2_with fail
      refine HC.out.mono ?_; rintro e w1 ⟨v, rfl, ⟨b, cap, rfl, hb1, hb2, hcell⟩, hb⟩
      have HCell := Lib.hid hcell
      have HB := Lib.hid hb
      clear hcell hb HC
      go_wp2_with fail
      go_ret
      exact ⟨by rw [HE.out] <;> rfl, HB.out⟩

end Go.Proofs.YtbankegfmamoiaaDoor
