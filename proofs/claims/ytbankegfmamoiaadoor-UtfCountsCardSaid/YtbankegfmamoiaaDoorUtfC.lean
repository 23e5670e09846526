/-
  Plain facts on boundaries beside each other, and on the number of characters; the contract of cut; the walk of the statement UtfParts, at this seat's numbers.
-/
import Derived.Test.YtbankegfmamoiaaDoorUtfB
import Derived.Test.YtbankegfmamoiaaDoorUtfT
namespace Go.Proofs.YtbankegfmamoiaaDoor
open Go Go.RowKit
set_option linter.unusedVariables false

theorem nf_spec (s : ByteArray) (t : Nat) (ht : t ≤ s.size) (hb : bnd s t = true) : ∀ n j, j + n = t → (∀ x : Nat, j ≤ x → x < t → bnd s x = false) → nf s (s.size - j) j = t := by
  intro n
  induction n with
  | zero => intro j h _; rw [Nat.add_zero] at h; subst h; exact nf_yes s _ _ hb
  | succ n ih =>
    intro j h hx
    rw [show s.size - j = (s.size - (j + 1)) + 1 from by omega, nf_no s _ j (hx j (Nat.le_refl _) (by omega))]
    exact ih (j + 1) (by omega) (fun x h1 h2 => hx x (by omega) h2)
theorem pf_spec (s : ByteArray) (t : Nat) (hb : bnd s t = true) : ∀ n j, t + n = j → (∀ x : Nat, t < x → x ≤ j → bnd s x = false) → pf s j = t := by
  intro n
  induction n with
  | zero => intro j h _; rw [Nat.add_zero] at h; subst h; exact pf_yes s _ hb
  | succ n ih =>
    intro j h hx
    have e : j = (t + n) + 1 := by omega
    subst e
    rw [pf_no s (t + n) (hx _ (by omega) (by omega))]
    exact ih (t + n) rfl (fun x h1 h2 => hx x h1 (by omega))

theorem bd_isB (s : ByteArray) (k : Nat) : bnd s (bd s k) = true := (bnd_iff s _ (bd_le s k)).2 ⟨k, rfl⟩
theorem between_no (s : ByteArray) (k x : Nat) (h : bd s k < s.size) (h1 : bd s k < x) (h2 : x < bd s (k + 1)) : bnd s x = false := by
  have hle := bd_le s (k + 1)
  cases hb : bnd s x
  · rfl
  · obtain ⟨b, rfl⟩ := (bnd_iff s x (by omega)).1 hb
    have := no_inside s k b h1
    rw [bd_succ s k h] at h2
    omega
theorem next_bd (s : ByteArray) (k : Nat) (h : bd s k < s.size) : nextAt s (bd s k) = bd s (k + 1) := by
  unfold nextAt
  rw [if_neg (by omega), if_neg (by omega)]
  have hl := bd_lt s k h
  have := nf_spec s (bd s (k + 1)) (bd_le s _) (bd_isB s _) (bd s (k + 1) - (bd s k + 1)) (bd s k + 1) (by omega) (fun x h1 h2 => between_no s k x h (by omega) h2)
  rw [Int.toNat_natCast, this]
theorem prev_bd (s : ByteArray) (k : Nat) (h : bd s k < s.size) : prevAt s (bd s (k + 1)) = bd s k := by
  have hl := bd_lt s k h
  have hle := bd_le s (k + 1)
  unfold prevAt
  rw [if_neg (by omega), if_neg (by omega), Int.toNat_natCast]
  rw [pf_spec s (bd s k) (bd_isB s k) (bd s (k + 1) - 1 - bd s k) _ (by omega) (fun x h1 h2 => between_no s k x h h1 (by omega))]

/-- How many characters there are, and that so many boundaries lie behind the first one. -/
theorem count_from (s : ByteArray) : ∀ f j, s.size ≤ bd s j + f → bd s (j + Lib.runeCountFrom s f (bd s j)) = s.size ∧ ∀ i, i < Lib.runeCountFrom s f (bd s j) → bd s (j + i) < s.size := by
  intro f
  induction f with
  | zero => intro j h; exact ⟨by have := bd_le s j; show bd s (j + 0) = _; rw [Nat.add_zero]; omega, fun i hi => absurd hi (Nat.not_lt_zero _)⟩
  | succ f ih =>
    intro j h
    by_cases hl : bd s j < s.size
    · have e : Lib.runeCountFrom s (f + 1) (bd s j) = 1 + Lib.runeCountFrom s f (bd s (j + 1)) := by
        conv => lhs; unfold Lib.runeCountFrom
        rw [if_pos hl, bd_succ s j hl]
        rfl
      have hf := (wd_facts s _ hl).1
      obtain ⟨a, b⟩ := ih (j + 1) (by rw [bd_succ s j hl]; omega)
      rw [e]
      refine ⟨by rw [← a]; congr 1; omega, fun i hi => ?_⟩
      cases i with
      | zero => exact hl
      | succ i => have := b i (by omega); rw [show j + (i + 1) = j + 1 + i from by omega]; exact this
    · rw [Lib.runeCountFrom_end s _ _ hl]
      exact ⟨by have := bd_le s j; show bd s (j + 0) = _; rw [Nat.add_zero]; omega, fun i hi => absurd hi (Nat.not_lt_zero _)⟩
theorem count_end (s : ByteArray) : bd s (Lib.runeCount s) = s.size := by
  have := (count_from s s.size 0 (by omega)).1
  rw [Nat.zero_add] at this
  exact this
theorem count_lt (s : ByteArray) (i : Nat) (h : i < Lib.runeCount s) : bd s i < s.size := by
  have := (count_from s s.size 0 (by omega)).2 i h
  rw [Nat.zero_add] at this
  exact this
theorem count_is (s : ByteArray) (k : Nat) (h : bd s k = s.size) (hk : ∀ i, i < k → bd s i < s.size) : Lib.runeCount s = k := by
  rcases Nat.lt_trichotomy (Lib.runeCount s) k with hl | hl | hl
  · have := hk _ hl
    rw [count_end] at this
    omega
  · exact hl
  · have := count_lt s k hl
    omega

/-- At most so many bytes of a text. -/
def cutS1 (s : ByteArray) (n : Nat) : ByteArray := if n < s.size then s.extract 0 n else s
theorem cutS1_le (s : ByteArray) (n : Nat) : (cutS1 s n).size ≤ n := by
  unfold cutS1
  split
  · rw [ByteArray.size_extract]; omega
  · omega
theorem cut1_of (s : ByteArray) (n : Nat) (w : World) (hs : s.size ≤ maxLen) (hn : n ≤ maxLen) :
    Calls Tryd.prog 13 #[.string s, .int .i64 n] w fun e w' => e = .returned (.string (cutS1 s n)) ∧ w = w' := by
  unfold maxLen at hs hn
  by_cases h : n < s.size
  · have e : cutS1 s n = s.extract 0 n := by unfold cutS1; rw [if_pos h]
    rw [e]
    clear e
    go_enter Tryd.func13, Tryd.ntmps13
    go_wp2
    go_ret
    exact ⟨rfl, rfl⟩
  · have e : cutS1 s n = s := by unfold cutS1; rw [if_neg h]
    rw [e]
    clear e
    go_enter Tryd.func13, Tryd.ntmps13
    go_wp2
    go_ret
    exact ⟨rfl, rfl⟩

set_option maxRecDepth 100000 in
set_option maxHeartbeats 2000000 in
theorem utfParts_walk (a : ByteArray) (w : World) (ha : a.size ≤ maxLen) (ht : Tabs w) :
    Calls Tryd.prog 6 #[.string a] w fun e w' => e = .returned (.bool true) ∧ Below w.heap.size w w' := by
  have HC := Lib.hid fun w => cut1_of a 200 w ha (by decide)
  have l1 := cutS1_le a 200
  generalize cutS1 a 200 = s at *
  clear ha
  obtain ⟨cap, W, r1, h1, b1⟩ := held_of s w (by unfold maxLen; omega)
  have h8 : At8 W w.heap.size cap s := ⟨h1, ht.below b1⟩
  have H8 := Lib.hid h8
  have BW := Lib.hid b1
  have B0 := Lib.hid (Below.refl W.heap.size W)
  clear h8 b1 h1 ht
  go_enter Tryd.func6, Tryd.ntmps6
  go_wp2_with fail
  refine (HC.out _).mono ?_; rintro e w1 ⟨rfl, rfl⟩
  go_wp2_with fail
  clear r1
  go_loopw [4, 5] (fun n p wr => ∃ k : Nat, k ≤ bd s k ∧ (∀ i, i < k → bd s i < s.size) ∧ n = .int .i64 k ∧ p = .int .i64 (bd s k) ∧ Below W.heap.size W wr) (fun _ p _ => s.size - (intOf p).toNat)
  case atStart => exact ⟨0, Nat.zero_le _, fun i hi => absurd hi (Nat.not_lt_zero _), rfl, rfl, B0.out⟩
  case round =>
    obtain ⟨k, hkb, hk, rfl, rfl, hb⟩ := hrel
    have HB := Lib.hid hb
    have HK := Lib.hid hk
    clear hb hk
    have hle := bd_le s k
    by_cases hl : bd s k < s.size
    · have hf := wd_facts s (bd s k) hl
      have hf1 := hf.1
      have hf2 := hf.2.2.1
      clear hf
      have hlt := bd_lt s k hl
      have C1 := Lib.hid (fun v hv => size_at H8.out (bd s k) v hv)
      have C2 := Lib.hid (fun v hv => bound_at H8.out (bd s k) (by omega) (by omega) v hv)
      have C3 := Lib.hid (fun v hv => next_at H8.out (bd s k) (by omega) (by omega) v hv)
      have hle2 := bd_le s (k + 1)
      have C4 := Lib.hid (fun v hv => prev_at H8.out (bd s (k + 1)) (by omega) (by omega) v hv)
      rw [sizeAt_in s _ hl] at C1
      rw [bd_isB] at C2
      rw [next_bd s k hl] at C3
      rw [prev_bd s k hl] at C4
      have hs := bd_succ s k hl
      rw [hs] at C3 C4 hlt hle2
      have HS := Lib.hid hs
      clear hs
      have hbt : ∀ x : Nat, bd s k < x → x < bd s k + wd s (bd s k) → bnd s x = false := fun x h1 h2 => between_no s k x hl h1 (by rw [HS.out]; exact h2)
      have HBT := Lib.hid hbt
      clear hbt
      go_wp2_with fail
      refine (C1.out _ HB.out).mono ?_; rintro e w2 ⟨rfl, hb⟩; have B2 := Lib.hid hb; clear hb
      go_wp2_with fail
      refine (C2.out _ B2.out).mono ?_; rintro e w3 ⟨rfl, hb⟩; have B3 := Lib.hid hb; clear hb
      go_wp2_with fail
      refine (C3.out _ B3.out).mono ?_; rintro e w4 ⟨rfl, hb⟩; have B4 := Lib.hid hb; clear hb
      go_wp2_with fail
      refine (C4.out _ B4.out).mono ?_; rintro e w5 ⟨rfl, hb⟩; have B5 := Lib.hid hb; clear hb
      go_wp2_with fail
      go_loopw [7] (fun v wq => ∃ x : Nat, bd s k < x ∧ x ≤ bd s k + wd s (bd s k) ∧ v = .int .i64 x ∧ Below W.heap.size W wq) (fun v _ => bd s k + wd s (bd s k) - (intOf v).toNat)
      case atStart => exact ⟨bd s k + 1, by omega, by omega, by go_num, B5.out⟩
      case round =>
        obtain ⟨x, hx1, hx2, rfl, hb⟩ := hrel
        have BX := Lib.hid hb
        clear hb
        by_cases hxl : x < bd s k + wd s (bd s k)
        · have C6 := Lib.hid (bound_at H8.out x (by omega) (by omega) _ BX.out)
          rw [HBT.out x hx1 hxl] at C6
          go_wp2_with fail
          refine C6.out.mono ?_; rintro e w6 ⟨rfl, hb⟩
          go_wp2_with fail
          go_roundw
          case rel => exact ⟨x + 1, by omega, by omega, by go_num, hb⟩
          case measure => simp [intOf]; omega
        · obtain rfl : x = bd s k + wd s (bd s k) := by omega
          go_wp2_with fail
          go_roundw
          case rel =>
            refine ⟨k + 1, by rw [HS.out]; omega, fun i hi => ?_, by go_num, int_eq (by rw [HS.out]; omega), BX.out⟩
            by_cases hik : i = k
            · subst hik; exact hl
            · exact HK.out i (by omega)
          case measure => simp [intOf]; omega
    · have he : bd s k = s.size := by omega
      have hcn := count_is s k he HK.out
      have C1 := Lib.hid (fun v hv => count_at H8.out (by omega) v hv)
      have C2 := Lib.hid (fun v hv => first_at H8.out k (by omega) (by omega) v hv)
      rw [hcn] at C1
      rw [Int.toNat_natCast, he] at C2
      have HE := Lib.hid he
      clear he hcn
      go_wp2_with fail
      refine (C1.out _ HB.out).mono ?_; rintro e w2 ⟨rfl, hb⟩; have B2 := Lib.hid hb; clear hb
      go_wp2_with fail
      refine (C2.out _ B2.out).mono ?_; rintro e w3 ⟨rfl, hb⟩; have B3 := Lib.hid hb; clear hb
      go_wp2_with fail
      refine (awake1_of _ (H8.out.tabs.below B3.out)).mono ?_; rintro e w4 ⟨rfl, hb⟩
      go_wp2_with fail
      go_ret
      exact ⟨rfl, BW.out.trans ((B3.out.trans (hb.mono B3.out.size)).mono BW.out.size)⟩

end Go.Proofs.YtbankegfmamoiaaDoor
