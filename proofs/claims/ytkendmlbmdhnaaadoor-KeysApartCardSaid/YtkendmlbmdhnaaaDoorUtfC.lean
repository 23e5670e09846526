/-
  Plain facts on boundaries beside each other, and on the number of characters; the contract of cut; the walk of the statement UtfParts, at this seat's numbers.
-/
import Derived.Test.YtkendmlbmdhnaaaDoorUtfB
import Derived.Test.YtkendmlbmdhnaaaDoorUtfT
namespace Go.Proofs.YtkendmlbmdhnaaaDoor
open Go Go.RowKit
set_option linter.unusedVariables false

theorem nf_spec (s : ByteArray) (t : Nat) (ht : t ≤ s.size) (hb : bnd s t = true) : ∀ n j, j + n = t → (∀ x : Nat, j ≤ x → x < t → bnd s x = false) → nf s (s.size - j) j = t := by
  intro n
  induction n with
  | zero => intro j h _; rw [Nat.add_zero] at h; subst h; exact nf_yes s _ _ hb
  | succ n ih =>
    intro j h hx
    rw [show s.size - j = (s.size - (j + 1)) + 1 from by omega, nf_no s _ j (hx j (Nat.le_refl _) (by omega))]
    exact ih (j + 1) (by omega) (fun x h1 h2 => hx x (by omega) h2)
theorem pf_spec (s : ByteArray) (t : Nat) (hb : bnd s t = true) : ∀ n j, t + n = j → (∀ x : Nat, t < x → x ≤ j → bnd s x = false) → pf s j = t := by
  intro n
  induction n with
  | zero => intro j h _; rw [Nat.add_zero] at h; subst h; exact pf_yes s _ hb
  | succ n ih =>
    intro j h hx
    have e : j = (t + n) + 1 := by omega
    subst e
    rw [pf_no s (t + n) (hx _ (by omega) (by omega))]
    exact ih (t + n) rfl (fun x h1 h2 => hx x h1 (by omega))

theorem bd_isB (s : ByteArray) (k : Nat) : bnd s (bd s k) = true := (bnd_iff s _ (bd_le s k)).2 ⟨k, rfl⟩
theorem between_no (s : ByteArray) (k x : Nat) (h : bd s k < s.size) (h1 : bd s k < x) (h2 : x < bd s (k + 1)) : bnd s x = false := by
  have hle := bd_le s (k + 1)
  cases hb : bnd s x
  · rfl
  · obtain ⟨b, rfl⟩ := (bnd_iff s x (by omega)).1 hb
    have := no_inside s k b h1
    rw [bd_succ s k h] at h2
    omega
theorem next_bd (s : ByteArray) (k : Nat) (h : bd s k < s.size) : nextAt s (bd s k) = bd s (k + 1) := by
  unfold nextAt
  rw [if_neg (by omega), if_neg (by omega)]
  have hl := bd_lt s k h
  have := nf_spec s (bd s (k + 1)) (bd_le s _) (bd_isB s _) (bd s (k + 1) - (bd s k + 1)) (bd s k + 1) (by omega) (fun x h1 h2 => between_no s k x h (by omega) h2)
  rw [Int.toNat_natCast, this]
theorem prev_bd (s : ByteArray) (k : Nat) (h : bd s k < s.size) : prevAt s (bd s (k + 1)) = bd s k := by
  have hl := bd_lt s k h
  have hle := bd_le s (k + 1)
  unfold prevAt
  rw [if_neg (by omega), if_neg (by omega), Int.toNat_natCast]
  rw [pf_spec s (bd s k) (bd_isB s k) (bd s (k + 1) - 1 - bd s k) _ (by omega) (fun x h1 h2 => between_no s k x h h1 (by omega))]

/-- How many characters there are, and that so many boundaries lie behind the first one. -/
theorem count_from (s : ByteArray) : ∀ f j, s.size ≤ bd s j + f → bd s (j + Lib.runeCountFrom s f (bd s j)) = s.size ∧ ∀ i, i < Lib.runeCountFrom s f (bd s j) → bd s (j + i) < s.size := by
  intro f
  induction f with
  | zero => intro j h; exact ⟨by have := bd_le s j; show bd s (j + 0) = _; rw [Nat.add_zero]; omega, fun i hi => absurd hi (Nat.not_lt_zero _)⟩
  | succ f ih =>
    intro j h
    by_cases hl : bd s j < s.size
    · have e : Lib.runeCountFrom s (f + 1) (bd s j) = 1 + Lib.runeCountFrom s f (bd s (j + 1)) := by
        conv => lhs; unfold Lib.runeCountFrom
        rw [if_pos hl, bd_succ s j hl]
        rfl
      have hf := (wd_facts s _ hl).1
      obtain ⟨a, b⟩ := ih (j + 1) (by rw [bd_succ s j hl]; omega)
      rw [e]
      refine ⟨by rw [← a]; congr 1; omega, fun i hi => ?_⟩
      cases i with
      | zero => exact hl
      | succ i => have := b i (by omega); rw [show j + (i + 1) = j + 1 + i from by omega]; exact this
    · rw [Lib.runeCountFrom_end s _ _ hl]
      exact ⟨by have := bd_le s j; show bd s (j + 0) = _; rw [Nat.add_zero]; omega, fun i hi => absurd hi (Nat.not_lt_zero _)⟩
theorem count_end (s : ByteArray) : bd s (Lib.runeCount s) = s.size := by
  have := (count_from s s.size 0 (by omega)).1
  rw [Nat.zero_add] at this
  exact this
theorem count_lt (s : ByteArray) (i : Nat) (h : i < Lib.runeCount s) : bd s i < s.size := by
  have := (count_from s s.size 0 (by omega)).2 i h
  rw [Nat.zero_add] at this
  exact this
theorem count_is (s : ByteArray) (k : Nat) (h : bd s k = s.size) (hk : ∀ i, i < k → bd s i < s.size) : Lib.runeCount s = k := by
  rcases Nat.lt_trichotomy (Lib.runeCount s) k with hl | hl | hl
  · have := hk _ hl
    rw [count_end] at this
    omega
  · exact hl
  · have := count_lt s k hl
    omega

/-- At most so many bytes of a text. -/
def cutS1 (s : ByteArray) (n : Nat) : ByteArray := if n < s.size then s.extract 0 n else s
theorem cutS1_le (s : ByteArray) (n : Nat) : (cutS1 s n).size ≤ n := by
  unfold cutS1
  split
  · rw [ByteArray.size_extract]; omega
  · omega
end Go.Proofs.YtkendmlbmdhnaaaDoor
