/-
  Plain facts on where characters begin and end: no Go in sight.
-/
import Derived.Test.YtkendmlbmdhnaaaDoorBase
import Derived.Lib.DecodeNEq
import Derived.Lib.RuneCount
import Derived.Lib.Strings
namespace Go.Proofs.YtkendmlbmdhnaaaDoor
open Go Go.RowKit
set_option linter.unusedVariables false

/-- How many bytes the character at a place has. -/
def wd (s : ByteArray) (i : Nat) : Nat := (Utf8.decode s i).2

theorem dN_facts (n b0 b1 b2 b3 : Nat) (hn : 1 ≤ n) : 1 ≤ (Lib.decodeN n b0 b1 b2 b3).2 ∧ (Lib.decodeN n b0 b1 b2 b3).2 ≤ 4 ∧ (Lib.decodeN n b0 b1 b2 b3).2 ≤ n ∧
    (2 ≤ (Lib.decodeN n b0 b1 b2 b3).2 → 192 ≤ b0 ∧ b1 / 64 = 2) ∧ (3 ≤ (Lib.decodeN n b0 b1 b2 b3).2 → b2 / 64 = 2) ∧ (4 ≤ (Lib.decodeN n b0 b1 b2 b3).2 → b3 / 64 = 2) := by
  unfold Lib.decodeN
  repeat' split
  all_goals (refine ⟨?_, ?_, ?_, ?_, ?_, ?_⟩ <;> simp only [] <;> intros <;> omega)

theorem bt_get! (s : ByteArray) (i : Nat) : bt s i = ((s.get! i).toNat : Int) := by
  unfold bt
  have : s.get! i = s.data.toList.getD i 0 := by
    cases s with
    | mk d =>
      show d[i]! = _
      rw [getElem!_def, List.getD_eq_getElem?_getD, Array.getElem?_toList]
      cases d[i]? <;> rfl
  rw [this]

theorem wd_facts (s : ByteArray) (i : Nat) (h : i < s.size) : 1 ≤ wd s i ∧ wd s i ≤ 4 ∧ i + wd s i ≤ s.size ∧ (2 ≤ wd s i → 192 ≤ bt s i) ∧ (∀ k, 1 ≤ k → k < wd s i → 128 ≤ bt s (i + k) ∧ bt s (i + k) ≤ 191) := by
  unfold wd
  rw [Lib.decode_at]
  obtain ⟨a, b, c, d, e, f⟩ := dN_facts (s.size - i) (s.get! i).toNat (s.get! (i + 1)).toNat (s.get! (i + 2)).toNat (s.get! (i + 3)).toNat (by omega)
  generalize (Lib.decodeN (s.size - i) (s.get! i).toNat (s.get! (i + 1)).toNat (s.get! (i + 2)).toNat (s.get! (i + 3)).toNat).2 = q at *
  refine ⟨a, b, by omega, fun h2 => by rw [bt_get!]; have := d h2; omega, fun k h1 h2 => ?_⟩
  have hk : k = 1 ∨ k = 2 ∨ k = 3 := by omega
  rw [bt_get!]
  rcases hk with rfl | rfl | rfl
  · have := (d (by omega)).2; omega
  · have := e (by omega); omega
  · have := f (by omega); omega

/-- The k-th boundary; beyond the last one the end. -/
def bd (s : ByteArray) : Nat → Nat
  | 0 => 0
  | k + 1 => if bd s k < s.size then bd s k + wd s (bd s k) else bd s k
theorem bd_succ (s : ByteArray) (k : Nat) (h : bd s k < s.size) : bd s (k + 1) = bd s k + wd s (bd s k) := by show (if _ then _ else _) = _; rw [if_pos h]
theorem bd_stop (s : ByteArray) (k : Nat) (h : ¬ bd s k < s.size) : bd s (k + 1) = bd s k := by show (if _ then _ else _) = _; rw [if_neg h]
theorem bd_le (s : ByteArray) : ∀ k, bd s k ≤ s.size
  | 0 => Nat.zero_le _
  | k + 1 => by
    by_cases h : bd s k < s.size
    · rw [bd_succ s k h]; exact (wd_facts s _ h).2.2.1
    · rw [bd_stop s k h]; exact bd_le s k
theorem bd_lt (s : ByteArray) (k : Nat) (h : bd s k < s.size) : bd s k < bd s (k + 1) := by
  rw [bd_succ s k h]; have := (wd_facts s _ h).1; omega
theorem bd_mono (s : ByteArray) {a b : Nat} (h : a ≤ b) : bd s a ≤ bd s b := by
  induction h with
  | refl => exact Nat.le_refl _
  | step _ ih =>
    rename_i m _
    refine Nat.le_trans ih ?_
    by_cases h : bd s m < s.size
    · exact Nat.le_of_lt (bd_lt s m h)
    · rw [bd_stop s m h]; exact Nat.le_refl _

/-- A boundary. -/
def IsB (s : ByteArray) (i : Nat) : Prop := ∃ k, bd s k = i

/-- The last boundary at or below a place. -/
theorem last_below (s : ByteArray) (n : Nat) (hn : n ≤ s.size) : ∃ k, bd s k ≤ n ∧ (bd s k = n ∨ (bd s k < s.size ∧ n < bd s k + wd s (bd s k))) := by
  induction n with
  | zero => exact ⟨0, Nat.le_refl _, Or.inl rfl⟩
  | succ n ih =>
    obtain ⟨k, hle, hc⟩ := ih (by omega)
    have hk : bd s k < s.size := by omega
    have hf := wd_facts s (bd s k) hk
    by_cases h : bd s k + wd s (bd s k) = n + 1
    · exact ⟨k + 1, by rw [bd_succ s k hk]; omega, Or.inl (by rw [bd_succ s k hk]; exact h)⟩
    · refine ⟨k, by omega, Or.inr ⟨hk, ?_⟩⟩
      rcases hc with hc | hc <;> omega

/-- Within a character there is no boundary. -/
theorem no_inside (s : ByteArray) (a b : Nat) (h1 : bd s a < bd s b) : bd s a + wd s (bd s a) ≤ bd s b := by
  have hlt : bd s a < s.size := Nat.lt_of_lt_of_le h1 (bd_le s b)
  rw [← bd_succ s a hlt]
  refine bd_mono s ?_
  rcases Nat.lt_or_ge a b with h | h
  · exact h
  · have := bd_mono s h; omega

/-- Within a character each byte stands for itself. -/
theorem inside_one (s : ByteArray) (i j : Nat) (hi : i < s.size) (h1 : i < j) (h2 : j < i + wd s i) : wd s j = 1 := by
  have hf := wd_facts s i hi
  have hj : j < s.size := by omega
  have hb := hf.2.2.2.2 (j - i) (by omega) (by omega)
  rw [show i + (j - i) = j from by omega] at hb
  have hg := wd_facts s j hj
  rcases Nat.lt_or_ge (wd s j) 2 with h | h
  · omega
  · have := hg.2.2.2.1 h; omega

/-- A boundary is told by the three bytes ahead of it. -/
theorem isB_iff (s : ByteArray) (n : Nat) (hn : n ≤ s.size) : IsB s n ↔ ∀ k, 1 ≤ k → k ≤ 3 → k ≤ n → wd s (n - k) ≤ k := by
  constructor
  · rintro ⟨b, rfl⟩ k h1 h2 h3
    have hlt : bd s b - k < s.size := by omega
    rcases Nat.lt_or_ge k (wd s (bd s b - k)) with hw | hw
    · exfalso
      obtain ⟨a, hle, hc⟩ := last_below s (bd s b - k) (by omega)
      rcases hc with hc | ⟨hs, hc⟩
      · have := no_inside s a b (by omega)
        rw [hc] at this
        omega
      · rcases Nat.lt_or_ge (bd s a) (bd s b - k) with h | h
        · have := inside_one s (bd s a) (bd s b - k) hs h hc
          omega
        · have e : bd s a = bd s b - k := by omega
          have := no_inside s a b (by omega)
          rw [e] at this
          omega
    · exact hw
  · intro h
    obtain ⟨k, hle, hc⟩ := last_below s n hn
    rcases hc with hc | ⟨hs, hc⟩
    · exact ⟨k, hc⟩
    · rcases Nat.lt_or_ge (bd s k) n with hl | hl
      · exfalso
        have hf := wd_facts s (bd s k) hs
        have := h (n - bd s k) (by omega) (by omega) (by omega)
        rw [show n - (n - bd s k) = bd s k from by omega] at this
        omega
      · exact ⟨k, by omega⟩

end Go.Proofs.YtkendmlbmdhnaaaDoor
