/-
  The contracts of the document's own more and At, at this seat's numbers.
-/
import Derived.Test.YtkendmlbmdhnaaaDoorUtfE
namespace Go.Proofs.YtkendmlbmdhnaaaDoor
open Go Go.RowKit
set_option linter.unusedVariables false

def moreB (s : ByteArray) (j : Nat) : Bool := decide (j < s.size ∧ 128 ≤ bt s j ∧ bt s j ≤ 191)
theorem more_of (s : ByteArray) (j : Nat) (w : World) (hs : s.size ≤ maxLen) :
    Calls Tryd.prog 33 #[.string s, .int .i64 j] w fun e w' => e = .returned (.bool (moreB s j)) ∧ w = w' := by
  unfold maxLen at hs
  by_cases h : j < s.size
  · have hb := bt_get s j h
    have b0 := bt_lo s j
    have b1 := bt_hi s j
    by_cases h1 : 128 ≤ bt s j
    · by_cases h2 : bt s j ≤ 191
      · have e : moreB s j = true := by unfold moreB; rw [decide_eq_true_iff]; exact ⟨h, h1, h2⟩
        rw [e]
        clear e
        go_enter Tryd.func33, Tryd.ntmps33
        go_wp2
        go_ret
        exact ⟨by simp <;> omega, rfl⟩
      · have e : moreB s j = false := by unfold moreB; rw [decide_eq_false_iff_not]; omega
        rw [e]
        clear e
        go_enter Tryd.func33, Tryd.ntmps33
        go_wp2
        go_ret
        exact ⟨by simp <;> omega, rfl⟩
    · have e : moreB s j = false := by unfold moreB; rw [decide_eq_false_iff_not]; omega
      rw [e]
      clear e
      go_enter Tryd.func33, Tryd.ntmps33
      go_wp2
      go_ret
      exact ⟨by simp <;> omega, rfl⟩
  · have e : moreB s j = false := by unfold moreB; rw [decide_eq_false_iff_not]; omega
    rw [e]
    clear e
    go_enter Tryd.func33, Tryd.ntmps33
    go_wp2
    go_ret
    exact ⟨rfl, rfl⟩

def r2 (a b : Int) : Int := (a - 192) * 64 + b - 128
def r3 (a b c : Int) : Int := (a - 224) * 4096 + (b - 128) * 64 + c - 128
def r4 (a b c d : Int) : Int := (a - 240) * 262144 + (b - 128) * 4096 + (c - 128) * 64 + d - 128
/-- The character by the document's arithmetic. -/
def refC (a b c d : Int) (m1 m2 m3 : Bool) : Int × Int :=
  if a < 128 then (a, 1)
  else if (192 ≤ a ∧ a < 224 ∧ m1 = true) ∧ 128 ≤ r2 a b then (r2 a b, 2)
  else if (224 ≤ a ∧ a < 240 ∧ m1 = true ∧ m2 = true) ∧ 2048 ≤ r3 a b c ∧ (r3 a b c < 55296 ∨ 57343 < r3 a b c) then (r3 a b c, 3)
  else if (240 ≤ a ∧ a < 248 ∧ m1 = true ∧ m2 = true ∧ m3 = true) ∧ 65536 ≤ r4 a b c d ∧ r4 a b c d ≤ 1114111 then (r4 a b c d, 4)
  else (-1, 1)

set_option maxHeartbeats 8000000 in
theorem refC_n (n b0 b1 b2 b3 : Nat) (h1 : b1 < 256) (h2 : b2 < 256) (h3 : b3 < 256) (m1 m2 m3 : Bool) (e1 : m1 = decide (1 < n ∧ b1 / 64 = 2)) (e2 : m2 = decide (2 < n ∧ b2 / 64 = 2)) (e3 : m3 = decide (3 < n ∧ b3 / 64 = 2)) :
    refC b0 b1 b2 b3 m1 m2 m3 = (if (Lib.decodeN n b0 b1 b2 b3).1 = 65533 ∧ (Lib.decodeN n b0 b1 b2 b3).2 = 1 then -1 else ((Lib.decodeN n b0 b1 b2 b3).1 : Int), ((Lib.decodeN n b0 b1 b2 b3).2 : Int)) := by
  have d1 : m1 = true ↔ (1 < n ∧ b1 / 64 = 2) := by rw [e1, decide_eq_true_iff]
  have d2 : m2 = true ↔ (2 < n ∧ b2 / 64 = 2) := by rw [e2, decide_eq_true_iff]
  have d3 : m3 = true ↔ (3 < n ∧ b3 / 64 = 2) := by rw [e3, decide_eq_true_iff]
  clear e1 e2 e3
  unfold refC r2 r3 r4 Lib.decodeN
  by_cases k0 : b0 < 128
  · rw [if_pos (show (b0 : Int) < 128 by omega), if_pos k0]
    simp only [Prod.mk.injEq]
    constructor
    · rw [if_neg (by omega)]
    · rfl
  · rw [if_neg (show ¬ (b0 : Int) < 128 by omega), if_neg k0]
    cases m1 <;> cases m2 <;> cases m3 <;> simp only [Bool.false_eq_true, false_iff, true_iff, and_false, and_true, false_and, if_false] at d1 d2 d3 ⊢ <;> (repeat' split) <;> first | rfl | (exfalso; omega) | (simp only [Prod.mk.injEq]; omega)

theorem refC_at (s : ByteArray) (i : Nat) (hi : i < s.size) : refC (bt s i) (bt s (i + 1)) (bt s (i + 2)) (bt s (i + 3)) (moreB s (i + 1)) (moreB s (i + 2)) (moreB s (i + 3)) = (rn s i, (wd s i : Int)) := by
  unfold rn wd
  rw [Lib.decode_at, bt_get! s i, bt_get! s (i + 1), bt_get! s (i + 2), bt_get! s (i + 3)]
  have key : ∀ k : Nat, moreB s (i + k) = decide (k < s.size - i ∧ (s.get! (i + k)).toNat / 64 = 2) := fun k => by
    unfold moreB
    rw [decide_eq_decide, bt_get!]
    have := (s.get! (i + k)).toNat_lt
    omega
  exact refC_n (s.size - i) _ _ _ _ (s.get! (i + 1)).toNat_lt (s.get! (i + 2)).toNat_lt (s.get! (i + 3)).toNat_lt _ _ _ (key 1) (key 2) (key 3)

theorem ret_pair {a b : Int} {p : Int × Int} (h : p = (a, b)) : Ending.returned (.tuple #[.int .i64 a, .int .i64 b]) = .returned (.tuple #[.int .i64 p.1, .int .i64 p.2]) := by rw [h]

theorem refC_two (a b c d : Int) (m2 m3 : Bool) (h1 : 192 ≤ a) (h2 : a < 224) (h3 : 128 ≤ r2 a b) : refC a b c d true m2 m3 = (r2 a b, 2) := by
  unfold refC; rw [if_neg (by omega), if_pos ⟨⟨h1, h2, rfl⟩, h3⟩]
theorem refC_three (a b c d : Int) (m3 : Bool) (h1 : 224 ≤ a) (h2 : a < 240) (h3 : 2048 ≤ r3 a b c) (h4 : r3 a b c < 55296 ∨ 57343 < r3 a b c) : refC a b c d true true m3 = (r3 a b c, 3) := by
  unfold refC; rw [if_neg (by omega), if_neg (fun h => by omega), if_pos ⟨⟨h1, h2, rfl, rfl⟩, h3, h4⟩]
theorem refC_four (a b c d : Int) (h1 : 240 ≤ a) (h2 : a < 248) (h3 : 65536 ≤ r4 a b c d) (h4 : r4 a b c d ≤ 1114111) : refC a b c d true true true = (r4 a b c d, 4) := by
  unfold refC; rw [if_neg (by omega), if_neg (fun h => by omega), if_neg (fun h => by omega), if_pos ⟨⟨h1, h2, rfl, rfl, rfl⟩, h3, h4⟩]
theorem refC_none (a b c d : Int) (m1 m2 m3 : Bool) (h0 : ¬ a < 128) (h1 : ¬ ((192 ≤ a ∧ a < 224 ∧ m1 = true) ∧ 128 ≤ r2 a b)) (h2 : ¬ ((224 ≤ a ∧ a < 240 ∧ m1 = true ∧ m2 = true) ∧ 2048 ≤ r3 a b c ∧ (r3 a b c < 55296 ∨ 57343 < r3 a b c)))
    (h3 : ¬ ((240 ≤ a ∧ a < 248 ∧ m1 = true ∧ m2 = true ∧ m3 = true) ∧ 65536 ≤ r4 a b c d ∧ r4 a b c d ≤ 1114111)) : refC a b c d m1 m2 m3 = (-1, 1) := by
  unfold refC; rw [if_neg h0, if_neg h1, if_neg h2, if_neg h3]

end Go.Proofs.YtkendmlbmdhnaaaDoor
