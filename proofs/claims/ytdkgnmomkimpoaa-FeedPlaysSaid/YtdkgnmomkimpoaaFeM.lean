/-
  How many keys a feed has, at this seat's numbers.
-/
import Derived.Test.YtdkgnmomkimpoaaFeI
namespace Go.Proofs.Ytdkgnmomkimpoaa
open Go Go.RowKit
set_option linter.unusedVariables false

/-- How many keys there are. -/
def sumL (P : List (List Int)) : Nat := (P.map List.length).sum
theorem sumL_app (P Q : List (List Int)) : sumL (P ++ Q) = sumL P + sumL Q := by simp [sumL]
theorem sumL_le {P : List (List Int)} (h : ∀ l ∈ P, l.length ≤ 100) : sumL P ≤ P.length * 100 := by
  induction P with
  | nil => simp [sumL]
  | cons l P ih =>
    have h1 := h l (by simp)
    have h2 := ih (fun m hm => h m (by simp [hm]))
    simp only [sumL, List.map_cons, List.sum_cons, List.length_cons] at *
    omega
def keysF (S : Fs) : Nat := S.ty.length + sumL S.ps
/-- A key less, or none is left. -/
theorem next_less {S : Fs} (hne : ∀ p ∈ S.ps, p ≠ []) : (decide ((nextF S).1.2.2 ≠ 4) = false ∧ S.ty = [] ∧ nextF S = ((0, false, 4), S)) ∨ (decide ((nextF S).1.2.2 ≠ 4) = true ∧ keysF (nextF S).2 + 1 ≤ keysF S) := by
  rcases next_cases hne with ⟨h1, h2, h3⟩ | ⟨x, t, h1, h2, h3⟩ | ⟨h1, h3⟩ | ⟨x, P, t, h1, h3⟩
  · exact .inl ⟨by rw [h3]; rfl, h1, h3⟩
  · refine .inr ⟨by rw [h3]; rfl, ?_⟩
    rw [h3]; unfold keysF; rw [h1, h2]; simp [sumL]
  · refine .inr ⟨by rw [h3]; rfl, ?_⟩
    rw [h3]; unfold keysF
    have : 1 ≤ sumL S.ps := by
      cases hp : S.ps with
      | nil => exact absurd hp h1
      | cons l P =>
        have := List.length_pos_iff.2 (hne l (by rw [hp]; simp))
        simp only [sumL, List.map_cons, List.sum_cons]; omega
    simp only [sumL, List.map_nil, List.sum_nil] at *
    omega
  · refine .inr ⟨by rw [h3]; rfl, ?_⟩
    rw [h3]; unfold keysF; rw [h1]
    by_cases ht : t = []
    · subst ht; simp only [if_pos]; rw [sumL_app]; simp [sumL]; omega
    · simp only [if_neg ht]; rw [sumL_app, sumL_app]; simp [sumL]; omega
theorem next_small {S : Fs} (hne : ∀ p ∈ S.ps, p ≠ []) (hs : ∀ p ∈ S.ps, p.length ≤ 100) : ∀ p ∈ (nextF S).2.ps, p.length ≤ 100 := by
  rcases next_cases hne with ⟨h1, h2, h3⟩ | ⟨x, t, h1, h2, h3⟩ | ⟨h1, h3⟩ | ⟨x, P, t, h1, h3⟩
  · rw [h3]; exact hs
  · rw [h3]; intro p hp; simp at hp
  · rw [h3]; intro p hp; simp at hp
  · rw [h3]; rw [h1] at hs
    intro p hp
    have hx := hs (x :: t) (by simp)
    rw [List.length_cons] at hx
    simp only at hp
    split at hp
    · exact hs p (by simp [hp])
    · rcases List.mem_append.1 hp with hp | hp
      · exact hs p (by simp [hp])
      · rw [List.mem_singleton.1 hp]; omega
theorem pushP_small {P : List (List Int)} (h : ∀ p ∈ P, p.length ≤ 100) (l : List Int) : ∀ p ∈ pushP P l, p.length ≤ 100 := by
  unfold pushP; split
  · exact h
  · intro p hp
    rcases List.mem_append.1 hp with hp | hp
    · exact h p hp
    · rw [List.mem_singleton.1 hp]; omega
theorem FdS.few {w : World} {B f room : Nat} {S : Fs} (H : FdS w B f room S) : S.ps.length ≤ 8 := by
  obtain ⟨_, _, _, _, _, _, h, _⟩ := H; exact h

theorem own_nums {w : World} {B : Nat} {a : Option Addr} {c : Nat} {l : List Int} (h : w.ownsRow B 3 1 (.slice a l.length c) l.length (nums l)) : Sl w a c (nums l) := Sl.own (xs := nums l) (by rw [nums_len]; exact h) (nums_one _)
theorem own_form {w : World} {B sz n : Nat} {e : TypeId} {v : Value} {xs : List Value} (h : w.ownsRow B e sz v n xs) : ∃ a k, v = .slice a n k := by
  rcases h.2 with ⟨h1, h2⟩ | ⟨g, cap, cur, h1, _⟩
  · exact ⟨none, 0, by rw [h1, h2]⟩
  · exact ⟨_, _, h1⟩
end Go.Proofs.Ytdkgnmomkimpoaa
