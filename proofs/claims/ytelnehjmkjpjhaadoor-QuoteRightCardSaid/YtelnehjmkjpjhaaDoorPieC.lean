/-
  The contracts of piece's Spans (and of slices.Clone at spans), at this seat's numbers.
-/
import Derived.Test.YtelnehjmkjpjhaaDoorPieB
import Derived.Lib.SliceRun
namespace Go.Proofs.YtelnehjmkjpjhaaDoor
open Go Go.RowKit
set_option linter.unusedVariables false

theorem spC_one (l : List (Int × Int)) : ∀ u ∈ spC l, u.oneCell' = true := by
  intro u hu
  unfold spC at hu
  rw [List.mem_flatMap] at hu
  obtain ⟨s, _, hs⟩ := hu
  simp only [List.mem_cons, List.not_mem_nil, or_false] at hs
  rcases hs with rfl | rfl <;> rfl
theorem own_empty {w : World} {B g : Nat} {e : TypeId} (s : Nat) (hB : B ≤ g) (h : w.heap[g]? = some (.cells #[] e (0, 0))) : w.ownsRow B e s (.slice (some ⟨g, 0, none⟩) 0 0) 0 [] :=
  ⟨by simp, .inr ⟨g, 0, #[], rfl, hB, h, Nat.le_refl _, Nat.zero_le _, by simp, by simp⟩⟩

end Go.Proofs.YtelnehjmkjpjhaaDoor
