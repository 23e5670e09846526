/-
  The contract of piece.join, at this seat's numbers.
-/
import Derived.Test.YtelnehjmkjpjhaaDoorArI
import Derived.Test.YtelnehjmkjpjhaaDoorArG
import Derived.Test.YtelnehjmkjpjhaaDoorPieP
import Derived.Laws.OwnMore
namespace Go.Proofs.YtelnehjmkjpjhaaDoor
open Go Go.RowKit
set_option linter.unusedVariables false

theorem own_unfrozen {w : World} {B n c g s : Nat} {e : TypeId} {xs : List Value} (h : w.ownsRow B e s (.slice (some ⟨g, 0, none⟩) n c) n xs) (o : Nat) : w.frozen? ⟨g, o, none⟩ = false := by
  rcases h.2 with ⟨h', _⟩ | ⟨g', cap', cur, h', hb, hg, _⟩
  · simp at h'
  · simp only [Value.slice.injEq, Option.some.injEq, Addr.mk.injEq, and_true, true_and] at h'
    obtain ⟨rfl, rfl⟩ := h'
    exact unfrozen hg o
/-- The last span of a row grows. -/
theorem own_last {w : World} {B c g : Nat} (l : List (Int × Int)) (q : Int × Int) (a b : Int) (h : w.ownsRow B 41 2 (.slice (some ⟨g, 0, none⟩) (l.length + 1) c) (l.length + 1) (spC (l ++ [q]))) :
    ((w.setCell ⟨g, l.length * 2, none⟩ (.int .i64 a)).setCell ⟨g, l.length * 2 + 1, none⟩ (.int .i64 b)).ownsRow B 41 2 (.slice (some ⟨g, 0, none⟩) (l.length + 1) c) (l.length + 1) (spC (l ++ [(a, b)])) := by
  have h2 := ((h.stored (l.length * 2) (.int .i64 a)).1.stored (l.length * 2 + 1) (.int .i64 b)).1
  have e : ((spC (l ++ [q])).set (l.length * 2) (.int .i64 a)).set (l.length * 2 + 1) (.int .i64 b) = spC (l ++ [(a, b)]) := by
    rw [spC_snoc, spC_snoc, ← spC_len l, List.set_append_right _ _ (Nat.le_refl _), List.set_append_right _ _ (by omega)]
    simp
  rwa [e] at h2

end Go.Proofs.YtelnehjmkjpjhaaDoor
