/-
  The contracts of the document's own Spans and Same (layer 4), at this seat's numbers.
-/
import Derived.Test.YtelnehjmkjpjhaaDoorScN
import Derived.Test.YtelnehjmkjpjhaaDoorPieD
import Derived.Test.YtelnehjmkjpjhaaDoorScI
import Derived.Deep.QuietTactic
import Derived.BigQuiet
namespace Go.Proofs.YtelnehjmkjpjhaaDoor
open Go Go.RowKit
set_option linter.unusedVariables false

theorem own_lastn {w : World} {B c g : Nat} {e : TypeId} (l : List (Int × Int)) (q : Int × Int) (b : Int) (h : w.ownsRow B e 2 (.slice (some ⟨g, 0, none⟩) (l.length + 1) c) (l.length + 1) (spC (l ++ [q]))) :
    (w.setCell ⟨g, l.length * 2 + 1, none⟩ (.int .i64 b)).ownsRow B e 2 (.slice (some ⟨g, 0, none⟩) (l.length + 1) c) (l.length + 1) (spC (l ++ [(q.1, b)])) := by
  have h2 := (h.stored (l.length * 2 + 1) (.int .i64 b)).1
  have e : (spC (l ++ [q])).set (l.length * 2 + 1) (.int .i64 b) = spC (l ++ [(q.1, b)]) := by
    rw [spC_snoc, spC_snoc, ← spC_len l, List.set_append_right _ _ (by omega)]
    simp
  rwa [e] at h2

/-- The last span of places that end with y ends behind y. -/
theorem canon_last (t : List Int) (y : Int) : ∃ l q, canon (t ++ [y]) = l ++ [q] ∧ q.1 + q.2 = y + 1 ∧ 1 ≤ q.2 := by
  rw [canon_snoc]
  rcases glue_cases (canon t) (y, 1) with ⟨h1, h2⟩ | ⟨l, q, h1, h2⟩
  · exact ⟨[], (y, 1), by rw [h2]; rfl, by simp, by simp⟩
  · rw [h2]
    have hq := canon_full t q (by rw [h1]; simp)
    by_cases h : (y, (1 : Int)).1 = q.1 + q.2
    · rw [if_pos h]
      simp only at h
      exact ⟨l, (q.1, q.2 + 1), rfl, by simp; omega, by simp; omega⟩
    · rw [if_neg h]
      exact ⟨l ++ [q], (y, 1), rfl, by simp, by simp⟩
theorem canon_grow {t : List Int} {l : List (Int × Int)} {q : Int × Int} {x : Int} (h : canon t = l ++ [q]) : canon (t ++ [x]) = if x = q.1 + q.2 then l ++ [(q.1, q.2 + 1)] else l ++ [q] ++ [(x, 1)] := by
  rw [canon_snoc, h, glue_snoc]

/-- What holds at the head of Spans' loop. -/
def SpJ (t : List Int) (w : World) (v3 v8 : Value) (wr : World) : Prop := ∃ (k : Nat) (a : Option Addr) (c : Nat), v8 = .int .i64 k ∧ k ≤ t.length ∧ v3 = .slice a (canon (t.take k)).length c ∧ wr.ownsRow w.heap.size 54 2 (.slice a (canon (t.take k)).length c) (canon (t.take k)).length (spC (canon (t.take k))) ∧ Below w.heap.size w wr

/-- What holds at the head of Same's loop. -/
def SmJ (l m : List (Int × Int)) (w : World) (v13 : Value) (wr : World) : Prop := ∃ k : Nat, v13 = .int .i64 k ∧ k ≤ l.length ∧ l.take k = m.take k ∧ Below w.heap.size w wr

end Go.Proofs.YtelnehjmkjpjhaaDoor
