/-
  The contracts of Sub and Join, the program's and the document's own, at this seat's numbers.
-/
import Derived.Test.YtelnehjmkjpjhaaDoorArE
import Derived.WalkLawsBesides
namespace Go.Proofs.YtelnehjmkjpjhaaDoor
open Go Go.RowKit
set_option linter.unusedVariables false

/-- A part of a span. -/
def subR (x y i j : Int) : Int × Int := if y < 0 then (0, 0) else (x + min (max i 0) y, min (max j (min (max i 0) y)) y - min (max i 0) y)
/-- Two spans as one. -/
def joinB (x y u v : Int) : Bool := decide (0 ≤ y ∧ 0 ≤ v ∧ u = x + y)
def joinR (x y u v : Int) : Int × Int := if joinB x y u v = true then (x, y + v) else (0, 0)

theorem agg_eq {a b c d : Int} (h1 : a = c) (h2 : b = d) : Ending.returned (.agg #[.int .i64 a, .int .i64 b]) = .returned (.agg #[.int .i64 c, .int .i64 d]) := by rw [h1, h2]

/-- The premise on a span's numbers. -/
def In40 (x : Int) : Prop := -1099511627776 ≤ x ∧ x ≤ 1099511627776
def retJ (r : Int × Int) (b : Bool) : Ending := .returned (.tuple #[.agg #[.int .i64 r.1, .int .i64 r.2], .bool b])
theorem join_ways (x y u v : Int) : (y < 0 ∧ joinB x y u v = false) ∨ (0 ≤ y ∧ v < 0 ∧ joinB x y u v = false) ∨ (0 ≤ y ∧ 0 ≤ v ∧ u ≠ x + y ∧ joinB x y u v = false) ∨ (0 ≤ y ∧ 0 ≤ v ∧ u = x + y ∧ joinB x y u v = true) := by
  unfold joinB; simp only [decide_eq_false_iff_not, decide_eq_true_eq]; omega

end Go.Proofs.YtelnehjmkjpjhaaDoor
