/-
  Push, at this seat's numbers.
-/
import Derived.Test.YtjmpokgdgnjojaaDoorFeC
import Derived.Maps.AppendAt
namespace Go.Proofs.YtjmpokgdgnjojaaDoor
open Go Go.RowKit
set_option linter.unusedVariables false

section
variable {w : World} {B f h c room fu : Nat} {v : Value} {ty : List Int} {L : List (Nat × List Int)}

/-- What Push says. -/
def pushE (l : List Int) (n : Nat) : Int := if 100 < l.length then 7 else if l = [] then 0 else if n = 8 then 6 else 0

/-- The packs behind Push. -/
def pushP (P : List (List Int)) (l : List Int) : List (List Int) := if 100 < l.length ∨ l = [] ∨ P.length = 8 then P else P ++ [l]
theorem pushP_len {P : List (List Int)} (h : P.length ≤ 8) (l : List Int) : (pushP P l).length ≤ 8 := by
  unfold pushP; split
  · exact h
  · rename_i hn; rw [List.length_append]; simp only [List.length_cons, List.length_nil]; omega
end
end Go.Proofs.YtjmpokgdgnjojaaDoor
