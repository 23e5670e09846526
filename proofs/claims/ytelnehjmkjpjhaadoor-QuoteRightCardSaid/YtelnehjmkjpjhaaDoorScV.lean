/-
  The contract of layer 5's statements' own like, at this seat's numbers.
-/
import Derived.Test.YtelnehjmkjpjhaaDoorScT
import Derived.Test.YtelnehjmkjpjhaaDoorScU
namespace Go.Proofs.YtelnehjmkjpjhaaDoor
open Go Go.RowKit
set_option linter.unusedVariables false

/-- A field whose places are small. -/
def FdOk (f : Fd) : Prop := (∀ x ∈ f.pl, 0 ≤ x ∧ x ≤ 1000000) ∧ f.pl.length ≤ 1000000

/-- The head of the loop over parts. -/
def LkJ (ps : List (Int × Int)) (B : Nat) (w : World) (v8 v41 : Value) (wr : World) : Prop := ∃ (k : Nat) (a : Option Addr) (c : Nat), v41 = .int .i64 k ∧ k ≤ ps.length ∧ v8 = .slice a (ps.take k).length c ∧ wr.ownsRow B 54 2 (.slice a (ps.take k).length c) (ps.take k).length (spC (ps.take k)) ∧ Below B w wr
/-- The head of the loop over fields. -/
def LoJ (n : Nat) (w : World) (v28 : Value) (wr : World) : Prop := ∃ j : Nat, v28 = .int .i64 j ∧ j ≤ n ∧ Below w.heap.size w wr

end Go.Proofs.YtelnehjmkjpjhaaDoor
