/-
  The walk of the statement ArenaStays, at this seat's numbers.
-/
import Derived.Test.YtelnehjmkjpjhaaDoorArH
import Derived.Deep.RegionHeld3
import Derived.Deep.DeepCutAuto
namespace Go.Proofs.YtelnehjmkjpjhaaDoor
open Go Go.RowKit
set_option linter.unusedVariables false

/-- An argument that is a slice of texts. -/
structure StrArg (w : World) (a : Option Addr) (c : Nat) (L : List ByteArray) : Prop where
  rd : Rd w 1 a L.length (L.map Value.string)
  fits : L.length ≤ c
  cap : c ≤ maxLen
  size : ∀ s ∈ L, s.size ≤ maxLen

/-- New memory's Span, 'alloc'. -/
theorem below_al (w : World) (o : Obj) : Below w.heap.size w (w.alloc o) := (Below.refl _ w).alloc (Nat.le_refl _) o

end Go.Proofs.YtelnehjmkjpjhaaDoor
