/-
  Texts of this seat, put together (a claim holds few texts): LiftZ.
-/
import Derived.Test.YtkgakgceamafcaaGreatMk46
import Derived.Lib.SmallJoins
import Derived.Deep.Slices
import Derived.Carry
import Derived.OpenShut
import Derived.ShutString
import Derived.ProofKit
import Derived.Shelf.Vars
import Derived.ChangeSlices
import Derived.SliceStrings

namespace Go.Proofs.YtkgakgceamafcaaGreat
open Go Go.RowKit Go.ChangeShapes Go.WideShapes Go.Joins
set_option linter.unusedVariables false
set_option maxRecDepth 100000

section
variable {H : Type} {enc : TypeId × Value → H} {W : World}
theorem laidOut : laidOutB Tryz.prog = true := by kernel_rfl
end
end Go.Proofs.YtkgakgceamafcaaGreat
