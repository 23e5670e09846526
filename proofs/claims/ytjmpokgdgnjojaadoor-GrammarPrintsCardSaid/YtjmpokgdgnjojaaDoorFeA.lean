/-
  A feed's calls where there is none, at this seat's numbers.
-/
import Derived.Test.YtjmpokgdgnjojaaDoorLfA
import Derived.Test.YtjmpokgdgnjojaaDoorChA
namespace Go.Proofs.YtjmpokgdgnjojaaDoor
open Go Go.RowKit
set_option linter.unusedVariables false

abbrev pbox (b : Nat) : Value := .pointer (some ⟨b, 0, none⟩)

end Go.Proofs.YtjmpokgdgnjojaaDoor
