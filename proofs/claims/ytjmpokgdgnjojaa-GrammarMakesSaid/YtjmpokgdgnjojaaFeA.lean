/-
  A feed's calls where there is none, at this seat's numbers.
-/
import Derived.Test.YtjmpokgdgnjojaaLfA
import Derived.Test.YtjmpokgdgnjojaaChA
namespace Go.Proofs.Ytjmpokgdgnjojaa
open Go Go.RowKit
set_option linter.unusedVariables false

abbrev pbox (b : Nat) : Value := .pointer (some ⟨b, 0, none⟩)

end Go.Proofs.Ytjmpokgdgnjojaa
