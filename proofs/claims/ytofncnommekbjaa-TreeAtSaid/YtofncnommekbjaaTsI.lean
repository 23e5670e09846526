/-
  Contracts of layer 9, nodes of strings: insert; at this seat's numbers.
-/
import Derived.Test.YtofncnommekbjaaTsH
import Derived.Test.YtofncnommekbjaaTrI
namespace Go.Proofs.Ytofncnommekbjaa
open Go Go.RowKit
set_option linter.unusedVariables false


end Go.Proofs.Ytofncnommekbjaa
