/-
  Feed's example; FeedNil, at this seat's numbers.
-/
import Derived.Test.YtjmpokgdgnjojaaFeF
namespace Go.Proofs.Ytjmpokgdgnjojaa
open Go Go.RowKit
set_option linter.unusedVariables false


end Go.Proofs.Ytjmpokgdgnjojaa
