/-
  Feed's example; FeedNil, at this seat's numbers.
-/
import Derived.Test.YtjmpokgdgnjojaaDoorFeF
namespace Go.Proofs.YtjmpokgdgnjojaaDoor
open Go Go.RowKit
set_option linter.unusedVariables false


end Go.Proofs.YtjmpokgdgnjojaaDoor
