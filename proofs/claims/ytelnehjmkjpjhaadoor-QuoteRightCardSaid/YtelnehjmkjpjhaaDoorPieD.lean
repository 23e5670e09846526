/-
  The contract of the statement's own Spans (layer 4), at this seat's numbers.
-/
import Derived.Test.YtelnehjmkjpjhaaDoorPieC
namespace Go.Proofs.YtelnehjmkjpjhaaDoor
open Go Go.RowKit
set_option linter.unusedVariables false

theorem info_rspan : (Tryd.prog.info? 54).map (fun i => (i.zero, i.size, i.bytes)) = some (some (.agg #[.int .i64 0, .int .i64 0]), 2, 16) := by kernel_rfl
theorem spC_take {l : List (Int × Int)} {k : Nat} (h : k < l.length) : spC (l.take (k + 1)) = spC (l.take k) ++ [.int .i64 l[k].1, .int .i64 l[k].2] := by
  rw [List.take_succ_eq_append_getElem h, spC_snoc]

end Go.Proofs.YtelnehjmkjpjhaaDoor
