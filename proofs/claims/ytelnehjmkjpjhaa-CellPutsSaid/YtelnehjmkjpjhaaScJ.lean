/-
  The walk of ScanMarks, at this seat's numbers.
-/
import Derived.Test.YtelnehjmkjpjhaaScI
import Derived.Test.YtelnehjmkjpjhaaPieD
namespace Go.Proofs.Ytelnehjmkjpjhaa
open Go Go.RowKit
set_option linter.unusedVariables false

theorem ext_strOf (s : ByteArray) (i j : Nat) : s.extract i j = strOf ((s.data.toList.drop i).take (j - i)) := by
  apply ByteArray.ext
  apply Array.ext'
  simp [strOf, ByteArray.data_extract, List.extract_eq_take_drop]
theorem cutS_le2 (s : ByteArray) (n : Nat) (hn : n ≤ 1000000) : (cutS s n).size ≤ 1000000 := Nat.le_trans (cutS_le s n) hn

/-- What holds at the head of ScanMarks' loop. -/
def MarksJ (t : ByteArray) (L : List (Int × Int)) (w : World) (v9 v19 : Value) (wr : World) : Prop := ∃ (k : Nat) (a8 : Option Addr) (c8 : Nat), k ≤ 20 ∧ k ≤ L.length ∧ v19 = .int .i64 k ∧ v9 = .string (strOf (valL t.data.toList (L.take k))) ∧
  wr.heap[w.heap.size + 1]? = some (.cells #[.int .i64 0, .int .i64 0, .int .i64 0, .slice a8 (L.take k).length c8] 78 (0, 0)) ∧
  wr.ownsRow (w.heap.size + 2) 51 2 (.slice a8 (L.take k).length c8) (L.take k).length (spC (L.take k)) ∧ Below w.heap.size w wr ∧ w.heap.size + 2 ≤ wr.heap.size

end Go.Proofs.Ytelnehjmkjpjhaa
