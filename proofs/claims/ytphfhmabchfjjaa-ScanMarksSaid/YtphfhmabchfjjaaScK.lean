/-
  ScanMarks' walk as the lift takes it, at this seat's numbers.
-/
import Derived.Test.YtphfhmabchfjjaaScJ
import Derived.Test.YtphfhmabchfjjaaLiftE
namespace Go.Proofs.Ytphfhmabchfjjaa
open Go Go.RowKit
set_option linter.unusedVariables false

theorem scanMarks_lw (en kd : Int) (s : ByteArray) (a : Option Addr) (c : Nat) (L : List (Int × Int)) (w : World) (h1 : -9223372036854775808 ≤ en) (h2 : en ≤ 9223372036854775807) (h3 : -9223372036854775808 ≤ kd) (h4 : kd ≤ 9223372036854775807) (hs : s.size ≤ maxLen) (hL : SpArg w a c L) :
    Calls Try.prog 9 #[.int .i64 en, .int .i64 kd, .agg #[.string s, .slice a L.length c]] w fun e w' => e = .returned (.bool true) ∧ Below w.heap.size w w' :=
  scanMarks_walk en kd s a c L w hs hL.rd hL.len

end Go.Proofs.Ytphfhmabchfjjaa
