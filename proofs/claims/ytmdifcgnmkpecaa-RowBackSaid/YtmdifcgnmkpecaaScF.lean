/-
  The contract of scan's Value, at this seat's numbers.
-/
import Derived.Test.YtmdifcgnmkpecaaScC
namespace Go.Proofs.Ytmdifcgnmkpecaa
open Go Go.RowKit
set_option linter.unusedVariables false

/-- The bytes of spans, those that do not lie within left out. -/
def valL (l : List UInt8) (ps : List (Int × Int)) : List UInt8 := ps.flatMap fun s => subL l s.1 s.2
theorem valL_snoc (l : List UInt8) (ps : List (Int × Int)) (s : Int × Int) : valL l (ps ++ [s]) = valL l ps ++ subL l s.1 s.2 := by unfold valL; simp
theorem valL_take {l : List UInt8} {ps : List (Int × Int)} {k : Nat} (h : k < ps.length) : valL l (ps.take (k + 1)) = valL l (ps.take k) ++ subL l ps[k].1 ps[k].2 := by
  rw [List.take_succ_eq_append_getElem h, valL_snoc]
theorem valL_len (l : List UInt8) : ∀ ps : List (Int × Int), (valL l ps).length ≤ ps.length * l.length
  | [] => by simp [valL]
  | s :: ps => by
    have h1 := valL_len l ps
    have h2 := subL_le l s.1 s.2
    have h3 : (valL l (s :: ps)).length = (subL l s.1 s.2).length + (valL l ps).length := by unfold valL; simp
    rw [h3, List.length_cons, Nat.add_mul]; omega

theorem bc_append (a b : List UInt8) : bc (a ++ b) = bc a ++ bc b := by unfold bc; simp

end Go.Proofs.Ytmdifcgnmkpecaa
