/-
  The contracts of the arena's Byte and Bytes, at this seat's numbers.
-/
import Derived.Test.YteipnllefifgiaaArA
import Derived.Laws.CopyOwn
import Derived.Deep.RegionLaw
namespace Go.Proofs.Yteipnllefifgiaa
open Go Go.RowKit
set_option linter.unusedVariables false

theorem info_u8 : (Try.prog.info? 5).map (fun i => (i.zero, i.size, i.bytes)) = some (some (.int .u8 0), 1, 1) := by kernel_rfl

/-- The bytes of a span; none, if it does not lie within. -/
def subL (l : List UInt8) (at_ m : Int) : List UInt8 := if rightB l.length at_ m = true then (l.drop at_.toNat).take m.toNat else []
theorem subL_len (l : List UInt8) (i k : Nat) (h : i + k ≤ l.length) : (subL l i k).length = k := by
  unfold subL rightB
  rw [if_pos (by simp; omega)]; simp; omega

/-- What Bytes hands back. -/
def BytesPost (l : List UInt8) (w : World) (e : Ending) (w' : World) : Prop :=
  ∃ a c, e = .returned (.slice a l.length c) ∧ w'.ownsRow w.heap.size 5 1 (.slice a l.length c) l.length (bc l) ∧ Below w.heap.size w w'

theorem below_grown {w w1 w2 : World} {W : World} {row : Option Nat} (h : Below W.heap.size W w1) (g : w1.grownBy w2 none) : Below W.heap.size W w2 :=
  h.grown g h.size (by simp)

end Go.Proofs.Yteipnllefifgiaa
