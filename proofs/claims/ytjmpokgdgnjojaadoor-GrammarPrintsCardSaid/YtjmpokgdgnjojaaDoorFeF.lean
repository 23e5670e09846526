/-
  Next whole; a feed as what it has, at this seat's numbers.
-/
import Derived.Test.YtjmpokgdgnjojaaDoorFeE
namespace Go.Proofs.YtjmpokgdgnjojaaDoor
open Go Go.RowKit
set_option linter.unusedVariables false

section
variable {w : World} {B f h c room fu : Nat} {v : Value} {ty : List Int} {L : List (Nat × List Int)}

/-- What a feed has. -/
structure Fs where
  ty : List Int
  ps : List (List Int)
  fu : Nat
/-- What Next hands over, and what is left. -/
def nextF (S : Fs) : (Int × Bool × Int) × Fs :=
  match S.ps.reverse with
  | [] => match S.ty with
    | [] => ((0, false, 4), S)
    | x :: t => ((x, false, 0), ⟨t, [], 200⟩)
  | [] :: _ => ((0, false, 0), S)
  | (x :: t) :: R => if S.fu = 0 then ((0, false, 12), ⟨S.ty, [], 0⟩) else ((x, true, 0), ⟨S.ty, if t = [] then R.reverse else R.reverse ++ [t], S.fu - 1⟩)

theorem restL_map (L : List (Nat × List Int)) (b : Nat) (t : List Int) : (restL L b t).map (·.2) = if t = [] then L.map (·.2) else L.map (·.2) ++ [t] := by
  unfold restL; split <;> simp

end
section
variable {w : World} {B f room : Nat} {S : Fs}
def triV (x : Int × Bool × Int) : Value := .tuple #[.int .i64 x.1, .bool x.2.1, .int .i64 x.2.2]

end
end Go.Proofs.YtjmpokgdgnjojaaDoor
