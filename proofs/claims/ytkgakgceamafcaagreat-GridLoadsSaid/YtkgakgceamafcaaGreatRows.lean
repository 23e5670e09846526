/-
  No cell of these rows narrows 'for every input' (looked for: loops, veiled, ifaces, maps, wideKeys, modest, calm, conditions, laid).
  DERIVED. THE GIVEN ROWS OF THIS SEAT. 6 by the template 'for every input the law returns true; each argument reads behind the call as it read before'; 0 by the template 'total and deterministic' (their statements: YtkgakgceamafcaaGreatTotals.lean).
  GIVEN WITH THE SEED: the statements are not yours to turn. If you find one false, say at which input.
  Laid BY PROGRAM, IN A SANDBOX (cutbox-rows.mjs): the forced cells as the released guide's own fill.sh prints them over the translation 54e7fe6feaf12d5a… (all of the seat's roots in one cut). By AI agents, Wed Nov 11 2026. No macro, syntax, notation, axiom, sorry.
-/
import Derived.Test.YtkgakgceamafcaaGreatChecked
import GoSem.Claim
import GoSem.ClaimJoined
import GoSem.ClaimMapViews
import Derived.JoinedTies
import Derived.KernelRfl
namespace Go.Proofs.YtkgakgceamafcaaGreat
/- THE CELL 'sum', in the pinned program and in every row, IS THE sha256 OF THE DUMP (.gsa) THAT YtkgakgceamafcaaGreatProg.lean LOADS. Nothing in Lean hashes anything: it is a label: what it is worth is what the hold of that sum in a sandbox is worth. -/
noncomputable def Tryz.pinned : Pinned := { name := "ytkgakgceamafcaagreat", sum := "54e7fe6feaf12d5a38cc26a2d7d5eb63634f2e1ce62e4047a7f273f37eeb26c0", checked := Tryz.checked }
namespace Rows
def none {H : Type} : Left H := { results := [], args := [] }

/-- 'damierlaw11.GridLoads': WHATEVER THE INPUT: true; the input reads as it did. -/
def gridLoadsSpec : ChangeSpec := { name := "gridLoads", fn := fun _ => fun
  | [d] => { results := [.lit (.bool true)], args := [d] }
  | _ => none }
def gridLoadsRow : OpenClaim := { program := "ytkgakgceamafcaagreat", sum := "54e7fe6feaf12d5a38cc26a2d7d5eb63634f2e1ce62e4047a7f273f37eeb26c0", func := "damier/damierlaw11.GridLoads", spec := "gridLoads", unfollowed := true, recurses := true, apart := false }
def GridLoadsSaid : Prop := gridLoadsRow.holds Tryz.pinned (OpenSpec.ofChange gridLoadsSpec)

/-- ITS FALSE NEIGHBOUR: 'it returns false'. Refute it at one input. -/
def gridLoadsWrong : ChangeSpec := { name := "gridLoads", fn := fun _ => fun
  | [d] => { results := [.lit (.bool false)], args := [d] }
  | _ => none }
def GridLoadsWrongFalsely : Prop := gridLoadsRow.holds Tryz.pinned (OpenSpec.ofChange gridLoadsWrong)

/-- 'damierlaw12.ColsCells': WHATEVER THE INPUT: true; the input reads as it did. -/
def colsCellsSpec : ChangeSpec := { name := "colsCells", fn := fun _ => fun
  | [d1, d2] => { results := [.lit (.bool true)], args := [d1, d2] }
  | _ => none }
def colsCellsRow : OpenClaim := { program := "ytkgakgceamafcaagreat", sum := "54e7fe6feaf12d5a38cc26a2d7d5eb63634f2e1ce62e4047a7f273f37eeb26c0", func := "damier/damierlaw12.ColsCells", spec := "colsCells", unfollowed := true, recurses := true, apart := false }
def ColsCellsSaid : Prop := colsCellsRow.holds Tryz.pinned (OpenSpec.ofChange colsCellsSpec)

/-- ITS FALSE NEIGHBOUR: 'it returns false'. Refute it at one input. -/
def colsCellsWrong : ChangeSpec := { name := "colsCells", fn := fun _ => fun
  | [d1, d2] => { results := [.lit (.bool false)], args := [d1, d2] }
  | _ => none }
def ColsCellsWrongFalsely : Prop := colsCellsRow.holds Tryz.pinned (OpenSpec.ofChange colsCellsWrong)

/-- 'damierlaw13.BlockAreas': WHATEVER THE INPUT: true; the input reads as it did. -/
def blockAreasSpec : ChangeSpec := { name := "blockAreas", fn := fun _ => fun
  | [d1, d2, d3] => { results := [.lit (.bool true)], args := [d1, d2, d3] }
  | _ => none }
def blockAreasRow : OpenClaim := { program := "ytkgakgceamafcaagreat", sum := "54e7fe6feaf12d5a38cc26a2d7d5eb63634f2e1ce62e4047a7f273f37eeb26c0", func := "damier/damierlaw13.BlockAreas", spec := "blockAreas", inPlace := ["internal/bytealg.IndexByte", "internal/bytealg.Index"], unfollowed := true, recurses := true, named := ["internal/bytealg.MaxLen"], apart := false }
def BlockAreasSaid : Prop := blockAreasRow.holds Tryz.pinned (OpenSpec.ofChange blockAreasSpec)

/-- ITS FALSE NEIGHBOUR: 'it returns false'. Refute it at one input. -/
def blockAreasWrong : ChangeSpec := { name := "blockAreas", fn := fun _ => fun
  | [d1, d2, d3] => { results := [.lit (.bool false)], args := [d1, d2, d3] }
  | _ => none }
def BlockAreasWrongFalsely : Prop := blockAreasRow.holds Tryz.pinned (OpenSpec.ofChange blockAreasWrong)

/-- 'damierlaw14.FlipOver': WHATEVER THE INPUT: true; the input reads as it did. -/
def flipOverSpec : ChangeSpec := { name := "flipOver", fn := fun _ => fun
  | [d] => { results := [.lit (.bool true)], args := [d] }
  | _ => none }
def flipOverRow : OpenClaim := { program := "ytkgakgceamafcaagreat", sum := "54e7fe6feaf12d5a38cc26a2d7d5eb63634f2e1ce62e4047a7f273f37eeb26c0", func := "damier/damierlaw14.FlipOver", spec := "flipOver", unfollowed := true, recurses := true, apart := false }
def FlipOverSaid : Prop := flipOverRow.holds Tryz.pinned (OpenSpec.ofChange flipOverSpec)

/-- ITS FALSE NEIGHBOUR: 'it returns false'. Refute it at one input. -/
def flipOverWrong : ChangeSpec := { name := "flipOver", fn := fun _ => fun
  | [d] => { results := [.lit (.bool false)], args := [d] }
  | _ => none }
def FlipOverWrongFalsely : Prop := flipOverRow.holds Tryz.pinned (OpenSpec.ofChange flipOverWrong)

/-- 'damierlaw17.FindCells': WHATEVER THE INPUT: true; the input reads as it did. -/
def findCellsSpec : ChangeSpec := { name := "findCells", fn := fun _ => fun
  | [d1, d2, d3] => { results := [.lit (.bool true)], args := [d1, d2, d3] }
  | _ => none }
def findCellsRow : OpenClaim := { program := "ytkgakgceamafcaagreat", sum := "54e7fe6feaf12d5a38cc26a2d7d5eb63634f2e1ce62e4047a7f273f37eeb26c0", func := "damier/damierlaw17.FindCells", spec := "findCells", unfollowed := true, recurses := true, apart := false }
def FindCellsSaid : Prop := findCellsRow.holds Tryz.pinned (OpenSpec.ofChange findCellsSpec)

/-- ITS FALSE NEIGHBOUR: 'it returns false'. Refute it at one input. -/
def findCellsWrong : ChangeSpec := { name := "findCells", fn := fun _ => fun
  | [d1, d2, d3] => { results := [.lit (.bool false)], args := [d1, d2, d3] }
  | _ => none }
def FindCellsWrongFalsely : Prop := findCellsRow.holds Tryz.pinned (OpenSpec.ofChange findCellsWrong)

/-- 'damierlaw17.FindRound': WHATEVER THE INPUT: true; the input reads as it did. -/
def findRoundSpec : ChangeSpec := { name := "findRound", fn := fun _ => fun
  | [d1, d2, d3] => { results := [.lit (.bool true)], args := [d1, d2, d3] }
  | _ => none }
def findRoundRow : OpenClaim := { program := "ytkgakgceamafcaagreat", sum := "54e7fe6feaf12d5a38cc26a2d7d5eb63634f2e1ce62e4047a7f273f37eeb26c0", func := "damier/damierlaw17.FindRound", spec := "findRound", unfollowed := true, recurses := true, apart := false }
def FindRoundSaid : Prop := findRoundRow.holds Tryz.pinned (OpenSpec.ofChange findRoundSpec)

/-- ITS FALSE NEIGHBOUR: 'it returns false'. Refute it at one input. -/
def findRoundWrong : ChangeSpec := { name := "findRound", fn := fun _ => fun
  | [d1, d2, d3] => { results := [.lit (.bool false)], args := [d1, d2, d3] }
  | _ => none }
def FindRoundWrongFalsely : Prop := findRoundRow.holds Tryz.pinned (OpenSpec.ofChange findRoundWrong)

/- THE SECOND FORM. 'bulk': how many values and letters a reading holds, each counted each time it is reached (what is shared counts as often as it is met; a slice's spare places count too). A statement '..UptoSaid' is the law's where the arguments, and the package variables that the reading takes, are together of bulk at most 1048576: NARROWER than '..Said'. Prove '..Said' where nothing that the law and all that it calls make is longer than what came in: it says more and counts as full. Else prove '..UptoSaid'. A law counts once. -/
mutual
def uptoBulk {H : Type} : DataW H → Nat
  | .lit (.string bytes) => bytes.length + 1
  | .lit _ => 1
  | .nil => 1
  | .ptr d => uptoBulk d + 1
  | .slice elems spare => uptoBulkAll elems + uptoBulkAll spare + 1
  | .agg parts => uptoBulkAll parts + 1
  | .iface _ d => uptoBulk d + 1
  | .map entries => uptoBulkEntries entries + 1
  | .held _ => 1
def uptoBulkAll {H : Type} : List (DataW H) → Nat
  | [] => 0
  | d :: r => uptoBulk d + uptoBulkAll r
def uptoBulkEntries {H : Type} : List (Lit × DataW H) → Nat
  | [] => 0
  | x :: r => uptoBulkEntry x + uptoBulkEntries r
def uptoBulkEntry {H : Type} : Lit × DataW H → Nat
  | (.string bytes, d) => bytes.length + uptoBulk d + 1
  | (_, d) => uptoBulk d + 1
 end
def uptoSmall : (H : Type) → List (DataW H) → Bool := fun _ ds => decide (uptoBulkAll ds ≤ 1048576)
def OpenSpec.upto (s : _root_.Go.ChangeSpec) : _root_.Go.OpenSpec := { _root_.Go.OpenSpec.ofChange s with cond := some uptoSmall }

/-- 'damierlaw11.GridLoads', WHERE WHAT IT READS IS OF BULK AT MOST 1048576: true; the input reads as it did. -/
def gridLoadsUptoRow : OpenClaim := { program := "ytkgakgceamafcaagreat", sum := "54e7fe6feaf12d5a38cc26a2d7d5eb63634f2e1ce62e4047a7f273f37eeb26c0", func := "damier/damierlaw11.GridLoads", spec := "gridLoads", unfollowed := true, recurses := true, apart := false, narrowed := true }
def GridLoadsUptoSaid : Prop := gridLoadsUptoRow.holds Tryz.pinned (OpenSpec.upto gridLoadsSpec)

/-- 'damierlaw12.ColsCells', WHERE WHAT IT READS IS OF BULK AT MOST 1048576: true; the input reads as it did. -/
def colsCellsUptoRow : OpenClaim := { program := "ytkgakgceamafcaagreat", sum := "54e7fe6feaf12d5a38cc26a2d7d5eb63634f2e1ce62e4047a7f273f37eeb26c0", func := "damier/damierlaw12.ColsCells", spec := "colsCells", unfollowed := true, recurses := true, apart := false, narrowed := true }
def ColsCellsUptoSaid : Prop := colsCellsUptoRow.holds Tryz.pinned (OpenSpec.upto colsCellsSpec)

/-- 'damierlaw13.BlockAreas', WHERE WHAT IT READS IS OF BULK AT MOST 1048576: true; the input reads as it did. -/
def blockAreasUptoRow : OpenClaim := { program := "ytkgakgceamafcaagreat", sum := "54e7fe6feaf12d5a38cc26a2d7d5eb63634f2e1ce62e4047a7f273f37eeb26c0", func := "damier/damierlaw13.BlockAreas", spec := "blockAreas", inPlace := ["internal/bytealg.IndexByte", "internal/bytealg.Index"], unfollowed := true, recurses := true, named := ["internal/bytealg.MaxLen"], apart := false, narrowed := true }
def BlockAreasUptoSaid : Prop := blockAreasUptoRow.holds Tryz.pinned (OpenSpec.upto blockAreasSpec)

/-- 'damierlaw14.FlipOver', WHERE WHAT IT READS IS OF BULK AT MOST 1048576: true; the input reads as it did. -/
def flipOverUptoRow : OpenClaim := { program := "ytkgakgceamafcaagreat", sum := "54e7fe6feaf12d5a38cc26a2d7d5eb63634f2e1ce62e4047a7f273f37eeb26c0", func := "damier/damierlaw14.FlipOver", spec := "flipOver", unfollowed := true, recurses := true, apart := false, narrowed := true }
def FlipOverUptoSaid : Prop := flipOverUptoRow.holds Tryz.pinned (OpenSpec.upto flipOverSpec)

/-- 'damierlaw17.FindCells', WHERE WHAT IT READS IS OF BULK AT MOST 1048576: true; the input reads as it did. -/
def findCellsUptoRow : OpenClaim := { program := "ytkgakgceamafcaagreat", sum := "54e7fe6feaf12d5a38cc26a2d7d5eb63634f2e1ce62e4047a7f273f37eeb26c0", func := "damier/damierlaw17.FindCells", spec := "findCells", unfollowed := true, recurses := true, apart := false, narrowed := true }
def FindCellsUptoSaid : Prop := findCellsUptoRow.holds Tryz.pinned (OpenSpec.upto findCellsSpec)

/-- 'damierlaw17.FindRound', WHERE WHAT IT READS IS OF BULK AT MOST 1048576: true; the input reads as it did. -/
def findRoundUptoRow : OpenClaim := { program := "ytkgakgceamafcaagreat", sum := "54e7fe6feaf12d5a38cc26a2d7d5eb63634f2e1ce62e4047a7f273f37eeb26c0", func := "damier/damierlaw17.FindRound", spec := "findRound", unfollowed := true, recurses := true, apart := false, narrowed := true }
def FindRoundUptoSaid : Prop := findRoundUptoRow.holds Tryz.pinned (OpenSpec.upto findRoundSpec)

end Rows
end Go.Proofs.YtkgakgceamafcaaGreat
