/-
  DERIVED. GIVEN WITH THE SEED: THE CARDS: each row of YtjmpokgdgnjojaaDoorRows.lean that lists a variable, with what it lists TIED to the program's text (the seventh form; the later family's looks); each row that meets fmt, with fmt's text TOLD by the authors' own Lean function (tested against real Go, not proved from fmt's source: count such statements apart). THE CARD IS WHAT COUNTS. Prove the row's statement (the work); the ties are given (YtjmpokgdgnjojaaDoorTie.lean); close each card by the builder's one call (the guide's Derived/Test/ToyasCard.lean, 'card_holds'). Laid BY PROGRAM, IN A SANDBOX (cutbox-door.mjs). By AI agents, Wed Nov 11 2026. No macro, syntax, notation, axiom, sorry.
-/
import Derived.Test.YtjmpokgdgnjojaaDoorRows
import GoSem.ClaimSeven
namespace Go.Proofs.YtjmpokgdgnjojaaDoor
namespace Rows

/-- THE TIED CARD OF 'damierlaw24.GrammarPrints'. -/
def grammarPrintsCard : Claim7 := { stood := { row := grammarPrintsRow, standIns := [], harness := (true, "036a5be04a426b96775902f69aa74b92281ea49da5d9444b91c0ddf1a4558211"), looks := false }, kinds := [], alts := [], laidByText := true, laidKinds := [.data, .data, .data], laidTests := true, laidLooks := .later }
def GrammarPrintsCardSaid : Prop := Claim7.holds Tryd.pinned (.plain (OpenSpec.ofChange grammarPrintsSpec)) grammarPrintsCard

/-- THE SECOND FORM's CARD OF 'damierlaw24.GrammarPrints'. -/
def grammarPrintsUptoCard : Claim7 := { stood := { row := grammarPrintsUptoRow, standIns := [], harness := (true, "036a5be04a426b96775902f69aa74b92281ea49da5d9444b91c0ddf1a4558211"), looks := false }, kinds := [], alts := [], laidByText := true, laidKinds := [.data, .data, .data], laidTests := true, laidLooks := .later }
def GrammarPrintsUptoCardSaid : Prop := Claim7.holds Tryd.pinned (.plain (OpenSpec.upto grammarPrintsSpec)) grammarPrintsUptoCard
end Rows
end Go.Proofs.YtjmpokgdgnjojaaDoor
