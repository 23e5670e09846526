/-
  DERIVED. GIVEN WITH THE SEED: THE CARDS: each row of YtelnehjmkjpjhaaDoorRows.lean that lists a variable, with what it lists TIED to the program's text (the seventh form; the later family's looks); each row that meets fmt, with fmt's text TOLD by the authors' own Lean function (tested against real Go, not proved from fmt's source: count such statements apart). THE CARD IS WHAT COUNTS. Prove the row's statement (the work); the ties are given (YtelnehjmkjpjhaaDoorTie.lean); close each card by the builder's one call (the guide's Derived/Test/ToyasCard.lean, 'card_holds'). Laid BY PROGRAM, IN A SANDBOX (cutbox-door.mjs). By AI agents, Wed Nov 11 2026. No macro, syntax, notation, axiom, sorry.
-/
import Derived.Test.YtelnehjmkjpjhaaDoorRows
import GoSem.ClaimSeven
namespace Go.Proofs.YtelnehjmkjpjhaaDoor
namespace Rows

/-- THE TIED CARD OF 'damierlaw06.QuoteRight'. -/
def quoteRightCard : Claim7 := { stood := { row := quoteRightRow, standIns := [], harness := (true, "1dbb95206690a67cf7c302ce8c33e454c44dd8468c5f2451df486d85f5cb1534"), looks := false }, kinds := [], alts := [], laidByText := true, laidKinds := [.data], laidTests := true, laidLooks := .later }
def QuoteRightCardSaid : Prop := Claim7.holds Tryd.pinned (.plain (OpenSpec.ofChange quoteRightSpec)) quoteRightCard

/-- THE TIED CARD OF 'damierlaw06.QuoteRows'. -/
def quoteRowsCard : Claim7 := { stood := { row := quoteRowsRow, standIns := [], harness := (true, "1dbb95206690a67cf7c302ce8c33e454c44dd8468c5f2451df486d85f5cb1534"), looks := false }, kinds := [], alts := [], laidByText := true, laidKinds := [.data], laidTests := true, laidLooks := .later }
def QuoteRowsCardSaid : Prop := Claim7.holds Tryd.pinned (.plain (OpenSpec.ofChange quoteRowsSpec)) quoteRowsCard

/-- THE SECOND FORM's CARD OF 'damierlaw06.QuoteRight'. -/
def quoteRightUptoCard : Claim7 := { stood := { row := quoteRightUptoRow, standIns := [], harness := (true, "1dbb95206690a67cf7c302ce8c33e454c44dd8468c5f2451df486d85f5cb1534"), looks := false }, kinds := [], alts := [], laidByText := true, laidKinds := [.data], laidTests := true, laidLooks := .later }
def QuoteRightUptoCardSaid : Prop := Claim7.holds Tryd.pinned (.plain (OpenSpec.upto quoteRightSpec)) quoteRightUptoCard

/-- THE SECOND FORM's CARD OF 'damierlaw06.QuoteRows'. -/
def quoteRowsUptoCard : Claim7 := { stood := { row := quoteRowsUptoRow, standIns := [], harness := (true, "1dbb95206690a67cf7c302ce8c33e454c44dd8468c5f2451df486d85f5cb1534"), looks := false }, kinds := [], alts := [], laidByText := true, laidKinds := [.data], laidTests := true, laidLooks := .later }
def QuoteRowsUptoCardSaid : Prop := Claim7.holds Tryd.pinned (.plain (OpenSpec.upto quoteRowsSpec)) quoteRowsUptoCard
end Rows
end Go.Proofs.YtelnehjmkjpjhaaDoor
