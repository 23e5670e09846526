/-
  DERIVED. GIVEN WITH THE SEED: THE CARDS: each row of YtphfhmabchfjjaaDoorRows.lean that lists a variable, with what it lists TIED to the program's text (the seventh form; the later family's looks); each row that meets fmt, with fmt's text TOLD by the authors' own Lean function (tested against real Go, not proved from fmt's source: count such statements apart). THE CARD IS WHAT COUNTS. Prove the row's statement (the work); the ties are given (YtphfhmabchfjjaaDoorTie.lean); close each card by the builder's one call (the guide's Derived/Test/ToyasCard.lean, 'card_holds'). Laid BY PROGRAM, IN A SANDBOX (cutbox-door.mjs). By AI agents, Wed Nov 11 2026. No macro, syntax, notation, axiom, sorry.
-/
import Derived.Test.YtphfhmabchfjjaaDoorRows
import GoSem.ClaimSeven
namespace Go.Proofs.YtphfhmabchfjjaaDoor
namespace Rows

/-- THE TIED CARD OF 'damierlaw06.QuotePuts'. -/
def quotePutsCard : Claim7 := { stood := { row := quotePutsRow, standIns := [], harness := (true, "9523a6b85d8e572242ea325af5b30d344f79d514862c715e821bf4c24694988a"), looks := false }, kinds := [], alts := [], laidByText := true, laidKinds := [.data], laidTests := true, laidLooks := .later }
def QuotePutsCardSaid : Prop := Claim7.holds Tryd.pinned (.plain (OpenSpec.ofChange quotePutsSpec)) quotePutsCard

/-- THE TIED CARD OF 'damierlaw06.QuoteReads'. -/
def quoteReadsCard : Claim7 := { stood := { row := quoteReadsRow, standIns := [], harness := (true, "9523a6b85d8e572242ea325af5b30d344f79d514862c715e821bf4c24694988a"), looks := false }, kinds := [], alts := [], laidByText := true, laidKinds := [.data], laidTests := true, laidLooks := .later }
def QuoteReadsCardSaid : Prop := Claim7.holds Tryd.pinned (.plain (OpenSpec.ofChange quoteReadsSpec)) quoteReadsCard

/-- THE TIED CARD OF 'damierlaw06.QuoteRight'. -/
def quoteRightCard : Claim7 := { stood := { row := quoteRightRow, standIns := [], harness := (true, "9523a6b85d8e572242ea325af5b30d344f79d514862c715e821bf4c24694988a"), looks := false }, kinds := [], alts := [], laidByText := true, laidKinds := [.data], laidTests := true, laidLooks := .later }
def QuoteRightCardSaid : Prop := Claim7.holds Tryd.pinned (.plain (OpenSpec.ofChange quoteRightSpec)) quoteRightCard

/-- THE TIED CARD OF 'damierlaw06.QuoteBack'. -/
def quoteBackCard : Claim7 := { stood := { row := quoteBackRow, standIns := [], harness := (true, "9523a6b85d8e572242ea325af5b30d344f79d514862c715e821bf4c24694988a"), looks := false }, kinds := [], alts := [], laidByText := true, laidKinds := [.data], laidTests := true, laidLooks := .later }
def QuoteBackCardSaid : Prop := Claim7.holds Tryd.pinned (.plain (OpenSpec.ofChange quoteBackSpec)) quoteBackCard

/-- THE TIED CARD OF 'damierlaw06.QuoteRows'. -/
def quoteRowsCard : Claim7 := { stood := { row := quoteRowsRow, standIns := [], harness := (true, "9523a6b85d8e572242ea325af5b30d344f79d514862c715e821bf4c24694988a"), looks := false }, kinds := [], alts := [], laidByText := true, laidKinds := [.data], laidTests := true, laidLooks := .later }
def QuoteRowsCardSaid : Prop := Claim7.holds Tryd.pinned (.plain (OpenSpec.ofChange quoteRowsSpec)) quoteRowsCard

/-- THE SECOND FORM's CARD OF 'damierlaw06.QuotePuts'. -/
def quotePutsUptoCard : Claim7 := { stood := { row := quotePutsUptoRow, standIns := [], harness := (true, "9523a6b85d8e572242ea325af5b30d344f79d514862c715e821bf4c24694988a"), looks := false }, kinds := [], alts := [], laidByText := true, laidKinds := [.data], laidTests := true, laidLooks := .later }
def QuotePutsUptoCardSaid : Prop := Claim7.holds Tryd.pinned (.plain (OpenSpec.upto quotePutsSpec)) quotePutsUptoCard

/-- THE SECOND FORM's CARD OF 'damierlaw06.QuoteReads'. -/
def quoteReadsUptoCard : Claim7 := { stood := { row := quoteReadsUptoRow, standIns := [], harness := (true, "9523a6b85d8e572242ea325af5b30d344f79d514862c715e821bf4c24694988a"), looks := false }, kinds := [], alts := [], laidByText := true, laidKinds := [.data], laidTests := true, laidLooks := .later }
def QuoteReadsUptoCardSaid : Prop := Claim7.holds Tryd.pinned (.plain (OpenSpec.upto quoteReadsSpec)) quoteReadsUptoCard

/-- THE SECOND FORM's CARD OF 'damierlaw06.QuoteRight'. -/
def quoteRightUptoCard : Claim7 := { stood := { row := quoteRightUptoRow, standIns := [], harness := (true, "9523a6b85d8e572242ea325af5b30d344f79d514862c715e821bf4c24694988a"), looks := false }, kinds := [], alts := [], laidByText := true, laidKinds := [.data], laidTests := true, laidLooks := .later }
def QuoteRightUptoCardSaid : Prop := Claim7.holds Tryd.pinned (.plain (OpenSpec.upto quoteRightSpec)) quoteRightUptoCard

/-- THE SECOND FORM's CARD OF 'damierlaw06.QuoteBack'. -/
def quoteBackUptoCard : Claim7 := { stood := { row := quoteBackUptoRow, standIns := [], harness := (true, "9523a6b85d8e572242ea325af5b30d344f79d514862c715e821bf4c24694988a"), looks := false }, kinds := [], alts := [], laidByText := true, laidKinds := [.data], laidTests := true, laidLooks := .later }
def QuoteBackUptoCardSaid : Prop := Claim7.holds Tryd.pinned (.plain (OpenSpec.upto quoteBackSpec)) quoteBackUptoCard

/-- THE SECOND FORM's CARD OF 'damierlaw06.QuoteRows'. -/
def quoteRowsUptoCard : Claim7 := { stood := { row := quoteRowsUptoRow, standIns := [], harness := (true, "9523a6b85d8e572242ea325af5b30d344f79d514862c715e821bf4c24694988a"), looks := false }, kinds := [], alts := [], laidByText := true, laidKinds := [.data], laidTests := true, laidLooks := .later }
def QuoteRowsUptoCardSaid : Prop := Claim7.holds Tryd.pinned (.plain (OpenSpec.upto quoteRowsSpec)) quoteRowsUptoCard
end Rows
end Go.Proofs.YtphfhmabchfjjaaDoor
