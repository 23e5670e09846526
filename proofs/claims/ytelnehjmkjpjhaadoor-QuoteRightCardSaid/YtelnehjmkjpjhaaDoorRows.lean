/-
  NARROWER THAN 'FOR EVERY INPUT', by the rows' own cells (each row's printed sentence says how): QuoteRight: laid · QuoteRows: laid.
  DERIVED. THE GIVEN ROWS OF THIS SEAT. 2 by the template 'for every input the law returns true; each argument reads behind the call as it read before'; 0 by the template 'total and deterministic' (their statements: YtelnehjmkjpjhaaDoorTotals.lean).
  GIVEN WITH THE SEED: the statements are not yours to turn. If you find one false, say at which input.
  Laid BY PROGRAM, IN A SANDBOX (cutbox-rows.mjs): the forced cells as the released guide's own fill.sh prints them over the translation b36271b8e2732b93… (all of the seat's roots in one cut). By AI agents, Wed Nov 11 2026. No macro, syntax, notation, axiom, sorry.
-/
import Derived.Test.YtelnehjmkjpjhaaDoorChecked
import GoSem.Claim
import GoSem.ClaimJoined
import GoSem.ClaimMapViews
import Derived.JoinedTies
import Derived.KernelRfl
namespace Go.Proofs.YtelnehjmkjpjhaaDoor
/- THE CELL 'sum', in the pinned program and in every row, IS THE sha256 OF THE DUMP (.gsa) THAT YtelnehjmkjpjhaaDoorProg.lean LOADS. Nothing in Lean hashes anything: it is a label: what it is worth is what the hold of that sum in a sandbox is worth. -/
noncomputable def Tryd.pinned : Pinned := { name := "ytelnehjmkjpjhaadoor", sum := "b36271b8e2732b93d09b69a726ccc7098ed17e005adab1d6f9a47a2868c827ba", checked := Tryd.checked }
namespace Rows
def none {H : Type} : Left H := { results := [], args := [] }

/- WHAT THE LISTED PACKAGE-LEVEL VARIABLES READ AS WHEN THE CALL BEGINS. Each datum BY PROGRAM (the guide's laid-datum.mjs) off the statement by which the dump's own 'gosem.cut.vars' lays the variable. In a bare row this is a premise. The card (YtelnehjmkjpjhaaDoorCards.lean) ties it to the program's text. -/
def laid_damier_quote_mayEnd {H : Type} : DataW H := .agg [.lit (.bool true), .lit (.bool true), .lit (.bool false), .lit (.bool true), .lit (.bool false), .lit (.bool false)]

/-- 'damierlaw06.QuoteRight': WHATEVER THE INPUT: true; the input reads as it did. -/
def quoteRightSpec : ChangeSpec := { name := "quoteRight", fn := fun _ => fun
  | [d1, d2] => { results := [.lit (.bool true)], args := [d1, d2] }
  | _ => none }
def quoteRightRow : OpenClaim := { program := "ytelnehjmkjpjhaadoor", sum := "b36271b8e2732b93d09b69a726ccc7098ed17e005adab1d6f9a47a2868c827ba", func := "damier/damierlaw06.QuoteRight", spec := "quoteRight", unfollowed := true, recurses := true, named := ["damier/quote.mayEnd"], apart := false, laid := [("damier/quote.mayEnd", laid_damier_quote_mayEnd)] }
def QuoteRightSaid : Prop := quoteRightRow.holds Tryd.pinned (OpenSpec.ofChange quoteRightSpec)

/-- ITS FALSE NEIGHBOUR: 'it returns false'. Refute it at one input. -/
def quoteRightWrong : ChangeSpec := { name := "quoteRight", fn := fun _ => fun
  | [d1, d2] => { results := [.lit (.bool false)], args := [d1, d2] }
  | _ => none }
def QuoteRightWrongFalsely : Prop := quoteRightRow.holds Tryd.pinned (OpenSpec.ofChange quoteRightWrong)

/-- 'damierlaw06.QuoteRows': WHATEVER THE INPUT: true; the input reads as it did. -/
def quoteRowsSpec : ChangeSpec := { name := "quoteRows", fn := fun _ => fun
  | [d] => { results := [.lit (.bool true)], args := [d] }
  | _ => none }
def quoteRowsRow : OpenClaim := { program := "ytelnehjmkjpjhaadoor", sum := "b36271b8e2732b93d09b69a726ccc7098ed17e005adab1d6f9a47a2868c827ba", func := "damier/damierlaw06.QuoteRows", spec := "quoteRows", unfollowed := true, recurses := true, named := ["damier/quote.mayEnd"], apart := false, laid := [("damier/quote.mayEnd", laid_damier_quote_mayEnd)] }
def QuoteRowsSaid : Prop := quoteRowsRow.holds Tryd.pinned (OpenSpec.ofChange quoteRowsSpec)

/-- ITS FALSE NEIGHBOUR: 'it returns false'. Refute it at one input. -/
def quoteRowsWrong : ChangeSpec := { name := "quoteRows", fn := fun _ => fun
  | [d] => { results := [.lit (.bool false)], args := [d] }
  | _ => none }
def QuoteRowsWrongFalsely : Prop := quoteRowsRow.holds Tryd.pinned (OpenSpec.ofChange quoteRowsWrong)

/- THE SECOND FORM. 'bulk': how many values and letters a reading holds, each counted each time it is reached (what is shared counts as often as it is met; a slice's spare places count too). A statement '..UptoSaid' is the law's where the arguments, and the package variables that the reading takes, are together of bulk at most 1048576: NARROWER than '..Said'. Prove '..Said' where nothing that the law and all that it calls make is longer than what came in: it says more and counts as full. Else prove '..UptoSaid'. A law counts once. -/
mutual
def uptoBulk {H : Type} : DataW H → Nat
  | .lit (.string bytes) => bytes.length + 1
  | .lit _ => 1
  | .nil => 1
  | .ptr d => uptoBulk d + 1
  | .slice elems spare => uptoBulkAll elems + uptoBulkAll spare + 1
  | .agg parts => uptoBulkAll parts + 1
  | .iface _ d => uptoBulk d + 1
  | .map entries => uptoBulkEntries entries + 1
  | .held _ => 1
def uptoBulkAll {H : Type} : List (DataW H) → Nat
  | [] => 0
  | d :: r => uptoBulk d + uptoBulkAll r
def uptoBulkEntries {H : Type} : List (Lit × DataW H) → Nat
  | [] => 0
  | x :: r => uptoBulkEntry x + uptoBulkEntries r
def uptoBulkEntry {H : Type} : Lit × DataW H → Nat
  | (.string bytes, d) => bytes.length + uptoBulk d + 1
  | (_, d) => uptoBulk d + 1
 end
def uptoSmall : (H : Type) → List (DataW H) → Bool := fun _ ds => decide (uptoBulkAll ds ≤ 1048576)
def OpenSpec.upto (s : _root_.Go.ChangeSpec) : _root_.Go.OpenSpec := { _root_.Go.OpenSpec.ofChange s with cond := some uptoSmall }

/-- 'damierlaw06.QuoteRight', WHERE WHAT IT READS IS OF BULK AT MOST 1048576: true; the input reads as it did. -/
def quoteRightUptoRow : OpenClaim := { program := "ytelnehjmkjpjhaadoor", sum := "b36271b8e2732b93d09b69a726ccc7098ed17e005adab1d6f9a47a2868c827ba", func := "damier/damierlaw06.QuoteRight", spec := "quoteRight", unfollowed := true, recurses := true, named := ["damier/quote.mayEnd"], apart := false, laid := [("damier/quote.mayEnd", laid_damier_quote_mayEnd)], narrowed := true }
def QuoteRightUptoSaid : Prop := quoteRightUptoRow.holds Tryd.pinned (OpenSpec.upto quoteRightSpec)

/-- 'damierlaw06.QuoteRows', WHERE WHAT IT READS IS OF BULK AT MOST 1048576: true; the input reads as it did. -/
def quoteRowsUptoRow : OpenClaim := { program := "ytelnehjmkjpjhaadoor", sum := "b36271b8e2732b93d09b69a726ccc7098ed17e005adab1d6f9a47a2868c827ba", func := "damier/damierlaw06.QuoteRows", spec := "quoteRows", unfollowed := true, recurses := true, named := ["damier/quote.mayEnd"], apart := false, laid := [("damier/quote.mayEnd", laid_damier_quote_mayEnd)], narrowed := true }
def QuoteRowsUptoSaid : Prop := quoteRowsUptoRow.holds Tryd.pinned (OpenSpec.upto quoteRowsSpec)

end Rows
end Go.Proofs.YtelnehjmkjpjhaaDoor
