/-
  NARROWER THAN 'FOR EVERY INPUT', by the rows' own cells (each row's printed sentence says how): KeysTell: laid · KeysParse: laid · KeysBack: laid · KeysApart: laid.
  DERIVED. THE GIVEN ROWS OF THIS SEAT. 4 by the template 'for every input the law returns true; each argument reads behind the call as it read before'; 0 by the template 'total and deterministic' (their statements: YtkendmlbmdhnaaaDoorTotals.lean).
  GIVEN WITH THE SEED: the statements are not yours to turn. If you find one false, say at which input.
  Laid BY PROGRAM, IN A SANDBOX (cutbox-rows.mjs): the forced cells as the released guide's own fill.sh prints them over the translation 7d22d1e1f1e213fb… (all of the seat's roots in one cut). By AI agents, Wed Nov 11 2026. No macro, syntax, notation, axiom, sorry.
-/
import Derived.Test.YtkendmlbmdhnaaaDoorChecked
import GoSem.PinnedTables
import GoSem.Claim
import GoSem.ClaimJoined
import GoSem.ClaimMapViews
import Derived.JoinedTies
import Derived.KernelRfl
namespace Go.Proofs.YtkendmlbmdhnaaaDoor
/- THE CELL 'sum', in the pinned program and in every row, IS THE sha256 OF THE DUMP (.gsa) THAT YtkendmlbmdhnaaaDoorProg.lean LOADS. Nothing in Lean hashes anything: it is a label: what it is worth is what the hold of that sum in a sandbox is worth. -/
noncomputable def Tryd.pinned : Pinned := { name := "ytkendmlbmdhnaaadoor", sum := "7d22d1e1f1e213fb80ea050dd77a64a42b54b77d207a9c6b30b3690a9c7113fa", checked := Tryd.checked }
namespace Rows
def none {H : Type} : Left H := { results := [], args := [] }

/- WHAT THE LISTED PACKAGE-LEVEL VARIABLES READ AS WHEN THE CALL BEGINS. Each datum BY PROGRAM (the guide's laid-datum.mjs) off the statement by which the dump's own 'gosem.cut.vars' lays the variable. In a bare row this is a premise. The card (YtkendmlbmdhnaaaDoorCards.lean) ties it to the program's text. -/
def laid_unicode_utf8_acceptRanges {H : Type} : DataW H := .agg [.agg [.lit (.int .u8 128), .lit (.int .u8 191)], .agg [.lit (.int .u8 160), .lit (.int .u8 191)], .agg [.lit (.int .u8 128), .lit (.int .u8 159)], .agg [.lit (.int .u8 144), .lit (.int .u8 191)], .agg [.lit (.int .u8 128), .lit (.int .u8 143)], .agg [.lit (.int .u8 0), .lit (.int .u8 0)], .agg [.lit (.int .u8 0), .lit (.int .u8 0)], .agg [.lit (.int .u8 0), .lit (.int .u8 0)], .agg [.lit (.int .u8 0), .lit (.int .u8 0)], .agg [.lit (.int .u8 0), .lit (.int .u8 0)], .agg [.lit (.int .u8 0), .lit (.int .u8 0)], .agg [.lit (.int .u8 0), .lit (.int .u8 0)], .agg [.lit (.int .u8 0), .lit (.int .u8 0)], .agg [.lit (.int .u8 0), .lit (.int .u8 0)], .agg [.lit (.int .u8 0), .lit (.int .u8 0)], .agg [.lit (.int .u8 0), .lit (.int .u8 0)]]
def laid_damier_keys_named {H : Type} : DataW H := .agg [.agg [.lit (.int .i64 60), .lit (.string [60, 108, 116, 62])], .agg [.lit (.int .i64 9), .lit (.string [60, 84, 97, 98, 62])], .agg [.lit (.int .i64 13), .lit (.string [60, 67, 82, 62])], .agg [.lit (.int .i64 8), .lit (.string [60, 66, 83, 62])], .agg [.lit (.int .i64 27), .lit (.string [60, 69, 115, 99, 62])], .agg [.lit (.int .i64 127), .lit (.string [60, 68, 101, 108, 62])], .agg [.lit (.int .i64 (-1)), .lit (.string [60, 76, 101, 102, 116, 62])], .agg [.lit (.int .i64 (-2)), .lit (.string [60, 82, 105, 103, 104, 116, 62])], .agg [.lit (.int .i64 (-3)), .lit (.string [60, 85, 112, 62])], .agg [.lit (.int .i64 (-4)), .lit (.string [60, 68, 111, 119, 110, 62])], .agg [.lit (.int .i64 (-5)), .lit (.string [60, 72, 111, 109, 101, 62])], .agg [.lit (.int .i64 (-6)), .lit (.string [60, 69, 110, 100, 62])]]
/-- One of Go's own tables, pinned by name: the form's constant. -/
def laid_unicode_utf8_first : DataW Unit := Go.Pinned.utf8First

/-- 'damierlaw22.KeysTell': WHATEVER THE INPUT: true; the input reads as it did. -/
def keysTellSpec : ChangeSpec := { name := "keysTell", fn := fun _ => fun
  | [d1, d2] => { results := [.lit (.bool true)], args := [d1, d2] }
  | _ => none }
def keysTellRow : OpenClaim := { program := "ytkendmlbmdhnaaadoor", sum := "7d22d1e1f1e213fb80ea050dd77a64a42b54b77d207a9c6b30b3690a9c7113fa", func := "damier/damierlaw22.KeysTell", spec := "keysTell", inPlace := ["internal/abi.NoEscape"], named := ["damier/keys.named", "unicode/utf8.first", "unicode/utf8.acceptRanges"], apart := false, laid := [("unicode/utf8.acceptRanges", laid_unicode_utf8_acceptRanges), ("damier/keys.named", laid_damier_keys_named), ("unicode/utf8.first", laid_unicode_utf8_first)] }
def KeysTellSaid : Prop := keysTellRow.holds Tryd.pinned (OpenSpec.ofChange keysTellSpec)

/-- ITS FALSE NEIGHBOUR: 'it returns false'. Refute it at one input. -/
def keysTellWrong : ChangeSpec := { name := "keysTell", fn := fun _ => fun
  | [d1, d2] => { results := [.lit (.bool false)], args := [d1, d2] }
  | _ => none }
def KeysTellWrongFalsely : Prop := keysTellRow.holds Tryd.pinned (OpenSpec.ofChange keysTellWrong)

/-- 'damierlaw22.KeysParse': WHATEVER THE INPUT: true; the input reads as it did. -/
def keysParseSpec : ChangeSpec := { name := "keysParse", fn := fun _ => fun
  | [d] => { results := [.lit (.bool true)], args := [d] }
  | _ => none }
def keysParseRow : OpenClaim := { program := "ytkendmlbmdhnaaadoor", sum := "7d22d1e1f1e213fb80ea050dd77a64a42b54b77d207a9c6b30b3690a9c7113fa", func := "damier/damierlaw22.KeysParse", spec := "keysParse", inPlace := ["internal/abi.NoEscape"], named := ["unicode/utf8.first", "unicode/utf8.acceptRanges", "damier/keys.named"], apart := false, laid := [("unicode/utf8.acceptRanges", laid_unicode_utf8_acceptRanges), ("damier/keys.named", laid_damier_keys_named), ("unicode/utf8.first", laid_unicode_utf8_first)] }
def KeysParseSaid : Prop := keysParseRow.holds Tryd.pinned (OpenSpec.ofChange keysParseSpec)

/-- ITS FALSE NEIGHBOUR: 'it returns false'. Refute it at one input. -/
def keysParseWrong : ChangeSpec := { name := "keysParse", fn := fun _ => fun
  | [d] => { results := [.lit (.bool false)], args := [d] }
  | _ => none }
def KeysParseWrongFalsely : Prop := keysParseRow.holds Tryd.pinned (OpenSpec.ofChange keysParseWrong)

/-- 'damierlaw22.KeysBack': WHATEVER THE INPUT: true; the input reads as it did. -/
def keysBackSpec : ChangeSpec := { name := "keysBack", fn := fun _ => fun
  | [d] => { results := [.lit (.bool true)], args := [d] }
  | _ => none }
def keysBackRow : OpenClaim := { program := "ytkendmlbmdhnaaadoor", sum := "7d22d1e1f1e213fb80ea050dd77a64a42b54b77d207a9c6b30b3690a9c7113fa", func := "damier/damierlaw22.KeysBack", spec := "keysBack", inPlace := ["internal/abi.NoEscape"], named := ["damier/keys.named", "unicode/utf8.first", "unicode/utf8.acceptRanges"], apart := false, laid := [("unicode/utf8.acceptRanges", laid_unicode_utf8_acceptRanges), ("damier/keys.named", laid_damier_keys_named), ("unicode/utf8.first", laid_unicode_utf8_first)] }
def KeysBackSaid : Prop := keysBackRow.holds Tryd.pinned (OpenSpec.ofChange keysBackSpec)

/-- ITS FALSE NEIGHBOUR: 'it returns false'. Refute it at one input. -/
def keysBackWrong : ChangeSpec := { name := "keysBack", fn := fun _ => fun
  | [d] => { results := [.lit (.bool false)], args := [d] }
  | _ => none }
def KeysBackWrongFalsely : Prop := keysBackRow.holds Tryd.pinned (OpenSpec.ofChange keysBackWrong)

/-- 'damierlaw22.KeysApart': WHATEVER THE INPUT: true; the input reads as it did. -/
def keysApartSpec : ChangeSpec := { name := "keysApart", fn := fun _ => fun
  | [d1, d2] => { results := [.lit (.bool true)], args := [d1, d2] }
  | _ => none }
def keysApartRow : OpenClaim := { program := "ytkendmlbmdhnaaadoor", sum := "7d22d1e1f1e213fb80ea050dd77a64a42b54b77d207a9c6b30b3690a9c7113fa", func := "damier/damierlaw22.KeysApart", spec := "keysApart", inPlace := ["internal/abi.NoEscape"], named := ["unicode/utf8.first", "unicode/utf8.acceptRanges", "damier/keys.named"], apart := false, laid := [("unicode/utf8.acceptRanges", laid_unicode_utf8_acceptRanges), ("damier/keys.named", laid_damier_keys_named), ("unicode/utf8.first", laid_unicode_utf8_first)] }
def KeysApartSaid : Prop := keysApartRow.holds Tryd.pinned (OpenSpec.ofChange keysApartSpec)

/-- ITS FALSE NEIGHBOUR: 'it returns false'. Refute it at one input. -/
def keysApartWrong : ChangeSpec := { name := "keysApart", fn := fun _ => fun
  | [d1, d2] => { results := [.lit (.bool false)], args := [d1, d2] }
  | _ => none }
def KeysApartWrongFalsely : Prop := keysApartRow.holds Tryd.pinned (OpenSpec.ofChange keysApartWrong)

/- THE SECOND FORM. 'bulk': how many values and letters a reading holds, each counted each time it is reached (what is shared counts as often as it is met; a slice's spare places count too). A statement '..UptoSaid' is the law's where the arguments, and the package variables that the reading takes, are together of bulk at most 1048576: NARROWER than '..Said'. Prove '..Said' where nothing that the law and all that it calls make is longer than what came in: it says more and counts as full. Else prove '..UptoSaid'. A law counts once. -/
mutual
def uptoBulk {H : Type} : DataW H → Nat
  | .lit (.string bytes) => bytes.length + 1
  | .lit _ => 1
  | .nil => 1
  | .ptr d => uptoBulk d + 1
  | .slice elems spare => uptoBulkAll elems + uptoBulkAll spare + 1
  | .agg parts => uptoBulkAll parts + 1
  | .iface _ d => uptoBulk d + 1
  | .map entries => uptoBulkEntries entries + 1
  | .held _ => 1
def uptoBulkAll {H : Type} : List (DataW H) → Nat
  | [] => 0
  | d :: r => uptoBulk d + uptoBulkAll r
def uptoBulkEntries {H : Type} : List (Lit × DataW H) → Nat
  | [] => 0
  | x :: r => uptoBulkEntry x + uptoBulkEntries r
def uptoBulkEntry {H : Type} : Lit × DataW H → Nat
  | (.string bytes, d) => bytes.length + uptoBulk d + 1
  | (_, d) => uptoBulk d + 1
 end
def uptoSmall : (H : Type) → List (DataW H) → Bool := fun _ ds => decide (uptoBulkAll ds ≤ 1048576)
def OpenSpec.upto (s : _root_.Go.ChangeSpec) : _root_.Go.OpenSpec := { _root_.Go.OpenSpec.ofChange s with cond := some uptoSmall }

/-- 'damierlaw22.KeysTell', WHERE WHAT IT READS IS OF BULK AT MOST 1048576: true; the input reads as it did. -/
def keysTellUptoRow : OpenClaim := { program := "ytkendmlbmdhnaaadoor", sum := "7d22d1e1f1e213fb80ea050dd77a64a42b54b77d207a9c6b30b3690a9c7113fa", func := "damier/damierlaw22.KeysTell", spec := "keysTell", inPlace := ["internal/abi.NoEscape"], named := ["damier/keys.named", "unicode/utf8.first", "unicode/utf8.acceptRanges"], apart := false, laid := [("unicode/utf8.acceptRanges", laid_unicode_utf8_acceptRanges), ("damier/keys.named", laid_damier_keys_named), ("unicode/utf8.first", laid_unicode_utf8_first)], narrowed := true }
def KeysTellUptoSaid : Prop := keysTellUptoRow.holds Tryd.pinned (OpenSpec.upto keysTellSpec)

/-- 'damierlaw22.KeysParse', WHERE WHAT IT READS IS OF BULK AT MOST 1048576: true; the input reads as it did. -/
def keysParseUptoRow : OpenClaim := { program := "ytkendmlbmdhnaaadoor", sum := "7d22d1e1f1e213fb80ea050dd77a64a42b54b77d207a9c6b30b3690a9c7113fa", func := "damier/damierlaw22.KeysParse", spec := "keysParse", inPlace := ["internal/abi.NoEscape"], named := ["unicode/utf8.first", "unicode/utf8.acceptRanges", "damier/keys.named"], apart := false, laid := [("unicode/utf8.acceptRanges", laid_unicode_utf8_acceptRanges), ("damier/keys.named", laid_damier_keys_named), ("unicode/utf8.first", laid_unicode_utf8_first)], narrowed := true }
def KeysParseUptoSaid : Prop := keysParseUptoRow.holds Tryd.pinned (OpenSpec.upto keysParseSpec)

/-- 'damierlaw22.KeysBack', WHERE WHAT IT READS IS OF BULK AT MOST 1048576: true; the input reads as it did. -/
def keysBackUptoRow : OpenClaim := { program := "ytkendmlbmdhnaaadoor", sum := "7d22d1e1f1e213fb80ea050dd77a64a42b54b77d207a9c6b30b3690a9c7113fa", func := "damier/damierlaw22.KeysBack", spec := "keysBack", inPlace := ["internal/abi.NoEscape"], named := ["damier/keys.named", "unicode/utf8.first", "unicode/utf8.acceptRanges"], apart := false, laid := [("unicode/utf8.acceptRanges", laid_unicode_utf8_acceptRanges), ("damier/keys.named", laid_damier_keys_named), ("unicode/utf8.first", laid_unicode_utf8_first)], narrowed := true }
def KeysBackUptoSaid : Prop := keysBackUptoRow.holds Tryd.pinned (OpenSpec.upto keysBackSpec)

/-- 'damierlaw22.KeysApart', WHERE WHAT IT READS IS OF BULK AT MOST 1048576: true; the input reads as it did. -/
def keysApartUptoRow : OpenClaim := { program := "ytkendmlbmdhnaaadoor", sum := "7d22d1e1f1e213fb80ea050dd77a64a42b54b77d207a9c6b30b3690a9c7113fa", func := "damier/damierlaw22.KeysApart", spec := "keysApart", inPlace := ["internal/abi.NoEscape"], named := ["unicode/utf8.first", "unicode/utf8.acceptRanges", "damier/keys.named"], apart := false, laid := [("unicode/utf8.acceptRanges", laid_unicode_utf8_acceptRanges), ("damier/keys.named", laid_damier_keys_named), ("unicode/utf8.first", laid_unicode_utf8_first)], narrowed := true }
def KeysApartUptoSaid : Prop := keysApartUptoRow.holds Tryd.pinned (OpenSpec.upto keysApartSpec)

end Rows
end Go.Proofs.YtkendmlbmdhnaaaDoor
