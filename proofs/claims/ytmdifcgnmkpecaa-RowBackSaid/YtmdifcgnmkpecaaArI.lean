/-
  The walk of the statement ArenaStays, at this seat's numbers.
-/
import Derived.Test.YtmdifcgnmkpecaaArH
import Derived.Deep.RegionHeld3
import Derived.Deep.DeepCutAuto
namespace Go.Proofs.Ytmdifcgnmkpecaa
open Go Go.RowKit
set_option linter.unusedVariables false

/-- An argument that is a slice of texts. -/
structure StrArg (w : World) (a : Option Addr) (c : Nat) (L : List ByteArray) : Prop where
  rd : Rd w 1 a L.length (L.map Value.string)
  fits : L.length ≤ c
  cap : c ≤ maxLen
  size : ∀ s ∈ L, s.size ≤ maxLen

/-- Bytes, and what becomes of them as a text. -/
theorem bytes_str {W w : World} {B p : Nat} {l : List UInt8} (h : Ar w B p l) (hl : l.length ≤ 16384) (x y : Int) (t : List UInt8) (ht : subL l x y = t) (hw : Below W.heap.size W w) :
    Calls Try.prog 53 #[.pointer (some ⟨p, 0, none⟩), .agg #[.int .i64 x, .int .i64 y]] w fun e w' => ∃ a n c, e = .returned (.slice a n c) ∧ (convert 27 9 (.slice a n c)).run Try.prog w' = .ok (.string (strOf t)) w' ∧ Below W.heap.size W w' := by
  refine (abytes_of h hl x y).mono ?_
  rintro e w' ⟨a, c, rfl, ho, hb⟩
  rw [ht] at ho ⊢
  exact ⟨a, _, c, rfl, string_own ho, hw.trans (hb.mono hw.size)⟩

/-- New memory's Span, 'alloc'. -/
theorem below_al (w : World) (o : Obj) : Below w.heap.size w (w.alloc o) := (Below.refl _ w).alloc (Nat.le_refl _) o

end Go.Proofs.Ytmdifcgnmkpecaa
