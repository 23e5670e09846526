/-
  Feed's calls as they lie in a law's argument, at this seat's numbers.
-/
import Derived.Test.YtdkgnmomkimpoaaFeC
namespace Go.Proofs.Ytdkgnmomkimpoaa
open Go Go.RowKit
set_option linter.unusedVariables false

/-- A call: its kind, key, number, and its keys where they lie. -/
structure OpF where
  k : Int
  x : Int
  n : Int
  a : Option Addr
  c : Nat
  l : List Int
/-- The calls as they lie. -/
def OpsIn (w : World) (a : Option Addr) (L : List OpF) : Prop := ∀ j o, L[j]? = some o → ∃ g p, a = some ⟨g, p, none⟩ ∧ g < w.heap.size ∧
  w.cell? ⟨g, p + j * 4, none⟩ = some (.int .i64 o.k) ∧ w.cell? ⟨g, p + j * 4 + 1, none⟩ = some (.int .i64 o.x) ∧ w.cell? ⟨g, p + j * 4 + 2, none⟩ = some (.int .i64 o.n) ∧ w.cell? ⟨g, p + j * 4 + 3, none⟩ = some (.slice o.a o.l.length o.c) ∧
  Sq w o.a o.c o.l ∧ (-9223372036854775808 ≤ o.k ∧ o.k ≤ 9223372036854775807) ∧ (-9223372036854775808 ≤ o.x ∧ o.x ≤ 9223372036854775807) ∧ (-9223372036854775808 ≤ o.n ∧ o.n ≤ 9223372036854775807)
theorem OpsIn.below {w w' : World} {a : Option Addr} {L : List OpF} (h : OpsIn w a L) (hb : Below w.heap.size w w') : OpsIn w' a L := by
  intro j o ho
  obtain ⟨g, p, e, hg, h0, h1, h2, h3, h4, h5⟩ := h j o ho
  exact ⟨g, p, e, Nat.lt_of_lt_of_le hg hb.size, (hb.cell (p := ⟨g, _, none⟩) hg).trans h0, (hb.cell (p := ⟨g, _, none⟩) hg).trans h1, (hb.cell (p := ⟨g, _, none⟩) hg).trans h2, (hb.cell (p := ⟨g, _, none⟩) hg).trans h3, h4.below hb, h5⟩
end Go.Proofs.Ytdkgnmomkimpoaa
