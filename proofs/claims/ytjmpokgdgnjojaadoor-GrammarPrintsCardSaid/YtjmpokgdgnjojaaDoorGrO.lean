/-
  GrammarWays, at this seat's numbers.
-/
import Derived.Test.YtjmpokgdgnjojaaDoorGrN
import Derived.Test.YtjmpokgdgnjojaaDoorGrH
namespace Go.Proofs.YtjmpokgdgnjojaaDoor
open Go Go.RowKit
set_option linter.unusedVariables false

/-- A key, the way, and whether a macro is recorded. -/
structure PrF where
  k : Int
  way : Int
  r : Bool
/-- Some of these as they lie. -/
def PrsIn (w : World) (a : Option Addr) (L : List PrF) : Prop := ∀ j o, L[j]? = some o → ∃ g p, a = some ⟨g, p, none⟩ ∧ g < w.heap.size ∧
  w.cell? ⟨g, p + j * 3, none⟩ = some (.int .i64 o.k) ∧ w.cell? ⟨g, p + j * 3 + 1, none⟩ = some (.int .i64 o.way) ∧ w.cell? ⟨g, p + j * 3 + 2, none⟩ = some (.bool o.r)
theorem PrsIn.below {w w' : World} {a : Option Addr} {L : List PrF} (h : PrsIn w a L) (hb : Below w.heap.size w w') : PrsIn w' a L := by
  intro j o ho
  obtain ⟨g, p, e, hg, h0, h1, h2⟩ := h j o ho
  exact ⟨g, p, e, Nat.lt_of_lt_of_le hg hb.size, (hb.cell (p := ⟨g, _, none⟩) hg).trans h0, (hb.cell (p := ⟨g, _, none⟩) hg).trans h1, (hb.cell (p := ⟨g, _, none⟩) hg).trans h2⟩
abbrev kO (k : Int) : Obj := .cells #[.int .i64 k] 3
abbrev cm2O (c : Cm) : Obj := .cells #[.int .i64 c.op, .int .i64 c.vb, .int .i64 c.ct, .int .i64 c.rg, .int .i64 c.ch] 28
set_option maxRecDepth 100000 in
theorem ours_of (c : Cm) (w : World) : Calls Tryd.prog 7 #[cmV c] w fun e w' => e = .returned (cmV c) ∧ Below w.heap.size w w' := by
  have HB : Hid (∀ o o', Below w.heap.size w ((w.alloc o).alloc o')) := Lib.hid (fun o o' => (t_al w o).trans ((t_al _ o').mono (by simp)))
  go_enter Tryd.func7, Tryd.ntmps7
  go_wp2_with fail
  exact bodyPost_ret (v := cmV c) (by simp [results, Tryd.results7, go_sem]) rfl ⟨rfl, HB.out _ _⟩

theorem PsIn.again {w w' : World} {p : Nat} (hp : Pr w' p (.slice none 0 0) c0M .nilFunc) : PsIn w' p p (.slice none 0 0) p0M :=
  ⟨⟨.nilFunc, hp, rfl⟩, t_nil _ _ _ _, ⟨Int.le_refl _, by decide⟩, trivial, Nat.le_refl _⟩
end Go.Proofs.YtjmpokgdgnjojaaDoor
