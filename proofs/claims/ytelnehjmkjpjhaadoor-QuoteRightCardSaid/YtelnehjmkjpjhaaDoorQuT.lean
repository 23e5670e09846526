/-
  From a row's list of variables to quote's table, at this seat's numbers.
-/
import Derived.Test.YtelnehjmkjpjhaaDoorQuA
import Derived.Lib.LaidU8
namespace Go.Proofs.YtelnehjmkjpjhaaDoor
open Go Go.RowKit
set_option linter.unusedVariables false

theorem may_global : Tryd.prog.globalNamed "damier/quote.mayEnd" = some 0 := by kernel_rfl
theorem may_type : (Tryd.prog.globals[0]?).map (·.type) = some 48 := by kernel_rfl
theorem cells_bool : Tryd.prog.cellsOf 4 = 1 := by kernel_rfl

theorem may_of_reads {w : World} (h : Lib.VarReads Tryd.prog w "damier/quote.mayEnd" Rows.laid_damier_quote_mayEnd) : MayT w := by
  obtain ⟨g, t, cs, fuel, p, hg, hty, hvar, hd⟩ := h
  have eg : 0 = g := Option.some.inj (may_global.symm.trans hg)
  subst eg
  have et : 48 = t := Option.some.inj (may_type.symm.trans hty)
  subst et
  have key : ∀ i : Nat, i < 6 → w.cell? ⟨0, i, none⟩ = some (.bool (mayP i)) := by
    intro i hi
    unfold Rows.laid_damier_quote_mayEnd at hd
    obtain ⟨fuel', d, q, hdi, he⟩ := Lib.array_elem Tryd.underlying48 hd i hi
    rw [cells_bool] at he
    obtain ⟨b, e0, e1⟩ := DataW.trod_bool Tryd.underlying4 he
    have hx : cs.toList[i]? = some (.bool b) := by
      have := congrArg (·[0]?) e0
      simpa [List.getElem?_take, List.getElem?_drop] using this
    rw [World.var?_cell hg hvar i, ← Array.getElem?_toList, hx]
    have hb : b = mayP i := by
      have e2 : d = .lit (.bool b) := congrArg Prod.fst e1
      subst e2
      rcases (show i = 0 ∨ i = 1 ∨ i = 2 ∨ i = 3 ∨ i = 4 ∨ i = 5 by omega) with rfl | rfl | rfl | rfl | rfl | rfl
      all_goals
        simp at hdi
        rw [hdi]
        rfl
    rw [hb]
  exact ⟨World.block_lt_of_cell? _ _ (key 0 (by omega)), fun p hp => key p hp⟩

end Go.Proofs.YtelnehjmkjpjhaaDoor
