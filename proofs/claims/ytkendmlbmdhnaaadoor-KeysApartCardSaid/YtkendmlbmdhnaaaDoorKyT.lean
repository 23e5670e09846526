/-
  From a row's list of variables to the table of keys' names, at this seat's numbers.
-/
import Derived.Test.YtkendmlbmdhnaaaDoorUtfT
import Derived.Test.YtkendmlbmdhnaaaDoorKyA
import Derived.Lib.LaidU8
import Derived.ChangeSame
namespace Go.Proofs.YtkendmlbmdhnaaaDoor
open Go Go.RowKit
set_option linter.unusedVariables false

theorem named_global : Tryd.prog.globalNamed "damier/keys.named" = some 0 := by kernel_rfl
theorem named_type : (Tryd.prog.globals[0]?).map (·.type) = some 39 := by kernel_rfl
theorem cells_named : Tryd.prog.cellsOf 38 = 2 := by kernel_rfl
theorem cells_i : Tryd.prog.cellsOf 3 = 1 := by kernel_rfl
theorem cells_s : Tryd.prog.cellsOf 9 = 1 := by kernel_rfl

/-- The list's data, thing by thing. -/
def namedD {H : Type} : List (DataW H) := spl.map fun k => .agg [.lit (.int .i64 k), .lit (.string (nm k))]
theorem namedD_is {H : Type} : (Rows.laid_damier_keys_named : DataW H) = .agg namedD := by
  unfold Rows.laid_damier_keys_named namedD spl
  simp only [List.map_cons, List.map_nil]
  rfl

theorem named_of_reads {w : World} (h : Lib.VarReads Tryd.prog w "damier/keys.named" Rows.laid_damier_keys_named) : NmT w := by
  obtain ⟨g, t, cs, fuel, p, hg, hty, hvar, hd⟩ := h
  have eg : 0 = g := Option.some.inj (named_global.symm.trans hg)
  subst eg
  have et : 39 = t := Option.some.inj (named_type.symm.trans hty)
  subst et
  rw [namedD_is] at hd
  have key : ∀ i, i < 12 → w.cell? ⟨0, 2 * i, none⟩ = some (.int .i64 (nkK i)) ∧ w.cell? ⟨0, 2 * i + 1, none⟩ = some (.string (strOf (nm (nkK i)))) := by
    intro i hi
    obtain ⟨fuel', d, q, hdi, he⟩ := Lib.array_elem Tryd.underlying39 hd i hi
    have hk : spl[i]? = some (nkK i) := by
      have hl : i < spl.length := hi
      unfold nkK
      rw [List.getD_eq_getElem?_getD, List.getElem?_eq_getElem hl]
      rfl
    unfold namedD at hdi
    rw [List.getElem?_map, hk] at hdi
    have e2 := (Option.some.inj hdi).symm
    simp only at e2
    subst e2
    rw [cells_named] at he
    obtain ⟨y0, y1, n, hx, _, h0, h1⟩ := ChangeShapes.trod_struct2 Tryd.underlying38 he
    rw [cells_i] at h0
    rw [cells_s] at h1
    obtain ⟨x, e0, e0', _⟩ := DataW.trod_int Tryd.underlying3 h0
    obtain ⟨u, e1, e1', _⟩ := DataW.trod_string Tryd.underlying9 h1
    subst e0' e1'
    have hx1 := congrArg Prod.fst hx
    simp only [DataW.agg.injEq, List.cons.injEq, DataW.lit.injEq, Lit.int.injEq, Lit.string.injEq, true_and, and_true] at hx1
    obtain ⟨hx1, hx2⟩ := hx1
    have f0 := congrArg (·[0]?) e0
    have f1 := congrArg (·[0]?) e1
    simp only [List.getElem?_take, List.getElem?_drop] at f0 f1
    have hu : u = strOf (nm (nkK i)) := by
      rw [hx2]; rfl
    refine ⟨?_, ?_⟩
    · rw [World.var?_cell hg hvar (2 * i), ← Array.getElem?_toList, Nat.mul_comm]
      rw [hx1]
      simpa using f0
    · rw [World.var?_cell hg hvar (2 * i + 1), ← Array.getElem?_toList, Nat.mul_comm]
      rw [← hu]
      simpa using f1
  intro j v hj
  have hl : j < 24 := (List.getElem?_eq_some_iff.1 hj).1
  have hc : ∀ i, i < 12 → ntb[2 * i]? = some (.int .i64 (nkK i)) ∧ ntb[2 * i + 1]? = some (.string (strOf (nm (nkK i)))) := by
    intro i hi
    rcases (show i = 0 ∨ i = 1 ∨ i = 2 ∨ i = 3 ∨ i = 4 ∨ i = 5 ∨ i = 6 ∨ i = 7 ∨ i = 8 ∨ i = 9 ∨ i = 10 ∨ i = 11 by omega) with rfl | rfl | rfl | rfl | rfl | rfl | rfl | rfl | rfl | rfl | rfl | rfl
    all_goals exact ⟨rfl, rfl⟩
  rcases Nat.mod_two_eq_zero_or_one j with h | h
  · obtain ⟨i, rfl⟩ : ∃ i, j = 2 * i := ⟨j / 2, by omega⟩
    have hi : i < 12 := by omega
    rw [(hc i hi).1] at hj
    cases hj
    exact (key i hi).1
  · obtain ⟨i, rfl⟩ : ∃ i, j = 2 * i + 1 := ⟨j / 2, by omega⟩
    have hi : i < 12 := by omega
    rw [(hc i hi).2] at hj
    cases hj
    exact (key i hi).2

end Go.Proofs.YtkendmlbmdhnaaaDoor
