/-
  From a row's list of variables to the two tables of Go's utf8, at this seat's numbers.
-/
import Derived.Test.YtkendmlbmdhnaaaDoorUtfA
import GoSem.PinnedTables
namespace Go.Proofs.YtkendmlbmdhnaaaDoor
open Go Go.RowKit
set_option linter.unusedVariables false

theorem first_global : Tryd.prog.globalNamed "unicode/utf8.first" = some 1 := by kernel_rfl
theorem first_type : (Tryd.prog.globals[1]?).map (·.type) = some 66 := by kernel_rfl
theorem accept_global : Tryd.prog.globalNamed "unicode/utf8.acceptRanges" = some 2 := by kernel_rfl
theorem accept_type : (Tryd.prog.globals[2]?).map (·.type) = some 69 := by kernel_rfl
theorem cells_byte : Tryd.prog.cellsOf 5 = 1 := by kernel_rfl
theorem cells_first : Tryd.prog.cellsOf 66 = 256 := by kernel_rfl
theorem cells_pair : Tryd.prog.cellsOf 68 = 2 := by kernel_rfl

theorem first_of_reads {w : World} (h : Lib.VarReads Tryd.prog w "unicode/utf8.first" Lib.firstData) : ∀ c, c < 256 → w.cell? ⟨1, c, none⟩ = some (.int .u8 (Lib.firstT c)) := by
  obtain ⟨g, t, cs, fuel, p, hg, hty, hvar, hd⟩ := h
  have eg : 1 = g := Option.some.inj (first_global.symm.trans hg)
  subst eg
  have et : 66 = t := Option.some.inj (first_type.symm.trans hty)
  subst et
  intro c hc
  have hl := Lib.cells_of_tab Tryd.underlying66 Tryd.underlying5 cells_byte cells_first hd
  rw [World.var?_cell hg hvar c, ← Array.getElem?_toList, hl]
  simp [Lib.firstTab, hc]

theorem accept_of_reads {w : World} (h : Lib.VarReads Tryd.prog w "unicode/utf8.acceptRanges" Lib.acceptData) (i : Nat) (hi : i < 16) :
    w.cell? ⟨2, 2 * i, none⟩ = some (.int .u8 (Lib.accLo i)) ∧ w.cell? ⟨2, 2 * i + 1, none⟩ = some (.int .u8 (Lib.accHi i)) := by
  obtain ⟨g, t, cs, fuel, p, hg, hty, hvar, hd⟩ := h
  have eg : 2 = g := Option.some.inj (accept_global.symm.trans hg)
  subst eg
  have et : 69 = t := Option.some.inj (accept_type.symm.trans hty)
  subst et
  obtain ⟨fuel', d, q, hdi, he⟩ := Lib.array_elem Tryd.underlying69 hd i hi
  rw [List.getElem?_map, List.getElem?_range hi] at hdi
  have e2 : d = .agg ([(Lib.accLo i : Int), (Lib.accHi i : Int)].map fun z => .lit (.int .u8 z)) := (Option.some.inj hdi).symm
  subst e2
  rw [cells_pair] at he
  have hp := Lib.ints_of_struct Tryd.underlying68 (fun j f hj => by
    match j, hj with
    | 0, hj => cases hj; exact ⟨Tryd.underlying5, rfl, cells_byte⟩
    | 1, hj => cases hj; exact ⟨Tryd.underlying5, rfl, cells_byte⟩
    | j + 2, hj => simp at hj) (by rw [cells_pair]; rfl) he
  have e0 := congrArg (·[0]?) hp
  have e1 := congrArg (·[1]?) hp
  simp only [List.getElem?_take, List.getElem?_drop] at e0 e1
  refine ⟨?_, ?_⟩
  · rw [World.var?_cell hg hvar (2 * i), ← Array.getElem?_toList, Nat.mul_comm]
    simpa using e0
  · rw [World.var?_cell hg hvar (2 * i + 1), ← Array.getElem?_toList, Nat.mul_comm]
    simpa using e1

theorem first_pinned : Go.Pinned.utf8First = Lib.firstData := by kernel_rfl
theorem tabs_of_reads {w : World} (h3 : Lib.VarReads Tryd.prog w "unicode/utf8.first" Rows.laid_unicode_utf8_first) (h4 : Lib.VarReads Tryd.prog w "unicode/utf8.acceptRanges" Rows.laid_unicode_utf8_acceptRanges) : Tabs w :=
  ⟨first_of_reads (by rw [← first_pinned]; exact h3), fun i hi => accept_of_reads h4 i hi⟩

end Go.Proofs.YtkendmlbmdhnaaaDoor
