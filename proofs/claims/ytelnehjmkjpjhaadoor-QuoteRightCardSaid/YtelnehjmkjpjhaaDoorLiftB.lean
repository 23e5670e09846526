/-
  More arguments opened: slices of texts, at this seat's numbers.
-/
import Derived.Test.YtelnehjmkjpjhaaDoorLift
import Derived.Test.YtelnehjmkjpjhaaDoorArI
import Derived.SliceStrings
import Derived.Shelf.Bytes.SlIndexWhole
namespace Go.Proofs.YtelnehjmkjpjhaaDoor
open Go Go.RowKit Go.ChangeShapes Go.WideShapes Go.Joins
set_option linter.unusedVariables false
set_option maxRecDepth 100000

section
variable {H : Type} {enc : TypeId × Value → H} {W : World}
theorem cells_string : Tryd.prog.cellsOf 9 = 1 := by kernel_rfl
theorem open_strs {v : Value} {d : DataW H} {p : List MemPlace} (hv : Value.okWide Tryd.prog W .any 0 22 v) (h : DataW.Trod enc Tryd.prog W 0 (fun _ => true) true 22 v d p) (hlt : ∀ x ∈ p, x.block < W.heap.size) :
    ∃ (a : Option Addr) (c : Nat) (L : List ByteArray), v = .slice a L.length c ∧ StrArg W a c L := by
  obtain ⟨a0, len0, cap0, rfl⟩ := okWide_slice Tryd.underlying22 hv
  obtain ⟨fuel, hf⟩ := h
  rcases open_strings Tryd.underlying22 Tryd.underlying9 cells_string hf with ⟨hcs, _⟩ | ⟨a, len, cap, ss, hcs, _, hl, hm, hz, _, hcell, hsz⟩
  · simp [Value.cells] at hcs
    obtain ⟨rfl, rfl, rfl⟩ := hcs
    exact ⟨none, 0, [], rfl, ⟨by simp, fun h => absurd h (by simp)⟩, by simp, by unfold maxLen; omega, fun s hs => by simp at hs⟩
  · simp [Value.cells] at hcs
    obtain ⟨rfl, rfl, rfl⟩ := hcs
    simp only [if_true] at hz
    have hlen : (ss.take len0).length = len0 := by simp; omega
    refine ⟨some a, cap0, ss.take len0, by rw [hlen], ⟨by simp, fun hn => ?_⟩, by omega, hm, fun s hs => hsz s (List.mem_of_mem_take hs)⟩
    have h0 := hcell 0 (by omega)
    have hb := World.block_lt_of_cell? _ _ h0
    have ha : a = ⟨a.block, a.off, none⟩ := Lib.plain_of_cell (by simpa [Addr.add] using h0)
    refine ⟨a.block, a.off, by rw [← ha], by simpa [Addr.add] using hb, fun j u hu => ?_⟩
    rw [List.getElem?_map] at hu
    have hj : j < len0 := by
      rcases Nat.lt_or_ge j len0 with h' | h'
      · exact h'
      · rw [List.getElem?_eq_none (by rw [hlen]; exact h')] at hu; cases hu
    have hc := hcell j (by omega)
    rw [ha, Addr.add_lit] at hc
    rw [hc]
    rw [List.getElem?_take, if_pos hj, List.getElem?_eq_getElem (by omega)] at hu
    rw [List.getD_eq_getElem?_getD, List.getElem?_eq_getElem (by omega)]
    exact hu
end

end Go.Proofs.YtelnehjmkjpjhaaDoor
