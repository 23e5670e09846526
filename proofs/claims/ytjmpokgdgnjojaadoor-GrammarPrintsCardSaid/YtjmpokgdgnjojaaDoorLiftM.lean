/-
  Arguments opened, for the lift of the walks of layer 15, at this seat's numbers.
-/
import Derived.Test.YtjmpokgdgnjojaaDoorTrA
import Derived.Lib.SmallJoins
import Derived.Deep.Slices
import Derived.Carry
import Derived.OpenShut
import Derived.ShutString
import Derived.ProofKit
import Derived.Shelf.Vars
import Derived.ChangeSlices
import Derived.SliceStrings
namespace Go.Proofs.YtjmpokgdgnjojaaDoor
open Go Go.RowKit Go.ChangeShapes Go.WideShapes Go.Joins
set_option linter.unusedVariables false
set_option maxRecDepth 100000

def intv : Value → Int
  | .int _ n => n
  | _ => 0
def boolw : Value → Bool
  | .bool b => b
  | _ => false
/-- A whole number of Go's int. -/
def I64 (x : Int) : Prop := -9223372036854775808 ≤ x ∧ x ≤ 9223372036854775807

section
variable {H : Type} {enc : TypeId × Value → H} {W : World}
theorem laidOut : laidOutB Tryd.prog = true := by kernel_rfl
theorem cells_int : Tryd.prog.cellsOf 3 = 1 := by kernel_rfl
theorem form_slice {P : Program} {t e : TypeId} (ht : P.underlying t = some (.slice e)) {a : Addr} {len cap : Nat} (hv : Value.okWide P W .any 0 t (.slice (some a) len cap)) : ∃ g o, a = ⟨g, o, none⟩ ∧ g < W.heap.size := by
  simp only [Value.okWide, ht, Cell.okWide, Cell.ok] at hv
  obtain ⟨_, _, _, h1, row, cells, h2, _⟩ := hv
  obtain ⟨g, o, s⟩ := a
  simp only at h1 h2
  subst h1
  refine ⟨g, o, rfl, ?_⟩
  rcases Nat.lt_or_ge g W.heap.size with h | h
  · exact h
  · simp [World.shape?, Array.getElem?_eq_none h] at h2
theorem open_nums {v : Value} {d : DataW H} {p : List MemPlace} (hv : Value.okWide Tryd.prog W .any 0 24 v) (h : DataW.Trod enc Tryd.prog W 0 (fun _ => true) true 24 v d p) :
    ∃ (a : Option Addr) (c : Nat) (L : List Int), v = .slice a L.length c ∧ Sl W a c (L.map (Value.int .i64)) ∧ ∀ x ∈ L, I64 x := by
  obtain ⟨a0, len0, cap0, rfl⟩ := okWide_slice Tryd.underlying24 hv
  obtain ⟨fuel, hf⟩ := h
  rcases ChangeShapes.open_ints Tryd.underlying24 Tryd.underlying3 cells_int hf with ⟨hcs, _⟩ | ⟨a, len, cap, zs, hcs, _, hl, hm, hz, _, hcell, hwf⟩
  · simp [Value.cells] at hcs
    obtain ⟨rfl, rfl, rfl⟩ := hcs
    exact ⟨none, 0, [], rfl, Sl.none W, by simp⟩
  · simp [Value.cells] at hcs
    obtain ⟨rfl, rfl, rfl⟩ := hcs
    simp only [if_true] at hz
    obtain ⟨g, o, rfl, hg⟩ := form_slice Tryd.underlying24 hv
    have hlen : (zs.take len0).length = len0 := by simp; omega
    refine ⟨some ⟨g, o, none⟩, cap0, zs.take len0, by rw [hlen], ⟨⟨by simp, fun hn => ⟨g, o, rfl, hg, fun j u hj => ?_⟩⟩, by rw [List.length_map, hlen]; exact hl, hm, fun h => (by cases h), fun d hd => ⟨g, o, by cases hd; rfl⟩, fun u hu => ?_⟩, fun x hx => bounds_i64 (hwf x (List.mem_of_mem_take hx))⟩
    · rw [List.getElem?_map] at hj
      have hj' : j < len0 := by
        rcases Nat.lt_or_ge j len0 with h' | h'
        · exact h'
        · rw [List.getElem?_eq_none (by rw [hlen]; exact h')] at hj; cases hj
      have hc := hcell j (by omega)
      rw [Addr.add_lit] at hc
      rw [hc]
      rw [List.getElem?_take, if_pos hj', List.getElem?_eq_getElem (by omega)] at hj
      rw [List.getD_eq_getElem?_getD, List.getElem?_eq_getElem (by omega)]
      exact hj
    · obtain ⟨x, _, rfl⟩ := List.mem_map.1 hu; rfl

end

end Go.Proofs.YtjmpokgdgnjojaaDoor
