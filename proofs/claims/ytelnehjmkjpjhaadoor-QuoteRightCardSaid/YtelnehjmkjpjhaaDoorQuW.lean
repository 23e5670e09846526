/-
  Texts that were made bytes: their blocks, over what is appended elsewhere.
-/
import Derived.Test.YtelnehjmkjpjhaaDoorQuV
namespace Go.Proofs.YtelnehjmkjpjhaaDoor
open Go Go.RowKit
set_option linter.unusedVariables false

/-- The bytes of a text lie at the head of a block of bytes. -/
def TbIn (w : World) (p : TxM) : Prop := ∃ (g : Nat) (cs : Array Value) (fr : Nat × Nat), p.2.1 = some ⟨g, 0, none⟩ ∧ w.heap[g]? = some (.cells cs 5 fr) ∧ ∀ (j : Nat) (u : Value), (bc p.1)[j]? = some u → cs[j]? = some u
theorem TbIn.rd {w : World} {p : TxM} (h : TbIn w p) : Rd w 1 p.2.1 p.1.length (bc p.1) := by
  obtain ⟨g, cs, fr, e, hg, hc⟩ := h
  refine ⟨by rw [bc_len]; omega, fun _ => ⟨g, 0, e, lt_of_heap hg, fun j u hu => ?_⟩⟩
  rw [Nat.zero_add, cell_at hg]
  exact hc j u hu
theorem TbIn.below {w w' : World} {p : TxM} (h : TbIn w p) (hb : Below w.heap.size w w') : TbIn w' p := by
  obtain ⟨g, cs, fr, e, hg, hc⟩ := h
  exact ⟨g, cs, fr, e, (hb.block g (lt_of_heap hg)).trans hg, hc⟩
theorem tb_of (s : ByteArray) (w : World) : ∃ cap W, (convert 9 28 (.string s)).run Tryd.prog w = .ok (.slice (some ⟨w.heap.size, 0, none⟩) s.size cap) W ∧ TbIn W (s.data.toList, some ⟨w.heap.size, 0, none⟩, cap) ∧ Below w.heap.size w W := by
  refine ⟨_, _, run_bytes_of_string w 9 28 5 s Tryd.underlying9 Tryd.underlying28 Tryd.underlying5, ⟨w.heap.size, _, _, rfl, heap_alloc_new w.drew _, fun j u hu => ?_⟩, (Below.refl _ w).drew.alloc (Nat.le_refl _) _⟩
  have hj : j < s.data.toList.length := by
    have := (List.getElem?_eq_some_iff.1 hu).1
    rwa [bc_len] at this
  rw [bytesRow_at s _ j (by simpa using hj)]
  unfold bc at hu
  rw [List.getElem?_map, List.getElem?_eq_getElem hj] at hu
  rw [← hu]; simp

end Go.Proofs.YtelnehjmkjpjhaaDoor
