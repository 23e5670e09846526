/-
  The walk of the arena's example, and of the statement ArenaNil, at this seat's numbers.
-/
import Derived.Test.YtelnehjmkjpjhaaDoorArD
namespace Go.Proofs.YtelnehjmkjpjhaaDoor
open Go Go.RowKit
set_option linter.unusedVariables false

/-- What the library's search reads: one of its variables, whatever it holds. -/
def ML (w : World) : Prop := 0 < w.heap.size ∧ ∃ m, w.cell? ⟨0, 0, none⟩ = some (.int .i64 m)
theorem ML.below {B : Nat} {w w' : World} (h : ML w) (hb : Below B w w') (hB : 0 < B) : ML w' := by
  obtain ⟨h1, m, h2⟩ := h
  exact ⟨Nat.lt_of_lt_of_le h1 hb.size, m, (hb.cell (p := ⟨0, 0, none⟩) hB).trans h2⟩

/-- A block of bytes that stands in memory reads as these. -/
theorem rd_new {w : World} {b : Nat} {t : List UInt8} {fr : Nat × Nat} {ty : TypeId} (h : w.heap[b]? = some (.cells (bc t).toArray ty fr)) : Rd w 1 (some ⟨b, 0, none⟩) t.length (bc t) :=
  ⟨by rw [bc_len]; omega, fun hn => ⟨b, 0, rfl, lt_of_heap h, fun j u hu => by rw [Nat.zero_add, cell_at h]; simpa using hu⟩⟩

theorem own_form {w : World} {B sz n c : Nat} {e : TypeId} {a : Option Addr} {xs : List Value} (h : w.ownsRow B e sz (.slice a n c) n xs) : (a = none ∧ n = 0) ∨ ∃ g, a = some ⟨g, 0, none⟩ ∧ B ≤ g ∧ g < w.heap.size := by
  rcases h.2 with ⟨e, h0⟩ | ⟨g, cap, cur, e, h1, h2, _⟩
  · injection e with e1
    exact .inl ⟨e1, h0⟩
  · injection e with e1
    exact .inr ⟨g, e1, h1, lt_of_heap h2⟩
theorem string_own {w : World} {B : Nat} {a : Option Addr} {c : Nat} {l : List UInt8} (h : w.ownsRow B 5 1 (.slice a l.length c) l.length (bc l)) :
    (convert 28 9 (.slice a l.length c)).run Tryd.prog w = .ok (.string (strOf l)) w := by
  rcases own_form h with ⟨rfl, h0⟩ | ⟨g, rfl, _, hlt⟩
  · obtain rfl := List.eq_nil_of_length_eq_zero h0
    exact run_convert_bytes_nil w 28 5 Tryd.underlying28 Tryd.underlying5 0 c 9 Tryd.underlying9
  · refine string_of (strOf l) w g 0 c (fun j hj => ?_)
    have hj' : j < l.length := hj
    have := h.cells (g := g) rfl j _ (nums_at hj')
    rw [Addr.add_lit] at this
    rw [this]
    unfold bt strOf nums
    simp [List.getD_eq_getElem?_getD, List.getElem?_map, List.getElem?_eq_getElem hj']
end Go.Proofs.YtelnehjmkjpjhaaDoor
