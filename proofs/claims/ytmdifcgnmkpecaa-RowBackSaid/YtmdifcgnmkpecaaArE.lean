/-
  The walk of the arena's example, and of the statement ArenaNil, at this seat's numbers.
-/
import Derived.Test.YtmdifcgnmkpecaaArD
namespace Go.Proofs.Ytmdifcgnmkpecaa
open Go Go.RowKit
set_option linter.unusedVariables false

/-- What the library's search reads: one of its variables, whatever it holds. -/
def ML (w : World) : Prop := 0 < w.heap.size ∧ ∃ m, w.cell? ⟨0, 0, none⟩ = some (.int .i64 m)
theorem ML.below {B : Nat} {w w' : World} (h : ML w) (hb : Below B w w') (hB : 0 < B) : ML w' := by
  obtain ⟨h1, m, h2⟩ := h
  exact ⟨Nat.lt_of_lt_of_le h1 hb.size, m, (hb.cell (p := ⟨0, 0, none⟩) hB).trans h2⟩

/-- A block of bytes that stands in memory reads as these. -/
theorem rd_new {w : World} {b : Nat} {t : List UInt8} {fr : Nat × Nat} {ty : TypeId} (h : w.heap[b]? = some (.cells (bc t).toArray ty fr)) : Rd w 1 (some ⟨b, 0, none⟩) t.length (bc t) :=
  ⟨by rw [bc_len]; omega, fun hn => ⟨b, 0, rfl, lt_of_heap h, fun j u hu => by rw [Nat.zero_add, cell_at h]; simpa using hu⟩⟩

theorem ex_new {w : World} {b c : Nat} {fr : Nat × Nat} {ty : TypeId} (h : w.heap[b]? = some (.cells #[.int .u8 120] ty fr)) :
    Calls Try.prog 11 #[.slice (some ⟨b, 0, none⟩) 1 c] w fun e w' => ∃ p, e = .returned (.tuple #[.pointer (some ⟨p, 0, none⟩), .int .i64 0]) ∧ Ar w' w.heap.size p [120] ∧ Below w.heap.size w w' :=
  new_of (t := [120]) _ c (rd_new (t := [120]) h) (by decide)
theorem ex_add {w : World} {B p b c : Nat} {fr : Nat × Nat} {ty : TypeId} (hA : Ar w B p [120]) (hB : B ≤ w.heap.size) (h : w.heap[b]? = some (.cells #[.int .u8 97, .int .u8 98] ty fr)) :
    Calls Try.prog 21 #[.pointer (some ⟨p, 0, none⟩), .slice (some ⟨b, 0, none⟩) 2 c] w fun e w' => e = .returned (.tuple #[.agg #[.int .i64 1, .int .i64 2], .int .i64 0]) ∧ Ar w' B p [120, 97, 98] ∧ Turned B w w' :=
  add_of (t := [97, 98]) hA (by decide) _ c hB (rd_new (t := [97, 98]) h) (by decide)
theorem ex_keep {w : World} {B p b c : Nat} {fr : Nat × Nat} {ty : TypeId} (hA : Ar w B p [120, 97, 98]) (hB : B ≤ w.heap.size) (hm : ML w) (h : w.heap[b]? = some (.cells #[.int .u8 98] ty fr)) :
    Calls Try.prog 91 #[.pointer (some ⟨p, 0, none⟩), .slice (some ⟨b, 0, none⟩) 1 c] w fun e w' => e = .returned (.tuple #[.agg #[.int .i64 2, .int .i64 1], .int .i64 0]) ∧ Ar w' B p [120, 97, 98] ∧ Turned B w w' := by
  obtain ⟨h0, m, hm⟩ := hm
  have := keep_of (t := [98]) hA (by decide) _ c hB (rd_new (t := [98]) h) (by decide) hm h0
  have e1 : keepR [120, 97, 98] [98] = (2, 1, 0) := by decide
  have e2 : keepL [120, 97, 98] [98] = [120, 97, 98] := by decide
  rw [e1, e2] at this
  exact this
theorem own_form {w : World} {B sz n c : Nat} {e : TypeId} {a : Option Addr} {xs : List Value} (h : w.ownsRow B e sz (.slice a n c) n xs) : (a = none ∧ n = 0) ∨ ∃ g, a = some ⟨g, 0, none⟩ ∧ B ≤ g ∧ g < w.heap.size := by
  rcases h.2 with ⟨e, h0⟩ | ⟨g, cap, cur, e, h1, h2, _⟩
  · injection e with e1
    exact .inl ⟨e1, h0⟩
  · injection e with e1
    exact .inr ⟨g, e1, h1, lt_of_heap h2⟩
theorem string_own {w : World} {B : Nat} {a : Option Addr} {c : Nat} {l : List UInt8} (h : w.ownsRow B 5 1 (.slice a l.length c) l.length (bc l)) :
    (convert 27 9 (.slice a l.length c)).run Try.prog w = .ok (.string (strOf l)) w := by
  rcases own_form h with ⟨rfl, h0⟩ | ⟨g, rfl, _, hlt⟩
  · obtain rfl := List.eq_nil_of_length_eq_zero h0
    exact run_convert_bytes_nil w 27 5 Try.underlying27 Try.underlying5 0 c 9 Try.underlying9
  · refine string_of (strOf l) w g 0 c (fun j hj => ?_)
    have hj' : j < l.length := hj
    have := h.cells (g := g) rfl j _ (nums_at hj')
    rw [Addr.add_lit] at this
    rw [this]
    unfold bt strOf nums
    simp [List.getD_eq_getElem?_getD, List.getElem?_map, List.getElem?_eq_getElem hj']
theorem ex_bytes {w : World} {B p : Nat} (hA : Ar w B p [120, 97, 98]) :
    Calls Try.prog 53 #[.pointer (some ⟨p, 0, none⟩), .agg #[.int .i64 1, .int .i64 2]] w fun e w' => ∃ a c, e = .returned (.slice a 2 c) ∧ (convert 27 9 (.slice a 2 c)).run Try.prog w' = .ok (.string ⟨#[97, 98]⟩) w' ∧ Below w.heap.size w w' := by
  refine (abytes_of hA (by decide) 1 2).mono ?_
  rintro e w' ⟨a, c, rfl, ho, hb⟩
  exact ⟨a, c, rfl, string_own (l := [97, 98]) ho, hb⟩

end Go.Proofs.Ytmdifcgnmkpecaa
