/-
  Packs of keys; Push, at this seat's numbers.
-/
import Derived.Test.YtjmpokgdgnjojaaDoorFeB
namespace Go.Proofs.YtjmpokgdgnjojaaDoor
open Go Go.RowKit
set_option linter.unusedVariables false

theorem close_ch {w : World} {b k s r : Nat} {buf : Array Value} (ats : Array TypeId) (ty : TypeId) (h : w.heap[b]? = some (.chan k buf false s r false)) :
    (Builtin.close_ ats ty #[.chan (some b)]).run Tryd.prog w = .ok (.tuple #[]) (w.setChan b k buf true s r false) := run_close_open (P := Tryd.prog) (w := w) ats ty h

/-- What the loop of packed keeps: the channel holds the first i keys. -/
structure PkS (w0 w : World) (b : Nat) (l : List Int) (i : Nat) : Prop where
  ch : ∃ s r, w.heap[b]? = some (.chan l.length (nums (l.take i)).toArray false s r false)
  low : Below w0.heap.size w0 w
  sz : w.heap.size = w0.heap.size + 1
theorem PkS.more {w0 w : World} {b i : Nat} {l : List Int} (h : PkS w0 w b l i) (hi : i < l.length) (hb : b = w0.heap.size) {s r : Nat} :
    PkS w0 (w.setChan b l.length (nums (l.take i) ++ [Value.int .i64 l[i]]).toArray false (s + 1) r false) b l (i + 1) := by
  obtain ⟨_, _, hc⟩ := h.ch
  refine ⟨⟨s + 1, r, ?_⟩, Conc.below_setChan h.low (Nat.le_of_eq hb.symm) _ _ _ _ _ _, by rw [Conc.size_setChan]; exact h.sz⟩
  rw [Conc.heap_setChan _ _ _ _ _ _ _ _ (lt_of_heap hc)]
  rw [List.take_succ_eq_append_getElem hi, ← nums_app]
  rfl

/-- Keys as they lie, wherever that is. -/
structure Sq (w : World) (a : Option Addr) (k : Nat) (l : List Int) : Prop where
  at_ : ∀ j x, l[j]? = some x → ∃ a', a = some a' ∧ w.cell? (a'.add j) = some (.int .i64 x) ∧ (a'.add j).block < w.heap.size
  cap : l.length ≤ k
  capm : k ≤ maxLen
theorem Sl.sq {w : World} {a : Option Addr} {k : Nat} {l : List Int} (h : Sl w a k (nums l)) : Sq w a k l := by
  refine ⟨fun j x hx => ?_, by have := h.cap; rwa [nums_len] at this, h.capm⟩
  obtain ⟨g, o, rfl⟩ := h.numsome (by have := (List.getElem?_eq_some_iff.1 hx).1; omega)
  obtain ⟨h1, h2⟩ := h.num hx
  exact ⟨_, rfl, by rw [Addr.add_lit]; exact h1, by rw [Addr.add_lit]; exact h2⟩
theorem Sq.below {w w' : World} {a : Option Addr} {k : Nat} {l : List Int} (h : Sq w a k l) (hb : Below w.heap.size w w') : Sq w' a k l := by
  refine ⟨fun j x hx => ?_, h.cap, h.capm⟩
  obtain ⟨a', rfl, h1, h2⟩ := h.at_ j x hx
  exact ⟨a', rfl, by rw [hb.cell h2]; exact h1, Nat.lt_of_lt_of_le h2 hb.size⟩

end Go.Proofs.YtjmpokgdgnjojaaDoor
