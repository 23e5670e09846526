/-
  Words for the arena in memory, and the contracts of its calls that write nothing, at this seat's numbers.
-/
import Derived.Test.YtmjlmciocockpaaBase
import Derived.Deep.RegionWith
import Derived.Deep.Draws
import Derived.Laws.OwnMore
import Derived.Deep.AppendLies
import Derived.Deep.Onto
namespace Go.Proofs.Ytmjlmciocockpaa
open Go Go.RowKit
set_option linter.unusedVariables false

/-- The cells of a row of bytes. -/
def bc (l : List UInt8) : List Value := l.map fun b => Value.int .u8 (b.toNat : Int)
theorem bc_len (l : List UInt8) : (bc l).length = l.length := by simp [bc]
theorem bc_one (l : List UInt8) : ∀ u ∈ bc l, u.oneCell' = true := by
  intro u hu; simp [bc] at hu; obtain ⟨b, _, rfl⟩ := hu; rfl

/-- A slice reads as a row of cells. -/
def Rd (w : World) (size : Nat) (a : Option Addr) (n : Nat) (xs : List Value) : Prop :=
  xs.length = n * size ∧ (0 < n → ∃ b off, a = some ⟨b, off, none⟩ ∧ b < w.heap.size ∧ ∀ j u, xs[j]? = some u → w.cell? ⟨b, off + j, none⟩ = some u)
theorem Rd.below {w w' : World} {size n : Nat} {a : Option Addr} {xs : List Value} (h : Rd w size a n xs) (hb : Below w.heap.size w w') : Rd w' size a n xs :=
  ⟨h.1, fun hn => by
    obtain ⟨b, off, e, hl, hc⟩ := h.2 hn
    exact ⟨b, off, e, Nat.lt_of_lt_of_le hl hb.size, fun j u hu => (hb.cell (p := ⟨b, off + j, none⟩) hl).trans (hc j u hu)⟩⟩

/-- What a call that makes memory, and turns arenas alone, leaves of older memory. -/
structure Turned (B : Nat) (w w' : World) : Prop where
  low : Below B w w'
  size : w.heap.size ≤ w'.heap.size
  rest : ∀ b, b < w.heap.size → (∀ cs, w.heap[b]? ≠ some (.cells cs 160 (0, 0))) → (∀ cs, w.heap[b]? ≠ some (.cells cs 5 (0, 0))) → w'.heap[b]? = w.heap[b]?
theorem Turned.of_below {B : Nat} {w w' : World} (h : Below w.heap.size w w') (hB : B ≤ w.heap.size) : Turned B w w' :=
  ⟨h.mono hB, h.size, fun b hb _ _ => h.block b hb⟩
theorem Turned.trans {B : Nat} {a b c : World} (h : Turned B a b) (k : Turned B b c) : Turned B a c :=
  ⟨h.low.trans k.low, Nat.le_trans h.size k.size, fun i hi h1 h2 => by
    have e := h.rest i hi h1 h2
    rw [← e]
    exact k.rest i (Nat.lt_of_lt_of_le hi h.size) (by rw [e]; exact h1) (by rw [e]; exact h2)⟩

/-- An arena's object at block p: the bytes l. -/
def Ar (w : World) (B p : Nat) (l : List UInt8) : Prop :=
  ∃ a c, B ≤ p ∧ w.heap[p]? = some (.cells #[.slice a l.length c] 160 (0, 0)) ∧ w.ownsRow B 5 1 (.slice a l.length c) l.length (bc l) ∧ l.length ≤ 16384

theorem cell_at {w : World} {p t : Nat} {cs : Array Value} {fr : Nat × Nat} (h : w.heap[p]? = some (.cells cs t fr)) (i : Nat) : w.cell? ⟨p, i, none⟩ = cs[i]? := cell_of_row w p i cs t fr h
theorem lt_of_heap {w : World} {p : Nat} {o : Obj} (h : w.heap[p]? = some o) : p < w.heap.size := by
  rcases Nat.lt_or_ge p w.heap.size with hlt | hge
  · exact hlt
  · rw [Array.getElem?_eq_none hge] at h; cases h
theorem unfrozen {w : World} {p : Nat} {t : TypeId} {cs : Array Value} (h : w.heap[p]? = some (.cells cs t (0, 0))) (i : Nat) : w.frozen? ⟨p, i, none⟩ = false := by
  simp [World.frozen?, h]

theorem Ar.below {w w' : World} {B p : Nat} {l : List UInt8} (h : Ar w B p l) (hb : Below w.heap.size w w') : Ar w' B p l := by
  obtain ⟨a, c, h1, h2, h3, h4⟩ := h
  refine ⟨a, c, h1, (hb.block p (lt_of_heap h2)).trans h2, ?_, h4⟩
  exact h3.kept (row := none) ⟨hb.os, hb.tape, hb.output, hb.size, fun k hk _ => hb.block k hk⟩ (by cases a <;> simp [Value.ownBlock])

/-- A contract of a call that reads an arena: what it is of, cell by cell. -/
theorem Ar.cell {w : World} {B p : Nat} {l : List UInt8} (h : Ar w B p l) : ∃ a c, w.cell? ⟨p, 0, none⟩ = some (.slice a l.length c) ∧ Rd w 1 a l.length (bc l) ∧ l.length ≤ c ∧ c ≤ maxLen ∧ p < w.heap.size := by
  obtain ⟨a, c, h1, h2, h3, h4⟩ := h
  have hp := lt_of_heap h2
  have hc : l.length ≤ c ∧ c ≤ maxLen := by
    rcases h3.2 with ⟨e, h0⟩ | ⟨g, cap, cur, e, _, _, h5, h6, _⟩
    · injection e with _ _ e2
      subst e2
      unfold maxLen
      omega
    · injection e with _ _ e2
      subst e2
      exact ⟨h5, h6⟩
  refine ⟨a, c, ?_, ⟨by rw [bc_len]; omega, fun hn => ?_⟩, hc.1, hc.2, hp⟩
  · rw [cell_at h2]; rfl
  · obtain ⟨g, cap, e, _, hlt⟩ := h3.form hn
    injection e with e1 _ e2
    subst e1
    refine ⟨g, 0, rfl, hlt, fun j u hu => ?_⟩
    have := h3.cells (g := g) rfl j u hu
    rwa [Addr.add_lit] at this

theorem len_nil (w : World) : Calls Try.prog 107 #[.pointer none] w fun e w' => e = .returned (.int .i64 0) ∧ w = w' := by
  go_enter Try.func107, Try.ntmps107
  go_wp2_with fail
  go_ret
  exact ⟨rfl, rfl⟩
theorem len_of {w : World} {B p : Nat} {l : List UInt8} (h : Ar w B p l) : Calls Try.prog 107 #[.pointer (some ⟨p, 0, none⟩)] w fun e w' => e = .returned (.int .i64 l.length) ∧ w = w' := by
  obtain ⟨a, c, hc, hr, h1, h2, hp⟩ := h.cell
  have HR := Lib.hid hr
  clear hr h
  go_enter Try.func107, Try.ntmps107
  go_wp2_with fail
  go_ret
  exact ⟨rfl, rfl⟩
/-- Does a span lie within so many bytes? -/
def rightB (n : Nat) (at_ m : Int) : Bool := decide (0 ≤ at_ ∧ 0 ≤ m ∧ at_ ≤ n ∧ m ≤ n - at_)
theorem below_draw1 {w w' : World} (h : Below w.heap.size w w') (n : Nat) : Below w.heap.size w (w'.drewN n) := ⟨h.os, h.tape, h.output, h.size, h.block⟩

end Go.Proofs.Ytmjlmciocockpaa
