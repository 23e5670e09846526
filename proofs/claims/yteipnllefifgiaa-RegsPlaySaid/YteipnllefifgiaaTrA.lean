/-
  Words for slices of things of one cell each, for layer 9.
-/
import Derived.Test.YteipnllefifgiaaArC
import Derived.Lib.AppendZeros
import Derived.Deep.RegionHeldLaw
import Derived.Deep.DeepCutAuto
import Derived.Deep.CutRange
import Derived.Deep.CutBlock
import Derived.Deep.RegionLaw
import Derived.Deep.RegionHeld3
namespace Go.Proofs.Yteipnllefifgiaa
open Go Go.RowKit
set_option linter.unusedVariables false

theorem t_al (w : World) (o : Obj) : Below w.heap.size w (w.alloc o) := (Below.refl _ w).alloc (Nat.le_refl _) o
theorem t_nil (w : World) (B : Nat) (e : TypeId) (sz : Nat) : w.ownsRow B e sz (.slice none 0 0) 0 [] := ⟨by simp, .inl ⟨rfl, rfl⟩⟩
theorem t_empty {w : World} {B g : Nat} {e : TypeId} (s : Nat) (hB : B ≤ g) (h : w.heap[g]? = some (.cells #[] e (0, 0))) : w.ownsRow B e s (.slice (some ⟨g, 0, none⟩) 0 0) 0 [] :=
  ⟨by simp, .inr ⟨g, 0, #[], rfl, hB, h, Nat.le_refl _, Nat.zero_le _, by simp, by simp⟩⟩
theorem t_form {w : World} {B sz n c : Nat} {e : TypeId} {a : Option Addr} {xs : List Value} (h : w.ownsRow B e sz (.slice a n c) n xs) : (a = none ∧ n = 0 ∧ c = 0) ∨ ∃ g, a = some ⟨g, 0, none⟩ ∧ B ≤ g ∧ g < w.heap.size ∧ n ≤ c ∧ c ≤ maxLen := by
  rcases h.2 with ⟨h1, h2⟩ | ⟨g, cap, cur, h1, hb, hg, h3, h4, _⟩
  · simp only [Value.slice.injEq] at h1
    exact .inl ⟨h1.1, by omega, h1.2.2⟩
  · simp only [Value.slice.injEq] at h1
    exact .inr ⟨g, h1.1, hb, lt_of_heap hg, by omega, by omega⟩
theorem t_rd {w : World} {B n c s : Nat} {e : TypeId} {a : Option Addr} {xs : List Value} (h : w.ownsRow B e s (.slice a n c) n xs) : Rd w s a n xs := by
  refine ⟨h.1, fun hn => ?_⟩
  rcases t_form h with ⟨_, h0, _⟩ | ⟨g, rfl, _, hlt, _⟩
  · omega
  · refine ⟨g, 0, rfl, hlt, fun j u hu => ?_⟩
    have := h.cells (g := g) rfl j u hu
    rwa [Addr.add_lit] at this

/-- A slice of things of one cell that can be read. -/
structure Sl (w : World) (a : Option Addr) (c : Nat) (xs : List Value) : Prop where
  rd : Rd w 1 a xs.length xs
  cap : xs.length ≤ c
  capm : c ≤ maxLen
  nil : a = none → c = 0
  form : ∀ d, a = some d → ∃ g o, d = ⟨g, o, none⟩
  one : ∀ u ∈ xs, u.oneCell' = true
theorem Sl.below {w w' : World} {a : Option Addr} {c : Nat} {xs : List Value} (h : Sl w a c xs) (hb : Below w.heap.size w w') : Sl w' a c xs := ⟨h.rd.below hb, h.cap, h.capm, h.nil, h.form, h.one⟩
theorem Sl.drew {w : World} {a : Option Addr} {c : Nat} {xs : List Value} (h : Sl w a c xs) : Sl w.drew a c xs := h.below (Below.refl _ _).drew
theorem Sl.none (w : World) : Sl w none 0 [] := ⟨⟨rfl, fun hn => absurd hn (by simp)⟩, Nat.le_refl _, Nat.zero_le _, fun _ => rfl, fun d hd => (by cases hd), fun u hu => by simp at hu⟩
theorem Sl.own {w : World} {B c : Nat} {e : TypeId} {a : Option Addr} {xs : List Value} (h : w.ownsRow B e 1 (.slice a xs.length c) xs.length xs) (h1 : ∀ u ∈ xs, u.oneCell' = true) : Sl w a c xs := by
  rcases t_form h with ⟨rfl, h0, rfl⟩ | ⟨g, rfl, _, hlt, h2, h3⟩
  · exact ⟨t_rd h, by omega, Nat.zero_le _, fun _ => rfl, fun d hd => (by cases hd), h1⟩
  · exact ⟨t_rd h, h2, h3, fun hn => (by cases hn), fun d hd => ⟨g, 0, by cases hd; rfl⟩, h1⟩
theorem Sl.empty {w : World} {c : Nat} {xs : List Value} (h : Sl w Option.none c xs) : xs = [] ∧ c = 0 := by
  refine ⟨?_, h.nil rfl⟩
  cases xs with
  | nil => rfl
  | cons x l => obtain ⟨g, o, h1, _⟩ := h.rd.2 (by simp); cases h1
/-- Its head. -/
theorem Sl.take {w : World} {a : Option Addr} {c : Nat} {xs : List Value} (h : Sl w a c xs) (i : Nat) : Sl w a c (xs.take i) := by
  refine ⟨⟨by simp, fun hn => ?_⟩, by have := h.cap; simp; omega, h.capm, h.nil, h.form, fun u hu => h.one u (List.mem_of_mem_take hu)⟩
  rw [List.length_take] at hn
  obtain ⟨g, o, e, hg, hc⟩ := h.rd.2 (by omega)
  refine ⟨g, o, e, hg, fun j u hj => hc j u ?_⟩
  rw [List.getElem?_take] at hj
  split at hj
  · exact hj
  · cases hj
/-- Its tail, where it has room. -/
theorem Sl.drop {w : World} {g o c : Nat} {xs : List Value} (h : Sl w (some ⟨g, o, Option.none⟩) c xs) {i : Nat} (hi : i ≤ xs.length) (b : Addr) (hb : i < xs.length → b = ⟨g, o + i, Option.none⟩) (hbf : ∃ g o, b = ⟨g, o, Option.none⟩) : Sl w (some b) (c - i) (xs.drop i) := by
  refine ⟨⟨by simp, fun hn => ?_⟩, by have := h.cap; simp; omega, by have := h.capm; omega, fun hn => (by cases hn), fun d hd => (by cases hd; exact hbf), fun u hu => h.one u (List.mem_of_mem_drop hu)⟩
  rw [List.length_drop] at hn
  obtain ⟨g', o', e, hg, hc⟩ := h.rd.2 (by omega)
  cases e
  refine ⟨g, o + i, by rw [hb (by omega)], hg, fun j u hj => ?_⟩
  rw [List.getElem?_drop] at hj
  rw [Nat.add_assoc]
  exact hc _ u hj
/-- A new block of things. -/
theorem Sl.new {w : World} {b : Nat} {T : TypeId} {fr : Nat × Nat} {xs : List Value} (h : w.heap[b]? = some (.cells xs.toArray T fr)) (hm : xs.length ≤ maxLen) (h1 : ∀ u ∈ xs, u.oneCell' = true) : Sl w (some ⟨b, 0, Option.none⟩) xs.length xs := by
  refine ⟨⟨by simp, fun hn => ⟨b, 0, rfl, lt_of_heap h, fun j u hj => ?_⟩⟩, Nat.le_refl _, hm, fun hn => (by cases hn), fun d hd => ⟨b, 0, by cases hd; rfl⟩, h1⟩
  rw [Nat.zero_add, cell_at h]; simpa using hj

/-- A slice that is a part: where, room, things. -/
abbrev PtM := Option Addr × Nat × List Value
def ptV (p : PtM) : Value := .slice p.1 p.2.2.length p.2.1
def catP (ps : List PtM) : List Value := ps.flatMap fun p => p.2.2
theorem catP_take {ps : List PtM} {k : Nat} (h : k < ps.length) : catP (ps.take (k + 1)) = catP (ps.take k) ++ ps[k].2.2 := by
  unfold catP
  rw [List.take_succ_eq_append_getElem h, List.flatMap_append]; simp
theorem catP_len {ps : List PtM} (k : Nat) : (catP (ps.take k)).length ≤ (catP ps).length := by
  have : catP ps = catP (ps.take k) ++ catP (ps.drop k) := by unfold catP; rw [← List.flatMap_append, List.take_append_drop]
  rw [this, List.length_append]; omega

end Go.Proofs.Yteipnllefifgiaa
