/-
  Numbers in memory, comparisons as function values, and rows that wait, for layer 15, at this seat's numbers.
-/
import Derived.Test.YtlglenbgaalhiaaMgP
import Derived.BigRegion
namespace Go.Proofs.Ytlglenbgaalhiaa
open Go Go.RowKit
set_option linter.unusedVariables false

def nums (l : List Int) : List Value := l.map (Value.int .i64)
theorem nums_len (l : List Int) : (nums l).length = l.length := by unfold nums; simp
theorem nums_one (l : List Int) : ∀ u ∈ nums l, u.oneCell' = true := fun v hv => by
  unfold nums at hv
  obtain ⟨x, _, rfl⟩ := List.mem_map.1 hv
  rfl
theorem nums_at {l : List Int} {k : Nat} {x : Int} (h : l[k]? = some x) : (nums l)[k]? = some (.int .i64 x) := by unfold nums; rw [List.getElem?_map, h]; rfl
theorem nums_take (l : List Int) (n : Nat) : (nums l).take n = nums (l.take n) := by unfold nums; rw [List.map_take]
theorem nums_drop (l : List Int) (n : Nat) : (nums l).drop n = nums (l.drop n) := by unfold nums; rw [List.map_drop]
theorem nums_app (l m : List Int) : nums l ++ nums m = nums (l ++ m) := by unfold nums; rw [List.map_append]
theorem nums_inj {l m : List Int} (h : nums l = nums m) : l = m := by
  unfold nums at h
  exact (List.map_inj_right (fun a b hab => by injection hab)).1 h
theorem Sl.num {w : World} {g o c : Nat} {l : List Int} (H : Sl w (some ⟨g, o, Option.none⟩) c (nums l)) {k : Nat} {x : Int} (h : l[k]? = some x) : w.cell? ⟨g, o + k, Option.none⟩ = some (.int .i64 x) ∧ g < w.heap.size := by
  have hk := (List.getElem?_eq_some_iff.1 h).1
  obtain ⟨g', o', e, hg, hc⟩ := H.rd.2 (by rw [nums_len]; omega)
  cases e
  exact ⟨hc k _ (nums_at h), hg⟩
theorem Sl.numsome {w : World} {a : Option Addr} {c : Nat} {l : List Int} (H : Sl w a c (nums l)) (h : 0 < l.length) : ∃ g o, a = Option.some ⟨g, o, Option.none⟩ := by
  obtain ⟨g', o', e, hg, hc⟩ := H.rd.2 (by rw [nums_len]; omega)
  exact ⟨g', o', e⟩

/-- A comparison as a function value: what it tells of numbers, in whatever world comes. -/
def Cv (W : World) (fv : Value) (D : Int → Prop) (c : Int → Int → Int) : Prop :=
  ∃ k cap, fv = .func (.func k) #[] cap ∧ (∀ xs w, (callFunc k xs).run Try.prog w = .ok (.enter k xs) w) ∧ ∀ w a b, Below W.heap.size W w → D a → D b → Calls Try.prog k (#[.int .i64 a, .int .i64 b] ++ cap) w fun e w' => e = .returned (.int .i64 (c a b)) ∧ Below w.heap.size w w'
theorem Cv.below {W W' : World} {fv : Value} {D : Int → Prop} {c : Int → Int → Int} (h : Cv W fv D c) (hb : Below W.heap.size W W') : Cv W' fv D c := by
  obtain ⟨k, cap, h1, h0, h2⟩ := h
  exact ⟨k, cap, h1, h0, fun w a b hw ha hb' => h2 w a b (hb.trans (hw.mono hb.size)) ha hb'⟩
theorem callf_of {f : Func} {k : Nat} (h : Try.prog.funcs[k]? = some f) (hn : ¬ f.name = "runtime.NumGoroutine") (hb : ¬ f.body = none) (xs : Array Value) (w : World) : (callFunc k xs).run Try.prog w = .ok (.enter k xs) w := by
  simp [callFunc, go_sem, h]
  rw [if_neg hn, if_neg hb]

/-- A row that can be read, in old memory; it has things, and all are such as are compared. -/
structure EntOk (W : World) (D : Int → Prop) (e : Ent) : Prop where
  rd : Sl W e.a e.c (nums e.l)
  ne : e.l ≠ []
  dom : ∀ x ∈ e.l, D x
theorem EntOk.head {W : World} {D : Int → Prop} {e : Ent} (h : EntOk W D e) : ∃ g o, e.a = some ⟨g, o, none⟩ ∧ g < W.heap.size ∧ W.cell? ⟨g, o, none⟩ = some (.int .i64 e.hd) ∧ D e.hd ∧ 0 < e.l.length := by
  obtain ⟨h1, h2, h3⟩ := h
  cases e with
  | mk a c l num =>
    cases l with
    | nil => exact absurd rfl h2
    | cons x l =>
      obtain ⟨g, o, rfl⟩ := h1.numsome (by simp)
      obtain ⟨k1, k2⟩ := h1.num (k := 0) (x := x) rfl
      exact ⟨g, o, rfl, k2, k1, h3 x (by simp), by simp⟩

theorem ok_at {W : World} {D : Int → Prop} {R : List Ent} (h : ∀ e ∈ R, EntOk W D e) {k : Nat} (hk : k < R.length) : EntOk W D (gE R k) := h _ (by
  unfold gE; rw [List.getD_eq_getElem?_getD, List.getElem?_eq_getElem hk]; exact List.getElem_mem hk)
def entC (R : List Ent) : List Value := R.flatMap fun e => [.slice e.a e.l.length e.c, .int .i64 e.num]
theorem entC_len (R : List Ent) : (entC R).length = R.length * 2 := by
  induction R with
  | nil => rfl
  | cons e R ih => unfold entC at *; rw [List.flatMap_cons, List.length_append, ih, List.length_cons]; simp; omega
theorem entC_at (R : List Ent) (i : Nat) (hi : i < R.length) : (entC R)[i * 2]? = some (.slice (gE R i).a (gE R i).l.length (gE R i).c) ∧ (entC R)[i * 2 + 1]? = some (.int .i64 (gE R i).num) := by
  induction R generalizing i with
  | nil => simp at hi
  | cons e R ih =>
    cases i with
    | zero => exact ⟨rfl, rfl⟩
    | succ i =>
      have h := ih i (by simpa using hi)
      have e1 : gE (e :: R) (i + 1) = gE R i := rfl
      rw [e1, show (i + 1) * 2 = i * 2 + 2 by omega]
      exact h

/-- Rows that wait: the box at p, of which the comparison is fv; the rows lie in memory of their own, from B on. -/
structure Hp (w : World) (B p : Nat) (fv : Value) (R : List Ent) : Prop where
  ex : ∃ a c, w.heap[p]? = some (.cells #[.slice a R.length c, fv] 44 (0, 0)) ∧ w.ownsRow B 47 2 (.slice a R.length c) R.length (entC R)
  lo : B ≤ p
theorem Hp.below {w w' : World} {B p : Nat} {fv : Value} {R : List Ent} (h : Hp w B p fv R) (hb : Below w.heap.size w w') : Hp w' B p fv R := by
  obtain ⟨⟨a, c, h1, h2⟩, h3⟩ := h
  exact ⟨⟨a, c, (hb.block p (lt_of_heap h1)).trans h1, own_below h2 hb⟩, h3⟩
theorem Hp.cells {w : World} {B p : Nat} {fv : Value} {R : List Ent} (h : Hp w B p fv R) (hne : 0 < R.length) : ∃ g c, w.cell? ⟨p, 0, none⟩ = some (.slice (some ⟨g, 0, none⟩) R.length c) ∧ w.cell? ⟨p, 1, none⟩ = some fv ∧ R.length ≤ c ∧ c ≤ maxLen ∧ p < w.heap.size ∧ g < w.heap.size ∧ g ≠ p ∧ B ≤ g ∧ w.frozen? ⟨p, 0, none⟩ = false ∧
    (∀ i, i < R.length → w.cell? ⟨g, i * 2, none⟩ = some (.slice (gE R i).a (gE R i).l.length (gE R i).c) ∧ w.cell? ⟨g, i * 2 + 1, none⟩ = some (.int .i64 (gE R i).num)) ∧ w.ownsRow B 47 2 (.slice (some ⟨g, 0, none⟩) R.length c) R.length (entC R) ∧ w.heap[p]? = some (.cells #[.slice (some ⟨g, 0, none⟩) R.length c, fv] 44 (0, 0)) := by
  obtain ⟨⟨a, c, h1, h2⟩, h3⟩ := h
  have hp := lt_of_heap h1
  rcases t_form h2 with ⟨_, h0, _⟩ | ⟨g, rfl, hB, hlt, h4, h5⟩
  · omega
  · refine ⟨g, c, by rw [cell_at h1]; rfl, by rw [cell_at h1]; rfl, h4, h5, hp, hlt, ?_, hB, unfrozen h1 0, fun i hi => ?_, h2, h1⟩
    · intro e
      exact own_ne h2 h1 (by decide) (by rw [← e]; rfl)
    · obtain ⟨e1, e2⟩ := entC_at R i hi
      have k1 := h2.cells (g := g) rfl _ _ e1
      have k2 := h2.cells (g := g) rfl _ _ e2
      rw [Addr.add_lit, Nat.zero_add] at k1 k2
      exact ⟨k1, k2⟩

/-- Two new blocks. -/
theorem two_new (w : World) (o o' : Obj) : ∃ w1, (w.alloc o).alloc o' = w1 ∧ Below w.heap.size w w1 ∧ w1.heap.size = w.heap.size + 2 ∧ w1.heap[w.heap.size]? = some o ∧ w1.heap[w.heap.size + 1]? = some o' := by
  refine ⟨_, rfl, ((Below.refl _ w).alloc (Nat.le_refl _) _).alloc (by simp) _, by simp, heap_mid _ _ _, ?_⟩
  rw [show w.heap.size + 1 = (w.alloc o).heap.size by simp]
  exact heap_alloc_new _ _

theorem Below.draws1 {w w1 : World} (h : Below w.heap.size w w1) (n : Nat) : Below w.heap.size w (w1.drewN n) := ⟨h.os, h.tape, h.output, h.size, h.block⟩

theorem hlen_of {w : World} {B p : Nat} {fv : Value} {R : List Ent} (h : Hp w B p fv R) : Calls Try.prog 28 #[.pointer (some ⟨p, 0, none⟩)] w fun e w' => e = .returned (.int .i64 R.length) ∧ w = w' := by
  obtain ⟨⟨a, c, h1, h2⟩, h3⟩ := h
  have c0 : w.cell? ⟨p, 0, none⟩ = some (.slice a R.length c) := by rw [cell_at h1]; rfl
  clear h1 h2
  go_enter Try.func28, Try.ntmps28
  go_wp2_with fail
  go_ret
  exact ⟨rfl, rfl⟩

end Go.Proofs.Ytlglenbgaalhiaa
