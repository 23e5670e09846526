/-
  Texts of this seat, put together (a claim holds few texts): TrA, TgA, TgB.
-/
import Derived.Test.YtkgakgceamafcaaGreatMk1
import Derived.Lib.AppendZeros
import Derived.Deep.RegionHeldLaw
import Derived.Deep.DeepCutAuto
import Derived.Deep.CutRange
import Derived.Deep.CutBlock
import Derived.Deep.RegionLaw
import Derived.Deep.RegionHeld3
import Derived.Lib.SliceRun
import Derived.Laws.AppendOwnNone

namespace Go.Proofs.YtkgakgceamafcaaGreat
open Go Go.RowKit
set_option linter.unusedVariables false

theorem t_al (w : World) (o : Obj) : Below w.heap.size w (w.alloc o) := (Below.refl _ w).alloc (Nat.le_refl _) o
theorem t_nil (w : World) (B : Nat) (e : TypeId) (sz : Nat) : w.ownsRow B e sz (.slice none 0 0) 0 [] := ⟨by simp, .inl ⟨rfl, rfl⟩⟩
theorem t_empty {w : World} {B g : Nat} {e : TypeId} (s : Nat) (hB : B ≤ g) (h : w.heap[g]? = some (.cells #[] e (0, 0))) : w.ownsRow B e s (.slice (some ⟨g, 0, none⟩) 0 0) 0 [] :=
  ⟨by simp, .inr ⟨g, 0, #[], rfl, hB, h, Nat.le_refl _, Nat.zero_le _, by simp, by simp⟩⟩
theorem t_form {w : World} {B sz n c : Nat} {e : TypeId} {a : Option Addr} {xs : List Value} (h : w.ownsRow B e sz (.slice a n c) n xs) : (a = none ∧ n = 0 ∧ c = 0) ∨ ∃ g, a = some ⟨g, 0, none⟩ ∧ B ≤ g ∧ g < w.heap.size ∧ n ≤ c ∧ c ≤ maxLen := by
  rcases h.2 with ⟨h1, h2⟩ | ⟨g, cap, cur, h1, hb, hg, h3, h4, _⟩
  · simp only [Value.slice.injEq] at h1
    exact .inl ⟨h1.1, by omega, h1.2.2⟩
  · simp only [Value.slice.injEq] at h1
    exact .inr ⟨g, h1.1, hb, lt_of_heap hg, by omega, by omega⟩
theorem t_rd {w : World} {B n c s : Nat} {e : TypeId} {a : Option Addr} {xs : List Value} (h : w.ownsRow B e s (.slice a n c) n xs) : Rd w s a n xs := by
  refine ⟨h.1, fun hn => ?_⟩
  rcases t_form h with ⟨_, h0, _⟩ | ⟨g, rfl, _, hlt, _⟩
  · omega
  · refine ⟨g, 0, rfl, hlt, fun j u hu => ?_⟩
    have := h.cells (g := g) rfl j u hu
    rwa [Addr.add_lit] at this

/-- A slice of things of one cell that can be read. -/
structure Sl (w : World) (a : Option Addr) (c : Nat) (xs : List Value) : Prop where
  rd : Rd w 1 a xs.length xs
  cap : xs.length ≤ c
  capm : c ≤ maxLen
  nil : a = none → c = 0
  form : ∀ d, a = some d → ∃ g o, d = ⟨g, o, none⟩
  one : ∀ u ∈ xs, u.oneCell' = true
theorem Sl.below {w w' : World} {a : Option Addr} {c : Nat} {xs : List Value} (h : Sl w a c xs) (hb : Below w.heap.size w w') : Sl w' a c xs := ⟨h.rd.below hb, h.cap, h.capm, h.nil, h.form, h.one⟩
theorem Sl.drew {w : World} {a : Option Addr} {c : Nat} {xs : List Value} (h : Sl w a c xs) : Sl w.drew a c xs := h.below (Below.refl _ _).drew
theorem Sl.none (w : World) : Sl w none 0 [] := ⟨⟨rfl, fun hn => absurd hn (by simp)⟩, Nat.le_refl _, Nat.zero_le _, fun _ => rfl, fun d hd => (by cases hd), fun u hu => by simp at hu⟩
theorem Sl.own {w : World} {B c : Nat} {e : TypeId} {a : Option Addr} {xs : List Value} (h : w.ownsRow B e 1 (.slice a xs.length c) xs.length xs) (h1 : ∀ u ∈ xs, u.oneCell' = true) : Sl w a c xs := by
  rcases t_form h with ⟨rfl, h0, rfl⟩ | ⟨g, rfl, _, hlt, h2, h3⟩
  · exact ⟨t_rd h, by omega, Nat.zero_le _, fun _ => rfl, fun d hd => (by cases hd), h1⟩
  · exact ⟨t_rd h, h2, h3, fun hn => (by cases hn), fun d hd => ⟨g, 0, by cases hd; rfl⟩, h1⟩
theorem Sl.empty {w : World} {c : Nat} {xs : List Value} (h : Sl w Option.none c xs) : xs = [] ∧ c = 0 := by
  refine ⟨?_, h.nil rfl⟩
  cases xs with
  | nil => rfl
  | cons x l => obtain ⟨g, o, h1, _⟩ := h.rd.2 (by simp); cases h1
/-- Its head. -/
theorem Sl.take {w : World} {a : Option Addr} {c : Nat} {xs : List Value} (h : Sl w a c xs) (i : Nat) : Sl w a c (xs.take i) := by
  refine ⟨⟨by simp, fun hn => ?_⟩, by have := h.cap; simp; omega, h.capm, h.nil, h.form, fun u hu => h.one u (List.mem_of_mem_take hu)⟩
  rw [List.length_take] at hn
  obtain ⟨g, o, e, hg, hc⟩ := h.rd.2 (by omega)
  refine ⟨g, o, e, hg, fun j u hj => hc j u ?_⟩
  rw [List.getElem?_take] at hj
  split at hj
  · exact hj
  · cases hj
/-- Its tail, where it has room. -/
theorem Sl.drop {w : World} {g o c : Nat} {xs : List Value} (h : Sl w (some ⟨g, o, Option.none⟩) c xs) {i : Nat} (hi : i ≤ xs.length) (b : Addr) (hb : i < xs.length → b = ⟨g, o + i, Option.none⟩) (hbf : ∃ g o, b = ⟨g, o, Option.none⟩) : Sl w (some b) (c - i) (xs.drop i) := by
  refine ⟨⟨by simp, fun hn => ?_⟩, by have := h.cap; simp; omega, by have := h.capm; omega, fun hn => (by cases hn), fun d hd => (by cases hd; exact hbf), fun u hu => h.one u (List.mem_of_mem_drop hu)⟩
  rw [List.length_drop] at hn
  obtain ⟨g', o', e, hg, hc⟩ := h.rd.2 (by omega)
  cases e
  refine ⟨g, o + i, by rw [hb (by omega)], hg, fun j u hj => ?_⟩
  rw [List.getElem?_drop] at hj
  rw [Nat.add_assoc]
  exact hc _ u hj
/-- A new block of things. -/
theorem Sl.new {w : World} {b : Nat} {T : TypeId} {fr : Nat × Nat} {xs : List Value} (h : w.heap[b]? = some (.cells xs.toArray T fr)) (hm : xs.length ≤ maxLen) (h1 : ∀ u ∈ xs, u.oneCell' = true) : Sl w (some ⟨b, 0, Option.none⟩) xs.length xs := by
  refine ⟨⟨by simp, fun hn => ⟨b, 0, rfl, lt_of_heap h, fun j u hj => ?_⟩⟩, Nat.le_refl _, hm, fun hn => (by cases hn), fun d hd => ⟨b, 0, by cases hd; rfl⟩, h1⟩
  rw [Nat.zero_add, cell_at h]; simpa using hj

/-- A slice that is a part: where, room, things. -/
abbrev PtM := Option Addr × Nat × List Value
def ptV (p : PtM) : Value := .slice p.1 p.2.2.length p.2.1
def catP (ps : List PtM) : List Value := ps.flatMap fun p => p.2.2
theorem catP_take {ps : List PtM} {k : Nat} (h : k < ps.length) : catP (ps.take (k + 1)) = catP (ps.take k) ++ ps[k].2.2 := by
  unfold catP
  rw [List.take_succ_eq_append_getElem h, List.flatMap_append]; simp
theorem catP_len {ps : List PtM} (k : Nat) : (catP (ps.take k)).length ≤ (catP ps).length := by
  have : catP ps = catP (ps.take k) ++ catP (ps.drop k) := by unfold catP; rw [← List.flatMap_append, List.take_append_drop]
  rw [this, List.length_append]; omega

end Go.Proofs.YtkgakgceamafcaaGreat

namespace Go.Proofs.YtkgakgceamafcaaGreat
open Go Go.RowKit
set_option linter.unusedVariables false

/-- The cells of a thing in memory. -/
def c3 : Value → List Value
  | .agg a => a.toList
  | v => [v]
def cs3 (l : List Value) : List Value := l.flatMap c3
/-- A row of cells as a value. -/
def row3 (a : Option Addr) (n c : Nat) (e : Int) (b : Bool) : Value := .agg #[.slice a n c, .int .i64 e, .bool b]
def Is3 (v : Value) : Prop := ∃ (a : Option Addr) (n c : Nat) (e : Int) (b : Bool), v = row3 a n c e b
/-- The row of nothing. -/
def z3 : Value := row3 none 0 0 0 false
theorem z3_is : Is3 z3 := ⟨_, _, _, _, _, rfl⟩
theorem Is3.len {v : Value} (h : Is3 v) : (c3 v).length = 3 := by
  obtain ⟨a, n, c, e, b, rfl⟩ := h; rfl
theorem Is3.one {v : Value} (h : Is3 v) : ∀ u ∈ c3 v, u.oneCell' = true := by
  obtain ⟨a, n, c, e, b, rfl⟩ := h
  intro u hu
  simp only [c3, row3, List.mem_cons, List.not_mem_nil, or_false] at hu
  rcases hu with rfl | rfl | rfl <;> rfl
theorem Is3.nil {v : Value} (h : Is3 v) : v ≠ Value.pointer none := by
  obtain ⟨a, n, c, e, b, rfl⟩ := h
  intro hh; cases hh
theorem Is3.nilc {v : Value} (h : Is3 v) : ∀ u ∈ c3 v, u ≠ Value.pointer none := by
  obtain ⟨a, n, c, e, b, rfl⟩ := h
  intro u hu
  simp only [c3, row3, List.mem_cons, List.not_mem_nil, or_false] at hu
  rcases hu with rfl | rfl | rfl <;> (intro hh; cases hh)
theorem cs3_nil : cs3 [] = [] := rfl
theorem cs3_cons (v : Value) (l : List Value) : cs3 (v :: l) = c3 v ++ cs3 l := by unfold cs3; rw [List.flatMap_cons]
theorem cs3_app (a b : List Value) : cs3 (a ++ b) = cs3 a ++ cs3 b := by unfold cs3; rw [List.flatMap_append]
theorem cs3_len : ∀ {l : List Value}, (∀ u ∈ l, Is3 u) → (cs3 l).length = l.length * 3
  | [], _ => rfl
  | v :: l, h => by
    rw [cs3_cons, List.length_append, (h v List.mem_cons_self).len, cs3_len (fun u hu => h u (List.mem_cons_of_mem _ hu)), List.length_cons]; omega
theorem cs3_one {l : List Value} (h : ∀ u ∈ l, Is3 u) : ∀ u ∈ cs3 l, u.oneCell' = true := by
  intro u hu
  obtain ⟨v, hv, hu⟩ := List.mem_flatMap.1 hu
  exact (h v hv).one u hu
theorem cs3_nilc {l : List Value} (h : ∀ u ∈ l, Is3 u) : ∀ u ∈ cs3 l, u ≠ Value.pointer none := by
  intro u hu
  obtain ⟨v, hv, hu⟩ := List.mem_flatMap.1 hu
  exact (h v hv).nilc u hu
theorem is3_take {l : List Value} (h : ∀ u ∈ l, Is3 u) (k : Nat) : ∀ u ∈ l.take k, Is3 u := fun u hu => h u (List.mem_of_mem_take hu)
theorem is3_drop {l : List Value} (h : ∀ u ∈ l, Is3 u) (k : Nat) : ∀ u ∈ l.drop k, Is3 u := fun u hu => h u (List.mem_of_mem_drop hu)
theorem is3_app {l m : List Value} (h : ∀ u ∈ l, Is3 u) (h' : ∀ u ∈ m, Is3 u) : ∀ u ∈ l ++ m, Is3 u := fun u hu => (List.mem_append.1 hu).elim (h u) (h' u)
theorem is3_set {l : List Value} (h : ∀ u ∈ l, Is3 u) {v : Value} (hv : Is3 v) (k : Nat) : ∀ u ∈ l.set k v, Is3 u := fun u hu => (List.mem_or_eq_of_mem_set hu).elim (h u) (fun e => e ▸ hv)
theorem cs3_take {l : List Value} (h : ∀ u ∈ l, Is3 u) (k : Nat) : cs3 (l.take k) = (cs3 l).take (k * 3) := by
  induction l generalizing k with
  | nil => simp [cs3_nil]
  | cons v l ih =>
    cases k with
    | zero => simp [cs3_nil]
    | succ k =>
      have hv := (h v List.mem_cons_self).len
      rw [List.take_succ_cons, cs3_cons, cs3_cons, ih (fun u hu => h u (List.mem_cons_of_mem _ hu)), List.take_append, hv, show (k + 1) * 3 - 3 = k * 3 by omega, show (c3 v).take ((k + 1) * 3) = c3 v from List.take_of_length_le (by rw [hv]; omega)]
theorem cs3_drop {l : List Value} (h : ∀ u ∈ l, Is3 u) (k : Nat) : cs3 (l.drop k) = (cs3 l).drop (k * 3) := by
  induction l generalizing k with
  | nil => simp [cs3_nil]
  | cons v l ih =>
    cases k with
    | zero => simp
    | succ k =>
      have hv := (h v List.mem_cons_self).len
      rw [List.drop_succ_cons, cs3_cons, ih (fun u hu => h u (List.mem_cons_of_mem _ hu)), List.drop_append, hv, show (k + 1) * 3 - 3 = k * 3 by omega, show (c3 v).drop ((k + 1) * 3) = [] from List.drop_of_length_le (by rw [hv]; omega), List.nil_append]
theorem cs3_at {l : List Value} (h : ∀ u ∈ l, Is3 u) {k j : Nat} {v : Value} (hv : l[k]? = some v) (hj : j < 3) : (cs3 l)[k * 3 + j]? = (c3 v)[j]? := by
  have hk := (List.getElem?_eq_some_iff.1 hv).1
  have h3 : Is3 v := h v (List.mem_of_getElem? hv)
  have e1 : (cs3 (l.drop k))[j]? = (cs3 l)[k * 3 + j]? := by rw [cs3_drop h, List.getElem?_drop]
  rw [← e1, List.drop_eq_getElem_cons hk, cs3_cons, (List.getElem?_eq_some_iff.1 hv).2, List.getElem?_append_left (by rw [h3.len]; exact hj)]

/-- A slice of rows that can be read. -/
structure S3 (w : World) (a : Option Addr) (c : Nat) (xs : List Value) : Prop where
  rd : Rd w 3 a xs.length (cs3 xs)
  cap : xs.length ≤ c
  capm : c ≤ maxLen
  nil : a = none → c = 0
  form : ∀ d, a = some d → ∃ g o, d = ⟨g, o, none⟩
  one : ∀ u ∈ xs, Is3 u
theorem S3.below {w w' : World} {a : Option Addr} {c : Nat} {xs : List Value} (h : S3 w a c xs) (hb : Below w.heap.size w w') : S3 w' a c xs := ⟨h.rd.below hb, h.cap, h.capm, h.nil, h.form, h.one⟩
theorem S3.drew {w : World} {a : Option Addr} {c : Nat} {xs : List Value} (h : S3 w a c xs) : S3 w.drew a c xs := h.below (Below.refl _ _).drew
theorem S3.none (w : World) : S3 w none 0 [] := ⟨⟨rfl, fun hn => absurd hn (by simp)⟩, Nat.le_refl _, Nat.zero_le _, fun _ => rfl, fun d hd => (by cases hd), fun u hu => by simp at hu⟩
theorem S3.own {w : World} {B c : Nat} {e : TypeId} {a : Option Addr} {xs : List Value} (h : w.ownsRow B e 3 (.slice a xs.length c) xs.length (cs3 xs)) (h1 : ∀ u ∈ xs, Is3 u) : S3 w a c xs := by
  rcases t_form h with ⟨rfl, h0, rfl⟩ | ⟨g, rfl, _, hlt, h2, h3⟩
  · exact ⟨t_rd h, by omega, Nat.zero_le _, fun _ => rfl, fun d hd => (by cases hd), h1⟩
  · exact ⟨t_rd h, h2, h3, fun hn => (by cases hn), fun d hd => ⟨g, 0, by cases hd; rfl⟩, h1⟩
theorem S3.empty {w : World} {c : Nat} {xs : List Value} (h : S3 w Option.none c xs) : xs = [] ∧ c = 0 := by
  refine ⟨?_, h.nil rfl⟩
  cases xs with
  | nil => rfl
  | cons x l => obtain ⟨g, o, h1, _⟩ := h.rd.2 (by simp); cases h1
/-- Its head. -/
theorem S3.take {w : World} {a : Option Addr} {c : Nat} {xs : List Value} (h : S3 w a c xs) (i : Nat) : S3 w a c (xs.take i) := by
  refine ⟨⟨cs3_len (is3_take h.one i), fun hn => ?_⟩, by have := h.cap; simp; omega, h.capm, h.nil, h.form, is3_take h.one i⟩
  rw [List.length_take] at hn
  obtain ⟨g, o, e, hg, hc⟩ := h.rd.2 (by omega)
  refine ⟨g, o, e, hg, fun j u hj => hc j u ?_⟩
  rw [cs3_take h.one, List.getElem?_take] at hj
  split at hj
  · exact hj
  · cases hj
/-- Its tail, where it has room. -/
theorem S3.drop {w : World} {g o c : Nat} {xs : List Value} (h : S3 w (some ⟨g, o, Option.none⟩) c xs) {i : Nat} (hi : i ≤ xs.length) (b : Addr) (hb : i < xs.length → b = ⟨g, o + i * 3, Option.none⟩) (hbf : ∃ g o, b = ⟨g, o, Option.none⟩) : S3 w (some b) (c - i) (xs.drop i) := by
  refine ⟨⟨cs3_len (is3_drop h.one i), fun hn => ?_⟩, by have := h.cap; simp; omega, by have := h.capm; omega, fun hn => (by cases hn), fun d hd => (by cases hd; exact hbf), is3_drop h.one i⟩
  rw [List.length_drop] at hn
  obtain ⟨g', o', e, hg, hc⟩ := h.rd.2 (by omega)
  cases e
  refine ⟨g, o + i * 3, by rw [hb (by omega)], hg, fun j u hj => ?_⟩
  rw [cs3_drop h.one, List.getElem?_drop] at hj
  rw [Nat.add_assoc]
  exact hc _ u hj
/-- A new block of things. -/
theorem S3.new {w : World} {b : Nat} {T : TypeId} {fr : Nat × Nat} {xs : List Value} (h : w.heap[b]? = some (.cells (cs3 xs).toArray T fr)) (hm : xs.length ≤ maxLen) (h1 : ∀ u ∈ xs, Is3 u) : S3 w (some ⟨b, 0, Option.none⟩) xs.length xs := by
  refine ⟨⟨cs3_len h1, fun hn => ⟨b, 0, rfl, lt_of_heap h, fun j u hj => ?_⟩⟩, Nat.le_refl _, hm, fun hn => (by cases hn), fun d hd => ⟨b, 0, by cases hd; rfl⟩, h1⟩
  rw [Nat.zero_add, cell_at h]; simpa using hj
theorem S3.set {w : World} {a : Option Addr} {c p o : Nat} {u : Value} {xs : List Value} (h : S3 w a c xs) (hp : ∀ d, a = some d → d.block ≠ p) : S3 (w.setCell ⟨p, o, Option.none⟩ u) a c xs := by
  refine ⟨⟨h.rd.1, fun hn => ?_⟩, h.cap, h.capm, h.nil, h.form, h.one⟩
  obtain ⟨g, off, rfl, hlt, hc⟩ := h.rd.2 hn
  refine ⟨g, off, rfl, by rw [size_set]; exact hlt, fun j x hj => ?_⟩
  rw [World.cell?_of_block (w := w) (w' := w.setCell ⟨p, o, Option.none⟩ u) (a := ⟨g, off + j, Option.none⟩) (heap_set_other (hp ⟨g, off, Option.none⟩ rfl))]
  exact hc j x hj
theorem S3.setNil {w : World} {a : Option Addr} {c p TT : Nat} {u : Value} {xs : List Value} (h : S3 w a c xs) (hp : w.heap[p]? = some (.cells #[Value.pointer Option.none] TT (0, 0))) : S3 (w.setCell ⟨p, 0, Option.none⟩ u) a c xs := by
  refine ⟨⟨h.rd.1, fun hn => ?_⟩, h.cap, h.capm, h.nil, h.form, h.one⟩
  obtain ⟨g, off, rfl, hlt, hc⟩ := h.rd.2 hn
  have hln := cs3_len h.one
  have hg : g ≠ p := by
    rintro rfl
    have hpos : 0 < (cs3 xs).length := by omega
    have h0 := hc 0 _ (List.getElem?_eq_getElem hpos)
    rw [cell_at hp] at h0
    have h1 : off + 0 < 1 := by
      have := (Array.getElem?_eq_some_iff.1 h0).1
      simpa using this
    have h2 : off = 0 := by omega
    subst h2
    exact cs3_nilc h.one _ (List.getElem_mem hpos) (Option.some.inj h0).symm
  refine ⟨g, off, rfl, by rw [size_set]; exact hlt, fun j x hj => ?_⟩
  rw [World.cell?_of_block (w := w) (w' := w.setCell ⟨p, 0, Option.none⟩ u) (a := ⟨g, off + j, Option.none⟩) (heap_set_other hg)]
  exact hc j x hj
/-- Its k-th row, cell by cell. -/
theorem S3.at {w : World} {a : Option Addr} {c k : Nat} {xs : List Value} {v : Value} (h : S3 w a c xs) (hv : xs[k]? = some v) :
    ∃ (g o : Nat) (a' : Option Addr) (n' c' : Nat) (e : Int) (b : Bool), a = some ⟨g, o, Option.none⟩ ∧ g < w.heap.size ∧ v = row3 a' n' c' e b ∧ w.cell? ⟨g, o + k * 3, Option.none⟩ = some (.slice a' n' c') ∧ w.cell? ⟨g, o + k * 3 + 1, Option.none⟩ = some (.int .i64 e) ∧ w.cell? ⟨g, o + k * 3 + 2, Option.none⟩ = some (.bool b) := by
  have hk := (List.getElem?_eq_some_iff.1 hv).1
  obtain ⟨g, o, e, hg, hc⟩ := h.rd.2 (by omega)
  obtain ⟨a', n', c', en, b, hv3⟩ := h.one v (List.mem_of_getElem? hv)
  subst hv3
  have hh := fun (j : Nat) (u : Value) (hj : j < 3) (hu : (c3 (row3 a' n' c' en b))[j]? = some u) => hc (k * 3 + j) u ((cs3_at h.one hv hj).trans hu)
  have h0 := hh 0 _ (by omega) rfl
  have h1 := hh 1 _ (by omega) rfl
  have h2 := hh 2 _ (by omega) rfl
  exact ⟨g, o, a', n', c', en, b, e, hg, rfl, h0, by rw [Nat.add_assoc]; exact h1, by rw [Nat.add_assoc]; exact h2⟩

/-- The types of the blocks in which nodes keep their lists. -/
def okT (t : TypeId) : Prop := t = 103 ∨ t = 23
/-- A block of such a type. -/
def TyAt (w : World) (b : Nat) : Prop := ∃ cs t fr, w.heap[b]? = some (.cells cs t fr) ∧ okT t
theorem TyAt.below {w w' : World} {b : Nat} (h : TyAt w b) (hb : Below w.heap.size w w') : TyAt w' b := by
  obtain ⟨cs, t, fr, h1, h2⟩ := h
  exact ⟨cs, t, fr, (hb.block b (by
    rcases Nat.lt_or_ge b w.heap.size with hlt | hge
    · exact hlt
    · rw [Array.getElem?_eq_none hge] at h1; cases h1)).trans h1, h2⟩
theorem TyAt.set {w : World} {b p o : Nat} {u : Value} (h : TyAt w b) : TyAt (w.setCell ⟨p, o, Option.none⟩ u) b := by
  obtain ⟨cs, t, fr, h1, h2⟩ := h
  by_cases e : b = p
  · subst e
    exact ⟨_, t, fr, heap_set_at h1, h2⟩
  · exact ⟨cs, t, fr, (heap_set_other e).trans h1, h2⟩
theorem TyAt.own {w : World} {B n c s : Nat} {e : TypeId} {d : Addr} {xs : List Value} (h : w.ownsRow B e s (.slice (some d) n c) n xs) (he : okT e) : TyAt w d.block := by
  rcases h.2 with ⟨h1, _⟩ | ⟨g, cap, cur, h1, _, hg, _⟩
  · cases h1
  · simp only [Value.slice.injEq, Option.some.injEq] at h1
    obtain ⟨rfl, _⟩ := h1
    exact ⟨cur, e, (0, 0), hg, he⟩
theorem TyAt.grown {w w' : World} {b : Nat} {row : Option Nat} (h : TyAt w b) (hg : w.grownBy w' row) (hr : row ≠ some b) : TyAt w' b := by
  obtain ⟨cs, t, fr, h1, h2⟩ := h
  have hb : b < w.heap.size := by
    rcases Nat.lt_or_ge b w.heap.size with hlt | hge
    · exact hlt
    · rw [Array.getElem?_eq_none hge] at h1; cases h1
  exact ⟨cs, t, fr, (hg.block b hb (fun e => hr e.symm)).trans h1, h2⟩

theorem cs3_catP (ps : List PtM) : cs3 (catP ps) = ps.flatMap fun p => cs3 p.2.2 := by
  unfold catP
  induction ps with
  | nil => rfl
  | cons p ps ih => rw [List.flatMap_cons, List.flatMap_cons, cs3_app, ih]

end Go.Proofs.YtkgakgceamafcaaGreat

namespace Go.Proofs.YtkgakgceamafcaaGreat
open Go Go.RowKit
set_option linter.unusedVariables false

theorem info_r3 : (Tryz.prog.info? 103).map (fun i => (i.zero, i.size, i.bytes)) = some (some (.agg #[.slice none 0 0, .int .i64 0, .bool false]), 3, 40) := by kernel_rfl

set_option maxRecDepth 100000 in
theorem clone_row {w : World} {a : Option Addr} {c : Nat} {xs : List Value} (h : S3 w a c xs) (hl : xs.length ≤ 1000000) :
    Calls Tryz.prog 149 #[.slice a xs.length c] w fun e w' => ∃ a' c', e = .returned (.slice a' xs.length c') ∧ S3 w' a' c' xs ∧ (∀ d, a' = some d → w.heap.size ≤ d.block ∧ TyAt w' d.block) ∧ Below w.heap.size w w' := by
  obtain ⟨i0, hi0, hz0, hz1, hz2⟩ := info_parts info_r3
  have H := Lib.hid h
  rcases a with _ | d
  · obtain ⟨rfl, rfl⟩ := h.empty
    clear h
    have hq : ∀ w, (binOp .eql 98 (.slice none 0 0) (.slice none 0 0)).run Tryz.prog w = .ok (.bool true) w := fun w => Go.Lib.run_eql_slice_nil w _ _ _ _ _ _ _ Tryz.underlying98
    rw [List.length_nil]
    go_enter Tryz.func149, Tryz.ntmps149
    go_wp2_with fail
    go_ret
    exact ⟨none, 0, rfl, S3.none _, fun d hd => (by cases hd), Below.refl _ _⟩
  · obtain ⟨g, off, rfl⟩ := h.form d rfl
    have al := t_al w (Obj.cells #[] 103)
    have HE := Lib.hid (t_empty (B := w.heap.size) 3 (Nat.le_refl _) (heap_alloc_new w (Obj.cells #[] 103)))
    have HB := Lib.hid al
    have HL := Lib.hid hl
    obtain ⟨n, hn⟩ : ∃ n, xs.length = n := ⟨_, rfl⟩
    have HN := Lib.hid hn
    have hq : ∀ w, (binOp .eql 98 (.slice (some ⟨g, off, none⟩) n c) (.slice none 0 0)).run Tryz.prog w = .ok (.bool false) w := fun w => Go.Lib.run_eql_slice_nil w _ _ _ _ _ _ _ Tryz.underlying98
    rw [hn] at hl ⊢
    clear h al hn
    go_enter Tryz.func149, Tryz.ntmps149
    go_wp2_with (first
      | (at_builtin; refine wpList_append_own _ rfl (.tmp 5) (.tmp 6) 98 rfl w.heap.size 103 i0 (.agg #[.slice none 0 0, .int .i64 0, .bool false]) 3 40 Tryz.underlying98 hi0 hz0 hz1 hz2 rfl (by decide) (.slice (some ⟨w.heap.size, 0, none⟩) 0 0) 0 [] rfl HE.out ⟨g, off, none⟩ n c (cs3 xs) rfl ?c0 ?c1 (cs3_one H.out.one) ?c3 ?c4 ?c5 ?_)
      | fail)
    case c0 => rw [cs3_len H.out.one, HN.out]
    case c1 =>
      intro j u hj
      have hp := (List.getElem?_eq_some_iff.1 hj).1
      rw [cs3_len H.out.one] at hp
      obtain ⟨g', o', e', hg, hc⟩ := H.out.rd.2 (by omega)
      cases e'
      rw [Addr.add_lit]
      exact (HB.out.cell (p := ⟨g, off + j, none⟩) hg).trans (hc j u hj)
    case c3 => unfold maxLen; omega
    case c4 => omega
    case c5 => simp only [World.size_alloc]; omega
    intro v7 wB ho7 hg7 _
    have hbb := HB.out.grown hg7 (by simp only [World.size_alloc]; omega) (fun q hq => (HE.out.lt q hq).1)
    obtain ⟨a7, c7, rfl⟩ : ∃ a7 c7, v7 = .slice a7 n c7 := by
      rcases ho7.2 with ⟨h1, h2⟩ | ⟨g, cap, cur, h1, _⟩
      · exact ⟨none, 0, by rw [h1, h2]⟩
      · exact ⟨_, _, h1⟩
    have HO7 := Lib.hid ho7
    have HBB := Lib.hid hbb
    clear ho7 hg7 hbb
    go_wp2_with fail
    go_ret
    have hq7 := HO7.out
    rw [← HN.out] at hq7
    refine ⟨a7, c7, rfl, S3.own hq7 H.out.one, fun d hd => ?_, HBB.out⟩
    rcases t_form hq7 with ⟨h1, _⟩ | ⟨g7, h1, h2, _⟩
    · rw [h1] at hd; cases hd
    · rw [h1] at hd; cases hd; exact ⟨h2, by rw [h1] at hq7; exact TyAt.own hq7 (by unfold okT; simp)⟩

/-- Grow of nil: a row of one's own with room. -/
theorem grow_row (w : World) (n : Nat) (hn : n ≤ 1000000) :
    Calls Tryz.prog 211 #[.slice none 0 0, .int .i64 n] w fun e w' => ∃ a c, e = .returned (.slice a 0 c) ∧ w'.ownsRow w.heap.size 103 3 (.slice a 0 c) 0 [] ∧ Below w.heap.size w w' := by
  obtain ⟨i0, hi0, hz0, hz1, hz2⟩ := info_parts info_r3
  have d0 : decide ((n : Int) < 0) = false := decide_eq_false (by omega)
  have hw0 : IntKind.i64.wrap ((n : Int) - 0) = (n : Int) := by rw [IntKind.wrap_i64]; omega
  go_enter Tryz.func211, Tryz.ntmps211
  by_cases h : 0 < n
  · have d1 : decide ((0 : Int) < (n : Int)) = true := decide_eq_true (by omega)
    have d1' : decide (0 < n) = true := decide_eq_true h
    have HRUN := Lib.hid (fun ty => Lib.run_append_nil_zeros (P := Tryz.prog) w 98 3 ty 103 i0 (.agg #[.slice none 0 0, .int .i64 0, .bool false]) .i64 .i64 Tryz.underlying98 Tryz.underlying3 hi0 hz0 n h (by rw [hz1]; omega) (by omega) (by rw [hz2]; omega))
    have hge := grownCap_ge w n 0 103
    have hle := grownCap_le_maxLen w n 0 103 (by unfold maxLen; omega)
    go_wp2_with (first
      | (at_builtin; refine Lib.wpList_append_run _ rfl (.tmp 20) (.tmp 21) _ _ rfl (.slice none 0 0) (.int .i64 n) rfl rfl _ _ (HRUN.out _) ?_)
      | fail)
    generalize grownCap w n 0 103 = cap at *
    have hown : ∀ Z : Array Value, Z.size = cap * 3 → ((w.alloc (.cells Z 103)).drew).ownsRow w.heap.size 103 3 (.slice (some ⟨w.heap.size, 0, none⟩) 0 cap) 0 [] :=
      fun Z hZs => ⟨rfl, .inr ⟨w.heap.size, cap, Z, rfl, Nat.le_refl _, heap_alloc_new w _, Nat.zero_le _, hle, hZs, by simp⟩⟩
    go_ret
    exact ⟨_, _, rfl, hown _ (by simp [Builtin.zeroCells]; omega), ((Below.refl _ w).alloc (Nat.le_refl _) _).drew⟩
  · obtain rfl : n = 0 := by omega
    go_wp2_with fail
    go_ret
    exact ⟨none, 0, rfl, t_nil _ _ _ _, Below.refl _ _⟩

set_option maxRecDepth 100000 in
set_option maxHeartbeats 4000000 in
theorem concat_row {w : World} {b cc : Nat} {ps : List PtM} (hb : b < w.heap.size) (hc : ∀ k (h : k < ps.length), w.cell? ⟨b, k, none⟩ = some (ptV ps[k])) (hr : ∀ p ∈ ps, S3 w p.1 p.2.1 p.2.2) (hn : (catP ps).length ≤ 1000000) (hl : ps.length ≤ 10) :
    Calls Tryz.prog 202 #[.slice (some ⟨b, 0, none⟩) ps.length cc] w fun e w' => ∃ a c, e = .returned (.slice a (catP ps).length c) ∧ S3 w' a c (catP ps) ∧ Below w.heap.size w w' := by
  obtain ⟨i0, hi0, hz0, hz1, hz2⟩ := info_parts info_r3
  have HC := Lib.hid hc
  have HR := Lib.hid hr
  have HLN := Lib.hid (fun k => Nat.le_trans (catP_len (ps := ps) k) hn)
  have HG := Lib.hid (fun w' => grow_row w' (catP ps).length hn)
  clear hc hr
  obtain ⟨m, hm⟩ : ∃ m, ps.length = m := ⟨_, rfl⟩
  have HM := Lib.hid hm
  rw [hm] at hl ⊢
  clear hm
  go_enter Tryz.func202, Tryz.ntmps202
  go_wp2_with fail
  go_loopw [3, 11] (fun v3 v11 wr => ∃ k : Nat, k ≤ m ∧ v11 = .int .i64 k ∧ v3 = .int .i64 (catP (ps.take k)).length ∧ wr = w) (fun _ i _ => m - (intOf i).toNat)
  case atStart => exact ⟨0, by omega, rfl, by simp [catP], rfl⟩
  case round =>
    obtain ⟨k, hk, rfl, rfl, hww⟩ := hrel
    have hww2 := hww.symm
    subst hww2
    clear hww
    have hln := HLN.out k
    by_cases hlt : k < m
    · have dk : decide (k < m) = true := decide_eq_true hlt
      have hkp : k < ps.length := by rw [HM.out]; exact hlt
      have c0 := HC.out k hkp
      unfold ptV at c0
      have hst : (catP (ps.take k)).length + ps[k].2.2.length = (catP (ps.take (k + 1))).length := by rw [catP_take hkp, List.length_append]
      have HST := Lib.hid hst
      have hln2 := HLN.out (k + 1)
      rw [← hst] at hln2
      clear hst
      generalize ps[k].2.2.length = q at *
      generalize hN0 : (catP (ps.take k)).length = N0 at *
      have hw0 : IntKind.i64.wrap ((N0 : Int) + (q : Int)) = ((N0 + q : Nat) : Int) := by rw [IntKind.wrap_i64]; omega
      have d0 : decide ((N0 : Int) + (q : Int) < 0) = false := decide_eq_false (by omega)
      have d0' : decide (((N0 + q : Nat) : Int) < 0) = false := decide_eq_false (by omega)
      have e0 : (0 : Int) ≤ (k : Int) := by omega
      have e1 : (k : Int) < (m : Int) := by omega
      go_wp2_with fail
      go_roundw
      case rel => exact ⟨k + 1, hlt, by go_num, by rw [← HST.out]; go_num, by simp⟩
      case measure => simp [intOf]; omega
    · have dk : decide (k < m) = false := decide_eq_false hlt
      have hkm : k = m := by omega
      have htk : ps.take k = ps := by rw [hkm, ← HM.out]; exact List.take_length
      rw [htk]
      generalize hNN : (catP ps).length = N at *
      go_wp2_with fail
      refine (HG.out _).mono ?_; rintro e w1 ⟨a6, c6, rfl, ho6, hb6⟩
      have HO6 := Lib.hid ho6
      have HB6 := Lib.hid hb6
      have HNN := Lib.hid hNN
      clear ho6 hb6 HG hNN htk
      go_wp2_with fail
      go_loopw [6, 27] (fun v6 v27 wz => ∃ (k2 n2 : Nat) (a2 : Option Addr) (c2 : Nat) (xs : List Value), k2 ≤ m ∧ v27 = .int .i64 k2 ∧ v6 = .slice a2 n2 c2 ∧ n2 = (catP (ps.take k2)).length ∧ xs = cs3 (catP (ps.take k2)) ∧ wz.ownsRow w.heap.size 103 3 (.slice a2 n2 c2) n2 xs ∧ Below w.heap.size w wz) (fun _ i _ => m - (intOf i).toNat)
      case atStart => exact ⟨0, 0, a6, c6, [], by omega, rfl, rfl, by simp [catP], by simp [catP, cs3], HO6.out, HB6.out⟩
      case round =>
        obtain ⟨k2, n2, a2, c2, xs, hk2, rfl, rfl, hn2, hxs, ho, hbb⟩ := hrel
        have HO := Lib.hid ho
        have HB := Lib.hid hbb
        have hzz := hbb.size
        have HN2 := Lib.hid hn2
        have HXS := Lib.hid hxs
        have hln2 := HLN.out k2
        rw [← hn2] at hln2
        by_cases hlt2 : k2 < m
        · have dk2 : decide (k2 < m) = true := decide_eq_true hlt2
          have hkp : k2 < ps.length := by rw [HM.out]; exact hlt2
          have c0 := (hbb.cell (p := ⟨b, k2, none⟩) hb).trans (HC.out k2 hkp)
          unfold ptV at c0
          have hrd := (HR.out ps[k2] (List.getElem_mem hkp)).below hbb
          have hsn : n2 + ps[k2].2.2.length = (catP (ps.take (k2 + 1))).length := by rw [catP_take hkp, List.length_append, ← hn2]
          have hsx : xs ++ cs3 ps[k2].2.2 = cs3 (catP (ps.take (k2 + 1))) := by rw [catP_take hkp, cs3_app, ← hxs]
          have hln3 := HLN.out (k2 + 1)
          rw [← hsn] at hln3
          have HSN := Lib.hid hsn
          have HSX := Lib.hid hsx
          have HRD := Lib.hid hrd
          clear hsn hsx ho hbb hn2 hxs hrd
          generalize ps[k2].1 = ap at *
          generalize ps[k2].2.1 = cp at *
          generalize ps[k2].2.2 = Mp at *
          have e0 : (0 : Int) ≤ (k2 : Int) := by omega
          have e1 : (k2 : Int) < (m : Int) := by omega
          rcases ap with _ | ad
          · obtain ⟨hm0, hcp⟩ := HRD.out.empty
            subst hcp hm0
            have HSX2 : Hid (xs = cs3 (catP (ps.take (k2 + 1)))) := by have := HSX.out; rw [cs3_nil, List.append_nil] at this; exact Lib.hid this
            have HSN2 : Hid (n2 = (catP (ps.take (k2 + 1))).length) := by have := HSN.out; rw [List.length_nil, Nat.add_zero] at this; exact Lib.hid this
            clear HSX HSN
            rw [List.length_nil] at c0
            go_wp2_with (first
              | (at_builtin; refine wpList_append_own_none rfl (.tmp 31) (.tmp 32) 98 rfl w.heap.size 103 i0 3 Tryz.underlying98 hi0 (.slice a2 n2 c2) n2 xs rfl HO.out rfl ?_)
              | fail)
            go_wp2_with fail
            go_roundw
            case rel => exact ⟨k2 + 1, n2, a2, c2, xs, hlt2, by go_num, rfl, HSN2.out, HSX2.out, HO.out, HB.out⟩
            case measure => simp [intOf]; omega
          · have C1 : Hid (∀ j u, (cs3 Mp)[j]? = some u → wr.cell? (ad.add j) = some u) := by
              refine Lib.hid (fun j u hj => ?_)
              have hpos : 0 < Mp.length := by
                have h1 := (List.getElem?_eq_some_iff.1 hj).1
                rw [cs3_len HRD.out.one] at h1
                omega
              obtain ⟨g, o, h, _, h2⟩ := HRD.out.rd.2 hpos
              cases h
              rw [Addr.add_lit]
              exact h2 j u hj
            generalize hMl : Mp.length = q at *
            have HML := Lib.hid hMl
            clear hMl
            go_wp2_with (first
              | (at_builtin; refine wpList_append_own _ rfl (.tmp 31) (.tmp 32) 98 rfl w.heap.size 103 i0 (.agg #[.slice none 0 0, .int .i64 0, .bool false]) 3 40 Tryz.underlying98 hi0 hz0 hz1 hz2 rfl (by decide) (.slice a2 n2 c2) n2 xs rfl HO.out ad q cp (cs3 Mp) rfl ?c0 C1.out (cs3_one HRD.out.one) ?c3 ?c4 ?c5 ?_)
              | fail)
            case c0 => rw [cs3_len HRD.out.one, HML.out]
            case c3 => unfold maxLen; omega
            case c4 => omega
            case c5 => omega
            intro v7 wB ho7 hg7 _
            have hb7 := HB.out.grown hg7 hzz (fun q hq => (HO.out.lt q hq).1)
            obtain ⟨a7, c7, rfl⟩ : ∃ a7 c7, v7 = .slice a7 (n2 + q) c7 := by
              rcases ho7.2 with ⟨h1, h2⟩ | ⟨g, cap, cur, h1, _⟩
              · exact ⟨none, 0, by rw [h1, h2]⟩
              · exact ⟨_, _, h1⟩
            have HO7 := Lib.hid ho7
            have HB7 := Lib.hid hb7
            clear ho7 hg7 hb7
            go_wp2_with fail
            go_roundw
            case rel => exact ⟨k2 + 1, n2 + q, a7, c7, xs ++ cs3 Mp, hlt2, by go_num, rfl, HSN.out, HSX.out, HO7.out, HB7.out⟩
            case measure => simp [intOf]; omega
        · have dk2 : decide (k2 < m) = false := decide_eq_false hlt2
          have hkm2 : k2 = m := by omega
          have htk : ps.take k2 = ps := by rw [hkm2, ← HM.out]; exact List.take_length
          rw [htk] at hn2 hxs
          have HF : Hid (wr.ownsRow w.heap.size 103 3 (.slice a2 N c2) N (cs3 (catP ps))) := by rw [← HNN.out, ← hn2, ← hxs]; exact Lib.hid ho
          have hnN : n2 = N := by rw [hn2]; exact HNN.out
          subst hnN
          clear ho hbb hxs hn2
          go_wp2_with fail
          go_ret
          have hcl := HF.out
          rw [← HNN.out] at hcl
          have hsl := S3.own hcl (fun u hu => by
            unfold catP at hu
            obtain ⟨p, hp, hu⟩ := List.mem_flatMap.1 hu
            exact (HR.out p hp).one u hu)
          have hcl2 := HNN.out
          rw [hcl2]
          exact ⟨a2, c2, rfl, hsl, HB.out⟩

/-- Three parts as one. -/
theorem three_row {w1 : World} {z n1 n2 n3 N : Nat} {a1 a2 a3 : Option Addr} {c1 c2 c3 : Nat} {xs ys zs : List Value} (hz : w1.heap.size = z) (h1 : S3 w1 a1 c1 xs) (h2 : S3 w1 a2 c2 ys) (h3 : S3 w1 a3 c3 zs) (e1 : xs.length = n1) (e2 : ys.length = n2) (e3 : zs.length = n3) (eN : n1 + n2 + n3 = N) (hl : N ≤ 1000000) :
    Calls Tryz.prog 202 #[.slice (some ⟨z, 0, none⟩) 3 3] ((w1.alloc (Obj.cells #[.slice a1 n1 c1, .slice a2 n2 c2, .slice a3 n3 c3] 98)).drew) fun e w' => ∃ a c', e = .returned (.slice a N c') ∧ S3 w' a c' (xs ++ ys ++ zs) ∧ Below w1.heap.size w1 w' := by
  subst hz e1 e2 e3
  have hS := heap_alloc_new w1 (Obj.cells #[.slice a1 xs.length c1, .slice a2 ys.length c2, .slice a3 zs.length c3] 98)
  have hb2 := t_al w1 (Obj.cells #[.slice a1 xs.length c1, .slice a2 ys.length c2, .slice a3 zs.length c3] 98)
  have hs2 : (w1.alloc (Obj.cells #[.slice a1 xs.length c1, .slice a2 ys.length c2, .slice a3 zs.length c3] 98)).heap.size = w1.heap.size + 1 := by simp
  generalize w1.alloc (Obj.cells #[.slice a1 xs.length c1, .slice a2 ys.length c2, .slice a3 zs.length c3] 98) = w3 at *
  have hb4 : Below w1.heap.size w1 w3.drew := hb2.drew
  have hcat : catP [(a1, c1, xs), (a2, c2, ys), (a3, c3, zs)] = xs ++ ys ++ zs := by simp [catP]
  have hlen : (xs ++ ys ++ zs).length = N := by simp; omega
  have hc := concat_row (w := w3.drew) (b := w1.heap.size) (cc := 3) (ps := [(a1, c1, xs), (a2, c2, ys), (a3, c3, zs)]) (by show _ < w3.heap.size; omega)
    (fun k hk => by
      have h3 : w3.drew.heap[w1.heap.size]? = _ := hS
      simp only [List.length_cons, List.length_nil] at hk
      rcases (show k = 0 ∨ k = 1 ∨ k = 2 by omega) with rfl | rfl | rfl
      · rw [cell_at h3]; simp [ptV]
      · rw [cell_at h3]; simp [ptV]
      · rw [cell_at h3]; simp [ptV])
    (fun p hp => by
      simp only [List.mem_cons, List.not_mem_nil, or_false] at hp
      rcases hp with rfl | rfl | rfl
      · exact h1.below hb4
      · exact h2.below hb4
      · exact h3.below hb4)
    (by rw [hcat, hlen]; exact hl) (by simp)
  rw [hcat, hlen] at hc
  refine hc.mono ?_
  rintro e w' ⟨a, c', rfl, ho, hb⟩
  exact ⟨a, c', rfl, ho, hb4.trans (hb.mono hb4.size)⟩

set_option maxRecDepth 100000 in
set_option maxHeartbeats 4000000 in
theorem replaced_row {w : World} {g o c n i j m : Nat} {a2 : Option Addr} {c2 : Nat} {xs ys : List Value} (h : S3 w (some ⟨g, o, none⟩) c xs) (h2 : S3 w a2 c2 ys) (hn : xs.length = n) (hm : ys.length = m) (hij : i ≤ j) (hj : j ≤ n) (hl : n + m ≤ 1000000) :
    Calls Tryz.prog 179 #[.slice (some ⟨g, o, none⟩) n c, .int .i64 i, .int .i64 j, .slice a2 m c2] w fun e w' => ∃ a c', e = .returned (.slice a (i + m + (n - j)) c') ∧ S3 w' a c' (xs.take i ++ ys ++ xs.drop j) ∧ Below w.heap.size w w' := by
  have hcm := h.capm
  have hcn := h.cap
  rw [hn] at hcn
  unfold maxLen at hcm
  have e0 : (0 : Int) ≤ (i : Int) := by omega
  have e1 : (i : Int) ≤ (c : Int) := by omega
  have e2 : (0 : Int) ≤ (j : Int) := by omega
  have e3 : (j : Int) ≤ (n : Int) := by omega
  have e4 : (n : Int) ≤ (c : Int) := by omega
  have HT := Lib.hid (h.take i)
  by_cases hcj : c = j
  · have hcj' : (c : Int) - (j : Int) = 0 := by omega
    have HD : Hid (S3 w (some ⟨g, o, none⟩) 0 (xs.drop j)) := by
      have := h.drop (i := j) (by omega) ⟨g, o, none⟩ (fun hh => by omega) ⟨g, o, rfl⟩
      rw [show c - j = 0 by omega] at this
      exact Lib.hid this
    have HC3 := Lib.hid (three_row (n1 := i) (n3 := 0) (N := i + m + (n - j)) rfl HT.out h2 HD.out (by rw [List.length_take]; omega) hm (by rw [List.length_drop, hn]; omega) (by omega) (by omega))
    have hnj : n = j := by omega
    clear h h2 HT HD
    subst hcj
    subst hnj
    go_enter Tryz.func179, Tryz.ntmps179
    go_upto_region 1 with fail
    go_region_law (go_simp; go_at_call 202; refine (HC3.out).mono ?_; rintro e w5 ⟨a5, c5, rfl, ho5, hb5⟩; have HO5 := Lib.hid ho5; have HB5 := Lib.hid hb5; clear ho5 hb5)
    all_goals
      go_wp2_with fail
      go_ret
      exact ⟨a5, c5, by rw [show i + m + (n - n) = i + m by omega]; rfl, HO5.out, HB5.out⟩
  · have hcj' : ¬ ((c : Int) - (j : Int) = 0) := by omega
    have hcj2 : c - j ≠ 0 := by omega
    have HD := Lib.hid (h.drop (i := j) (by omega) ⟨g, o + j * 3, none⟩ (fun hh => rfl) ⟨g, o + j * 3, rfl⟩)
    have HC3 := Lib.hid (three_row (n1 := i) (N := i + m + (n - j)) rfl HT.out h2 HD.out (by rw [List.length_take]; omega) hm (by rw [List.length_drop, hn]) rfl (by omega))
    clear h h2 HT HD
    go_enter Tryz.func179, Tryz.ntmps179
    go_upto_region 1 with fail
    go_region_law (go_simp; go_at_call 202; refine (HC3.out).mono ?_; rintro e w5 ⟨a5, c5, rfl, ho5, hb5⟩; have HO5 := Lib.hid ho5; have HB5 := Lib.hid hb5; clear ho5 hb5)
    all_goals
      go_wp2_with fail
      go_ret
      exact ⟨a5, c5, rfl, HO5.out, HB5.out⟩

end Go.Proofs.YtkgakgceamafcaaGreat
