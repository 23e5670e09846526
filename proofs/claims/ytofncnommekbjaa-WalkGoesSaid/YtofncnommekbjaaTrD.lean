/-
  Plain trees for layer 9: things by height, what lies below a node, and trees in memory.
-/
import Derived.Test.YtofncnommekbjaaTrA
namespace Go.Proofs.Ytofncnommekbjaa
open Go Go.RowKit
set_option linter.unusedVariables false

/-- How many nodes hold so many things. -/
def fewN (n : Nat) : Nat := (n + 5) / 6
/-- Where the k-th node's things begin. -/
def cutAt (n k : Nat) : Nat := k * n / fewN n
def partOf {α : Type} (l : List α) (k : Nat) : List α := (l.take (cutAt l.length (k + 1))).drop (cutAt l.length k)
def partsOf {α : Type} (l : List α) : List (List α) := (List.range (fewN l.length)).map (partOf l)

theorem fewN_pos {n : Nat} (h : 0 < n) : 0 < fewN n := by unfold fewN; omega
theorem fewN_le (n : Nat) : fewN n ≤ n := by unfold fewN; omega
theorem fewN_lt {n : Nat} (h : 2 ≤ n) : fewN n < n := by unfold fewN; omega
theorem cutAt_mono (n k : Nat) : cutAt n k ≤ cutAt n (k + 1) := by
  unfold cutAt
  exact Nat.div_le_div_right (by rw [Nat.add_mul]; omega)
theorem cutAt_zero (n : Nat) : cutAt n 0 = 0 := by unfold cutAt; simp
theorem cutAt_last (n : Nat) : cutAt n (fewN n) = n := by
  rcases Nat.eq_zero_or_pos n with rfl | h
  · rfl
  · exact Nat.mul_div_cancel_left n (fewN_pos h)
theorem cutAt_le {n k : Nat} (h : k ≤ fewN n) : cutAt n k ≤ n := by
  have h1 : cutAt n k ≤ cutAt n (fewN n) := by
    unfold cutAt
    exact Nat.div_le_div_right (Nat.mul_le_mul_right n h)
  rwa [cutAt_last] at h1
theorem cutAt_lt {n k : Nat} (h : 0 < n) : cutAt n k < cutAt n (k + 1) := by
  have hp : 0 < fewN n := fewN_pos h
  have h1 : fewN n ≤ n := fewN_le n
  unfold cutAt
  rw [Nat.lt_iff_add_one_le, ← Nat.add_mul_div_right _ 1 hp]
  exact Nat.div_le_div_right (by rw [Nat.add_mul]; omega)
theorem cutAt_step {n k : Nat} (h : 3 ≤ n) : cutAt n k + 3 ≤ cutAt n (k + 1) ∧ cutAt n (k + 1) ≤ cutAt n k + 6 := by
  have hp : 0 < fewN n := fewN_pos (by omega)
  have h3 : 3 * fewN n ≤ n := by unfold fewN; omega
  have h6 : n ≤ 6 * fewN n := by unfold fewN; omega
  unfold cutAt
  constructor
  · rw [← Nat.add_mul_div_right _ 3 hp]
    exact Nat.div_le_div_right (by rw [Nat.add_mul]; omega)
  · rw [← Nat.add_mul_div_right _ 6 hp]
    exact Nat.div_le_div_right (by rw [Nat.add_mul]; omega)
theorem partOf_len {α : Type} (l : List α) {k : Nat} (h : k < fewN l.length) : (partOf l k).length = cutAt l.length (k + 1) - cutAt l.length k := by
  unfold partOf
  rw [List.length_drop, List.length_take, Nat.min_eq_left (cutAt_le h)]
theorem partOf_size {α : Type} {l : List α} {k : Nat} (h : k < fewN l.length) (h3 : 3 ≤ l.length) : 3 ≤ (partOf l k).length ∧ (partOf l k).length ≤ 6 := by
  rw [partOf_len l h]
  have := cutAt_step (k := k) h3
  omega
theorem parts_upto {α : Type} (l : List α) : ∀ k, k ≤ fewN l.length → ((List.range k).map (partOf l)).flatten = l.take (cutAt l.length k)
  | 0, _ => by rw [cutAt_zero]; simp
  | k + 1, h => by
    rw [List.range_succ, List.map_append, List.flatten_append, parts_upto l k (by omega)]
    simp only [List.map_cons, List.map_nil, List.flatten_cons, List.flatten_nil, List.append_nil]
    unfold partOf
    have hm := cutAt_mono l.length k
    conv => rhs; rw [← List.take_append_drop (cutAt l.length k) (l.take (cutAt l.length (k + 1)))]
    rw [List.take_take, Nat.min_eq_left hm]
theorem parts_flat {α : Type} (l : List α) : (partsOf l).flatten = l := by
  unfold partsOf
  rw [parts_upto l _ (Nat.le_refl _), cutAt_last, List.take_length]
theorem partsOf_len {α : Type} (l : List α) : (partsOf l).length = fewN l.length := by unfold partsOf; simp
theorem partsOf_at {α : Type} (l : List α) {k : Nat} (h : k < fewN l.length) : (partsOf l)[k]? = some (partOf l k) := by
  unfold partsOf; rw [List.getElem?_map, List.getElem?_range h]; rfl
theorem fewN_one {n : Nat} (h1 : 1 ≤ n) (h6 : n ≤ 6) : fewN n = 1 := by unfold fewN; omega
theorem fewN_two {n : Nat} (h1 : 7 ≤ n) (h6 : n ≤ 12) : fewN n = 2 := by unfold fewN; omega
theorem parts_one {α : Type} {l : List α} (h1 : 1 ≤ l.length) (h6 : l.length ≤ 6) : partsOf l = [l] := by
  have h := parts_flat l
  have hl := partsOf_len l
  rw [fewN_one h1 h6] at hl
  obtain ⟨x, hx⟩ := List.length_eq_one_iff.1 hl
  rw [hx] at h ⊢
  simp at h
  rw [h]
theorem parts_mem {α : Type} {l p : List α} (h : p ∈ partsOf l) : ∃ k, k < fewN l.length ∧ p = partOf l k := by
  unfold partsOf at h
  obtain ⟨k, hk, rfl⟩ := List.mem_map.1 h
  exact ⟨k, List.mem_range.1 hk, rfl⟩
theorem part_sub {α : Type} {l : List α} {k : Nat} {x : α} (h : x ∈ partOf l k) : x ∈ l := List.mem_of_mem_take (List.mem_of_mem_drop h)
/-- What stands in the place of some. -/
def replL {α : Type} (l : List α) (i j : Nat) (o : List α) : List α := l.take i ++ o ++ l.drop j

/-- Things by their height: values; nodes, each of which is the list of what lies right below it. -/
def El : Nat → Type
  | 0 => Value
  | h + 1 => List (El h)
/-- The values below a thing. -/
def flatE : (h : Nat) → El h → List Value
  | 0, v => [(v : Value)]
  | h + 1, t => (t : List (El h)).flatMap (flatE h)
/-- The values below some things. -/
def flatL (h : Nat) (t : List (El h)) : List Value := t.flatMap (flatE h)
theorem flatE_succ (h : Nat) (t : List (El h)) : flatE (h + 1) t = flatL h t := rfl
theorem flatL_app (h : Nat) (s t : List (El h)) : flatL h (s ++ t) = flatL h s ++ flatL h t := by unfold flatL; rw [List.flatMap_append]
theorem flatL_zero (t : List Value) : flatL 0 t = t := by
  unfold flatL
  show t.flatMap (fun v => [v]) = t
  induction t with
  | nil => rfl
  | cons x t ih => rw [List.flatMap_cons, ih]; rfl
theorem flatL_cons (h : Nat) (x : El h) (t : List (El h)) : flatL h (x :: t) = flatE h x ++ flatL h t := by unfold flatL; rw [List.flatMap_cons]
theorem flatL_nil (h : Nat) : flatL h [] = [] := rfl
theorem flatL_flatten (h : Nat) (l : List (List (El h))) : flatL (h + 1) l = flatL h l.flatten := by
  induction l with
  | nil => rfl
  | cons x l ih => rw [List.flatten_cons, flatL_app, ← ih]; exact flatL_cons (h + 1) x l
/-- Nodes of some things. -/
def pts {h : Nat} (l : List (El h)) : List (El (h + 1)) := partsOf l
theorem pts_len {h : Nat} (l : List (El h)) : (pts l).length = fewN l.length := partsOf_len l
theorem pts_at {h : Nat} (l : List (El h)) {k : Nat} (hk : k < fewN l.length) : (pts l)[k]? = some (partOf l k) := partsOf_at l hk
theorem flatL_pts (h : Nat) (l : List (El h)) : flatL (h + 1) (pts l) = flatL h l := by
  have h1 := flatL_flatten h (partsOf l)
  rw [parts_flat] at h1
  exact h1
theorem flatL_parts (h : Nat) (l : List (El h)) : flatL (h + 1) (partsOf l) = flatL h l := by rw [flatL_flatten, parts_flat]

/-- What lies right below a node. -/
def kidsOf {h : Nat} (t : El (h + 1)) : List (El h) := t
/-- A pointer to a node. -/
abbrev ptr (b : Nat) : Value := .pointer (some ⟨b, 0, none⟩)
/-- The cells of a node: a leaf's, another one's. -/
def nodeC : Nat → Option Addr → Nat → Nat → Int → Array Value
  | 0, a, n, c, N => #[.slice none 0 0, .slice a n c, .int .i64 N]
  | _ + 1, a, n, c, N => #[.slice a n c, .slice none 0 0, .int .i64 N]
/-- A thing in memory, as a value. -/
def InE (w : World) (T : TypeId) : (h : Nat) → El h → Value → Prop
  | 0, v, u => u = (v : Value)
  | h + 1, t, u => ∃ (b : Nat) (a : Option Addr) (c : Nat) (us : List Value), u = ptr b ∧ w.heap[b]? = some (.cells (nodeC h a (kidsOf t).length c (flatE (h + 1) t).length) T (0, 0)) ∧ (∀ d, a = some d → TyAt w d.block) ∧ Sl w a c us ∧ us.length = (kidsOf t).length ∧ ∀ (i : Nat) (x : El h) (y : Value), (kidsOf t)[i]? = some x → us[i]? = some y → InE w T h x y
/-- Some things in memory, as a slice. -/
def Es (w : World) (T : TypeId) (h : Nat) (ts : List (El h)) (a : Option Addr) (c : Nat) : Prop :=
  ∃ us : List Value, Sl w a c us ∧ us.length = ts.length ∧ ∀ (i : Nat) (x : El h) (y : Value), ts[i]? = some x → us[i]? = some y → InE w T h x y
/-- A node in memory. -/
def In (w : World) (T : TypeId) (h : Nat) (t : List (El h)) (b : Nat) : Prop :=
  ∃ (a : Option Addr) (c : Nat), w.heap[b]? = some (.cells (nodeC h a t.length c (flatL h t).length) T (0, 0)) ∧ (∀ d, a = some d → TyAt w d.block) ∧ Es w T h t a c
theorem in_of {w : World} {T : TypeId} {h : Nat} {t : List (El h)} {b : Nat} (H : In w T h t b) : InE w T (h + 1) t (ptr b) := by
  obtain ⟨a, c, h1, ht, us, h2, h3, h4⟩ := H
  exact ⟨b, a, c, us, rfl, h1, ht, h2, h3, h4⟩
theorem of_in {w : World} {T : TypeId} {h : Nat} {t : List (El h)} {u : Value} (H : InE w T (h + 1) t u) : ∃ b, u = ptr b ∧ In w T h t b := by
  obtain ⟨b, a, c, us, rfl, h1, ht, h2, h3, h4⟩ := H
  exact ⟨b, rfl, a, c, h1, ht, us, h2, h3, h4⟩
theorem InE.below {w w' : World} {T : TypeId} (hb : Below w.heap.size w w') : ∀ {h : Nat} {t : El h} {u : Value}, InE w T h t u → InE w' T h t u
  | 0, t, u, H => H
  | h + 1, t, u, H => by
    obtain ⟨b, a, c, us, rfl, h1, ht, h2, h3, h4⟩ := H
    exact ⟨b, a, c, us, rfl, (hb.block b (lt_of_heap h1)).trans h1, fun d hd => (ht d hd).below hb, h2.below hb, h3, fun i x y hx hy => InE.below hb (h4 i x y hx hy)⟩
theorem Es.below {w w' : World} {T : TypeId} {h : Nat} {ts : List (El h)} {a : Option Addr} {c : Nat} (H : Es w T h ts a c) (hb : Below w.heap.size w w') : Es w' T h ts a c := by
  obtain ⟨us, h1, h2, h3⟩ := H
  exact ⟨us, h1.below hb, h2, fun i x y hx hy => (h3 i x y hx hy).below hb⟩
theorem In.below {w w' : World} {T : TypeId} {h : Nat} {t : List (El h)} {b : Nat} (H : In w T h t b) (hb : Below w.heap.size w w') : In w' T h t b := by
  obtain ⟨a, c, h1, ht, h2⟩ := H
  exact ⟨a, c, (hb.block b (lt_of_heap h1)).trans h1, fun d hd => (ht d hd).below hb, h2.below hb⟩
theorem Es.zero {w : World} {T : TypeId} {xs : List Value} {a : Option Addr} {c : Nat} (H : Es w T 0 xs a c) : Sl w a c xs := by
  obtain ⟨us, h1, h2, h3⟩ := H
  have : us = xs := by
    apply List.ext_getElem h2
    intro i hi1 hi2
    have := h3 i _ _ (List.getElem?_eq_getElem hi2) (List.getElem?_eq_getElem hi1)
    exact this
  subst this
  exact h1
theorem Es.ofSl {w : World} {T : TypeId} {xs : List Value} {a : Option Addr} {c : Nat} (H : Sl w a c xs) : Es w T 0 xs a c :=
  ⟨xs, H, rfl, fun i x y hx hy => (Option.some.inj (hx.symm.trans hy)).symm⟩
theorem Es.take {w : World} {T : TypeId} {h : Nat} {ts : List (El h)} {a : Option Addr} {c : Nat} (H : Es w T h ts a c) (i : Nat) : Es w T h (ts.take i) a c := by
  obtain ⟨us, h1, h2, h3⟩ := H
  refine ⟨us.take i, h1.take i, by rw [List.length_take, List.length_take, h2], fun j x y hx hy => ?_⟩
  rw [List.getElem?_take] at hx hy
  split at hx
  · rename_i hj; rw [if_pos hj] at hy; exact h3 j x y hx hy
  · cases hx
theorem Es.drop {w : World} {T : TypeId} {h : Nat} {ts : List (El h)} {g o c : Nat} (H : Es w T h ts (some ⟨g, o, none⟩) c) {i : Nat} (hi : i ≤ ts.length) (b : Addr) (hb : i < ts.length → b = ⟨g, o + i, none⟩) (hbf : ∃ g o, b = ⟨g, o, none⟩) : Es w T h (ts.drop i) (some b) (c - i) := by
  obtain ⟨us, h1, h2, h3⟩ := H
  refine ⟨us.drop i, h1.drop (by omega) b (fun hh => hb (by omega)) hbf, by rw [List.length_drop, List.length_drop, h2], fun j x y hx hy => ?_⟩
  rw [List.getElem?_drop] at hx hy
  exact h3 _ x y hx hy
theorem Es.cap {w : World} {T : TypeId} {h : Nat} {ts : List (El h)} {a : Option Addr} {c : Nat} (H : Es w T h ts a c) : ts.length ≤ c ∧ c ≤ maxLen := by
  obtain ⟨us, h1, h2, h3⟩ := H
  exact ⟨by rw [← h2]; exact h1.cap, h1.capm⟩
theorem Es.has {w : World} {T : TypeId} {h : Nat} {ts : List (El h)} {a : Option Addr} {c : Nat} (H : Es w T h ts a c) (hn : 0 < ts.length) : ∃ g o, a = Option.some ⟨g, o, Option.none⟩ ∧ g < w.heap.size := by
  obtain ⟨us, h1, h2, h3⟩ := H
  obtain ⟨g, o, e, hg, _⟩ := h1.rd.2 (by omega)
  exact ⟨g, o, e, hg⟩
theorem Es.none0 (w : World) (T : TypeId) (h : Nat) : Es w T h [] none 0 := ⟨[], Sl.none w, rfl, fun i x y hx => by simp at hx⟩
/-- The i-th of some nodes. -/
theorem Es.at {w : World} {T : TypeId} {h : Nat} {ts : List (El (h + 1))} {g o c : Nat} (H : Es w T (h + 1) ts (Option.some ⟨g, o, Option.none⟩) c) {i : Nat} {x : List (El h)} (hx : ts[i]? = Option.some x) : ∃ b, w.cell? ⟨g, o + i, none⟩ = Option.some (ptr b) ∧ In w T h x b := by
  obtain ⟨us, h1, h2, h3⟩ := H
  have hi := (List.getElem?_eq_some_iff.1 hx).1
  have hu : us[i]? = Option.some (us[i]'(by omega)) := List.getElem?_eq_getElem (by omega)
  obtain ⟨b, hb, hin⟩ := of_in (h3 i x _ hx hu)
  rw [hb] at hu
  obtain ⟨g', o', e, hg, hc⟩ := h1.rd.2 (by omega)
  cases e
  exact ⟨b, hc i _ hu, hin⟩
/-- The count of a node. -/
theorem In.num {w : World} {T : TypeId} {h : Nat} {t : List (El h)} {b : Nat} (H : In w T h t b) : w.cell? ⟨b, 2, none⟩ = some (.int .i64 (flatL h t).length) := by
  obtain ⟨a, c, h1, _⟩ := H
  rw [cell_at h1]
  cases h <;> rfl
theorem In.lt {w : World} {T : TypeId} {h : Nat} {t : List (El h)} {b : Nat} (H : In w T h t b) : b < w.heap.size := by
  obtain ⟨a, c, h1, _⟩ := H
  exact lt_of_heap h1
theorem In.kids {w : World} {T : TypeId} {h : Nat} {t : List (El (h + 1))} {b : Nat} (H : In w T (h + 1) t b) : ∃ a c, w.cell? ⟨b, 0, none⟩ = some (.slice a t.length c) ∧ w.cell? ⟨b, 1, none⟩ = some (.slice none 0 0) ∧ Es w T (h + 1) t a c := by
  obtain ⟨a, c, h1, _, h2⟩ := H
  exact ⟨a, c, by rw [cell_at h1]; rfl, by rw [cell_at h1]; rfl, h2⟩
theorem In.items {w : World} {T : TypeId} {t : List Value} {b : Nat} (H : In w T 0 t b) : ∃ a c, w.cell? ⟨b, 0, none⟩ = some (.slice none 0 0) ∧ w.cell? ⟨b, 1, none⟩ = some (.slice a t.length c) ∧ Sl w a c t := by
  obtain ⟨a, c, h1, _, h2⟩ := H
  exact ⟨a, c, by rw [cell_at h1]; rfl, by rw [cell_at h1]; rfl, h2.zero⟩

end Go.Proofs.Ytofncnommekbjaa
