/-
  Texts of this seat, put together (a claim holds few texts): TgD, TgE.
-/
import Derived.Test.YtkgakgceamafcaaMk6

namespace Go.Proofs.Ytkgakgceamafcaa
open Go Go.RowKit
set_option linter.unusedVariables false

/-- How many nodes hold so many things. -/
def fewN (n : Nat) : Nat := (n + 5) / 6
/-- Where the k-th node's things begin. -/
def cutAt (n k : Nat) : Nat := k * n / fewN n
def partOf {α : Type} (l : List α) (k : Nat) : List α := (l.take (cutAt l.length (k + 1))).drop (cutAt l.length k)
def partsOf {α : Type} (l : List α) : List (List α) := (List.range (fewN l.length)).map (partOf l)

theorem fewN_pos {n : Nat} (h : 0 < n) : 0 < fewN n := by unfold fewN; omega
theorem fewN_le (n : Nat) : fewN n ≤ n := by unfold fewN; omega
theorem fewN_lt {n : Nat} (h : 2 ≤ n) : fewN n < n := by unfold fewN; omega
theorem cutAt_mono (n k : Nat) : cutAt n k ≤ cutAt n (k + 1) := by
  unfold cutAt
  exact Nat.div_le_div_right (by rw [Nat.add_mul]; omega)
theorem cutAt_zero (n : Nat) : cutAt n 0 = 0 := by unfold cutAt; simp
theorem cutAt_last (n : Nat) : cutAt n (fewN n) = n := by
  rcases Nat.eq_zero_or_pos n with rfl | h
  · rfl
  · exact Nat.mul_div_cancel_left n (fewN_pos h)
theorem cutAt_le {n k : Nat} (h : k ≤ fewN n) : cutAt n k ≤ n := by
  have h1 : cutAt n k ≤ cutAt n (fewN n) := by
    unfold cutAt
    exact Nat.div_le_div_right (Nat.mul_le_mul_right n h)
  rwa [cutAt_last] at h1
theorem cutAt_lt {n k : Nat} (h : 0 < n) : cutAt n k < cutAt n (k + 1) := by
  have hp : 0 < fewN n := fewN_pos h
  have h1 : fewN n ≤ n := fewN_le n
  unfold cutAt
  rw [Nat.lt_iff_add_one_le, ← Nat.add_mul_div_right _ 1 hp]
  exact Nat.div_le_div_right (by rw [Nat.add_mul]; omega)
theorem cutAt_step {n k : Nat} (h : 3 ≤ n) : cutAt n k + 3 ≤ cutAt n (k + 1) ∧ cutAt n (k + 1) ≤ cutAt n k + 6 := by
  have hp : 0 < fewN n := fewN_pos (by omega)
  have h3 : 3 * fewN n ≤ n := by unfold fewN; omega
  have h6 : n ≤ 6 * fewN n := by unfold fewN; omega
  unfold cutAt
  constructor
  · rw [← Nat.add_mul_div_right _ 3 hp]
    exact Nat.div_le_div_right (by rw [Nat.add_mul]; omega)
  · rw [← Nat.add_mul_div_right _ 6 hp]
    exact Nat.div_le_div_right (by rw [Nat.add_mul]; omega)
theorem partOf_len {α : Type} (l : List α) {k : Nat} (h : k < fewN l.length) : (partOf l k).length = cutAt l.length (k + 1) - cutAt l.length k := by
  unfold partOf
  rw [List.length_drop, List.length_take, Nat.min_eq_left (cutAt_le h)]
theorem partOf_size {α : Type} {l : List α} {k : Nat} (h : k < fewN l.length) (h3 : 3 ≤ l.length) : 3 ≤ (partOf l k).length ∧ (partOf l k).length ≤ 6 := by
  rw [partOf_len l h]
  have := cutAt_step (k := k) h3
  omega
theorem parts_upto {α : Type} (l : List α) : ∀ k, k ≤ fewN l.length → ((List.range k).map (partOf l)).flatten = l.take (cutAt l.length k)
  | 0, _ => by rw [cutAt_zero]; simp
  | k + 1, h => by
    rw [List.range_succ, List.map_append, List.flatten_append, parts_upto l k (by omega)]
    simp only [List.map_cons, List.map_nil, List.flatten_cons, List.flatten_nil, List.append_nil]
    unfold partOf
    have hm := cutAt_mono l.length k
    conv => rhs; rw [← List.take_append_drop (cutAt l.length k) (l.take (cutAt l.length (k + 1)))]
    rw [List.take_take, Nat.min_eq_left hm]
theorem parts_flat {α : Type} (l : List α) : (partsOf l).flatten = l := by
  unfold partsOf
  rw [parts_upto l _ (Nat.le_refl _), cutAt_last, List.take_length]
theorem partsOf_len {α : Type} (l : List α) : (partsOf l).length = fewN l.length := by unfold partsOf; simp
theorem partsOf_at {α : Type} (l : List α) {k : Nat} (h : k < fewN l.length) : (partsOf l)[k]? = some (partOf l k) := by
  unfold partsOf; rw [List.getElem?_map, List.getElem?_range h]; rfl
theorem fewN_one {n : Nat} (h1 : 1 ≤ n) (h6 : n ≤ 6) : fewN n = 1 := by unfold fewN; omega
theorem fewN_two {n : Nat} (h1 : 7 ≤ n) (h6 : n ≤ 12) : fewN n = 2 := by unfold fewN; omega
theorem parts_one {α : Type} {l : List α} (h1 : 1 ≤ l.length) (h6 : l.length ≤ 6) : partsOf l = [l] := by
  have h := parts_flat l
  have hl := partsOf_len l
  rw [fewN_one h1 h6] at hl
  obtain ⟨x, hx⟩ := List.length_eq_one_iff.1 hl
  rw [hx] at h ⊢
  simp at h
  rw [h]
theorem parts_mem {α : Type} {l p : List α} (h : p ∈ partsOf l) : ∃ k, k < fewN l.length ∧ p = partOf l k := by
  unfold partsOf at h
  obtain ⟨k, hk, rfl⟩ := List.mem_map.1 h
  exact ⟨k, List.mem_range.1 hk, rfl⟩
theorem part_sub {α : Type} {l : List α} {k : Nat} {x : α} (h : x ∈ partOf l k) : x ∈ l := List.mem_of_mem_take (List.mem_of_mem_drop h)
/-- What stands in the place of some. -/
def replL {α : Type} (l : List α) (i j : Nat) (o : List α) : List α := l.take i ++ o ++ l.drop j

/-- Things by their height: values; nodes, each of which is the list of what lies right below it. -/
def El : Nat → Type
  | 0 => Value
  | h + 1 => List (El h)
/-- The values below a thing. -/
def flatE : (h : Nat) → El h → List Value
  | 0, v => [(v : Value)]
  | h + 1, t => (t : List (El h)).flatMap (flatE h)
/-- The values below some things. -/
def flatL (h : Nat) (t : List (El h)) : List Value := t.flatMap (flatE h)
theorem flatE_succ (h : Nat) (t : List (El h)) : flatE (h + 1) t = flatL h t := rfl
theorem flatL_app (h : Nat) (s t : List (El h)) : flatL h (s ++ t) = flatL h s ++ flatL h t := by unfold flatL; rw [List.flatMap_append]
theorem flatL_zero (t : List Value) : flatL 0 t = t := by
  unfold flatL
  show t.flatMap (fun v => [v]) = t
  induction t with
  | nil => rfl
  | cons x t ih => rw [List.flatMap_cons, ih]; rfl
theorem flatL_cons (h : Nat) (x : El h) (t : List (El h)) : flatL h (x :: t) = flatE h x ++ flatL h t := by unfold flatL; rw [List.flatMap_cons]
theorem flatL_nil (h : Nat) : flatL h [] = [] := rfl
theorem flatL_flatten (h : Nat) (l : List (List (El h))) : flatL (h + 1) l = flatL h l.flatten := by
  induction l with
  | nil => rfl
  | cons x l ih => rw [List.flatten_cons, flatL_app, ← ih]; exact flatL_cons (h + 1) x l
/-- Nodes of some things. -/
def pts {h : Nat} (l : List (El h)) : List (El (h + 1)) := partsOf l
theorem pts_len {h : Nat} (l : List (El h)) : (pts l).length = fewN l.length := partsOf_len l
theorem pts_at {h : Nat} (l : List (El h)) {k : Nat} (hk : k < fewN l.length) : (pts l)[k]? = some (partOf l k) := partsOf_at l hk
theorem flatL_pts (h : Nat) (l : List (El h)) : flatL (h + 1) (pts l) = flatL h l := by
  have h1 := flatL_flatten h (partsOf l)
  rw [parts_flat] at h1
  exact h1
theorem flatL_parts (h : Nat) (l : List (El h)) : flatL (h + 1) (partsOf l) = flatL h l := by rw [flatL_flatten, parts_flat]

/-- What lies right below a node. -/
def kidsOf {h : Nat} (t : El (h + 1)) : List (El h) := t
/-- A pointer to a node. -/
abbrev ptr (b : Nat) : Value := .pointer (some ⟨b, 0, none⟩)
/-- The cells of a node: a leaf's, another one's. -/
def nodeC : Nat → Option Addr → Nat → Nat → Int → Array Value
  | 0, a, n, c, N => #[.slice none 0 0, .slice a n c, .int .i64 N]
  | _ + 1, a, n, c, N => #[.slice a n c, .slice none 0 0, .int .i64 N]
/-- A slice of what lies on a height. -/
def Ss (w : World) : Nat → Option Addr → Nat → List Value → Prop
  | 0, a, c, us => S3 w a c us
  | _ + 1, a, c, us => Sl w a c us
/-- How many cells so many things of a height have. -/
def stp : Nat → Nat → Nat
  | 0, i => i * 3
  | _ + 1, i => i
theorem Ss.below {w w' : World} {h : Nat} {a : Option Addr} {c : Nat} {us : List Value} (H : Ss w h a c us) (hb : Below w.heap.size w w') : Ss w' h a c us := by
  cases h with
  | zero => exact S3.below H hb
  | succ h => exact Sl.below H hb
theorem Ss.cap {w : World} {h : Nat} {a : Option Addr} {c : Nat} {us : List Value} (H : Ss w h a c us) : us.length ≤ c := by
  cases h with
  | zero => exact S3.cap H
  | succ h => exact Sl.cap H
theorem Ss.capm {w : World} {h : Nat} {a : Option Addr} {c : Nat} {us : List Value} (H : Ss w h a c us) : c ≤ maxLen := by
  cases h with
  | zero => exact S3.capm H
  | succ h => exact Sl.capm H
theorem Ss.nil {w : World} {h : Nat} {a : Option Addr} {c : Nat} {us : List Value} (H : Ss w h a c us) : a = none → c = 0 := by
  cases h with
  | zero => exact S3.nil H
  | succ h => exact Sl.nil H
theorem Ss.form {w : World} {h : Nat} {a : Option Addr} {c : Nat} {us : List Value} (H : Ss w h a c us) : ∀ d, a = some d → ∃ g o, d = ⟨g, o, none⟩ := by
  cases h with
  | zero => exact S3.form H
  | succ h => exact Sl.form H
theorem Ss.has {w : World} {h : Nat} {a : Option Addr} {c : Nat} {us : List Value} (H : Ss w h a c us) (hn : 0 < us.length) : ∃ g o, a = some ⟨g, o, none⟩ ∧ g < w.heap.size := by
  cases h with
  | zero =>
    obtain ⟨g, o, e, hg, _⟩ := (S3.rd H).2 hn
    exact ⟨g, o, e, hg⟩
  | succ h =>
    obtain ⟨g, o, e, hg, _⟩ := (Sl.rd H).2 hn
    exact ⟨g, o, e, hg⟩
theorem Ss.empty {w : World} {h : Nat} {c : Nat} {us : List Value} (H : Ss w h Option.none c us) : us = [] ∧ c = 0 := by
  cases h with
  | zero => exact S3.empty H
  | succ h => exact Sl.empty H
theorem Ss.none (w : World) (h : Nat) : Ss w h none 0 [] := by
  cases h with
  | zero => exact S3.none w
  | succ h => exact Sl.none w
theorem Ss.take {w : World} {h : Nat} {a : Option Addr} {c : Nat} {us : List Value} (H : Ss w h a c us) (i : Nat) : Ss w h a c (us.take i) := by
  cases h with
  | zero => exact S3.take H i
  | succ h => exact Sl.take H i
theorem Ss.drop {w : World} {h g o c : Nat} {us : List Value} (H : Ss w h (some ⟨g, o, Option.none⟩) c us) {i : Nat} (hi : i ≤ us.length) (b : Addr) (hb : i < us.length → b = ⟨g, o + stp h i, Option.none⟩) (hbf : ∃ g o, b = ⟨g, o, Option.none⟩) : Ss w h (some b) (c - i) (us.drop i) := by
  cases h with
  | zero => exact S3.drop H hi b hb hbf
  | succ h => exact Sl.drop H hi b hb hbf

/-- A thing in memory, as a value. -/
def InE (w : World) (T : TypeId) : (h : Nat) → El h → Value → Prop
  | 0, v, u => u = (v : Value)
  | h + 1, t, u => ∃ (b : Nat) (a : Option Addr) (c : Nat) (us : List Value), u = ptr b ∧ w.heap[b]? = some (.cells (nodeC h a (kidsOf t).length c (flatE (h + 1) t).length) T (0, 0)) ∧ (∀ d, a = some d → TyAt w d.block) ∧ Ss w h a c us ∧ us.length = (kidsOf t).length ∧ ∀ (i : Nat) (x : El h) (y : Value), (kidsOf t)[i]? = some x → us[i]? = some y → InE w T h x y
/-- Some things in memory, as a slice. -/
def Es (w : World) (T : TypeId) (h : Nat) (ts : List (El h)) (a : Option Addr) (c : Nat) : Prop :=
  ∃ us : List Value, Ss w h a c us ∧ us.length = ts.length ∧ ∀ (i : Nat) (x : El h) (y : Value), ts[i]? = some x → us[i]? = some y → InE w T h x y
/-- A node in memory. -/
def In (w : World) (T : TypeId) (h : Nat) (t : List (El h)) (b : Nat) : Prop :=
  ∃ (a : Option Addr) (c : Nat), w.heap[b]? = some (.cells (nodeC h a t.length c (flatL h t).length) T (0, 0)) ∧ (∀ d, a = some d → TyAt w d.block) ∧ Es w T h t a c
theorem in_of {w : World} {T : TypeId} {h : Nat} {t : List (El h)} {b : Nat} (H : In w T h t b) : InE w T (h + 1) t (ptr b) := by
  obtain ⟨a, c, h1, ht, us, h2, h3, h4⟩ := H
  exact ⟨b, a, c, us, rfl, h1, ht, h2, h3, h4⟩
theorem of_in {w : World} {T : TypeId} {h : Nat} {t : List (El h)} {u : Value} (H : InE w T (h + 1) t u) : ∃ b, u = ptr b ∧ In w T h t b := by
  obtain ⟨b, a, c, us, rfl, h1, ht, h2, h3, h4⟩ := H
  exact ⟨b, rfl, a, c, h1, ht, us, h2, h3, h4⟩
theorem InE.below {w w' : World} {T : TypeId} (hb : Below w.heap.size w w') : ∀ {h : Nat} {t : El h} {u : Value}, InE w T h t u → InE w' T h t u
  | 0, t, u, H => H
  | h + 1, t, u, H => by
    obtain ⟨b, a, c, us, rfl, h1, ht, h2, h3, h4⟩ := H
    exact ⟨b, a, c, us, rfl, (hb.block b (lt_of_heap h1)).trans h1, fun d hd => (ht d hd).below hb, h2.below hb, h3, fun i x y hx hy => InE.below hb (h4 i x y hx hy)⟩
theorem Es.below {w w' : World} {T : TypeId} {h : Nat} {ts : List (El h)} {a : Option Addr} {c : Nat} (H : Es w T h ts a c) (hb : Below w.heap.size w w') : Es w' T h ts a c := by
  obtain ⟨us, h1, h2, h3⟩ := H
  exact ⟨us, h1.below hb, h2, fun i x y hx hy => (h3 i x y hx hy).below hb⟩
theorem In.below {w w' : World} {T : TypeId} {h : Nat} {t : List (El h)} {b : Nat} (H : In w T h t b) (hb : Below w.heap.size w w') : In w' T h t b := by
  obtain ⟨a, c, h1, ht, h2⟩ := H
  exact ⟨a, c, (hb.block b (lt_of_heap h1)).trans h1, fun d hd => (ht d hd).below hb, h2.below hb⟩
theorem Es.zero {w : World} {T : TypeId} {xs : List Value} {a : Option Addr} {c : Nat} (H : Es w T 0 xs a c) : S3 w a c xs := by
  obtain ⟨us, h1, h2, h3⟩ := H
  have : us = xs := by
    apply List.ext_getElem h2
    intro i hi1 hi2
    have := h3 i _ _ (List.getElem?_eq_getElem hi2) (List.getElem?_eq_getElem hi1)
    exact this
  subst this
  exact h1
theorem Es.ofSl {w : World} {T : TypeId} {xs : List Value} {a : Option Addr} {c : Nat} (H : S3 w a c xs) : Es w T 0 xs a c :=
  ⟨xs, H, rfl, fun i x y hx hy => (Option.some.inj (hx.symm.trans hy)).symm⟩
theorem Es.take {w : World} {T : TypeId} {h : Nat} {ts : List (El h)} {a : Option Addr} {c : Nat} (H : Es w T h ts a c) (i : Nat) : Es w T h (ts.take i) a c := by
  obtain ⟨us, h1, h2, h3⟩ := H
  refine ⟨us.take i, h1.take i, by rw [List.length_take, List.length_take, h2], fun j x y hx hy => ?_⟩
  rw [List.getElem?_take] at hx hy
  split at hx
  · rename_i hj; rw [if_pos hj] at hy; exact h3 j x y hx hy
  · cases hx
theorem Es.drop {w : World} {T : TypeId} {h : Nat} {ts : List (El h)} {g o c : Nat} (H : Es w T h ts (some ⟨g, o, none⟩) c) {i : Nat} (hi : i ≤ ts.length) (b : Addr) (hb : i < ts.length → b = ⟨g, o + stp h i, none⟩) (hbf : ∃ g o, b = ⟨g, o, none⟩) : Es w T h (ts.drop i) (some b) (c - i) := by
  obtain ⟨us, h1, h2, h3⟩ := H
  refine ⟨us.drop i, h1.drop (by omega) b (fun hh => hb (by omega)) hbf, by rw [List.length_drop, List.length_drop, h2], fun j x y hx hy => ?_⟩
  rw [List.getElem?_drop] at hx hy
  exact h3 _ x y hx hy
theorem Es.cap {w : World} {T : TypeId} {h : Nat} {ts : List (El h)} {a : Option Addr} {c : Nat} (H : Es w T h ts a c) : ts.length ≤ c ∧ c ≤ maxLen := by
  obtain ⟨us, h1, h2, h3⟩ := H
  exact ⟨by rw [← h2]; exact h1.cap, h1.capm⟩
theorem Es.has {w : World} {T : TypeId} {h : Nat} {ts : List (El h)} {a : Option Addr} {c : Nat} (H : Es w T h ts a c) (hn : 0 < ts.length) : ∃ g o, a = Option.some ⟨g, o, Option.none⟩ ∧ g < w.heap.size := by
  obtain ⟨us, h1, h2, h3⟩ := H
  exact h1.has (by omega)
theorem Es.none0 (w : World) (T : TypeId) (h : Nat) : Es w T h [] none 0 := ⟨[], Ss.none w h, rfl, fun i x y hx => by simp at hx⟩
/-- The i-th of some nodes. -/
theorem Es.at {w : World} {T : TypeId} {h : Nat} {ts : List (El (h + 1))} {g o c : Nat} (H : Es w T (h + 1) ts (Option.some ⟨g, o, Option.none⟩) c) {i : Nat} {x : List (El h)} (hx : ts[i]? = Option.some x) : ∃ b, w.cell? ⟨g, o + i, none⟩ = Option.some (ptr b) ∧ In w T h x b := by
  obtain ⟨us, h1, h2, h3⟩ := H
  have hi := (List.getElem?_eq_some_iff.1 hx).1
  have hu : us[i]? = Option.some (us[i]'(by omega)) := List.getElem?_eq_getElem (by omega)
  obtain ⟨b, hb, hin⟩ := of_in (h3 i x _ hx hu)
  rw [hb] at hu
  obtain ⟨g', o', e, hg, hc⟩ := (Sl.rd h1).2 (by omega)
  cases e
  exact ⟨b, hc i _ hu, hin⟩
/-- The count of a node. -/
theorem In.num {w : World} {T : TypeId} {h : Nat} {t : List (El h)} {b : Nat} (H : In w T h t b) : w.cell? ⟨b, 2, none⟩ = some (.int .i64 (flatL h t).length) := by
  obtain ⟨a, c, h1, _⟩ := H
  rw [cell_at h1]
  cases h <;> rfl
theorem In.lt {w : World} {T : TypeId} {h : Nat} {t : List (El h)} {b : Nat} (H : In w T h t b) : b < w.heap.size := by
  obtain ⟨a, c, h1, _⟩ := H
  exact lt_of_heap h1
theorem In.kids {w : World} {T : TypeId} {h : Nat} {t : List (El (h + 1))} {b : Nat} (H : In w T (h + 1) t b) : ∃ a c, w.cell? ⟨b, 0, none⟩ = some (.slice a t.length c) ∧ w.cell? ⟨b, 1, none⟩ = some (.slice none 0 0) ∧ Es w T (h + 1) t a c := by
  obtain ⟨a, c, h1, _, h2⟩ := H
  exact ⟨a, c, by rw [cell_at h1]; rfl, by rw [cell_at h1]; rfl, h2⟩
theorem In.items {w : World} {T : TypeId} {t : List Value} {b : Nat} (H : In w T 0 t b) : ∃ a c, w.cell? ⟨b, 0, none⟩ = some (.slice none 0 0) ∧ w.cell? ⟨b, 1, none⟩ = some (.slice a t.length c) ∧ S3 w a c t := by
  obtain ⟨a, c, h1, _, h2⟩ := H
  exact ⟨a, c, by rw [cell_at h1]; rfl, by rw [cell_at h1]; rfl, h2.zero⟩

end Go.Proofs.Ytkgakgceamafcaa

namespace Go.Proofs.Ytkgakgceamafcaa
open Go Go.RowKit
set_option linter.unusedVariables false

/-- A new node in memory, from a block on. -/
def RawN (B : Nat) (w : World) (T : TypeId) (h : Nat) (us : List Value) (N : Nat) (b : Nat) : Prop :=
  ∃ (a : Option Addr) (c : Nat), w.heap[b]? = some (.cells (nodeC h a us.length c N) T (0, 0)) ∧ Ss w h a c us ∧ B ≤ b ∧ ∀ d, a = some d → B ≤ d.block ∧ TyAt w d.block
theorem RawN.in {B : Nat} {w w0 : World} {T : TypeId} {h : Nat} {us : List Value} {t : List (El h)} {b : Nat} (H : RawN B w T h us (flatL h t).length b) (hu : us.length = t.length) (hb : Below w0.heap.size w0 w) (hi : ∀ (i : Nat) (x : El h) (y : Value), t[i]? = some x → us[i]? = some y → InE w0 T h x y) : In w T h t b := by
  obtain ⟨a, c, h1, h2, _, h4⟩ := H
  rw [hu] at h1
  exact ⟨a, c, h1, fun d hd => (h4 d hd).2, us, h2, hu, fun i x y hx hy => (hi i x y hx hy).below hb⟩
theorem RawN.below {B : Nat} {w w' : World} {T : TypeId} {h N b : Nat} {us : List Value} (H : RawN B w T h us N b) (hb : Below w.heap.size w w') : RawN B w' T h us N b := by
  obtain ⟨a, c, h1, h2, h3, h4⟩ := H
  exact ⟨a, c, (hb.block b (lt_of_heap h1)).trans h1, h2.below hb, h3, fun d hd => ⟨(h4 d hd).1, (h4 d hd).2.below hb⟩⟩
theorem RawN.mono {B B' : Nat} {w : World} {T : TypeId} {h N b : Nat} {us : List Value} (H : RawN B w T h us N b) (hB : B' ≤ B) : RawN B' w T h us N b := by
  obtain ⟨a, c, h1, h2, h3, h4⟩ := H
  exact ⟨a, c, h1, h2, by omega, fun d hd => ⟨by have := (h4 d hd).1; omega, (h4 d hd).2⟩⟩
theorem Sl.set {w : World} {a : Option Addr} {c p o : Nat} {u : Value} {xs : List Value} (h : Sl w a c xs) (hp : ∀ d, a = some d → d.block ≠ p) : Sl (w.setCell ⟨p, o, Option.none⟩ u) a c xs := by
  refine ⟨⟨h.rd.1, fun hn => ?_⟩, h.cap, h.capm, h.nil, h.form, h.one⟩
  obtain ⟨g, off, rfl, hlt, hc⟩ := h.rd.2 hn
  refine ⟨g, off, rfl, by rw [size_set]; exact hlt, fun j x hj => ?_⟩
  rw [World.cell?_of_block (w := w) (w' := w.setCell ⟨p, o, Option.none⟩ u) (a := ⟨g, off + j, Option.none⟩) (heap_set_other (hp ⟨g, off, Option.none⟩ rfl))]
  exact hc j x hj
theorem Ss.set {w : World} {h : Nat} {a : Option Addr} {c p o : Nat} {u : Value} {xs : List Value} (H : Ss w h a c xs) (hp : ∀ d, a = some d → d.block ≠ p) : Ss (w.setCell ⟨p, o, Option.none⟩ u) h a c xs := by
  cases h with
  | zero => exact S3.set H hp
  | succ h => exact Sl.set H hp
theorem RawN.set {B : Nat} {w : World} {T : TypeId} {h N b p o : Nat} {u : Value} {us : List Value} (H : RawN B w T h us N b) (hp : p < B) : RawN B (w.setCell ⟨p, o, none⟩ u) T h us N b := by
  obtain ⟨a, c, h1, h2, h3, h4⟩ := H
  exact ⟨a, c, (heap_set_other (by omega)).trans h1, h2.set (fun d hd => by have := (h4 d hd).1; omega), h3, fun d hd => ⟨(h4 d hd).1, (h4 d hd).2.set⟩⟩
theorem leaf_i {w : World} {a : Option Addr} {c n : Nat} {xs : List Value} (h : S3 w a c xs) (hn : xs.length = n) (hl : n ≤ 1000000) :
    Calls Try.prog 46 #[.slice a n c] w fun e w' => ∃ b, e = .returned (ptr b) ∧ RawN w.heap.size w' 118 0 xs n b ∧ Below w.heap.size w w' := by
  have HC := Lib.hid (clone_row h (by omega))
  have HN := Lib.hid hn
  rw [hn] at HC
  clear h hn
  go_enter Try.func46, Try.ntmps46
  go_wp2_with fail
  refine HC.out.mono ?_; rintro e w1 ⟨a', c', rfl, hs, hfr, hb⟩
  have al := t_al w1 (Obj.cells #[.slice none 0 0, .slice a' n c', .int .i64 n] 118)
  have hh := heap_alloc_new w1 (Obj.cells #[.slice none 0 0, .slice a' n c', .int .i64 n] 118)
  have HB := Lib.hid (hb.trans (al.mono hb.size))
  have HS := Lib.hid (hs.below al)
  have HH := Lib.hid hh
  have HFR := Lib.hid (fun d hd => And.intro (hfr d hd).1 ((hfr d hd).2.below al))
  have hz := hb.size
  clear hs hb al hh HC hfr
  go_wp2_with fail
  go_ret
  have h2 : (w1.alloc (Obj.cells #[.slice none 0 0, .slice a' n c', .int .i64 n] 118)).heap[w1.heap.size]? = some (.cells (nodeC 0 a' xs.length c' n) 118 (0, 0)) := by
    rw [HN.out]; exact HH.out
  exact ⟨w1.heap.size, rfl, ⟨a', c', h2, HS.out, hz, HFR.out⟩, HB.out⟩

theorem flat_take {h : Nat} {ts : List (El (h + 1))} {k : Nat} {x : List (El h)} (hx : ts[k]? = some x) : (flatL (h + 1) (ts.take (k + 1))).length = (flatL (h + 1) (ts.take k)).length + (flatL h x).length := by
  have hk := (List.getElem?_eq_some_iff.1 hx).1
  have hx2 : ts[k] = x := (List.getElem?_eq_some_iff.1 hx).2
  rw [List.take_succ_eq_append_getElem hk, flatL_app, List.length_append, flatL_cons, flatL_nil, List.append_nil, hx2]; rfl
theorem flat_part {h : Nat} {ts : List (El h)} (k : Nat) : (flatL h (ts.take k)).length ≤ (flatL h ts).length := by
  have : flatL h ts = flatL h (ts.take k) ++ flatL h (ts.drop k) := by rw [← flatL_app, List.take_append_drop]
  rw [this, List.length_append]; omega

set_option maxRecDepth 100000 in
set_option maxHeartbeats 2000000 in
theorem above_i {w : World} {h : Nat} {a : Option Addr} {c n : Nat} {ts : List (El (h + 1))} {us : List Value} (hsl : Sl w a c us) (hul : us.length = ts.length) (hus : ∀ (i : Nat) (x : El (h + 1)) (y : Value), ts[i]? = some x → us[i]? = some y → InE w 118 (h + 1) x y) (hn : ts.length = n) (hl : n ≤ 1000000) (hf : (flatL (h + 1) ts).length ≤ 1000000) :
    Calls Try.prog 56 #[.slice a n c] w fun e w' => ∃ b, e = .returned (ptr b) ∧ RawN w.heap.size w' 118 (h + 1) us (flatL (h + 1) ts).length b ∧ Below w.heap.size w w' := by
  have H : Es w 118 (h + 1) ts a c := ⟨us, hsl, hul, hus⟩
  have HC := Lib.hid (clone_ni hsl (by omega))
  have HU := Lib.hid (And.intro hul hus)
  have HE := Lib.hid H
  have HN := Lib.hid hn
  have HF := Lib.hid (fun k => Nat.le_trans (flat_part (h := h + 1) (ts := ts) k) hf)
  rw [hul, hn] at HC
  clear H hn hsl hul hus
  go_enter Try.func56, Try.ntmps56
  go_wp2_with fail
  refine HC.out.mono ?_; rintro e w1 ⟨a', c', rfl, hs, hfr, hb⟩
  have HFR := Lib.hid hfr
  clear hfr
  have HB := Lib.hid hb
  have HS := Lib.hid hs
  have hz := hb.size
  clear hs hb HC
  go_upto_region 2 with fail
  have hh := heap_alloc_new w1 (Obj.cells #[.slice a' n c', .slice none 0 0, .int .i64 0] 118)
  have al := t_al w1 (Obj.cells #[.slice a' n c', .slice none 0 0, .int .i64 0] 118)
  generalize w1.alloc (Obj.cells #[.slice a' n c', .slice none 0 0, .int .i64 0] 118) = w2 at *
  have HH := Lib.hid hh
  have HAL := Lib.hid al
  clear hh al
  go_wp2_with fail
  go_loopw [5, 12] (fun v5 v12 wr => ∃ k : Nat, v12 = .int .i64 k ∧ k ≤ n ∧ wr.heap[w1.heap.size]? = some (.cells #[.slice a' n c', .slice none 0 0, .int .i64 ((flatL (h + 1) (ts.take k)).length : Nat)] 118 (0, 0)) ∧ Below w1.heap.size w1 wr) (fun _ i _ => n - (intOf i).toNat)
  case atStart => exact ⟨0, rfl, by omega, HH.out, HAL.out⟩
  case round =>
    obtain ⟨k, rfl, hk, hw, hbw⟩ := hrel
    have HW := Lib.hid hw
    have HBW := Lib.hid hbw
    by_cases hlt : k < n
    · have dk : decide (k < n) = true := decide_eq_true hlt
      have hkt : k < ts.length := by rw [HN.out]; exact hlt
      obtain ⟨g, o, rfl, hg⟩ := HE.out.has (by omega)
      have hx : ts[k]? = some ts[k] := List.getElem?_eq_getElem hkt
      obtain ⟨b', hcb, hin⟩ := HE.out.at hx
      have hb0 := HB.out.trans (hbw.mono hz)
      have c0 := (hb0.cell (p := ⟨g, o + k, none⟩) hg).trans hcb
      have c1 := (hb0.cell (p := ⟨b', 2, none⟩) hin.lt).trans hin.num
      have c2 : wr.cell? ⟨w1.heap.size, 2, none⟩ = some (.int .i64 ((flatL (h + 1) (ts.take k)).length : Nat)) := by rw [cell_at hw]; rfl
      have zz := fun i => unfrozen hw i
      have hne : b' ≠ w1.heap.size := by have := hin.lt; omega
      have hst := flat_take hx
      have HST := Lib.hid hst
      have hf1 := HF.out (k + 1)
      rw [hst] at hf1
      unfold ptr at c0
      clear hw hbw hcb hin hb0 hst hx
      generalize (flatL h ts[k]).length = q at *
      generalize hN0 : (flatL (h + 1) (ts.take k)).length = N0 at *
      have hw0 : IntKind.i64.wrap ((N0 : Int) + (q : Int)) = ((N0 + q : Nat) : Int) := by rw [IntKind.wrap_i64]; omega
      have e0 : (0 : Int) ≤ (k : Int) := by omega
      have e1 : (k : Int) < (n : Int) := by omega
      go_wp2_with fail
      go_region
      all_goals
        go_wp2_with fail
        have h1 := heap_set_at (o := 2) (u := .int .i64 ((N0 + q : Nat) : Int)) HW.out
        have h2 := HBW.out.setCell (p := ⟨w1.heap.size, 2, none⟩) (Nat.le_refl _) (.int .i64 ((N0 + q : Nat) : Int))
        go_roundw
        case rel => exact ⟨k + 1, by go_num, hlt, by rw [HST.out]; exact h1, h2.drew⟩
        case measure => simp [intOf]; omega
    · have dk : decide (k < n) = false := decide_eq_false hlt
      have hkn : k = n := by omega
      subst hkn
      have htk : ts.take k = ts := by rw [← HN.out]; exact List.take_length
      rw [htk] at hw
      have HW2 := Lib.hid hw
      clear hw hbw
      go_wp2_with fail
      go_ret
      refine ⟨w1.heap.size, rfl, ⟨a', c', ?_, HS.out.below HBW.out, hz, fun d hd => ⟨(HFR.out d hd).1, (HFR.out d hd).2.below HBW.out⟩⟩, HB.out.trans (HBW.out.mono hz)⟩
      rw [HU.out.1, HN.out]; exact HW2.out

end Go.Proofs.Ytkgakgceamafcaa
