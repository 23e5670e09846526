/-
  Texts of layer 8, put together (a claim holds few texts): WlA, WlB, WlC, WlD, WlE, WlF, WlG, WlH.
-/
import Derived.Test.YtofncnommekbjaaWkC
import Derived.Laws.MakeOwn
import Derived.Laws.OwnMore
import Derived.Test.YtofncnommekbjaaWkE
import Derived.Sort.LoopGhostIn
import Derived.Maps.OwnIn
namespace Go.Proofs.Ytofncnommekbjaa
open Go Go.RowKit Go.Shelf
set_option linter.unusedVariables false

abbrev Leaf := Nat × Nat × List Value
/-- A node: its block, the number of the first thing below it, how many things, how many nodes, and the leaves. -/
structure Ent where
  b : Nat
  f : Nat
  n : Nat
  m : Nat
  ls : List Leaf
def sumN (es : List Ent) : Nat := (es.map (·.n)).sum
def sumM (es : List Ent) : Nat := (es.map (·.m)).sum
theorem sumN_app (a b : List Ent) : sumN (a ++ b) = sumN a + sumN b := by unfold sumN; rw [List.map_append, List.sum_append]
theorem sumM_app (a b : List Ent) : sumM (a ++ b) = sumM a + sumM b := by unfold sumM; rw [List.map_append, List.sum_append]
theorem sumN_one (a : Ent) : sumN [a] = a.n := by simp [sumN]
theorem sumM_one (a : Ent) : sumM [a] = a.m := by simp [sumM]
theorem sumM_rev (a : List Ent) : sumM a.reverse = sumM a := by
  induction a with
  | nil => rfl
  | cons x a ih => rw [List.reverse_cons, sumM_app, ih, sumM_one]; show _ = (x.m :: a.map (·.m)).sum; rw [List.sum_cons]; unfold sumM; omega
theorem sumN_take (es : List Ent) (k : Nat) : sumN (es.take k) ≤ sumN es := by
  have : sumN es = sumN (es.take k) + sumN (es.drop k) := by rw [← sumN_app, List.take_append_drop]
  omega
theorem sumN_succ {es : List Ent} {k : Nat} {x : Ent} (h : es[k]? = some x) : sumN (es.take (k + 1)) = sumN (es.take k) + x.n := by
  rw [← take_snoc h, sumN_app, sumN_one]

/-- An entry that stands for a node, so many nodes above the leaves. -/
def Node (w : World) (T : TypeId) : Nat → Ent → Prop
  | 0, e => ∃ t : List Value, In w T 0 t e.b ∧ 0 < t.length ∧ e.n = t.length ∧ e.m = 1 ∧ e.ls = [(e.b, e.f, t)]
  | h + 1, e => ∃ (g o c : Nat) (es : List Ent), 0 < es.length ∧ es.length ≤ c ∧ c ≤ maxLen ∧ e.b < w.heap.size ∧ g < w.heap.size ∧ w.cell? ⟨e.b, 0, none⟩ = some (.slice (some ⟨g, o, none⟩) es.length c) ∧ w.cell? ⟨e.b, 2, none⟩ = some (.int .i64 e.n) ∧
      e.n = sumN es ∧ e.m = sumM es + 1 ∧ e.ls = es.flatMap (·.ls) ∧
      ∀ k x, es[k]? = some x → w.cell? ⟨g, o + k, none⟩ = some (ptr x.b) ∧ x.f = e.f + sumN (es.take k) ∧ Node w T h x

theorem list_pick {α : Type} (P : Nat → α → Prop) : ∀ n : Nat, (∀ k, k < n → ∃ x, P k x) → ∃ l : List α, l.length = n ∧ ∀ k x, l[k]? = some x → P k x
  | 0, _ => ⟨[], rfl, fun k x h => by simp at h⟩
  | n + 1, h => by
    obtain ⟨l, hl, hp⟩ := list_pick P n (fun k hk => h k (by omega))
    obtain ⟨x, hx⟩ := h n (by omega)
    refine ⟨l ++ [x], by simp [hl], fun k y hy => ?_⟩
    rcases Nat.lt_or_ge k n with hk | hk
    · rw [List.getElem?_append_left (by omega)] at hy
      exact hp k y hy
    · rw [List.getElem?_append_right (by omega), hl] at hy
      have : k - n = 0 := by
        rcases Nat.eq_zero_or_pos (k - n) with h0 | h0
        · exact h0
        · rw [List.getElem?_eq_none (by simp; omega)] at hy; cases hy
      rw [this] at hy
      simp at hy
      have hkn : k = n := by omega
      rw [hkn, ← hy]
      exact hx

/-- Leaves, one behind the other, from a number on. -/
def Run (w : World) (T : TypeId) : Nat → List Leaf → Prop
  | _, [] => True
  | f, x :: ls => x.2.1 = f ∧ In w T 0 x.2.2 x.1 ∧ 0 < x.2.2.length ∧ Run w T (f + x.2.2.length) ls
def tot (ls : List Leaf) : Nat := (ls.map (·.2.2.length)).sum
theorem tot_app (a b : List Leaf) : tot (a ++ b) = tot a + tot b := by unfold tot; rw [List.map_append, List.sum_append]
theorem tot_cons (x : Leaf) (a : List Leaf) : tot (x :: a) = x.2.2.length + tot a := by unfold tot; rw [List.map_cons, List.sum_cons]
theorem Run.app {w : World} {T : TypeId} : ∀ {a b : List Leaf} {f : Nat}, Run w T f a → Run w T (f + tot a) b → Run w T f (a ++ b)
  | [], b, f, _, h => by simpa [tot] using h
  | x :: a, b, f, h1, h2 => by
    obtain ⟨e1, e2, e3, e4⟩ := h1
    refine ⟨e1, e2, e3, Run.app e4 ?_⟩
    rw [tot_cons] at h2
    rw [Nat.add_assoc]; exact h2

theorem node_run {w : World} {T : TypeId} : ∀ {h : Nat} {e : Ent}, Node w T h e → Run w T e.f e.ls ∧ tot e.ls = e.n ∧ 0 < e.n ∧ 0 < e.m
  | 0, e, ⟨t, h1, h2, h3, h4, h5⟩ => by
    rw [h5]
    exact ⟨⟨rfl, h1, h2, trivial⟩, by simp [tot, h3], by omega, by omega⟩
  | h + 1, e, ⟨g, o, c, es, h0, _, _, _, _, _, _, h3, h4, h5, h6⟩ => by
    have key : ∀ k, k ≤ es.length → Run w T e.f ((es.take k).flatMap (·.ls)) ∧ tot ((es.take k).flatMap (·.ls)) = sumN (es.take k) ∧ (0 < k → 0 < sumN (es.take k)) := by
      intro k
      induction k with
      | zero => intro _; exact ⟨trivial, rfl, fun h => absurd h (by omega)⟩
      | succ k ih =>
        intro hk
        obtain ⟨i1, i2, i3⟩ := ih (by omega)
        obtain ⟨x, hx⟩ : ∃ x, es[k]? = some x := ⟨_, List.getElem?_eq_getElem (by omega)⟩
        obtain ⟨x1, x2, x3⟩ := h6 k x hx
        obtain ⟨y1, y2, y3, y4⟩ := node_run x3
        rw [sumN_succ hx, ← take_snoc hx, List.flatMap_append]
        simp only [List.flatMap_cons, List.flatMap_nil, List.append_nil]
        refine ⟨i1.app ?_, by rw [tot_app, i2, y2], fun _ => by omega⟩
        rw [i2, ← x2]; exact y1
    obtain ⟨k1, k2, k3⟩ := key es.length (Nat.le_refl _)
    rw [List.take_length] at k1 k2 k3
    rw [h5, h3]
    exact ⟨k1, k2, k3 h0, by omega⟩

/-- Does a leaf have something of the stretch? -/
def inR (i j : Nat) (x : Leaf) : Bool := decide (x.2.1 < j) && decide (i < x.2.1 + x.2.2.length)
theorem run_out {w : World} {T : TypeId} {i j : Nat} : ∀ {ls : List Leaf} {f : Nat}, Run w T f ls → (j ≤ f ∨ f + tot ls ≤ i) → ls.filter (inR i j) = []
  | [], _, _, _ => rfl
  | x :: ls, f, ⟨e1, e2, e3, e4⟩, h => by
    rw [tot_cons] at h
    have hx : inR i j x = false := by
      unfold inR
      rw [e1]
      rcases h with h | h
      · rw [decide_eq_false (by omega)]; rfl
      · rw [decide_eq_false (show ¬ i < f + x.2.2.length by omega)]; simp
    rw [List.filter_cons, hx]
    exact run_out e4 (by omega)
theorem run_at {w : World} {T : TypeId} : ∀ {ls : List Leaf} {f : Nat} {x : Leaf}, Run w T f ls → x ∈ ls → In w T 0 x.2.2 x.1 ∧ 0 < x.2.2.length
  | y :: ls, f, x, ⟨e1, e2, e3, e4⟩, h => by
    rcases List.mem_cons.1 h with rfl | h
    · exact ⟨e2, e3⟩
    · exact run_at e4 h

/-- Forward, or the last one first. -/
def dirL {α : Type} (d : Bool) (l : List α) : List α := if d then l else l.reverse
theorem dirL_one {α : Type} (d : Bool) (x : α) : dirL d [x] = [x] := by cases d <;> rfl
theorem dirL_nil {α : Type} (d : Bool) : dirL d ([] : List α) = [] := by cases d <;> rfl
theorem dirL_len {α : Type} (d : Bool) (l : List α) : (dirL d l).length = l.length := by cases d <;> simp [dirL]
/-- How kids lie on the stack. -/
def pile (d : Bool) (es : List Ent) : List Ent := dirL (!d) es
/-- What is still to come from a stack. -/
def remL (d : Bool) (i j : Nat) (stk : List Ent) : List Leaf := stk.reverse.flatMap fun e => dirL d (e.ls.filter (inR i j))
theorem remL_snoc (d : Bool) (i j : Nat) (stk : List Ent) (e : Ent) : remL d i j (stk ++ [e]) = dirL d (e.ls.filter (inR i j)) ++ remL d i j stk := by
  unfold remL
  rw [List.reverse_append, List.reverse_singleton, List.flatMap_append, List.flatMap_cons, List.flatMap_nil, List.append_nil]
theorem remL_app (d : Bool) (i j : Nat) (a b : List Ent) : remL d i j (a ++ b) = remL d i j b ++ remL d i j a := by
  unfold remL
  rw [List.reverse_append, List.flatMap_append]
theorem filter_flat {α β : Type} (p : β → Bool) (g : α → List β) : ∀ l : List α, (l.flatMap g).filter p = l.flatMap fun x => (g x).filter p
  | [] => rfl
  | x :: l => by rw [List.flatMap_cons, List.filter_append, List.flatMap_cons, filter_flat p g l]
theorem rev_flat {α β : Type} (g : α → List β) : ∀ l : List α, (l.flatMap g).reverse = l.reverse.flatMap fun x => (g x).reverse
  | [] => rfl
  | x :: l => by rw [List.flatMap_cons, List.reverse_append, List.reverse_cons, List.flatMap_append, rev_flat g l, List.flatMap_cons, List.flatMap_nil, List.append_nil]
theorem remL_pile (d : Bool) (i j : Nat) (es : List Ent) : remL d i j (pile d es) = dirL d ((es.flatMap (·.ls)).filter (inR i j)) := by
  unfold remL pile
  rw [filter_flat]
  cases d
  · simp only [dirL, Bool.not_false, if_true, Bool.false_eq_true, if_false]
    rw [rev_flat]
  · simp only [dirL, Bool.not_true, if_true, Bool.false_eq_true, if_false, List.reverse_reverse]

theorem node_zero {w : World} {T : TypeId} {t : List Value} {b : Nat} (f : Nat) (H : In w T 0 t b) (h0 : 0 < t.length) : ∃ e : Ent, e.b = b ∧ e.f = f ∧ e.n = (flatL 0 t).length ∧ Node w T 0 e ∧ e.ls.flatMap (·.2.2) = flatL 0 t ∧ e.m + 1 ≤ 2 * e.n := by
  rw [flatL_zero]
  exact ⟨⟨b, f, t.length, 1, [(b, f, t)]⟩, rfl, rfl, rfl, ⟨t, H, h0, rfl, rfl, rfl⟩, List.append_nil t, by show 1 + 1 ≤ 2 * t.length; omega⟩
theorem node_of {w : World} {T : TypeId} : ∀ (h : Nat) {lo : Nat} {t : List (El h)} {b : Nat} (f : Nat), 1 ≤ lo → (0 < h → 2 ≤ lo) → In w T h t b → Ok lo h t → ∃ e : Ent, e.b = b ∧ e.f = f ∧ e.n = (flatL h t).length ∧ Node w T h e ∧ e.ls.flatMap (·.2.2) = flatL h t ∧ e.m + 1 ≤ 2 * e.n
  | 0, lo, t, b, f, hlo, _, H, hok => node_zero (t := t) f H (show 0 < List.length t from by have hl := hok.len; omega)
  | h + 1, lo, t, b, f, hlo, hlo2, H, hok => by
    have hl := hok.len
    obtain ⟨a, c, k0, _, hes⟩ := H.kids
    obtain ⟨g, o, rfl, hg⟩ := hes.has (by omega)
    have hcap := hes.cap
    obtain ⟨es, e1, e2⟩ := list_pick (fun k (x : Ent) => w.cell? ⟨g, o + k, none⟩ = some (ptr x.b) ∧ x.f = f + (flatL (h + 1) (t.take k)).length ∧ x.n = (flatL h (nth t k)).length ∧ Node w T h x ∧ x.ls.flatMap (·.2.2) = flatL h (nth t k) ∧ x.m + 1 ≤ 2 * x.n) t.length (fun k hk => by
      obtain ⟨bk, q1, q2⟩ := hes.at (nth_at hk)
      obtain ⟨e, r1, r2, r3, r4, r5, r6⟩ := node_of h (f + (flatL (h + 1) (t.take k)).length) (by omega) (fun _ => by omega) q2 (hok.oks k hk)
      exact ⟨e, by rw [r1]; exact q1, r2, r3, r4, r5, r6⟩)
    have key : ∀ k, k ≤ es.length → (sumM (es.take k) + k ≤ 2 * sumN (es.take k)) ∧ sumN (es.take k) = (flatL (h + 1) (t.take k)).length ∧ ((es.take k).flatMap (·.ls)).flatMap (·.2.2) = flatL (h + 1) (t.take k) := by
      intro k
      induction k with
      | zero => intro _; exact ⟨by simp [sumM, sumN], rfl, rfl⟩
      | succ k ih =>
        intro hk
        obtain ⟨i0, i1, i2⟩ := ih (by omega)
        obtain ⟨x, hx⟩ : ∃ x, es[k]? = some x := ⟨_, List.getElem?_eq_getElem (by omega)⟩
        obtain ⟨_, _, x3, _, x5, x6⟩ := e2 k x hx
        refine ⟨by rw [sumN_succ hx, ← take_snoc hx, sumM_app, sumM_one]; omega, ?_⟩
        have ht : t.take (k + 1) = t.take k ++ [mk1 (nth t k)] := (take_snoc (nth_at (by omega))).symm
        have hf : flatL (h + 1) [mk1 (nth t k)] = flatL h (nth t k) := by rw [flatL_cons, flatL_nil, List.append_nil]; rfl
        rw [sumN_succ hx, ht, flatL_app, hf, ← take_snoc hx, List.flatMap_append, List.flatMap_append, List.length_append, i1, i2, x3]
        simp only [List.flatMap_cons, List.flatMap_nil, List.append_nil]
        exact ⟨by first | trivial | rfl, by rw [x5]⟩
    obtain ⟨k0', k1, k2⟩ := key es.length (Nat.le_refl _)
    rw [List.take_length] at k0'
    rw [List.take_length, e1, List.take_length] at k1 k2
    refine ⟨⟨b, f, (flatL (h + 1) t).length, sumM es + 1, es.flatMap (·.ls)⟩, rfl, rfl, rfl, ⟨g, o, c, es, by omega, by omega, by omega, H.lt, hg, by rw [e1]; exact k0, H.num, k1.symm, rfl, rfl, fun k x hx => ?_⟩, k2, by show sumM es + 1 + 1 ≤ 2 * (flatL (h + 1) t).length; have := hlo2 (by omega); omega⟩
    obtain ⟨q1, q2, q3, q4, q5, q6⟩ := e2 k x hx
    exact ⟨q1, by rw [q2, (key k (by have := (List.getElem?_eq_some_iff.1 hx).1; omega)).2.1], q4⟩

/-- The cells of some spots. -/
def spC (es : List Ent) : List Value := es.flatMap fun x => [ptr x.b, .int .i64 (x.f : Int)]
theorem spC_app (a b : List Ent) : spC (a ++ b) = spC a ++ spC b := by unfold spC; rw [List.flatMap_append]
theorem spC_len (a : List Ent) : (spC a).length = a.length * 2 := by
  induction a with
  | nil => rfl
  | cons x a ih => unfold spC at *; rw [List.flatMap_cons, List.length_append, ih, List.length_cons]; simp; omega
theorem spC_one (a : List Ent) : ∀ u ∈ spC a, u.oneCell' = true := fun u hu => by
  unfold spC at hu
  obtain ⟨x, _, h⟩ := List.mem_flatMap.1 hu
  simp at h
  rcases h with rfl | rfl <;> rfl
theorem spC_at {a : List Ent} {k : Nat} {x : Ent} (h : a[k]? = some x) : (spC a)[k * 2]? = some (ptr x.b) ∧ (spC a)[k * 2 + 1]? = some (.int .i64 (x.f : Int)) := by
  have hk := (List.getElem?_eq_some_iff.1 h).1
  have e : a = a.take k ++ x :: a.drop (k + 1) := by
    rw [List.getElem?_eq_getElem hk] at h
    injection h with h
    rw [← h, List.getElem_cons_drop, List.take_append_drop]
  have hl : (spC (a.take k)).length = k * 2 := by rw [spC_len, List.length_take, Nat.min_eq_left (by omega)]
  rw [e, spC_app]
  constructor
  · rw [List.getElem?_append_right (by omega), hl, Nat.sub_self]; rfl
  · rw [List.getElem?_append_right (by omega), hl, show k * 2 + 1 - k * 2 = 1 by omega]; rfl
def mkS (es : List Ent) (m : Nat) : Array Value := (spC es ++ spC (List.replicate (m - es.length) ⟨0, 0, 0, 0, []⟩)).toArray
def zeroS (m : Nat) : List Value := (List.replicate m [Value.pointer none, Value.int .i64 0]).flatten
theorem zeroS_succ (m : Nat) : zeroS (m + 1) = Value.pointer none :: Value.int .i64 0 :: zeroS m := by unfold zeroS; rw [List.replicate_succ, List.flatten_cons]; rfl
def mkZ (es : List Ent) (m : Nat) : Array Value := (spC es ++ zeroS (m - es.length)).toArray
theorem set2_app {A B : List Value} {u v u' v' : Value} {k : Nat} (h : A.length = k) : ((A ++ u :: v :: B).toArray.setIfInBounds k u').setIfInBounds (k + 1) v' = (A ++ u' :: v' :: B).toArray := by
  subst h
  rw [List.setIfInBounds_toArray, List.setIfInBounds_toArray, List.set_append_right _ _ (Nat.le_refl _), Nat.sub_self, List.set_cons_zero, List.set_append_right _ _ (by omega), show A.length + 1 - A.length = 1 by omega]
  rfl
theorem mkZ_set {es : List Ent} {m k : Nat} (hk : es.length = k) (h : k < m) (x : Ent) : ((mkZ es m).setIfInBounds (k * 2) (ptr x.b)).setIfInBounds (k * 2 + 1) (.int .i64 (x.f : Int)) = mkZ (es ++ [x]) m := by
  unfold mkZ
  rw [hk, show m - k = (m - (k + 1)) + 1 by omega, zeroS_succ, set2_app (by rw [spC_len, hk]), List.length_append, hk, spC_app, List.append_assoc]
  rfl
theorem mkZ_at {es : List Ent} {m k : Nat} (hk : es.length = k) (h : k < m) : (mkZ es m)[k * 2]? = some (.pointer none) ∧ (mkZ es m)[k * 2 + 1]? = some (.int .i64 0) := by
  unfold mkZ
  have hl : (spC es).length = k * 2 := by rw [spC_len, hk]
  rw [hk, show m - k = (m - (k + 1)) + 1 by omega, zeroS_succ, List.getElem?_toArray, List.getElem?_toArray]
  constructor
  · rw [List.getElem?_append_right (by omega), hl, Nat.sub_self]; rfl
  · rw [List.getElem?_append_right (by omega), hl, show k * 2 + 1 - k * 2 = 1 by omega]; rfl
theorem mkZ_full {es : List Ent} {m : Nat} (h : es.length = m) : mkZ es m = (spC es).toArray := by
  unfold mkZ
  rw [h, Nat.sub_self]
  show (spC es ++ []).toArray = _
  rw [List.append_nil]
theorem made_spots (m : Nat) : (madeCells #[.pointer none, .int .i64 0] (m * 2)).toList = zeroS m := by
  apply List.ext_getElem?
  intro j
  have hz : ∀ m, (zeroS m).length = m * 2 := fun m => by
    induction m with
    | zero => rfl
    | succ m ih => rw [zeroS_succ, List.length_cons, List.length_cons, ih]; omega
  by_cases hj : j < m * 2
  · have e : (madeCells #[Value.pointer none, .int .i64 0] (m * 2)).toList[j]? = some (#[Value.pointer none, .int .i64 0][j % 2]!) := by simp [madeCells, hj]
    have e2 : ∀ m j, j < m * 2 → (zeroS m)[j]? = some (#[Value.pointer none, .int .i64 0][j % 2]!) := fun m => by
      induction m with
      | zero => intro j h; omega
      | succ m ih =>
        intro j h
        rw [zeroS_succ]
        match j, h with
        | 0, _ => rfl
        | 1, _ => rfl
        | j + 2, h => rw [List.getElem?_cons_succ, List.getElem?_cons_succ, ih j (by omega), Nat.add_mod_right]
    rw [e, e2 m j hj]
  · rw [List.getElem?_eq_none (by simp [size_madeCells]; omega), List.getElem?_eq_none (by rw [hz]; omega)]
theorem own_whole {w : World} {B g m s : Nat} {e : TypeId} {xs : List Value} (h : w.ownsRow B e s (.slice (some ⟨g, 0, none⟩) m m) m xs) : w.heap[g]? = some (.cells xs.toArray e (0, 0)) ∧ B ≤ g := by
  rcases h.2 with ⟨h1, _⟩ | ⟨g', cap, cur, h1, hb, hg, h3, h4, h5, h6⟩
  · cases h1
  · simp only [Value.slice.injEq, Option.some.injEq, Addr.mk.injEq] at h1
    obtain ⟨⟨rfl, _⟩, _, rfl⟩ := h1
    rw [List.take_of_length_le (by simp; omega)] at h6
    rw [← h6]
    exact ⟨hg, hb⟩
theorem info_sp : (Try.prog.info? 110).map (fun i => (i.zero, i.size, i.bytes)) = some (some (.agg #[.pointer none, .int .i64 0]), 2, 16) := by kernel_rfl

set_option maxRecDepth 100000 in
set_option maxHeartbeats 2000000 in
theorem kids_i {w w0 : World} {b f g o c h : Nat} {es : List Ent} (hw : Below w0.heap.size w0 w) (hb : b < w0.heap.size) (hg : g < w0.heap.size) (k0 : w0.cell? ⟨b, 0, none⟩ = some (.slice (some ⟨g, o, none⟩) es.length c)) (hl : es.length ≤ 1000000) (h0 : 0 < es.length) (hf : f + sumN es ≤ 2000000)
    (hk : ∀ k x, es[k]? = some x → w0.cell? ⟨g, o + k, none⟩ = some (ptr x.b) ∧ x.f = f + sumN (es.take k) ∧ w0.cell? ⟨x.b, 2, none⟩ = some (.int .i64 x.n) ∧ x.b < w0.heap.size) :
    Calls Try.prog 104 #[spotV b f] w fun e w' => ∃ g', e = .returned (.slice (some ⟨g', 0, none⟩) es.length es.length) ∧ w.heap.size ≤ g' ∧ w'.heap[g']? = some (.cells (spC es).toArray 110 (0, 0)) ∧ Below w.heap.size w w' := by
  obtain ⟨i0, hi0, hz0, hz1, hz2⟩ := info_parts info_sp
  have hh := heap_alloc_new w (Obj.cells #[ptr b, .int .i64 (f : Int)] 110)
  have al := t_al w (Obj.cells #[ptr b, .int .i64 (f : Int)] 110)
  have hsz : (w.alloc (Obj.cells #[ptr b, .int .i64 (f : Int)] 110)).heap.size = w.heap.size + 1 := by simp
  obtain ⟨w1, hw1⟩ : ∃ w1, w.alloc (Obj.cells #[ptr b, .int .i64 (f : Int)] 110) = w1 := ⟨_, rfl⟩
  rw [hw1] at hh al hsz
  have c0 : w1.cell? ⟨w.heap.size, 0, none⟩ = some (ptr b) := (cell_at hh 0).trans rfl
  have c1 : w1.cell? ⟨w.heap.size, 1, none⟩ = some (.int .i64 (f : Int)) := (cell_at hh 1).trans rfl
  have hw01 := hw.trans (al.mono hw.size)
  have hws := hw.size
  have kb := (hw01.cell (p := ⟨b, 0, none⟩) hb).trans k0
  obtain ⟨m, hm⟩ : ∃ m, es.length = m := ⟨_, rfl⟩
  have HM := Lib.hid hm
  have HK := Lib.hid hk
  rw [hm] at kb hl h0 ⊢
  clear k0 hk hm
  go_enter Try.func104, Try.ntmps104
  simp only [spotV]
  go_wp2_with (at_make; refine wpList_make_full _ rfl _ _ 108 rfl w.heap.size 110 i0 (.agg #[.pointer none, .int .i64 0]) 2 Try.underlying108 hi0 hz0 hz1 .i64 .i64 _ _ m rfl rfl rfl rfl ?b2 ?b3 ?b4 ?_)
  case b2 => rw [hz2]; omega
  case b3 => unfold maxLen; omega
  case b4 => omega
  intro w3 hown hgrow
  rw [show (madeCells #[Value.pointer none, .int .i64 0] (m * 2)).toList = zeroS m from made_spots m] at hown
  obtain ⟨hg3, _⟩ := own_whole hown
  have hb3 := (Below.refl w1.heap.size w1).grown hgrow (Nat.le_refl _) (by simp)
  obtain ⟨G, hG⟩ : ∃ G, w.heap.size + 1 = G := ⟨_, rfl⟩
  have c0 := (hb3.cell (p := ⟨w.heap.size, 0, none⟩) (by show w.heap.size < _; omega)).trans c0
  have kb := (hb3.cell (p := ⟨b, 0, none⟩) (show b < w1.heap.size by omega)).trans kb
  have hbox := (hb3.block w.heap.size (by omega)).trans hh
  have hbw := al.trans (hb3.mono al.size)
  have HS := Lib.hid (And.intro hg3 (And.intro hbox hbw))
  rw [hG]
  rw [hG] at HS
  clear hown hgrow hg3 hb3 hbox hbw hh al hw1 hw01 c1
  go_wp2_with fail
  go_loopw [19] (fun v wr => ∃ k : Nat, v = .int .i64 k ∧ k ≤ m ∧ wr.heap[w.heap.size]? = some (.cells #[ptr b, .int .i64 ((f + sumN (es.take k) : Nat) : Int)] 110 (0, 0)) ∧ wr.heap[G]? = some (.cells (mkZ (es.take k) m) 110 (0, 0)) ∧ Below w.heap.size w wr) (fun v _ => m - (intOf v).toNat)
  case atStart => exact ⟨0, rfl, Nat.zero_le _, HS.out.2.1, HS.out.1, HS.out.2.2⟩
  case round =>
    obtain ⟨k, rfl, hkm, hx, hy, hbr⟩ := hrel
    have hw0r := hw.trans (hbr.mono hws)
    by_cases hlt : k < m
    · have d0 : decide (k < m) = true := decide_eq_true hlt
      obtain ⟨x, hxk⟩ : ∃ x, es[k]? = some x := ⟨_, List.getElem?_eq_getElem (by rw [HM.out]; exact hlt)⟩
      obtain ⟨e1, e2, e3, e4⟩ := HK.out k x hxk
      have q1 := (hw0r.cell (p := ⟨g, o + k, none⟩) hg).trans e1
      have q2 := (hw0r.cell (p := ⟨x.b, 2, none⟩) e4).trans e3
      have b0 : wr.cell? ⟨w.heap.size, 0, none⟩ = some (ptr b) := (cell_at hx 0).trans rfl
      have b1 : wr.cell? ⟨w.heap.size, 1, none⟩ = some (.int .i64 ((f + sumN (es.take k) : Nat) : Int)) := (cell_at hx 1).trans rfl
      have HX := Lib.hid (And.intro hx (And.intro hy hbr))
      have HT := Lib.hid (And.intro hxk e2)
      have hsum := sumN_succ hxk
      have hle := sumN_take es (k + 1)
      obtain ⟨s, hs⟩ : ∃ s : Nat, f + sumN (es.take k) = s := ⟨_, rfl⟩
      rw [hs] at b1 HX HT
      obtain ⟨xb, hxb⟩ : ∃ xb, x.b = xb := ⟨_, rfl⟩
      obtain ⟨xn, hxn⟩ : ∃ xn, x.n = xn := ⟨_, rfl⟩
      rw [hxn] at q2 hsum
      rw [hxb] at q1 q2 e4
      have hsx : s + xn ≤ 2000000 := by omega
      have zz1 := fun i => unfrozen hx i
      have zz2 := fun i => unfrozen hy i
      have hbl : xb ≠ w.heap.size := by omega
      have hkl : (es.take k).length = k := by rw [List.length_take, HM.out]; omega
      obtain ⟨p1, p2⟩ := mkZ_at (m := m) hkl hlt
      have g1 : wr.cell? ⟨G, k * 2, none⟩ = some (.pointer none) := by rw [cell_at hy]; exact p1
      have g2 : wr.cell? ⟨G, k * 2 + 1, none⟩ = some (.int .i64 0) := by rw [cell_at hy]; exact p2
      have hGb : G ≠ xb := by omega
      have hGg : G ≠ g := by omega
      have hGw : G ≠ w.heap.size := by omega
      have hGe : w.heap.size ≤ G := by omega
      have HSs := Lib.hid hs
      clear hx hy hbr hw0r hxk e1 e2 e3 hs p1 p2 hG
      go_wp2_with fail
      have h1 := heap_set_at (o := k * 2 + 1) (u := Value.int .i64 (s : Int)) (heap_set_at (o := k * 2) (u := ptr xb) HX.out.2.1)
      have h2 := mkZ_set hkl hlt x
      rw [hxb, HT.out.2] at h2
      rw [h2, take_snoc HT.out.1] at h1
      have h3 := (heap_set_other (w := wr.setCell ⟨G, k * 2, none⟩ (ptr xb)) (o := k * 2 + 1) (u := Value.int .i64 (s : Int)) (show w.heap.size ≠ G by omega)).trans ((heap_set_other (w := wr) (o := k * 2) (u := ptr xb) (show w.heap.size ≠ G by omega)).trans HX.out.1)
      have h4 := (HX.out.2.2.setCell (p := ⟨G, k * 2, none⟩) (show w.heap.size ≤ G by omega) (ptr xb)).setCell (p := ⟨G, k * 2 + 1, none⟩) (show w.heap.size ≤ G by omega) (Value.int .i64 (s : Int))
      have h5 : ((wr.setCell ⟨G, k * 2, none⟩ (ptr xb)).setCell ⟨G, k * 2 + 1, none⟩ (Value.int .i64 (s : Int))).cell? ⟨xb, 2, none⟩ = some (.int .i64 xn) := by
        rw [World.cell?_setCell_other (h := by intro e; injection e with e1 e2; exact hGb e1), World.cell?_setCell_other (h := by intro e; injection e with e1 e2; exact hGb e1)]; exact q2
      have e5 : ((s + xn : Nat) : Int) = (s : Int) + (xn : Int) := by omega
      obtain ⟨w4, hw4⟩ : ∃ w4, (wr.setCell ⟨G, k * 2, none⟩ (ptr xb)).setCell ⟨G, k * 2 + 1, none⟩ (Value.int .i64 (s : Int)) = w4 := ⟨_, rfl⟩
      rw [hw4] at h1 h3 h4 h5 ⊢
      have b0 : w4.cell? ⟨w.heap.size, 0, none⟩ = some (ptr b) := (cell_at h3 0).trans rfl
      have b1 : w4.cell? ⟨w.heap.size, 1, none⟩ = some (.int .i64 (s : Int)) := (cell_at h3 1).trans rfl
      have zz3 := fun i => unfrozen h3 i
      have H4 := Lib.hid (And.intro h1 (And.intro h3 h4))
      clear h1 h2 h3 h4 hw4 HX
      have e6 : f + sumN (es.take (k + 1)) = s + xn := by rw [sumN_succ HT.out.1, hxn]; have := HSs.out; omega
      have E6 := Lib.hid (And.intro e6 e5)
      clear e6 e5 hkl hsum hle hxb hxn hkm q2 g1 g2
      go_region
      all_goals
        go_wp2_with fail
        go_roundw
        case rel =>
          refine ⟨k + 1, by go_num, by omega, ?_, (heap_set_other (w := w4) (o := 1) (u := Value.int .i64 ((s : Int) + (xn : Int))) (show G ≠ w.heap.size by omega)).trans H4.out.1, (H4.out.2.2.setCell (p := ⟨w.heap.size, 1, none⟩) (Nat.le_refl _) _).drew⟩
          rw [E6.out.1, E6.out.2]
          exact heap_set_at (w := w4) (o := 1) (u := Value.int .i64 ((s : Int) + (xn : Int))) H4.out.2.1
        case measure => simp [intOf]; omega
    · have d0 : decide (k < m) = false := decide_eq_false hlt
      have hkm' : k = m := by omega
      subst hkm'
      rw [List.take_of_length_le (by rw [HM.out]; omega), mkZ_full HM.out] at hy
      have HY := Lib.hid (And.intro hy hbr)
      clear hx hy hbr hw0r
      go_wp2_with fail
      go_ret
      exact ⟨G, rfl, by omega, HY.out.1, HY.out.2⟩

theorem spC_set {es : List Ent} {k : Nat} (hk : k < es.length) (x : Ent) : ((spC es).toArray.setIfInBounds (k * 2) (ptr x.b)).setIfInBounds (k * 2 + 1) (.int .i64 (x.f : Int)) = (spC (es.set k x)).toArray := by
  have e : es = es.take k ++ es[k] :: es.drop (k + 1) := by rw [List.getElem_cons_drop, List.take_append_drop]
  have hl : (es.take k).length = k := by rw [List.length_take]; omega
  have hs : es.set k x = es.take k ++ x :: es.drop (k + 1) := by
    conv => lhs; rw [e]
    rw [List.set_append_right _ _ (by omega), hl, Nat.sub_self]; rfl
  have h1 : spC es = spC (es.take k) ++ ptr es[k].b :: Value.int .i64 (es[k].f : Int) :: spC (es.drop (k + 1)) := by
    conv => lhs; rw [e]
    rw [spC_app]; rfl
  rw [h1, set2_app (by rw [spC_len, hl]), hs, spC_app]
  rfl
/-- Half turned over. -/
def Half (es es' : List Ent) (k : Nat) : Prop := es'.length = es.length ∧ ∀ x, x < es.length → es'[x]? = if x < k ∨ es.length - k ≤ x then es[es.length - 1 - x]? else es[x]?
theorem Half.zero (es : List Ent) : Half es es 0 := ⟨rfl, fun x hx => by rw [if_neg (by omega)]⟩
theorem Half.done {es es' : List Ent} {k : Nat} (h : Half es es' k) (hk : es.length ≤ 2 * k + 1) : es' = es.reverse := by
  apply List.ext_getElem?
  intro x
  by_cases hx : x < es.length
  · rw [h.2 x hx, List.getElem?_reverse hx]
    by_cases hc : x < k ∨ es.length - k ≤ x
    · rw [if_pos hc]
    · rw [if_neg hc, show es.length - 1 - x = x by omega]
  · rw [List.getElem?_eq_none (by rw [h.1]; omega), List.getElem?_eq_none (by rw [List.length_reverse]; omega)]
theorem Half.step {es es' : List Ent} {k q : Nat} {u v : Ent} (h : Half es es' k) (hq : q = es.length - 1 - k) (hk : 2 * k + 1 < es.length) (hu : es'[k]? = some u) (hv : es'[q]? = some v) : Half es ((es'.set k v).set q u) (k + 1) := by
  subst hq
  refine ⟨by simp [h.1], fun x hx => ?_⟩
  have hkk := h.2 k (by omega)
  have hqq := h.2 (es.length - 1 - k) (by omega)
  rw [if_neg (by omega)] at hkk hqq
  by_cases h1 : x = es.length - 1 - k
  · rw [if_pos (by omega), h1, List.getElem?_set_self (by simp [h.1]; omega), ← hu, hkk, show es.length - 1 - (es.length - 1 - k) = k by omega]
  · rw [List.getElem?_set_ne (fun e => h1 e.symm)]
    by_cases h2 : x = k
    · rw [if_pos (by omega), h2, List.getElem?_set_self (by rw [h.1]; omega), ← hv, hqq]
    · rw [List.getElem?_set_ne (fun e => h2 e.symm), h.2 x hx]
      by_cases h3 : x < k ∨ es.length - k ≤ x
      · rw [if_pos h3, if_pos (by omega)]
      · rw [if_neg h3, if_neg (by omega)]
theorem Moves.set {D : Bls} {W W' : World} {g o : Nat} {u : Value} (h : Moves D W W') (hg : D g) : Moves D W (W'.setCell ⟨g, o, none⟩ u) :=
  ⟨h.os, h.tape, h.output, by rw [World.size_setCell]; exact h.size, fun k hk hd => (heap_set_other (fun e => hd (by rw [e]; exact hg))).trans (h.block k hk hd)⟩
theorem Moves.drew {D : Bls} {W W' : World} (h : Moves D W W') : Moves D W W'.drew := ⟨h.os, h.tape, h.output, h.size, h.block⟩
theorem Moves.refl (D : Bls) (W : World) : Moves D W W := Moves.below (Below.refl _ _)
theorem Moves.trans {D : Bls} {W W' W'' : World} (h : Moves D W W') (h' : Moves D W' W'') : Moves D W W'' :=
  ⟨h'.os.trans h.os, h'.tape.trans h.tape, h'.output.trans h.output, Nat.le_trans h.size h'.size, fun k hk hd => (h'.block k (Nat.lt_of_lt_of_le hk h.size) hd).trans (h.block k hk hd)⟩

set_option maxRecDepth 100000 in
set_option maxHeartbeats 4000000 in
theorem rev_i {w : World} {g m c : Nat} {es : List Ent} (hg : w.heap[g]? = some (.cells (spC es).toArray 110 (0, 0))) (hm : es.length = m) (hl : m ≤ 1000000) :
    Calls Try.prog 69 #[.slice (some ⟨g, 0, none⟩) m c] w fun e w' => (∃ v, e = .returned v) ∧ w'.heap[g]? = some (.cells (spC es.reverse).toArray 110 (0, 0)) ∧ Moves (fun k => k = g) w w' := by
  have HM := Lib.hid hm
  have HG := Lib.hid hg
  clear hm hg
  have hw0 : IntKind.i64.wrap ((m : Int) - 1) = (m : Int) - 1 := by rw [IntKind.wrap_i64]; omega
  go_enter Try.func69, Try.ntmps69
  go_wp2_with fail
  go_loopw [2, 3] (fun v2 v3 wr => ∃ (k : Nat) (es' : List Ent), v2 = .int .i64 k ∧ v3 = .int .i64 ((m : Int) - 1 - k) ∧ k ≤ m ∧ Half es es' k ∧ wr.heap[g]? = some (.cells (spC es').toArray 110 (0, 0)) ∧ Moves (fun k => k = g) w wr) (fun v2 _ _ => m - (intOf v2).toNat)
  case atStart => exact ⟨0, es, rfl, by simp, Nat.zero_le _, Half.zero _, HG.out, Moves.refl _ _⟩
  case round =>
    obtain ⟨k, es', rfl, rfl, hkm, hh, hc, hmv⟩ := hrel
    have HH := Lib.hid (And.intro hh (And.intro hc hmv))
    by_cases hlt : 2 * k + 1 < m
    · have d0 : decide ((k : Int) < (m : Int) - 1 - (k : Int)) = true := decide_eq_true (by omega)
      obtain ⟨q, hq⟩ : ∃ q : Nat, (m : Int) - 1 - (k : Int) = q := ⟨m - 1 - k, by omega⟩
      have HQ := Lib.hid hq
      have hqm : q < m := by omega
      have hkq : k < q := by omega
      have hes : es'.length = m := by rw [hh.1, HM.out]
      obtain ⟨u, hu⟩ : ∃ u, es'[k]? = some u := ⟨_, List.getElem?_eq_getElem (by omega)⟩
      obtain ⟨v, hv⟩ : ∃ v, es'[q]? = some v := ⟨_, List.getElem?_eq_getElem (by omega)⟩
      obtain ⟨a1, a2⟩ := spC_at hu
      obtain ⟨b1, b2⟩ := spC_at hv
      have c1 : wr.cell? ⟨g, k * 2, none⟩ = some (ptr u.b) := by rw [cell_at hc]; simpa using a1
      have c2 : wr.cell? ⟨g, k * 2 + 1, none⟩ = some (.int .i64 u.f) := by rw [cell_at hc]; simpa using a2
      have c3 : wr.cell? ⟨g, q * 2, none⟩ = some (ptr v.b) := by rw [cell_at hc]; simpa using b1
      have c4 : wr.cell? ⟨g, q * 2 + 1, none⟩ = some (.int .i64 v.f) := by rw [cell_at hc]; simpa using b2
      have zz := fun i => unfrozen hc i
      have HU := Lib.hid (And.intro hu (And.intro hv hes))
      rw [hq] at d0 ⊢
      clear hh hc hmv hq a1 a2 b1 b2 hu hv hes
      have e0 : (0 : Int) ≤ (k : Int) := by omega
      have e1 : (k : Int) < (m : Int) := by omega
      have e2 : (0 : Int) ≤ (q : Int) := by omega
      have e3 : (q : Int) < (m : Int) := by omega
      go_wp2_with fail
      go_region
      all_goals
        have s1 := heap_set_at (o := k * 2 + 1) (u := Value.int .i64 (v.f : Int)) (heap_set_at (o := k * 2) (u := ptr v.b) HH.out.2.1)
        rw [spC_set (by rw [HU.out.2.2]; omega) v] at s1
        have s2 := heap_set_at (o := q * 2 + 1) (u := Value.int .i64 (u.f : Int)) (heap_set_at (o := q * 2) (u := ptr u.b) s1)
        rw [spC_set (by rw [List.length_set, HU.out.2.2]; omega) u] at s2
        have s3 := (((HH.out.2.2.set (o := k * 2) (u := ptr v.b) rfl).set (o := k * 2 + 1) (u := Value.int .i64 (v.f : Int)) rfl).set (o := q * 2) (u := ptr u.b) rfl).set (o := q * 2 + 1) (u := Value.int .i64 (u.f : Int)) rfl
        have s4 := HH.out.1.step (q := q) (by rw [HM.out]; have := HQ.out; omega) (by rw [HM.out]; exact hlt) HU.out.1 HU.out.2.1
        have S := Lib.hid (And.intro s2 (And.intro s3.drew s4))
        have e4 : (q : Int) - 1 = (m : Int) - 1 - ((k + 1 : Nat) : Int) := by have := HQ.out; omega
        have E4 := Lib.hid e4
        clear s1 s2 s3 s4 HH HU HG c1 c2 c3 c4 e4
        go_wp2_with fail
        go_roundw
        case rel => exact ⟨k + 1, _, by go_num, by rw [← E4.out], by omega, S.out.2.2, S.out.1, S.out.2.1⟩
        case measure => simp [intOf]; omega
    · have d0 : decide ((k : Int) < (m : Int) - 1 - (k : Int)) = false := decide_eq_false (by omega)
      have he := HH.out.1.done (by rw [HM.out]; omega)
      rw [he] at HH
      clear hh hc hmv he
      go_wp2_with fail
      go_end0
      exact ⟨⟨_, rfl⟩, HH.out.2.1, HH.out.2.2⟩

/-- Which function piles kids. -/
def pkOf (d : Bool) : Nat := if d then 69 else 71

theorem own_pop {w : World} {B c : Nat} {a : Option Addr} {T : TypeId} {rest : List Ent} {e : Ent} (h : w.ownsRow B T 2 (.slice a (rest.length + 1) c) (rest.length + 1) (spC (rest ++ [e]))) :
    ∃ g, a = some ⟨g, 0, none⟩ ∧ B ≤ g ∧ g < w.heap.size ∧ rest.length + 1 ≤ c ∧ w.cell? ⟨g, rest.length * 2, none⟩ = some (ptr e.b) ∧ w.cell? ⟨g, rest.length * 2 + 1, none⟩ = some (.int .i64 (e.f : Int)) ∧ w.ownsRow B T 2 (.slice a rest.length c) rest.length (spC rest) := by
  rcases t_form h with ⟨_, h0, _⟩ | ⟨g, rfl, hB, hlt, h1, h2⟩
  · omega
  · have hx : (rest ++ [e])[rest.length]? = some e := by rw [List.getElem?_append_right (Nat.le_refl _), Nat.sub_self]; rfl
    obtain ⟨p1, p2⟩ := spC_at hx
    have c1 := h.cells (g := g) rfl _ _ p1
    have c2 := h.cells (g := g) rfl _ _ p2
    rw [Addr.add_lit, Nat.zero_add] at c1 c2
    refine ⟨g, rfl, hB, hlt, h1, c1, c2, spC_len rest, .inr ?_⟩
    rcases h.2 with ⟨hn, _⟩ | ⟨g', cap, cur, e1, e2, e3, e4, e5, e6, e7⟩
    · cases hn
    · simp only [Value.slice.injEq, Option.some.injEq, Addr.mk.injEq] at e1
      obtain ⟨⟨rfl, _⟩, _, rfl⟩ := e1
      refine ⟨g, c, cur, rfl, e2, e3, by omega, e5, e6, ?_⟩
      have : cur.toList.take (rest.length * 2) = (cur.toList.take ((rest.length + 1) * 2)).take (rest.length * 2) := by rw [List.take_take]; congr 1; omega
      rw [this, e7, spC_app, ← spC_len rest, List.take_left]

theorem own_blk {W W' : World} {B s g n c : Nat} {e : TypeId} {xs : List Value} (h : W.ownsRow B e s (.slice (some ⟨g, 0, none⟩) n c) n xs) (hb : W'.heap[g]? = W.heap[g]?) : W'.ownsRow B e s (.slice (some ⟨g, 0, none⟩) n c) n xs := by
  refine ⟨h.1, ?_⟩
  rcases h.2 with hn | ⟨g', cap, cur, he, h1, h2, rest⟩
  · exact .inl hn
  · have : g' = g := by injection he with he; injection he with he; injection he with he; exact he.symm
    subst this
    exact .inr ⟨g', cap, cur, he, h1, hb.trans h2, rest⟩
/-- What leaves' loop keeps between two rounds. -/
def LvI (J : List Leaf → Bls → World → Prop) (w0 wC : World) (n₀ : Nat) (D0 : Bls) (d : Bool) (i j : Nat) (R : List Leaf) (gk : Nat) (s : Value) (wr : World) : Prop :=
  ∃ (pre : List Leaf) (D : Bls) (stk : List Ent) (a : Option Addr) (c : Nat), s = .slice a stk.length c ∧ gk = sumM stk ∧ gk ≤ 1000000 ∧ J pre D wr ∧ Have D wr ∧ (∀ k, D0 k → D k) ∧ Same D0 wC wr ∧ Below n₀ wC wr ∧ wC.heap.size ≤ wr.heap.size ∧
    wr.ownsRow wC.heap.size 110 2 (.slice a stk.length c) stk.length (spC stk) ∧ (∀ q, a = some q → D q.block) ∧ (∀ e ∈ stk, (∃ h, Node w0 95 h e) ∧ e.f + e.n ≤ 1000000) ∧ R = pre ++ remL d i j stk

theorem node_num {w : World} {T : TypeId} {h : Nat} {e : Ent} (H : Node w T h e) : w.cell? ⟨e.b, 2, none⟩ = some (.int .i64 (e.n : Int)) ∧ e.b < w.heap.size := by
  cases h with
  | zero =>
    obtain ⟨t, h1, h2, h3, _⟩ := H
    have := h1.num
    have e0 : (flatL 0 t).length = t.length := by rw [flatL_zero]
    rw [e0] at this
    rw [h3]
    exact ⟨this, h1.lt⟩
  | succ h =>
    obtain ⟨g, o, c, es, _, _, _, h1, _, _, h2, _⟩ := H
    exact ⟨h2, h1⟩
/-- Nothing of the stretch lies below it. -/
theorem skip_ok {w : World} {T : TypeId} {h i j : Nat} {e : Ent} (H : Node w T h e) (d : Bool) (hs : j ≤ e.f ∨ e.f + e.n ≤ i) : dirL d (e.ls.filter (inR i j)) = [] := by
  obtain ⟨h1, h2, _⟩ := node_run H
  rw [run_out h1 (by rw [h2]; exact hs)]
  exact dirL_nil d
/-- A leaf that has something of it. -/
theorem leaf_ok {i j : Nat} {e : Ent} {t : List Value} (hn : e.n = t.length) (hls : e.ls = [(e.b, e.f, t)]) (d : Bool) (h1 : e.f < j) (h2 : i < e.f + e.n) : dirL d (e.ls.filter (inR i j)) = [(e.b, e.f, t)] := by
  rw [hls]
  have : inR i j (e.b, e.f, t) = true := by
    unfold inR
    rw [decide_eq_true (show e.f < j from h1), decide_eq_true (show i < e.f + t.length by omega)]; rfl
  rw [List.filter_cons, this]
  exact dirL_one d _
theorem len_le_sumM {w : World} {T : TypeId} : ∀ {stk : List Ent}, (∀ e ∈ stk, ∃ h, Node w T h e) → stk.length ≤ sumM stk
  | [], _ => Nat.zero_le _
  | e :: stk, h => by
    obtain ⟨h', hn⟩ := h e (List.mem_cons_self ..)
    have := (node_run hn).2.2.2
    have := len_le_sumM (stk := stk) (fun x hx => h x (List.mem_cons_of_mem _ hx))
    show stk.length + 1 ≤ (e.m :: stk.map (·.m)).sum
    rw [List.sum_cons]
    unfold sumM at this
    omega

/-- Kids, in the order in which they are piled. -/
theorem pile_mem {d : Bool} {es : List Ent} {x : Ent} (h : x ∈ pile d es) : x ∈ es := by
  unfold pile dirL at h
  cases d <;> simpa using h
theorem pile_len (d : Bool) (es : List Ent) : (pile d es).length = es.length := dirL_len _ _
theorem pile_sumM (d : Bool) (es : List Ent) : sumM (pile d es) = sumM es := by
  unfold pile dirL
  cases d
  · rfl
  · exact sumM_rev es
/-- Behind an append: where the stack lies. -/
theorem lies_of {w : World} {B g n c : Nat} {T : TypeId} {v' : Value} {xs : List Value} (h : w.ownsRow B T 2 v' n xs) (hn : 0 < n) {H : Nat} (hat : v'.ownBlock = (Value.slice (some ⟨g, 0, none⟩) n c).ownBlock ∨ v'.ownBlock = some H) : ∃ g' c', v' = .slice (some ⟨g', 0, none⟩) n c' ∧ (g' = g ∨ g' = H) ∧ g' < w.heap.size := by
  obtain ⟨g', c', rfl, _, hlt⟩ := h.form hn
  refine ⟨g', c', rfl, ?_, hlt⟩
  simp only [Value.ownBlock, Option.some.injEq] at hat
  exact hat

set_option maxRecDepth 100000 in
/-- The pile that lets kids be. -/
theorem stay_i {w : World} {g m c : Nat} : Calls Try.prog 71 #[.slice (some ⟨g, 0, none⟩) m c] w fun e w' => (∃ v, e = .returned v) ∧ w = w' := by
  go_enter Try.func71, Try.ntmps71
  go_wp2_with fail
  go_end0
  exact ⟨⟨_, rfl⟩, rfl⟩
/-- Whichever pile. -/
theorem pile_i (d : Bool) {w : World} {g m c : Nat} {es : List Ent} (hg : w.heap[g]? = some (.cells (spC es).toArray 110 (0, 0))) (hm : es.length = m) (hl : m ≤ 1000000) :
    Calls Try.prog (pkOf d) #[.slice (some ⟨g, 0, none⟩) m c] w fun e w' => (∃ v, e = .returned v) ∧ w'.heap[g]? = some (.cells (spC (pile d es)).toArray 110 (0, 0)) ∧ Moves (fun k => k = g) w w' := by
  cases d
  · exact stay_i.mono (by rintro e w' ⟨h1, rfl⟩; exact ⟨h1, hg, Moves.refl _ _⟩)
  · exact rev_i hg hm hl

attribute [local go_sem] Oper.semAt_some

set_option maxRecDepth 100000 in
set_option maxHeartbeats 4000000 in
theorem leaves_iter (n n₀ Bi Bj Bt Bp : Nat) (d : Bool) {w0 w : World} {e0 : Ent} {L : List Value} {h0 i j : Nat} {D0 : Bls} (hw : Below w0.heap.size w0 w) (hn0 : w0.heap.size ≤ n₀) (hn : n₀ ≤ w.heap.size) (hD0 : Have D0 w) (di : D0 Bi) (dj : D0 Bj) (dt : D0 Bt) (dp : D0 Bp)
    (ci : w.cell? ⟨Bi, 0, none⟩ = some (.int .i64 (i : Int))) (cj : w.cell? ⟨Bj, 0, none⟩ = some (.int .i64 (j : Int))) (ct : w.cell? ⟨Bt, 0, none⟩ = some (ptr e0.b)) (cp : w.cell? ⟨Bp, 0, none⟩ = some (fnv (pkOf d)))
    (HT : Tin w0 95 (ptr e0.b) L) (H : Node w0 95 h0 e0) (hf : e0.f = 0) (hm : e0.m ≤ 1000000) (hl : e0.n ≤ 1000000) (hij : i < j) (hj : j ≤ 2000000) :
    Iter Fence.wide n Try.prog 103 #[pbox Bi, pbox Bj, pbox Bt, pbox Bp] (fun x : Leaf => #[spotV x.1 x.2.1]) n₀ (fun ys => ys = remL d i j [e0]) (fun pre => pre <+: remL d i j [e0]) (fun pre x => (remL d i j [e0])[pre.length]? = some x) D0 w := fun l J Jx W hW hJ hJx hY hJ0 => by
  have hlt (k : Nat) (h : D0 k) : k < W.heap.size := Nat.lt_of_lt_of_le (hD0 k h) hW.size
  have ci' := (hW.cell (p := ⟨Bi, 0, none⟩) (hD0 _ di)).trans ci
  have cj' := (hW.cell (p := ⟨Bj, 0, none⟩) (hD0 _ dj)).trans cj
  have ct' := (hW.cell (p := ⟨Bt, 0, none⟩) (hD0 _ dt)).trans ct
  have cp' := (hW.cell (p := ⟨Bp, 0, none⟩) (hD0 _ dp)).trans cp
  have hW0 : Below w0.heap.size w0 W := hw.trans (hW.mono hw.size)
  have hnW : n₀ ≤ W.heap.size := Nat.le_trans hn hW.size
  have HR := Lib.hid ((callsIn_wide (n := n - 1)).2 (root_i (HT.below hW0)))
  have hne : ((i : Int) == (j : Int)) = false := by simp; omega
  have hne2 : decide ((i : Int) = (j : Int)) = false := by simp; omega
  have hne3 : decide (i = j) = false := by simp; omega
  clear ci cj ct cp HT hn
  obtain ⟨R, hR⟩ : ∃ R, remL d i j [e0] = R := ⟨_, rfl⟩
  rw [hR] at hY ⊢
  have CP := Lib.hid cp'
  refine callsIn_of_wp Try.func103 rfl trivial ?_ rfl
  simp only [Try.ntmps103, List.size_toArray, List.length_cons, List.length_nil, Nat.reduceAdd, Nat.reduceSub, Array.replicate_succ, Array.replicate_zero, List.push_toArray, List.append_toArray, List.nil_append, List.cons_append]
  gi_wp2
  refine ⟨trivial, fun h => by simp [Fence.wide] at h, HR.out.mono ?_⟩
  rintro e w1 ⟨rfl, hb1⟩
  have hh2 := heap_alloc_new w1 (Obj.cells #[ptr e0.b, .int .i64 0] 110)
  have hb2 := t_al w1 (Obj.cells #[ptr e0.b, .int .i64 0] 110)
  have hz2 : (w1.alloc (Obj.cells #[ptr e0.b, .int .i64 0] 110)).heap.size = w1.heap.size + 1 := by simp
  obtain ⟨w2, hw2⟩ : ∃ w2, w1.alloc (Obj.cells #[ptr e0.b, .int .i64 0] 110) = w2 := ⟨_, rfl⟩
  rw [hw2] at hh2 hb2 hz2
  gi_wp2
  have hb02 := hb1.trans (hb2.mono hb1.size)
  have hz1 := hb1.size
  have hst : LvI J w0 W n₀ D0 d i j R (sumM [e0]) (.slice (some ⟨w1.heap.size, 0, none⟩) 1 1) w2 := by
    refine ⟨[], fun k => D0 k ∨ k = w1.heap.size, [e0], some ⟨w1.heap.size, 0, none⟩, 1, rfl, rfl, by rw [sumM_one]; exact hm, hJ _ _ _ _ _ hJ0 (Moves.below hb02) (fun k h => h.elim .inl (fun h => .inr (by omega))), fun k h => h.elim (fun h => by have := hlt k h; omega) (fun h => by omega), fun k h => .inl h, Same.below hb02 hlt, hb02.mono hnW, hb02.size, ⟨rfl, .inr ⟨w1.heap.size, 1, #[ptr e0.b, .int .i64 0], rfl, hz1, hh2, Nat.le_refl _, by unfold maxLen; omega, rfl, ?_⟩⟩, fun q hq => by injection hq with hq; rw [← hq]; exact .inr rfl, fun e he => ?_, by rw [← hR]; rfl⟩
    · show _ = [ptr e0.b, .int .i64 (e0.f : Int)]
      rw [hf]; rfl
    · simp at he; subst he; exact ⟨⟨_, H⟩, by omega⟩
  have HST := Lib.hid hst
  clear hst hb02 hb1 hb2 hh2 hz2 hw2 hne hne2 hne3 ct' HR
  gi_loopg [6] (sumM [e0]) (fun gk s wr => LvI J w0 W n₀ D0 d i j R gk s wr)
  case atStart => exact HST.out
  case round =>
    clear HST
    obtain ⟨pre, D, stk, a, c, rfl, rfl, hm6, hJr, hDr, hDD, hsm, hbr, hzr, hown, hab, hnd, hrem⟩ := hrel
    have hw0r : Below w0.heap.size w0 wr := hW0.trans (hbr.mono hn0)
    have ci2 := (hsm.cell (o := 0) di).trans ci'
    have cj2 := (hsm.cell (o := 0) dj).trans cj'
    have cp2 := (hsm.cell (o := 0) dp).trans CP.out
    rcases List.eq_nil_or_concat stk with rfl | ⟨rest, e, rfl⟩
    · have HE := Lib.hid (And.intro hJr hrem)
      clear hJr hrem hown hsm hbr hnd ci2 cj2 cp2
      simp only [List.length_nil]
      gi_wp2
      go_end0
      have h1 := HE.out.2
      rw [show remL d i j [] = [] from rfl, List.append_nil] at h1
      exact ⟨⟨_, rfl⟩, .inl ⟨_, _, rfl, by rw [h1]; exact HE.out.1⟩⟩
    · rw [List.concat_eq_append] at hown hrem hnd hm6 ⊢
      obtain ⟨⟨he, hN⟩, hfn⟩ := hnd e (by simp)
      have hnr : ∀ x ∈ rest, (∃ h, Node w0 95 h x) ∧ x.f + x.n ≤ 1000000 := fun x hx => hnd x (by simp [hx])
      have hlen : (rest ++ [e]).length = rest.length + 1 := by simp
      have hlm := len_le_sumM (fun x hx => (hnr x hx).1)
      have hsM : sumM (rest ++ [e]) = sumM rest + e.m := by rw [sumM_app, sumM_one]
      rw [hlen] at hown ⊢
      have HSM : Hid (sumM (rest.concat e) = sumM rest + e.m) := by rw [List.concat_eq_append]; exact Lib.hid hsM
      rw [hsM] at hm6
      obtain ⟨g, rfl, hBg, hgl, hgc, q1, q2, hown'⟩ := own_pop hown
      rw [remL_snoc] at hrem
      have hDg : D g := hab _ rfl
      obtain ⟨nb, nl⟩ := node_num hN
      have nb2 := (hw0r.cell (p := ⟨e.b, 2, none⟩) nl).trans nb
      have hJw := Lib.hid (And.intro hJr (And.intro hDr (And.intro hDD (And.intro hsm (And.intro hbr hown')))))
      have hpop : ∀ W', Below wr.heap.size wr W' → R = pre ++ remL d i j rest → LvI J w0 W n₀ D0 d i j R (sumM rest) (.slice (some ⟨g, 0, none⟩) rest.length c) W' := fun W' hb hr =>
        ⟨pre, D, rest, some ⟨g, 0, none⟩, c, rfl, rfl, by omega, hJ.below hJw.out.1 hb, fun k hk => Nat.lt_of_lt_of_le (hJw.out.2.1 k hk) hb.size, hJw.out.2.2.1, hJw.out.2.2.2.1.trans (Same.below hb (fun k hk => hJw.out.2.1 k (hJw.out.2.2.1 k hk))), hJw.out.2.2.2.2.1.trans (hb.mono (Nat.le_trans hnW hzr)), Nat.le_trans hzr hb.size, own_below hJw.out.2.2.2.2.2 hb, fun q hq => by injection hq with hq; rw [← hq]; exact hDg, hnr, hr⟩
      have hh3 := heap_alloc_new wr (Obj.cells #[ptr e.b, .int .i64 (e.f : Int)] 110)
      have hb3 := t_al wr (Obj.cells #[ptr e.b, .int .i64 (e.f : Int)] 110)
      have HE := Lib.hid (And.intro hN (And.intro hrem hpop))
      have hep := (node_run hN).2.2.2
      have ep : 0 < e.m := hep
      obtain ⟨w3, hw3⟩ : ∃ w3, wr.alloc (Obj.cells #[ptr e.b, .int .i64 (e.f : Int)] 110) = w3 := ⟨_, rfl⟩
      have hz3 : (wr.alloc (Obj.cells #[ptr e.b, .int .i64 (e.f : Int)] 110)).heap.size = wr.heap.size + 1 := by simp
      rw [hw3] at hh3 hb3 hz3
      have c03 : w3.cell? ⟨wr.heap.size, 0, none⟩ = some (ptr e.b) := (cell_at hh3 0).trans rfl
      have c13 : w3.cell? ⟨wr.heap.size, 1, none⟩ = some (.int .i64 (e.f : Int)) := (cell_at hh3 1).trans rfl
      have ci3 := (hb3.cell (p := ⟨Bi, 0, none⟩) (show Bi < wr.heap.size by have := hlt _ di; omega)).trans ci2
      have cj3 := (hb3.cell (p := ⟨Bj, 0, none⟩) (show Bj < wr.heap.size by have := hlt _ dj; omega)).trans cj2
      have nb3 := (hb3.cell (p := ⟨e.b, 2, none⟩) (show e.b < wr.heap.size by have := hw0r.size; omega)).trans nb2
      obtain ⟨f, hef⟩ : ∃ f, e.f = f := ⟨_, rfl⟩
      obtain ⟨nn, hen⟩ : ∃ nn, e.n = nn := ⟨_, rfl⟩
      obtain ⟨eb, heb⟩ : ∃ eb, e.b = eb := ⟨_, rfl⟩
      obtain ⟨rl, hrl⟩ : ∃ rl, rest.length = rl := ⟨_, rfl⟩
      have EQ := Lib.hid (And.intro hef (And.intro hen (And.intro heb hrl)))
      rw [heb] at q1 hw3 c03 nb3
      rw [hef] at q2 hw3 c13 hfn
      rw [hen] at nb3 hfn
      rw [hrl] at q1 q2 hgc ⊢
      have hlr : rl + 1 ≤ 1000001 := by omega
      have e1 : (0 : Int) ≤ (rl : Int) := by omega
      have e2 : (rl : Int) < (rl : Int) + 1 := by omega
      have e3 : (rl : Int) ≤ (c : Int) := by omega
      have HB3 := Lib.hid hb3
      have HNR := Lib.hid hnr
      clear hrem hpop hN hnd hnr hown hown' hJr hsm hbr hab hlen hlm hsM hh3 hb3 hef hen heb hrl hep nb2 ci2 cj2 cp2 nb H
      by_cases hA : j ≤ f
      · have hA1 : decide ((j : Int) ≤ (f : Int)) = true := decide_eq_true (by omega)
        have hA2 : decide (j ≤ f) = true := decide_eq_true hA
        have hE := HE.out.2.2 (w3.drewN 0) (HB3.out.trans ⟨rfl, rfl, rfl, Nat.le_refl _, fun _ _ => rfl⟩)
        have HS := Lib.hid (fun nq => HE.out.2.2 (w3.drewN nq) (HB3.out.trans ⟨rfl, rfl, rfl, Nat.le_refl _, fun _ _ => rfl⟩) (by have h1 := HE.out.2.1; rw [skip_ok HE.out.1 d (.inl (by rw [EQ.out.1]; exact hA)), List.nil_append] at h1; exact h1))
        rw [EQ.out.2.2.2] at HS
        clear hE
        gi_wp2
        gi_big_quiet_th (fail)
        gi_wp2
        gi_roundg (sumM rest)
        case measure => have := HSM.out; omega
        case rel => exact HS.out _
      · have hA1 : decide ((j : Int) ≤ (f : Int)) = false := decide_eq_false (by omega)
        have hA2 : decide (j ≤ f) = false := decide_eq_false hA
        by_cases hB : f + nn ≤ i
        · have hB1 : decide ((f : Int) + (nn : Int) ≤ (i : Int)) = true := decide_eq_true (by omega)
          have hB2 : decide (f + nn ≤ i) = true := decide_eq_true hB
          have HS := Lib.hid (fun nq => HE.out.2.2 (w3.drewN nq) (HB3.out.trans ⟨rfl, rfl, rfl, Nat.le_refl _, fun _ _ => rfl⟩) (by have h1 := HE.out.2.1; rw [skip_ok HE.out.1 d (.inr (by rw [EQ.out.1, EQ.out.2.1]; exact hB)), List.nil_append] at h1; exact h1))
          rw [EQ.out.2.2.2] at HS
          gi_wp2
          gi_big_quiet_th (fail)
          gi_wp2
          gi_roundg (sumM rest)
          case measure => have := HSM.out; omega
          case rel => exact HS.out _
        · have hB1 : decide ((f : Int) + (nn : Int) ≤ (i : Int)) = false := decide_eq_false (by omega)
          have hB2 : decide (f + nn ≤ i) = false := decide_eq_false hB
          have hN0 := HE.out.1
          cases he with
          | zero =>
            obtain ⟨tl, hin, htl, hn1, _, hls⟩ := hN0
            have hlk := leaf_ok (i := i) (j := j) hn1 hls d (by rw [EQ.out.1]; omega) (by rw [EQ.out.1, EQ.out.2.1]; omega)
            have hRp := HE.out.2.1
            rw [hlk] at hRp
            obtain ⟨ka, kc, k0, _, _⟩ := hin.items
            have k03 := (HB3.out.cell (p := ⟨e.b, 0, none⟩) (show e.b < wr.heap.size by have := hw0r.size; omega)).trans ((hw0r.cell (p := ⟨e.b, 0, none⟩) nl).trans k0)
            rw [EQ.out.2.2.1] at k03 hRp
            rw [EQ.out.1] at hRp
            have HP := Lib.hid hRp
            have hRat : R[pre.length]? = some (eb, f, tl) := by rw [HP.out, List.getElem?_append_right (Nat.le_refl _), Nat.sub_self]; rfl
            have HY := Lib.hid (fun nq => hY pre (eb, f, tl) D (w3.drewN nq) (hJ.below hJw.out.1 (HB3.out.trans ⟨rfl, rfl, rfl, Nat.le_refl _, fun _ _ => rfl⟩)) (fun k hk => Nat.lt_of_lt_of_le (hJw.out.2.1 k hk) HB3.out.size) hRat)
            clear hRp hRat hin hls hlk k0 hn1
            gi_wp2
            gi_big_quiet_th (fail)
            obtain ⟨fn, tmps, assign, body, hy, hR2⟩ := HY.out nq
            simp only [spotV] at hy
            gi_wp2
            refine ⟨fun h => by simp [Fence.wide] at h, hR2.mono ?_⟩
            rintro e2 W3 ⟨hs3, (⟨rfl, hJ3, hk3⟩ | ⟨rfl, hJx3⟩)⟩
            · gi_wp2
              have hbq : Below wr.heap.size wr (w3.drewN nq) := HB3.out.trans ⟨rfl, rfl, rfl, Nat.le_refl _, fun _ _ => rfl⟩
              have hD3 : Have D (w3.drewN nq) := fun k hk => Nat.lt_of_lt_of_le (hJw.out.2.1 k hk) hbq.size
              gi_roundg (sumM rest)
              case measure => have := HSM.out; omega
              case rel =>
                refine ⟨pre ++ [(eb, f, tl)], D, rest, some ⟨g, 0, none⟩, c, by rw [EQ.out.2.2.2], rfl, by omega, hJ3, fun k hk => hs3.lt hD3 hk, hJw.out.2.2.1, hJw.out.2.2.2.1.trans ((Same.below hbq (fun k hk => hJw.out.2.1 k (hJw.out.2.2.1 k hk))).trans (hs3.mono hJw.out.2.2.1)), hJw.out.2.2.2.2.1.trans ((hbq.mono (Nat.le_trans hnW hzr)).trans hk3), ?_, ?_, fun q hq => by injection hq with hq; rw [← hq]; exact hDg, HNR.out, by rw [HP.out, List.append_assoc]⟩
                · have := hbq.size; have := hk3.size; omega
                · exact own_blk (own_below hJw.out.2.2.2.2.2 hbq) (hs3 g hDg)
            · gi_wp2
              refine bodyPost_ret (results_none rfl _ _ _) rfl ?_
              exact ⟨⟨_, rfl⟩, .inr ⟨_, _, ⟨remL d i j rest, by rw [HP.out, List.append_assoc]⟩, hJx3⟩⟩
          | succ h =>
            obtain ⟨g2, o2, c2, es, hes, hec, hcm, hebl, hg2, k0, _, hsn, hsm2, hls, hkid⟩ := hN0
            have hlsM := len_le_sumM (fun x hx => by obtain ⟨k, hk⟩ := List.mem_iff_getElem?.1 hx; exact ⟨h, (hkid k x hk).2.2⟩)
            have HRp := Lib.hid HE.out.2.1
            have k03 := (HB3.out.cell (p := ⟨e.b, 0, none⟩) (show e.b < wr.heap.size by have := hw0r.size; omega)).trans ((hw0r.cell (p := ⟨e.b, 0, none⟩) nl).trans k0)
            rw [EQ.out.2.2.1] at k03
            have hbx (nq : Nat) : Below wr.heap.size wr (w3.drewN nq) := HB3.out.trans ⟨rfl, rfl, rfl, Nat.le_refl _, fun _ _ => rfl⟩
            have HK := Lib.hid (fun nq => (callsIn_wide (n := n - 1)).2 (kids_i (w := w3.drewN nq) (w0 := w0) (b := eb) (f := f) (h := h) (hw0r.trans ((hbx nq).mono hw0r.size)) (by rw [← EQ.out.2.2.1]; exact nl) hg2 (by rw [← EQ.out.2.2.1]; exact k0) (by omega) hes (by rw [← hsn, EQ.out.2.1]; omega)
              (fun k x hk => by
                obtain ⟨r1, r2, r3⟩ := hkid k x hk
                exact ⟨r1, by rw [← EQ.out.1]; exact r2, node_num r3⟩)))
            obtain ⟨m, hm'⟩ : ∃ m, es.length = m := ⟨_, rfl⟩
            have HMM := Lib.hid (And.intro hm' (And.intro hsn (And.intro hsm2 (And.intro hls hkid))))
            rw [hm'] at k03 HK hes hlsM
            have d0 : decide ((0 : Int) < (m : Int)) = true := decide_eq_true (by omega)
            have d0' : decide (0 < m) = true := decide_eq_true hes
            clear hm' hsn hls hkid k0 hec
            gi_wp2
            gi_big_quiet_th (fail)
            have hVb := Lib.hid (hbx nq)
            have HK2 := Lib.hid (HK.out nq)
            clear hbx HK
            gi_wp2
            refine ⟨trivial, fun h => by simp [Fence.wide] at h, HK2.out.mono ?_⟩
            rintro e4 w5 ⟨g5, rfl, hg5, hh5, hb5⟩
            have hb5w := hVb.out.trans (hb5.mono hVb.out.size)
            have cp5 := (hb5w.cell (p := ⟨Bp, 0, none⟩) (show Bp < wr.heap.size by have := hlt _ dp; omega)).trans ((hJw.out.2.2.2.1.cell (o := 0) dp).trans CP.out)
            have HPi := Lib.hid (pile_i d (c := m) hh5 HMM.out.1 (by omega))
            have hg5w : wr.heap.size ≤ g5 := Nat.le_trans hVb.out.size hg5
            have HB5 := Lib.hid hb5w
            have OW5 := Lib.hid (own_below hJw.out.2.2.2.2.2 hb5w)
            have hlt5 := lt_of_heap hh5
            have hz5 := hb5w.size
            rw [EQ.out.2.2.2] at OW5
            clear HK2 hb5 hb5w hg5 hh5
            rcases Bool.eq_false_or_eq_true d with hd | hd <;>
            ( first
              | (have e7 : pkOf d = 69 := by rw [hd]; rfl
                 rw [e7] at cp5 HPi
                 clear e7)
              | (have e7 : pkOf d = 71 := by rw [hd]; rfl
                 rw [e7] at cp5 HPi
                 clear e7)
              gi_wp2
              refine ⟨trivial, fun h => by simp [Fence.wide] at h, ((callsIn_wide (n := n - 1)).2 HPi.out).mono ?_⟩
              rintro e6 w6 ⟨⟨v6, rfl⟩, hh6, hm6'⟩
              have OW6 := Lib.hid (own_blk OW5.out (hm6'.block g (by omega) (by omega)))
              have hz6 := hm6'.size
              have HH6 := Lib.hid (And.intro hh6 hm6')
              obtain ⟨i0, hi0, hzz0, hzz1, hzz2⟩ := info_parts info_sp
              clear hh6 hm6'
              gi_wp2_with (gi_at_builtin; refine wpListIn_append_own_at _ rfl (.tmp 60) (.tmp 61) 108 rfl W.heap.size 110 i0 (.agg #[.pointer none, .int .i64 0]) 2 16 Try.underlying108 hi0 hzz0 hzz1 hzz2 rfl (by decide) (.slice (some ⟨g, 0, none⟩) rl c) rl (spC rest) rfl OW6.out ⟨g5, 0, none⟩ m m (spC (pile d es)) rfl ?c0 ?c1 (spC_one _) ?c3 ?c4 ?c5 ?_)
              case c0 => rw [spC_len, pile_len, HMM.out.1]
              case c1 => intro j u hu; rw [Addr.add_lit, Nat.zero_add, cell_at HH6.out.1]; simpa using hu
              case c3 => unfold maxLen; omega
              case c4 => omega
              case c5 => omega
              intro v7 w7 ho7 hg7 _ hat7
              obtain ⟨g7, c7, rfl, hlg, hlt7⟩ := lies_of (c := c) ho7 (by omega) hat7
              have kp : ∀ k, k < wr.heap.size → k ≠ g → w7.heap[k]? = wr.heap[k]? := fun k hk hkg =>
                (hg7.block k (by omega) (fun e => by simp only [Value.ownBlock, Option.some.injEq] at e; omega)).trans ((HH6.out.2.block k (by omega) (by omega)).trans (HB5.out.block k hk))
              have kos := hg7.os.trans (HH6.out.2.os.trans HB5.out.os)
              have ktp := hg7.tape.trans (HH6.out.2.tape.trans HB5.out.tape)
              have kou := hg7.output.trans (HH6.out.2.output.trans HB5.out.output)
              have hz7 := hg7.size
              have hz7' : wr.heap.size ≤ w7.heap.size := by omega
              have KP := Lib.hid (And.intro kp (And.intro kos (And.intro ktp (And.intro kou ho7))))
              clear ho7 hg7 hat7 kp kos ktp kou
              gi_wp2
              gi_roundg (sumM rest + sumM es)
              case measure => have := HSM.out; omega
              case rel =>
                refine ⟨pre, fun k => D k ∨ (wr.heap.size ≤ k ∧ k < w7.heap.size), rest ++ pile d es, some ⟨g7, 0, none⟩, c7, by rw [List.length_append, pile_len, HMM.out.1, EQ.out.2.2.2], by rw [sumM_app, pile_sumM], by omega,
                  hJ _ _ _ _ _ hJw.out.1 ⟨KP.out.2.1, KP.out.2.2.1, KP.out.2.2.2.1, hz7', fun k hk hd => KP.out.1 k hk (fun e => hd (by rw [e]; exact hDg))⟩ (fun k hk => hk.elim .inl (fun h => .inr h.1)),
                  fun k hk => hk.elim (fun h => by have := hJw.out.2.1 k h; omega) (fun h => h.2), fun k hk => .inl (hJw.out.2.2.1 k hk),
                  hJw.out.2.2.2.1.trans (fun k hk => KP.out.1 k (by have := hlt k hk; omega) (by have := hlt k hk; omega)),
                  hJw.out.2.2.2.2.1.trans ⟨KP.out.2.1, KP.out.2.2.1, KP.out.2.2.2.1, hz7', fun k hk => KP.out.1 k (by omega) (by omega)⟩, by omega, ?_, fun q hq => by injection hq with hq; rw [← hq]; exact hlg.elim (fun h => .inl (by rw [h]; exact hDg)) (fun h => .inr ⟨by show wr.heap.size ≤ g7; omega, hlt7⟩), ?_, ?_⟩
                · have := KP.out.2.2.2.2
                  rw [List.length_append, pile_len, HMM.out.1, EQ.out.2.2.2, spC_app, hd]
                  exact this
                · intro x hx
                  rcases List.mem_append.1 hx with hx | hx
                  · exact HNR.out x hx
                  · obtain ⟨k, hk⟩ := List.mem_iff_getElem?.1 (pile_mem hx)
                    obtain ⟨_, r2, r3⟩ := HMM.out.2.2.2.2 k x hk
                    refine ⟨⟨h, r3⟩, ?_⟩
                    have s1 := sumN_succ hk
                    have s2 := sumN_take es (k + 1)
                    have s3 := HMM.out.2.1
                    have s4 := EQ.out.2.1
                    have s5 := EQ.out.1
                    omega
                · rw [HRp.out, remL_app, remL_pile, HMM.out.2.2.2.1] )

attribute [local go_sem] Oper.semAt_some

set_option maxRecDepth 100000 in
set_option maxHeartbeats 2000000 in
theorem sall_iter2 (n n₀ Bs : Nat) {D0 : Bls} {w : World} {a : Option Addr} {c : Nat} {xs : List Int} (hD0 : Have D0 w) (hB : D0 Bs) (hn : n₀ ≤ w.heap.size) (hc : w.cell? ⟨Bs, 0, none⟩ = some (.slice a xs.length c)) (hS : Sl w a c (nums xs)) (hb : ∀ d, a = some d → d.block < n₀) (hlen : xs.length ≤ 1000000) :
    Iter Fence.wide n Try.prog 92 #[.pointer (some ⟨Bs, 0, none⟩)] encP n₀ (fun ys => ys = pairs xs) (fun pre => pre <+: pairs xs) (fun pre x => (pairs xs)[pre.length]? = some x) D0 w := fun l J Jx W hW hJ hJx hY h0 => by
  have hc' := (hW.cell (p := ⟨Bs, 0, none⟩) (hD0 _ hB)).trans hc
  have HS := Lib.hid (hS.below hW)
  have hDW : Have D0 W := fun k h => Nat.lt_of_lt_of_le (hD0 k h) hW.size
  have hnW : n₀ ≤ W.heap.size := Nat.le_trans hn hW.size
  have hpl := pairs_len xs
  obtain ⟨len, hl⟩ : ∃ len, xs.length = len := ⟨_, rfl⟩
  have HL := Lib.hid hl
  rw [hl] at hc' hlen hpl
  clear hl hc hS
  refine callsIn_of_wp Try.func92 rfl trivial ?_ rfl
  simp only [Try.ntmps92, List.size_toArray, List.length_cons, List.length_nil, Nat.reduceAdd, Nat.reduceSub, Array.replicate_succ, Array.replicate_zero, List.push_toArray, List.append_toArray, List.nil_append, List.cons_append]
  gi_wp2
  gi_loopw [7] (fun i wr => ∃ k : Nat, k ≤ len ∧ i = .int .i64 k ∧ J ((pairs xs).take k) D0 wr ∧ Same D0 W wr ∧ Below n₀ W wr) (fun i _ => len - (intOf i).toNat)
  case atStart => exact ⟨0, Nat.zero_le _, rfl, h0, Same.refl _ _, Below.refl _ _⟩
  case round =>
    obtain ⟨k, hk, rfl, hJs, hsm, hnx⟩ := hrel
    by_cases hlt : k < len
    · obtain ⟨x, hx⟩ : ∃ x, xs[k]? = some x := ⟨_, List.getElem?_eq_getElem (by rw [HL.out]; exact hlt)⟩
      obtain ⟨g, o, rfl⟩ := HS.out.numsome (by rw [HL.out]; omega)
      have hcx := (hnx.cell (p := ⟨g, o + k, none⟩) (show g < n₀ from hb ⟨g, o, none⟩ rfl)).trans (HS.out.num hx).1
      have hat := pairs_at hx
      have hpk := take_snoc hat
      obtain ⟨fn, tmps, assign, body, hy, hR⟩ := hY _ (k, x) _ wr hJs (fun k' h => hsm.lt hDW h) (by rw [List.length_take, Nat.min_eq_left (by omega)]; exact hat)
      dsimp only [encP] at hy
      have HP := Lib.hid hpk
      clear hx hpk hat
      gi_wp2
      refine ⟨fun h => by simp [Fence.wide] at h, hR.mono ?_⟩
      rintro e W3 ⟨hs3, (⟨rfl, hJ3, hk3⟩ | ⟨rfl, hJx3⟩)⟩
      · gi_wp2
        go_roundw
        case rel => exact ⟨k + 1, by omega, by simp, by rw [← HP.out]; exact hJ3, hsm.trans hs3, hnx.trans hk3⟩
        case measure => simp [intOf]; omega
      · gi_wp2
        refine bodyPost_ret (results_none rfl _ _ _) rfl ?_
        exact ⟨⟨_, rfl⟩, .inr ⟨_, _, by rw [HP.out]; exact List.take_prefix _ _, hJx3⟩⟩
    · obtain rfl : k = len := by omega
      have htk : (pairs xs).take k = pairs xs := List.take_of_length_le (by omega)
      rw [htk] at hJs
      have HJ := Lib.hid hJs
      clear htk hJs
      gi_wp2
      go_end0
      exact ⟨⟨_, rfl⟩, .inl ⟨_, _, rfl, HJ.out⟩⟩

set_option maxRecDepth 100000 in
set_option maxHeartbeats 2000000 in
theorem sback_iter (n n₀ Bs : Nat) {D0 : Bls} {w : World} {a : Option Addr} {c : Nat} {xs : List Int} (hD0 : Have D0 w) (hB : D0 Bs) (hn : n₀ ≤ w.heap.size) (hc : w.cell? ⟨Bs, 0, none⟩ = some (.slice a xs.length c)) (hS : Sl w a c (nums xs)) (hb : ∀ d, a = some d → d.block < n₀) (hlen : xs.length ≤ 1000000) :
    Iter Fence.wide n Try.prog 93 #[.pointer (some ⟨Bs, 0, none⟩)] encP n₀ (fun ys => ys = (pairs xs).reverse) (fun pre => pre <+: (pairs xs).reverse) (fun pre x => (pairs xs).reverse[pre.length]? = some x) D0 w := fun l J Jx W hW hJ hJx hY h0 => by
  have hc' := (hW.cell (p := ⟨Bs, 0, none⟩) (hD0 _ hB)).trans hc
  have HS := Lib.hid (hS.below hW)
  have hDW : Have D0 W := fun k h => Nat.lt_of_lt_of_le (hD0 k h) hW.size
  have hpl : (pairs xs).reverse.length = xs.length := by rw [List.length_reverse, pairs_len]
  have hat : ∀ k x, k < xs.length → xs[xs.length - 1 - k]? = some x → (pairs xs).reverse[k]? = some (xs.length - 1 - k, x) := fun k x hk hx => by
    rw [List.getElem?_reverse (by rw [pairs_len]; exact hk), pairs_len]
    exact pairs_at hx
  obtain ⟨len, hl⟩ : ∃ len, xs.length = len := ⟨_, rfl⟩
  have HL := Lib.hid hl
  rw [hl] at hc' hlen hpl hat
  obtain ⟨R, hR⟩ : ∃ R, (pairs xs).reverse = R := ⟨_, rfl⟩
  rw [hR] at hY hpl hat ⊢
  have HA := Lib.hid hat
  have CC := Lib.hid hc'
  have hw0 : IntKind.i64.wrap ((len : Int) - 1) = (len : Int) - 1 := by rw [IntKind.wrap_i64]; omega
  clear hl hc hS hR hat
  refine callsIn_of_wp Try.func93 rfl trivial ?_ rfl
  simp only [Try.ntmps93, List.size_toArray, List.length_cons, List.length_nil, Nat.reduceAdd, Nat.reduceSub, Array.replicate_succ, Array.replicate_zero, List.push_toArray, List.append_toArray, List.nil_append, List.cons_append]
  gi_wp2
  gi_loopw [3] (fun i wr => ∃ k : Nat, k ≤ len ∧ i = .int .i64 ((len : Int) - 1 - k) ∧ J (R.take k) D0 wr ∧ Same D0 W wr ∧ Below n₀ W wr) (fun i _ => (intOf i + 1).toNat)
  case atStart => exact ⟨0, Nat.zero_le _, by simp, h0, Same.refl _ _, Below.refl _ _⟩
  case round =>
    obtain ⟨k, hk, rfl, hJs, hsm, hnx⟩ := hrel
    by_cases hlt : k < len
    · obtain ⟨q, hq⟩ : ∃ q : Nat, len - 1 - k = q := ⟨_, rfl⟩
      have hqi : (len : Int) - 1 - (k : Int) = (q : Int) := by omega
      have hql : q < len := by omega
      obtain ⟨x, hx⟩ : ∃ x, xs[q]? = some x := ⟨_, List.getElem?_eq_getElem (by rw [HL.out]; exact hql)⟩
      obtain ⟨g, o, rfl⟩ := HS.out.numsome (by rw [HL.out]; omega)
      have hcx := (hnx.cell (p := ⟨g, o + q, none⟩) (show g < n₀ from hb ⟨g, o, none⟩ rfl)).trans (HS.out.num hx).1
      have hcB := (hsm.cell (o := 0) hB).trans CC.out
      have hat := HA.out k x hlt (by rw [hq]; exact hx)
      rw [hq] at hat
      have hpk := take_snoc hat
      obtain ⟨fn, tmps, assign, body, hy, hR⟩ := hY _ (q, x) _ wr hJs (fun k' h => hsm.lt hDW h) (by rw [List.length_take, Nat.min_eq_left (by omega)]; exact hat)
      dsimp only [encP] at hy
      have HP := Lib.hid hpk
      have d0 : decide ((0 : Int) ≤ (q : Int)) = true := decide_eq_true (by omega)
      have d1 : decide (0 ≤ q) = true := decide_eq_true (by omega)
      have e0 : (0 : Int) ≤ (q : Int) := by omega
      have e1 : (q : Int) < (len : Int) := by omega
      have HQ := Lib.hid hqi
      rw [hqi]
      clear hx hpk hat hqi hq
      gi_wp2
      refine ⟨fun h => by simp [Fence.wide] at h, hR.mono ?_⟩
      rintro e W3 ⟨hs3, (⟨rfl, hJ3, hk3⟩ | ⟨rfl, hJx3⟩)⟩
      · gi_wp2
        go_roundw
        case rel => exact ⟨k + 1, by omega, by have := HQ.out; congr 1; omega, by rw [← HP.out]; exact hJ3, hsm.trans hs3, hnx.trans hk3⟩
        case measure => simp [intOf]
      · gi_wp2
        refine bodyPost_ret (results_none rfl _ _ _) rfl ?_
        exact ⟨⟨_, rfl⟩, .inr ⟨_, _, by rw [HP.out]; exact List.take_prefix _ _, hJx3⟩⟩
    · obtain rfl : k = len := by omega
      have htk : R.take k = R := List.take_of_length_le (by omega)
      rw [htk] at hJs
      have HJ := Lib.hid hJs
      have d0 : decide ((0 : Int) ≤ (k : Int) - 1 - (k : Int)) = false := decide_eq_false (by omega)
      have e0 : (k : Int) - 1 - (k : Int) = -1 := by omega
      rw [e0]
      clear htk hJs e0
      gi_wp2
      go_end0
      exact ⟨⟨_, rfl⟩, .inl ⟨_, _, rfl, HJ.out⟩⟩

attribute [local go_sem] Oper.semAt_some

set_option maxRecDepth 100000 in
set_option maxHeartbeats 2000000 in
theorem leaves_none (n n₀ Bi Bj Bt Bp i : Nat) {w : World} {D0 : Bls} (hD0 : Have D0 w) (di : D0 Bi) (dj : D0 Bj)
    (ci : w.cell? ⟨Bi, 0, none⟩ = some (.int .i64 (i : Int))) (cj : w.cell? ⟨Bj, 0, none⟩ = some (.int .i64 (i : Int))) :
    Iter Fence.wide n Try.prog 103 #[pbox Bi, pbox Bj, pbox Bt, pbox Bp] (fun x : Leaf => #[spotV x.1 x.2.1]) n₀ (fun ys => ys = []) (fun pre => pre <+: []) (fun pre x => ([] : List Leaf)[pre.length]? = some x) D0 w := fun l J Jx W hW hJ hJx hY hJ0 => by
  have ci' := (hW.cell (p := ⟨Bi, 0, none⟩) (hD0 _ di)).trans ci
  have cj' := (hW.cell (p := ⟨Bj, 0, none⟩) (hD0 _ dj)).trans cj
  have hne : ((i : Int) == (i : Int)) = true := by simp
  have HJ := Lib.hid hJ0
  clear hJ0 ci cj
  refine callsIn_of_wp Try.func103 rfl trivial ?_ rfl
  simp only [Try.ntmps103, List.size_toArray, List.length_cons, List.length_nil, Nat.reduceAdd, Nat.reduceSub, Array.replicate_succ, Array.replicate_zero, List.push_toArray, List.append_toArray, List.nil_append, List.cons_append]
  gi_wp2
  refine bodyPost_ret (results_none rfl _ _ _) rfl ?_
  exact ⟨⟨_, rfl⟩, .inl (by first | exact ⟨_, _, rfl, HJ.out⟩ | exact ⟨_, HJ.out⟩)⟩

/-- A tree in memory, as a stack's only entry, or none; and the leaves that a stretch wants. -/
def LvOf (w0 : World) (d : Bool) (i j : Nat) (x : Option Addr) (R : List Leaf) : Prop :=
  (i = j ∧ R = []) ∨ ∃ (e : Ent) (h : Nat) (L : List Value), i < j ∧ x = some ⟨e.b, 0, none⟩ ∧ Tin w0 95 (ptr e.b) L ∧ Node w0 95 h e ∧ e.f = 0 ∧ e.m ≤ 1000000 ∧ e.n ≤ 1000000 ∧ R = remL d i j [e]
theorem leaves_any (n n₀ Bi Bj Bt Bp : Nat) (d : Bool) {w0 w : World} {x : Option Addr} {R : List Leaf} {i j : Nat} {D0 : Bls} (hw : Below w0.heap.size w0 w) (hn0 : w0.heap.size ≤ n₀) (hn : n₀ ≤ w.heap.size) (hD0 : Have D0 w) (di : D0 Bi) (dj : D0 Bj) (dt : D0 Bt) (dp : D0 Bp)
    (ci : w.cell? ⟨Bi, 0, none⟩ = some (.int .i64 (i : Int))) (cj : w.cell? ⟨Bj, 0, none⟩ = some (.int .i64 (j : Int))) (ct : w.cell? ⟨Bt, 0, none⟩ = some (.pointer x)) (cp : w.cell? ⟨Bp, 0, none⟩ = some (fnv (pkOf d)))
    (H : LvOf w0 d i j x R) (hj : j ≤ 2000000) :
    Iter Fence.wide n Try.prog 103 #[pbox Bi, pbox Bj, pbox Bt, pbox Bp] (fun x : Leaf => #[spotV x.1 x.2.1]) n₀ (fun ys => ys = R) (fun pre => pre <+: R) (fun pre x => R[pre.length]? = some x) D0 w := by
  rcases H with ⟨rfl, rfl⟩ | ⟨e, h, L, h1, rfl, h2, h3, h4, h5, h6, rfl⟩
  · exact leaves_none n n₀ Bi Bj Bt Bp i hD0 di dj ci cj
  · exact leaves_iter n n₀ Bi Bj Bt Bp d hw hn0 hn hD0 di dj dt dp ci cj ct cp h2 h3 h4 h5 h6 h1 hj

/-- The numbers that some values are. -/
def intsOf (vs : List Value) : List Int := vs.map fun v => match v with
  | .int _ n => n
  | _ => 0
theorem intsOf_nums (l : List Int) : intsOf (nums l) = l := by
  unfold intsOf nums
  rw [List.map_map]
  conv => rhs; rw [← List.map_id l]
  rfl
theorem nums_sub {vs : List Value} {l : List Int} (h : ∀ v ∈ vs, v ∈ nums l) : vs = nums (intsOf vs) := by
  induction vs with
  | nil => rfl
  | cons v vs ih =>
    have hv := h v (List.mem_cons_self ..)
    unfold nums at hv
    obtain ⟨x, _, rfl⟩ := List.mem_map.1 hv
    show _ = Value.int .i64 x :: nums (intsOf vs)
    rw [← ih (fun y hy => h y (List.mem_cons_of_mem _ hy))]
/-- Pairs whose numbers begin further on. -/
def shiftP (f : Nat) (l : List (Nat × Int)) : List (Nat × Int) := l.map fun p => (f + p.1, p.2)
def inS (i j : Nat) (p : Nat × Int) : Bool := decide (i ≤ p.1) && decide (p.1 < j)
def selL (d : Bool) (i j : Nat) (x : Leaf) : List (Nat × Int) := (shiftP x.2.1 (dirL d (pairs (intsOf x.2.2)))).filter (inS i j)
theorem pairs_app (a b : List Int) : pairs (a ++ b) = pairs a ++ shiftP a.length (pairs b) := by
  apply List.ext_getElem?
  intro k
  by_cases hk : k < a.length
  · rw [List.getElem?_append_left (by rw [pairs_len]; exact hk)]
    have h1 : (a ++ b)[k]? = some a[k] := by rw [List.getElem?_append_left hk]; exact List.getElem?_eq_getElem hk
    rw [pairs_at h1, pairs_at (List.getElem?_eq_getElem hk)]
  · rw [List.getElem?_append_right (by rw [pairs_len]; omega), pairs_len]
    unfold shiftP
    rw [List.getElem?_map]
    by_cases hb : k - a.length < b.length
    · have h1 : (a ++ b)[k]? = some b[k - a.length] := by rw [List.getElem?_append_right (by omega)]; exact List.getElem?_eq_getElem hb
      rw [pairs_at h1, pairs_at (List.getElem?_eq_getElem hb)]
      simp; omega
    · rw [List.getElem?_eq_none (by rw [pairs_len, List.length_append]; omega), List.getElem?_eq_none (by rw [pairs_len]; omega)]; rfl
theorem shiftP_zero (l : List (Nat × Int)) : shiftP 0 l = l := by
  unfold shiftP
  conv => rhs; rw [← List.map_id l]
  apply List.map_congr_left
  intro p _
  rw [Nat.zero_add]; rfl
theorem shiftP_shift (f g : Nat) (l : List (Nat × Int)) : shiftP f (shiftP g l) = shiftP (f + g) l := by
  unfold shiftP
  rw [List.map_map]
  apply List.map_congr_left
  intro p _
  simp only [Function.comp]
  rw [Nat.add_assoc]
theorem shiftP_app (f : Nat) (a b : List (Nat × Int)) : shiftP f (a ++ b) = shiftP f a ++ shiftP f b := by unfold shiftP; rw [List.map_append]
theorem intsOf_app (a b : List Value) : intsOf (a ++ b) = intsOf a ++ intsOf b := by unfold intsOf; rw [List.map_append]
theorem intsOf_len (a : List Value) : (intsOf a).length = a.length := by unfold intsOf; rw [List.length_map]
theorem dirL_filter {α : Type} (d : Bool) (p : α → Bool) (l : List α) : (dirL d l).filter p = dirL d (l.filter p) := by
  unfold dirL
  cases d
  · simp
  · rfl
theorem dirL_shift (d : Bool) (f : Nat) (l : List (Nat × Int)) : shiftP f (dirL d l) = dirL d (shiftP f l) := by
  unfold dirL shiftP
  cases d
  · simp
  · rfl
theorem dirL_flat {α β : Type} (d : Bool) (g : α → List β) (l : List α) : (dirL d l).flatMap (fun x => dirL d (g x)) = dirL d (l.flatMap g) := by
  unfold dirL
  cases d
  · simp only [Bool.false_eq_true, if_false]; rw [rev_flat]
  · rfl
/-- All leaves' pairs are the whole row's. -/
theorem run_pairs {w : World} {T : TypeId} : ∀ {ls : List Leaf} {f : Nat}, Run w T f ls → ls.flatMap (fun x => shiftP x.2.1 (pairs (intsOf x.2.2))) = shiftP f (pairs (intsOf (ls.flatMap (·.2.2))))
  | [], f, _ => rfl
  | x :: ls, f, ⟨h1, h2, h3, h4⟩ => by
    rw [List.flatMap_cons, List.flatMap_cons, run_pairs h4, h1, intsOf_app, pairs_app, shiftP_app, shiftP_shift, intsOf_len]
theorem sel_none {d : Bool} {i j : Nat} {x : Leaf} (h : inR i j x = false) : selL d i j x = [] := by
  unfold selL
  rw [List.filter_eq_nil_iff]
  intro p hp
  unfold shiftP at hp
  obtain ⟨q, hq, rfl⟩ := List.mem_map.1 hp
  have hq' : q ∈ pairs (intsOf x.2.2) := by
    unfold dirL at hq
    cases d <;> simpa using hq
  have hlt : q.1 < x.2.2.length := by
    unfold pairs at hq'
    obtain ⟨k, hk, rfl⟩ := List.mem_map.1 hq'
    rw [List.mem_range, intsOf_len] at hk
    exact hk
  unfold inR at h
  unfold inS
  simp only [Bool.and_eq_false_iff, decide_eq_false_iff_not] at h
  simp only [Bool.and_eq_true, decide_eq_true_eq]
  omega
theorem flat_filter {α β : Type} {p : α → Bool} {g : α → List β} (h : ∀ x, p x = false → g x = []) : ∀ l : List α, (l.filter p).flatMap g = l.flatMap g
  | [] => rfl
  | x :: l => by
    rw [List.filter_cons, List.flatMap_cons]
    cases hp : p x
    · simp only [Bool.false_eq_true, if_false]; rw [flat_filter h l, h x hp]; rfl
    · simp only [if_true]; rw [List.flatMap_cons, flat_filter h l]
/-- What through hands over of a tree's stretch. -/
theorem sel_all {w : World} {T : TypeId} {h : Nat} {e : Ent} {L : List Int} (H : Node w T h e) (hf : e.f = 0) (hL : e.ls.flatMap (·.2.2) = nums L) (d : Bool) (i j : Nat) : (remL d i j [e]).flatMap (selL d i j) = dirL d ((pairs L).filter (inS i j)) := by
  have h1 : remL d i j [e] = dirL d (e.ls.filter (inR i j)) := by show (dirL d (e.ls.filter (inR i j))) ++ [] = _; rw [List.append_nil]
  have h2 : ∀ x, selL d i j x = dirL d ((shiftP x.2.1 (pairs (intsOf x.2.2))).filter (inS i j)) := fun x => by unfold selL; rw [dirL_shift, dirL_filter]
  have h3 : (dirL d (e.ls.filter (inR i j))).flatMap (selL d i j) = (dirL d e.ls).flatMap (selL d i j) := by
    rw [← dirL_filter, flat_filter (fun x hx => sel_none hx)]
  rw [h1, h3, show selL d i j = fun x => dirL d ((shiftP x.2.1 (pairs (intsOf x.2.2))).filter (inS i j)) from funext h2, dirL_flat, ← filter_flat, run_pairs (node_run H).1, hf, shiftP_zero, hL, intsOf_nums]

end Go.Proofs.Ytofncnommekbjaa
