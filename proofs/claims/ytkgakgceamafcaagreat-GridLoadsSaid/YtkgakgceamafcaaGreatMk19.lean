/-
  Texts of this seat, put together (a claim holds few texts): WgE, WgF, GdB.
-/
import Derived.Test.YtkgakgceamafcaaGreatMk18
import Derived.Laws.MakeOwn
import Derived.Laws.OwnMore

namespace Go.Proofs.YtkgakgceamafcaaGreat
open Go Go.RowKit
set_option linter.unusedVariables false

abbrev Leaf := Nat × Nat × List Value
/-- A node: its block, the number of the first thing below it, how many things, how many nodes, and the leaves. -/
structure Ent where
  b : Nat
  f : Nat
  n : Nat
  m : Nat
  ls : List Leaf
def sumN (es : List Ent) : Nat := (es.map (·.n)).sum
def sumM (es : List Ent) : Nat := (es.map (·.m)).sum
theorem sumN_app (a b : List Ent) : sumN (a ++ b) = sumN a + sumN b := by unfold sumN; rw [List.map_append, List.sum_append]
theorem sumM_app (a b : List Ent) : sumM (a ++ b) = sumM a + sumM b := by unfold sumM; rw [List.map_append, List.sum_append]
theorem sumN_one (a : Ent) : sumN [a] = a.n := by simp [sumN]
theorem sumM_one (a : Ent) : sumM [a] = a.m := by simp [sumM]
theorem sumM_rev (a : List Ent) : sumM a.reverse = sumM a := by
  induction a with
  | nil => rfl
  | cons x a ih => rw [List.reverse_cons, sumM_app, ih, sumM_one]; show _ = (x.m :: a.map (·.m)).sum; rw [List.sum_cons]; unfold sumM; omega
theorem sumN_take (es : List Ent) (k : Nat) : sumN (es.take k) ≤ sumN es := by
  have : sumN es = sumN (es.take k) + sumN (es.drop k) := by rw [← sumN_app, List.take_append_drop]
  omega
theorem sumN_succ {es : List Ent} {k : Nat} {x : Ent} (h : es[k]? = some x) : sumN (es.take (k + 1)) = sumN (es.take k) + x.n := by
  rw [← take_snoc h, sumN_app, sumN_one]

/-- An entry that stands for a node, so many nodes above the leaves. -/
def Node (w : World) (T : TypeId) : Nat → Ent → Prop
  | 0, e => ∃ t : List Value, In w T 0 t e.b ∧ 0 < t.length ∧ e.n = t.length ∧ e.m = 1 ∧ e.ls = [(e.b, e.f, t)]
  | h + 1, e => ∃ (g o c : Nat) (es : List Ent), 0 < es.length ∧ es.length ≤ c ∧ c ≤ maxLen ∧ e.b < w.heap.size ∧ g < w.heap.size ∧ w.cell? ⟨e.b, 0, none⟩ = some (.slice (some ⟨g, o, none⟩) es.length c) ∧ w.cell? ⟨e.b, 2, none⟩ = some (.int .i64 e.n) ∧
      e.n = sumN es ∧ e.m = sumM es + 1 ∧ e.ls = es.flatMap (·.ls) ∧
      ∀ k x, es[k]? = some x → w.cell? ⟨g, o + k, none⟩ = some (ptr x.b) ∧ x.f = e.f + sumN (es.take k) ∧ Node w T h x

theorem list_pick {α : Type} (P : Nat → α → Prop) : ∀ n : Nat, (∀ k, k < n → ∃ x, P k x) → ∃ l : List α, l.length = n ∧ ∀ k x, l[k]? = some x → P k x
  | 0, _ => ⟨[], rfl, fun k x h => by simp at h⟩
  | n + 1, h => by
    obtain ⟨l, hl, hp⟩ := list_pick P n (fun k hk => h k (by omega))
    obtain ⟨x, hx⟩ := h n (by omega)
    refine ⟨l ++ [x], by simp [hl], fun k y hy => ?_⟩
    rcases Nat.lt_or_ge k n with hk | hk
    · rw [List.getElem?_append_left (by omega)] at hy
      exact hp k y hy
    · rw [List.getElem?_append_right (by omega), hl] at hy
      have : k - n = 0 := by
        rcases Nat.eq_zero_or_pos (k - n) with h0 | h0
        · exact h0
        · rw [List.getElem?_eq_none (by simp; omega)] at hy; cases hy
      rw [this] at hy
      simp at hy
      have hkn : k = n := by omega
      rw [hkn, ← hy]
      exact hx

/-- Leaves, one behind the other, from a number on. -/
def Run (w : World) (T : TypeId) : Nat → List Leaf → Prop
  | _, [] => True
  | f, x :: ls => x.2.1 = f ∧ In w T 0 x.2.2 x.1 ∧ 0 < x.2.2.length ∧ Run w T (f + x.2.2.length) ls
def tot (ls : List Leaf) : Nat := (ls.map (·.2.2.length)).sum
theorem tot_app (a b : List Leaf) : tot (a ++ b) = tot a + tot b := by unfold tot; rw [List.map_append, List.sum_append]
theorem tot_cons (x : Leaf) (a : List Leaf) : tot (x :: a) = x.2.2.length + tot a := by unfold tot; rw [List.map_cons, List.sum_cons]
theorem Run.app {w : World} {T : TypeId} : ∀ {a b : List Leaf} {f : Nat}, Run w T f a → Run w T (f + tot a) b → Run w T f (a ++ b)
  | [], b, f, _, h => by simpa [tot] using h
  | x :: a, b, f, h1, h2 => by
    obtain ⟨e1, e2, e3, e4⟩ := h1
    refine ⟨e1, e2, e3, Run.app e4 ?_⟩
    rw [tot_cons] at h2
    rw [Nat.add_assoc]; exact h2

theorem node_run {w : World} {T : TypeId} : ∀ {h : Nat} {e : Ent}, Node w T h e → Run w T e.f e.ls ∧ tot e.ls = e.n ∧ 0 < e.n ∧ 0 < e.m
  | 0, e, ⟨t, h1, h2, h3, h4, h5⟩ => by
    rw [h5]
    exact ⟨⟨rfl, h1, h2, trivial⟩, by simp [tot, h3], by omega, by omega⟩
  | h + 1, e, ⟨g, o, c, es, h0, _, _, _, _, _, _, h3, h4, h5, h6⟩ => by
    have key : ∀ k, k ≤ es.length → Run w T e.f ((es.take k).flatMap (·.ls)) ∧ tot ((es.take k).flatMap (·.ls)) = sumN (es.take k) ∧ (0 < k → 0 < sumN (es.take k)) := by
      intro k
      induction k with
      | zero => intro _; exact ⟨trivial, rfl, fun h => absurd h (by omega)⟩
      | succ k ih =>
        intro hk
        obtain ⟨i1, i2, i3⟩ := ih (by omega)
        obtain ⟨x, hx⟩ : ∃ x, es[k]? = some x := ⟨_, List.getElem?_eq_getElem (by omega)⟩
        obtain ⟨x1, x2, x3⟩ := h6 k x hx
        obtain ⟨y1, y2, y3, y4⟩ := node_run x3
        rw [sumN_succ hx, ← take_snoc hx, List.flatMap_append]
        simp only [List.flatMap_cons, List.flatMap_nil, List.append_nil]
        refine ⟨i1.app ?_, by rw [tot_app, i2, y2], fun _ => by omega⟩
        rw [i2, ← x2]; exact y1
    obtain ⟨k1, k2, k3⟩ := key es.length (Nat.le_refl _)
    rw [List.take_length] at k1 k2 k3
    rw [h5, h3]
    exact ⟨k1, k2, k3 h0, by omega⟩

/-- Does a leaf have something of the stretch? -/
def inR (i j : Nat) (x : Leaf) : Bool := decide (x.2.1 < j) && decide (i < x.2.1 + x.2.2.length)
theorem run_out {w : World} {T : TypeId} {i j : Nat} : ∀ {ls : List Leaf} {f : Nat}, Run w T f ls → (j ≤ f ∨ f + tot ls ≤ i) → ls.filter (inR i j) = []
  | [], _, _, _ => rfl
  | x :: ls, f, ⟨e1, e2, e3, e4⟩, h => by
    rw [tot_cons] at h
    have hx : inR i j x = false := by
      unfold inR
      rw [e1]
      rcases h with h | h
      · rw [decide_eq_false (by omega)]; rfl
      · rw [decide_eq_false (show ¬ i < f + x.2.2.length by omega)]; simp
    rw [List.filter_cons, hx]
    exact run_out e4 (by omega)
theorem run_at {w : World} {T : TypeId} : ∀ {ls : List Leaf} {f : Nat} {x : Leaf}, Run w T f ls → x ∈ ls → In w T 0 x.2.2 x.1 ∧ 0 < x.2.2.length
  | y :: ls, f, x, ⟨e1, e2, e3, e4⟩, h => by
    rcases List.mem_cons.1 h with rfl | h
    · exact ⟨e2, e3⟩
    · exact run_at e4 h

/-- Forward, or the last one first. -/
def dirL {α : Type} (d : Bool) (l : List α) : List α := if d then l else l.reverse
theorem dirL_one {α : Type} (d : Bool) (x : α) : dirL d [x] = [x] := by cases d <;> rfl
theorem dirL_nil {α : Type} (d : Bool) : dirL d ([] : List α) = [] := by cases d <;> rfl
theorem dirL_len {α : Type} (d : Bool) (l : List α) : (dirL d l).length = l.length := by cases d <;> simp [dirL]
/-- How kids lie on the stack. -/
def pile (d : Bool) (es : List Ent) : List Ent := dirL (!d) es
/-- What is still to come from a stack. -/
def remL (d : Bool) (i j : Nat) (stk : List Ent) : List Leaf := stk.reverse.flatMap fun e => dirL d (e.ls.filter (inR i j))
theorem remL_snoc (d : Bool) (i j : Nat) (stk : List Ent) (e : Ent) : remL d i j (stk ++ [e]) = dirL d (e.ls.filter (inR i j)) ++ remL d i j stk := by
  unfold remL
  rw [List.reverse_append, List.reverse_singleton, List.flatMap_append, List.flatMap_cons, List.flatMap_nil, List.append_nil]
theorem remL_app (d : Bool) (i j : Nat) (a b : List Ent) : remL d i j (a ++ b) = remL d i j b ++ remL d i j a := by
  unfold remL
  rw [List.reverse_append, List.flatMap_append]
theorem filter_flat {α β : Type} (p : β → Bool) (g : α → List β) : ∀ l : List α, (l.flatMap g).filter p = l.flatMap fun x => (g x).filter p
  | [] => rfl
  | x :: l => by rw [List.flatMap_cons, List.filter_append, List.flatMap_cons, filter_flat p g l]
theorem rev_flat {α β : Type} (g : α → List β) : ∀ l : List α, (l.flatMap g).reverse = l.reverse.flatMap fun x => (g x).reverse
  | [] => rfl
  | x :: l => by rw [List.flatMap_cons, List.reverse_append, List.reverse_cons, List.flatMap_append, rev_flat g l, List.flatMap_cons, List.flatMap_nil, List.append_nil]
theorem remL_pile (d : Bool) (i j : Nat) (es : List Ent) : remL d i j (pile d es) = dirL d ((es.flatMap (·.ls)).filter (inR i j)) := by
  unfold remL pile
  rw [filter_flat]
  cases d
  · simp only [dirL, Bool.not_false, if_true, Bool.false_eq_true, if_false]
    rw [rev_flat]
  · simp only [dirL, Bool.not_true, if_true, Bool.false_eq_true, if_false, List.reverse_reverse]

theorem node_zero {w : World} {T : TypeId} {t : List Value} {b : Nat} (f : Nat) (H : In w T 0 t b) (h0 : 0 < t.length) : ∃ e : Ent, e.b = b ∧ e.f = f ∧ e.n = (flatL 0 t).length ∧ Node w T 0 e ∧ e.ls.flatMap (·.2.2) = flatL 0 t ∧ e.m + 1 ≤ 2 * e.n := by
  rw [flatL_zero]
  exact ⟨⟨b, f, t.length, 1, [(b, f, t)]⟩, rfl, rfl, rfl, ⟨t, H, h0, rfl, rfl, rfl⟩, List.append_nil t, by show 1 + 1 ≤ 2 * t.length; omega⟩
theorem node_of {w : World} {T : TypeId} : ∀ (h : Nat) {lo : Nat} {t : List (El h)} {b : Nat} (f : Nat), 1 ≤ lo → (0 < h → 2 ≤ lo) → In w T h t b → Ok lo h t → ∃ e : Ent, e.b = b ∧ e.f = f ∧ e.n = (flatL h t).length ∧ Node w T h e ∧ e.ls.flatMap (·.2.2) = flatL h t ∧ e.m + 1 ≤ 2 * e.n
  | 0, lo, t, b, f, hlo, _, H, hok => node_zero (t := t) f H (show 0 < List.length t from by have hl := hok.len; omega)
  | h + 1, lo, t, b, f, hlo, hlo2, H, hok => by
    have hl := hok.len
    obtain ⟨a, c, k0, _, hes⟩ := H.kids
    obtain ⟨g, o, rfl, hg⟩ := hes.has (by omega)
    have hcap := hes.cap
    obtain ⟨es, e1, e2⟩ := list_pick (fun k (x : Ent) => w.cell? ⟨g, o + k, none⟩ = some (ptr x.b) ∧ x.f = f + (flatL (h + 1) (t.take k)).length ∧ x.n = (flatL h (nth t k)).length ∧ Node w T h x ∧ x.ls.flatMap (·.2.2) = flatL h (nth t k) ∧ x.m + 1 ≤ 2 * x.n) t.length (fun k hk => by
      obtain ⟨bk, q1, q2⟩ := hes.at (nth_at hk)
      obtain ⟨e, r1, r2, r3, r4, r5, r6⟩ := node_of h (f + (flatL (h + 1) (t.take k)).length) (by omega) (fun _ => by omega) q2 (hok.oks k hk)
      exact ⟨e, by rw [r1]; exact q1, r2, r3, r4, r5, r6⟩)
    have key : ∀ k, k ≤ es.length → (sumM (es.take k) + k ≤ 2 * sumN (es.take k)) ∧ sumN (es.take k) = (flatL (h + 1) (t.take k)).length ∧ ((es.take k).flatMap (·.ls)).flatMap (·.2.2) = flatL (h + 1) (t.take k) := by
      intro k
      induction k with
      | zero => intro _; exact ⟨by simp [sumM, sumN], rfl, rfl⟩
      | succ k ih =>
        intro hk
        obtain ⟨i0, i1, i2⟩ := ih (by omega)
        obtain ⟨x, hx⟩ : ∃ x, es[k]? = some x := ⟨_, List.getElem?_eq_getElem (by omega)⟩
        obtain ⟨_, _, x3, _, x5, x6⟩ := e2 k x hx
        refine ⟨by rw [sumN_succ hx, ← take_snoc hx, sumM_app, sumM_one]; omega, ?_⟩
        have ht : t.take (k + 1) = t.take k ++ [mk1 (nth t k)] := (take_snoc (nth_at (by omega))).symm
        have hf : flatL (h + 1) [mk1 (nth t k)] = flatL h (nth t k) := by rw [flatL_cons, flatL_nil, List.append_nil]; rfl
        rw [sumN_succ hx, ht, flatL_app, hf, ← take_snoc hx, List.flatMap_append, List.flatMap_append, List.length_append, i1, i2, x3]
        simp only [List.flatMap_cons, List.flatMap_nil, List.append_nil]
        exact ⟨by first | trivial | rfl, by rw [x5]⟩
    obtain ⟨k0', k1, k2⟩ := key es.length (Nat.le_refl _)
    rw [List.take_length] at k0'
    rw [List.take_length, e1, List.take_length] at k1 k2
    refine ⟨⟨b, f, (flatL (h + 1) t).length, sumM es + 1, es.flatMap (·.ls)⟩, rfl, rfl, rfl, ⟨g, o, c, es, by omega, by omega, by omega, H.lt, hg, by rw [e1]; exact k0, H.num, k1.symm, rfl, rfl, fun k x hx => ?_⟩, k2, by show sumM es + 1 + 1 ≤ 2 * (flatL (h + 1) t).length; have := hlo2 (by omega); omega⟩
    obtain ⟨q1, q2, q3, q4, q5, q6⟩ := e2 k x hx
    exact ⟨q1, by rw [q2, (key k (by have := (List.getElem?_eq_some_iff.1 hx).1; omega)).2.1], q4⟩

end Go.Proofs.YtkgakgceamafcaaGreat

namespace Go.Proofs.YtkgakgceamafcaaGreat
open Go Go.RowKit
set_option linter.unusedVariables false

/-- The cells of some spots. -/
def spQ (es : List Ent) : List Value := es.flatMap fun x => [ptr x.b, .int .i64 (x.f : Int)]
theorem spQ_app (a b : List Ent) : spQ (a ++ b) = spQ a ++ spQ b := by unfold spQ; rw [List.flatMap_append]
theorem spQ_len (a : List Ent) : (spQ a).length = a.length * 2 := by
  induction a with
  | nil => rfl
  | cons x a ih => unfold spQ at *; rw [List.flatMap_cons, List.length_append, ih, List.length_cons]; simp; omega
theorem spQ_one (a : List Ent) : ∀ u ∈ spQ a, u.oneCell' = true := fun u hu => by
  unfold spQ at hu
  obtain ⟨x, _, h⟩ := List.mem_flatMap.1 hu
  simp at h
  rcases h with rfl | rfl <;> rfl
theorem spQ_at {a : List Ent} {k : Nat} {x : Ent} (h : a[k]? = some x) : (spQ a)[k * 2]? = some (ptr x.b) ∧ (spQ a)[k * 2 + 1]? = some (.int .i64 (x.f : Int)) := by
  have hk := (List.getElem?_eq_some_iff.1 h).1
  have e : a = a.take k ++ x :: a.drop (k + 1) := by
    rw [List.getElem?_eq_getElem hk] at h
    injection h with h
    rw [← h, List.getElem_cons_drop, List.take_append_drop]
  have hl : (spQ (a.take k)).length = k * 2 := by rw [spQ_len, List.length_take, Nat.min_eq_left (by omega)]
  rw [e, spQ_app]
  constructor
  · rw [List.getElem?_append_right (by omega), hl, Nat.sub_self]; rfl
  · rw [List.getElem?_append_right (by omega), hl, show k * 2 + 1 - k * 2 = 1 by omega]; rfl
def mkS (es : List Ent) (m : Nat) : Array Value := (spQ es ++ spQ (List.replicate (m - es.length) ⟨0, 0, 0, 0, []⟩)).toArray
def zeroS (m : Nat) : List Value := (List.replicate m [Value.pointer none, Value.int .i64 0]).flatten
theorem zeroS_succ (m : Nat) : zeroS (m + 1) = Value.pointer none :: Value.int .i64 0 :: zeroS m := by unfold zeroS; rw [List.replicate_succ, List.flatten_cons]; rfl
def mkZ (es : List Ent) (m : Nat) : Array Value := (spQ es ++ zeroS (m - es.length)).toArray
theorem set2_app {A B : List Value} {u v u' v' : Value} {k : Nat} (h : A.length = k) : ((A ++ u :: v :: B).toArray.setIfInBounds k u').setIfInBounds (k + 1) v' = (A ++ u' :: v' :: B).toArray := by
  subst h
  rw [List.setIfInBounds_toArray, List.setIfInBounds_toArray, List.set_append_right _ _ (Nat.le_refl _), Nat.sub_self, List.set_cons_zero, List.set_append_right _ _ (by omega), show A.length + 1 - A.length = 1 by omega]
  rfl
theorem mkZ_set {es : List Ent} {m k : Nat} (hk : es.length = k) (h : k < m) (x : Ent) : ((mkZ es m).setIfInBounds (k * 2) (ptr x.b)).setIfInBounds (k * 2 + 1) (.int .i64 (x.f : Int)) = mkZ (es ++ [x]) m := by
  unfold mkZ
  rw [hk, show m - k = (m - (k + 1)) + 1 by omega, zeroS_succ, set2_app (by rw [spQ_len, hk]), List.length_append, hk, spQ_app, List.append_assoc]
  rfl
theorem mkZ_at {es : List Ent} {m k : Nat} (hk : es.length = k) (h : k < m) : (mkZ es m)[k * 2]? = some (.pointer none) ∧ (mkZ es m)[k * 2 + 1]? = some (.int .i64 0) := by
  unfold mkZ
  have hl : (spQ es).length = k * 2 := by rw [spQ_len, hk]
  rw [hk, show m - k = (m - (k + 1)) + 1 by omega, zeroS_succ, List.getElem?_toArray, List.getElem?_toArray]
  constructor
  · rw [List.getElem?_append_right (by omega), hl, Nat.sub_self]; rfl
  · rw [List.getElem?_append_right (by omega), hl, show k * 2 + 1 - k * 2 = 1 by omega]; rfl
theorem mkZ_full {es : List Ent} {m : Nat} (h : es.length = m) : mkZ es m = (spQ es).toArray := by
  unfold mkZ
  rw [h, Nat.sub_self]
  show (spQ es ++ []).toArray = _
  rw [List.append_nil]
theorem made_spots (m : Nat) : (madeCells #[.pointer none, .int .i64 0] (m * 2)).toList = zeroS m := by
  apply List.ext_getElem?
  intro j
  have hz : ∀ m, (zeroS m).length = m * 2 := fun m => by
    induction m with
    | zero => rfl
    | succ m ih => rw [zeroS_succ, List.length_cons, List.length_cons, ih]; omega
  by_cases hj : j < m * 2
  · have e : (madeCells #[Value.pointer none, .int .i64 0] (m * 2)).toList[j]? = some (#[Value.pointer none, .int .i64 0][j % 2]!) := by simp [madeCells, hj]
    have e2 : ∀ m j, j < m * 2 → (zeroS m)[j]? = some (#[Value.pointer none, .int .i64 0][j % 2]!) := fun m => by
      induction m with
      | zero => intro j h; omega
      | succ m ih =>
        intro j h
        rw [zeroS_succ]
        match j, h with
        | 0, _ => rfl
        | 1, _ => rfl
        | j + 2, h => rw [List.getElem?_cons_succ, List.getElem?_cons_succ, ih j (by omega), Nat.add_mod_right]
    rw [e, e2 m j hj]
  · rw [List.getElem?_eq_none (by simp [size_madeCells]; omega), List.getElem?_eq_none (by rw [hz]; omega)]
theorem own_whole {w : World} {B g m s : Nat} {e : TypeId} {xs : List Value} (h : w.ownsRow B e s (.slice (some ⟨g, 0, none⟩) m m) m xs) : w.heap[g]? = some (.cells xs.toArray e (0, 0)) ∧ B ≤ g := by
  rcases h.2 with ⟨h1, _⟩ | ⟨g', cap, cur, h1, hb, hg, h3, h4, h5, h6⟩
  · cases h1
  · simp only [Value.slice.injEq, Option.some.injEq, Addr.mk.injEq] at h1
    obtain ⟨⟨rfl, _⟩, _, rfl⟩ := h1
    rw [List.take_of_length_le (by simp; omega)] at h6
    rw [← h6]
    exact ⟨hg, hb⟩
theorem info_sp : (Tryz.prog.info? 211).map (fun i => (i.zero, i.size, i.bytes)) = some (some (.agg #[.pointer none, .int .i64 0]), 2, 16) := by kernel_rfl

end Go.Proofs.YtkgakgceamafcaaGreat

namespace Go.Proofs.YtkgakgceamafcaaGreat
open Go Go.RowKit
set_option linter.unusedVariables false

/-- Rows of cells in memory, of an arena's bytes. -/
structure GrIn (w : World) (l : List UInt8) (Ls : List R3) (Cs : List (List CelM)) : Prop where
  len : Ls.length = Cs.length
  row : ∀ (k : Nat) (r : R3) (ms : List CelM), Ls[k]? = some r → Cs[k]? = some ms → r.n = ms.length ∧ RoIn w l r.a ms
theorem GrIn.below {w w' : World} {l : List UInt8} {Ls : List R3} {Cs : List (List CelM)} (h : GrIn w l Ls Cs) (hb : Below w.heap.size w w') : GrIn w' l Ls Cs := ⟨h.len, fun k r ms h1 h2 => ⟨(h.row k r ms h1 h2).1, (h.row k r ms h1 h2).2.below hb⟩⟩
theorem GrIn.setT {w : World} {l : List UInt8} {Ls : List R3} {Cs : List (List CelM)} {b o : Nat} {u : Value} {cs : Array Value} {T : TypeId} {fr : Nat × Nat} (h : GrIn w l Ls Cs) (hb : w.heap[b]? = some (.cells cs T fr)) (hT : T ≠ 59) (hT2 : T ≠ 61) : GrIn (w.setCell ⟨b, o, none⟩ u) l Ls Cs := ⟨h.len, fun k r ms h1 h2 => ⟨(h.row k r ms h1 h2).1, (h.row k r ms h1 h2).2.setT hb hT hT2⟩⟩
theorem GrIn.snoc {w : World} {l : List UInt8} {Ls : List R3} {Cs : List (List CelM)} {r : R3} {ms : List CelM} (h : GrIn w l Ls Cs) (h1 : r.n = ms.length) (h2 : RoIn w l r.a ms) : GrIn w l (Ls ++ [r]) (Cs ++ [ms]) := by
  have hl := h.len
  refine ⟨by simp [hl], fun k r' ms' e1 e2 => ?_⟩
  rcases Nat.lt_or_ge k Ls.length with hk | hk
  · rw [List.getElem?_append_left hk] at e1
    rw [List.getElem?_append_left (by omega)] at e2
    exact h.row k r' ms' e1 e2
  · have hk0 : k = Ls.length := by
      have := (List.getElem?_eq_some_iff.1 e1).1
      rw [List.length_append, List.length_singleton] at this
      omega
    rw [List.getElem?_append_right hk, hk0, Nat.sub_self] at e1
    rw [List.getElem?_append_right (by omega), hk0, hl, Nat.sub_self] at e2
    simp at e1 e2
    subst e1 e2
    exact ⟨h1, h2⟩
/-- Rows that are a file's, as far as they go. -/
def FileOf (Ls : List R3) (Cs : List (List CelM)) (R : List Rw) : Prop := ∀ (k : Nat) (r : R3) (ms : List CelM) (q : Rw), Ls[k]? = some r → Cs[k]? = some ms → R[k]? = some q → r.e = q.fin ∧ r.b = false ∧ ms.map keyC = q.fs.map keyF
theorem FileOf.snoc {Ls : List R3} {Cs : List (List CelM)} {R : List Rw} {r : R3} {ms : List CelM} {q : Rw} (h : FileOf Ls Cs R) (hl : Ls.length = Cs.length) (hq : R[Ls.length]? = some q) (h1 : r.e = q.fin) (h2 : r.b = false) (h3 : ms.map keyC = q.fs.map keyF) : FileOf (Ls ++ [r]) (Cs ++ [ms]) R := by
  intro k r' ms' q' e1 e2 e3
  rcases Nat.lt_or_ge k Ls.length with hk | hk
  · rw [List.getElem?_append_left hk] at e1
    rw [List.getElem?_append_left (by omega)] at e2
    exact h k r' ms' q' e1 e2 e3
  · have hk0 : k = Ls.length := by
      have := (List.getElem?_eq_some_iff.1 e1).1
      rw [List.length_append, List.length_singleton] at this
      omega
    rw [List.getElem?_append_right hk, hk0, Nat.sub_self] at e1
    rw [List.getElem?_append_right (by omega), hk0, hl, Nat.sub_self] at e2
    rw [hk0, hq] at e3
    simp at e1 e2 e3
    subst e1 e2 e3
    exact ⟨h1, h2, h3⟩

/-- What Load's loop keeps. -/
def LgJ (l : List UInt8) (R : List Rw) (w2 : World) (g n : Nat) (v6 v37 : Value) (wr : World) : Prop :=
  ∃ (k : Nat) (Ls : List R3) (Cs : List (List CelM)), v6 = .int .i64 0 ∧ v37 = .int .i64 (k : Int) ∧ k ≤ n ∧ Ls.length = k ∧ wr.heap[g]? = some (.cells (cs3 (rws (Ls ++ List.replicate (n - k) zR))).toArray 103 (0, 0)) ∧ GrIn wr l Ls Cs ∧ FileOf Ls Cs R ∧ Below w2.heap.size w2 wr

set_option maxRecDepth 100000 in
set_option maxHeartbeats 4000000 in
theorem gload_ok {w : World} {l : List UInt8} {a : Option Addr} {N c n : Nat} (hrd : Rd w 1 a l.length (bc l)) (hN : l.length = N) (hl : N ≤ 4096) (hlc : N ≤ c) (hc : c ≤ maxLen) (hn : (allP l 0).length = n) (hn4 : n ≤ 400) (hok : ∀ r ∈ allP l 0, r.fs.length ≤ 40 ∧ ∀ f ∈ r.fs, ¬ longF f) :
    Calls Tryz.prog 10 #[.slice a N c] w fun e w' => ∃ (px : Option Addr) (p : Nat) (Ls : List R3) (Cs : List (List CelM)), e = .returned (.tuple #[.agg #[.pointer px, .bool (tailP (allP l 0)), .int .i64 (frsP (allP l 0))], .pointer (some ⟨p, 0, none⟩), .int .i64 0]) ∧
      Tin w' 194 (.pointer px) (rws Ls) ∧ Ls.length = n ∧ GrIn w' l Ls Cs ∧ FileOf Ls Cs (allP l 0) ∧ Ar w' (w.heap.size + 1) p l ∧ Below w.heap.size w w' := by
  obtain ⟨i0, hi0, hz0, hz1, hz2⟩ := info_parts info_rw
  have hh0 := heap_alloc_new w (Obj.cells #[.pointer none, .bool false, .int .i64 0] 27)
  have al0 := t_al w (Obj.cells #[.pointer none, .bool false, .int .i64 0] 27)
  obtain ⟨w1, hw1⟩ : ∃ w1, w.alloc (Obj.cells #[.pointer none, .bool false, .int .i64 0] 27) = w1 := ⟨_, rfl⟩
  have hsz1 : (w.alloc (Obj.cells #[.pointer none, .bool false, .int .i64 0] 27)).heap.size = w.heap.size + 1 := by simp
  rw [hw1] at hh0 al0 hsz1
  have HNew := Lib.hid (new_of (t := l) a c (hrd.below al0) (by rw [hN]; exact hl))
  rw [hN] at HNew
  have HRd := Lib.hid (hrd.below al0)
  have HN := Lib.hid hN
  have HOK := Lib.hid hok
  have HNn := Lib.hid hn
  have HH0 := Lib.hid hh0
  have HAL0 := Lib.hid al0
  have HSZ1 := Lib.hid hsz1
  obtain ⟨R, hR⟩ : ∃ R, allP l 0 = R := ⟨_, rfl⟩
  have HRR := Lib.hid hR
  rw [hR] at HOK HNn ⊢
  clear hrd hN hok hn hh0 al0 hsz1 hR
  go_enter Tryz.func10, Tryz.ntmps10
  go_wp2_with fail
  refine HNew.out.mono ?_; rintro e w2 ⟨p, rfl, hAr, hb2⟩
  have HAr := Lib.hid hAr
  have HB2 := Lib.hid hb2
  have HAll := Lib.hid (all_of (c := c) (HRd.out.below hb2) (by rw [HN.out]; omega) (by rw [HN.out]; exact hlc) hc)
  rw [HN.out, HRR.out] at HAll
  clear hAr hb2 HNew hw1
  go_wp2_with fail
  refine HAll.out.mono ?_; rintro e w3 ⟨rs, a4, c4, rfl, hm, ho, hi, hb3⟩
  have hrl : rs.length = n := by rw [← HNn.out, ← hm, List.length_map]
  have HRS := Lib.hid hrl
  rw [hrl] at ho ⊢
  have HM := Lib.hid hm
  have HO := Lib.hid ho
  have HI := Lib.hid hi
  have HB3 := Lib.hid (HB2.out.trans (hb3.mono HB2.out.size))
  have HAr3 := Lib.hid (HAr.out.below hb3)
  have d4 : decide ((400 : Int) < (n : Int)) = false := decide_eq_false (by omega)
  have d4' : decide (400 < n) = false := decide_eq_false (by omega)
  clear hm ho hi hb3 hrl HAll HAr
  go_wp2_with (at_make; refine wpList_make_full _ rfl _ _ 98 rfl w3.heap.size 103 i0 (.agg #[.slice none 0 0, .int .i64 0, .bool false]) 3 Tryz.underlying98 hi0 hz0 hz1 .i64 .i64 _ _ n rfl rfl rfl rfl ?b2 ?b3 ?b4 ?_)
  case b2 => rw [hz2]; omega
  case b3 => unfold maxLen; omega
  case b4 => omega
  intro w4 hown hgrow
  rw [show (madeCells #[Value.slice none 0 0, .int .i64 0, .bool false] (n * 3)).toList = cs3 (rws (List.replicate n zR)) from made_rows n] at hown
  obtain ⟨hg4, _⟩ := own_whole hown
  have hb4 := (Below.refl w3.heap.size w3).grown hgrow (Nat.le_refl _) (by simp)
  obtain ⟨g, hgg⟩ : ∃ g, w3.heap.size = g := ⟨_, rfl⟩
  have HGG := Lib.hid hgg
  rw [hgg] at hg4 ⊢
  have HG4 := Lib.hid hg4
  have HB4 := Lib.hid hb4
  clear hown hgrow hg4 hb4
  go_wp2_with fail
  go_loopw [6, 37] (fun v6 v37 wr => LgJ l R w3 g n v6 v37 wr) (fun _ v37 _ => n - (intOf v37).toNat)
  case atStart => exact ⟨0, [], [], rfl, rfl, Nat.zero_le _, rfl, HG4.out, ⟨rfl, fun k r ms h => by simp at h⟩, fun k r ms q h => by simp at h, HB4.out⟩
  case round =>
    obtain ⟨k, Ls, Cs, rfl, rfl, hk, hkl, hblk, hgr, hfo, hb⟩ := hrel
    have HKL := Lib.hid hkl
    have HBlk := Lib.hid hblk
    have HGr := Lib.hid hgr
    have HFo := Lib.hid hfo
    have HB := Lib.hid hb
    have hzr := hb.size
    have HLen := Lib.hid hgr.len
    clear hblk hgr hfo hkl
    by_cases hlt : k < n
    · have dk : decide (k < n) = true := decide_eq_true hlt
      have hkr : k < rs.length := by rw [HRS.out]; exact hlt
      have hrk : rs[k]? = some rs[k] := List.getElem?_eq_getElem hkr
      rcases own_form HO.out with ⟨_, h0⟩ | ⟨ga, hga, _, hga2⟩
      · omega
      subst hga
      have hRk : R[k]? = some rs[k].1 := by rw [← HM.out, List.getElem?_map, hrk]; rfl
      have hri := HI.out rs[k] (List.getElem_mem hkr)
      have p0 := (hb.cell (p := ⟨ga, k * 2 + 0, none⟩) hga2).trans (own_cells HO.out ((rwC_at rs k rs[k] 0 hrk (by omega)).trans rfl))
      have p1 := (hb.cell (p := ⟨ga, k * 2 + 1, none⟩) hga2).trans (own_cells HO.out ((rwC_at rs k rs[k] 1 hrk (by omega)).trans rfl))
      rw [Nat.add_zero] at p0
      generalize rs[k] = P at *
      obtain ⟨Q, ps, pa, pc⟩ := P
      simp only at hRk p0 p1
      have hpl : ps.length = Q.fs.length := by rw [← hri.fs]; simp
      have hmem : Q ∈ allP l 0 := by rw [HRR.out]; exact List.mem_of_getElem? hRk
      have hrf := row_fields hmem
      have hokQ := HOK.out Q (by rw [← HRR.out]; exact hmem)
      obtain ⟨m, hm⟩ : ∃ m, ps.length = m := ⟨_, rfl⟩
      rw [hm] at p0 hpl
      have e0 : (0 : Int) ≤ (k : Int) := by omega
      have e1 : (k : Int) < (n : Int) := by omega
      have al := t_al wr (Obj.cells #[.slice pa m pc, .int .i64 Q.fin] 101)
      have hh := heap_alloc_new wr (Obj.cells #[.slice pa m pc, .int .i64 Q.fin] 101)
      have HLd := Lib.hid (rload_of (l := l) ((hri.below hb).below al) (fun f hf => hrf.2 f hf) (by rw [HN.out]; omega) (by omega))
      rw [← hpl] at HLd
      have HRk := Lib.hid (And.intro hRk (And.intro hokQ hpl))
      have hgr' : g < wr.heap.size := lt_of_heap HBlk.out
      clear hri hrf hmem hokQ hRk hpl hm hrk hkr hlc
      generalize hfin : Q.fin = fin at *
      have HFIN := Lib.hid hfin
      clear hfin
      go_upto_region 11 with fail
      generalize wr.alloc (Obj.cells #[.slice pa m pc, .int .i64 fin] 101) = w5 at *
      have q0 : w5.cell? ⟨wr.heap.size, 0, none⟩ = some (.slice pa m pc) := (cell_at hh 0).trans rfl
      have q1 : w5.cell? ⟨wr.heap.size, 1, none⟩ = some (.int .i64 fin) := (cell_at hh 1).trans rfl
      have HB5 := Lib.hid (HB.out.trans (al.mono hzr))
      have HG5 := Lib.hid ((al.block g hgr').trans HBlk.out)
      have HGr5 := Lib.hid (HGr.out.below al)
      clear al hh p0 p1 HBlk HGr hb
      go_wp2_with fail
      refine HLd.out.mono ?_; rintro e w6 hpost
      obtain ⟨hb6, h | h | h⟩ := hpost
      · exact absurd h.1 (by have := HRk.out.2.1.1; omega)
      · obtain ⟨f, hf, hlg⟩ := h.2.1
        exact absurd hlg (HRk.out.2.1.2 f hf)
      obtain ⟨_, _, a', c', Ms, rfl, hkey, hro, hcl, hcn⟩ := h
      rw [HFIN.out]
      have HG6 := Lib.hid ((hb6.block g (lt_of_heap HG5.out)).trans HG5.out)
      have HGr6 := Lib.hid (HGr5.out.below hb6)
      have HB6 := Lib.hid (HB5.out.trans (hb6.mono HB5.out.size))
      have HRo := Lib.hid hro
      have HKey := Lib.hid hkey
      obtain ⟨mm, hmm⟩ : ∃ mm, Ms.length = mm := ⟨_, rfl⟩
      have HMM := Lib.hid hmm
      rw [hmm]
      obtain ⟨L, hL⟩ : ∃ L, Ls ++ List.replicate (n - k) zR = L := ⟨_, rfl⟩
      rw [hL] at HG6
      have hLk : L[k]? = some zR := by
        rw [← hL, List.getElem?_append_right (by rw [HKL.out]; exact Nat.le_refl _), HKL.out, Nat.sub_self, show n - k = (n - k - 1) + 1 by omega, List.replicate_succ]; rfl
      have hLr : (rws L)[k]? = some (r3V zR) := by unfold rws; rw [List.getElem?_map, hLk]; rfl
      have hLl : k < L.length := (List.getElem?_eq_some_iff.1 hLk).1
      have hbx := HG6.out
      have zz := fun i => unfrozen hbx i
      have y0 : w6.cell? ⟨g, k * 3, none⟩ = some (.slice none 0 0) := by rw [cell_at hbx, List.getElem?_toArray]; exact (cs3_at (rws_is L) hLr (j := 0) (by omega)).trans rfl
      have y1 : w6.cell? ⟨g, k * 3 + 1, none⟩ = some (.int .i64 0) := by rw [cell_at hbx, List.getElem?_toArray]; exact (cs3_at (rws_is L) hLr (j := 1) (by omega)).trans rfl
      have y2 : w6.cell? ⟨g, k * 3 + 2, none⟩ = some (.bool false) := by rw [cell_at hbx, List.getElem?_toArray]; exact (cs3_at (rws_is L) hLr (j := 2) (by omega)).trans rfl
      have hset := heap_set_at (o := k * 3 + 2) (u := Value.bool false) (heap_set_at (o := k * 3 + 1) (u := Value.int .i64 fin) (heap_set_at (o := k * 3) (u := Value.slice a' mm c') HG6.out))
      have hs3 := cs3_set hLl ⟨a', mm, c', fin, false⟩
      simp only at hs3
      rw [hs3] at hset
      have hLs : L.set k ⟨a', mm, c', fin, false⟩ = (Ls ++ [⟨a', mm, c', fin, false⟩]) ++ List.replicate (n - (k + 1)) zR := by
        rw [← hL, List.set_append, if_neg (by rw [HKL.out]; omega), HKL.out, Nat.sub_self, show n - k = (n - (k + 1)) + 1 by omega, List.replicate_succ, List.set_cons_zero]
        simp
      rw [hLs] at hset
      have HSet := Lib.hid hset
      have HGr7 := Lib.hid (((HGr6.out.setT (o := k * 3) (u := Value.slice a' mm c') HG6.out (by decide) (by decide)).setT (o := k * 3 + 1) (u := Value.int .i64 fin) (heap_set_at HG6.out) (by decide) (by decide)).setT (o := k * 3 + 2) (u := Value.bool false) (heap_set_at (heap_set_at HG6.out)) (by decide) (by decide))
      have HRo7 := Lib.hid (((HRo.out.setT (o := k * 3) (u := Value.slice a' mm c') HG6.out (by decide) (by decide)).setT (o := k * 3 + 1) (u := Value.int .i64 fin) (heap_set_at HG6.out) (by decide) (by decide)).setT (o := k * 3 + 2) (u := Value.bool false) (heap_set_at (heap_set_at HG6.out)) (by decide) (by decide))
      have hgw : w3.heap.size ≤ g := by rw [HGG.out]; exact Nat.le_refl _
      have HB7 := Lib.hid (((HB6.out.setCell (p := ⟨g, k * 3, none⟩) hgw (Value.slice a' mm c')).setCell (p := ⟨g, k * 3 + 1, none⟩) hgw (Value.int .i64 fin)).setCell (p := ⟨g, k * 3 + 2, none⟩) hgw (Value.bool false))
      clear hb6 hro hkey hmm hL hLk hLr hLl hbx hset hs3 hLs HLd HG5 HGr5 HB5 HG6 HGr6 HB6 HRo q0 q1 hgw hgr'
      go_wp2_with fail
      go_roundw
      case rel =>
        refine ⟨k + 1, Ls ++ [⟨a', mm, c', fin, false⟩], Cs ++ [Ms], rfl, by go_num, by omega, by rw [List.length_append, HKL.out]; rfl, HSet.out, HGr7.out.snoc HMM.out.symm HRo7.out, HFo.out.snoc HLen.out (by rw [HKL.out]; exact HRk.out.1) HFIN.out.symm rfl HKey.out, HB7.out⟩
      case measure => simp [intOf]; omega
    · have dk : decide (k < n) = false := decide_eq_false hlt
      obtain rfl : k = n := by omega
      have hbk := HBlk.out
      rw [Nat.sub_self, List.replicate_zero, List.append_nil] at hbk
      have hS3 : S3 wr (some ⟨g, 0, none⟩) (rws Ls).length (rws Ls) := S3.new hbk (by rw [rws_len, HKL.out]; unfold maxLen; omega) (rws_is Ls)
      rw [rws_len, HKL.out] at hS3
      have HOf := Lib.hid (of_i (n := k) hS3 (by rw [rws_len]; exact HKL.out) (by omega) (rws_gd Ls))
      have hrs : RsRd wr a4 k R := ⟨HNn.out, rs, HM.out, (t_rd HO.out).below hb⟩
      have HRs := Lib.hid hrs
      clear hbk hS3 hrs hb
      go_wp2_with fail
      refine HOf.out.mono ?_; rintro e w5 ⟨pv, rfl, hT, hb5⟩
      obtain ⟨px, rfl⟩ : ∃ px, pv = .pointer px := by
        rcases hT.one with rfl | ⟨b, rfl⟩
        · exact ⟨_, rfl⟩
        · exact ⟨_, rfl⟩
      have HEn := Lib.hid (gended_of (c := c4) (HRs.out.below hb5) (by omega))
      have HT := Lib.hid hT
      have HB5 := Lib.hid hb5
      clear hT hb5 HOf
      go_wp2_with fail
      refine HEn.out.mono ?_; rintro e w6 ⟨rfl, rfl⟩
      have HFi := Lib.hid (gfirst_of (c := c4) (HRs.out.below HB5.out) (by omega))
      clear HEn
      go_wp2_with fail
      refine HFi.out.mono ?_; rintro e w6 ⟨rfl, hb6⟩
      have HT6 := Lib.hid (HT.out.below hb6)
      have hb36 := HB.out.trans ((HB5.out.trans (hb6.mono HB5.out.size)).mono HB.out.size)
      have hbw3 := HAL0.out.trans (HB3.out.mono HAL0.out.size)
      have hbw6 := hbw3.trans (hb36.mono hbw3.size)
      have hG := (HGr.out.below HB5.out).below hb6
      have hA := HAr3.out.below hb36
      have hbox := (hb36.block w.heap.size (by have := HB3.out.size; have := HSZ1.out; omega)).trans ((HB3.out.block w.heap.size (by have := HSZ1.out; omega)).trans HH0.out)
      have zz := fun i => unfrozen hbox i
      have r0 : w6.cell? ⟨w.heap.size, 0, none⟩ = some (.pointer none) := (cell_at hbox 0).trans rfl
      have r1 : w6.cell? ⟨w.heap.size, 1, none⟩ = some (.bool false) := (cell_at hbox 1).trans rfl
      have r2 : w6.cell? ⟨w.heap.size, 2, none⟩ = some (.int .i64 0) := (cell_at hbox 2).trans rfl
      have HX := Lib.hid (And.intro hbw6 (And.intro hG (And.intro hA hbox)))
      clear hb6 hb36 hbw3 hbw6 hG hA hbox HFi
      obtain ⟨tp, htp⟩ : ∃ tp, tailP R = tp := ⟨_, rfl⟩
      obtain ⟨fp, hfp⟩ : ∃ fp, frsP R = fp := ⟨_, rfl⟩
      have HTP := Lib.hid (And.intro htp hfp)
      rw [htp, hfp]
      clear htp hfp
      go_wp2_with fail
      have hbox := HX.out.2.2.2
      have h1 := heap_set_at (o := 0) (u := .pointer px) hbox
      have h2 := heap_set_at (o := 1) (u := Value.bool tp) h1
      have h3 := heap_set_at (o := 2) (u := Value.int .i64 fp) h2
      have hT7 := ((HT6.out.setT (o := 0) (u := .pointer px) hbox (by decide) okT_grid).setT (o := 1) (u := Value.bool tp) h1 (by decide) okT_grid).setT (o := 2) (u := Value.int .i64 fp) h2 (by decide) okT_grid
      have hG7 := ((HX.out.2.1.setT (o := 0) (u := .pointer px) hbox (by decide) (by decide)).setT (o := 1) (u := Value.bool tp) h1 (by decide) (by decide)).setT (o := 2) (u := Value.int .i64 fp) h2 (by decide) (by decide)
      have hA7 := ((HX.out.2.2.1.set (o := 0) (u := .pointer px) hbox (by decide) (by decide)).set (o := 1) (u := Value.bool tp) h1 (by decide) (by decide)).set (o := 2) (u := Value.int .i64 fp) h2 (by decide) (by decide)
      have hB7 := ((HX.out.1.setCell (p := ⟨w.heap.size, 0, none⟩) (Nat.le_refl _) (.pointer px)).setCell (p := ⟨w.heap.size, 1, none⟩) (Nat.le_refl _) (Value.bool tp)).setCell (p := ⟨w.heap.size, 2, none⟩) (Nat.le_refl _) (Value.int .i64 fp)
      generalize ((w6.setCell ⟨w.heap.size, 0, none⟩ (.pointer px)).setCell ⟨w.heap.size, 1, none⟩ (Value.bool tp)).setCell ⟨w.heap.size, 2, none⟩ (Value.int .i64 fp) = w7 at *
      have s0 : w7.cell? ⟨w.heap.size, 0, none⟩ = some (.pointer px) := (cell_at h3 0).trans rfl
      have s1 : w7.cell? ⟨w.heap.size, 1, none⟩ = some (.bool tp) := (cell_at h3 1).trans rfl
      have s2 : w7.cell? ⟨w.heap.size, 2, none⟩ = some (.int .i64 fp) := (cell_at h3 2).trans rfl
      exact bodyPost_ret (v := .tuple #[.agg #[.pointer px, .bool tp, .int .i64 fp], .pointer (some ⟨p, 0, none⟩), .int .i64 0]) (by simp [results, Tryz.results10, go_sem, s0, s1, s2]) rfl ⟨px, p, Ls, Cs, by rw [HTP.out.1, HTP.out.2], hT7, HKL.out, hG7, HFo.out, by rw [← HSZ1.out]; exact hA7, hB7⟩

end Go.Proofs.YtkgakgceamafcaaGreat
