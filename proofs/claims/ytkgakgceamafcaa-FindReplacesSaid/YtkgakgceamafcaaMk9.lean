/-
  Texts of this seat, put together (a claim holds few texts): TgG.
-/
import Derived.Test.YtkgakgceamafcaaMk8

namespace Go.Proofs.Ytkgakgceamafcaa
open Go Go.RowKit
set_option linter.unusedVariables false

def v0 (l : List Value) : List (El 0) := l
def mk1 {h : Nat} (t : List (El h)) : El (h + 1) := t
/-- The k-th node. -/
def nth {h : Nat} (ks : List (El (h + 1))) (k : Nat) : List (El h) := match ks[k]? with
  | some x => kidsOf x
  | none => []
theorem nth_some {h : Nat} {ks : List (El (h + 1))} {k : Nat} {x : List (El h)} (hx : ks[k]? = some x) : nth ks k = x := by unfold nth; rw [hx]; rfl
theorem nth_at {h : Nat} {ks : List (El (h + 1))} {k : Nat} (hk : k < ks.length) : ks[k]? = some (mk1 (nth ks k)) := by
  have h1 : ks[k]? = some ks[k] := List.getElem?_eq_getElem hk
  rw [h1, nth_some h1]; rfl
def setT : (h : Nat) → List (El h) → Nat → Value → List (El h)
  | 0, l, i, x => replL l i (i + 1) (v0 [x])
  | h + 1, ks, i, x => replL ks (kidP (szs h ks) i).1 ((kidP (szs h ks) i).1 + 1) [mk1 (setT h (nth ks (kidP (szs h ks) i).1) (kidP (szs h ks) i).2 x)]
def insT : (h : Nat) → List (El h) → Nat → Value → List (El (h + 1))
  | 0, l, i, x => pts (replL l i i (v0 [x]))
  | h + 1, ks, i, x => pts (replL ks (kidP (szs h ks) i).1 ((kidP (szs h ks) i).1 + 1) (insT h (nth ks (kidP (szs h ks) i).1) (kidP (szs h ks) i).2 x))
def delT : (h : Nat) → List (El h) → Nat → List (El h)
  | 0, l, i => replL l i (i + 1) []
  | h + 1, ks, i =>
    let k := (kidP (szs h ks) i).1
    let kids := replL ks k (k + 1) [mk1 (delT h (nth ks k) (kidP (szs h ks) i).2)]
    if (nth kids k).length < 3 then replL kids (k - 1) (k - 1 + 2) (pts (nth kids (k - 1) ++ nth kids (k - 1 + 1))) else kids

/-- Each node has something, and not too much. -/
def Wf : (h : Nat) → List (El h) → Prop
  | 0, l => 1 ≤ l.length ∧ l.length ≤ 6
  | h + 1, ks => 1 ≤ ks.length ∧ ks.length ≤ 6 ∧ ∀ k, k < ks.length → Wf h (nth ks k)
theorem Wf.len {h : Nat} {t : List (El h)} (H : Wf h t) : 1 ≤ t.length ∧ t.length ≤ 6 := by cases h with
  | zero => exact H
  | succ h => exact ⟨H.1, H.2.1⟩
theorem Wf.kid {h : Nat} {ks : List (El (h + 1))} (H : Wf (h + 1) ks) {k : Nat} (hk : k < ks.length) : Wf h (nth ks k) := H.2.2 k hk

theorem replL_mid {α : Type} (A B C o : List α) {j j' : Nat} (h1 : j ≤ j') (h2 : j' ≤ B.length) : replL (A ++ B ++ C) (A.length + j) (A.length + j') o = A ++ replL B j j' o ++ C := by
  unfold replL
  rw [List.append_assoc A B C, List.take_length_add_append, List.drop_length_add_append, List.take_append_of_le_length (by omega), List.drop_append_of_le_length h2]
  simp [List.append_assoc]
theorem replL_at {α : Type} {A B C o : List α} {i i' j j' : Nat} (e1 : A.length + j = i) (e2 : A.length + j' = i') (h1 : j ≤ j') (h2 : j' ≤ B.length) : A ++ replL B j j' o ++ C = replL (A ++ B ++ C) i i' o := by
  subst e1 e2; exact (replL_mid A B C o h1 h2).symm
theorem replL_len {α : Type} (l o : List α) {i j : Nat} (h1 : i ≤ j) (h2 : j ≤ l.length) : (replL l i j o).length = i + o.length + (l.length - j) := by
  unfold replL
  rw [List.length_append, List.length_append, List.length_take, List.length_drop]; omega
/-- A node's values: those ahead of a kid, below it, and behind. -/
theorem flat_split {h : Nat} {ks : List (El (h + 1))} {k : Nat} (hk : k < ks.length) : flatL (h + 1) ks = flatL (h + 1) (ks.take k) ++ flatL h (nth ks k) ++ flatL (h + 1) (ks.drop (k + 1)) := by
  have h1 : ks = ks.take k ++ mk1 (nth ks k) :: ks.drop (k + 1) := by
    have h2 := nth_at hk
    have h3 := (List.getElem?_eq_some_iff.1 h2).2
    rw [← h3, ← List.drop_eq_getElem_cons hk, List.take_append_drop]
  conv => lhs; rw [h1]
  rw [flatL_app, flatL_cons, List.append_assoc]; rfl
theorem flat_repl {h : Nat} {ks : List (El h)} (i j : Nat) (o : List (El h)) : flatL h (replL ks i j o) = flatL h (ks.take i) ++ flatL h o ++ flatL h (ks.drop j) := by
  unfold replL; rw [flatL_app, flatL_app]
theorem flat_one {h : Nat} (t : List (El h)) : flatL (h + 1) [mk1 t] = flatL h t := by
  rw [flatL_cons, flatL_nil, List.append_nil]; rfl
/-- Where the i-th value lies. -/
theorem kid_at {h : Nat} {ks : List (El (h + 1))} (hn : 1 ≤ ks.length) (i : Nat) : (kidP (szs h ks) i).1 < ks.length ∧ (flatL (h + 1) (ks.take (kidP (szs h ks) i).1)).length + (kidP (szs h ks) i).2 = i ∧ (i < (flatL (h + 1) ks).length → (kidP (szs h ks) i).2 < (flatL h (nth ks (kidP (szs h ks) i).1)).length) ∧ (i ≤ (flatL (h + 1) ks).length → (kidP (szs h ks) i).2 ≤ (flatL h (nth ks (kidP (szs h ks) i).1)).length) := by
  have hne : szs h ks ≠ [] := by
    intro h0
    have := congrArg List.length h0
    rw [szs_len] at this; simp at this; rw [this] at hn; simp at hn
  obtain ⟨h1, h2, h3, h4⟩ := kidP_spec (szs h ks) i hne
  rw [szs_len] at h1
  rw [szs_sum] at h3 h4
  have h5 : (szs h ks).take (kidP (szs h ks) i).1 = szs h (ks.take (kidP (szs h ks) i).1) := by unfold szs; rw [List.map_take]
  rw [h5, szs_sum] at h2
  have h6 : (szs h ks).getD (kidP (szs h ks) i).1 0 = (flatL h (nth ks (kidP (szs h ks) i).1)).length := by
    rw [List.getD_eq_getElem?_getD, szs_at (nth_at h1)]; rfl
  rw [h6] at h3 h4
  exact ⟨h1, h2, h3, h4⟩
theorem flat_set : ∀ (h : Nat) (t : List (El h)) (i : Nat) (x : Value), Wf h t → i < (flatL h t).length → flatL h (setT h t i x) = replL (flatL h t) i (i + 1) [x]
  | 0, l, i, x, _, _ => by
    have h1 : flatL 0 (setT 0 l i x) = setT 0 l i x := flatL_zero _
    have h2 : flatL 0 l = l := flatL_zero _
    rw [h1, h2]; rfl
  | h + 1, ks, i, x, hw, hi => by
    obtain ⟨h1, h2, h3, _⟩ := kid_at hw.1 i
    have ih := flat_set h (nth ks (kidP (szs h ks) i).1) (kidP (szs h ks) i).2 x (hw.kid h1) (h3 hi)
    have hs := flat_split h1
    have e : flatL (h + 1) (setT (h + 1) ks i x) = flatL (h + 1) (ks.take (kidP (szs h ks) i).1) ++ flatL (h + 1) [mk1 (setT h (nth ks (kidP (szs h ks) i).1) (kidP (szs h ks) i).2 x)] ++ flatL (h + 1) (ks.drop ((kidP (szs h ks) i).1 + 1)) := flat_repl _ _ _
    rw [e, flat_one, ih, hs]
    have h3 := h3 hi
    exact replL_at h2 (by omega) (by omega) (by omega)
theorem flat_ins : ∀ (h : Nat) (t : List (El h)) (i : Nat) (x : Value), Wf h t → i ≤ (flatL h t).length → flatL (h + 1) (insT h t i x) = replL (flatL h t) i i [x]
  | 0, l, i, x, _, _ => by
    have h1 : flatL 1 (insT 0 l i x) = flatL 0 (replL l i i (v0 [x])) := flatL_pts 0 _
    have h2 : flatL 0 l = l := flatL_zero _
    have h3 : flatL 0 (replL l i i (v0 [x])) = replL l i i (v0 [x]) := flatL_zero _
    rw [h1, h2, h3]; rfl
  | h + 1, ks, i, x, hw, hi => by
    obtain ⟨h1, h2, _, h3⟩ := kid_at hw.1 i
    have ih := flat_ins h (nth ks (kidP (szs h ks) i).1) (kidP (szs h ks) i).2 x (hw.kid h1) (h3 hi)
    have hs := flat_split h1
    have e : flatL (h + 2) (insT (h + 1) ks i x) = flatL (h + 1) (ks.take (kidP (szs h ks) i).1) ++ flatL (h + 1) (insT h (nth ks (kidP (szs h ks) i).1) (kidP (szs h ks) i).2 x) ++ flatL (h + 1) (ks.drop ((kidP (szs h ks) i).1 + 1)) := (flatL_pts (h + 1) _).trans (flat_repl _ _ _)
    rw [e, ih, hs]
    have h3 := h3 hi
    exact replL_at h2 h2 (Nat.le_refl _) (by omega)
theorem flat_del_kids {h : Nat} {ks : List (El (h + 1))} (hn : 1 ≤ ks.length) (i : Nat) (hi : i < (flatL (h + 1) ks).length) (t : List (El h)) (ht : flatL h t = replL (flatL h (nth ks (kidP (szs h ks) i).1)) (kidP (szs h ks) i).2 ((kidP (szs h ks) i).2 + 1) []) :
    flatL (h + 1) (replL ks (kidP (szs h ks) i).1 ((kidP (szs h ks) i).1 + 1) [mk1 t]) = replL (flatL (h + 1) ks) i (i + 1) [] := by
  obtain ⟨h1, h2, h3, _⟩ := kid_at hn i
  have h3 := h3 hi
  have hs := flat_split h1
  have e : flatL (h + 1) (replL ks (kidP (szs h ks) i).1 ((kidP (szs h ks) i).1 + 1) [mk1 t]) = flatL (h + 1) (ks.take (kidP (szs h ks) i).1) ++ flatL (h + 1) [mk1 t] ++ flatL (h + 1) (ks.drop ((kidP (szs h ks) i).1 + 1)) := flat_repl _ _ _
  rw [e, flat_one, ht, hs]
  exact replL_at h2 (by omega) (by omega) (by omega)
/-- Two nodes side by side as one list of nodes. -/
theorem flat_pair {h : Nat} {ks : List (El (h + 1))} {k : Nat} (hk : k + 1 < ks.length) : flatL (h + 1) (replL ks k (k + 2) (pts (nth ks k ++ nth ks (k + 1)))) = flatL (h + 1) ks := by
  rw [flat_repl, flatL_pts, flatL_app]
  have hs := flat_split (ks := ks) (k := k) (by omega)
  have h1 : flatL (h + 1) (ks.drop (k + 1)) = flatL h (nth ks (k + 1)) ++ flatL (h + 1) (ks.drop (k + 2)) := by
    have h2 := nth_at hk
    have h3 := (List.getElem?_eq_some_iff.1 h2).2
    rw [List.drop_eq_getElem_cons hk, h3, flatL_cons]; rfl
  rw [hs, h1]
  simp [List.append_assoc]
/-- Each node has enough: a root, another one. -/
def Ok : (lo : Nat) → (h : Nat) → List (El h) → Prop
  | lo, 0, l => lo ≤ l.length ∧ l.length ≤ 6
  | lo, h + 1, ks => lo ≤ ks.length ∧ ks.length ≤ 6 ∧ ∀ k, k < ks.length → Ok 3 h (nth ks k)
theorem Ok.len {lo h : Nat} {t : List (El h)} (H : Ok lo h t) : lo ≤ t.length ∧ t.length ≤ 6 := by cases h with
  | zero => exact H
  | succ h => exact ⟨H.1, H.2.1⟩
theorem Ok.kid {lo h : Nat} {ks : List (El (h + 1))} (H : Ok lo (h + 1) ks) {k : Nat} (hk : k < ks.length) : Ok 3 h (nth ks k) := H.2.2 k hk
theorem Ok.wf : ∀ {lo h : Nat} {t : List (El h)}, 1 ≤ lo → Ok lo h t → Wf h t
  | lo, 0, t, h1, H => ⟨Nat.le_trans h1 H.1, H.2⟩
  | lo, h + 1, ks, h1, H => ⟨Nat.le_trans h1 H.1, H.2.1, fun k hk => Ok.wf (by omega) (H.2.2 k hk)⟩
/-- Nodes all of which have enough. -/
def Oks (h : Nat) (ts : List (El (h + 1))) : Prop := ∀ k, k < ts.length → Ok 3 h (nth ts k)
theorem ok_succ {lo h : Nat} {ts : List (El (h + 1))} (h1 : lo ≤ ts.length) (h2 : ts.length ≤ 6) (h3 : Oks h ts) : Ok lo (h + 1) ts := ⟨h1, h2, h3⟩
theorem oks_app {h : Nat} {s t : List (El (h + 1))} (hs : Oks h s) (ht : Oks h t) : Oks h (s ++ t) := by
  intro k hk
  by_cases h1 : k < s.length
  · have e : nth (s ++ t) k = nth s k := by unfold nth; rw [List.getElem?_append_left h1]
    rw [e]; exact hs k h1
  · have e : nth (s ++ t) k = nth t (k - s.length) := by unfold nth; rw [List.getElem?_append_right (by omega)]
    rw [e]; exact ht _ (by rw [List.length_append] at hk; omega)
theorem oks_take {h : Nat} {s : List (El (h + 1))} (hs : Oks h s) (i : Nat) : Oks h (s.take i) := by
  intro k hk
  rw [List.length_take] at hk
  have e : nth (s.take i) k = nth s k := by unfold nth; rw [List.getElem?_take, if_pos (by omega)]
  rw [e]; exact hs k (by omega)
theorem oks_drop {h : Nat} {s : List (El (h + 1))} (hs : Oks h s) (i : Nat) : Oks h (s.drop i) := by
  intro k hk
  rw [List.length_drop] at hk
  have e : nth (s.drop i) k = nth s (i + k) := by unfold nth; rw [List.getElem?_drop]
  rw [e]; exact hs _ (by omega)
theorem oks_repl {h : Nat} {s o : List (El (h + 1))} (hs : Oks h s) (ho : Oks h o) (i j : Nat) : Oks h (replL s i j o) := oks_app (oks_app (oks_take hs i) ho) (oks_drop hs j)
theorem oks_one {h : Nat} {t : List (El h)} (ht : Ok 3 h t) : Oks h [mk1 t] := by
  intro k hk
  have : k = 0 := by simp at hk; omega
  subst this
  exact ht
theorem Ok.oks {lo h : Nat} {ks : List (El (h + 1))} (H : Ok lo (h + 1) ks) : Oks h ks := H.2.2
/-- Nodes of enough things have enough. -/
theorem oks_pts {h : Nat} {l : List (El h)} (h3 : 3 ≤ l.length) (hl : ∀ h' (e : h = h' + 1), Oks h' (e ▸ l)) : Oks h (pts l) := by
  intro k hk
  rw [pts_len] at hk
  rw [nth_some (pts_at l hk)]
  have hs := partOf_size hk h3
  cases h with
  | zero => exact hs
  | succ h =>
    refine ⟨hs.1, hs.2, ?_⟩
    have := hl h rfl
    exact oks_drop (oks_take this _) _
theorem ok_set : ∀ {lo : Nat} (h : Nat) (t : List (El h)) (i : Nat) (x : Value), 1 ≤ lo → Ok lo h t → i < (flatL h t).length → Ok lo h (setT h t i x)
  | lo, 0, l, i, x, _, H, hi => by
    have h2 : (flatL 0 l).length = l.length := flatLen0 l
    have h1 : (replL l i (i + 1) (v0 [x])).length = i + 1 + (l.length - (i + 1)) := replL_len l _ (by omega) (by omega)
    show lo ≤ (replL l i (i + 1) (v0 [x])).length ∧ (replL l i (i + 1) (v0 [x])).length ≤ 6
    have := H.len
    omega
  | lo, h + 1, ks, i, x, h1, H, hi => by
    obtain ⟨hk, _, h3, _⟩ := kid_at (Nat.le_trans h1 H.1) i
    have ih := ok_set h (nth ks (kidP (szs h ks) i).1) (kidP (szs h ks) i).2 x (by omega) (H.kid hk) (h3 hi)
    have hl : (replL ks (kidP (szs h ks) i).1 ((kidP (szs h ks) i).1 + 1) [mk1 (setT h (nth ks (kidP (szs h ks) i).1) (kidP (szs h ks) i).2 x)]).length = ks.length := by
      rw [replL_len _ _ (by omega) (by omega)]; simp; omega
    have hl2 : (setT (h + 1) ks i x).length = ks.length := hl
    exact ok_succ (by rw [hl2]; exact H.1) (by rw [hl2]; exact H.2.1) (oks_repl H.oks (oks_one ih) _ _)
/-- One or two nodes come of one that gets a thing more. -/
theorem ok_ins : ∀ {lo : Nat} (h : Nat) (t : List (El h)) (i : Nat) (x : Value), 1 ≤ lo → Ok lo h t → i ≤ (flatL h t).length → ((insT h t i x).length = 1 ∧ Ok lo h (nth (insT h t i x) 0)) ∨ ((insT h t i x).length = 2 ∧ Oks h (insT h t i x))
  | lo, 0, l, i, x, hlo, H, hi => by
    have h2 : (flatL 0 l).length = l.length := flatLen0 l
    have h1 : (replL l i i (v0 [x])).length = l.length + 1 := by
      rw [replL_len l _ (by omega) (by omega)]; show i + 1 + _ = _; omega
    have hlen := H.len
    by_cases h6 : l.length + 1 ≤ 6
    · left
      have hp : insT 0 l i x = [mk1 (replL l i i (v0 [x]))] := parts_one (by omega) (by omega)
      rw [hp]
      exact ⟨rfl, by show lo ≤ (replL l i i (v0 [x])).length ∧ (replL l i i (v0 [x])).length ≤ 6; omega⟩
    · right
      refine ⟨?_, oks_pts (by omega) (fun h' e => by cases e)⟩
      show (pts (replL l i i (v0 [x]))).length = 2
      rw [pts_len, h1]; exact fewN_two (by omega) (by omega)
  | lo, h + 1, ks, i, x, hlo, H, hi => by
    obtain ⟨hk, _, _, h3⟩ := kid_at (Nat.le_trans hlo H.1) i
    have ih := ok_ins h (nth ks (kidP (szs h ks) i).1) (kidP (szs h ks) i).2 x (show 1 ≤ 3 by omega) (H.kid hk) (h3 hi)
    generalize hI : insT h (nth ks (kidP (szs h ks) i).1) (kidP (szs h ks) i).2 x = I at ih
    generalize hK : (kidP (szs h ks) i).1 = k at hk
    have e : insT (h + 1) ks i x = pts (replL ks k (k + 1) I) := by
      show pts (replL ks (kidP (szs h ks) i).1 ((kidP (szs h ks) i).1 + 1) (insT h (nth ks (kidP (szs h ks) i).1) (kidP (szs h ks) i).2 x)) = _
      rw [hI, hK]
    rw [e]
    have hIo : Oks h I ∧ 1 ≤ I.length ∧ I.length ≤ 2 := by
      rcases ih with ⟨h4, h5⟩ | ⟨h4, h5⟩
      · refine ⟨fun j hj => ?_, by omega, by omega⟩
        have : j = 0 := by omega
        subst this
        exact h5
      · exact ⟨h5, by omega, by omega⟩
    have hl : (replL ks k (k + 1) I).length = ks.length - 1 + I.length := by rw [replL_len _ _ (by omega) (by omega)]; omega
    have ho := oks_repl H.oks hIo.1 k (k + 1)
    have hlen := H.len
    by_cases h6 : (replL ks k (k + 1) I).length ≤ 6
    · left
      have hp : pts (replL ks k (k + 1) I) = [mk1 (replL ks k (k + 1) I)] := parts_one (by omega) h6
      rw [hp]
      refine ⟨rfl, ?_⟩
      show Ok lo (h + 1) (replL ks k (k + 1) I)
      exact ok_succ (by omega) h6 ho
    · right
      exact ⟨by rw [pts_len]; exact fewN_two (by omega) (by omega), oks_pts (by omega) (fun h' e => by cases e; exact ho)⟩
theorem nth_flat {h : Nat} {ks : List (El (h + 1))} {k : Nat} (hk : k < ks.length) : (flatL h (nth ks k)).length ≤ (flatL (h + 1) ks).length := by
  rw [flat_split hk, List.length_append, List.length_append]; omega

end Go.Proofs.Ytkgakgceamafcaa
