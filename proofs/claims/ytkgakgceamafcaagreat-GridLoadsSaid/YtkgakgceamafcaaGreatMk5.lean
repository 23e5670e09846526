/-
  Texts of this seat, put together (a claim holds few texts): TgG, TgM, TgN.
-/
import Derived.Test.YtkgakgceamafcaaGreatMk4

namespace Go.Proofs.YtkgakgceamafcaaGreat
open Go Go.RowKit
set_option linter.unusedVariables false

def v0 (l : List Value) : List (El 0) := l
def mk1 {h : Nat} (t : List (El h)) : El (h + 1) := t
/-- The k-th node. -/
def nth {h : Nat} (ks : List (El (h + 1))) (k : Nat) : List (El h) := match ks[k]? with
  | some x => kidsOf x
  | none => []
theorem nth_some {h : Nat} {ks : List (El (h + 1))} {k : Nat} {x : List (El h)} (hx : ks[k]? = some x) : nth ks k = x := by unfold nth; rw [hx]; rfl
theorem nth_at {h : Nat} {ks : List (El (h + 1))} {k : Nat} (hk : k < ks.length) : ks[k]? = some (mk1 (nth ks k)) := by
  have h1 : ks[k]? = some ks[k] := List.getElem?_eq_getElem hk
  rw [h1, nth_some h1]; rfl
def setT : (h : Nat) → List (El h) → Nat → Value → List (El h)
  | 0, l, i, x => replL l i (i + 1) (v0 [x])
  | h + 1, ks, i, x => replL ks (kidP (szs h ks) i).1 ((kidP (szs h ks) i).1 + 1) [mk1 (setT h (nth ks (kidP (szs h ks) i).1) (kidP (szs h ks) i).2 x)]
def insT : (h : Nat) → List (El h) → Nat → Value → List (El (h + 1))
  | 0, l, i, x => pts (replL l i i (v0 [x]))
  | h + 1, ks, i, x => pts (replL ks (kidP (szs h ks) i).1 ((kidP (szs h ks) i).1 + 1) (insT h (nth ks (kidP (szs h ks) i).1) (kidP (szs h ks) i).2 x))
def delT : (h : Nat) → List (El h) → Nat → List (El h)
  | 0, l, i => replL l i (i + 1) []
  | h + 1, ks, i =>
    let k := (kidP (szs h ks) i).1
    let kids := replL ks k (k + 1) [mk1 (delT h (nth ks k) (kidP (szs h ks) i).2)]
    if (nth kids k).length < 3 then replL kids (k - 1) (k - 1 + 2) (pts (nth kids (k - 1) ++ nth kids (k - 1 + 1))) else kids

/-- Each node has something, and not too much. -/
def Wf : (h : Nat) → List (El h) → Prop
  | 0, l => 1 ≤ l.length ∧ l.length ≤ 6
  | h + 1, ks => 1 ≤ ks.length ∧ ks.length ≤ 6 ∧ ∀ k, k < ks.length → Wf h (nth ks k)
theorem Wf.len {h : Nat} {t : List (El h)} (H : Wf h t) : 1 ≤ t.length ∧ t.length ≤ 6 := by cases h with
  | zero => exact H
  | succ h => exact ⟨H.1, H.2.1⟩
theorem Wf.kid {h : Nat} {ks : List (El (h + 1))} (H : Wf (h + 1) ks) {k : Nat} (hk : k < ks.length) : Wf h (nth ks k) := H.2.2 k hk

theorem replL_mid {α : Type} (A B C o : List α) {j j' : Nat} (h1 : j ≤ j') (h2 : j' ≤ B.length) : replL (A ++ B ++ C) (A.length + j) (A.length + j') o = A ++ replL B j j' o ++ C := by
  unfold replL
  rw [List.append_assoc A B C, List.take_length_add_append, List.drop_length_add_append, List.take_append_of_le_length (by omega), List.drop_append_of_le_length h2]
  simp [List.append_assoc]
theorem replL_at {α : Type} {A B C o : List α} {i i' j j' : Nat} (e1 : A.length + j = i) (e2 : A.length + j' = i') (h1 : j ≤ j') (h2 : j' ≤ B.length) : A ++ replL B j j' o ++ C = replL (A ++ B ++ C) i i' o := by
  subst e1 e2; exact (replL_mid A B C o h1 h2).symm
theorem replL_len {α : Type} (l o : List α) {i j : Nat} (h1 : i ≤ j) (h2 : j ≤ l.length) : (replL l i j o).length = i + o.length + (l.length - j) := by
  unfold replL
  rw [List.length_append, List.length_append, List.length_take, List.length_drop]; omega
/-- A node's values: those ahead of a kid, below it, and behind. -/
theorem flat_split {h : Nat} {ks : List (El (h + 1))} {k : Nat} (hk : k < ks.length) : flatL (h + 1) ks = flatL (h + 1) (ks.take k) ++ flatL h (nth ks k) ++ flatL (h + 1) (ks.drop (k + 1)) := by
  have h1 : ks = ks.take k ++ mk1 (nth ks k) :: ks.drop (k + 1) := by
    have h2 := nth_at hk
    have h3 := (List.getElem?_eq_some_iff.1 h2).2
    rw [← h3, ← List.drop_eq_getElem_cons hk, List.take_append_drop]
  conv => lhs; rw [h1]
  rw [flatL_app, flatL_cons, List.append_assoc]; rfl
theorem flat_repl {h : Nat} {ks : List (El h)} (i j : Nat) (o : List (El h)) : flatL h (replL ks i j o) = flatL h (ks.take i) ++ flatL h o ++ flatL h (ks.drop j) := by
  unfold replL; rw [flatL_app, flatL_app]
theorem flat_one {h : Nat} (t : List (El h)) : flatL (h + 1) [mk1 t] = flatL h t := by
  rw [flatL_cons, flatL_nil, List.append_nil]; rfl
/-- Where the i-th value lies. -/
theorem kid_at {h : Nat} {ks : List (El (h + 1))} (hn : 1 ≤ ks.length) (i : Nat) : (kidP (szs h ks) i).1 < ks.length ∧ (flatL (h + 1) (ks.take (kidP (szs h ks) i).1)).length + (kidP (szs h ks) i).2 = i ∧ (i < (flatL (h + 1) ks).length → (kidP (szs h ks) i).2 < (flatL h (nth ks (kidP (szs h ks) i).1)).length) ∧ (i ≤ (flatL (h + 1) ks).length → (kidP (szs h ks) i).2 ≤ (flatL h (nth ks (kidP (szs h ks) i).1)).length) := by
  have hne : szs h ks ≠ [] := by
    intro h0
    have := congrArg List.length h0
    rw [szs_len] at this; simp at this; rw [this] at hn; simp at hn
  obtain ⟨h1, h2, h3, h4⟩ := kidP_spec (szs h ks) i hne
  rw [szs_len] at h1
  rw [szs_sum] at h3 h4
  have h5 : (szs h ks).take (kidP (szs h ks) i).1 = szs h (ks.take (kidP (szs h ks) i).1) := by unfold szs; rw [List.map_take]
  rw [h5, szs_sum] at h2
  have h6 : (szs h ks).getD (kidP (szs h ks) i).1 0 = (flatL h (nth ks (kidP (szs h ks) i).1)).length := by
    rw [List.getD_eq_getElem?_getD, szs_at (nth_at h1)]; rfl
  rw [h6] at h3 h4
  exact ⟨h1, h2, h3, h4⟩
theorem flat_set : ∀ (h : Nat) (t : List (El h)) (i : Nat) (x : Value), Wf h t → i < (flatL h t).length → flatL h (setT h t i x) = replL (flatL h t) i (i + 1) [x]
  | 0, l, i, x, _, _ => by
    have h1 : flatL 0 (setT 0 l i x) = setT 0 l i x := flatL_zero _
    have h2 : flatL 0 l = l := flatL_zero _
    rw [h1, h2]; rfl
  | h + 1, ks, i, x, hw, hi => by
    obtain ⟨h1, h2, h3, _⟩ := kid_at hw.1 i
    have ih := flat_set h (nth ks (kidP (szs h ks) i).1) (kidP (szs h ks) i).2 x (hw.kid h1) (h3 hi)
    have hs := flat_split h1
    have e : flatL (h + 1) (setT (h + 1) ks i x) = flatL (h + 1) (ks.take (kidP (szs h ks) i).1) ++ flatL (h + 1) [mk1 (setT h (nth ks (kidP (szs h ks) i).1) (kidP (szs h ks) i).2 x)] ++ flatL (h + 1) (ks.drop ((kidP (szs h ks) i).1 + 1)) := flat_repl _ _ _
    rw [e, flat_one, ih, hs]
    have h3 := h3 hi
    exact replL_at h2 (by omega) (by omega) (by omega)
theorem flat_ins : ∀ (h : Nat) (t : List (El h)) (i : Nat) (x : Value), Wf h t → i ≤ (flatL h t).length → flatL (h + 1) (insT h t i x) = replL (flatL h t) i i [x]
  | 0, l, i, x, _, _ => by
    have h1 : flatL 1 (insT 0 l i x) = flatL 0 (replL l i i (v0 [x])) := flatL_pts 0 _
    have h2 : flatL 0 l = l := flatL_zero _
    have h3 : flatL 0 (replL l i i (v0 [x])) = replL l i i (v0 [x]) := flatL_zero _
    rw [h1, h2, h3]; rfl
  | h + 1, ks, i, x, hw, hi => by
    obtain ⟨h1, h2, _, h3⟩ := kid_at hw.1 i
    have ih := flat_ins h (nth ks (kidP (szs h ks) i).1) (kidP (szs h ks) i).2 x (hw.kid h1) (h3 hi)
    have hs := flat_split h1
    have e : flatL (h + 2) (insT (h + 1) ks i x) = flatL (h + 1) (ks.take (kidP (szs h ks) i).1) ++ flatL (h + 1) (insT h (nth ks (kidP (szs h ks) i).1) (kidP (szs h ks) i).2 x) ++ flatL (h + 1) (ks.drop ((kidP (szs h ks) i).1 + 1)) := (flatL_pts (h + 1) _).trans (flat_repl _ _ _)
    rw [e, ih, hs]
    have h3 := h3 hi
    exact replL_at h2 h2 (Nat.le_refl _) (by omega)
theorem flat_del_kids {h : Nat} {ks : List (El (h + 1))} (hn : 1 ≤ ks.length) (i : Nat) (hi : i < (flatL (h + 1) ks).length) (t : List (El h)) (ht : flatL h t = replL (flatL h (nth ks (kidP (szs h ks) i).1)) (kidP (szs h ks) i).2 ((kidP (szs h ks) i).2 + 1) []) :
    flatL (h + 1) (replL ks (kidP (szs h ks) i).1 ((kidP (szs h ks) i).1 + 1) [mk1 t]) = replL (flatL (h + 1) ks) i (i + 1) [] := by
  obtain ⟨h1, h2, h3, _⟩ := kid_at hn i
  have h3 := h3 hi
  have hs := flat_split h1
  have e : flatL (h + 1) (replL ks (kidP (szs h ks) i).1 ((kidP (szs h ks) i).1 + 1) [mk1 t]) = flatL (h + 1) (ks.take (kidP (szs h ks) i).1) ++ flatL (h + 1) [mk1 t] ++ flatL (h + 1) (ks.drop ((kidP (szs h ks) i).1 + 1)) := flat_repl _ _ _
  rw [e, flat_one, ht, hs]
  exact replL_at h2 (by omega) (by omega) (by omega)
/-- Two nodes side by side as one list of nodes. -/
theorem flat_pair {h : Nat} {ks : List (El (h + 1))} {k : Nat} (hk : k + 1 < ks.length) : flatL (h + 1) (replL ks k (k + 2) (pts (nth ks k ++ nth ks (k + 1)))) = flatL (h + 1) ks := by
  rw [flat_repl, flatL_pts, flatL_app]
  have hs := flat_split (ks := ks) (k := k) (by omega)
  have h1 : flatL (h + 1) (ks.drop (k + 1)) = flatL h (nth ks (k + 1)) ++ flatL (h + 1) (ks.drop (k + 2)) := by
    have h2 := nth_at hk
    have h3 := (List.getElem?_eq_some_iff.1 h2).2
    rw [List.drop_eq_getElem_cons hk, h3, flatL_cons]; rfl
  rw [hs, h1]
  simp [List.append_assoc]
/-- Each node has enough: a root, another one. -/
def Ok : (lo : Nat) → (h : Nat) → List (El h) → Prop
  | lo, 0, l => lo ≤ l.length ∧ l.length ≤ 6
  | lo, h + 1, ks => lo ≤ ks.length ∧ ks.length ≤ 6 ∧ ∀ k, k < ks.length → Ok 3 h (nth ks k)
theorem Ok.len {lo h : Nat} {t : List (El h)} (H : Ok lo h t) : lo ≤ t.length ∧ t.length ≤ 6 := by cases h with
  | zero => exact H
  | succ h => exact ⟨H.1, H.2.1⟩
theorem Ok.kid {lo h : Nat} {ks : List (El (h + 1))} (H : Ok lo (h + 1) ks) {k : Nat} (hk : k < ks.length) : Ok 3 h (nth ks k) := H.2.2 k hk
theorem Ok.wf : ∀ {lo h : Nat} {t : List (El h)}, 1 ≤ lo → Ok lo h t → Wf h t
  | lo, 0, t, h1, H => ⟨Nat.le_trans h1 H.1, H.2⟩
  | lo, h + 1, ks, h1, H => ⟨Nat.le_trans h1 H.1, H.2.1, fun k hk => Ok.wf (by omega) (H.2.2 k hk)⟩
/-- Nodes all of which have enough. -/
def Oks (h : Nat) (ts : List (El (h + 1))) : Prop := ∀ k, k < ts.length → Ok 3 h (nth ts k)
theorem ok_succ {lo h : Nat} {ts : List (El (h + 1))} (h1 : lo ≤ ts.length) (h2 : ts.length ≤ 6) (h3 : Oks h ts) : Ok lo (h + 1) ts := ⟨h1, h2, h3⟩
theorem oks_app {h : Nat} {s t : List (El (h + 1))} (hs : Oks h s) (ht : Oks h t) : Oks h (s ++ t) := by
  intro k hk
  by_cases h1 : k < s.length
  · have e : nth (s ++ t) k = nth s k := by unfold nth; rw [List.getElem?_append_left h1]
    rw [e]; exact hs k h1
  · have e : nth (s ++ t) k = nth t (k - s.length) := by unfold nth; rw [List.getElem?_append_right (by omega)]
    rw [e]; exact ht _ (by rw [List.length_append] at hk; omega)
theorem oks_take {h : Nat} {s : List (El (h + 1))} (hs : Oks h s) (i : Nat) : Oks h (s.take i) := by
  intro k hk
  rw [List.length_take] at hk
  have e : nth (s.take i) k = nth s k := by unfold nth; rw [List.getElem?_take, if_pos (by omega)]
  rw [e]; exact hs k (by omega)
theorem oks_drop {h : Nat} {s : List (El (h + 1))} (hs : Oks h s) (i : Nat) : Oks h (s.drop i) := by
  intro k hk
  rw [List.length_drop] at hk
  have e : nth (s.drop i) k = nth s (i + k) := by unfold nth; rw [List.getElem?_drop]
  rw [e]; exact hs _ (by omega)
theorem oks_repl {h : Nat} {s o : List (El (h + 1))} (hs : Oks h s) (ho : Oks h o) (i j : Nat) : Oks h (replL s i j o) := oks_app (oks_app (oks_take hs i) ho) (oks_drop hs j)
theorem oks_one {h : Nat} {t : List (El h)} (ht : Ok 3 h t) : Oks h [mk1 t] := by
  intro k hk
  have : k = 0 := by simp at hk; omega
  subst this
  exact ht
theorem Ok.oks {lo h : Nat} {ks : List (El (h + 1))} (H : Ok lo (h + 1) ks) : Oks h ks := H.2.2
/-- Nodes of enough things have enough. -/
theorem oks_pts {h : Nat} {l : List (El h)} (h3 : 3 ≤ l.length) (hl : ∀ h' (e : h = h' + 1), Oks h' (e ▸ l)) : Oks h (pts l) := by
  intro k hk
  rw [pts_len] at hk
  rw [nth_some (pts_at l hk)]
  have hs := partOf_size hk h3
  cases h with
  | zero => exact hs
  | succ h =>
    refine ⟨hs.1, hs.2, ?_⟩
    have := hl h rfl
    exact oks_drop (oks_take this _) _
theorem ok_set : ∀ {lo : Nat} (h : Nat) (t : List (El h)) (i : Nat) (x : Value), 1 ≤ lo → Ok lo h t → i < (flatL h t).length → Ok lo h (setT h t i x)
  | lo, 0, l, i, x, _, H, hi => by
    have h2 : (flatL 0 l).length = l.length := flatLen0 l
    have h1 : (replL l i (i + 1) (v0 [x])).length = i + 1 + (l.length - (i + 1)) := replL_len l _ (by omega) (by omega)
    show lo ≤ (replL l i (i + 1) (v0 [x])).length ∧ (replL l i (i + 1) (v0 [x])).length ≤ 6
    have := H.len
    omega
  | lo, h + 1, ks, i, x, h1, H, hi => by
    obtain ⟨hk, _, h3, _⟩ := kid_at (Nat.le_trans h1 H.1) i
    have ih := ok_set h (nth ks (kidP (szs h ks) i).1) (kidP (szs h ks) i).2 x (by omega) (H.kid hk) (h3 hi)
    have hl : (replL ks (kidP (szs h ks) i).1 ((kidP (szs h ks) i).1 + 1) [mk1 (setT h (nth ks (kidP (szs h ks) i).1) (kidP (szs h ks) i).2 x)]).length = ks.length := by
      rw [replL_len _ _ (by omega) (by omega)]; simp; omega
    have hl2 : (setT (h + 1) ks i x).length = ks.length := hl
    exact ok_succ (by rw [hl2]; exact H.1) (by rw [hl2]; exact H.2.1) (oks_repl H.oks (oks_one ih) _ _)
/-- One or two nodes come of one that gets a thing more. -/
theorem ok_ins : ∀ {lo : Nat} (h : Nat) (t : List (El h)) (i : Nat) (x : Value), 1 ≤ lo → Ok lo h t → i ≤ (flatL h t).length → ((insT h t i x).length = 1 ∧ Ok lo h (nth (insT h t i x) 0)) ∨ ((insT h t i x).length = 2 ∧ Oks h (insT h t i x))
  | lo, 0, l, i, x, hlo, H, hi => by
    have h2 : (flatL 0 l).length = l.length := flatLen0 l
    have h1 : (replL l i i (v0 [x])).length = l.length + 1 := by
      rw [replL_len l _ (by omega) (by omega)]; show i + 1 + _ = _; omega
    have hlen := H.len
    by_cases h6 : l.length + 1 ≤ 6
    · left
      have hp : insT 0 l i x = [mk1 (replL l i i (v0 [x]))] := parts_one (by omega) (by omega)
      rw [hp]
      exact ⟨rfl, by show lo ≤ (replL l i i (v0 [x])).length ∧ (replL l i i (v0 [x])).length ≤ 6; omega⟩
    · right
      refine ⟨?_, oks_pts (by omega) (fun h' e => by cases e)⟩
      show (pts (replL l i i (v0 [x]))).length = 2
      rw [pts_len, h1]; exact fewN_two (by omega) (by omega)
  | lo, h + 1, ks, i, x, hlo, H, hi => by
    obtain ⟨hk, _, _, h3⟩ := kid_at (Nat.le_trans hlo H.1) i
    have ih := ok_ins h (nth ks (kidP (szs h ks) i).1) (kidP (szs h ks) i).2 x (show 1 ≤ 3 by omega) (H.kid hk) (h3 hi)
    generalize hI : insT h (nth ks (kidP (szs h ks) i).1) (kidP (szs h ks) i).2 x = I at ih
    generalize hK : (kidP (szs h ks) i).1 = k at hk
    have e : insT (h + 1) ks i x = pts (replL ks k (k + 1) I) := by
      show pts (replL ks (kidP (szs h ks) i).1 ((kidP (szs h ks) i).1 + 1) (insT h (nth ks (kidP (szs h ks) i).1) (kidP (szs h ks) i).2 x)) = _
      rw [hI, hK]
    rw [e]
    have hIo : Oks h I ∧ 1 ≤ I.length ∧ I.length ≤ 2 := by
      rcases ih with ⟨h4, h5⟩ | ⟨h4, h5⟩
      · refine ⟨fun j hj => ?_, by omega, by omega⟩
        have : j = 0 := by omega
        subst this
        exact h5
      · exact ⟨h5, by omega, by omega⟩
    have hl : (replL ks k (k + 1) I).length = ks.length - 1 + I.length := by rw [replL_len _ _ (by omega) (by omega)]; omega
    have ho := oks_repl H.oks hIo.1 k (k + 1)
    have hlen := H.len
    by_cases h6 : (replL ks k (k + 1) I).length ≤ 6
    · left
      have hp : pts (replL ks k (k + 1) I) = [mk1 (replL ks k (k + 1) I)] := parts_one (by omega) h6
      rw [hp]
      refine ⟨rfl, ?_⟩
      show Ok lo (h + 1) (replL ks k (k + 1) I)
      exact ok_succ (by omega) h6 ho
    · right
      exact ⟨by rw [pts_len]; exact fewN_two (by omega) (by omega), oks_pts (by omega) (fun h' e => by cases e; exact ho)⟩
theorem nth_flat {h : Nat} {ks : List (El (h + 1))} {k : Nat} (hk : k < ks.length) : (flatL h (nth ks k)).length ≤ (flatL (h + 1) ks).length := by
  rw [flat_split hk, List.length_append, List.length_append]; omega

end Go.Proofs.YtkgakgceamafcaaGreat

namespace Go.Proofs.YtkgakgceamafcaaGreat
open Go Go.RowKit
set_option linter.unusedVariables false

/-- Values none of which is the nil pointer. -/
def Gd (L : List Value) : Prop := ∀ v ∈ L, v ≠ Value.pointer none
theorem Sl.setNil {w : World} {a : Option Addr} {c p TT : Nat} {u : Value} {xs : List Value} (h : Sl w a c xs) (hp : w.heap[p]? = some (.cells #[Value.pointer Option.none] TT (0, 0))) (hx : Gd xs) : Sl (w.setCell ⟨p, 0, Option.none⟩ u) a c xs := by
  refine ⟨⟨h.rd.1, fun hn => ?_⟩, h.cap, h.capm, h.nil, h.form, h.one⟩
  obtain ⟨g, off, rfl, hlt, hc⟩ := h.rd.2 hn
  have hg : g ≠ p := by
    rintro rfl
    have h0 := hc 0 (xs[0]'hn) (List.getElem?_eq_getElem hn)
    rw [cell_at hp] at h0
    have h1 : off + 0 < 1 := by
      have := (Array.getElem?_eq_some_iff.1 h0).1
      simpa using this
    have h2 : off = 0 := by omega
    subst h2
    exact hx _ (List.getElem_mem hn) (Option.some.inj h0).symm
  refine ⟨g, off, rfl, by rw [size_set]; exact hlt, fun j x hj => ?_⟩
  rw [World.cell?_of_block (w := w) (w' := w.setCell ⟨p, 0, Option.none⟩ u) (a := ⟨g, off + j, Option.none⟩) (heap_set_other hg)]
  exact hc j x hj
theorem Ss.setNil {w : World} {h : Nat} {a : Option Addr} {c p TT : Nat} {u : Value} {xs : List Value} (H : Ss w h a c xs) (hp : w.heap[p]? = some (.cells #[Value.pointer Option.none] TT (0, 0))) (hx : Gd xs) : Ss (w.setCell ⟨p, 0, Option.none⟩ u) h a c xs := by
  cases h with
  | zero => exact S3.setNil H hp
  | succ h => exact Sl.setNil H hp hx
theorem gd_is3 {L : List Value} (h : ∀ u ∈ L, Is3 u) : Gd L := fun v hv => (h v hv).nil
theorem InE.setNil {w : World} {T p TT : Nat} {u : Value} (hp : w.heap[p]? = some (.cells #[Value.pointer none] TT (0, 0))) (hT : TT ≠ T) : ∀ {h : Nat} {t : El h} {y : Value}, Gd (flatE h t) → InE w T h t y → InE (w.setCell ⟨p, 0, none⟩ u) T h t y
  | 0, t, y, _, H => H
  | h + 1, t, y, hg, H => by
    obtain ⟨b, a, c, us, rfl, h1, ht, h2, h3, h4⟩ := H
    have hb : b ≠ p := by
      rintro rfl
      rw [h1] at hp
      injection hp with hp
      injection hp with _ hp
      exact hT hp.symm
    have hsub : ∀ (i : Nat) (x : El h), (kidsOf t)[i]? = some x → Gd (flatE h x) := fun i x hx v hv => hg v (by
      show v ∈ (kidsOf t).flatMap (flatE h)
      exact List.mem_flatMap.2 ⟨x, List.mem_of_getElem? hx, hv⟩)
    have hus : Gd us := fun v hv => by
      obtain ⟨i, hi, rfl⟩ := List.getElem_of_mem hv
      have hx : (kidsOf t)[i]? = some ((kidsOf t)[i]'(by omega)) := List.getElem?_eq_getElem (by omega)
      have hin := h4 i _ _ hx (List.getElem?_eq_getElem hi)
      have hgd := hsub i _ hx
      cases h with
      | zero =>
        have e : us[i] = (kidsOf t)[i]'(by omega) := hin
        rw [e]
        exact hgd _ (by show _ ∈ [((kidsOf t)[i]'(by omega) : Value)]; exact List.mem_singleton.2 rfl)
      | succ h =>
        obtain ⟨b', hb', _⟩ := of_in hin
        rw [hb']
        intro hh
        injection hh with hh
        cases hh
    refine ⟨b, a, c, us, rfl, (heap_set_other hb).trans h1, fun d hd => (ht d hd).set, h2.setNil hp hus, h3, fun i x z hx hz => ?_⟩
    exact InE.setNil hp hT (hsub i x hx) (h4 i x z hx hz)
theorem In.setNil {w : World} {T p TT h b : Nat} {u : Value} {t : List (El h)} (H : In w T h t b) (hp : w.heap[p]? = some (.cells #[Value.pointer none] TT (0, 0))) (hT : TT ≠ T) (hg : Gd (flatL h t)) : In (w.setCell ⟨p, 0, none⟩ u) T h t b := by
  have h1 := InE.setNil (u := u) hp hT (h := h + 1) (t := mk1 t) hg (in_of H)
  obtain ⟨b', hb, h2⟩ := of_in h1
  have : b' = b := by injection hb with hb; injection hb with hb; injection hb with hb; exact hb.symm
  subst this
  exact h2
/-- The least that a root has. -/
def rlo (h : Nat) : Nat := if h = 0 then 1 else 2
theorem rlo_pos (h : Nat) : 1 ≤ rlo h := by unfold rlo; split <;> omega
theorem rlo_le (h : Nat) : rlo h ≤ 2 := by unfold rlo; split <;> omega
theorem rlo_succ (h : Nat) : rlo (h + 1) = 2 := rfl
/-- A tree in memory, by its root's pointer, and what it has. -/
def Tin (w : World) (T : TypeId) (pv : Value) (L : List Value) : Prop :=
  (pv = .pointer none ∧ L = []) ∨ ∃ (b h : Nat) (t : List (El h)), pv = ptr b ∧ In w T h t b ∧ Ok (rlo h) h t ∧ L = flatL h t
theorem Tin.below {w w' : World} {T : TypeId} {pv : Value} {L : List Value} (H : Tin w T pv L) (hb : Below w.heap.size w w') : Tin w' T pv L := by
  rcases H with h | ⟨b, h, t, h1, h2, h3, h4⟩
  · exact .inl h
  · exact .inr ⟨b, h, t, h1, h2.below hb, h3, h4⟩
theorem Tin.setNil {w : World} {T p TT : Nat} {u pv : Value} {L : List Value} (H : Tin w T pv L) (hp : w.heap[p]? = some (.cells #[Value.pointer none] TT (0, 0))) (hT : TT ≠ T) (hg : Gd L) : Tin (w.setCell ⟨p, 0, none⟩ u) T pv L := by
  rcases H with h | ⟨b, h, t, h1, h2, h3, rfl⟩
  · exact .inl h
  · exact .inr ⟨b, h, t, h1, h2.setNil hp hT hg, h3, rfl⟩
theorem Tin.one {w : World} {T : TypeId} {pv : Value} {L : List Value} (H : Tin w T pv L) : pv = .pointer none ∨ ∃ b, pv = ptr b := by
  rcases H with h | ⟨b, h, t, h1, _⟩
  · exact .inl h.1
  · exact .inr ⟨b, h1⟩
/-- Nodes that top takes. -/
def TopOk (h : Nat) (ts : List (El (h + 1))) : Prop := (ts.length = 1 → Ok (rlo h) h (nth ts 0)) ∧ (2 ≤ ts.length → Oks h ts)
theorem topok_up {h : Nat} {ts : List (El (h + 1))} (H : TopOk h ts) (h2 : 2 ≤ ts.length) : TopOk (h + 1) (pts ts) := by
  have ho := H.2 h2
  have hl := pts_len ts
  by_cases h6 : ts.length ≤ 6
  · have hp : pts ts = [mk1 ts] := parts_one (by omega) h6
    rw [hp]
    refine ⟨fun _ => ?_, fun h => by simp at h⟩
    show Ok (rlo (h + 1)) (h + 1) ts
    rw [rlo_succ]
    exact ok_succ h2 h6 ho
  · refine ⟨fun h1 => ?_, fun _ => oks_pts (by omega) (fun h' e => by cases e; exact ho)⟩
    rw [hl] at h1; unfold fewN at h1; omega
theorem topok_leaf {xs : List (El 0)} : TopOk 0 (pts xs) := by
  have hl := pts_len xs
  by_cases h6 : xs.length ≤ 6
  · by_cases h0 : xs.length = 0
    · have hn : (pts xs).length = 0 := by rw [hl, h0]; rfl
      exact ⟨fun h => by omega, fun h => by omega⟩
    · have hp : pts xs = [mk1 xs] := parts_one (by omega) h6
      rw [hp]
      refine ⟨fun _ => ?_, fun h => by simp at h⟩
      show Ok (rlo 0) 0 xs
      exact ⟨by show 1 ≤ _; omega, h6⟩
  · refine ⟨fun h1 => ?_, fun _ => oks_pts (by omega) (fun h' e => by cases e)⟩
    rw [hl] at h1; unfold fewN at h1; omega
theorem topok_ins {lo h : Nat} {t : List (El h)} {i : Nat} {x : Value} (h1 : lo = rlo h) (H : Ok lo h t) (hi : i ≤ (flatL h t).length) : TopOk h (insT h t i x) := by
  subst h1
  rcases ok_ins h t i x (rlo_pos h) H hi with ⟨h1, h2⟩ | ⟨h1, h2⟩
  · exact ⟨fun _ => h2, fun h => by omega⟩
  · exact ⟨fun h => by omega, fun _ => h2⟩
def lenV : Value → Nat
  | .slice _ n _ => n
  | _ => 0

set_option maxRecDepth 100000 in
set_option maxHeartbeats 1000000 in
theorem top_i {w : World} {h : Nat} {a : Option Addr} {c n : Nat} {ts : List (El (h + 1))} (H : Es w 194 (h + 1) ts a c) (hn : ts.length = n) (hl : n ≤ 100000) (hok : TopOk h ts) (hg : Gd (flatL (h + 1) ts)) (hf : (flatL (h + 1) ts).length ≤ 1000000) :
    Calls Tryz.prog 101 #[.slice a n c] w fun e w' => ∃ pv, e = .returned (.agg #[pv]) ∧ Tin w' 194 pv (flatL (h + 1) ts) ∧ Below w.heap.size w w' := by
  have al := t_al w (Obj.cells #[Value.pointer none] 25)
  have hh := heap_alloc_new w (Obj.cells #[Value.pointer none] 25)
  have HE := Lib.hid (H.below al)
  have HN := Lib.hid hn
  have HOK := Lib.hid hok
  obtain ⟨L, hL⟩ : ∃ L, flatL (h + 1) ts = L := ⟨_, rfl⟩
  have HLL := Lib.hid hL
  rw [hL] at hg hf ⊢
  have HG := Lib.hid hg
  clear H hn hok hL hg
  go_enter Tryz.func101, Tryz.ntmps101
  go_upto_region 1 with fail
  generalize w.alloc (Obj.cells #[Value.pointer none] 25) = w1 at *
  have HAL := Lib.hid al
  have HH := Lib.hid hh
  have hz1 := lt_of_heap hh
  clear al hh
  go_loopw [0] (fun v0 wr => ∃ (h' n' : Nat) (ts' : List (El (h' + 1))) (a' : Option Addr) (c' : Nat), v0 = .slice a' n' c' ∧ ts'.length = n' ∧ n' ≤ 100000 ∧ Es wr 194 (h' + 1) ts' a' c' ∧ TopOk h' ts' ∧ flatL (h' + 1) ts' = L ∧ Below w1.heap.size w1 wr) (fun v0 _ => lenV v0)
  case atStart => exact ⟨h, n, ts, a, c, rfl, HN.out, hl, HE.out, HOK.out, HLL.out, Below.refl _ _⟩
  case round =>
    obtain ⟨h', n', ts', a', c', rfl, hn', hl', he', hok', hL', hb'⟩ := hrel
    have HN' := Lib.hid hn'
    have HE' := Lib.hid he'
    have HOK' := Lib.hid hok'
    have HL' := Lib.hid hL'
    have HB' := Lib.hid hb'
    by_cases h1 : 1 < n'
    · have d1 : decide (1 < n') = true := decide_eq_true h1
      have d1' : decide ((1 : Int) < (n' : Int)) = true := decide_eq_true (by omega)
      have HP := Lib.hid (pack_ni he' hn' hl' (by rw [hL']; exact hf))
      have hup := topok_up hok' (by omega)
      have HUP := Lib.hid hup
      have hfw := fewN_lt (n := n') (by omega)
      obtain ⟨m, hm⟩ : ∃ m, fewN n' = m := ⟨_, rfl⟩
      rw [hm] at HP hfw
      have HM : Hid ((pts ts').length = m) := by rw [pts_len, hn', hm]; exact Lib.hid rfl
      clear hn' he' hok' hL' hb' hup hm
      go_wp2_with fail
      refine HP.out.mono ?_; rintro e w2 ⟨a2, c2, rfl, he2, hb2⟩
      have HE2 := Lib.hid he2
      have HB2 := Lib.hid (HB'.out.trans (hb2.mono HB'.out.size))
      clear he2 hb2 HP
      go_wp2_with fail
      go_roundw
      case rel => exact ⟨h' + 1, m, pts ts', a2, c2, rfl, HM.out, by omega, HE2.out, HUP.out, by rw [flatL_pts]; exact HL'.out, HB2.out⟩
      case measure => simp [lenV]; omega
    · have d1 : decide (1 < n') = false := decide_eq_false h1
      have d1' : decide ((1 : Int) < (n' : Int)) = false := decide_eq_false (by omega)
      have hh2 := (hb'.block w.heap.size hz1).trans HH.out
      have HH2 := Lib.hid hh2
      have zz := fun i => unfrozen hh2 i
      have r0 : wr.cell? ⟨w.heap.size, 0, none⟩ = some (.pointer none) := by rw [cell_at hh2]; rfl
      have HBx := Lib.hid (HAL.out.trans (HB'.out.mono (by omega)))
      by_cases h0 : n' = 0
      · subst h0
        have hts : ts' = [] := List.length_eq_zero_iff.1 hn'
        have hLn : L = [] := by rw [← hL', hts]; rfl
        have HLn := Lib.hid hLn
        clear hn' he' hok' hL' hb' hh2 hts hLn
        go_wp2_with fail
        have hs := heap_set_at (o := 0) (u := Value.pointer none) HH2.out
        have hB := HBx.out.setCell (p := ⟨w.heap.size, 0, none⟩) (Nat.le_refl _) (Value.pointer none)
        have q0 : (wr.setCell ⟨w.heap.size, 0, none⟩ (Value.pointer none)).cell? ⟨w.heap.size, 0, none⟩ = some (Value.pointer none) := by rw [cell_at hs]; rfl
        exact bodyPost_ret (v := .agg #[.pointer none]) (by simp [results, Tryz.results101, go_sem, q0]) rfl ⟨.pointer none, rfl, .inl ⟨rfl, HLn.out⟩, hB⟩
      · obtain rfl : n' = 1 := by omega
        obtain ⟨g, o, rfl, hgz⟩ := he'.has (by omega)
        obtain ⟨b', hcb, hin⟩ := he'.at (x := nth ts' 0) (nth_at (by omega))
        have hts : ts' = [mk1 (nth ts' 0)] := by
          have h2 := nth_at (ks := ts') (k := 0) (by omega)
          obtain ⟨x, hx⟩ := List.length_eq_one_iff.1 hn'
          rw [hx] at h2 ⊢
          injection h2 with h2
          rw [h2]; rfl
        have hfl : flatL h' (nth ts' 0) = L := by rw [← hL', hts]; exact (flat_one _).symm
        have hT : Tin wr 194 (ptr b') L := .inr ⟨b', h', nth ts' 0, rfl, hin, hok'.1 hn', hfl.symm⟩
        have HT := Lib.hid hT
        clear hn' he' hok' hL' hb' hh2 hts hfl hT hin
        have e1 : o + 0 = o := Nat.add_zero o
        rw [e1] at hcb
        go_wp2_with fail
        have hs := heap_set_at (o := 0) (u := ptr b') HH2.out
        have hB := HBx.out.setCell (p := ⟨w.heap.size, 0, none⟩) (Nat.le_refl _) (ptr b')
        have hT := HT.out.setNil (u := ptr b') HH2.out (by decide) HG.out
        have q0 : (wr.setCell ⟨w.heap.size, 0, none⟩ (ptr b')).cell? ⟨w.heap.size, 0, none⟩ = some (ptr b') := by rw [cell_at hs]; rfl
        exact bodyPost_ret (v := .agg #[ptr b']) (by simp [results, Tryz.results101, go_sem, q0]) rfl ⟨ptr b', rfl, hT, hB⟩

set_option maxRecDepth 100000 in
set_option maxHeartbeats 1000000 in
theorem of_i {w : World} {a : Option Addr} {c n : Nat} {xs : List Value} (H : S3 w a c xs) (hn : xs.length = n) (hl : n ≤ 100000) (hg : Gd xs) :
    Calls Tryz.prog 46 #[.slice a n c] w fun e w' => ∃ pv, e = .returned (.agg #[pv]) ∧ Tin w' 194 pv xs ∧ Below w.heap.size w w' := by
  have al := t_al w (Obj.cells #[Value.pointer none] 25)
  have hh := heap_alloc_new w (Obj.cells #[Value.pointer none] 25)
  have hfl : flatL 0 xs = xs := flatL_zero xs
  have HP := Lib.hid (pack_li (Es.ofSl (H.below al)) hn hl (by have e := congrArg List.length hfl; have e2 : xs.length = n := hn; omega))
  have hf2 : flatL 1 (pts (v0 xs)) = xs := by rw [flatL_pts]; exact hfl
  have hpn : (pts (v0 xs)).length = fewN n := by rw [pts_len]; show fewN xs.length = _; rw [hn]
  have hfw := fewN_le n
  have HTP : Hid (∀ w' a' c', Es w' 194 1 (pts (v0 xs)) a' c' → Calls Tryz.prog 101 #[.slice a' (fewN n) c'] w' fun e w'' => ∃ pv, e = .returned (.agg #[pv]) ∧ Tin w'' 194 pv xs ∧ Below w'.heap.size w' w'') := by
    refine Lib.hid (fun w' a' c' he => ?_)
    have := top_i he hpn (by omega) topok_leaf (by rw [hf2]; exact hg) (by rw [hf2]; omega)
    rw [hf2] at this
    exact this
  have HG := Lib.hid hg
  obtain ⟨m, hm⟩ : ∃ m, fewN n = m := ⟨_, rfl⟩
  rw [hm] at HP HTP
  clear H hfl hf2 hpn hfw hn hg hm
  go_enter Tryz.func46, Tryz.ntmps46
  go_upto_region 1 with fail
  generalize w.alloc (Obj.cells #[Value.pointer none] 25) = w1 at *
  have HAL := Lib.hid al
  have HH := Lib.hid hh
  have hz1 := lt_of_heap hh
  clear al hh
  go_wp2_with fail
  refine HP.out.mono ?_; rintro e w2 ⟨a2, c2, rfl, he2, hb2⟩
  have HE2 := Lib.hid (HTP.out w2 a2 c2 he2)
  have HB2 := Lib.hid hb2
  clear he2 hb2 HP HTP
  go_wp2_with fail
  refine HE2.out.mono ?_; rintro e w3 ⟨pv, rfl, hT, hb3⟩
  have hb13 := HB2.out.trans (hb3.mono HB2.out.size)
  have hh2 := (hb13.block w.heap.size hz1).trans HH.out
  have HH2 := Lib.hid hh2
  have zz := fun i => unfrozen hh2 i
  have r0 : w3.cell? ⟨w.heap.size, 0, none⟩ = some (.pointer none) := by rw [cell_at hh2]; rfl
  have HBx := Lib.hid (HAL.out.trans (hb13.mono (by omega)))
  have HT := Lib.hid hT
  have hone := hT.one
  clear hb13 hh2 hb3 hT HE2
  rcases hone with rfl | ⟨b', rfl⟩
  all_goals
    go_wp2_with fail
  · have hs := heap_set_at (o := 0) (u := Value.pointer none) HH2.out
    have hB := HBx.out.setCell (p := ⟨w.heap.size, 0, none⟩) (Nat.le_refl _) (Value.pointer none)
    have hT := HT.out.setNil (u := Value.pointer none) HH2.out (by decide) HG.out
    have q0 : (w3.setCell ⟨w.heap.size, 0, none⟩ (Value.pointer none)).cell? ⟨w.heap.size, 0, none⟩ = some (Value.pointer none) := by rw [cell_at hs]; rfl
    exact bodyPost_ret (v := .agg #[.pointer none]) (by simp [results, Tryz.results46, go_sem, q0]) rfl ⟨.pointer none, rfl, hT, hB⟩
  · have hs := heap_set_at (o := 0) (u := ptr b') HH2.out
    have hB := HBx.out.setCell (p := ⟨w.heap.size, 0, none⟩) (Nat.le_refl _) (ptr b')
    have hT := HT.out.setNil (u := ptr b') HH2.out (by decide) HG.out
    have q0 : (w3.setCell ⟨w.heap.size, 0, none⟩ (ptr b')).cell? ⟨w.heap.size, 0, none⟩ = some (ptr b') := by rw [cell_at hs]; rfl
    exact bodyPost_ret (v := .agg #[ptr b']) (by simp [results, Tryz.results46, go_sem, q0]) rfl ⟨ptr b', rfl, hT, hB⟩

end Go.Proofs.YtkgakgceamafcaaGreat

namespace Go.Proofs.YtkgakgceamafcaaGreat
open Go Go.RowKit
set_option linter.unusedVariables false

set_option maxHeartbeats 1000000 in
theorem len_i {w : World} {pv : Value} {L : List Value} (H : Tin w 194 pv L) :
    Calls Tryz.prog 54 #[.agg #[pv]] w fun e w' => e = .returned (.int .i64 L.length) ∧ Below w.heap.size w w' := by
  rcases H with ⟨rfl, rfl⟩ | ⟨b, h, t, rfl, hin, hok, rfl⟩
  · have hh := heap_alloc_new w (Obj.cells #[Value.pointer none] 25)
    have al := t_al w (Obj.cells #[Value.pointer none] 25)
    have c0 : (w.alloc (Obj.cells #[Value.pointer none] 25)).cell? ⟨w.heap.size, 0, none⟩ = some (.pointer none) := by rw [cell_at hh]; rfl
    have AL := Lib.hid al
    clear hh al
    go_enter Tryz.func54, Tryz.ntmps54
    go_wp2_with fail
    go_ret
    exact ⟨rfl, AL.out⟩
  · have hh := heap_alloc_new w (Obj.cells #[ptr b] 25)
    have al := t_al w (Obj.cells #[ptr b] 25)
    have c0 : (w.alloc (Obj.cells #[ptr b] 25)).cell? ⟨w.heap.size, 0, none⟩ = some (ptr b) := by rw [cell_at hh]; rfl
    have c2 := (al.cell (p := ⟨b, 2, none⟩) hin.lt).trans hin.num
    have AL := Lib.hid al
    generalize (flatL h t).length = n at *
    clear hh al hin hok
    go_enter Tryz.func54, Tryz.ntmps54
    go_wp2_with fail
    go_ret
    exact ⟨rfl, AL.out⟩
theorem root_i {w : World} {pv : Value} {L : List Value} (H : Tin w 194 pv L) :
    Calls Tryz.prog 185 #[.agg #[pv]] w fun e w' => e = .returned pv ∧ Below w.heap.size w w' := by
  rcases H.one with rfl | ⟨b, rfl⟩
  · have hh := heap_alloc_new w (Obj.cells #[Value.pointer none] 25)
    have al := t_al w (Obj.cells #[Value.pointer none] 25)
    have c0 : (w.alloc (Obj.cells #[Value.pointer none] 25)).cell? ⟨w.heap.size, 0, none⟩ = some (.pointer none) := by rw [cell_at hh]; rfl
    have AL := Lib.hid al
    clear hh al
    go_enter Tryz.func185, Tryz.ntmps185
    go_wp2_with fail
    go_ret
    exact ⟨rfl, AL.out⟩
  · have hh := heap_alloc_new w (Obj.cells #[ptr b] 25)
    have al := t_al w (Obj.cells #[ptr b] 25)
    have c0 : (w.alloc (Obj.cells #[ptr b] 25)).cell? ⟨w.heap.size, 0, none⟩ = some (ptr b) := by rw [cell_at hh]; rfl
    have AL := Lib.hid al
    clear hh al
    go_enter Tryz.func185, Tryz.ntmps185
    go_wp2_with fail
    go_ret
    exact ⟨rfl, AL.out⟩
set_option maxHeartbeats 1000000 in
theorem has_i {w : World} {pv : Value} {L : List Value} (I : Int) (H : Tin w 194 pv L) :
    Calls Tryz.prog 151 #[.agg #[pv], .int .i64 I] w fun e w' => e = .returned (.bool (decide (0 ≤ I ∧ I < L.length))) ∧ Below w.heap.size w w' := by
  have hh := heap_alloc_new w (Obj.cells #[pv] 25)
  have al := t_al w (Obj.cells #[pv] 25)
  have c0 : (w.alloc (Obj.cells #[pv] 25)).cell? ⟨w.heap.size, 0, none⟩ = some pv := by rw [cell_at hh]; rfl
  have HLn := Lib.hid (len_i (H.below al))
  have hone := H.one
  have AL := Lib.hid al
  clear hh al H
  by_cases h0 : 0 ≤ I
  · have d0 : decide (0 ≤ I) = true := decide_eq_true h0
    have e1 : decide (0 ≤ I ∧ I < L.length) = decide (I < (L.length : Int)) := by
      by_cases h : I < (L.length : Int)
      · rw [decide_eq_true h, decide_eq_true ⟨h0, h⟩]
      · rw [decide_eq_false h, decide_eq_false (fun hh => h hh.2)]
    rw [e1]
    clear e1
    generalize L.length = n at *
    rcases hone with rfl | ⟨b, rfl⟩
    all_goals
      go_enter Tryz.func151, Tryz.ntmps151
      go_wp2_with fail
      refine HLn.out.mono ?_; rintro e w1 ⟨rfl, hb⟩
      have HB := Lib.hid (AL.out.trans (hb.mono AL.out.size))
      clear hb
      go_wp2_with fail
      go_ret
      exact ⟨rfl, HB.out⟩
  · have d0 : decide (0 ≤ I) = false := decide_eq_false h0
    rw [show decide (0 ≤ I ∧ I < L.length) = false from decide_eq_false (fun hh => h0 hh.1)]
    rcases hone with rfl | ⟨b, rfl⟩
    all_goals
      go_enter Tryz.func151, Tryz.ntmps151
      go_wp2_with fail
      go_ret
      exact ⟨rfl, AL.out⟩

theorem gd_repl {L o : List Value} {i j : Nat} (h : Gd L) (ho : Gd o) : Gd (replL L i j o) := by
  intro v hv
  unfold replL at hv
  rcases List.mem_append.1 hv with hv | hv
  · rcases List.mem_append.1 hv with hv | hv
    · exact h v (List.mem_of_mem_take hv)
    · exact ho v hv
  · exact h v (List.mem_of_mem_drop hv)
theorem two_blocks (w : World) (o1 o2 : Obj) : ∃ w1, (w.alloc o1).alloc o2 = w1 ∧ Below w.heap.size w w1 ∧ w1.heap.size = w.heap.size + 2 ∧ w1.heap[w.heap.size]? = some o1 ∧ w1.heap[w.heap.size + 1]? = some o2 := by
  refine ⟨_, rfl, (t_al w o1).trans ((t_al _ o2).mono (by simp)), by simp, ?_, ?_⟩
  · exact ((t_al (w.alloc o1) o2).block w.heap.size (by simp)).trans (heap_alloc_new w o1)
  · have := heap_alloc_new (w.alloc o1) o2
    rw [show (w.alloc o1).heap.size = w.heap.size + 1 by simp] at this
    exact this

end Go.Proofs.YtkgakgceamafcaaGreat
