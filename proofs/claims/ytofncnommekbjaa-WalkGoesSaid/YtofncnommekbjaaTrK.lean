/-
  Plain trees for layer 9: what is taken.
-/
import Derived.Test.YtofncnommekbjaaTrJ
namespace Go.Proofs.Ytofncnommekbjaa
open Go Go.RowKit
set_option linter.unusedVariables false

theorem repl_set {α : Type} {l : List α} {k : Nat} {x : α} (hk : k < l.length) : replL l k (k + 1) [x] = l.set k x := by
  unfold replL
  rw [List.set_eq_take_append_cons_drop, if_pos hk]; simp
theorem nth_repl_at {h : Nat} {ks : List (El (h + 1))} {k : Nat} (hk : k < ks.length) (t : List (El h)) : nth (replL ks k (k + 1) [mk1 t]) k = t := by
  rw [repl_set hk]
  exact nth_some (by rw [List.getElem?_set_self (by omega)]; rfl)
theorem nth_repl_ne {h : Nat} {ks : List (El (h + 1))} {k m : Nat} (hk : k < ks.length) (hm : m ≠ k) (t : List (El h)) : nth (replL ks k (k + 1) [mk1 t]) m = nth ks m := by
  rw [repl_set hk]
  unfold nth
  rw [List.getElem?_set_ne (by omega)]
theorem repl_one_len {α : Type} {l : List α} {k : Nat} {x : α} (hk : k < l.length) : (replL l k (k + 1) [x]).length = l.length := by rw [repl_set hk, List.length_set]
theorem ok_raise {h : Nat} {t : List (El h)} (H : Ok 2 h t) (h3 : 3 ≤ t.length) : Ok 3 h t := by cases h with
  | zero => exact ⟨h3, H.2⟩
  | succ h => exact ⟨h3, H.2.1, H.2.2⟩
theorem ok_lower {lo lo' h : Nat} {t : List (El h)} (H : Ok lo h t) (h3 : lo' ≤ lo) : Ok lo' h t := by cases h with
  | zero => exact ⟨Nat.le_trans h3 H.1, H.2⟩
  | succ h => exact ⟨Nat.le_trans h3 H.1, H.2.1, H.2.2⟩
/-- Kids with another k-th one; put together with one beside it, if it is low. -/
def delK {h : Nat} (ks : List (El (h + 1))) (k : Nat) (t : List (El h)) : List (El (h + 1)) :=
  if t.length < 3 then replL (replL ks k (k + 1) [mk1 t]) (k - 1) (k - 1 + 2) (pts (nth (replL ks k (k + 1) [mk1 t]) (k - 1) ++ nth (replL ks k (k + 1) [mk1 t]) (k - 1 + 1))) else replL ks k (k + 1) [mk1 t]
theorem delT_succ {h : Nat} {ks : List (El (h + 1))} {i : Nat} (hk : (kidP (szs h ks) i).1 < ks.length) : delT (h + 1) ks i = delK ks (kidP (szs h ks) i).1 (delT h (nth ks (kidP (szs h ks) i).1) (kidP (szs h ks) i).2) := by
  have e : delT (h + 1) ks i = (if (nth (replL ks (kidP (szs h ks) i).1 ((kidP (szs h ks) i).1 + 1) [mk1 (delT h (nth ks (kidP (szs h ks) i).1) (kidP (szs h ks) i).2)]) (kidP (szs h ks) i).1).length < 3 then replL (replL ks (kidP (szs h ks) i).1 ((kidP (szs h ks) i).1 + 1) [mk1 (delT h (nth ks (kidP (szs h ks) i).1) (kidP (szs h ks) i).2)]) ((kidP (szs h ks) i).1 - 1) ((kidP (szs h ks) i).1 - 1 + 2) (pts (nth (replL ks (kidP (szs h ks) i).1 ((kidP (szs h ks) i).1 + 1) [mk1 (delT h (nth ks (kidP (szs h ks) i).1) (kidP (szs h ks) i).2)]) ((kidP (szs h ks) i).1 - 1) ++ nth (replL ks (kidP (szs h ks) i).1 ((kidP (szs h ks) i).1 + 1) [mk1 (delT h (nth ks (kidP (szs h ks) i).1) (kidP (szs h ks) i).2)]) ((kidP (szs h ks) i).1 - 1 + 1))) else replL ks (kidP (szs h ks) i).1 ((kidP (szs h ks) i).1 + 1) [mk1 (delT h (nth ks (kidP (szs h ks) i).1) (kidP (szs h ks) i).2)]) := rfl
  rw [e, nth_repl_at hk]; rfl
/-- What two beside each other have, of which one is low. -/
theorem pair_len {h : Nat} {ks : List (El (h + 1))} {k : Nat} {t : List (El h)} (hk : k < ks.length) (h2 : 2 ≤ ks.length) (hoks : Oks h ks) (ht : Ok 2 h t) (hlow : t.length < 3) :
    k - 1 + 1 < ks.length ∧ 5 ≤ (nth (replL ks k (k + 1) [mk1 t]) (k - 1)).length + (nth (replL ks k (k + 1) [mk1 t]) (k - 1 + 1)).length ∧ (nth (replL ks k (k + 1) [mk1 t]) (k - 1)).length + (nth (replL ks k (k + 1) [mk1 t]) (k - 1 + 1)).length ≤ 8 ∧ 2 ≤ (nth (replL ks k (k + 1) [mk1 t]) (k - 1)).length ∧ 2 ≤ (nth (replL ks k (k + 1) [mk1 t]) (k - 1 + 1)).length ∧ Ok 2 h (nth (replL ks k (k + 1) [mk1 t]) (k - 1)) ∧ Ok 2 h (nth (replL ks k (k + 1) [mk1 t]) (k - 1 + 1)) := by
  have ht2 := ht.len
  rcases Nat.eq_zero_or_pos k with rfl | hk0
  · have e1 : nth (replL ks 0 (0 + 1) [mk1 t]) (0 - 1) = t := nth_repl_at hk t
    have e2 : nth (replL ks 0 (0 + 1) [mk1 t]) (0 - 1 + 1) = nth ks 1 := nth_repl_ne hk (by omega) t
    have h3 := hoks 1 (by omega)
    have h4 := h3.len
    rw [e1, e2]
    exact ⟨by omega, by omega, by omega, by omega, by omega, ht, ok_lower h3 (by omega)⟩
  · have e1 : nth (replL ks k (k + 1) [mk1 t]) (k - 1) = nth ks (k - 1) := nth_repl_ne hk (by omega) t
    have e2 : nth (replL ks k (k + 1) [mk1 t]) (k - 1 + 1) = t := by rw [show k - 1 + 1 = k by omega]; exact nth_repl_at hk t
    have h3 := hoks (k - 1) (by omega)
    have h4 := h3.len
    rw [e1, e2]
    exact ⟨by omega, by omega, by omega, by omega, by omega, ok_lower h3 (by omega), ht⟩
theorem oks_of_ok {lo h h' : Nat} {t : List (El h)} (H : Ok lo h t) (e : h = h' + 1) : Oks h' (e ▸ t) := by subst e; exact H.oks
theorem oks_cat {h : Nat} {s t : List (El h)} {lo lo' : Nat} (hs : Ok lo h s) (ht : Ok lo' h t) : ∀ h' (e : h = h' + 1), Oks h' (e ▸ (s ++ t)) := by
  intro h' e
  subst e
  exact oks_app hs.oks ht.oks
theorem delK_spec {lo h : Nat} {ks : List (El (h + 1))} {k : Nat} {t : List (El h)} (hk : k < ks.length) (hlo : 2 ≤ lo) (H : Ok lo (h + 1) ks) (ht : Ok 2 h t) :
    flatL (h + 1) (delK ks k t) = flatL (h + 1) (replL ks k (k + 1) [mk1 t]) ∧ Ok (lo - 1) (h + 1) (delK ks k t) := by
  have hl := H.len
  unfold delK
  by_cases hlow : t.length < 3
  · rw [if_pos hlow]
    obtain ⟨p1, p2, p3, _, _, p4, p5⟩ := pair_len hk (by omega) H.oks ht hlow
    have hrl := repl_one_len (x := mk1 t) hk
    refine ⟨flat_pair (by rw [hrl]; exact p1), ?_⟩
    have hpl : (nth (replL ks k (k + 1) [mk1 t]) (k - 1) ++ nth (replL ks k (k + 1) [mk1 t]) (k - 1 + 1)).length = (nth (replL ks k (k + 1) [mk1 t]) (k - 1)).length + (nth (replL ks k (k + 1) [mk1 t]) (k - 1 + 1)).length := List.length_append
    have ho := oks_pts (l := nth (replL ks k (k + 1) [mk1 t]) (k - 1) ++ nth (replL ks k (k + 1) [mk1 t]) (k - 1 + 1)) (by rw [hpl]; omega) (oks_cat p4 p5)
    have hpn := pts_len (nth (replL ks k (k + 1) [mk1 t]) (k - 1) ++ nth (replL ks k (k + 1) [mk1 t]) (k - 1 + 1))
    rw [hpl] at hpn
    have hf : fewN ((nth (replL ks k (k + 1) [mk1 t]) (k - 1)).length + (nth (replL ks k (k + 1) [mk1 t]) (k - 1 + 1)).length) = 1 ∨ fewN ((nth (replL ks k (k + 1) [mk1 t]) (k - 1)).length + (nth (replL ks k (k + 1) [mk1 t]) (k - 1 + 1)).length) = 2 := by unfold fewN; omega
    have hoall : Oks h (replL (replL ks k (k + 1) [mk1 t]) (k - 1) (k - 1 + 2) (pts (nth (replL ks k (k + 1) [mk1 t]) (k - 1) ++ nth (replL ks k (k + 1) [mk1 t]) (k - 1 + 1)))) := by
      have ha : Oks h ((replL ks k (k + 1) [mk1 t]).take (k - 1)) := by
        intro m hm
        rw [List.length_take] at hm
        have e : nth ((replL ks k (k + 1) [mk1 t]).take (k - 1)) m = nth (replL ks k (k + 1) [mk1 t]) m := by unfold nth; rw [List.getElem?_take, if_pos (by omega)]
        rw [e, nth_repl_ne hk (by omega)]
        exact H.oks m (by omega)
      have hb : Oks h ((replL ks k (k + 1) [mk1 t]).drop (k - 1 + 2)) := by
        intro m hm
        rw [List.length_drop] at hm
        have e : nth ((replL ks k (k + 1) [mk1 t]).drop (k - 1 + 2)) m = nth (replL ks k (k + 1) [mk1 t]) (k - 1 + 2 + m) := by unfold nth; rw [List.getElem?_drop]
        rw [e, nth_repl_ne hk (by omega)]
        exact H.oks _ (by omega)
      exact oks_app (oks_app ha ho) hb
    have hlen : (replL (replL ks k (k + 1) [mk1 t]) (k - 1) (k - 1 + 2) (pts (nth (replL ks k (k + 1) [mk1 t]) (k - 1) ++ nth (replL ks k (k + 1) [mk1 t]) (k - 1 + 1)))).length = ks.length - 2 + (pts (nth (replL ks k (k + 1) [mk1 t]) (k - 1) ++ nth (replL ks k (k + 1) [mk1 t]) (k - 1 + 1))).length := by
      rw [replL_len _ _ (by omega) (by omega), hrl]; omega
    exact ok_succ (by omega) (by omega) hoall
  · rw [if_neg hlow]
    refine ⟨rfl, ?_⟩
    have hrl := repl_one_len (x := mk1 t) hk
    exact ok_succ (by omega) (by omega) (oks_repl H.oks (oks_one (ok_raise ht (by omega))) _ _)
theorem del_spec : ∀ {lo : Nat} (h : Nat) (t : List (El h)) (i : Nat), 1 ≤ lo → (h = 0 ∨ 2 ≤ lo) → Ok lo h t → i < (flatL h t).length → flatL h (delT h t i) = replL (flatL h t) i (i + 1) [] ∧ Ok (lo - 1) h (delT h t i)
  | lo, 0, l, i, hlo, _, H, hi => by
    have h2 : (flatL 0 l).length = l.length := flatLen0 l
    have h1 : (replL l i (i + 1) ([] : List (El 0))).length = l.length - 1 := by rw [replL_len l _ (by omega) (by omega)]; simp; omega
    have hl := H.len
    constructor
    · have e1 : flatL 0 (delT 0 l i) = delT 0 l i := flatL_zero _
      have e2 : flatL 0 l = l := flatL_zero _
      rw [e1, e2]; rfl
    · show lo - 1 ≤ (replL l i (i + 1) ([] : List (El 0))).length ∧ (replL l i (i + 1) ([] : List (El 0))).length ≤ 6
      omega
  | lo, h + 1, ks, i, hlo, h2, H, hi => by
    obtain ⟨hk, _, h3, _⟩ := kid_at (Nat.le_trans hlo H.1) i
    have h3 := h3 hi
    obtain ⟨f1, o1⟩ := del_spec h (nth ks (kidP (szs h ks) i).1) (kidP (szs h ks) i).2 (show 1 ≤ 3 by omega) (.inr (by omega)) (H.kid hk) h3
    obtain ⟨g1, g2⟩ := delK_spec hk (by omega) H o1
    rw [delT_succ hk]
    exact ⟨g1.trans (flat_del_kids (Nat.le_trans hlo H.1) i hi _ f1), g2⟩

end Go.Proofs.Ytofncnommekbjaa
