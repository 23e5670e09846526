/-
  Plain trees for layer 9: what is joined, of any heights.
-/
import Derived.Test.YtofncnommekbjaaTrQ
namespace Go.Proofs.Ytofncnommekbjaa
open Go Go.RowKit
set_option linter.unusedVariables false

/-- One node, or two, with what is below them. -/
def Jk (lo h : Nat) (R : List (El (h + 1))) (L : List Value) : Prop := 1 ≤ R.length ∧ R.length ≤ 2 ∧ flatL (h + 1) R = L ∧ (R.length = 1 → Ok lo h (nth R 0)) ∧ (R.length = 2 → Oks h R)
theorem Jk.oks {h : Nat} {R : List (El (h + 1))} {L : List Value} (H : Jk 3 h R L) : Oks h R := by
  obtain ⟨h1, h2, h3, h4, h5⟩ := H
  by_cases e : R.length = 1
  · intro k hk
    have : k = 0 := by omega
    subst this
    exact h4 e
  · exact h5 (by omega)
theorem jk_pts {lo h : Nat} {X : List (El h)} (h0 : 1 ≤ X.length) (h1 : lo ≤ X.length) (h12 : X.length ≤ 12) (hX : ∀ h' (e : h = h' + 1), Oks h' (e ▸ X)) : Jk lo h (pts X) (flatL h X) := by
  have hl := pts_len X
  by_cases h6 : X.length ≤ 6
  · have hp : pts X = [mk1 X] := parts_one h0 h6
    have hf := flatL_pts h X
    rw [hp] at hf ⊢
    refine ⟨by simp, by simp, hf, fun _ => ?_, fun hh => by simp at hh⟩
    show Ok lo h X
    cases h with
    | zero => exact ⟨h1, h6⟩
    | succ h => exact ok_succ h1 h6 (hX h rfl)
  · have h2 : (pts X).length = 2 := by rw [hl]; exact fewN_two (by omega) h12
    exact ⟨by omega, by omega, flatL_pts h X, fun hh => by omega, fun _ => oks_pts (by omega) hX⟩
theorem jk_base {lo lo' h : Nat} {s t : List (El h)} (hlo : 1 ≤ lo) (hs : Ok lo h s) (ht : Ok lo' h t) : Jk lo h (pts (s ++ t)) (flatL h s ++ flatL h t) := by
  rw [← flatL_app]
  have h1 := hs.len
  have h2 := ht.len
  have hl : (s ++ t).length = s.length + t.length := List.length_append
  exact jk_pts (by omega) (by omega) (by omega) (oks_cat hs ht)
theorem jk_up {lo h : Nat} {ts : List (El (h + 1))} {R : List (El (h + 1))} {L : List Value} (hlo : 1 ≤ lo) (hok : Ok lo (h + 1) ts) (hR : Jk 3 h R (flatL h (nth ts (ts.length - 1)) ++ L)) :
    Jk lo (h + 1) (pts (ts.take (ts.length - 1) ++ R)) (flatL (h + 1) ts ++ L) := by
  have h1 := hok.len
  have hr := hR.oks
  obtain ⟨r1, r2, r3, _, _⟩ := hR
  have hl : (ts.take (ts.length - 1) ++ R).length = ts.length - 1 + R.length := by rw [List.length_append, List.length_take]; omega
  have hf : flatL (h + 1) (ts.take (ts.length - 1) ++ R) = flatL (h + 1) ts ++ L := by
    rw [flatL_app, r3, ← List.append_assoc]
    congr 1
    have := flat_split (ks := ts) (k := ts.length - 1) (by omega)
    rw [show ts.length - 1 + 1 = ts.length by omega, List.drop_length, flatL_nil, List.append_nil] at this
    exact this.symm
  rw [← hf]
  exact jk_pts (by omega) (by omega) (by omega) (fun h' e => by cases e; exact oks_app (oks_take hok.oks _) hr)
theorem jk_dn {lo h : Nat} {ts : List (El (h + 1))} {R : List (El (h + 1))} {L : List Value} (hlo : 1 ≤ lo) (hok : Ok lo (h + 1) ts) (hR : Jk 3 h R (L ++ flatL h (nth ts 0))) :
    Jk lo (h + 1) (pts (R ++ ts.drop 1)) (L ++ flatL (h + 1) ts) := by
  have h1 := hok.len
  have hr := hR.oks
  obtain ⟨r1, r2, r3, _, _⟩ := hR
  have hl : (R ++ ts.drop 1).length = ts.length - 1 + R.length := by rw [List.length_append, List.length_drop]; omega
  have hf : flatL (h + 1) (R ++ ts.drop 1) = L ++ flatL (h + 1) ts := by
    rw [flatL_app, r3, List.append_assoc]
    congr 1
    have := flat_split (ks := ts) (k := 0) (by omega)
    rw [List.take_zero, flatL_nil, List.nil_append] at this
    exact this.symm
  rw [← hf]
  exact jk_pts (by omega) (by omega) (by omega) (fun h' e => by cases e; exact oks_app hr (oks_drop hok.oks _))
theorem jk_swap {lo lo' h : Nat} {s t : List (El h)} (hlo : 1 ≤ lo') (hs : Ok lo h s) (ht : Ok lo' h t) : Jk lo' h (pts (s ++ t)) (flatL h s ++ flatL h t) := by
  rw [← flatL_app]
  have h1 := hs.len
  have h2 := ht.len
  have hl : (s ++ t).length = s.length + t.length := List.length_append
  exact jk_pts (by omega) (by omega) (by omega) (oks_cat hs ht)
theorem jk_top {h : Nat} {R : List (El (h + 1))} {L : List Value} (H : Jk (rlo h) h R L) : TopOk h R := ⟨fun e => H.2.2.2.1 e, fun e => H.2.2.2.2 (by have := H.2.1; omega)⟩

end Go.Proofs.Ytofncnommekbjaa
