/-
  Plain lists for layer 20: heaps of numbers.
-/
import Derived.Test.YtjmpokgdgnjojaaDoorTrA
namespace Go.Proofs.YtjmpokgdgnjojaaDoor
open Go Go.RowKit
set_option linter.unusedVariables false

def gN (R : List Int) (k : Nat) : Int := R.getD k 0
def lsB (e f : Int) : Bool := decide (e < f)
def Nl (e f : Int) : Prop := lsB e f = false
theorem nl_iff {e f : Int} : Nl e f ↔ f ≤ e := by unfold Nl lsB; rw [decide_eq_false_iff_not]; omega
theorem ls_iff {e f : Int} : lsB e f = true ↔ e < f := by unfold lsB; rw [decide_eq_true_eq]
theorem ls_asym {e f : Int} (h : lsB e f = true) : Nl f e := by rw [ls_iff] at h; rw [nl_iff]; omega
theorem nl_refl (e : Int) : Nl e e := by rw [nl_iff]; omega
theorem nl_trans {e f g : Int} (h : Nl f e) (k : Nl g f) : Nl g e := by rw [nl_iff] at *; omega
theorem kid_of {k i : Nat} (h0 : 0 < k) (h : (k - 1) / 2 = i) : k = 2 * i + 1 ∨ k = 2 * i + 2 := by omega
theorem gN_at {R : List Int} {k : Nat} (h : k < R.length) : R[k]? = some (gN R k) := by unfold gN; rw [List.getD_eq_getElem?_getD, List.getElem?_eq_getElem h]; rfl

def swapE (R : List Int) (i j : Nat) : List Int := (R.set i (gN R j)).set j (gN R i)
theorem swap_len (R : List Int) (i j : Nat) : (swapE R i j).length = R.length := by unfold swapE; simp
theorem gN_set {R : List Int} {i k : Nat} {e : Int} (hi : i < R.length) : gN (R.set i e) k = if k = i then e else gN R k := by
  unfold gN
  rw [List.getD_eq_getElem?_getD, List.getElem?_set]
  by_cases h : i = k
  · subst h; simp [hi]
  · rw [if_neg h, if_neg (fun e => h e.symm), List.getD_eq_getElem?_getD]
theorem gN_swap {R : List Int} {i j k : Nat} (hi : i < R.length) (hj : j < R.length) : gN (swapE R i j) k = if k = j then gN R i else if k = i then gN R j else gN R k := by
  unfold swapE
  rw [gN_set (by simpa using hj), gN_set hi]
theorem set_app_mid {α : Type} (a : List α) (x y : α) (b : List α) : (a ++ x :: b).set a.length y = a ++ y :: b := by
  rw [List.set_append_right _ _ (Nat.le_refl _), Nat.sub_self]; rfl
theorem split_at {R : List Int} {i : Nat} (hi : i < R.length) : R = R.take i ++ gN R i :: R.drop (i + 1) := by
  have h := List.take_append_drop i R
  rw [List.drop_eq_getElem_cons hi] at h
  have e : gN R i = R[i] := by unfold gN; rw [List.getD_eq_getElem?_getD, List.getElem?_eq_getElem hi]; rfl
  rw [e]; exact h.symm
theorem swap_perm {R : List Int} {i j : Nat} (hij : i < j) (hj : j < R.length) : (swapE R i j).Perm R := by
  obtain ⟨a, b, d, x, y, ha, hb, e⟩ : ∃ (a b d : List Int) (x y : Int), a.length = i ∧ (a ++ x :: b).length = j ∧ R = a ++ x :: (b ++ y :: d) := by
    have h1 := split_at (R := R) (i := i) (by omega)
    have h2 := split_at (R := R.drop (i + 1)) (i := j - i - 1) (by rw [List.length_drop]; omega)
    refine ⟨R.take i, (R.drop (i + 1)).take (j - i - 1), (R.drop (i + 1)).drop (j - i - 1 + 1), gN R i, gN (R.drop (i + 1)) (j - i - 1), by rw [List.length_take]; omega, ?_, ?_⟩
    · rw [List.length_append, List.length_cons, List.length_take, List.length_take, List.length_drop]; omega
    · rw [← h2]; exact h1
  have hx : gN R i = x := by subst ha; subst e; simp [gN]
  have hy : gN R j = y := by
    subst hb; subst e
    rw [show a ++ x :: (b ++ y :: d) = (a ++ x :: b) ++ y :: d by simp]
    simp only [gN, List.getD_eq_getElem?_getD]
    rw [List.getElem?_append_right (Nat.le_refl _), Nat.sub_self]; rfl
  unfold swapE
  rw [hx, hy]
  subst ha
  rw [show R.set a.length y = a ++ y :: (b ++ y :: d) by rw [e]; exact set_app_mid _ _ _ _]
  have hb' : j = (a ++ y :: b).length := by rw [← hb]; simp
  rw [show a ++ y :: (b ++ y :: d) = (a ++ y :: b) ++ y :: d by simp, hb', set_app_mid, e]
  rw [show (a ++ y :: b) ++ x :: d = a ++ y :: (b ++ x :: d) by simp]
  refine List.Perm.append_left a ?_
  refine ((List.perm_middle (l₁ := b)).cons y).trans ((List.Perm.swap x y _).trans ?_)
  exact (List.perm_middle (l₁ := b)).symm.cons x

def par (k : Nat) : Nat := (k - 1) / 2
def Heap (R : List Int) (n : Nat) : Prop := ∀ k, 0 < k → k < n → Nl (gN R k) (gN R (par k))
def UpOk (R : List Int) (n j : Nat) : Prop := (∀ k, 0 < k → k < n → k ≠ j → Nl (gN R k) (gN R (par k))) ∧ (∀ k, 0 < k → k < n → par k = j → 0 < j → Nl (gN R k) (gN R (par j)))
def DnOk (R : List Int) (n i0 i : Nat) : Prop := (∀ k, 0 < k → k < n → par k ≠ i → ¬ (k = i0 ∧ i = i0) → Nl (gN R k) (gN R (par k))) ∧ (∀ k, 0 < k → k < n → par k = i → 0 < i → Nl (gN R k) (gN R (par i)))
theorem par_lt {k : Nat} (h : 0 < k) : par k < k := by unfold par; omega
theorem up_step {R : List Int} {n j : Nat} (h : UpOk R n j) (h0 : 0 < j) (hj : j < n) (hn : n ≤ R.length) (hl : lsB (gN R j) (gN R (par j)) = true) : UpOk (swapE R (par j) j) n (par j) := by
  have hp := par_lt h0
  have G : ∀ k, gN (swapE R (par j) j) k = if k = j then gN R (par j) else if k = par j then gN R j else gN R k := fun k => gN_swap (by omega) (by omega)
  refine ⟨fun k k0 kn kp => ?_, fun k k0 kn kp p0 => ?_⟩
  · rw [G k, G (par k), if_neg kp]
    have kpl := par_lt k0
    by_cases e1 : k = j
    · subst e1
      rw [if_pos rfl, if_neg (by omega), if_pos rfl]
      exact ls_asym hl
    · rw [if_neg e1]
      by_cases e2 : par k = j
      · rw [if_pos e2]; exact h.2 k k0 kn e2 h0
      · rw [if_neg e2]
        by_cases e3 : par k = par j
        · rw [if_pos e3]
          have h1 := h.1 k k0 kn e1
          rw [e3] at h1
          exact nl_trans (ls_asym hl) h1
        · rw [if_neg e3]; exact h.1 k k0 kn e1
  · have ppl := par_lt p0
    have hpp : gN (swapE R (par j) j) (par (par j)) = gN R (par (par j)) := by rw [G, if_neg (by omega), if_neg (by omega)]
    rw [hpp, G k]
    have h2 : Nl (gN R (par j)) (gN R (par (par j))) := h.1 (par j) p0 (by omega) (by omega)
    by_cases e1 : k = j
    · rw [if_pos e1]; exact h2
    · have kpl := par_lt k0
      rw [if_neg e1, if_neg (by omega)]
      have h1 := h.1 k k0 kn e1
      rw [kp] at h1
      exact nl_trans h2 h1
theorem up_stop {R : List Int} {n j : Nat} (h : UpOk R n j) (hs : j = 0 ∨ lsB (gN R j) (gN R (par j)) = false) : Heap R n := by
  intro k k0 kn
  by_cases e : k = j
  · subst e
    rcases hs with hs | hs
    · omega
    · exact hs
  · exact h.1 k k0 kn e
theorem dn_step {R : List Int} {n i0 i j : Nat} (h : DnOk R n i0 i) (h0 : 0 < j) (hj : j < n) (hn : n ≤ R.length) (hp : par j = i) (hii : i0 ≤ i) (hl : lsB (gN R j) (gN R i) = true)
    (hm : ∀ k, 0 < k → k < n → par k = i → Nl (gN R k) (gN R j)) : DnOk (swapE R i j) n i0 j := by
  have hpl := par_lt h0
  have G : ∀ k, gN (swapE R i j) k = if k = j then gN R i else if k = i then gN R j else gN R k := fun k => gN_swap (by omega) (by omega)
  refine ⟨fun k k0 kn kp _ => ?_, fun k k0 kn kp p0 => ?_⟩
  · have kpl := par_lt k0
    rw [G k, G (par k), if_neg kp]
    by_cases e1 : k = j
    · subst e1
      rw [if_pos rfl, if_pos hp]
      exact ls_asym hl
    · rw [if_neg e1]
      by_cases e2 : k = i
      · rw [if_pos e2, if_neg (by omega)]
        have h1 := h.2 j h0 hj hp (by omega)
        rw [e2]; exact h1
      · rw [if_neg e2]
        by_cases e3 : par k = i
        · rw [if_pos e3]; exact hm k k0 kn e3
        · rw [if_neg e3]; exact h.1 k k0 kn e3 (by omega)
  · have kpl := par_lt k0
    rw [hp, G k, G i, if_neg (by omega), if_neg (by omega), if_neg (by omega), if_pos rfl]
    have h1 := h.1 k k0 kn (by omega) (by omega)
    rw [kp] at h1
    exact h1
theorem dn_stop {R : List Int} {n i0 i : Nat} (h : DnOk R n i0 i) (hi : i ≠ i0) (hs : ∀ k, 0 < k → k < n → par k = i → Nl (gN R k) (gN R i)) : Heap R n := by
  intro k k0 kn
  by_cases e : par k = i
  · rw [e]; exact hs k k0 kn e
  · exact h.1 k k0 kn e (by omega)
theorem dn_stop0 {R : List Int} {n i : Nat} (h : DnOk R n i i) (hs : ∀ k, 0 < k → k < n → par k = i → Nl (gN R k) (gN R i)) : UpOk R n i := by
  refine ⟨fun k k0 kn ke => ?_, fun k k0 kn kp p0 => h.2 k k0 kn kp p0⟩
  by_cases e : par k = i
  · rw [e]; exact hs k k0 kn e
  · exact h.1 k k0 kn e (by omega)
theorem heap_min {R : List Int} {n : Nat} (h : Heap R n) (k : Nat) (hk : k < n) : Nl (gN R k) (gN R 0) := by
  induction k using Nat.strongRecOn with
  | _ k ih =>
    rcases Nat.eq_zero_or_pos k with rfl | k0
    · exact nl_refl _
    · exact nl_trans (ih (par k) (par_lt k0) (by have := par_lt k0; omega)) (h k k0 hk)

theorem swap_self (R : List Int) (i : Nat) : swapE R i i = R := by
  unfold swapE
  rw [List.set_set]
  unfold gN
  by_cases h : i < R.length
  · rw [List.getD_eq_getElem?_getD, List.getElem?_eq_getElem h]
    exact List.set_getElem_self h
  · exact List.set_eq_of_length_le (by omega)
theorem swap_perm' {R : List Int} {i j : Nat} (hij : i ≤ j) (hj : j < R.length) : (swapE R i j).Perm R := by
  rcases Nat.lt_or_ge i j with h | h
  · exact swap_perm h hj
  · have : i = j := by omega
    rw [this, swap_self]

end Go.Proofs.YtjmpokgdgnjojaaDoor
