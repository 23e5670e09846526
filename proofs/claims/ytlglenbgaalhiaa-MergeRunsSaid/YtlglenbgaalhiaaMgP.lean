/-
  Plain lists for layer 15: rows in order, heaps of rows, what merging leaves.
-/
import Derived.Test.YtlglenbgaalhiaaTrA
namespace Go.Proofs.Ytlglenbgaalhiaa
open Go Go.RowKit
set_option linter.unusedVariables false

/-- Things stand in a row by a comparison. -/
structure Cm (c : Int → Int → Int) : Prop where
  anti : ∀ a b, c a b < 0 ↔ 0 < c b a
  trans : ∀ a b d, c a b ≤ 0 → c b d ≤ 0 → c a d ≤ 0
theorem Cm.refl {c : Int → Int → Int} (H : Cm c) (a : Int) : c a a ≤ 0 := by
  have := H.anti a a; omega
theorem Cm.ge {c : Int → Int → Int} (H : Cm c) {a b : Int} (h : c a b ≤ 0) : ¬ c b a < 0 := by
  have := H.anti b a; omega
theorem Cm.le {c : Int → Int → Int} (H : Cm c) {a b : Int} (h : ¬ c b a < 0) : c a b ≤ 0 := by
  have := H.anti b a; omega
theorem Cm.lt_le {c : Int → Int → Int} (H : Cm c) {a b d : Int} (h : c a b < 0) (k : c b d ≤ 0) : c a d < 0 := by
  by_cases h0 : c a d < 0
  · exact h0
  · have h1 := H.le h0
    have h2 := H.trans _ _ _ k h1
    have := H.ge h2
    omega
theorem Cm.le_lt {c : Int → Int → Int} (H : Cm c) {a b d : Int} (h : c a b ≤ 0) (k : c b d < 0) : c a d < 0 := by
  by_cases h0 : c a d < 0
  · exact h0
  · have h1 := H.le h0
    have h2 := H.trans _ _ _ h1 h
    have := H.ge h2
    omega

/-- One thing more, behind all that stand ahead, or alike. -/
def putL (c : Int → Int → Int) (x : Int) : List Int → List Int
  | [] => [x]
  | y :: l => if c x y < 0 then x :: y :: l else y :: putL c x l
def sortF (c : Int → Int → Int) (l s : List Int) : List Int := l.foldl (fun s x => putL c x s) s
def sortL (c : Int → Int → Int) (l : List Int) : List Int := sortF c l []
theorem sortF_app (c : Int → Int → Int) (a b s : List Int) : sortF c (a ++ b) s = sortF c b (sortF c a s) := by unfold sortF; rw [List.foldl_append]
theorem put_perm (c : Int → Int → Int) (x : Int) (l : List Int) : (putL c x l).Perm (x :: l) := by
  induction l with
  | nil => exact List.Perm.refl _
  | cons y l ih =>
    unfold putL
    split
    · exact List.Perm.refl _
    · exact (ih.cons y).trans (List.Perm.swap _ _ _)
theorem sortF_perm (c : Int → Int → Int) (l s : List Int) : (sortF c l s).Perm (l ++ s) := by
  induction l generalizing s with
  | nil => exact List.Perm.refl _
  | cons x l ih => exact (ih _).trans ((List.Perm.append_left l (put_perm c x s)).trans List.perm_middle)
theorem sort_perm (c : Int → Int → Int) (l : List Int) : (sortL c l).Perm l := by
  have := sortF_perm c l []
  rwa [List.append_nil] at this
theorem sort_len (c : Int → Int → Int) (l : List Int) : (sortL c l).length = l.length := (sort_perm c l).length_eq
theorem put_head {c : Int → Int → Int} {x : Int} {s : List Int} (h : ∀ y ∈ s, c x y < 0) : putL c x s = x :: s := by
  cases s with
  | nil => rfl
  | cons y s => unfold putL; rw [if_pos (h y (by simp))]
theorem sortF_keep {c : Int → Int → Int} {x : Int} (b s : List Int) (h : ∀ y ∈ b, ¬ c y x < 0) : sortF c b (x :: s) = x :: sortF c b s := by
  induction b generalizing s with
  | nil => rfl
  | cons y b ih =>
    show sortF c b (putL c y (x :: s)) = x :: sortF c b (putL c y s)
    rw [show putL c y (x :: s) = x :: putL c y s by rw [putL, if_neg (h y (by simp))]]
    exact ih _ (fun z hz => h z (by simp [hz]))
theorem sort_head {c : Int → Int → Int} {x : Int} {a b : List Int} (ha : ∀ y ∈ a, c x y < 0) (hb : ∀ y ∈ b, ¬ c y x < 0) : sortL c (a ++ x :: b) = x :: sortL c (a ++ b) := by
  unfold sortL
  rw [sortF_app, sortF_app]
  show sortF c b (putL c x (sortF c a [])) = _
  rw [put_head (fun y hy => ha y (by have := (sort_perm c a).mem_iff.1 hy; exact this)), sortF_keep _ _ hb]

/-- In order. -/
def Srt (c : Int → Int → Int) (l : List Int) : Prop := l.Pairwise fun a b => c a b ≤ 0
theorem put_srt {c : Int → Int → Int} (H : Cm c) {x : Int} {l : List Int} (h : Srt c l) : Srt c (putL c x l) := by
  induction l with
  | nil => exact List.pairwise_singleton _ _
  | cons y l ih =>
    have h1 := List.pairwise_cons.1 h
    unfold putL
    split
    · rename_i hxy
      refine List.pairwise_cons.2 ⟨fun z hz => ?_, h⟩
      rcases List.mem_cons.1 hz with rfl | hz
      · omega
      · have := H.lt_le hxy (h1.1 z hz); omega
    · rename_i hxy
      refine List.pairwise_cons.2 ⟨fun z hz => ?_, ih h1.2⟩
      rcases List.mem_cons.1 ((put_perm c x l).mem_iff.1 hz) with rfl | hz
      · exact H.le hxy
      · exact h1.1 z hz
theorem sortF_srt {c : Int → Int → Int} (H : Cm c) (l : List Int) {s : List Int} (h : Srt c s) : Srt c (sortF c l s) := by
  induction l generalizing s with
  | nil => exact h
  | cons x l ih => exact ih (put_srt H h)
theorem sort_srt {c : Int → Int → Int} (H : Cm c) (l : List Int) : Srt c (sortL c l) := sortF_srt H l List.Pairwise.nil
/-- What is in order stays as it is. -/
theorem sort_id {c : Int → Int → Int} (H : Cm c) {l : List Int} (h : Srt c l) : sortL c l = l := by
  induction l with
  | nil => rfl
  | cons x l ih =>
    have h1 := List.pairwise_cons.1 h
    have := sort_head (c := c) (x := x) (a := []) (b := l) (by simp) (fun y hy => H.ge (h1.1 y hy))
    simp only [List.nil_append] at this
    rw [this, ih h1.2]
/-- Things that stand for others. -/
theorem put_map {c d : Int → Int → Int} {f : Int → Int} (h : ∀ a b, d a b = c (f a) (f b)) (x : Int) (l : List Int) : (putL d x l).map f = putL c (f x) (l.map f) := by
  induction l with
  | nil => rfl
  | cons y l ih =>
    simp only [putL, List.map_cons, h]
    split
    · rfl
    · rw [List.map_cons, ih]
theorem sortF_map {c d : Int → Int → Int} {f : Int → Int} (h : ∀ a b, d a b = c (f a) (f b)) (l s : List Int) : (sortF d l s).map f = sortF c (l.map f) (s.map f) := by
  induction l generalizing s with
  | nil => rfl
  | cons x l ih =>
    show (sortF d l (putL d x s)).map f = sortF c (l.map f) (putL c (f x) (s.map f))
    rw [ih, put_map h]
theorem sort_map {c d : Int → Int → Int} {f : Int → Int} (h : ∀ a b, d a b = c (f a) (f b)) (l : List Int) : (sortL d l).map f = sortL c (l.map f) := sortF_map h l []
/-- Those that stand alike stay as they came. -/
def Stb (c : Int → Int → Int) (l : List Int) : Prop := l.Pairwise fun a b => c a b < 0 ∨ (c a b ≤ 0 ∧ a < b)
theorem put_stb {c : Int → Int → Int} (H : Cm c) {x : Int} {l : List Int} (h : Stb c l) (hx : ∀ y ∈ l, y < x) : Stb c (putL c x l) := by
  induction l with
  | nil => exact List.pairwise_singleton _ _
  | cons y l ih =>
    have h1 := List.pairwise_cons.1 h
    unfold putL
    split
    · rename_i hxy
      refine List.pairwise_cons.2 ⟨fun z hz => ?_, h⟩
      rcases List.mem_cons.1 hz with rfl | hz
      · exact .inl hxy
      · refine .inl (H.lt_le hxy ?_)
        rcases h1.1 z hz with h | h <;> omega
    · rename_i hxy
      refine List.pairwise_cons.2 ⟨fun z hz => ?_, ih h1.2 (fun z hz => hx z (by simp [hz]))⟩
      rcases List.mem_cons.1 ((put_perm c x l).mem_iff.1 hz) with rfl | hz
      · exact .inr ⟨H.le hxy, hx y (by simp)⟩
      · exact h1.1 z hz
theorem sortF_stb {c : Int → Int → Int} (H : Cm c) {l s : List Int} (hl : l.Pairwise (· < ·)) (h : Stb c s) (hs : ∀ y ∈ s, ∀ x ∈ l, y < x) : Stb c (sortF c l s) := by
  induction l generalizing s with
  | nil => exact h
  | cons x l ih =>
    have h1 := List.pairwise_cons.1 hl
    refine ih h1.2 (put_stb H h (fun y hy => hs y hy x (by simp))) (fun y hy z hz => ?_)
    rcases List.mem_cons.1 ((put_perm c x s).mem_iff.1 hy) with rfl | hy
    · exact h1.1 z hz
    · exact hs y hy z (by simp [hz])
theorem sort_stb {c : Int → Int → Int} (H : Cm c) {l : List Int} (hl : l.Pairwise (· < ·)) : Stb c (sortL c l) := sortF_stb H hl List.Pairwise.nil (by simp)

/-- A row that waits: where it lies, its room, its things, its number. -/
structure Ent where
  a : Option Addr
  c : Nat
  l : List Int
  num : Nat
def Ent.hd (e : Ent) : Int := e.l.headD 0
def noE : Ent := ⟨none, 0, [], 0⟩
def gE (R : List Ent) (k : Nat) : Ent := R.getD k noE
def lsB (c : Int → Int → Int) (e f : Ent) : Bool := decide (c e.hd f.hd < 0 ∨ (c e.hd f.hd = 0 ∧ e.num < f.num))
def Nl (c : Int → Int → Int) (e f : Ent) : Prop := lsB c e f = false
theorem nl_iff {c : Int → Int → Int} {e f : Ent} : Nl c e f ↔ ¬ c e.hd f.hd < 0 ∧ ¬ (c e.hd f.hd = 0 ∧ e.num < f.num) := by
  unfold Nl lsB; rw [decide_eq_false_iff_not]; constructor
  · intro h; exact ⟨fun k => h (.inl k), fun k => h (.inr k)⟩
  · rintro ⟨h, k⟩ (x | x); exact h x; exact k x
theorem ls_iff {c : Int → Int → Int} {e f : Ent} : lsB c e f = true ↔ (c e.hd f.hd < 0 ∨ (c e.hd f.hd = 0 ∧ e.num < f.num)) := by
  unfold lsB; rw [decide_eq_true_eq]
theorem ls_asym {c : Int → Int → Int} (H : Cm c) {e f : Ent} (h : lsB c e f = true) : Nl c f e := by
  rw [ls_iff] at h; rw [nl_iff]
  have := H.anti e.hd f.hd; have := H.anti f.hd e.hd
  omega
theorem nl_trans {c : Int → Int → Int} (H : Cm c) {e f g : Ent} (h : Nl c f e) (k : Nl c g f) : Nl c g e := by
  rw [nl_iff] at *
  have h1 := H.anti e.hd f.hd; have h2 := H.anti f.hd e.hd
  have h3 := H.anti g.hd f.hd; have h4 := H.anti f.hd g.hd
  have h5 := H.anti e.hd g.hd; have h6 := H.anti g.hd e.hd
  have h7 := H.trans e.hd f.hd g.hd; have h8 := H.trans g.hd e.hd f.hd; have h9 := H.trans f.hd g.hd e.hd
  omega

def swapE (R : List Ent) (i j : Nat) : List Ent := (R.set i (gE R j)).set j (gE R i)
theorem swap_len (R : List Ent) (i j : Nat) : (swapE R i j).length = R.length := by unfold swapE; simp
theorem gE_set {R : List Ent} {i k : Nat} {e : Ent} (hi : i < R.length) : gE (R.set i e) k = if k = i then e else gE R k := by
  unfold gE
  rw [List.getD_eq_getElem?_getD, List.getElem?_set]
  by_cases h : i = k
  · subst h; simp [hi]
  · rw [if_neg h, if_neg (fun e => h e.symm), List.getD_eq_getElem?_getD]
theorem gE_swap {R : List Ent} {i j k : Nat} (hi : i < R.length) (hj : j < R.length) : gE (swapE R i j) k = if k = j then gE R i else if k = i then gE R j else gE R k := by
  unfold swapE
  rw [gE_set (by simpa using hj), gE_set hi]
theorem set_app_mid {α : Type} (a : List α) (x y : α) (b : List α) : (a ++ x :: b).set a.length y = a ++ y :: b := by
  rw [List.set_append_right _ _ (Nat.le_refl _), Nat.sub_self]; rfl
theorem split_at {R : List Ent} {i : Nat} (hi : i < R.length) : R = R.take i ++ gE R i :: R.drop (i + 1) := by
  have h := List.take_append_drop i R
  rw [List.drop_eq_getElem_cons hi] at h
  have e : gE R i = R[i] := by unfold gE; rw [List.getD_eq_getElem?_getD, List.getElem?_eq_getElem hi]; rfl
  rw [e]; exact h.symm
theorem swap_perm {R : List Ent} {i j : Nat} (hij : i < j) (hj : j < R.length) : (swapE R i j).Perm R := by
  obtain ⟨a, b, d, x, y, ha, hb, e⟩ : ∃ (a b d : List Ent) (x y : Ent), a.length = i ∧ (a ++ x :: b).length = j ∧ R = a ++ x :: (b ++ y :: d) := by
    have h1 := split_at (R := R) (i := i) (by omega)
    have h2 := split_at (R := R.drop (i + 1)) (i := j - i - 1) (by rw [List.length_drop]; omega)
    refine ⟨R.take i, (R.drop (i + 1)).take (j - i - 1), (R.drop (i + 1)).drop (j - i - 1 + 1), gE R i, gE (R.drop (i + 1)) (j - i - 1), by rw [List.length_take]; omega, ?_, ?_⟩
    · rw [List.length_append, List.length_cons, List.length_take, List.length_take, List.length_drop]; omega
    · rw [← h2]; exact h1
  have hx : gE R i = x := by subst ha; subst e; simp [gE]
  have hy : gE R j = y := by
    subst hb; subst e
    rw [show a ++ x :: (b ++ y :: d) = (a ++ x :: b) ++ y :: d by simp]
    simp only [gE, List.getD_eq_getElem?_getD]
    rw [List.getElem?_append_right (Nat.le_refl _), Nat.sub_self]; rfl
  unfold swapE
  rw [hx, hy]
  subst ha
  rw [show R.set a.length y = a ++ y :: (b ++ y :: d) by rw [e]; exact set_app_mid _ _ _ _]
  have hb' : j = (a ++ y :: b).length := by rw [← hb]; simp
  rw [show a ++ y :: (b ++ y :: d) = (a ++ y :: b) ++ y :: d by simp, hb', set_app_mid, e]
  rw [show (a ++ y :: b) ++ x :: d = a ++ y :: (b ++ x :: d) by simp]
  refine List.Perm.append_left a ?_
  refine ((List.perm_middle (l₁ := b)).cons y).trans ((List.Perm.swap x y _).trans ?_)
  exact (List.perm_middle (l₁ := b)).symm.cons x

def par (k : Nat) : Nat := (k - 1) / 2
def Heap (c : Int → Int → Int) (R : List Ent) (n : Nat) : Prop := ∀ k, 0 < k → k < n → Nl c (gE R k) (gE R (par k))
def UpOk (c : Int → Int → Int) (R : List Ent) (n j : Nat) : Prop := (∀ k, 0 < k → k < n → k ≠ j → Nl c (gE R k) (gE R (par k))) ∧ (∀ k, 0 < k → k < n → par k = j → 0 < j → Nl c (gE R k) (gE R (par j)))
def DnOk (c : Int → Int → Int) (R : List Ent) (n i : Nat) : Prop := (∀ k, 0 < k → k < n → par k ≠ i → Nl c (gE R k) (gE R (par k))) ∧ (∀ k, 0 < k → k < n → par k = i → 0 < i → Nl c (gE R k) (gE R (par i)))
theorem par_lt {k : Nat} (h : 0 < k) : par k < k := by unfold par; omega
theorem nl_refl {c : Int → Int → Int} (H : Cm c) (e : Ent) : Nl c e e := by rw [nl_iff]; have := H.anti e.hd e.hd; omega
theorem up_step {c : Int → Int → Int} (H : Cm c) {R : List Ent} {n j : Nat} (h : UpOk c R n j) (h0 : 0 < j) (hj : j < n) (hn : n ≤ R.length) (hl : lsB c (gE R j) (gE R (par j)) = true) : UpOk c (swapE R (par j) j) n (par j) := by
  have hp := par_lt h0
  have G : ∀ k, gE (swapE R (par j) j) k = if k = j then gE R (par j) else if k = par j then gE R j else gE R k := fun k => gE_swap (by omega) (by omega)
  refine ⟨fun k k0 kn kp => ?_, fun k k0 kn kp p0 => ?_⟩
  · rw [G k, G (par k), if_neg kp]
    have kpl := par_lt k0
    by_cases e1 : k = j
    · subst e1
      rw [if_pos rfl, if_neg (by omega), if_pos rfl]
      exact ls_asym H hl
    · rw [if_neg e1]
      by_cases e2 : par k = j
      · rw [if_pos e2]; exact h.2 k k0 kn e2 h0
      · rw [if_neg e2]
        by_cases e3 : par k = par j
        · rw [if_pos e3]
          have h1 := h.1 k k0 kn e1
          rw [e3] at h1
          exact nl_trans H (ls_asym H hl) h1
        · rw [if_neg e3]; exact h.1 k k0 kn e1
  · have ppl := par_lt p0
    have hpp : gE (swapE R (par j) j) (par (par j)) = gE R (par (par j)) := by rw [G, if_neg (by omega), if_neg (by omega)]
    rw [hpp, G k]
    have h2 : Nl c (gE R (par j)) (gE R (par (par j))) := h.1 (par j) p0 (by omega) (by omega)
    by_cases e1 : k = j
    · rw [if_pos e1]; exact h2
    · have kpl := par_lt k0
      rw [if_neg e1, if_neg (by omega)]
      have h1 := h.1 k k0 kn e1
      rw [kp] at h1
      exact nl_trans H h2 h1
theorem up_stop {c : Int → Int → Int} {R : List Ent} {n j : Nat} (h : UpOk c R n j) (hs : j = 0 ∨ lsB c (gE R j) (gE R (par j)) = false) : Heap c R n := by
  intro k k0 kn
  by_cases e : k = j
  · subst e
    rcases hs with hs | hs
    · omega
    · exact hs
  · exact h.1 k k0 kn e
theorem dn_step {c : Int → Int → Int} (H : Cm c) {R : List Ent} {n i j : Nat} (h : DnOk c R n i) (h0 : 0 < j) (hj : j < n) (hn : n ≤ R.length) (hp : par j = i) (hl : lsB c (gE R j) (gE R i) = true)
    (hm : ∀ k, 0 < k → k < n → par k = i → Nl c (gE R k) (gE R j)) : DnOk c (swapE R i j) n j := by
  have hpl := par_lt h0
  have G : ∀ k, gE (swapE R i j) k = if k = j then gE R i else if k = i then gE R j else gE R k := fun k => gE_swap (by omega) (by omega)
  refine ⟨fun k k0 kn kp => ?_, fun k k0 kn kp p0 => ?_⟩
  · have kpl := par_lt k0
    rw [G k, G (par k), if_neg kp]
    by_cases e1 : k = j
    · subst e1
      rw [if_pos rfl, if_pos hp]
      exact ls_asym H hl
    · rw [if_neg e1]
      by_cases e2 : k = i
      · rw [if_pos e2, if_neg (by omega)]
        have h1 := h.2 j h0 hj hp (by omega)
        rw [e2]; exact h1
      · rw [if_neg e2]
        by_cases e3 : par k = i
        · rw [if_pos e3]; exact hm k k0 kn e3
        · rw [if_neg e3]; exact h.1 k k0 kn e3
  · have kpl := par_lt k0
    rw [hp, G k, G i, if_neg (by omega), if_neg (by omega), if_neg (by omega), if_pos rfl]
    have h1 := h.1 k k0 kn (by omega)
    rw [kp] at h1
    exact h1
theorem dn_stop {c : Int → Int → Int} {R : List Ent} {n i : Nat} (h : DnOk c R n i) (hs : ∀ k, 0 < k → k < n → par k = i → Nl c (gE R k) (gE R i)) : Heap c R n := by
  intro k k0 kn
  by_cases e : par k = i
  · rw [e]; exact hs k k0 kn e
  · exact h.1 k k0 kn e
theorem heap_min {c : Int → Int → Int} (H : Cm c) {R : List Ent} {n : Nat} (h : Heap c R n) (k : Nat) (hk : k < n) : Nl c (gE R k) (gE R 0) := by
  induction k using Nat.strongRecOn with
  | _ k ih =>
    rcases Nat.eq_zero_or_pos k with rfl | k0
    · exact nl_refl H _
    · exact nl_trans H (ih (par k) (par_lt k0) (by have := par_lt k0; omega)) (h k k0 hk)

end Go.Proofs.Ytlglenbgaalhiaa
