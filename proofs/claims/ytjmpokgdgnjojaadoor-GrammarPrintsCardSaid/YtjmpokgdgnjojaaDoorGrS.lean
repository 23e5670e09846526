/-
  What keys come to, read from any state on: the parser's run and the document's reading agree; plain lists, at this seat's numbers.
-/
import Derived.Test.YtjmpokgdgnjojaaDoorGrR
namespace Go.Proofs.YtjmpokgdgnjojaaDoor
open Go Go.RowKit
set_option linter.unusedVariables false

/-- What the parser's run over keys comes to: the command, 0 for more, 1 for done, 2 for wrong, the error. -/
def runS (way : Int) (r : Bool) : Option Stp → Cm → List Int → Cm × Int × Int
  | _, c, [] => (c, 0, 0)
  | s, c, x :: t => if (stepF s c x way r).2.1 = 0 then (match (stepF s c x way r).1 with
    | some s' => runS way r (some s') (stepF s c x way r).2.2 t
    | none => ((stepF s c x way r).2.2, 1, 0)) else ((stepF s c x way r).2.2, 2, (stepF s c x way r).2.1)
/-- The same answer: the command counts where one is whole. -/
def Ag (y z : Cm × Int × Int) : Prop := y.2 = z.2 ∧ (y.2.1 = 1 → y.1 = z.1)
theorem Ag.refl (y : Cm × Int × Int) : Ag y y := ⟨rfl, fun _ => rfl⟩
theorem Ag.trans {x y z : Cm × Int × Int} (h : Ag x y) (k : Ag y z) : Ag x z := ⟨h.1.trans k.1, fun e => (h.2 e).trans (k.2 (by rw [← h.1]; exact e))⟩
theorem Ag.out {c d : Cm} {m e m' e' : Int} (h1 : m = m') (h2 : e = e') (h3 : m ≠ 1) : Ag (c, m, e) (d, m', e') := ⟨by rw [h1, h2], fun h => absurd h h3⟩
theorem Ag.of2 {c : Cm} {m e : Int} {z : Cm × Int × Int} (h : z.2 = (m, e)) (h3 : m ≠ 1) : Ag (c, m, e) z := ⟨h.symm, fun h => absurd h h3⟩
variable {way : Int} {r : Bool}
theorem runS_nil (s : Option Stp) (c : Cm) : runS way r s c [] = (c, 0, 0) := by rw [runS]
theorem runS_cons (s : Option Stp) (c : Cm) (x : Int) (t : List Int) : runS way r s c (x :: t) = if (stepF s c x way r).2.1 = 0 then (match (stepF s c x way r).1 with
    | some s' => runS way r (some s') (stepF s c x way r).2.2 t
    | none => ((stepF s c x way r).2.2, 1, 0)) else ((stepF s c x way r).2.2, 2, (stepF s c x way r).2.1) := by rw [runS]
theorem runS_more {s : Option Stp} {c c2 : Cm} {x : Int} {t : List Int} {s' : Stp} (h : stepF s c x way r = (some s', 0, c2)) : runS way r s c (x :: t) = runS way r (some s') c2 t := by
  rw [runS_cons, h]; simp
theorem runS_done {s : Option Stp} {c c2 : Cm} {x : Int} {t : List Int} (h : stepF s c x way r = (none, 0, c2)) : runS way r s c (x :: t) = (c2, 1, 0) := by
  rw [runS_cons, h]; simp
theorem runS_no {s : Option Stp} {c c2 : Cm} {x e : Int} {t : List Int} (h : stepF s c x way r = (none, e, c2)) (he : e ≠ 0) : runS way r s c (x :: t) = (c2, 2, e) := by
  rw [runS_cons, h]; simp [he]
theorem runS_congr {s s' : Option Stp} {c c' : Cm} {x : Int} {t : List Int} (h : stepF s c x way r = stepF s' c' x way r) : runS way r s c (x :: t) = runS way r s' c' (x :: t) := by
  rw [runS_cons, runS_cons, h]

/-- Who stands behind a count. -/
def thS (o : Bool) : Stp := if o then .behindOp else .begin
theorem mul_A {ct m : Int} : (if 0 < ct then m * ct else m) = (if 0 < ct then ct else 1) * m := by split <;> simp [Int.mul_comm]
/-- From within a count. -/
theorem cnt_run (o : Bool) (c : Cm) (ct : Int) (h0 : 0 ≤ ct) (A : Int) (hA : A = if 0 < ct then ct else 1) : ∀ (l : List Int) (n : Int), 0 < n → A * n ≤ 9999 →
    ((cntGo ct n l).1 = false → (runS way r (some (.count A n o)) { c with ct := A * n } l).2 = (2, 5)) ∧
    ((cntGo ct n l).1 = true → (cntGo ct n l).2.2 = [] → (runS way r (some (.count A n o)) { c with ct := A * n } l).2 = (0, 0)) ∧
    ((cntGo ct n l).1 = true → 0 < (cntGo ct n l).2.1 ∧ A * (cntGo ct n l).2.1 ≤ 9999 ∧ ∀ x t, (cntGo ct n l).2.2 = x :: t → ¬ (48 ≤ x ∧ x ≤ 57) ∧
      runS way r (some (.count A n o)) { c with ct := A * n } l = runS way r (some (thS o)) { c with ct := A * (cntGo ct n l).2.1 } (x :: t)) := by
  intro l
  induction l with
  | nil =>
    intro n hn hle
    rw [cntGo, runS_nil]
    exact ⟨fun h => by simp at h, fun _ _ => rfl, fun _ => ⟨hn, hle, fun x t h => by simp at h⟩⟩
  | cons x t ih =>
    intro n hn hle
    rw [cntGo_cons]
    by_cases hd : 48 ≤ x ∧ x ≤ 57
    · rw [if_pos ⟨hd.1, hd.2, .inl hn⟩, mul_A, ← hA]
      have em : n * 10 + x - 48 = 10 * n + x - 48 := by omega
      have hst : stepF (some (.count A n o)) { c with ct := A * n } x way r = digF { c with ct := A * n } A n o x := by
        show cntF _ _ _ _ _ _ _ = _
        unfold cntF; rw [if_pos hd]
      unfold digF at hst
      rw [em]
      by_cases hov : 9999 < A * (10 * n + x - 48)
      · rw [if_pos hov] at hst
        rw [if_pos hov]
        refine ⟨fun _ => ?_, fun h => by simp at h, fun h => by simp at h⟩
        rw [runS_no hst (by decide)]
      · rw [if_neg hov] at hst
        rw [if_neg hov, runS_more hst]
        have := ih (10 * n + x - 48) (by omega) (by omega)
        exact this
    · rw [if_neg (fun h => hd ⟨h.1, h.2.1⟩)]
      refine ⟨fun h => by simp at h, fun _ h => by simp at h, fun _ => ⟨hn, hle, fun y u h => ?_⟩⟩
      simp only [List.cons.injEq] at h
      obtain ⟨rfl, rfl⟩ := h
      refine ⟨hd, runS_congr ?_⟩
      show cntF _ _ _ _ _ _ _ = _
      unfold cntF
      rw [if_neg hd]
      cases o
      · rfl
      · show opF _ _ = bopF _ _
        unfold bopF
        rw [if_neg (by omega)]
/-- From a state ahead of a count. -/
theorem cntR_run (o : Bool) (c : Cm) (hc : 0 ≤ c.ct ∧ c.ct ≤ 9999) (l : List Int) :
    ((cntR c.ct l).1 = false → (runS way r (some (thS o)) c l).2 = (2, 5)) ∧
    ((cntR c.ct l).1 = true → (cntR c.ct l).2.2 = [] → (runS way r (some (thS o)) c l).2 = (0, 0)) ∧
    ((cntR c.ct l).1 = true → ∀ x t, (cntR c.ct l).2.2 = x :: t → ¬ (49 ≤ x ∧ x ≤ 57) ∧ (0 ≤ (cntR c.ct l).2.1 ∧ (cntR c.ct l).2.1 ≤ 9999) ∧
      runS way r (some (thS o)) c l = runS way r (some (thS o)) { c with ct := (cntR c.ct l).2.1 } (x :: t)) := by
  cases l with
  | nil =>
    have e : cntR c.ct [] = (true, c.ct, []) := by unfold cntR; rw [cntGo]; simp
    rw [e, runS_nil]
    exact ⟨fun h => by simp at h, fun _ _ => rfl, fun _ x t h => by simp at h⟩
  | cons x t =>
    by_cases hd : 49 ≤ x ∧ x ≤ 57
    · obtain ⟨A, hA⟩ : ∃ A, A = if 0 < c.ct then c.ct else 1 := ⟨_, rfl⟩
      have hA1 : 1 ≤ A := by rw [hA]; split <;> omega
      have eA : (if 1 ≤ c.ct then c.ct else 1) = A := by rw [hA]; rfl
      have hst : stepF (some (thS o)) c x way r = digF c A 0 o x := by
        cases o
        · show begF _ _ _ _ = _
          unfold begF
          rw [if_neg (by omega), if_pos hd, eA]
        · show bopF _ _ = _
          unfold bopF
          rw [if_pos hd, eA]
      have e48 : (10 : Int) * 0 + x - 48 = x - 48 := by omega
      unfold digF at hst
      rw [e48] at hst
      have e2 : cntGo c.ct 0 (x :: t) = if 9999 < A * (x - 48) then (false, 0, t) else cntGo c.ct (x - 48) t := by
        rw [cntGo_cons, if_pos ⟨by omega, hd.2, .inr (by omega)⟩, mul_A, ← hA, show (0 : Int) * 10 + x - 48 = x - 48 by omega]
      unfold cntR
      rw [e2]
      by_cases hov : 9999 < A * (x - 48)
      · rw [if_pos hov] at hst ⊢
        refine ⟨fun _ => ?_, fun h => by simp at h, fun h => by simp at h⟩
        rw [runS_no hst (by decide)]
      · rw [if_neg hov] at hst ⊢
        rw [runS_more hst]
        obtain ⟨h1, h2, h3⟩ := cnt_run (way := way) (r := r) o c c.ct hc.1 A hA t (x - 48) (by omega) (by omega)
        rcases hy : cntGo c.ct (x - 48) t with ⟨b, n', rest⟩
        rw [hy] at h1 h2 h3
        cases b
        · exact ⟨fun _ => h1 rfl, fun h => by simp at h, fun h => by simp at h⟩
        · refine ⟨fun h => by simp at h, fun _ h => h2 rfl (by simpa using h), fun _ x' t' h => ?_⟩
          simp only [if_true] at h ⊢
          obtain ⟨k1, k2, k3⟩ := h3 rfl
          obtain ⟨k4, k5⟩ := k3 x' t' h
          simp only at h k1 k2 k5
          have e3 : (if 0 < n' ∧ rest ≠ [] then if 0 < c.ct then n' * c.ct else n' else c.ct) = A * n' := by
            rw [if_pos ⟨k1, by rw [h]; simp⟩, mul_A, ← hA]
          rw [e3]
          exact ⟨fun h => k4 ⟨by omega, h.2⟩, ⟨Int.mul_nonneg (by omega) (by omega), k2⟩, k5⟩
    · have e : cntR c.ct (x :: t) = (true, c.ct, x :: t) := by
        unfold cntR
        rw [cntGo_cons, if_neg (fun h : 48 ≤ x ∧ x ≤ 57 ∧ ((0 : Int) < 0 ∨ 48 < x) => hd (by omega))]
        simp
      rw [e]
      refine ⟨fun h => by simp at h, fun _ h => by simp at h, fun _ y u h => ?_⟩
      simp only [List.cons.injEq] at h
      obtain ⟨rfl, rfl⟩ := h
      exact ⟨hd, hc, rfl⟩

/-- Behind the first of two keys. -/
def secR (c : Cm) (f : Int) (s : ByteArray) (l : List Int) : Cm × Int × Int := match l with
  | [] => (c, 0, 0)
  | x :: _ => if inS s x = true then ({ c with vb := f * 256 + x }, 1, 0) else (c, 2, 10)
def s_g : ByteArray := ⟨#[103]⟩
def s_gs : ByteArray := ⟨#[103, 45, 43, 105, 97, 100, 104, 108, 106, 107]⟩
/-- Behind an operator. -/
def opdR (c : Cm) (op : Int) (l : List Int) : Cm × Int × Int :=
  if (cntR c.ct l).1 = true then (match (cntR c.ct l).2.2 with
    | [] => ({ c with op := op, ct := (cntR c.ct l).2.1 }, 0, 0)
    | x :: t => if x = op then ({ c with op := op, ct := (cntR c.ct l).2.1, vb := x }, 1, 0) else if 0 < rmotN x then ({ c with op := op, ct := (cntR c.ct l).2.1, vb := rmotN x }, 1, 0) else
      if x = 105 then secR { c with op := op, ct := (cntR c.ct l).2.1 } 105 s_wi t else if x = 103 then secR { c with op := op, ct := (cntR c.ct l).2.1 } 103 s_g t else ({ c with op := op, ct := (cntR c.ct l).2.1 }, 2, 10)) else ({ c with op := op, ct := (cntR c.ct l).2.1 }, 2, 5)
def letR (c : Cm) (k : Int) (l : List Int) : Cm × Int × Int := match l with
  | [] => (c, 0, 0)
  | y :: _ => if 97 ≤ y ∧ y ≤ 122 then ({ c with ch := y, vb := k }, 1, 0) else (c, 2, 10)
/-- Any other key in the normal way. -/
def norR (c : Cm) (x : Int) (r : Bool) (l : List Int) : Cm × Int × Int :=
  if inS s_ops x = true then opdR c x l else if x = 64 then letR c x l else if x = 113 then (if r = true then ({ c with vb := x }, 1, 0) else letR c x l) else
  if inS s_na x = true then ({ c with vb := x }, 1, 0) else if inR s_nc x = true then ({ c with vb := x }, 1, 0) else (c, 2, 10)
/-- Behind counts and registers. -/
def taiR (c : Cm) (x : Int) (vis r : Bool) (l : List Int) : Cm × Int × Int :=
  if 0 < rmotN x then ({ c with vb := rmotN x }, 1, 0) else if x = 103 then secR c 103 (if vis = true then s_g else s_gs) l else
  if vis = true then (if inS s_va x = true then ({ c with vb := x }, 1, 0) else if inR s_vc x = true then ({ c with vb := x }, 1, 0) else (c, 2, 10)) else norR c x r l

theorem mvN_cases (x : Int) : (mvN x = x) ∨ (-6 ≤ x ∧ x ≤ -1) := by unfold mvN; split <;> first | omega | (split <;> first | omega | (split <;> first | omega | (split <;> first | omega | (split <;> first | omega | (split <;> first | omega | exact .inl rfl)))))
theorem rmot_pos {x : Int} (h : 0 < rmotN x) : rmotN x = mvN x ∧ inS s_mot (mvN x) = true := by
  unfold rmotN at h ⊢
  split
  · rename_i h'; exact ⟨rfl, h'⟩
  · rename_i h'; rw [if_neg h'] at h; omega
theorem rmot_not {x : Int} (h : ¬ 0 < rmotN x) : inS s_mot (mvN x) = false := by
  cases e : inS s_mot (mvN x)
  · rfl
  · exfalso; apply h
    unfold rmotN; rw [if_pos e]
    have h1 := inS_small e
    have h0 : inS s_mot 0 = false := by decide
    have : mvN x ≠ 0 := fun h => by rw [h, h0] at e; cases e
    omega
theorem mv103 {x : Int} : mvN x = 103 ↔ x = 103 := by
  constructor
  · intro h; unfold mvN at h; split at h <;> first | omega | (split at h <;> first | omega | (split at h <;> first | omega | (split at h <;> first | omega | (split at h <;> first | omega | (split at h <;> omega)))))
  · rintro rfl; rfl
theorem sec_i (c : Cm) (l : List Int) : secR c 105 s_wi l = runS way r (some .behindI) c l ∨ Ag (secR c 105 s_wi l) (runS way r (some .behindI) c l) := by
  right
  cases l with
  | nil => rw [runS_nil]; exact Ag.refl _
  | cons x t =>
    unfold secR
    simp only
    by_cases h : inS s_wi x = true
    · rw [if_pos h, runS_done (c2 := { c with vb := 256 * 105 + x }) (by show iF _ _ = _; unfold iF; rw [if_pos h])]
      rw [show (105 : Int) * 256 = 256 * 105 by decide]; exact Ag.refl _
    · rw [if_neg h, runS_no (c2 := c) (e := 10) (by show iF _ _ = _; unfold iF; rw [if_neg h]) (by decide)]
      exact Ag.refl _
theorem s_g_in (x : Int) : (inS s_g x = true) ↔ x = 103 := by
  unfold inS s_g; simp; omega
theorem s_gs_in (x : Int) : (inS s_gs x = true) ↔ (x = 103 ∨ inS s_wg x = true) := by
  unfold inS s_gs s_wg; simp; omega
theorem sec_g {c : Cm} {s : ByteArray} (h : ∀ x, inS s x = true ↔ (x = 103 ∨ ((way ≠ 1 ∧ c.op = 0) ∧ inS s_wg x = true))) (l : List Int) : Ag (secR c 103 s l) (runS way r (some .behindG) c l) := by
  cases l with
  | nil => rw [runS_nil]; exact Ag.refl _
  | cons x t =>
    unfold secR
    simp only
    by_cases hx : inS s x = true
    · rw [if_pos hx, runS_done (c2 := { c with vb := 256 * 103 + x }) (by show gF _ _ _ = _; unfold gF; rw [if_pos ((h x).1 hx)])]
      rw [show (103 : Int) * 256 = 256 * 103 by decide]; exact Ag.refl _
    · rw [if_neg hx, runS_no (c2 := c) (e := 10) (by show gF _ _ _ = _; unfold gF; rw [if_neg (fun k => hx ((h x).2 k))]) (by decide)]
      exact Ag.refl _
theorem let_r (c : Cm) (k : Int) (l : List Int) : Ag (letR c k l) (runS way r (some .letter) { c with vb := k } l) := by
  cases l with
  | nil => rw [runS_nil]; exact Ag.out rfl rfl (by decide)
  | cons y t =>
    unfold letR
    simp only
    by_cases h : 97 ≤ y ∧ y ≤ 122
    · rw [if_pos h, runS_done (c2 := { c with vb := k, ch := y }) (by show letF _ _ = _; unfold letF; rw [if_pos h])]; exact Ag.refl _
    · rw [if_neg h, runS_no (c2 := { c with vb := k }) (e := 10) (by show letF _ _ = _; unfold letF; rw [if_neg h]) (by decide)]; exact Ag.out rfl rfl (by decide)
theorem opd_r {c : Cm} (hc : 0 ≤ c.ct ∧ c.ct ≤ 9999) {op : Int} (h5 : op ≠ 105) (h3 : op ≠ 103) (h0 : op ≠ 0) (l : List Int) : Ag (opdR c op l) (runS way r (some .behindOp) { c with op := op } l) := by
  obtain ⟨h1, h2, h4⟩ := cntR_run (way := way) (r := r) true { c with op := op } hc l
  unfold opdR
  change (cntR c.ct l).1 = false → (runS way r (some .behindOp) { c with op := op } l).2 = (2, 5) at h1
  change (cntR c.ct l).1 = true → (cntR c.ct l).2.2 = [] → (runS way r (some .behindOp) { c with op := op } l).2 = (0, 0) at h2
  change (cntR c.ct l).1 = true → ∀ x t, (cntR c.ct l).2.2 = x :: t → ¬ (49 ≤ x ∧ x ≤ 57) ∧ (0 ≤ (cntR c.ct l).2.1 ∧ (cntR c.ct l).2.1 ≤ 9999) ∧ runS way r (some .behindOp) { c with op := op } l = runS way r (some .behindOp) { c with op := op, ct := (cntR c.ct l).2.1 } (x :: t) at h4
  generalize cntR c.ct l = Y at h1 h2 h4 ⊢
  obtain ⟨b, ct2, rest⟩ := Y
  simp only at h1 h2 h4 ⊢
  cases b
  · rw [if_neg (by simp)]; exact Ag.of2 (h1 rfl) (by decide)
  · rw [if_pos rfl]
    cases rest with
    | nil => exact Ag.of2 (h2 rfl rfl) (by decide)
    | cons x t =>
      obtain ⟨hx, _, he⟩ := h4 rfl x t rfl
      rw [he]
      simp only
      obtain ⟨C, hC⟩ : ∃ C : Cm, C = { c with op := op, ct := ct2 } := ⟨_, rfl⟩
      have hCo : C.op = op := by rw [hC]
      rw [show ({ c with op := op, ct := ct2, vb := x } : Cm) = { C with vb := x } by rw [hC], show ({ c with op := op, ct := ct2, vb := rmotN x } : Cm) = { C with vb := rmotN x } by rw [hC], ← hC]
      clear hC he h1 h2 h4
      have hst : stepF (some .behindOp) C x way r = opF C x := by
        show bopF _ _ = _
        unfold bopF; rw [if_neg hx]
      unfold opF at hst
      by_cases hxo : x = op
      · rw [if_pos hxo]
        rw [if_pos (hxo.trans hCo.symm)] at hst
        rw [runS_done hst]; exact Ag.refl _
      · rw [if_neg hxo]
        rw [if_neg (fun h => hxo (h.trans hCo))] at hst
        by_cases hm : 0 < rmotN x
        · rw [if_pos hm]
          obtain ⟨e, hi⟩ := rmot_pos hm
          have h105 : x ≠ 105 := fun h => by rw [h] at hm; revert hm; decide
          have h103 : mvN x ≠ 103 := fun h => by rw [mv103.1 h] at hm; revert hm; decide
          rw [if_neg h105] at hst
          unfold motF at hst
          rw [if_neg h103, if_pos hi] at hst
          rw [runS_done hst, e]; exact Ag.refl _
        · rw [if_neg hm]
          by_cases h105 : x = 105
          · rw [if_pos h105]
            rw [if_pos h105] at hst
            rw [runS_more hst]
            rcases sec_i (way := way) (r := r) C t with h | h
            · rw [h]; exact Ag.refl _
            · exact h
          · rw [if_neg h105]
            rw [if_neg h105] at hst
            unfold motF at hst
            by_cases h103 : x = 103
            · rw [if_pos h103]
              rw [if_pos (mv103.2 h103)] at hst
              rw [runS_more hst]
              exact sec_g (fun x => by rw [s_g_in, hCo]; simp [h0]) t
            · rw [if_neg h103]
              rw [if_neg (fun h => h103 (mv103.1 h)), rmot_not hm] at hst
              rw [runS_no (c2 := C) (e := 10) (by rw [hst]; simp) (by decide)]; exact Ag.refl _

/-- What kind of key one is, for the parser, and for the document: 0 done with a verb, 1 the first of two, 2 with a letter, 3 an operator, 4 wrong. -/
def motK (x : Int) : Int × Int := if mvN x = 103 then (1, 0) else if inS s_mot (mvN x) = true then (0, mvN x) else (4, 0)
def begK (x : Int) (vis r : Bool) : Int × Int :=
  if vis = true then (if inS s_va x = true ∨ inC s_vc x = true then (0, x) else motK x) else
  if inS s_na x = true ∨ inC s_nc x = true then (0, x) else if x = 113 ∧ r = true then (0, x) else if inS s_let x = true then (2, 0) else if inS s_ops x = true then (3, 0) else motK x
def docK (x : Int) (vis r : Bool) : Int × Int :=
  if 0 < rmotN x then (0, rmotN x) else if x = 103 then (1, 0) else if vis = true then (if inS s_va x = true then (0, x) else if inR s_vc x = true then (0, x) else (4, 0)) else
  if inS s_ops x = true then (3, 0) else if x = 64 then (2, 0) else if x = 113 then (if r = true then (0, x) else (2, 0)) else if inS s_na x = true then (0, x) else if inR s_nc x = true then (0, x) else (4, 0)
theorem kinds_small : ((List.range 262).all fun i => let x := (i : Int) - 6
    ([false, true].all fun r => [false, true].all fun v => decide (begK x v r = docK x v r))) = true := by kernel_rfl
theorem kinds (x : Int) (v r : Bool) : begK x v r = docK x v r := by
  by_cases hb : x < -6 ∨ 256 ≤ x
  · have hm : mvN x = x := by rcases mvN_cases x with h | h <;> omega
    have hs : ∀ s, inS s x = false := fun s => inS_out (by omega)
    have hc : ∀ s, inC s x = false := fun s => inC_out (by omega)
    have hr : ∀ s, inR s x = false := fun s => by unfold inR; rw [decide_eq_false (by omega)]; rfl
    have h3 : x ≠ 103 := by omega
    have h4 : x ≠ 64 := by omega
    have h5 : x ≠ 113 := by omega
    unfold begK docK motK rmotN
    simp [hm, hs, hc, hr, h3, h4, h5]
  · have h0 := List.all_eq_true.1 kinds_small (x + 6).toNat (List.mem_range.2 (by omega))
    have hx : (((x + 6).toNat : Nat) : Int) - 6 = x := by omega
    simp only [hx] at h0
    have h1 := List.all_eq_true.1 (List.all_eq_true.1 h0 r (by cases r <;> simp)) v (by cases v <;> simp)
    exact of_decide_eq_true h1
/-- A step by its kind. -/
def kdF (c : Cm) (x : Int) (kd : Int × Int) : Option Stp × Int × Cm :=
  if kd.1 = 0 then (none, 0, { c with vb := kd.2 }) else if kd.1 = 1 then (some .behindG, 0, c) else if kd.1 = 2 then (some .letter, 0, { c with vb := x }) else if kd.1 = 3 then (some .behindOp, 0, { c with op := x }) else (none, 10, c)
theorem mot_kd (c : Cm) (x : Int) : motF c x = kdF c x (motK x) := by
  unfold motF motK
  split
  · rfl
  · split <;> rfl
theorem beg_kd (c : Cm) {x : Int} (h34 : x ≠ 34) (hd : ¬ (49 ≤ x ∧ x ≤ 57)) : begF c x way r = kdF c x (begK x (way == 1) r) := by
  unfold begF
  rw [if_neg h34, if_neg hd]
  unfold begK
  by_cases hw : way = 1
  · rw [if_pos hw, show (way == 1) = true by rw [hw]; rfl, if_pos rfl]
    unfold visF
    split
    · rfl
    · exact mot_kd c x
  · rw [if_neg hw, show (way == 1) = false from beq_eq_false_iff_ne.2 hw, if_neg (by simp)]
    unfold normF
    split
    · rfl
    · split
      · rfl
      · split
        · rfl
        · split
          · rfl
          · exact mot_kd c x
theorem ops_ne {x : Int} (h : inS s_ops x = true) : x ≠ 105 ∧ x ≠ 103 ∧ x ≠ 0 := by
  refine ⟨?_, ?_, ?_⟩ <;> rintro rfl <;> revert h <;> decide
/-- Behind counts and registers the document reads what the parser makes. -/
theorem tai_r {c : Cm} (hc : 0 ≤ c.ct ∧ c.ct ≤ 9999) (hop : c.op = 0) {x : Int} (h34 : x ≠ 34) (hd : ¬ (49 ≤ x ∧ x ≤ 57)) (t : List Int) :
    Ag (taiR c x (way == 1) r t) (runS way r (some .begin) c (x :: t)) := by
  have hst : stepF (some .begin) c x way r = kdF c x (docK x (way == 1) r) := by rw [← kinds]; exact beg_kd c h34 hd
  unfold docK at hst
  unfold taiR
  by_cases hm : 0 < rmotN x
  · rw [if_pos hm] at hst ⊢
    rw [runS_done hst]; exact Ag.refl _
  · rw [if_neg hm] at hst ⊢
    by_cases h3 : x = 103
    · rw [if_pos h3] at hst ⊢
      rw [runS_more hst]
      refine sec_g (fun y => ?_) t
      by_cases hw : way = 1
      · rw [show (way == 1) = true by rw [hw]; rfl, if_pos rfl, s_g_in]; simp [hw]
      · rw [show (way == 1) = false from beq_eq_false_iff_ne.2 hw, if_neg (by simp), s_gs_in]; simp [hw, hop]
    · rw [if_neg h3] at hst ⊢
      cases hv : (way == 1)
      · rw [hv] at hst
        rw [if_neg (by simp)] at hst ⊢
        unfold norR
        by_cases ho : inS s_ops x = true
        · rw [if_pos ho] at hst ⊢
          rw [runS_more hst]
          obtain ⟨o1, o2, o3⟩ := ops_ne ho
          exact opd_r hc o1 o2 o3 t
        · rw [if_neg ho] at hst ⊢
          by_cases h64 : x = 64
          · rw [if_pos h64] at hst ⊢
            rw [runS_more hst]
            exact let_r c x t
          · rw [if_neg h64] at hst ⊢
            by_cases h113 : x = 113
            · rw [if_pos h113] at hst ⊢
              cases r
              · rw [if_neg (by simp)] at hst ⊢
                rw [runS_more hst]
                exact let_r c x t
              · rw [if_pos rfl] at hst ⊢
                rw [runS_done hst]; exact Ag.refl _
            · rw [if_neg h113] at hst ⊢
              by_cases hn : inS s_na x = true
              · rw [if_pos hn] at hst ⊢
                rw [runS_done hst]; exact Ag.refl _
              · rw [if_neg hn] at hst ⊢
                by_cases hcn : inR s_nc x = true
                · rw [if_pos hcn] at hst ⊢
                  rw [runS_done hst]; exact Ag.refl _
                · rw [if_neg hcn] at hst ⊢
                  rw [runS_no hst (by decide)]; exact Ag.refl _
      · rw [hv] at hst
        rw [if_pos rfl] at hst ⊢
        by_cases hn : inS s_va x = true
        · rw [if_pos hn] at hst ⊢
          rw [runS_done hst]; exact Ag.refl _
        · rw [if_neg hn] at hst ⊢
          by_cases hcn : inR s_vc x = true
          · rw [if_pos hcn] at hst ⊢
            rw [runS_done hst]; exact Ag.refl _
          · rw [if_neg hcn] at hst ⊢
            rw [runS_no hst (by decide)]; exact Ag.refl _
end Go.Proofs.YtjmpokgdgnjojaaDoor
