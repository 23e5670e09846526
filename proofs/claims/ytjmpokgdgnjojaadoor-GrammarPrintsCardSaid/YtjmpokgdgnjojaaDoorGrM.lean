/-
  One key read anew is what a fresh parser makes of it, at this seat's numbers.
-/
import Derived.Test.YtjmpokgdgnjojaaDoorGrL
namespace Go.Proofs.YtjmpokgdgnjojaaDoor
open Go Go.RowKit
set_option linter.unusedVariables false

/-- One key read anew. -/
def rdF (x : Int) (vis r : Bool) : Cm × Int × Int :=
  if 49 ≤ x ∧ x ≤ 57 then (c0M, 0, 0) else if x = 34 then (c0M, 0, 0) else if 0 < rmotN x then ({ c0M with vb := rmotN x }, 1, 0) else
  if x = 103 then (c0M, 0, 0) else if vis = true then (if inS s_va x = true then ({ c0M with vb := x }, 1, 0) else if inR s_vc x = true then ({ c0M with vb := x }, 1, 0) else (c0M, 2, 10)) else rnF c0M 0 0 x r
def cmEq (a b : Cm) : Bool := decide (a.op = b.op) && decide (a.vb = b.vb) && decide (a.ct = b.ct) && decide (a.rg = b.rg) && decide (a.ch = b.ch)
theorem cmEq_eq {a b : Cm} (h : cmEq a b = true) : a = b := by
  unfold cmEq at h
  simp only [Bool.and_eq_true, decide_eq_true_eq] at h
  obtain ⟨⟨⟨⟨h1, h2⟩, h3⟩, h4⟩, h5⟩ := h
  cases a; cases b; simp_all
/-- The parser's answer and what is read anew agree. -/
def agree (y : Cm × Int × Int) (z : Cm × Int × Int) : Bool := decide (y.2.1 = z.2.1) && (decide (y.2.1 ≠ 1) || cmEq y.1 z.1)
theorem agree_small : ((List.range 262).all fun i => let x := (i : Int) - 6
    decide (x = 27) || ([false, true].all fun r => agree (keyF p0M x 1 r).1 (rdF x true r) && agree (keyF p0M x 0 r).1 (rdF x false r))) = true := by kernel_rfl
theorem inS_out {s : ByteArray} {k : Int} (h : k < 0 ∨ 256 ≤ k) : inS s k = false := by
  cases e : inS s k
  · rfl
  · have := inS_small e; omega
theorem inC_out {s : ByteArray} {k : Int} (h : k < 0 ∨ 256 ≤ k) : inC s k = false := by
  unfold inC
  rw [List.any_eq_false]
  intro b _ hb
  have hb := of_decide_eq_true hb
  unfold ctrlN at hb
  split at hb <;> omega
theorem keyF_way {x way : Int} (h : way ≠ 1) (r : Bool) : keyF p0M x way r = keyF p0M x 0 r := by
  unfold keyF
  split
  · rfl
  · have e : stepF p0M.st p0M.c x way r = stepF p0M.st p0M.c x 0 r := by
      show begF c0M x way r = begF c0M x 0 r
      unfold begF
      rw [if_neg h, if_neg (show ¬ (0 : Int) = 1 by decide)]
    rw [e]
theorem agree_big {x : Int} (h : x < -6 ∨ 256 ≤ x) (way : Int) (vis r : Bool) : agree (keyF p0M x way r).1 (rdF x vis r) = true := by
  have hm : mvN x = x := by unfold mvN; split <;> first | omega | (split <;> first | omega | (split <;> first | omega | (split <;> first | omega | (split <;> first | omega | (split <;> first | omega | rfl)))))
  have hs : ∀ s, inS s x = false := fun s => inS_out (by omega)
  have hc : ∀ s, inC s x = false := fun s => inC_out (by omega)
  have hr : ∀ s, inR s x = false := fun s => by unfold inR; rw [decide_eq_false (by omega)]; rfl
  have e1 : rdF x vis r = (c0M, 2, 10) := by
    unfold rdF rmotN rnF
    have h3 : x ≠ 103 := by omega
    have h4 : x ≠ 64 := by omega
    have h5 : x ≠ 113 := by omega
    rw [if_neg (by omega), if_neg (by omega)]
    cases vis <;> simp [hm, hs, hr, h3, h4, h5]
  have e0 : motF c0M x = (none, 10, c0M) := by
    unfold motF
    rw [hm, if_neg (by omega), hs, if_neg (by decide)]
  have e2 : begF c0M x way r = (none, 10, c0M) := by
    unfold begF visF normF
    rw [if_neg (by omega), if_neg (by omega)]
    have h5 : x ≠ 113 := by omega
    simp [hs, hc, e0, h5]
  have e3 : (keyF p0M x way r).1 = (c0M, 2, 10) := by
    unfold keyF
    rw [if_neg (by omega)]
    have e4 : stepF p0M.st p0M.c x way r = (none, 10, c0M) := e2
    rw [e4]; rfl
  rw [e1, e3]; rfl
theorem ways_agree {x : Int} (h27 : x ≠ 27) (way : Int) (r : Bool) : (keyF p0M x way r).1.2.1 = (rdF x (way == 1) r).2.1 ∧ ((keyF p0M x way r).1.2.1 = 1 → (keyF p0M x way r).1.1 = (rdF x (way == 1) r).1) := by
  have key : agree (keyF p0M x way r).1 (rdF x (way == 1) r) = true := by
    by_cases hb : x < -6 ∨ 256 ≤ x
    · exact agree_big hb _ _ _
    · have h0 := List.all_eq_true.1 agree_small (x + 6).toNat (List.mem_range.2 (by omega))
      have hx : (((x + 6).toNat : Nat) : Int) - 6 = x := by omega
      simp only [hx, decide_eq_false h27, Bool.false_or] at h0
      have h1 := List.all_eq_true.1 h0 r (by cases r <;> simp)
      rw [Bool.and_eq_true] at h1
      by_cases hw : way = 1
      · subst hw; exact h1.1
      · rw [keyF_way hw, show (way == 1) = false from beq_eq_false_iff_ne.2 hw]; exact h1.2
  unfold agree at key
  rw [Bool.and_eq_true, Bool.or_eq_true, decide_eq_true_eq, decide_eq_true_eq] at key
  refine ⟨key.1, fun h => ?_⟩
  rcases key.2 with k | k
  · exact absurd h k
  · exact cmEq_eq k
end Go.Proofs.YtjmpokgdgnjojaaDoor
