/-
  Plain lists: the automaton that reads a file, against its rows.
-/
import Derived.Test.YtelnehjmkjpjhaaDoorQuA
import Derived.Test.YtelnehjmkjpjhaaDoorQuE
set_option linter.unusedVariables false
namespace Go.Proofs.YtelnehjmkjpjhaaDoor
open Go Go.RowKit

/-- The automaton from a place on. -/
def runF (p : Int) (l : List UInt8) (i : Nat) : Int := (l.drop i).foldl (fun p c => nextP p (c.toNat : Int)) p
theorem runF_step {l : List UInt8} {i : Nat} (h : i < l.length) (p : Int) : runF p l i = runF (nextP p (lb l i)) l (i + 1) := by
  unfold runF
  rw [List.drop_eq_getElem_cons h, List.foldl_cons]
  unfold lb
  rw [List.getD_eq_getElem?_getD, List.getElem?_eq_getElem h]; rfl
theorem runF_end {l : List UInt8} {i : Nat} (h : l.length ≤ i) (p : Int) : runF p l i = p := by
  unfold runF; rw [List.drop_eq_nil_of_le h]; rfl
theorem runF_wrong (l : List UInt8) (i : Nat) : runF 5 l i = 5 := by
  unfold runF
  induction l.drop i with
  | nil => rfl
  | cons c t ih => rw [List.foldl_cons, show nextP 5 (c.toNat : Int) = 5 from rfl]; exact ih
theorem rightP_runF (l : List UInt8) : rightP l = mayP (runF 0 l 0) := rfl

theorem next_bare {x : Int} (h1 : mkB x = false) (h2 : x ≠ 34) : nextP 1 x = 1 ∧ nextP 0 x = 1 := by
  unfold mkB at h1
  simp only [decide_eq_false_iff_not, not_or] at h1
  have h : spB x = false := by unfold spB; simp only [decide_eq_false_iff_not, not_or]; exact ⟨h1.1, h2, h1.2.1, h1.2.2⟩
  unfold nextP
  simp [h, h2]
theorem next_mark {p x : Int} (h : mkB x = true) (hp : p = 0 ∨ p = 1 ∨ p = 3) : nextP p x = endedP x := by
  unfold mkB at h
  simp only [decide_eq_true_eq] at h
  rcases hp with rfl | rfl | rfl <;> rcases h with rfl | rfl | rfl <;> decide

/-- In a field without quotes. -/
theorem bare_run (l : List UInt8) : ∀ n i, l.length - i = n → (hasQ l i (till l i) = false → runF 1 l i = runF 1 l (till l i)) ∧ (hasQ l i (till l i) = true → runF 1 l i = 5)
  | n, i, hn => by
    by_cases h : mkAt l i = true
    · rw [till_stop h]
      exact ⟨fun _ => rfl, fun h2 => by rw [hasQ_nil] at h2; cases h2⟩
    · have h := Bool.eq_false_iff.2 h
      obtain ⟨hi, hm⟩ := mkAt_no h
      have ht := till_ge l (i + 1)
      have hcons : hasQ l i (till l (i + 1)) = (quAt l i || hasQ l (i + 1) (till l (i + 1))) := by
        unfold hasQ
        rw [Bool.eq_iff_iff]
        simp only [Bool.or_eq_true, decide_eq_true_eq]
        constructor
        · rintro ⟨k, a, b, c⟩
          by_cases e : k = i
          · subst e; exact .inl c
          · exact .inr ⟨k, a, by omega, c⟩
        · rintro (c | ⟨k, a, b, c⟩)
          · exact ⟨i, by omega, Nat.le_refl _, c⟩
          · exact ⟨k, a, by omega, c⟩
      rw [till_step h, hcons, runF_step hi]
      by_cases hq : quAt l i = true
      · rw [hq, (quAt_yes hq).2]
        exact ⟨fun h2 => (by simp at h2), fun _ => runF_wrong l (i + 1)⟩
      · have hq := Bool.eq_false_iff.2 hq
        have h34 : lb l i ≠ 34 := by rw [quAt_in hi] at hq; simpa using hq
        rw [hq, Bool.false_or, (next_bare hm h34).1]
        exact bare_run l (l.length - (i + 1)) (i + 1) rfl
termination_by n => n
decreasing_by omega

/-- In a field with quotes. -/
theorem in_run (l : List UInt8) : ∀ n i, l.length - i = n → i ≤ l.length → ((inQ l i).2.2 = true → runF 2 l i = runF 3 l ((inQ l i).2.1 + 1) ∧ quAt l ((inQ l i).2.1 + 1) = false) ∧ ((inQ l i).2.2 = false → runF 2 l i = 2)
  | n, i, hn, hi => by
    by_cases h : i < l.length
    · by_cases h2 : quAt l i = true
      · have e2 := (quAt_yes h2).2
        by_cases h3 : quAt l (i + 1) = true
        · obtain ⟨hl, e3⟩ := quAt_yes h3
          rw [inQ_two h2 h3, runF_step h, e2, show nextP 2 34 = 3 from rfl, runF_step hl, e3, show nextP 3 34 = 2 from rfl]
          exact in_run l (l.length - (i + 2)) (i + 2) rfl (by omega)
        · have h3 := Bool.eq_false_iff.2 h3
          rw [inQ_stop h2 h3, runF_step h, e2]
          exact ⟨fun _ => ⟨rfl, h3⟩, fun hc => (by cases hc)⟩
      · have h2 := Bool.eq_false_iff.2 h2
        have h34 : lb l i ≠ 34 := by rw [quAt_in h] at h2; simpa using h2
        rw [inQ_byte h h2, runF_step h, show nextP 2 (lb l i) = 2 by unfold nextP; simp [h34]]
        exact in_run l (l.length - (i + 1)) (i + 1) rfl (by omega)
    · rw [inQ_end (by omega), runF_end (by omega)]
      exact ⟨fun hc => (by cases hc), fun _ => rfl⟩
termination_by n => n
decreasing_by all_goals omega

def okP (p : Int) : Prop := p = 0 ∨ p = 1 ∨ p = 3
theorem may_ok {p : Int} (h : okP p) : mayP p = true := by unfold mayP; exact decide_eq_true h

/-- A field, from where a field begins. -/
theorem field_run {l : List UInt8} {i : Nat} (hi : i ≤ l.length) :
    ((fieldP l i).kind ≤ 1 ∧ ∃ p, okP p ∧ runF 0 l i = runF p l (fieldP l i).to_) ∨ (¬ (fieldP l i).kind ≤ 1 ∧ mayP (runF 0 l i) = false) := by
  unfold fieldP
  by_cases hq : quAt l i = true
  · obtain ⟨hl, e⟩ := quAt_yes hq
    rw [if_pos hq, runF_step hl, e, show nextP 0 34 = 2 from rfl]
    obtain ⟨hy, hn⟩ := in_run l _ (i + 1) rfl (by omega)
    by_cases hc : (inQ l (i + 1)).2.2 = true
    · rw [if_pos hc]
      obtain ⟨h1, h2⟩ := hy hc
      rw [h1]
      generalize (inQ l (i + 1)).2.1 + 1 = q at *
      by_cases hm : mkAt l q = true
      · rw [till_stop hm]
        simp only
        rw [if_neg (Nat.lt_irrefl _)]
        exact .inl ⟨by decide, 3, .inr (.inr rfl), rfl⟩
      · have hm := Bool.eq_false_iff.2 hm
        obtain ⟨hql, hmk⟩ := mkAt_no hm
        have ht := till_ge l (q + 1)
        rw [till_step hm]
        simp only
        rw [if_pos (by omega)]
        refine .inr ⟨by decide, ?_⟩
        have h34 : lb l q ≠ 34 := by rw [quAt_in hql] at h2; simpa using h2
        unfold mkB at hmk
        simp only [decide_eq_false_iff_not, not_or] at hmk
        rw [runF_step hql, show nextP 3 (lb l q) = 5 by unfold nextP endedP; simp [h34, hmk.1, hmk.2.1], runF_wrong]
        rfl
    · rw [if_neg hc, hn (Bool.eq_false_iff.2 hc)]
      exact .inr ⟨by show ¬ (4 : Int) ≤ 1; decide, rfl⟩
  · rw [if_neg hq]
    have hq := Bool.eq_false_iff.2 hq
    by_cases hm : mkAt l i = true
    · rw [till_stop hm, hasQ_nil]
      exact .inl ⟨by show (0 : Int) ≤ 1; decide, 0, .inl rfl, rfl⟩
    · have hm := Bool.eq_false_iff.2 hm
      obtain ⟨hl, hmk⟩ := mkAt_no hm
      have h34 : lb l i ≠ 34 := by rw [quAt_in hl] at hq; simpa using hq
      have h01 : runF 0 l i = runF 1 l i := by rw [runF_step hl, runF_step hl, (next_bare hmk h34).1, (next_bare hmk h34).2]
      obtain ⟨hb, hb2⟩ := bare_run l _ i rfl
      rw [h01]
      by_cases hh : hasQ l i (till l i) = true
      · rw [if_pos hh, hb2 hh]
        exact .inr ⟨by show ¬ (2 : Int) ≤ 1; decide, rfl⟩
      · rw [if_neg hh, hb (Bool.eq_false_iff.2 hh)]
        exact .inl ⟨by show (0 : Int) ≤ 1; decide, 1, .inr (.inl rfl), rfl⟩

/-- Are all these fields fine? -/
def fineFs (fs : List Fd) : Bool := fs.all fun f => decide (f.kind ≤ 1)
theorem fields_run (l : List UInt8) : ∀ n i, l.length - i = n → i ≤ l.length →
    (fineFs (fieldsP l i).1 = true → ∃ p, okP p ∧ runF 0 l i = runF p l (fieldsP l i).2) ∧ (fineFs (fieldsP l i).1 = false → mayP (runF 0 l i) = false)
  | n, i, hn, hi => by
    obtain ⟨s1, s2, s3, _⟩ := fieldP_spec hi
    by_cases h : (fieldP l i).to_ < l.length ∧ lb l (fieldP l i).to_ = 44
    · rw [fieldsP_more hi h.1 h.2]
      have ih := fields_run l (l.length - ((fieldP l i).to_ + 1)) ((fieldP l i).to_ + 1) rfl (by omega)
      simp only [fineFs, List.all_cons] at ih ⊢
      rcases field_run hi with ⟨hk, p, hp, he⟩ | ⟨hk, he⟩
      · rw [decide_eq_true hk, Bool.true_and, he, runF_step h.1, h.2, next_mark (by decide) hp]
        exact ih
      · rw [decide_eq_false hk, Bool.false_and]
        exact ⟨fun hc => (by cases hc), fun _ => he⟩
    · rw [fieldsP_last h]
      simp only [fineFs, List.all_cons, List.all_nil, Bool.and_true]
      rcases field_run hi with ⟨hk, hr⟩ | ⟨hk, he⟩
      · rw [decide_eq_true hk]
        exact ⟨fun _ => hr, fun hc => (by cases hc)⟩
      · rw [decide_eq_false hk]
        exact ⟨fun hc => (by cases hc), fun _ => he⟩
termination_by n => n
decreasing_by omega

/-- Is a file with these rows right? -/
def docR : List Rw → Bool
  | [] => true
  | r :: rs => (decide (r.fin = 2) || (decide (r.fin = 0) && rs.isEmpty)) && fineFs r.fs && docR rs
theorem all_run (l : List UInt8) : ∀ n i, l.length - i = n → i ≤ l.length → mayP (runF 0 l i) = docR (allP l i)
  | n, i, hn, hi => by
    by_cases hlt : i < l.length
    · obtain ⟨f1, f2, f3, f4, _⟩ := fieldsP_spec l _ i rfl hi
      obtain ⟨hy, hno⟩ := fields_run l _ i rfl hi
      have hnx := rowP_next hlt
      have ih := all_run l (l.length - (rowP l i).next) (rowP l i).next rfl hnx.2
      rw [allP_more hlt]
      unfold docR
      by_cases hf : fineFs (rowP l i).fs = true
      · obtain ⟨p, hp, he⟩ := hy hf
        rw [hf, Bool.and_true, he]
        unfold rowP at ih hnx ⊢
        simp only at ih hnx ⊢
        rcases endP_spec f3 f4 f2 with ⟨e, g⟩ | ⟨e, g1, g2⟩ | ⟨e, g1, g2, g3⟩ | ⟨e, g1, g2, g3⟩
        · rw [e] at ih hnx ⊢
          rw [runF_end (by omega), may_ok hp, allP_end (by simp only [markN]; omega)]
          rfl
        · rw [e]
          rw [runF_step g1, g2, next_mark (by decide) hp, show endedP 10 = 5 from rfl, runF_wrong]
          rfl
        · rw [e] at ih hnx ⊢
          rw [runF_step (by omega), g2, next_mark (by decide) hp, show endedP 13 = 4 from rfl, runF_step g1, g3, show nextP 4 10 = 0 from rfl]
          rw [show (decide ((2 : Int) = 2) || (decide ((2 : Int) = 0) && (allP l ((fieldsP l i).2 + markN 2)).isEmpty)) = true from rfl, Bool.true_and, ← ih]
          rfl
        · rw [e]
          rw [runF_step g1, g2, next_mark (by decide) hp, show endedP 13 = 4 from rfl]
          have hz : mayP (runF 4 l ((fieldsP l i).2 + 1)) = false := by
            by_cases hl2 : (fieldsP l i).2 + 1 < l.length
            · have h10 : lb l ((fieldsP l i).2 + 1) ≠ 10 := fun h => g3 ⟨hl2, h⟩
              rw [runF_step hl2, show nextP 4 (lb l ((fieldsP l i).2 + 1)) = 5 by unfold nextP; simp [h10], runF_wrong]
              rfl
            · rw [runF_end (by omega)]; rfl
          rw [hz]; rfl
      · have hf := Bool.eq_false_iff.2 hf
        rw [hf, hno hf, Bool.and_false, Bool.false_and]
    · rw [runF_end (by omega), allP_end (by omega)]; rfl
termination_by n => n
decreasing_by have := rowP_next hlt; omega

/-- THE AUTOMATON SAYS WHAT THE ROWS SAY. -/
theorem right_rows (l : List UInt8) : rightP l = docR (allP l 0) := by
  rw [rightP_runF]; exact all_run l _ 0 rfl (Nat.zero_le _)

end Go.Proofs.YtelnehjmkjpjhaaDoor
