/-
  Plain lists for layer 4: texts of few places; what their spans are.
-/
import Derived.Test.YtmdifcgnmkpecaaPieP
set_option linter.unusedVariables false
namespace Go.Proofs.Ytmdifcgnmkpecaa

/-- A text of few places. -/
def Sm (t : List Int) : Prop := t.length ≤ 20000 ∧ ∀ x ∈ t, 0 ≤ x ∧ x ≤ 1073741824

theorem revRec {α : Type} {P : List α → Prop} (nil : P []) (snoc : ∀ l x, P l → P (l ++ [x])) (l : List α) : P l := by
  have h : ∀ (l : List α), P l.reverse := by
    intro l
    induction l with
    | nil => exact nil
    | cons x l ih => rw [List.reverse_cons]; exact snoc _ _ ih
  have := h l.reverse
  rwa [List.reverse_reverse] at this

theorem canon_ok : ∀ (t : List Int), (∀ x ∈ t, 0 ≤ x ∧ x ≤ 1073741824) → ∀ q ∈ canon t, 0 ≤ q.1 ∧ q.1 ≤ 1073741824 ∧ 1 ≤ q.2 ∧ q.2 ≤ (t.length : Int) := by
  intro t
  induction t using revRec with
  | nil => intro _ q hq; simp [canon] at hq
  | snoc t x ih =>
    intro h q hq
    have h0 := ih (fun y hy => h y (by simp [hy]))
    have hx := h x (by simp)
    rw [canon_snoc] at hq
    rw [List.length_append, List.length_singleton]
    rcases glue_cases (canon t) (x, 1) with ⟨hc, hg⟩ | ⟨l, p, hc, hg⟩
    · rw [hg] at hq; simp at hq; subst hq; simp only; omega
    · rw [hg] at hq
      have hp := h0 p (by rw [hc]; simp)
      split at hq
      · rcases List.mem_append.1 hq with hq | hq
        · have := h0 q (by rw [hc]; simp [hq]); omega
        · simp at hq; subst hq; simp only; omega
      · rcases List.mem_append.1 hq with hq | hq
        · have := h0 q (by rw [hc]; exact hq); omega
        · simp at hq; subst hq; simp only; omega

theorem ex_take (l : List Sp) (k : Nat) : ∃ r, ex l = ex (l.take k) ++ r :=
  ⟨ex (l.drop k), by rw [← ex_append, List.take_append_drop]⟩
theorem ofS_take_ok (l : List Sp) (h : Sm (ex l)) (k : Nat) : ∀ q ∈ ofS (l.take k), 0 ≤ q.1 ∧ q.1 ≤ 1073741824 ∧ 1 ≤ q.2 ∧ q.2 ≤ 20000 := by
  intro q hq
  rw [ofS_canon] at hq
  obtain ⟨r, hr⟩ := ex_take l k
  have hl := h.1
  have h1 := canon_ok (ex (l.take k)) (fun x hx => h.2 x (by rw [hr]; simp [hx])) q hq
  rw [hr, List.length_append] at hl
  omega
theorem full_take {l : List Sp} (h : Full l) (k : Nat) : Full (l.take k) := fun q hq => h q (List.mem_of_mem_take hq)
theorem lenS_take_ok {l : List Sp} (h : Full l) (hl : (ex l).length ≤ 20000) (k : Nat) : 0 ≤ lenS (l.take k) ∧ lenS (l.take k) ≤ 20000 := by
  obtain ⟨r, hr⟩ := ex_take l k
  rw [hr, List.length_append] at hl
  rw [lenS_full _ (full_take h k)]
  omega
theorem Sm.nil : Sm [] := ⟨by simp, fun x hx => by simp at hx⟩
theorem Sm.append {t u : List Int} (h : Sm t) (k : Sm u) (hl : t.length + u.length ≤ 20000) : Sm (t ++ u) :=
  ⟨by simp; omega, fun x hx => (List.mem_append.1 hx).elim (h.2 x) (k.2 x)⟩
theorem Sm.slice {t : List Int} (h : Sm t) (i j : Int) : Sm (slI t i j) := by
  have hm : ∀ x ∈ slI t i j, x ∈ t := fun x hx => List.mem_of_mem_take (List.mem_of_mem_drop hx)
  refine ⟨?_, fun x hx => h.2 x (hm x hx)⟩
  have h1 : (slI t i j).length ≤ t.length := by unfold slI; simp only [List.length_drop, List.length_take]; omega
  have := h.1
  omega
theorem slI_len_le (t : List Int) (i j : Int) : (slI t i j).length ≤ t.length := by unfold slI; simp only [List.length_drop, List.length_take]; omega
theorem canon_at_bounds {t : List Int} (h : Sm t) : ∀ q ∈ canon t, 0 ≤ q.1 ∧ q.1 ≤ 1073741824 ∧ 1 ≤ q.2 ∧ q.2 ≤ 20000 := by
  intro q hq
  have := canon_ok t h.2 q hq
  have := h.1
  omega
theorem plc_in (n : Nat) (i : Int) : 0 ≤ plc n i ∧ plc n i ≤ n := by unfold plc; omega
theorem delI_app (t : List Int) (i j : Int) : delI t i j = slI t 0 i ++ slI t (max i j) t.length := rfl
theorem parts_take : ∀ (l : List Sp) (f i j : Int) (k : Nat), parts (l.take k) f i j = (parts l f i j).take k
  | [], f, i, j, k => by simp [parts]
  | s :: l, f, i, j, 0 => by simp [parts]
  | s :: l, f, i, j, k + 1 => by simp [parts, parts_take l]
theorem parts_take_succ {l : List Sp} {i j : Int} {k : Nat} (h : k < l.length) : (parts l 0 i j).take (k + 1) = (parts l 0 i j).take k ++ [subS l[k] (i - lenS (l.take k)) (j - lenS (l.take k))] := by
  rw [← parts_take, List.take_succ_eq_append_getElem h, parts_append, parts_take]
  simp [parts]

theorem mem_ex {l : List Sp} {x : Int} (h : x ∈ ex l) : ∃ s ∈ l, s.1 ≤ x ∧ x < s.1 + s.2 := by
  unfold ex at h
  rw [List.mem_flatMap] at h
  obtain ⟨s, hs, hx⟩ := h
  unfold ex1 at hx
  rw [List.mem_map] at hx
  obtain ⟨i, hi, rfl⟩ := hx
  rw [List.mem_range] at hi
  exact ⟨s, hs, by omega, by omega⟩

end Go.Proofs.Ytmdifcgnmkpecaa
