/-
  Plain facts for ScanAll: which fields and rows there are, and their texts, at this seat's numbers.
-/
import Derived.Test.YtelnehjmkjpjhaaDoorScV
import Derived.Test.YtelnehjmkjpjhaaDoorScL
namespace Go.Proofs.YtelnehjmkjpjhaaDoor
open Go Go.RowKit
set_option linter.unusedVariables false

theorem fieldsP_mem (l : List UInt8) : ∀ n i, l.length - i = n → i ≤ l.length → ∀ f ∈ (fieldsP l i).1, ∃ p, p ≤ l.length ∧ f = fieldP l p
  | n, i, hn, hi, f, hf => by
    obtain ⟨a, b, c, _⟩ := fieldP_spec hi
    by_cases h : (fieldP l i).to_ < l.length ∧ lb l (fieldP l i).to_ = 44
    · rw [fieldsP_more hi h.1 h.2] at hf
      rcases List.mem_cons.1 hf with rfl | hf
      · exact ⟨i, hi, rfl⟩
      · exact fieldsP_mem l (l.length - ((fieldP l i).to_ + 1)) ((fieldP l i).to_ + 1) rfl (by omega) f hf
    · rw [fieldsP_last h] at hf
      obtain rfl := List.mem_singleton.1 hf
      exact ⟨i, hi, rfl⟩
termination_by n => n
decreasing_by omega
theorem allP_mem (l : List UInt8) : ∀ n i, l.length - i = n → ∀ R ∈ allP l i, ∃ k, k < l.length ∧ R = rowP l k
  | n, i, hn, R, hR => by
    rcases Nat.lt_or_ge i l.length with h | h
    · rw [allP_more h] at hR
      have h2 := rowP_next h
      rcases List.mem_cons.1 hR with rfl | hR
      · exact ⟨i, h, rfl⟩
      · exact allP_mem l (l.length - (rowP l i).next) (rowP l i).next rfl R hR
    · rw [allP_end h] at hR; cases hR
termination_by n => n
decreasing_by omega
/-- The fields of a file's rows. -/
theorem row_fields {l : List UInt8} {R : Rw} (hR : R ∈ allP l 0) : R.fs.length ≤ l.length + 1 ∧ ∀ f ∈ R.fs, (∀ x ∈ f.pl, 0 ≤ x ∧ x < l.length) ∧ f.pl.length ≤ l.length := by
  obtain ⟨k, hk, rfl⟩ := allP_mem l _ 0 rfl R hR
  refine ⟨?_, fun f hf => ?_⟩
  · have := (fieldsP_spec l _ k rfl (by omega)).2.2.2.2
    show (fieldsP l k).1.length ≤ _
    omega
  · obtain ⟨p, hp, rfl⟩ := fieldsP_mem l _ k rfl (by omega) f hf
    obtain ⟨h1, h2, _, _, h5, h6⟩ := fieldP_spec hp
    exact ⟨fun x hx => by have := h5 x hx; omega, by omega⟩

theorem subL_ex1 {l : List UInt8} {a n : Nat} (h : a + n ≤ l.length) : subL l a n = atL l (ex1 ((a : Int), (n : Int))) := by
  unfold subL
  rw [if_pos (by unfold rightB; simp only [decide_eq_true_eq]; omega)]
  simp only [Int.toNat_natCast]
  unfold atL
  rw [ex1_nat, List.map_map]
  apply List.ext_getElem?
  intro k
  rw [List.getElem?_take, List.getElem?_map]
  by_cases hk : k < n
  · rw [if_pos hk, List.getElem?_drop, List.getElem?_range hk]
    have e : ((a : Int) + (k : Int)).toNat = a + k := by omega
    simp only [Option.map_some, Function.comp, e]
    rw [List.getElem?_eq_getElem (by omega), List.getD_eq_getElem?_getD, List.getElem?_eq_getElem (by omega)]
    rfl
  · rw [if_neg hk, List.getElem?_eq_none (by simp; omega)]; rfl
theorem valL_ex (l : List UInt8) : ∀ ps : List (Int × Int), (∀ s ∈ ps, 0 ≤ s.1 ∧ 0 ≤ s.2 ∧ s.1 + s.2 ≤ l.length) → valL l ps = atL l (ex ps)
  | [], _ => rfl
  | s :: ps, h => by
    have hs := h s (by simp)
    have ih := valL_ex l ps (fun z hz => h z (by simp [hz]))
    have e1 : valL l (s :: ps) = subL l s.1 s.2 ++ valL l ps := by unfold valL; simp
    have e2 : ex (s :: ps) = ex1 s ++ ex ps := by unfold ex; simp
    obtain ⟨a, n⟩ := s
    simp only at hs
    obtain ⟨a, rfl⟩ := Int.eq_ofNat_of_zero_le hs.1
    obtain ⟨n, rfl⟩ := Int.eq_ofNat_of_zero_le hs.2.1
    rw [e1, e2, ih, subL_ex1 (by omega)]
    unfold atL
    simp
theorem valL_canon {l : List UInt8} {t : List Int} (ht : ∀ x ∈ t, 0 ≤ x ∧ x < l.length) : valL l (canon t) = atL l t := by
  rw [valL_ex l (canon t) (fun s hs => ?_), ex_canon]
  have hf := canon_full t s hs
  have hin : ∀ x ∈ ex1 s, x ∈ t := fun x hx => by rw [← ex_canon t]; unfold ex; exact List.mem_flatMap.2 ⟨s, hs, hx⟩
  have h1 := ht _ (hin s.1 (by unfold ex1; exact List.mem_map.2 ⟨0, List.mem_range.2 (by omega), by simp⟩))
  have h2 := ht _ (hin (s.1 + (s.2 - 1)) (by unfold ex1; exact List.mem_map.2 ⟨(s.2 - 1).toNat, List.mem_range.2 (by omega), by omega⟩))
  omega

end Go.Proofs.YtelnehjmkjpjhaaDoor
