/-
  Plain facts on files: which fields and rows there are, at this seat's numbers.
-/
import Derived.Test.YtmdifcgnmkpecaaScP
namespace Go.Proofs.Ytmdifcgnmkpecaa
open Go
set_option linter.unusedVariables false

theorem fieldsP_mem (l : List UInt8) : ∀ n i, l.length - i = n → i ≤ l.length → ∀ f ∈ (fieldsP l i).1, ∃ p, p ≤ l.length ∧ f = fieldP l p
  | n, i, hn, hi, f, hf => by
    obtain ⟨a, b, c, _⟩ := fieldP_spec hi
    by_cases h : (fieldP l i).to_ < l.length ∧ lb l (fieldP l i).to_ = 44
    · rw [fieldsP_more hi h.1 h.2] at hf
      rcases List.mem_cons.1 hf with rfl | hf
      · exact ⟨i, hi, rfl⟩
      · exact fieldsP_mem l (l.length - ((fieldP l i).to_ + 1)) ((fieldP l i).to_ + 1) rfl (by omega) f hf
    · rw [fieldsP_last h] at hf
      obtain rfl := List.mem_singleton.1 hf
      exact ⟨i, hi, rfl⟩
termination_by n => n
decreasing_by omega
theorem allP_mem (l : List UInt8) : ∀ n i, l.length - i = n → ∀ R ∈ allP l i, ∃ k, k < l.length ∧ R = rowP l k
  | n, i, hn, R, hR => by
    rcases Nat.lt_or_ge i l.length with h | h
    · rw [allP_more h] at hR
      have h2 := rowP_next h
      rcases List.mem_cons.1 hR with rfl | hR
      · exact ⟨i, h, rfl⟩
      · exact allP_mem l (l.length - (rowP l i).next) (rowP l i).next rfl R hR
    · rw [allP_end h] at hR; cases hR
termination_by n => n
decreasing_by omega
/-- The fields of a file's rows. -/
theorem row_fields {l : List UInt8} {R : Rw} (hR : R ∈ allP l 0) : R.fs.length ≤ l.length + 1 ∧ ∀ f ∈ R.fs, (∀ x ∈ f.pl, 0 ≤ x ∧ x < l.length) ∧ f.pl.length ≤ l.length := by
  obtain ⟨k, hk, rfl⟩ := allP_mem l _ 0 rfl R hR
  refine ⟨?_, fun f hf => ?_⟩
  · have := (fieldsP_spec l _ k rfl (by omega)).2.2.2.2
    show (fieldsP l k).1.length ≤ _
    omega
  · obtain ⟨p, hp, rfl⟩ := fieldsP_mem l _ k rfl (by omega) f hf
    obtain ⟨h1, h2, _, _, h5, h6⟩ := fieldP_spec hp
    exact ⟨fun x hx => by have := h5 x hx; omega, by omega⟩

theorem allP_cnt (l : List UInt8) : ∀ n k, l.length - k = n → (allP l k).length ≤ l.length - k
  | n, k, hn => by
    rcases Nat.lt_or_ge k l.length with h | h
    · have h2 := rowP_next h
      have := allP_cnt l (l.length - (rowP l k).next) (rowP l k).next rfl
      rw [allP_more h, List.length_cons]; omega
    · rw [allP_end h]; simp
termination_by n => n
decreasing_by omega

theorem row_fields2 {l : List UInt8} {R : Rw} (hR : R ∈ allP l 0) : ∀ f ∈ R.fs, f.from_ ≤ f.to_ ∧ f.to_ ≤ l.length := by
  obtain ⟨k, hk, rfl⟩ := allP_mem l _ 0 rfl R hR
  intro f hf
  obtain ⟨p, hp, rfl⟩ := fieldsP_mem l _ k rfl (by omega) f hf
  obtain ⟨h1, h2, _⟩ := fieldP_spec hp
  rw [fieldP_from]
  exact ⟨h1, h2⟩

end Go.Proofs.Ytmdifcgnmkpecaa
