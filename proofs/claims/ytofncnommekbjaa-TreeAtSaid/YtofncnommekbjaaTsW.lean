/-
  Contracts of layer 9, trees of strings, as one answer each: Of, Set, Insert, Delete, At; at this seat's numbers.
-/
import Derived.Test.YtofncnommekbjaaTsQ
import Derived.Test.YtofncnommekbjaaTrW
namespace Go.Proofs.Ytofncnommekbjaa
open Go Go.RowKit
set_option linter.unusedVariables false

theorem tof_s {w : World} {a : Option Addr} {c n : Nat} {xs : List Value} (H : Sl w a c xs) (hn : xs.length = n) (hl : n ≤ 90000) (hg : Gd xs) :
    Calls Try.prog 21 #[.slice a n c] w fun e w' => ∃ x, e = .returned (.agg #[.pointer x]) ∧ Tin w' 103 (.pointer x) xs ∧ Below w.heap.size w w' := by
  refine (of_s H hn (by omega) hg).mono ?_
  rintro e w' ⟨pv, rfl, h1, h2⟩
  obtain ⟨x, rfl⟩ := h1.ptr
  exact ⟨x, rfl, h1, h2⟩
theorem tset_s (X : ByteArray) {w : World} {x : Option Addr} {L : List Value} (I : Int) (H : Tin w 103 (.pointer x) L) (hg : Gd L) (hf : L.length ≤ 90000) :
    Calls Try.prog 23 #[.agg #[.pointer x], .int .i64 I, .string X] w fun e w' => ∃ y, e = .returned (.tuple #[.agg #[.pointer y], .bool (decide (0 ≤ I ∧ I < L.length))]) ∧ Tin w' 103 (.pointer y) (setV L I (.string X)) ∧ Below w.heap.size w w' := by
  unfold setV
  by_cases hI : 0 ≤ I ∧ I < L.length
  · rw [if_pos hI, decide_eq_true hI]
    obtain ⟨i, rfl⟩ : ∃ i : Nat, I = (i : Int) := ⟨I.toNat, by omega⟩
    refine (setyes_s X i H hg (by omega) (by omega)).mono ?_
    rintro e w' ⟨pv, rfl, h1, h2⟩
    obtain ⟨y, rfl⟩ := h1.ptr
    exact ⟨y, rfl, by simpa using h1, h2⟩
  · rw [if_neg hI, decide_eq_false hI]
    refine (setno_s X I H hg hI).mono ?_
    rintro e w' ⟨rfl, h2⟩
    exact ⟨x, rfl, H.below h2, h2⟩
theorem tdel_s {w : World} {x : Option Addr} {L : List Value} (I : Int) (H : Tin w 103 (.pointer x) L) (hg : Gd L) (hf : L.length ≤ 90000) :
    Calls Try.prog 24 #[.agg #[.pointer x], .int .i64 I] w fun e w' => ∃ y, e = .returned (.tuple #[.agg #[.pointer y], .bool (decide (0 ≤ I ∧ I < L.length))]) ∧ Tin w' 103 (.pointer y) (delV L I) ∧ Below w.heap.size w w' := by
  unfold delV
  by_cases hI : 0 ≤ I ∧ I < L.length
  · rw [if_pos hI, decide_eq_true hI]
    obtain ⟨i, rfl⟩ : ∃ i : Nat, I = (i : Int) := ⟨I.toNat, by omega⟩
    refine (delyes_s i H hg (by omega) (by omega)).mono ?_
    rintro e w' ⟨pv, rfl, h1, h2⟩
    obtain ⟨y, rfl⟩ := h1.ptr
    exact ⟨y, rfl, by simpa using h1, h2⟩
  · rw [if_neg hI, decide_eq_false hI]
    refine (delno_s I H hI).mono ?_
    rintro e w' ⟨rfl, h2⟩
    exact ⟨x, rfl, H.below h2, h2⟩
theorem tat_s {w : World} {x : Option Addr} {L : List Value} (I : Int) (H : Tin w 103 (.pointer x) L) (hf : L.length ≤ 90000) :
    Calls Try.prog 22 #[.agg #[.pointer x], .int .i64 I] w fun e w' => e = .returned (.tuple #[atV L I (.string ByteArray.empty), .bool (decide (0 ≤ I ∧ I < L.length))]) ∧ Below w.heap.size w w' := by
  unfold atV
  by_cases hI : 0 ≤ I ∧ I < L.length
  · rw [if_pos hI, decide_eq_true hI]
    obtain ⟨i, rfl⟩ : ∃ i : Nat, I = (i : Int) := ⟨I.toNat, by omega⟩
    refine (atyes_s i H (by omega) (by omega)).mono ?_
    rintro e w' ⟨⟨v, hv, rfl⟩, h2⟩
    refine ⟨?_, h2⟩
    simp [List.getD, hv]
  · rw [if_neg hI, decide_eq_false hI]
    exact atno_s I H hI

end Go.Proofs.Ytofncnommekbjaa
