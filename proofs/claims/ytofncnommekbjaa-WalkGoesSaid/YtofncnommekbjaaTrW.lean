/-
  Contracts of layer 9, trees of ints, as one answer each: Of, Set, Insert, Delete, At; at this seat's numbers.
-/
import Derived.Test.YtofncnommekbjaaTrT
namespace Go.Proofs.Ytofncnommekbjaa
open Go Go.RowKit
set_option linter.unusedVariables false

/-- What stands behind a call, if it could be done. -/
def setV (L : List Value) (I : Int) (v : Value) : List Value := if 0 ≤ I ∧ I < L.length then replL L I.toNat (I.toNat + 1) [v] else L
def insV (L : List Value) (I : Int) (v : Value) : List Value := if 0 ≤ I ∧ I ≤ L.length then replL L I.toNat I.toNat [v] else L
def delV (L : List Value) (I : Int) : List Value := if 0 ≤ I ∧ I < L.length then replL L I.toNat (I.toNat + 1) [] else L
def atV (L : List Value) (I : Int) (z : Value) : Value := if 0 ≤ I ∧ I < L.length then L.getD I.toNat z else z
theorem setV_len (L : List Value) (I : Int) (v : Value) : (setV L I v).length = L.length := by
  unfold setV; split
  · rw [replL_len _ _ (by omega) (by omega)]; simp; omega
  · rfl
theorem insV_len (L : List Value) (I : Int) (v : Value) : (insV L I v).length = if 0 ≤ I ∧ I ≤ L.length then L.length + 1 else L.length := by
  unfold insV; split
  · rw [replL_len _ _ (by omega) (by omega)]; simp; omega
  · rfl
theorem delV_len (L : List Value) (I : Int) : (delV L I).length = if 0 ≤ I ∧ I < L.length then L.length - 1 else L.length := by
  unfold delV; split
  · rw [replL_len _ _ (by omega) (by omega)]; simp; omega
  · rfl
theorem gd_setV {L : List Value} {I : Int} {v : Value} (h : Gd L) (hv : v ≠ Value.pointer none) : Gd (setV L I v) := by
  unfold setV; split
  · exact gd_repl h (fun u hu => by simp at hu; subst hu; exact hv)
  · exact h
theorem gd_insV {L : List Value} {I : Int} {v : Value} (h : Gd L) (hv : v ≠ Value.pointer none) : Gd (insV L I v) := by
  unfold insV; split
  · exact gd_repl h (fun u hu => by simp at hu; subst hu; exact hv)
  · exact h
theorem gd_delV {L : List Value} {I : Int} (h : Gd L) : Gd (delV L I) := by
  unfold delV; split
  · exact gd_repl h (fun u hu => by simp at hu)
  · exact h
/-- A new box with a tree in it. -/
theorem box_tree {w : World} {TT : TypeId} {x : Option Addr} : Below w.heap.size w ((w.alloc (Obj.cells #[Value.pointer none] TT)).setCell ⟨w.heap.size, 0, none⟩ (.pointer x)) ∧ ((w.alloc (Obj.cells #[Value.pointer none] TT)).setCell ⟨w.heap.size, 0, none⟩ (.pointer x)).heap.size = w.heap.size + 1 ∧ ((w.alloc (Obj.cells #[Value.pointer none] TT)).setCell ⟨w.heap.size, 0, none⟩ (.pointer x)).heap[w.heap.size]? = some (.cells #[.pointer x] TT (0, 0)) := by
  refine ⟨(t_al w _).setCell (p := ⟨w.heap.size, 0, none⟩) (Nat.le_refl _) _, by rw [size_set]; simp, ?_⟩
  rw [heap_set_at (heap_alloc_new w _)]; rfl
theorem tof_i {w : World} {a : Option Addr} {c n : Nat} {xs : List Value} (H : Sl w a c xs) (hn : xs.length = n) (hl : n ≤ 90000) (hg : Gd xs) :
    Calls Try.prog 12 #[.slice a n c] w fun e w' => ∃ x, e = .returned (.agg #[.pointer x]) ∧ Tin w' 95 (.pointer x) xs ∧ Below w.heap.size w w' := by
  refine (of_i H hn (by omega) hg).mono ?_
  rintro e w' ⟨pv, rfl, h1, h2⟩
  obtain ⟨x, rfl⟩ := h1.ptr
  exact ⟨x, rfl, h1, h2⟩
theorem tset_i (X : Int) {w : World} {x : Option Addr} {L : List Value} (I : Int) (H : Tin w 95 (.pointer x) L) (hg : Gd L) (hf : L.length ≤ 90000) :
    Calls Try.prog 54 #[.agg #[.pointer x], .int .i64 I, .int .i64 X] w fun e w' => ∃ y, e = .returned (.tuple #[.agg #[.pointer y], .bool (decide (0 ≤ I ∧ I < L.length))]) ∧ Tin w' 95 (.pointer y) (setV L I (.int .i64 X)) ∧ Below w.heap.size w w' := by
  unfold setV
  by_cases hI : 0 ≤ I ∧ I < L.length
  · rw [if_pos hI, decide_eq_true hI]
    obtain ⟨i, rfl⟩ : ∃ i : Nat, I = (i : Int) := ⟨I.toNat, by omega⟩
    refine (setyes_i X i H hg (by omega) (by omega)).mono ?_
    rintro e w' ⟨pv, rfl, h1, h2⟩
    obtain ⟨y, rfl⟩ := h1.ptr
    exact ⟨y, rfl, by simpa using h1, h2⟩
  · rw [if_neg hI, decide_eq_false hI]
    refine (setno_i X I H hg hI).mono ?_
    rintro e w' ⟨rfl, h2⟩
    exact ⟨x, rfl, H.below h2, h2⟩
theorem tins_i (X : Int) {w : World} {x : Option Addr} {L : List Value} (I : Int) (H : Tin w 95 (.pointer x) L) (hg : Gd L) (hf : L.length ≤ 90000) :
    Calls Try.prog 50 #[.agg #[.pointer x], .int .i64 I, .int .i64 X] w fun e w' => ∃ y, e = .returned (.tuple #[.agg #[.pointer y], .bool (decide (0 ≤ I ∧ I ≤ L.length))]) ∧ Tin w' 95 (.pointer y) (insV L I (.int .i64 X)) ∧ Below w.heap.size w w' := by
  unfold insV
  by_cases hI : 0 ≤ I ∧ I ≤ L.length
  · rw [if_pos hI, decide_eq_true hI]
    obtain ⟨i, rfl⟩ : ∃ i : Nat, I = (i : Int) := ⟨I.toNat, by omega⟩
    refine (insyes_i X i H hg (by omega) (by omega)).mono ?_
    rintro e w' ⟨pv, rfl, h1, h2⟩
    obtain ⟨y, rfl⟩ := h1.ptr
    exact ⟨y, rfl, by simpa using h1, h2⟩
  · rw [if_neg hI, decide_eq_false hI]
    refine (insno_i X I H hI).mono ?_
    rintro e w' ⟨rfl, h2⟩
    exact ⟨x, rfl, H.below h2, h2⟩
theorem tdel_i {w : World} {x : Option Addr} {L : List Value} (I : Int) (H : Tin w 95 (.pointer x) L) (hg : Gd L) (hf : L.length ≤ 90000) :
    Calls Try.prog 52 #[.agg #[.pointer x], .int .i64 I] w fun e w' => ∃ y, e = .returned (.tuple #[.agg #[.pointer y], .bool (decide (0 ≤ I ∧ I < L.length))]) ∧ Tin w' 95 (.pointer y) (delV L I) ∧ Below w.heap.size w w' := by
  unfold delV
  by_cases hI : 0 ≤ I ∧ I < L.length
  · rw [if_pos hI, decide_eq_true hI]
    obtain ⟨i, rfl⟩ : ∃ i : Nat, I = (i : Int) := ⟨I.toNat, by omega⟩
    refine (delyes_i i H hg (by omega) (by omega)).mono ?_
    rintro e w' ⟨pv, rfl, h1, h2⟩
    obtain ⟨y, rfl⟩ := h1.ptr
    exact ⟨y, rfl, by simpa using h1, h2⟩
  · rw [if_neg hI, decide_eq_false hI]
    refine (delno_i I H hI).mono ?_
    rintro e w' ⟨rfl, h2⟩
    exact ⟨x, rfl, H.below h2, h2⟩
theorem tat_i {w : World} {x : Option Addr} {L : List Value} (I : Int) (H : Tin w 95 (.pointer x) L) (hf : L.length ≤ 90000) :
    Calls Try.prog 56 #[.agg #[.pointer x], .int .i64 I] w fun e w' => e = .returned (.tuple #[atV L I (.int .i64 0), .bool (decide (0 ≤ I ∧ I < L.length))]) ∧ Below w.heap.size w w' := by
  unfold atV
  by_cases hI : 0 ≤ I ∧ I < L.length
  · rw [if_pos hI, decide_eq_true hI]
    obtain ⟨i, rfl⟩ : ∃ i : Nat, I = (i : Int) := ⟨I.toNat, by omega⟩
    refine (atyes_i i H (by omega) (by omega)).mono ?_
    rintro e w' ⟨⟨v, hv, rfl⟩, h2⟩
    refine ⟨?_, h2⟩
    simp [List.getD, hv]
  · rw [if_neg hI, decide_eq_false hI]
    exact atno_i I H hI

end Go.Proofs.Ytofncnommekbjaa
