/-
  Texts that come in, cut: damierlaw13.Few; at this seat's numbers.
-/
import Derived.Test.YteipnllefifgiaaRgH
namespace Go.Proofs.Yteipnllefifgiaa
open Go Go.RowKit
set_option linter.unusedVariables false

def cutT (s : ByteArray) (n : Nat) : ByteArray := if n < s.size then s.extract 0 n else s
theorem cutT_le (s : ByteArray) (n : Nat) : (cutT s n).size ≤ n ∧ (cutT s n).size ≤ s.size := by
  unfold cutT
  split
  · rw [ByteArray.size_extract]; omega
  · omega
theorem cutT_self {s : ByteArray} {n : Nat} (h : s.size ≤ n) : cutT s n = s := by unfold cutT; rw [if_neg (by omega)]
theorem cut13_of (s : ByteArray) (n : Nat) (w : World) (hs : s.size ≤ maxLen) (hn : n ≤ maxLen) :
    Calls Try.prog 27 #[.string s, .int .i64 n] w fun e w' => e = .returned (.string (cutT s n)) ∧ w = w' := by
  unfold maxLen at hs hn
  by_cases h : n < s.size
  · have e : cutT s n = s.extract 0 n := by unfold cutT; rw [if_pos h]
    rw [e]
    clear e
    go_enter Try.func27, Try.ntmps27
    go_wp2
    go_ret
    exact ⟨rfl, rfl⟩
  · have e : cutT s n = s := by unfold cutT; rw [if_neg h]
    rw [e]
    clear e
    go_enter Try.func27, Try.ntmps27
    go_wp2
    go_ret
    exact ⟨rfl, rfl⟩

/-- A text, cut by both bounds. -/
def cutB (s : ByteArray) (left : Nat) : ByteArray := cutT (cutT s 410) left
theorem cutB_le (s : ByteArray) (n : Nat) : (cutB s n).size ≤ n ∧ (cutB s n).size ≤ 410 := by
  unfold cutB
  have h1 := cutT_le (cutT s 410) n
  have h2 := cutT_le s 410
  omega
theorem cutB_again (s : ByteArray) (n : Nat) : cutB (cutB s n) n = cutB s n := by
  have h := cutB_le s n
  show cutT (cutT (cutB s n) 410) n = cutB s n
  rw [cutT_self h.2, cutT_self h.1]
def rowF (st : List ByteArray × Nat) (s : ByteArray) : List ByteArray × Nat := (st.1 ++ [cutB s st.2], st.2 - (cutB s st.2).size)
def rowA (left : Nat) (l : List ByteArray) : List ByteArray × Nat := (l.take 45).foldl rowF ([], left)
def mxF (st : List (List ByteArray) × Nat) (l : List ByteArray) : List (List ByteArray) × Nat := (st.1 ++ [(rowA st.2 l).1], (rowA st.2 l).2)
def fewS (M : List (List ByteArray)) (k : Nat) : List (List ByteArray) × Nat := (M.take k).foldl mxF ([], 6000)
def fewM (M : List (List ByteArray)) : List (List ByteArray) := (fewS M 12).1
theorem row_fold (l : List ByteArray) : ∀ left, ∃ r q, r.length = l.length ∧ q ≤ left ∧ szL r + q ≤ left + l.length ∧ (∀ acc, l.foldl rowF (acc, left) = (acc ++ r, q)) ∧ (∀ acc, r.foldl rowF (acc, left) = (acc ++ r, q)) := by
  induction l with
  | nil => intro left; exact ⟨[], left, rfl, Nat.le_refl _, by simp [szL], fun acc => by simp, fun acc => by simp⟩
  | cons s l ih =>
    intro left
    obtain ⟨r, q, h1, h2, h3, h4, h5⟩ := ih (left - (cutB s left).size)
    have hc := cutB_le s left
    refine ⟨cutB s left :: r, q, by simp [h1], by omega, ?_, fun acc => ?_, fun acc => ?_⟩
    · have e : szL (cutB s left :: r) = ((cutB s left).size + 1) + szL r := by unfold szL; simp
      rw [e, List.length_cons]; omega
    · show l.foldl rowF (acc ++ [cutB s left], left - (cutB s left).size) = _
      rw [h4]; simp
    · show r.foldl rowF (acc ++ [cutB (cutB s left) left], left - (cutB (cutB s left) left).size) = _
      rw [cutB_again, h5]; simp
theorem rowA_of (left : Nat) (l : List ByteArray) : (rowA left l).1.length ≤ 45 ∧ (rowA left l).2 ≤ left ∧ szL (rowA left l).1 + (rowA left l).2 ≤ left + 45 ∧ rowA left (rowA left l).1 = rowA left l := by
  obtain ⟨r, q, h1, h2, h3, h4, h5⟩ := row_fold (l.take 45) left
  have hl : (l.take 45).length ≤ 45 := by rw [List.length_take]; omega
  have e : rowA left l = (r, q) := by unfold rowA; rw [h4]; simp
  rw [e]
  refine ⟨by show r.length ≤ _; omega, h2, by show szL r + q ≤ _; omega, ?_⟩
  show (r.take 45).foldl rowF ([], left) = (r, q)
  rw [List.take_of_length_le (by omega), h5]; simp
theorem mx_fold (M : List (List ByteArray)) : ∀ left, ∃ r q, r.length = M.length ∧ szM r + q ≤ left + 45 * M.length ∧ (∀ acc, M.foldl mxF (acc, left) = (acc ++ r, q)) ∧ (∀ acc, r.foldl mxF (acc, left) = (acc ++ r, q)) := by
  induction M with
  | nil => intro left; exact ⟨[], left, rfl, by simp [szM], fun acc => by simp, fun acc => by simp⟩
  | cons l M ih =>
    intro left
    obtain ⟨a1, a2, a3, a4⟩ := rowA_of left l
    obtain ⟨r, q, h1, h3, h4, h5⟩ := ih (rowA left l).2
    refine ⟨(rowA left l).1 :: r, q, by simp [h1], ?_, fun acc => ?_, fun acc => ?_⟩
    · have e : szM ((rowA left l).1 :: r) = szL (rowA left l).1 + szM r := by unfold szM; simp
      rw [e, List.length_cons]; omega
    · show M.foldl mxF (acc ++ [(rowA left l).1], (rowA left l).2) = _
      rw [h4]; simp
    · show r.foldl mxF (acc ++ [(rowA left (rowA left l).1).1], (rowA left (rowA left l).1).2) = _
      rw [a4, h5]; simp
/-- Few texts: bounded, and the same when they are taken again. -/
theorem fewM_of (M : List (List ByteArray)) : (fewM M).length ≤ 12 ∧ szM (fewM M) ≤ 6540 ∧ fewM (fewM M) = fewM M ∧ (fewM M).length = min 12 M.length := by
  obtain ⟨r, q, h1, h3, h4, h5⟩ := mx_fold (M.take 12) 6000
  have hl : (M.take 12).length ≤ 12 := by rw [List.length_take]; omega
  have e : fewM M = r := by unfold fewM fewS; rw [h4]; simp
  rw [e]
  refine ⟨by omega, by omega, ?_, by rw [h1, List.length_take]⟩
  unfold fewM fewS
  rw [List.take_of_length_le (by omega), h5]; simp
theorem fewS_succ {M : List (List ByteArray)} {k : Nat} {l : List ByteArray} (h : M[k]? = some l) : fewS M (k + 1) = mxF (fewS M k) l := by
  unfold fewS; rw [List.take_add_one, h]; simp
theorem fewS_all {M : List (List ByteArray)} {k : Nat} (h : M.length ≤ k) (h2 : M.length ≤ 12) : fewS M k = fewS M 12 := by
  unfold fewS; rw [List.take_of_length_le h, List.take_of_length_le h2]
theorem fewS_left (M : List (List ByteArray)) (k : Nat) : (fewS M k).2 ≤ 6000 := by
  induction k with
  | zero => simp [fewS]
  | succ k ih =>
    cases h : M[k]? with
    | none => unfold fewS at *; rw [List.take_add_one, h]; simpa using ih
    | some l => rw [fewS_succ h]; have := (rowA_of (fewS M k).2 l).2.1; show (rowA _ _).2 ≤ _; omega
/-- A row so far. -/
def rowS (left : Nat) (l : List ByteArray) (j : Nat) : List ByteArray × Nat := ((l.take 45).take j).foldl rowF ([], left)
theorem rowS_succ {left : Nat} {l : List ByteArray} {j : Nat} {s : ByteArray} (hj : j < 45) (h : l[j]? = some s) : rowS left l (j + 1) = rowF (rowS left l j) s := by
  unfold rowS; rw [List.take_add_one, List.getElem?_take, if_pos hj, h]; simp
theorem rowS_over {left : Nat} {l : List ByteArray} {j : Nat} (hj : 45 ≤ j) : rowS left l (j + 1) = rowS left l j := by
  unfold rowS; rw [List.take_take, List.take_take, Nat.min_eq_right (by omega), Nat.min_eq_right (by omega)]
theorem rowS_all {left : Nat} {l : List ByteArray} {j : Nat} (hj : l.length ≤ j) : rowS left l j = rowA left l := by
  unfold rowS rowA; rw [List.take_of_length_le (by rw [List.length_take]; omega)]
theorem rowS_left (left : Nat) (l : List ByteArray) (j : Nat) : (rowS left l j).2 ≤ left ∧ (rowS left l j).1.length ≤ j := by
  obtain ⟨r, q, h1, h2, h3, h4, h5⟩ := row_fold ((l.take 45).take j) left
  unfold rowS
  rw [h4]
  refine ⟨h2, ?_⟩
  simp only [List.nil_append, h1, List.length_take]; omega

end Go.Proofs.Yteipnllefifgiaa
