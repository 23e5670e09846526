/-
  The example of layer 15; which rows are permutations, on plain lists.
-/
import Derived.Test.YtlglenbgaalhiaaMgO
import Derived.Test.YtlglenbgaalhiaaMgS
namespace Go.Proofs.Ytlglenbgaalhiaa
open Go Go.RowKit
set_option linter.unusedVariables false

theorem nsame_self {w : World} {a b : Option Addr} {c d : Nat} (l : List Int) (Hl : Sl w a c (nums l)) (Hm : Sl w b d (nums l)) (hn : l.length ≤ 1000000) :
    Calls Try.prog 11 #[.slice a l.length c, .slice b l.length d] w fun e w' => e = .returned (.bool true) ∧ Below w.heap.size w w' :=
  (nsame l l Hl Hm hn).mono (fun e w' h => ⟨by rw [h.1, decide_eq_true (rfl : l = l)], h.2⟩)

theorem getD_lt {L : List Int} {j : Nat} (h : j < L.length) : L[j]? = some (L.getD j 0) := by
  rw [List.getD_eq_getElem?_getD, List.getElem?_eq_getElem h]; rfl
theorem split_nth {L : List Int} {j : Nat} (h : j < L.length) : L = L.take j ++ L.getD j 0 :: L.drop (j + 1) := by
  have h1 := List.take_append_drop j L
  rw [List.drop_eq_getElem_cons h] at h1
  have e : L.getD j 0 = L[j] := by rw [List.getD_eq_getElem?_getD, List.getElem?_eq_getElem h]; rfl
  rw [e]; exact h1.symm
theorem mem_nth {L : List Int} {x : Int} (h : x ∈ L) : ∃ j, j < L.length ∧ L.getD j 0 = x := by
  obtain ⟨j, hj, rfl⟩ := List.mem_iff_getElem.1 h
  exact ⟨j, hj, by rw [List.getD_eq_getElem?_getD, List.getElem?_eq_getElem hj]; rfl⟩
theorem count_one {L : List Int} {i : Int} {j : Nat} (hj : j < L.length) (he : L.getD j 0 = i) (hi : ∀ j k, j < L.length → k < L.length → L.getD j 0 = L.getD k 0 → j = k) : L.count i = 1 := by
  have h0 := split_nth hj
  have h1 : (L.take j).count i = 0 := List.count_eq_zero.2 (fun hm => by
    obtain ⟨q, hq, hqe⟩ := mem_nth hm
    rw [List.length_take] at hq
    have h2 : (L.take j).getD q 0 = L.getD q 0 := by
      rw [List.getD_eq_getElem?_getD, List.getElem?_take, if_pos (by omega), List.getD_eq_getElem?_getD]
    have := hi q j (by omega) hj (by rw [← h2, hqe, he])
    omega)
  have h3 : (L.drop (j + 1)).count i = 0 := List.count_eq_zero.2 (fun hm => by
    obtain ⟨q, hq, hqe⟩ := mem_nth hm
    rw [List.length_drop] at hq
    have h2 : (L.drop (j + 1)).getD q 0 = L.getD (j + 1 + q) 0 := by
      rw [List.getD_eq_getElem?_getD, List.getElem?_drop, List.getD_eq_getElem?_getD]
    have := hi (j + 1 + q) j (by omega) hj (by rw [← h2, hqe, he])
    omega)
  rw [h0, List.count_append, h1, he, List.count_cons_self, h3]
theorem countP_range (L : List Int) (m : Nat) : L.countP (fun x => decide (0 ≤ x ∧ x < ((m + 1 : Nat) : Int))) = L.countP (fun x => decide (0 ≤ x ∧ x < (m : Int))) + L.count (m : Int) := by
  induction L with
  | nil => rfl
  | cons y L ih =>
    rw [List.countP_cons, List.countP_cons, List.count_cons, ih]
    by_cases h1 : y = (m : Int)
    · subst h1
      rw [if_pos (by simp; omega), if_neg (by simp), if_pos (by simp)]; omega
    · by_cases h2 : 0 ≤ y ∧ y < (m : Int)
      · rw [if_pos (decide_eq_true (by omega)), if_pos (decide_eq_true h2), if_neg (by simpa using h1)]; omega
      · rw [if_neg (by simp; omega), if_neg (by simpa using h2), if_neg (by simpa using h1)]
        omega
theorem countP_all (L : List Int) (n : Nat) (h : ∀ i, i < n → L.count (i : Int) = 1) : L.countP (fun x => decide (0 ≤ x ∧ x < (n : Int))) = n := by
  induction n with
  | zero =>
    rw [List.countP_eq_zero]; intro x _; simp
  | succ n ih => rw [countP_range, ih (fun i hi => h i (by omega)), h n (by omega)]
theorem good_of_counts {L : List Int} (h : ∀ i, i < L.length → L.count (i : Int) = 1) : GoodP L := by
  have h1 := countP_all L L.length h
  rw [List.countP_eq_length] at h1
  have hr : ∀ k, k < L.length → ∃ v : Nat, v < L.length ∧ L.getD k 0 = (v : Int) := fun k hk => by
    have h2 := h1 (L.getD k 0) (List.mem_of_getElem? (getD_lt hk))
    rw [decide_eq_true_eq] at h2
    exact ⟨(L.getD k 0).toNat, by omega, by omega⟩
  refine ⟨hr, ?_⟩
  have key : ∀ j k, j < k → k < L.length → L.getD j 0 ≠ L.getD k 0 := fun j k hjk hk he => by
    obtain ⟨v, hv, hve⟩ := hr k hk
    have h2 := h v hv
    have h0 := split_nth hk
    rw [h0, List.count_append, ← hve, List.count_cons_self] at h2
    have h3 : (L.take k).count (L.getD k 0) = 0 := by omega
    refine List.count_eq_zero.1 h3 ?_
    rw [← he]
    refine List.mem_of_getElem? (i := j) ?_
    rw [List.getElem?_take, if_pos hjk]; exact getD_lt (by omega)
  intro j k hj hk he
  rcases Nat.lt_trichotomy j k with h2 | h2 | h2
  · exact absurd he (key j k h2 hk)
  · exact h2
  · exact absurd he.symm (key k j h2 hj)

theorem good3 : GoodP [1, 2, 0] := by
  apply good_of_counts
  intro i hi
  have : i = 0 ∨ i = 1 ∨ i = 2 := by simp at hi; omega
  rcases this with rfl | rfl | rfl <;> decide

set_option maxRecDepth 100000 in
set_option maxHeartbeats 2000000 in
theorem awake15_of (w : World) : Calls Try.prog 15 #[] w fun e w' => e = .returned (.bool true) ∧ Below w.heap.size w w' := by
  have al := t_al w (Obj.cells (nums [1, 2, 0]).toArray 3)
  have HT := Lib.hid (turn_of [1, 2, 0] (Sl.new (heap_alloc_new w (Obj.cells (nums [1, 2, 0]).toArray 3)) (by unfold maxLen; decide) (nums_one _)) (by decide))
  have AL := Lib.hid al
  have hs : sortL cmpT [31, 12, 30, 11] = [12, 11, 31, 30] := by decide
  have HSo := Lib.hid hs
  clear al hs
  go_enter Try.func15, Try.ntmps15
  go_wp2_with fail
  refine HT.out.mono ?_; rintro e w1 h
  rcases h with ⟨a1, c1, P, rfl, hPl, hSl, hb, _, hP⟩ | ⟨_, hbad, _⟩
  · have hP3 : P = [2, 0, 1] := by
      obtain ⟨j0, h0, h1, h2⟩ := hP 0 (by decide)
      obtain ⟨j1, k0, k1, k2⟩ := hP 1 (by decide)
      obtain ⟨j2, l0, l1, l2⟩ := hP 2 (by decide)
      have e0 : j0 = 2 := by
        have : j0 = 0 ∨ j0 = 1 ∨ j0 = 2 := by simp at h0; omega
        rcases this with rfl | rfl | rfl
        · simp at h2
        · simp at h2
        · rfl
      have e1 : j1 = 0 := by
        have : j1 = 0 ∨ j1 = 1 ∨ j1 = 2 := by simp at k0; omega
        rcases this with rfl | rfl | rfl
        · rfl
        · simp at k2
        · simp at k2
      have e2 : j2 = 1 := by
        have : j2 = 0 ∨ j2 = 1 ∨ j2 = 2 := by simp at l0; omega
        rcases this with rfl | rfl | rfl
        · simp at l2
        · rfl
        · simp at l2
      subst e0; subst e1; subst e2
      match P, hPl with
      | [x, y, z], _ =>
        simp at h1 k1 l1
        rw [h1, k1, l1]
    subst hP3
    have HB1 := Lib.hid (AL.out.trans (hb.mono AL.out.size))
    have HS1 := Lib.hid hSl
    clear hPl hSl hb hP HT
    have al2 := t_al w1 (Obj.cells (nums [31, 12, 30, 11]).toArray 3)
    have hSort := msort_of [31, 12, 30, 11] (cv_tens (w1.alloc (Obj.cells (nums [31, 12, 30, 11]).toArray 3))) cmpT_cm (Sl.new (heap_alloc_new w1 (Obj.cells (nums [31, 12, 30, 11]).toArray 3)) (by unfold maxLen; decide) (nums_one _)) (by intro x hx; simp at hx; unfold Dm; omega) (by decide)
    rw [HSo.out] at hSort
    have HSort := Lib.hid hSort
    have AL2 := Lib.hid al2
    clear hSort al2
    go_wp2_with fail
    refine HSort.out.mono ?_; rintro e w2 ⟨a2, c2, rfl, ho2, hb2⟩
    have hb12 := AL2.out.trans (hb2.mono AL2.out.size)
    have HB2 := Lib.hid (HB1.out.trans (hb12.mono HB1.out.size))
    have HS2 := Lib.hid (HS1.out.below hb12)
    have hSl2 := own_sl ho2 (nums_one _)
    have al3 := t_al w2 (Obj.cells (nums [12, 11, 31, 30]).toArray 3)
    have HSame := Lib.hid (nsame_self [12, 11, 31, 30] (hSl2.below al3) (Sl.new (heap_alloc_new w2 (Obj.cells (nums [12, 11, 31, 30]).toArray 3)) (by unfold maxLen; decide) (nums_one _)) (by decide))
    have HB3 := Lib.hid (HB2.out.trans (al3.mono HB2.out.size))
    have HS3 := Lib.hid (HS2.out.below al3)
    clear ho2 hb2 hb12 hSl2 al3 HSort
    go_wp2_with fail
    refine HSame.out.mono ?_; rintro e w3 ⟨rfl, hb3⟩
    have HB4 := Lib.hid (HB3.out.trans (hb3.mono HB3.out.size))
    have hS4 := HS3.out.below hb3
    have al4 := t_al w3 (Obj.cells (nums [2, 0, 1]).toArray 3)
    have HSame2 := Lib.hid (nsame_self [2, 0, 1] (hS4.below al4) (Sl.new (heap_alloc_new w3 (Obj.cells (nums [2, 0, 1]).toArray 3)) (by unfold maxLen; decide) (nums_one _)) (by decide))
    have HB5 := Lib.hid (HB4.out.trans (al4.mono HB4.out.size))
    clear hb3 hS4 al4 HSame
    go_wp2_with fail
    refine HSame2.out.mono ?_; rintro e w4 ⟨rfl, hb4⟩
    have HB6 := Lib.hid (HB5.out.trans (hb4.mono HB5.out.size))
    clear hb4 HSame2
    go_wp2_with fail
    go_ret
    exact ⟨rfl, HB6.out⟩
  · exact absurd good3 hbad

end Go.Proofs.Ytlglenbgaalhiaa
