/-
  Plain lists for layer 20: rising rows, and heaps against them.
-/
import Derived.Test.YtmjlmciocockpaaLfF
namespace Go.Proofs.Ytmjlmciocockpaa
open Go Go.RowKit
set_option linter.unusedVariables false

def ins (x : Int) : List Int → List Int
  | [] => [x]
  | y :: l => if x < y then x :: y :: l else y :: ins x l
def putS (l : List Int) (x : Int) : List Int := if x ∈ l then l else ins x l
def dropS (l : List Int) (x : Int) : List Int := l.filter fun y => decide (y ≠ x)
def otherS (l : List Int) (n : Int) : Int × Bool := match l.find? (fun y => decide (y ≠ n)) with | some x => (x, true) | none => (0, false)
def Rise (l : List Int) : Prop := l.Pairwise fun a b => a < b
theorem ins_laid {x y : Int} : ∀ {a : List Int}, (∃ z ∈ a, x < z) → ins x (a ++ [y]) = ins x a ++ [y]
  | [], h => by obtain ⟨z, hz, _⟩ := h; cases hz
  | b :: a, h => by
    rw [List.cons_append]
    unfold ins
    split
    · rfl
    · rename_i hb
      obtain ⟨z, hz, hx⟩ := h
      rcases List.mem_cons.1 hz with rfl | hz
      · contradiction
      · rw [ins_laid ⟨z, hz, hx⟩]; rfl
theorem ins_not {x : Int} : ∀ {a : List Int} (b : List Int), (∀ z ∈ a, ¬ x < z) → ins x (a ++ b) = a ++ ins x b
  | [], b, h => rfl
  | c :: a, b, h => by
    rw [List.cons_append, ins, if_neg (h c (by simp)), ins_not b (fun z hz => h z (by simp [hz]))]; rfl
theorem ins_perm (x : Int) : ∀ l : List Int, (ins x l).Perm (x :: l)
  | [] => List.Perm.refl _
  | y :: l => by
    unfold ins
    split
    · exact List.Perm.refl _
    · exact ((ins_perm x l).cons y).trans (List.Perm.swap x y l)
theorem ins_rise {x : Int} : ∀ {l : List Int}, Rise l → x ∉ l → Rise (ins x l)
  | [], _, _ => List.pairwise_singleton _ _
  | y :: l, h, hx => by
    have h1 := List.pairwise_cons.1 h
    unfold ins
    split
    · rename_i hxy
      refine List.pairwise_cons.2 ⟨fun z hz => ?_, h⟩
      rcases List.mem_cons.1 hz with rfl | hz
      · exact hxy
      · exact Int.lt_trans hxy (h1.1 z hz)
    · rename_i hxy
      have hne : x ≠ y := fun e => hx (by simp [e])
      refine List.pairwise_cons.2 ⟨fun z hz => ?_, ins_rise h1.2 (fun e => hx (by simp [e]))⟩
      rcases List.mem_cons.1 ((ins_perm x l).mem_iff.1 hz) with rfl | hz
      · omega
      · exact h1.1 z hz
theorem put_perm (l : List Int) (x : Int) : (putS l x).Perm (if x ∈ l then l else x :: l) := by
  unfold putS
  split
  · exact List.Perm.refl _
  · exact ins_perm x l
theorem put_rise {l : List Int} {x : Int} (h : Rise l) : Rise (putS l x) := by
  unfold putS
  split
  · exact h
  · exact ins_rise h (by assumption)
theorem put_len (l : List Int) (x : Int) : (putS l x).length ≤ l.length + 1 := by
  rw [(put_perm l x).length_eq]
  split <;> simp
theorem drop_rise {l : List Int} {x : Int} (h : Rise l) : Rise (dropS l x) := List.Pairwise.filter _ h
theorem rise_nodup {l : List Int} (h : Rise l) : l.Nodup := List.Pairwise.imp (fun h => Int.ne_of_lt h) h
theorem drop_perm {l R' : List Int} {x : Int} (hl : l.Nodup) (h : (x :: R').Perm l) : R'.Perm (dropS l x) := by
  have h1 : (dropS (x :: R') x).Perm (dropS l x) := h.filter _
  have hn : (x :: R').Nodup := h.nodup_iff.2 hl
  have h2 : dropS (x :: R') x = R' := by
    unfold dropS
    rw [List.filter_cons_of_neg (by simp)]
    refine List.filter_eq_self.2 (fun a ha => ?_)
    have := (List.nodup_cons.1 hn).1
    simp; intro e; exact this (e ▸ ha)
  rwa [h2] at h1
theorem drop_not_mem {l : List Int} {x : Int} (h : x ∉ l) : dropS l x = l := List.filter_eq_self.2 (fun a ha => by simp; intro e; exact h (e ▸ ha))
theorem eq_of_le : ∀ {a b : List Int}, a.Perm b → a.Pairwise (fun x y => x ≤ y) → b.Pairwise (fun x y => x ≤ y) → a = b
  | [], b, h, _, _ => by have := h.length_eq; simp at this; exact (List.eq_nil_of_length_eq_zero this.symm).symm
  | x :: a, b, h, ha, hb => by
    cases b with
    | nil => have := h.length_eq; simp at this
    | cons y b =>
      have h1 := List.pairwise_cons.1 ha
      have h2 := List.pairwise_cons.1 hb
      have e : x = y := by
        have m1 : x ∈ y :: b := h.mem_iff.1 (by simp)
        have m2 : y ∈ x :: a := h.mem_iff.2 (by simp)
        rcases List.mem_cons.1 m1 with e | m1
        · exact e
        · rcases List.mem_cons.1 m2 with e | m2
          · exact e.symm
          · have := h1.1 y m2; have := h2.1 x m1; omega
      subst e
      rw [eq_of_le h.cons_inv h1.2 h2.2]
theorem srt_eq {R l : List Int} (hp : R.Perm l) (h : Rise l) : srt R = l := by
  refine eq_of_le ((List.mergeSort_perm R _).trans hp) ?_ (List.Pairwise.imp (fun h => Int.le_of_lt h) h)
  have := List.pairwise_mergeSort (le := fun x y : Int => decide (x ≤ y)) (by intro a b c h1 h2; simp at *; omega) (by intro a b; simp; omega) R
  exact List.Pairwise.imp (fun h => by simpa using h) this
theorem root_le {R : List Int} (h : Heap R R.length) {y : Int} (hy : y ∈ R) : gN R 0 ≤ y := by
  obtain ⟨k, hk, rfl⟩ := mem_gN hy
  have := heap_min h k hk
  rwa [nl_iff] at this
theorem head_eq {R l : List Int} (hp : R.Perm l) (h : Rise l) (hh : Heap R R.length) : gN R 0 = gN l 0 := by
  cases l with
  | nil => rw [List.Perm.eq_nil hp]
  | cons a l =>
    have hl : 0 < R.length := by rw [hp.length_eq]; simp
    have h1 := List.pairwise_cons.1 h
    have m1 : gN R 0 ∈ a :: l := hp.mem_iff.1 (gN_mem hl)
    have h2 : gN R 0 ≤ a := root_le hh (hp.mem_iff.2 (by simp))
    rcases List.mem_cons.1 m1 with e | m
    · rw [e]; rfl
    · have := h1.1 _ m; omega
/-- Right below the root stand two at most, and no other one is less than both. -/
theorem kids_le {R : List Int} (hh : Heap R R.length) {k : Nat} (h0 : 0 < k) (hk : k < R.length) : ∃ j, (j = 1 ∨ j = 2) ∧ j < R.length ∧ gN R j ≤ gN R k := by
  induction k using Nat.strongRecOn with
  | _ k ih =>
    by_cases h1 : k = 1 ∨ k = 2
    · exact ⟨k, h1, hk, Int.le_refl _⟩
    · have hp := par_lt h0
      have hp0 : 0 < par k := by unfold par; omega
      obtain ⟨j, hj, hl, hle⟩ := ih (par k) hp hp0 (by omega)
      have := hh k h0 hk
      rw [nl_iff] at this
      exact ⟨j, hj, hl, by omega⟩
theorem min_mem : ∀ (l : List Int) (a : Int), l.foldl min a ∈ a :: l
  | [], a => by simp
  | b :: l, a => by
    rw [List.foldl_cons]
    have := min_mem l (min a b)
    rcases List.mem_cons.1 this with e | m
    · rw [e]
      rcases Int.le_total a b with h | h
      · rw [Int.min_eq_left h]; simp
      · rw [Int.min_eq_right h]; simp
    · exact List.mem_cons_of_mem _ (List.mem_cons_of_mem _ m)
theorem min_le : ∀ (l : List Int) (a : Int), l.foldl min a ≤ a ∧ ∀ x ∈ l, l.foldl min a ≤ x
  | [], a => ⟨Int.le_refl _, by simp⟩
  | b :: l, a => by
    rw [List.foldl_cons]
    have h := min_le l (min a b)
    have h1 := Int.min_le_left a b
    have h2 := Int.min_le_right a b
    refine ⟨by omega, fun x hx => ?_⟩
    rcases List.mem_cons.1 hx with rfl | hx
    · omega
    · exact h.2 x hx
theorem minOf_spec {l : List Int} (h : 0 < l.length) : Lib.minOf l ∈ l ∧ ∀ x ∈ l, Lib.minOf l ≤ x := by
  cases l with
  | nil => simp at h
  | cons a l =>
    unfold Lib.minOf
    simp only [List.headD_cons, List.foldl_cons]
    rw [show min a a = a from Int.min_eq_left (Int.le_refl _)]
    have h1 := min_mem l a
    have h2 := min_le l a
    exact ⟨h1, fun x hx => by
      rcases List.mem_cons.1 hx with rfl | hx
      · exact h2.1
      · exact h2.2 x hx⟩
theorem gN_drop (R : List Int) (i k : Nat) : gN (R.drop i) k = gN R (i + k) := by unfold gN; rw [List.getD_eq_getElem?_getD, List.getElem?_drop, List.getD_eq_getElem?_getD]
theorem other_eq {R l : List Int} (hp : R.Perm l) (h : Rise l) (hh : Heap R R.length) (n : Int) : otherH R n = otherS l n := by
  have hd := head_eq hp h hh
  have hlen := hp.length_eq
  cases l with
  | nil => rw [List.Perm.eq_nil hp]; rfl
  | cons a l =>
    have h0 : 0 < R.length := by rw [hlen]; simp
    have h1 := List.pairwise_cons.1 h
    have hga : gN (a :: l) 0 = a := rfl
    rw [hga] at hd
    unfold otherH otherS
    rw [hd]
    by_cases e : a = n
    · rw [if_pos ⟨h0, e⟩, List.find?_cons_of_neg (by simp [e])]
      subst e
      cases R with
      | nil => simp at h0
      | cons r R =>
        have hr : r = a := hd
        subst hr
        have hp' : R.Perm l := hp.cons_inv
        rw [List.take_succ_cons, List.drop_succ_cons, List.drop_zero]
        cases l with
        | nil => rw [List.Perm.eq_nil hp']; rfl
        | cons b l =>
          have h2 := List.pairwise_cons.1 h1.2
          have hbn : r < b := h1.1 b (by simp)
          rw [List.find?_cons_of_pos (by simp; omega)]
          have hRl : 0 < R.length := by rw [hp'.length_eq]; simp
          have ht : 0 < (R.take 2).length := by rw [List.length_take]; omega
          obtain ⟨m1, m2⟩ := minOf_spec ht
          have hall : ∀ y ∈ R, Lib.minOf (R.take 2) ≤ y := by
            intro y hy
            obtain ⟨k, hk, rfl⟩ := mem_gN hy
            obtain ⟨j, hj, hjl, hle⟩ := kids_le hh (k := k + 1) (by omega) (by simp; omega)
            have e1 : gN (r :: R) (k + 1) = gN R k := rfl
            rw [e1] at hle
            obtain ⟨i, rfl⟩ : ∃ i, j = i + 1 := ⟨j - 1, by omega⟩
            have e2 : gN (r :: R) (i + 1) = gN R i := rfl
            rw [e2] at hle
            have hi : i < R.length := by simp at hjl; omega
            have : gN R i ∈ R.take 2 := by
              refine List.mem_of_getElem? (i := i) ?_
              rw [List.getElem?_take_of_lt (by omega)]
              exact gN_at hi
            have := m2 _ this
            omega
          have hm : Lib.minOf (R.take 2) = b := by
            have hin : Lib.minOf (R.take 2) ∈ b :: l := hp'.mem_iff.1 (List.mem_of_mem_take m1)
            have hle := hall b (hp'.mem_iff.2 (by simp))
            rcases List.mem_cons.1 hin with e | m
            · exact e
            · have := h2.1 _ m; omega
          rw [hm, decide_eq_true ht]
    · rw [if_neg (fun h => e h.2), List.find?_cons_of_pos (by simp [e]), decide_eq_true h0]
end Go.Proofs.Ytmjlmciocockpaa
