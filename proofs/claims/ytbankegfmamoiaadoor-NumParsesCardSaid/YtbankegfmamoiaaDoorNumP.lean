/-
  Plain facts on how texts stand: no Go in sight. Texts stand in a row.
-/
import Derived.Test.YtbankegfmamoiaaDoorNumC
namespace Go.Proofs.YtbankegfmamoiaaDoor
open Go Go.RowKit
set_option linter.unusedVariables false

/-- A text's bytes as numbers. -/
def bl (s : ByteArray) : List Int := s.data.toList.map fun b => (b.toNat : Int)
theorem bl_len (s : ByteArray) : (bl s).length = s.size := by unfold bl; rw [List.length_map]; rfl
theorem bl_get (s : ByteArray) (i : Nat) (h : i < (bl s).length) : (bl s)[i] = bt s i := by
  have h' : i < s.data.toList.length := by simpa [bl] using h
  have e : (bl s)[i]? = some (bt s i) := by
    unfold bl bt
    rw [List.getElem?_map, List.getD_eq_getElem?_getD, List.getElem?_eq_getElem h']
    rfl
  rw [List.getElem?_eq_getElem h] at e
  exact Option.some.inj e
def cmpL : List Int → List Int → Int
  | [], [] => 0
  | [], _ :: _ => -1
  | _ :: _, [] => 1
  | a :: l, b :: r => if a < b then -1 else if b < a then 1 else cmpL l r

theorem cb_drop (s t : ByteArray) : ∀ k i, i + k = min s.size t.size → cbFrom s t k i = cmpL ((bl s).drop i) ((bl t).drop i) := by
  intro k
  induction k with
  | zero =>
    intro i hi
    unfold cbFrom Lib.compareInt
    by_cases h1 : s.size < t.size
    · rw [if_pos (by omega), List.drop_eq_nil_of_le (by rw [bl_len]; omega), List.drop_eq_getElem_cons (by rw [bl_len]; omega)]
      rfl
    · rw [if_neg (by omega)]
      by_cases h2 : t.size < s.size
      · rw [if_pos (by omega), show List.drop i (bl t) = [] from List.drop_eq_nil_of_le (by rw [bl_len]; omega), List.drop_eq_getElem_cons (by rw [bl_len]; omega)]
        rfl
      · rw [if_neg (by omega), List.drop_eq_nil_of_le (by rw [bl_len]; omega), List.drop_eq_nil_of_le (by rw [bl_len]; omega)]
        rfl
  | succ k ih =>
    intro i hi
    rw [List.drop_eq_getElem_cons (l := bl s) (by rw [bl_len]; omega), List.drop_eq_getElem_cons (l := bl t) (by rw [bl_len]; omega), bl_get, bl_get]
    unfold cbFrom
    conv => rhs; unfold cmpL
    rw [ih (i + 1) (by omega)]

theorem cmpB_eq (s t : ByteArray) : cmpB s t = cmpL (bl s) (bl t) := by
  unfold cmpB
  rw [cb_drop s t _ 0 (by omega)]
  rfl

theorem cmpL_anti : ∀ a b, cmpL a b = - cmpL b a := by
  intro a
  induction a with
  | nil => intro b; cases b <;> rfl
  | cons x l ih =>
    intro b
    cases b with
    | nil => rfl
    | cons y r =>
      unfold cmpL
      rw [ih r]
      by_cases h1 : x < y
      · rw [if_pos h1, if_neg (by omega), if_pos h1]
      · rw [if_neg h1]
        by_cases h2 : y < x
        · rw [if_pos h2, if_pos h2]; rfl
        · rw [if_neg h2, if_neg h2, if_neg h1]

theorem cmpL_range : ∀ a b, cmpL a b = -1 ∨ cmpL a b = 0 ∨ cmpL a b = 1 := by
  intro a
  induction a with
  | nil => intro b; cases b <;> simp [cmpL]
  | cons x l ih =>
    intro b
    cases b with
    | nil => simp [cmpL]
    | cons y r =>
      unfold cmpL
      split
      · simp
      · split
        · simp
        · exact ih r

theorem cmpL_cons (x y : Int) (l r : List Int) : cmpL (x :: l) (y :: r) = if x < y then -1 else if y < x then 1 else cmpL l r := rfl

theorem cmpL_trans : ∀ a b c, cmpL a b ≤ 0 → cmpL b c ≤ 0 → cmpL a c ≤ 0 ∧ (cmpL a c = 0 ↔ cmpL a b + cmpL b c = 0) := by
  intro a
  induction a with
  | nil =>
    intro b c h1 h2
    cases b with
    | nil => cases c <;> simp [cmpL]
    | cons y r =>
      cases c with
      | nil => simp [cmpL] at h2
      | cons z q =>
        have := cmpL_range (y :: r) (z :: q)
        generalize cmpL (y :: r) (z :: q) = d at *
        simp only [cmpL]
        omega
  | cons x l ih =>
    intro b c h1 h2
    cases b with
    | nil => simp [cmpL] at h1
    | cons y r =>
      cases c with
      | nil => simp [cmpL] at h2
      | cons z q =>
        have hr := ih r q
        have g1 := cmpL_range l r
        have g2 := cmpL_range r q
        have g3 := cmpL_range l q
        rw [cmpL_cons] at h1 h2
        rw [cmpL_cons, cmpL_cons, cmpL_cons]
        generalize cmpL l r = d1 at *
        generalize cmpL r q = d2 at *
        generalize cmpL l q = d3 at *
        by_cases p1 : x < y
        · simp only [if_pos p1] at *
          by_cases p2 : y < z
          · simp only [if_pos p2, if_pos (show x < z by omega)] at *; omega
          · by_cases p3 : z < y
            · simp only [if_neg p2, if_pos p3] at *; omega
            · simp only [if_neg p2, if_neg p3, if_pos (show x < z by omega)] at *; omega
        · by_cases p1' : y < x
          · simp only [if_neg p1, if_pos p1'] at *; omega
          · obtain rfl : x = y := by omega
            simp only [if_neg p1] at *
            by_cases p2 : x < z
            · simp only [if_pos p2] at *; omega
            · by_cases p3 : z < x
              · simp only [if_neg p2, if_pos p3] at *; omega
              · simp only [if_neg p2, if_neg p3] at *
                obtain ⟨k1, k2⟩ := hr h1 h2
                exact ⟨k1, k2⟩

theorem cmpI_range (x y : Int) : Lib.compareInt x y = -1 ∧ x < y ∨ Lib.compareInt x y = 0 ∧ x = y ∨ Lib.compareInt x y = 1 ∧ y < x := by
  unfold Lib.compareInt
  split
  · left; omega
  · split
    · right; right; omega
    · right; left; omega

def cmpK (p q : Bool) (a b d : Int) : Int := if p = true ∧ q = true then Lib.compareInt a b else if p = true then -1 else if q = true then 1 else d
theorem compare_key (s t : ByteArray) : compare s t = cmpK (parse s).2 (parse t).2 (parse s).1 (parse t).1 (cmpL (bl s) (bl t)) := by
  rw [← cmpB_eq]; rfl
theorem cmpK_tt (a b d : Int) : cmpK true true a b d = Lib.compareInt a b := rfl
theorem cmpK_tf (a b d : Int) : cmpK true false a b d = -1 := rfl
theorem cmpK_ft (a b d : Int) : cmpK false true a b d = 1 := rfl
theorem cmpK_ff (a b d : Int) : cmpK false false a b d = d := rfl

theorem compare_anti (s t : ByteArray) : compare s t = - compare t s := by
  rw [compare_key, compare_key]
  cases (parse s).2 <;> cases (parse t).2
  · rw [cmpK_ff, cmpK_ff]; exact cmpL_anti _ _
  · rfl
  · rfl
  · rw [cmpK_tt, cmpK_tt]
    have a := cmpI_range (parse s).1 (parse t).1
    have b := cmpI_range (parse t).1 (parse s).1
    omega

theorem compare_range (s t : ByteArray) : compare s t = -1 ∨ compare s t = 0 ∨ compare s t = 1 := by
  rw [compare_key]
  cases (parse s).2 <;> cases (parse t).2
  · exact cmpL_range _ _
  · right; right; rfl
  · left; rfl
  · rw [cmpK_tt]
    have := cmpI_range (parse s).1 (parse t).1; omega

theorem compare_self (s : ByteArray) : compare s s = 0 := by have := compare_anti s s; omega

theorem compare_trans (s t u : ByteArray) (h1 : compare s t ≤ 0) (h2 : compare t u ≤ 0) : compare s u ≤ 0 ∧ (compare s u = 0 ↔ compare s t + compare t u = 0) := by
  rw [compare_key] at h1 h2
  rw [compare_key, compare_key, compare_key]
  have g1 := cmpL_range (bl s) (bl t)
  have g2 := cmpL_range (bl t) (bl u)
  have g3 := cmpL_range (bl s) (bl u)
  have a := cmpI_range (parse s).1 (parse t).1
  have b := cmpI_range (parse t).1 (parse u).1
  have c := cmpI_range (parse s).1 (parse u).1
  have k := cmpL_trans (bl s) (bl t) (bl u)
  generalize (parse s).2 = p at h1 h2 ⊢
  generalize (parse t).2 = q at h1 h2 ⊢
  generalize (parse u).2 = r at h1 h2 ⊢
  cases p <;> cases q <;> cases r <;> simp only [cmpK_tt, cmpK_tf, cmpK_ft, cmpK_ff] at h1 h2 ⊢ <;> first | omega | exact k h1 h2

end Go.Proofs.YtbankegfmamoiaaDoor
