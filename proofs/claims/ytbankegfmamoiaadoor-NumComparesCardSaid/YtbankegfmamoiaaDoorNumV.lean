/-
  Plain facts on decimal digits: the number of a row of digits, with and without noughts ahead; how rows of digits stand.
-/
import Derived.Test.YtbankegfmamoiaaDoorNumP
namespace Go.Proofs.YtbankegfmamoiaaDoor
open Go Go.RowKit
set_option linter.unusedVariables false

/-- The number of a row of digits behind the number n. -/
def val (n : Int) : List Int → Int
  | [] => n
  | d :: l => val (n * 10 + (d - 48)) l
def AllD (l : List Int) : Prop := ∀ d ∈ l, 48 ≤ d ∧ d ≤ 57
instance (l : List Int) : Decidable (AllD l) := by unfold AllD; infer_instance
theorem AllD.head {d : Int} {l : List Int} (h : AllD (d :: l)) : 48 ≤ d ∧ d ≤ 57 := h d (List.mem_cons_self ..)
theorem AllD.tail {d : Int} {l : List Int} (h : AllD (d :: l)) : AllD l := fun x hx => h x (List.mem_cons_of_mem _ hx)
theorem AllD.cons {d : Int} {l : List Int} (h0 : 48 ≤ d ∧ d ≤ 57) (h : AllD l) : AllD (d :: l) := fun x hx => by
  rcases List.mem_cons.1 hx with rfl | hx
  · exact h0
  · exact h x hx

theorem val_ge (l : List Int) : ∀ n, 0 ≤ n → AllD l → n ≤ val n l := by
  induction l with
  | nil => intro n _ _; exact Int.le_refl _
  | cons d l ih =>
    intro n h0 h
    have hd := h.head
    have := ih (n * 10 + (d - 48)) (by omega) h.tail
    unfold val
    omega

theorem val_bounds (l : List Int) : ∀ n, 0 ≤ n → AllD l → n * 10 ^ l.length ≤ val n l ∧ val n l < (n + 1) * 10 ^ l.length := by
  induction l with
  | nil => intro n _ _; simp [val]; omega
  | cons d l ih =>
    intro n h0 h
    have hd := h.head
    obtain ⟨a, b⟩ := ih (n * 10 + (d - 48)) (by omega) h.tail
    unfold val
    rw [List.length_cons, Int.pow_succ]
    have hp : (0 : Int) < 10 ^ l.length := Int.pow_pos (by decide)
    generalize (10 : Int) ^ l.length = p at *
    generalize val (n * 10 + (d - 48)) l = v at *
    constructor
    · refine Int.le_trans ?_ a
      have : n * (p * 10) = (n * 10) * p := by rw [Int.mul_comm p 10, Int.mul_assoc]
      rw [this]
      exact Int.mul_le_mul_of_nonneg_right (by omega) (by omega)
    · refine Int.lt_of_lt_of_le b ?_
      have : (n + 1) * (p * 10) = ((n + 1) * 10) * p := by rw [Int.mul_comm p 10, Int.mul_assoc]
      rw [this]
      exact Int.mul_le_mul_of_nonneg_right (by omega) (by omega)

/-- Rows of digits that are as long as each other stand as their numbers do. -/
theorem cmp_val : ∀ (a b : List Int) (n : Int), 0 ≤ n → AllD a → AllD b → a.length = b.length → cmpL a b = Lib.compareInt (val n a) (val n b) := by
  intro a
  induction a with
  | nil =>
    intro b n _ _ _ hl
    cases b with
    | nil => simp [cmpL, Lib.compareInt]
    | cons _ _ => simp at hl
  | cons x l ih =>
    intro b n h0 ha hb hl
    cases b with
    | nil => simp at hl
    | cons y r =>
      have hx := ha.head
      have hy := hb.head
      have hl' : l.length = r.length := by simpa using hl
      rw [cmpL_cons]
      have b1 := val_bounds l (n * 10 + (x - 48)) (by omega) ha.tail
      have b2 := val_bounds r (n * 10 + (y - 48)) (by omega) hb.tail
      rw [hl'] at b1
      have hp : (0 : Int) < 10 ^ r.length := Int.pow_pos (by decide)
      by_cases h1 : x < y
      · rw [if_pos h1]
        have : (n * 10 + (x - 48) + 1) * 10 ^ r.length ≤ (n * 10 + (y - 48)) * 10 ^ r.length := Int.mul_le_mul_of_nonneg_right (by omega) (by omega)
        unfold val Lib.compareInt
        rw [if_pos (by omega)]
      · rw [if_neg h1]
        by_cases h2 : y < x
        · rw [if_pos h2]
          have : (n * 10 + (y - 48) + 1) * 10 ^ r.length ≤ (n * 10 + (x - 48)) * 10 ^ r.length := Int.mul_le_mul_of_nonneg_right (by omega) (by omega)
          unfold val Lib.compareInt
          rw [if_neg (by omega), if_pos (by omega)]
        · obtain rfl : x = y := by omega
          rw [if_neg h2, ih r (n * 10 + (x - 48)) (by omega) ha.tail hb.tail hl']
          rfl

/-- num.Parse's gathering, over a row of bytes. -/
def pL (m : Int) : List Int → Option Int
  | [] => some m
  | d :: l => if 48 ≤ d ∧ d ≤ 57 ∧ ¬ m < least (d - 48) then pL (m * 10 - (d - 48)) l else none

theorem pFrom_eq (s : ByteArray) : ∀ k i m, i + k = s.size → pFrom s k i m = pL m ((bl s).drop i) := by
  intro k
  induction k with
  | zero =>
    intro i m h
    rw [show List.drop i (bl s) = [] from List.drop_eq_nil_of_le (by rw [bl_len]; omega)]
    rfl
  | succ k ih =>
    intro i m h
    rw [List.drop_eq_getElem_cons (l := bl s) (by rw [bl_len]; omega), bl_get]
    unfold pFrom pL
    rw [ih (i + 1) _ (by omega)]

theorem pL_eq (l : List Int) : ∀ n : Int, 0 ≤ n → n ≤ 9223372036854775808 → pL (-n) l = if AllD l ∧ val n l ≤ 9223372036854775808 then some (-(val n l)) else none := by
  induction l with
  | nil => intro n h0 h1; rw [if_pos ⟨fun _ h => (by cases h), h1⟩]; rfl
  | cons d l ih =>
    intro n h0 h1
    unfold pL
    by_cases hd : 48 ≤ d ∧ d ≤ 57
    · by_cases hm : -n < least (d - 48)
      · rw [if_neg (fun h => h.2.2 hm)]
        have := least_no _ _ (by omega) (by omega) hm
        rw [if_neg]
        rintro ⟨a, b⟩
        have := val_ge l (n * 10 + (d - 48)) (by omega) a.tail
        unfold val at b
        omega
      · have := least_ok _ _ (by omega) (by omega) hm
        rw [if_pos ⟨hd.1, hd.2, hm⟩, show -n * 10 - (d - 48) = -(n * 10 + (d - 48)) from by omega, ih _ (by omega) (by omega)]
        by_cases ha : AllD l ∧ val (n * 10 + (d - 48)) l ≤ 9223372036854775808
        · rw [if_pos ha, if_pos ⟨ha.1.cons hd, ha.2⟩]; rfl
        · rw [if_neg ha, if_neg (fun h => ha ⟨h.1.tail, h.2⟩)]
    · rw [if_neg (fun h => hd ⟨h.1, h.2.1⟩), if_neg (fun h => hd h.1.head)]

/-- What a row of bytes behind a sign stands for. -/
def res (minus : Bool) (l : List Int) : Int × Bool :=
  if l = [] ∨ ¬ AllD l then (0, false)
  else if minus then (if val 0 l ≤ 9223372036854775808 then (-(val 0 l), true) else (0, false))
  else if val 0 l < 9223372036854775808 then (val 0 l, true) else (0, false)

theorem signK_le (s : ByteArray) : signK s ≤ s.size := by unfold signK; split <;> omega

theorem parse_eq (s : ByteArray) : parse s = res (signM s) ((bl s).drop (signK s)) := by
  have hk := signK_le s
  unfold parse res
  by_cases h0 : s.size - signK s = 0
  · rw [if_pos h0, if_pos (Or.inl (List.drop_eq_nil_of_le (by rw [bl_len]; omega)))]
  · have hne : List.drop (signK s) (bl s) ≠ [] := by
      intro h
      have := List.drop_eq_nil_iff.1 h
      rw [bl_len] at this
      omega
    rw [if_neg h0, pFrom_eq s _ _ _ (by omega)]
    have := pL_eq ((bl s).drop (signK s)) 0 (by decide) (by decide)
    rw [show (-(0 : Int)) = 0 from rfl] at this
    rw [this]
    generalize List.drop (signK s) (bl s) = l at *
    by_cases ha : AllD l
    · have hv := val_ge l 0 (by decide) ha
      rw [if_neg (show ¬ (l = [] ∨ ¬ AllD l) from fun h => h.elim hne (fun k => k ha))]
      by_cases hb : val 0 l ≤ 9223372036854775808
      · rw [if_pos ⟨ha, hb⟩]
        unfold pEnd
        cases signM s
        · simp only [Bool.false_eq_true, if_false]
          by_cases hc : val 0 l < 9223372036854775808
          · rw [if_neg (by omega), if_pos hc, Int.neg_neg]
          · rw [if_pos (by omega), if_neg hc]
        · simp only [if_true, if_pos hb]
      · rw [if_neg (fun h => hb h.2)]
        unfold pEnd
        cases signM s
        · simp only [Bool.false_eq_true, if_false]
          rw [if_neg (by omega)]
        · simp only [if_true, if_neg hb]
    · rw [if_neg (fun h => ha h.1), if_pos (Or.inr ha)]
      rfl

/-- Without noughts ahead, but for the last digit. -/
def noz : List Int → List Int
  | 48 :: d :: l => noz (d :: l)
  | l => l

theorem noz_cons (d e : Int) (l : List Int) : noz (d :: e :: l) = if d = 48 then noz (e :: l) else d :: e :: l := by
  by_cases h : d = 48
  · subst h; rw [if_pos rfl]; rfl
  · rw [if_neg h]
    unfold noz
    split
    · simp_all
    · rfl

theorem noz_spec : ∀ l : List Int, AllD l → l ≠ [] → val 0 (noz l) = val 0 l ∧ AllD (noz l) ∧ noz l ≠ [] ∧ ((noz l).length = 1 ∨ ∃ d r, noz l = d :: r ∧ 49 ≤ d)
  | [], _, h => absurd rfl h
  | [d], h, _ => by
    have e : noz [d] = [d] := by unfold noz; split <;> simp_all
    rw [e]
    exact ⟨rfl, h, by simp, Or.inl rfl⟩
  | d :: e :: l, h, _ => by
    rw [noz_cons]
    by_cases hd : d = 48
    · rw [if_pos hd]
      obtain ⟨a, b, c, e'⟩ := noz_spec (e :: l) h.tail (by simp)
      refine ⟨?_, b, c, e'⟩
      rw [a, hd]
      simp [val]
    · rw [if_neg hd]
      exact ⟨rfl, h, by simp, Or.inr ⟨d, e :: l, rfl, by have := h.head; omega⟩⟩

theorem ten_le (a b : Nat) (h : a ≤ b) : (10 : Int) ^ a ≤ 10 ^ b := by
  have := Nat.pow_le_pow_right (n := 10) (by decide) h
  exact_mod_cast this

/-- Is a row of digits without noughts ahead above one of 19 digits? -/
theorem above_iff (top r : List Int) (ht : AllD top) (hl : top.length = 19) (h9 : 1000000000000000000 ≤ val 0 top) (hr : AllD r) (hne : r ≠ []) (hz : r.length = 1 ∨ ∃ d q, r = d :: q ∧ 49 ≤ d) :
    (19 < r.length ∨ (19 = r.length ∧ cmpL top r = -1)) ↔ val 0 top < val 0 r := by
  have b1 := val_bounds top 0 (by decide) ht
  rw [hl] at b1
  have e19 : (10 : Int) ^ 19 = 10000000000000000000 := by decide +kernel
  have e18 : (10 : Int) ^ 18 = 1000000000000000000 := by decide +kernel
  rw [e19] at b1
  by_cases h1 : 19 < r.length
  · refine ⟨fun _ => ?_, fun _ => Or.inl h1⟩
    rcases hz with hz | ⟨d, q, rfl, hd⟩
    · omega
    · have b2 := val_bounds q (0 * 10 + (d - 48)) (by omega) hr.tail
      have hq : 19 ≤ q.length := by simp at h1; omega
      have hp : (10 : Int) ^ 19 ≤ 10 ^ q.length := ten_le _ _ hq
      have e2 : val 0 (d :: q) = val (0 * 10 + (d - 48)) q := rfl
      rw [e2]
      rw [e19] at hp
      have h2 : 1 * (10 : Int) ^ q.length ≤ (0 * 10 + (d - 48)) * 10 ^ q.length := Int.mul_le_mul_of_nonneg_right (by omega) (by omega)
      omega
  · by_cases h2 : r.length = 19
    · have hc := cmp_val top r 0 (by decide) ht hr (by omega)
      rw [hc]
      have := cmpI_range (val 0 top) (val 0 r)
      omega
    · refine ⟨fun h => by omega, fun h => ?_⟩
      exfalso
      have b2 := val_bounds r 0 (by decide) hr
      have hp : (10 : Int) ^ r.length ≤ 10 ^ 18 := ten_le _ _ (by omega)
      rw [e18] at hp
      omega

theorem val_append (l r : List Int) : ∀ n, val n (l ++ r) = val (val n l) r := by
  induction l with
  | nil => intro n; rfl
  | cons d l ih => intro n; exact ih _

theorem val_take (l : List Int) (k : Nat) (h : k < l.length) : val 0 (l.take (k + 1)) = val 0 (l.take k) * 10 + (l[k] - 48) := by
  rw [List.take_succ_eq_append_getElem h, val_append]
  rfl

theorem val_take_le (l : List Int) (h : AllD l) (k : Nat) : 0 ≤ val 0 (l.take k) ∧ val 0 (l.take k) ≤ val 0 l := by
  have ht : AllD (l.take k) := fun d hd => h d (List.mem_of_mem_take hd)
  have hdr : AllD (l.drop k) := fun d hd => h d (List.mem_of_mem_drop hd)
  have h0 := val_ge _ 0 (by decide) ht
  refine ⟨h0, ?_⟩
  have := val_ge (l.drop k) (val 0 (l.take k)) h0 hdr
  rw [← val_append, List.take_append_drop] at this
  exact this

end Go.Proofs.YtbankegfmamoiaaDoor
