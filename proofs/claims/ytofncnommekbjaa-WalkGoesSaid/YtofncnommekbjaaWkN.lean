/-
  What the reference of layer 10 tells, in the words of walk's contracts.
-/
import Derived.Test.YtofncnommekbjaaWkM
import Derived.Test.YtofncnommekbjaaWkJ
import Derived.Test.YtofncnommekbjaaTuC
namespace Go.Proofs.Ytofncnommekbjaa
open Go Go.RowKit
set_option linter.unusedVariables false

theorem heldN_min (I : Int) {k n : Nat} (h : k ≤ n) : heldN I k = min (heldN I n) k := by
  unfold heldN
  by_cases h1 : I ≤ 0 <;> by_cases h2 : (k : Int) ≤ I <;> by_cases h3 : (n : Int) ≤ I <;> simp only [h1, h2, h3, if_true, if_false] <;> omega
theorem heldN_max (I K : Int) (n : Nat) : heldN (max I K) n = max (heldN I n) (heldN K n) := by
  unfold heldN
  by_cases h1 : I ≤ 0 <;> by_cases h2 : K ≤ 0 <;> by_cases h3 : (n : Int) ≤ I <;> by_cases h4 : (n : Int) ≤ K <;> simp only [h1, h2, h3, h4, if_true, if_false] <;> (repeat' split) <;> omega
theorem nums_slZ (l : List Int) (I K : Int) : nums (slZ l I K) = slV (nums l) I K := by
  have hq := heldN_le K l.length
  have hm := heldN_min I hq
  unfold slZ slV
  rw [nums_len, nums_take, nums_len, List.length_take, Nat.min_eq_left hq, hm, nums_drop]
  congr 1
  generalize heldN I l.length = p at *
  generalize heldN K l.length = q at *
  rcases Nat.le_total p q with h | h
  · rw [show max p q = q by omega, show min p q = p by omega, List.drop_take]
  · rw [show max p q = p by omega, show min p q = q by omega, List.drop_take, Nat.sub_self, Nat.sub_self, List.take_zero, List.take_zero]
theorem nums_spZ (l o : List Int) (I K : Int) : nums (spZ l I K o) = spV (nums l) I K (nums o) := by
  unfold spZ spV
  rw [nums_len, nums_take, nums_drop, nums_app, nums_app, heldN_max]
theorem nums_mvZ (l : List Int) (I K T : Int) : nums (mvZ l I K T) = mvV (nums l) I K T := by
  unfold mvZ mvV
  rw [nums_spZ, nums_spZ, nums_slZ]
  rfl

theorem nfew10 {w : World} {a : Option Addr} {c : Nat} (l : List Int) (H : Sl w a c (nums l)) :
    Calls Try.prog 26 #[.slice a l.length c] w fun e w' => e = .returned (.slice a (l.take 300).length c) ∧ Sl w' a c (nums (l.take 300)) ∧ w = w' := by
  have hcap := H.cap
  rw [nums_len] at hcap
  have HT : Hid (Sl w a c (nums (l.take 300))) := by rw [← nums_take]; exact Lib.hid (H.take 300)
  by_cases h : 300 < l.length
  · obtain ⟨g, o, rfl⟩ := H.numsome (by omega)
    have hl : (l.take 300).length = 300 := by rw [List.length_take]; omega
    rw [hl]
    generalize l.length = n at *
    have d0 : decide ((300 : Int) < (n : Int)) = true := decide_eq_true (by omega)
    have e0 : (300 : Int) ≤ (n : Int) := by omega
    have e1 : (300 : Int) ≤ (c : Int) := by omega
    have e2 : (n : Int) ≤ (c : Int) := by omega
    clear H hl
    go_enter Try.func26, Try.ntmps26
    go_wp2_with fail
    go_ret
    exact ⟨rfl, HT.out, rfl⟩
  · have hl : l.take 300 = l := List.take_of_length_le (by omega)
    rw [hl] at HT ⊢
    generalize l.length = n at *
    have d0 : decide ((300 : Int) < (n : Int)) = false := decide_eq_false (by omega)
    clear H hl
    go_enter Try.func26, Try.ntmps26
    go_wp2_with fail
    go_ret
    exact ⟨rfl, HT.out, rfl⟩


end Go.Proofs.Ytofncnommekbjaa
