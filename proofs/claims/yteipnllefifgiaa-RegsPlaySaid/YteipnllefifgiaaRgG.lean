/-
  Have two registers the same: regs.Same, and the document's; at this seat's numbers.
-/
import Derived.Test.YteipnllefifgiaaRgF
namespace Go.Proofs.Yteipnllefifgiaa
open Go Go.RowKit
set_option linter.unusedVariables false

set_option maxRecDepth 100000 in
set_option maxHeartbeats 4000000 in
theorem rgsame_of {w : World} {lo hi lo' hi' : Nat} {a b : Option Addr} {c d : Nat} {T U : List TxM} (k k' : Int) (hr : Mx w lo hi a c T) (hr2 : Mx w lo' hi' b d U) (hl : T.length ≤ 1000000) (ht : Thin (txL T)) :
    Calls Try.prog 18 #[rgV k a T.length c, rgV k' b U.length d] w fun e w' => e = .returned (.bool (decide (k = k' ∧ txL T = txL U))) ∧ Below w.heap.size w w' := by
  unfold rgV
  obtain ⟨B, hB⟩ : ∃ B, decide (k = k' ∧ txL T = txL U) = B := ⟨_, rfl⟩
  rw [hB]
  have hal : Below w.heap.size w ((w.alloc (.cells #[.int .i64 k, .slice a T.length c] 41)).alloc (.cells #[.int .i64 k', .slice b U.length d] 41)) := (t_al w _).alloc (by simp) _
  have HE := Lib.hid (equalf_of (hr.below hal) (hr2.below hal) hl ht)
  have HAL := Lib.hid hal
  clear hr hr2 hal
  by_cases hk : k = k'
  · have HBE : Hid (decide (txL T = txL U) = B) := Lib.hid (by rw [← hB, decide_eq_decide]; exact ⟨fun h => ⟨hk, h⟩, fun h => h.2⟩)
    rw [HBE.out] at HE
    clear hB HBE
    subst hk
    generalize T.length = n at *
    generalize U.length = m at *
    have d0 : (k == k) = true := by simp
    go_enter Try.func18, Try.ntmps18
    go_wp2_with fail
    refine HE.out.mono ?_; rintro e w2 ⟨rfl, b2⟩
    have B2 := Lib.hid (HAL.out.trans (b2.mono HAL.out.size))
    clear b2
    go_wp2_with fail
    go_ret
    exact ⟨rfl, B2.out⟩
  · have HD : Hid (B = false) := Lib.hid (by rw [← hB]; exact decide_eq_false (fun h => hk h.1))
    have d0 : (k == k') = false := by simpa using hk
    clear hk HE hB
    go_enter Try.func18, Try.ntmps18
    go_wp2_with fail
    go_ret
    exact ⟨by rw [HD.out] <;> rfl, HAL.out⟩

set_option maxRecDepth 100000 in
set_option maxHeartbeats 4000000 in
theorem rrgsame_of {w : World} {lo hi lo' hi' : Nat} {a b : Option Addr} {c d : Nat} {T U : List TxM} (k k' : Int) (hr : Mx w lo hi a c T) (hr2 : Mx w lo' hi' b d U) (hl : T.length ≤ 1000000) (ht : Thin (txL T)) :
    Calls Try.prog 16 #[rgV k a T.length c, rgV k' b U.length d] w fun e w' => e = .returned (.bool (decide (k = k' ∧ txL T = txL U))) ∧ Below w.heap.size w w' := by
  unfold rgV
  obtain ⟨B, hB⟩ : ∃ B, decide (k = k' ∧ txL T = txL U) = B := ⟨_, rfl⟩
  rw [hB]
  have hal : Below w.heap.size w ((w.alloc (.cells #[.int .i64 k, .slice a T.length c] 28)).alloc (.cells #[.int .i64 k', .slice b U.length d] 28)) := (t_al w _).alloc (by simp) _
  have HE := Lib.hid (msame_of (hr.below hal) (hr2.below hal) hl ht)
  have HAL := Lib.hid hal
  clear hr hr2 hal
  by_cases hk : k = k'
  · have HBE : Hid (decide (txL T = txL U) = B) := Lib.hid (by rw [← hB, decide_eq_decide]; exact ⟨fun h => ⟨hk, h⟩, fun h => h.2⟩)
    rw [HBE.out] at HE
    clear hB HBE
    subst hk
    generalize T.length = n at *
    generalize U.length = m at *
    have d0 : (k == k) = true := by simp
    go_enter Try.func16, Try.ntmps16
    go_wp2_with fail
    refine HE.out.mono ?_; rintro e w2 ⟨rfl, b2⟩
    have B2 := Lib.hid (HAL.out.trans (b2.mono HAL.out.size))
    clear b2
    go_wp2_with fail
    go_ret
    exact ⟨rfl, B2.out⟩
  · have HD : Hid (B = false) := Lib.hid (by rw [← hB]; exact decide_eq_false (fun h => hk h.1))
    have d0 : (k == k') = false := by simpa using hk
    clear hk HE hB
    go_enter Try.func16, Try.ntmps16
    go_wp2_with fail
    go_ret
    exact ⟨by rw [HD.out] <;> rfl, HAL.out⟩

end Go.Proofs.Yteipnllefifgiaa
