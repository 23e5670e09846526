/-
  Drop of registers, the program's and the document's; at this seat's numbers.
-/
import Derived.Test.YteipnllefifgiaaRgR
namespace Go.Proofs.Yteipnllefifgiaa
open Go Go.RowKit
set_option linter.unusedVariables false

def dropS (S : List RV) (x : Int) : Bool × List RV :=
  if 0 ≤ letK x then (if 0 < (gR S (letK x).toNat).2.length then (true, S.set (letK x).toNat (0, [])) else (false, S)) else (false, S)
def DropPost (t lo b : Nat) (S : Bool × List RV) (w : World) (e : Ending) (w' : World) : Prop :=
  e = .returned (.bool S.1) ∧ ∃ R', sem R' = S.2 ∧ Rg w' t lo w'.heap.size b R' ∧ Only b w w'

set_option maxRecDepth 100000 in
set_option maxHeartbeats 4000000 in
theorem drop_of {w : World} {lo hi b : Nat} {R : List Rv} (H : Rg w 57 lo hi b R) (x : Int) : Calls Try.prog 21 #[.pointer (some ⟨b, 0, none⟩), .int .i64 x] w (DropPost 57 lo b (dropS (sem R) x) w) := by
  unfold DropPost
  have HS := Lib.hid (fun w => slot_of x w)
  have HBL := Lib.hid (Nat.le_of_lt H.lt)
  by_cases h : 0 ≤ letK x
  · have hl := letK_hi x
    obtain ⟨i, hi'⟩ : ∃ i : Nat, letK x = i := ⟨(letK x).toNat, by omega⟩
    have hi26 : i < 26 := by omega
    obtain ⟨r, hir⟩ := H.get (i := i) (by omega)
    have HIR := Lib.hid hir
    have HD : Hid (dropS (sem R) x = if 0 < r.T.length then (true, (sem R).set i (0, [])) else (false, sem R)) := Lib.hid (by
      unfold dropS; rw [if_pos h, hi', Int.toNat_natCast, gR_at hir]; simp only []; rw [txL_len])
    rw [decide_eq_true h, if_neg (by omega)] at HS
    rw [hi'] at HS
    have e0 : (0 : Int) ≤ (i : Int) := by omega
    have e1 : (i : Int) < 26 := by omega
    have d0 : decide ((i : Int) < 0) = false := decide_eq_false (by omega)
    have HR := Lib.hid H
    obtain ⟨c0, c1⟩ := H.cell hir
    have zz0 := fun j => unfrozen H.obj j
    have HAN := Lib.hid (fun w => any_of r.k r.a r.T.length r.c w)
    unfold rgV at HAN
    clear h hl hi' hir H
    by_cases h0 : 0 < r.T.length
    · rw [if_pos h0] at HD
      rw [decide_eq_true h0] at HAN
      have d1 : ((r.T.length : Int) == 0) = false := by rw [beq_eq_false_iff_ne]; omega
      have d2 : (r.T.length == 0) = false := by rw [beq_eq_false_iff_ne]; omega
      generalize hrn : r.T.length = n at *
      clear hrn
      generalize r.k = k at *
      generalize r.a = a at *
      generalize r.c = c at *
      go_enter Try.func21, Try.ntmps21
      go_wp2_with fail
      refine (HS.out _).mono ?_; rintro e w2 ⟨rfl, rfl⟩
      go_wp2_with fail
      refine (HAN.out _).mono ?_; rintro e w3 ⟨rfl, hb3⟩
      have HB3 := Lib.hid hb3
      have HR3 := Lib.hid (HR.out.below hb3)
      clear hb3
      obtain ⟨s0, s1⟩ := HR3.out.cell HIR.out
      have zz := fun j => unfrozen HR3.out.obj j
      have HP : Hid (Rg (set2 w3 b (i * 2) (.int .i64 0) (.slice none 0 0)) 57 lo hi b (R.set i rv0)) := Lib.hid (HR3.out.put (i := i) (r := rv0) (Mx.nil _ _ _) ⟨Nat.zero_le _, Nat.zero_le _⟩)
      have HO : Hid (Only b w (set2 w3 b (i * 2) (.int .i64 0) (.slice none 0 0))) := Lib.hid ((Only.of_below HB3.out HBL.out).trans (Only.set2 (Nat.le_of_lt HR3.out.lt)))
      go_upto_region 5 with fail
      rw [show (w3.setCell ⟨b, i * 2, none⟩ (.int .i64 0)).setCell ⟨b, i * 2 + 1, none⟩ (.slice none 0 0) = set2 w3 b (i * 2) (.int .i64 0) (.slice none 0 0) from rfl]
      generalize set2 w3 b (i * 2) (.int .i64 0) (.slice none 0 0) = w7 at *
      clear zz0 c0 c1
      go_wp2_with fail
      go_ret
      exact ⟨by rw [HD.out] <;> rfl, R.set i rv0, by rw [HD.out, sem_set] <;> rfl, HP.out.mono HP.out.hi_ (Nat.le_refl _), HO.out⟩
    · rw [if_neg h0] at HD
      rw [decide_eq_false h0] at HAN
      have h00 : r.T.length = 0 := by omega
      rw [h00] at HAN c1
      clear h00 h0
      generalize r.k = k at *
      generalize r.a = a at *
      generalize r.c = c at *
      go_enter Try.func21, Try.ntmps21
      go_wp2_with fail
      refine (HS.out _).mono ?_; rintro e w2 ⟨rfl, rfl⟩
      go_wp2_with fail
      refine (HAN.out _).mono ?_; rintro e w3 ⟨rfl, hb3⟩
      have HB3 := Lib.hid hb3
      have HR3 := Lib.hid (HR.out.below hb3)
      clear hb3
      go_wp2_with fail
      go_ret
      exact ⟨by rw [HD.out] <;> rfl, R, by rw [HD.out], HR3.out.mono HR3.out.hi_ (Nat.le_refl _), Only.of_below HB3.out HBL.out⟩
  · have HD : Hid (dropS (sem R) x = (false, sem R)) := Lib.hid (by unfold dropS; rw [if_neg h])
    rw [decide_eq_false h, if_pos (by omega)] at HS
    have HR := Lib.hid H
    clear H h
    generalize letK x = k at *
    go_enter Try.func21, Try.ntmps21
    go_wp2_with fail
    refine (HS.out _).mono ?_; rintro e w2 ⟨rfl, rfl⟩
    go_wp2_with fail
    go_ret
    exact ⟨by rw [HD.out] <;> rfl, R, by rw [HD.out], HR.out.mono HR.out.hi_ (Nat.le_refl _), Only.of_below (Below.refl _ _) HBL.out⟩

set_option maxRecDepth 100000 in
set_option maxHeartbeats 4000000 in
theorem rdrop_of {w : World} {lo hi b : Nat} {R : List Rv} (H : Rg w 31 lo hi b R) (x : Int) : Calls Try.prog 24 #[.pointer (some ⟨b, 0, none⟩), .int .i64 x] w (DropPost 31 lo b (dropS (sem R) x) w) := by
  unfold DropPost
  have HS := Lib.hid (fun w => letter_of x w)
  have HBL := Lib.hid (Nat.le_of_lt H.lt)
  by_cases h : 0 ≤ letK x
  · have hl := letK_hi x
    obtain ⟨i, hi'⟩ : ∃ i : Nat, letK x = i := ⟨(letK x).toNat, by omega⟩
    have hi26 : i < 26 := by omega
    obtain ⟨r, hir⟩ := H.get (i := i) (by omega)
    have HIR := Lib.hid hir
    have HD : Hid (dropS (sem R) x = if 0 < r.T.length then (true, (sem R).set i (0, [])) else (false, sem R)) := Lib.hid (by
      unfold dropS; rw [if_pos h, hi', Int.toNat_natCast, gR_at hir]; simp only []; rw [txL_len])
    skip
    rw [hi'] at HS
    have e0 : (0 : Int) ≤ (i : Int) := by omega
    have e1 : (i : Int) < 26 := by omega
    have d0 : decide ((i : Int) < 0) = false := decide_eq_false (by omega)
    have HR := Lib.hid H
    obtain ⟨c0, c1⟩ := H.cell hir
    have zz0 := fun j => unfrozen H.obj j
    have HAN := Lib.hid (fun w => any_of r.k r.a r.T.length r.c w)
    unfold rgV at HAN
    clear h hl hi' hir H
    by_cases h0 : 0 < r.T.length
    · rw [if_pos h0] at HD
      rw [decide_eq_true h0] at HAN
      have d1 : ((r.T.length : Int) == 0) = false := by rw [beq_eq_false_iff_ne]; omega
      have d2 : (r.T.length == 0) = false := by rw [beq_eq_false_iff_ne]; omega
      generalize hrn : r.T.length = n at *
      clear hrn
      generalize r.k = k at *
      generalize r.a = a at *
      generalize r.c = c at *
      go_enter Try.func24, Try.ntmps24
      go_wp2_with fail
      refine (HS.out _).mono ?_; rintro e w2 ⟨rfl, rfl⟩
      skip
      have HP : Hid (Rg (set2 w b (i * 2) (.int .i64 0) (.slice none 0 0)) 31 lo hi b (R.set i rv0)) := Lib.hid (HR.out.put (i := i) (r := rv0) (Mx.nil _ _ _) ⟨Nat.zero_le _, Nat.zero_le _⟩)
      have HO : Hid (Only b w (set2 w b (i * 2) (.int .i64 0) (.slice none 0 0))) := Lib.hid (Only.set2 HBL.out)
      go_upto_region 5 with fail
      rw [show (w.setCell ⟨b, i * 2, none⟩ (.int .i64 0)).setCell ⟨b, i * 2 + 1, none⟩ (.slice none 0 0) = set2 w b (i * 2) (.int .i64 0) (.slice none 0 0) from rfl]
      generalize set2 w b (i * 2) (.int .i64 0) (.slice none 0 0) = w7 at *
      clear zz0 c0 c1
      go_wp2_with fail
      go_ret
      exact ⟨by rw [HD.out] <;> rfl, R.set i rv0, by rw [HD.out, sem_set] <;> rfl, HP.out.mono HP.out.hi_ (Nat.le_refl _), HO.out⟩
    · rw [if_neg h0] at HD
      rw [decide_eq_false h0] at HAN
      have h00 : r.T.length = 0 := by omega
      rw [h00] at HAN c1
      clear h00 h0
      generalize r.k = k at *
      generalize r.a = a at *
      generalize r.c = c at *
      go_enter Try.func24, Try.ntmps24
      go_wp2_with fail
      refine (HS.out _).mono ?_; rintro e w2 ⟨rfl, rfl⟩
      go_wp2_with fail
      go_ret
      exact ⟨by rw [HD.out] <;> rfl, R, by rw [HD.out], HR.out.mono HR.out.hi_ (Nat.le_refl _), Only.of_below (Below.refl _ _) HBL.out⟩
  · have HD : Hid (dropS (sem R) x = (false, sem R)) := Lib.hid (by unfold dropS; rw [if_neg h])
    have d0 : decide (letK x < 0) = true := decide_eq_true (by omega)
    have HR := Lib.hid H
    clear H h
    generalize letK x = k at *
    go_enter Try.func24, Try.ntmps24
    go_wp2_with fail
    refine (HS.out _).mono ?_; rintro e w2 ⟨rfl, rfl⟩
    go_wp2_with fail
    go_ret
    exact ⟨by rw [HD.out] <;> rfl, R, by rw [HD.out], HR.out.mono HR.out.hi_ (Nat.le_refl _), Only.of_below (Below.refl _ _) HBL.out⟩

end Go.Proofs.Yteipnllefifgiaa
