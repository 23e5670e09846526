/-
  The contracts of scan's small functions, at this seat's numbers.
-/
import Derived.Test.YtmdifcgnmkpecaaArA
import Derived.Test.YtmdifcgnmkpecaaScP
namespace Go.Proofs.Ytmdifcgnmkpecaa
open Go Go.RowKit
set_option linter.unusedVariables false

theorem rd_at {w : World} {a : Option Addr} {l : List UInt8} (h : Rd w 1 a l.length (bc l)) {i : Nat} (hi : i < l.length) : ∃ b off, a = some ⟨b, off, none⟩ ∧ b < w.heap.size ∧ w.cell? ⟨b, off + i, none⟩ = some (.int .u8 (lb l i)) := by
  obtain ⟨b, off, rfl, hb, hc⟩ := h.2 (by omega)
  refine ⟨b, off, rfl, hb, hc i _ ?_⟩
  unfold bc lb
  rw [List.getElem?_map, List.getElem?_eq_getElem hi, List.getD_eq_getElem?_getD, List.getElem?_eq_getElem hi]; rfl
theorem lb_lo (l : List UInt8) (i : Nat) : 0 ≤ lb l i := by unfold lb; omega
theorem lb_hi (l : List UInt8) (i : Nat) : lb l i < 256 := by unfold lb; have := (l.getD i 0).toNat_lt; omega

theorem isMark_yes (x : Int) (h : mkB x = true) (w : World) : Calls Try.prog 105 #[.int .u8 x] w fun e w' => e = .returned (.bool true) ∧ w = w' := by
  unfold mkB at h
  simp only [decide_eq_true_eq] at h
  rcases h with rfl | rfl | rfl
  all_goals
    go_enter Try.func105, Try.ntmps105
    go_wp2_with fail
    go_ret
    exact ⟨rfl, rfl⟩
theorem isMark_no (x : Int) (h : mkB x = false) (w : World) : Calls Try.prog 105 #[.int .u8 x] w fun e w' => e = .returned (.bool false) ∧ w = w' := by
  unfold mkB at h
  simp only [decide_eq_false_iff_not, not_or] at h
  have d1 : (x == 44) = false := by simpa using h.1
  have d2 : (x == 13) = false := by simpa using h.2.1
  have d3 : (x == 10) = false := by simpa using h.2.2
  clear h
  go_enter Try.func105, Try.ntmps105
  go_wp2_with fail
  go_ret
  exact ⟨rfl, rfl⟩
theorem isQuote_yes (x : Int) (h : x = 34) (w : World) : Calls Try.prog 101 #[.int .u8 x] w fun e w' => e = .returned (.bool true) ∧ w = w' := by
  subst h
  go_enter Try.func101, Try.ntmps101
  go_wp2_with fail
  go_ret
  exact ⟨rfl, rfl⟩
theorem isQuote_no (x : Int) (h : x ≠ 34) (w : World) : Calls Try.prog 101 #[.int .u8 x] w fun e w' => e = .returned (.bool false) ∧ w = w' := by
  have d1 : (x == 34) = false := by simpa using h
  clear h
  go_enter Try.func101, Try.ntmps101
  go_wp2_with fail
  go_ret
  exact ⟨rfl, rfl⟩

set_option maxHeartbeats 800000 in
theorem until_mark {w : World} {a : Option Addr} {c : Nat} {l : List UInt8} (hr : Rd w 1 a l.length (bc l)) (hl : l.length ≤ 1000000) (i : Nat) (hi : i ≤ l.length) :
    Calls Try.prog 102 #[.slice a l.length c, .int .i64 i, .func (.func 105) #[] #[]] w fun e w' => e = .returned (.int .i64 (till l i)) ∧ w = w' := by
  have HR := Lib.hid hr
  clear hr
  go_enter Try.func102, Try.ntmps102
  go_wp2_with fail
  go_loop [1] (fun v => ∃ k : Nat, k ≤ l.length ∧ v = .int .i64 k ∧ till l k = till l i) (fun v => l.length - (intOf v).toNat)
  case atStart => exact ⟨i, hi, rfl, rfl⟩
  case round =>
    obtain ⟨k, hk, rfl, ht⟩ := hrel
    have HT := Lib.hid ht
    clear ht
    by_cases hlt : k < l.length
    · have dk : decide (k < l.length) = true := decide_eq_true hlt
      obtain ⟨b, off, rfl, hb, hc⟩ := rd_at HR.out hlt
      by_cases hm : mkB (lb l k) = true
      · have HM := Lib.hid (isMark_yes _ hm)
        have HE := Lib.hid (till_stop (l := l) (i := k) (by rw [mkAt_in hlt]; exact hm))
        clear hm
        generalize lb l k = x at *
        go_wp2_with (go_at_call 105; refine (HM.out _).mono ?_; rintro e w' ⟨rfl, rfl⟩)
        go_ret
        exact ⟨by rw [← HT.out, HE.out] <;> rfl, rfl⟩
      · have hm := Bool.eq_false_iff.2 hm
        have HM := Lib.hid (isMark_no _ hm)
        have HE := Lib.hid (till_step (l := l) (i := k) (by rw [mkAt_in hlt]; exact hm))
        clear hm
        generalize lb l k = x at *
        go_wp2_with (go_at_call 105; refine (HM.out _).mono ?_; rintro e w' ⟨rfl, rfl⟩)
        go_round
        case rel => exact ⟨k + 1, hlt, by go_num, by rw [← HT.out, HE.out]⟩
        case measure => simp [intOf]; omega
    · have dk : decide (k < l.length) = false := decide_eq_false hlt
      have HE := Lib.hid (till_stop (l := l) (i := k) (mkAt_out (by omega)))
      go_wp2_with fail
      go_ret
      exact ⟨by rw [← HT.out, HE.out] <;> rfl, rfl⟩

set_option maxHeartbeats 800000 in
theorem until_quote {w : World} {a : Option Addr} {c : Nat} {l : List UInt8} (hr : Rd w 1 a l.length (bc l)) (hl : l.length ≤ 1000000) (i : Nat) (hi : i ≤ l.length) :
    Calls Try.prog 102 #[.slice a l.length c, .int .i64 i, .func (.func 101) #[] #[]] w fun e w' => e = .returned (.int .i64 (untQ l i)) ∧ w = w' := by
  have HR := Lib.hid hr
  clear hr
  go_enter Try.func102, Try.ntmps102
  go_wp2_with fail
  go_loop [1] (fun v => ∃ k : Nat, k ≤ l.length ∧ v = .int .i64 k ∧ untQ l k = untQ l i) (fun v => l.length - (intOf v).toNat)
  case atStart => exact ⟨i, hi, rfl, rfl⟩
  case round =>
    obtain ⟨k, hk, rfl, ht⟩ := hrel
    have HT := Lib.hid ht
    clear ht
    by_cases hlt : k < l.length
    · have dk : decide (k < l.length) = true := decide_eq_true hlt
      obtain ⟨b, off, rfl, hb, hc⟩ := rd_at HR.out hlt
      by_cases hm : lb l k = 34
      · have HM := Lib.hid (isQuote_yes _ hm)
        have HE := Lib.hid (untQ_stop (l := l) (i := k) (by rw [quAt_in hlt]; simpa using hm))
        clear hm
        generalize lb l k = x at *
        go_wp2_with (go_at_call 101; refine (HM.out _).mono ?_; rintro e w' ⟨rfl, rfl⟩)
        go_ret
        exact ⟨by rw [← HT.out, HE.out] <;> rfl, rfl⟩
      · have HM := Lib.hid (isQuote_no _ hm)
        have HE := Lib.hid (untQ_step (l := l) (i := k) hlt (by rw [quAt_in hlt]; simpa using hm))
        clear hm
        generalize lb l k = x at *
        go_wp2_with (go_at_call 101; refine (HM.out _).mono ?_; rintro e w' ⟨rfl, rfl⟩)
        go_round
        case rel => exact ⟨k + 1, hlt, by go_num, by rw [← HT.out, HE.out]⟩
        case measure => simp [intOf]; omega
    · have dk : decide (k < l.length) = false := decide_eq_false hlt
      have HE := Lib.hid (untQ_end (l := l) (i := k) (by omega))
      go_wp2_with fail
      go_ret
      exact ⟨by rw [← HT.out, HE.out] <;> rfl, rfl⟩

theorem quoteAt_yes {w : World} {a : Option Addr} {c : Nat} {l : List UInt8} (hr : Rd w 1 a l.length (bc l)) (hl : l.length ≤ 1000000) (i : Nat) (h : quAt l i = true) :
    Calls Try.prog 87 #[.slice a l.length c, .int .i64 i] w fun e w' => e = .returned (.bool true) ∧ w = w' := by
  obtain ⟨hlt, hq⟩ := quAt_yes h
  obtain ⟨b, off, rfl, hb, hc⟩ := rd_at hr hlt
  have dk : decide (i < l.length) = true := decide_eq_true hlt
  have HM := Lib.hid (isQuote_yes _ hq)
  clear hr h hq
  generalize lb l i = x at *
  go_enter Try.func87, Try.ntmps87
  go_wp2_with (go_at_call 101; refine (HM.out _).mono ?_; rintro e w' ⟨rfl, rfl⟩)
  go_ret
  exact ⟨rfl, rfl⟩
theorem quoteAt_no {w : World} {a : Option Addr} {c : Nat} {l : List UInt8} (hr : Rd w 1 a l.length (bc l)) (hl : l.length ≤ 1000000) (i : Nat) (h : quAt l i = false) :
    Calls Try.prog 87 #[.slice a l.length c, .int .i64 i] w fun e w' => e = .returned (.bool false) ∧ w = w' := by
  by_cases hlt : i < l.length
  · rw [quAt_in hlt] at h
    simp only [decide_eq_false_iff_not] at h
    obtain ⟨b, off, rfl, hb, hc⟩ := rd_at hr hlt
    have dk : decide (i < l.length) = true := decide_eq_true hlt
    have HM := Lib.hid (isQuote_no _ h)
    clear hr h
    generalize lb l i = x at *
    go_enter Try.func87, Try.ntmps87
    go_wp2_with (go_at_call 101; refine (HM.out _).mono ?_; rintro e w' ⟨rfl, rfl⟩)
    go_ret
    exact ⟨rfl, rfl⟩
  · have dk : decide (i < l.length) = false := decide_eq_false hlt
    clear hr h
    go_enter Try.func87, Try.ntmps87
    go_wp2_with fail
    go_ret
    exact ⟨rfl, rfl⟩

end Go.Proofs.Ytmdifcgnmkpecaa
