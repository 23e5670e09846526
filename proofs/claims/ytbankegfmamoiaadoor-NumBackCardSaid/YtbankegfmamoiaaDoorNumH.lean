/-
  The contract of the document's own Parse, at this seat's numbers.
-/
import Derived.Test.YtbankegfmamoiaaDoorNumG
namespace Go.Proofs.YtbankegfmamoiaaDoor
open Go Go.RowKit
set_option linter.unusedVariables false

/-- What the document's Parse answers, by its words. -/
def rp (s : ByteArray) : Int × Bool := res (signM s) ((bl s).drop (signK s))
theorem rp_parse (s : ByteArray) : rp s = parse s := (parse_eq s).symm
def RPPost (s : ByteArray) (w : World) (e : Ending) (w' : World) : Prop := e = .returned (.tuple #[.int .i64 (rp s).1, .bool (rp s).2]) ∧ w = w'

/-- Digits up to place k. -/
def DigTo (t : ByteArray) (k : Nat) : Prop := ∀ j, j < k → 48 ≤ bt t j ∧ bt t j ≤ 57
theorem DigTo.all {t : ByteArray} (h : DigTo t t.size) : AllD (bl t) := fun d hd => by
  obtain ⟨i, hi, rfl⟩ := List.getElem_of_mem hd
  rw [bl_get]
  exact h i (by rw [bl_len] at hi; exact hi)
theorem DigTo.step {t : ByteArray} {k : Nat} (h : DigTo t k) (h0 : 48 ≤ bt t k ∧ bt t k ≤ 57) : DigTo t (k + 1) := fun j hj => by
  by_cases e : j = k
  · subst e; exact h0
  · exact h j (by omega)
theorem not_all {t : ByteArray} {k : Nat} (hk : k < t.size) (h : ¬ (48 ≤ bt t k ∧ bt t k ≤ 57)) : ¬ AllD (bl t) := fun ha => by
  have hk' : k < (bl t).length := by rw [bl_len]; exact hk
  have := ha ((bl t)[k]'hk') (List.getElem_mem hk')
  rw [bl_get] at this
  exact h this
theorem res_empty (mi : Bool) (t : ByteArray) (h : t.size = 0) : res mi (bl t) = (0, false) := by
  unfold res
  rw [if_pos (Or.inl (List.eq_nil_of_length_eq_zero (by rw [bl_len]; exact h)))]
theorem res_not (mi : Bool) (t : ByteArray) (h : ¬ AllD (bl t)) : res mi (bl t) = (0, false) := by
  unfold res
  rw [if_pos (Or.inr h)]

def top (mi : Bool) : ByteArray := if mi then ⟨#[57, 50, 50, 51, 51, 55, 50, 48, 51, 54, 56, 53, 52, 55, 55, 53, 56, 48, 56]⟩ else ⟨#[57, 50, 50, 51, 51, 55, 50, 48, 51, 54, 56, 53, 52, 55, 55, 53, 56, 48, 55]⟩
def topV (mi : Bool) : Int := if mi then 9223372036854775808 else 9223372036854775807
theorem top_val (mi : Bool) : val 0 (bl (top mi)) = topV mi := by cases mi <;> decide +kernel
theorem top_all (mi : Bool) : AllD (bl (top mi)) := by cases mi <;> decide +kernel
theorem top_len (mi : Bool) : (bl (top mi)).length = 19 := by cases mi <;> decide +kernel
theorem top_size (mi : Bool) : (top mi).size = 19 := by cases mi <;> rfl

theorem less_top (mi : Bool) (t u : ByteArray) (ha : AllD (bl t)) (hne : t.size ≠ 0) (hu : bl u = noz (bl t)) : lessB (top mi) u = decide (topV mi < val 0 (bl t)) := by
  obtain ⟨a, b, c, d⟩ := noz_spec (bl t) ha (fun h => hne (by rw [← bl_len, h]; rfl))
  rw [← hu] at a b c d
  have := above_iff (bl (top mi)) (bl u) (top_all mi) (top_len mi) (by rw [top_val]; cases mi <;> decide) b c d
  unfold lessB
  rw [← bl_len, ← bl_len u, top_len, ← a, ← top_val mi]
  exact decide_eq_decide.2 this

theorem res_big (mi : Bool) (t : ByteArray) (ha : AllD (bl t)) (hne : t.size ≠ 0) (h : topV mi < val 0 (bl t)) : res mi (bl t) = (0, false) := by
  unfold res
  rw [if_neg (by rintro (k | k); exact hne (by rw [← bl_len, k]; rfl); exact k ha)]
  cases mi
  · have h' : (9223372036854775807 : Int) < val 0 (bl t) := h
    simp only [Bool.false_eq_true, if_false]
    rw [if_neg (by omega)]
  · have h' : (9223372036854775808 : Int) < val 0 (bl t) := h
    simp only [if_true]
    rw [if_neg (by omega)]
theorem res_fits (mi : Bool) (t : ByteArray) (ha : AllD (bl t)) (hne : t.size ≠ 0) (h : ¬ topV mi < val 0 (bl t)) : res mi (bl t) = (if mi then -(val 0 (bl t)) else val 0 (bl t), true) := by
  unfold res
  rw [if_neg (by rintro (k | k); exact hne (by rw [← bl_len, k]; rfl); exact k ha)]
  cases mi
  · have h' : ¬ (9223372036854775807 : Int) < val 0 (bl t) := h
    simp only [Bool.false_eq_true, if_false]
    rw [if_pos (by omega)]
  · have h' : ¬ (9223372036854775808 : Int) < val 0 (bl t) := h
    simp only [if_true]
    rw [if_pos (by omega)]

/-- The loop's number behind k digits. -/
def AtV (mi : Bool) (u : ByteArray) (k : Nat) (x : Int) : Prop := x = if mi then -(val 0 ((bl u).take k)) else val 0 ((bl u).take k)

theorem empty_yes (t : ByteArray) (h : t.size = 0) : t.toList.isEmpty = true := by
  rw [ByteArray.toList_eq, List.isEmpty_iff]
  exact List.eq_nil_of_length_eq_zero h
theorem empty_no (t : ByteArray) (h : t.size ≠ 0) : t.toList.isEmpty = false := by
  rw [ByteArray.toList_eq, List.isEmpty_eq_false_iff]
  intro k
  exact h (show t.data.toList.length = 0 by rw [k]; rfl)

theorem atV_bound (mi : Bool) (t u : ByteArray) (ha : AllD (bl t)) (hne : t.size ≠ 0) (hu : bl u = noz (bl t)) (hl : ¬ topV mi < val 0 (bl t)) (k : Nat) : 0 ≤ val 0 ((bl u).take k) ∧ val 0 ((bl u).take k) ≤ topV mi := by
  obtain ⟨a, b, c, d⟩ := noz_spec (bl t) ha (fun h => hne (by rw [← bl_len, h]; rfl))
  rw [← hu] at a b
  have := val_take_le (bl u) b k
  omega
theorem digit_at (t u : ByteArray) (ha : AllD (bl t)) (hne : t.size ≠ 0) (hu : bl u = noz (bl t)) (k : Nat) (hk : k < u.size) : 48 ≤ bt u k ∧ bt u k ≤ 57 := by
  obtain ⟨a, b, c, d⟩ := noz_spec (bl t) ha (fun h => hne (by rw [← bl_len, h]; rfl))
  rw [← hu] at b
  have hk' : k < (bl u).length := by rw [bl_len]; exact hk
  rw [← bl_get u k hk']
  exact b _ (List.getElem_mem hk')
theorem val_step (u : ByteArray) (k : Nat) (hk : k < u.size) : val 0 ((bl u).take (k + 1)) = val 0 ((bl u).take k) * 10 + (bt u k - 48) := by
  rw [val_take (bl u) k (by rw [bl_len]; exact hk), bl_get]
theorem val_whole (t u : ByteArray) (ha : AllD (bl t)) (hne : t.size ≠ 0) (hu : bl u = noz (bl t)) : val 0 ((bl u).take u.size) = val 0 (bl t) := by
  obtain ⟨a, b, c, d⟩ := noz_spec (bl t) ha (fun h => hne (by rw [← bl_len, h]; rfl))
  rw [← hu] at a
  rw [List.take_of_length_le (by rw [bl_len]; exact Nat.le_refl _), a]
theorem noz_le (t u : ByteArray) (hu : bl u = noz (bl t)) : u.size ≤ t.size := by
  have : ∀ l : List Int, (noz l).length ≤ l.length := by
    intro l
    induction l with
    | nil => exact Nat.le_refl _
    | cons d l ih =>
      cases l with
      | nil => unfold noz; split <;> simp_all
      | cons e r =>
        rw [noz_cons]
        split
        · simp at ih ⊢; omega
        · exact Nat.le_refl _
  have := this (bl t)
  rw [← hu, bl_len, bl_len] at this
  exact this
theorem wrap_minus (x : Int) (h0 : -9223372036854775808 ≤ x - 48) (h1 : x - 48 ≤ 9223372036854775807) : wrap64 (wrap64 x - 48) = x - 48 := by
  unfold wrap64
  omega

set_option maxRecDepth 100000 in
set_option maxHeartbeats 4000000 in
theorem rparse_of (s : ByteArray) (w : World) (hs : s.size ≤ maxLen) :
    Calls Tryd.prog 34 #[.string s] w (RPPost s w) := by
  unfold maxLen at hs
  by_cases h0 : 0 < s.size
  · have hp : (0 : Int) < (s.size : Int) := by omega
    have hb := bt_get s 0 h0
    by_cases hsg : bt s 0 = 43 ∨ bt s 0 = 45
    · have hrp : rp s = res (bt s 0 == 45) (bl (s.extract 1 s.size)) := by
        unfold rp signK signM
        rw [if_pos ⟨h0, hsg⟩, bl_tail]
        congr 1
        rw [Bool.eq_iff_iff]; simp; intro; omega
      have hsz : (s.extract 1 s.size).size ≤ 9223372036854775807 := by rw [ByteArray.size_extract]; omega
      rcases hsg with hsg | hsg
      · rw [hsg] at hb hrp
        have HR := Lib.hid (show rp s = res false (bl (s.extract 1 s.size)) from hrp)
        clear hrp hsg
        go_enter Tryd.func34, Tryd.ntmps34
        by_cases hz : (s.extract 1 s.size).size = 0
        · have hz2 := empty_yes _ hz
          have e : rp s = (0, false) := by rw [HR.out]; exact res_empty _ _ hz
          have HE := Lib.hid e
          clear e hz
          go_wp2_with fail
          go_ret2
          exact ⟨by rw [HE.out]; rfl, rfl⟩
        · have hz2 := empty_no _ hz
          go_wp2_with fail
          generalize s.extract 1 s.size = t at *
          clear hz2
          have HZ := Lib.hid hz
          clear hz
          go_loop [5] (fun i => ∃ k : Nat, k ≤ t.size ∧ i = .int .i64 k ∧ DigTo t k) (fun i => t.size - (intOf i).toNat)
          case atStart => exact ⟨0, Nat.zero_le _, rfl, fun j hj => absurd hj (Nat.not_lt_zero _)⟩
          case round =>
            obtain ⟨k, hk, rfl, hdt⟩ := hrel
            have HDT := Lib.hid hdt
            clear hdt
            by_cases hlt : k < t.size
            · have hbt := bt_get t k hlt
              by_cases hdg : 48 ≤ bt t k ∧ bt t k ≤ 57
              · obtain ⟨d0, d1⟩ := hdg
                go_wp2_with (first | (go_at_call 51; refine (rdigit_yes _ _ (by assumption) (by assumption)).mono ?_; rintro e w' ⟨rfl, rfl⟩))
                go_round
                case rel => exact ⟨k + 1, by omega, by go_num, HDT.out.step ⟨d0, d1⟩⟩
                case measure => simp [intOf]; omega
              · go_wp2_with (first | (go_at_call 51; refine (rdigit_no _ _ (by omega)).mono ?_; rintro e w' ⟨rfl, rfl⟩))
                go_ret2
                have e : rp s = (0, false) := by rw [HR.out]; exact res_not _ t (not_all hlt hdg)
                exact ⟨by rw [e]; rfl, rfl⟩
            · obtain rfl : k = t.size := by omega
              have hall := HDT.out.all
              go_wp2_with fail
              refine (bare_of t _ (by unfold maxLen; exact hsz)).mono ?_
              rintro e w' ⟨u, rfl, hu, rfl⟩
              have hul := noz_le t u hu
              have hlb := less_top false t u hall HZ.out hu
              have hsize := HZ.out
              by_cases hbig : topV false < val 0 (bl t)
              · have e : rp s = (0, false) := by rw [HR.out]; exact res_big _ t hall hsize hbig
                have HE := Lib.hid e
                have HB := Lib.hid (show lessB (top false) u = true by rw [hlb]; simpa using hbig)
                clear e hlb hbig hu hall hsize
                go_wp2_with fail
                refine (less_of (top false) u _ (by decide) (by unfold maxLen; omega)).mono ?_
                rintro e w' ⟨rfl, rfl⟩
                rw [HB.out]
                go_wp2_with fail
                go_ret2
                exact ⟨by rw [HE.out]; rfl, rfl⟩
              · have e : rp s = (if false then -(val 0 (bl t)) else val 0 (bl t), true) := by rw [HR.out]; exact res_fits _ t hall hsize hbig
                have HE := Lib.hid e
                have HB := Lib.hid (show lessB (top false) u = false by rw [hlb]; simpa using hbig)
                have HV := Lib.hid (atV_bound false t u hall hsize hu hbig)
                have HD := Lib.hid (digit_at t u hall hsize hu)
                have HW := Lib.hid (val_whole t u hall hsize hu)
                clear e hlb hbig hu hall hsize
                go_wp2_with fail
                refine (less_of (top false) u _ (by decide) (by unfold maxLen; omega)).mono ?_
                rintro e w' ⟨rfl, rfl⟩
                rw [HB.out]
                go_wp2_with fail
                go_loop [7, 8] (fun x i => ∃ k : Nat, k ≤ u.size ∧ i = .int .i64 k ∧ x = .int .i64 (val 0 ((bl u).take k))) (fun _ i => u.size - (intOf i).toNat)
                case atStart => exact ⟨0, Nat.zero_le _, rfl, rfl⟩
                case round =>
                  obtain ⟨k, hk, rfl, rfl⟩ := hrel
                  have hv := HV.out k
                  have hv2 := HV.out (k + 1)
                  obtain ⟨v0, v1⟩ := hv
                  have v1' : val 0 ((bl u).take k) ≤ 9223372036854775807 := v1
                  clear v1
                  by_cases hl2 : k < u.size
                  · have hb2 := bt_get u k hl2
                    obtain ⟨d0, d1⟩ := HD.out k hl2
                    have hst := val_step u k hl2
                    have h2 : val 0 ((bl u).take (k + 1)) ≤ 9223372036854775807 := hv2.2
                    have h3 : 0 ≤ val 0 ((bl u).take (k + 1)) := hv2.1
                    have hst2 : val 0 ((bl u).take k) * 10 + (bt u k - 48) ≤ 9223372036854775807 := by rw [← hst]; exact h2
                    have HST := Lib.hid hst
                    clear hst hv2 h2 h3
                    go_wp2_with fail
                    go_round
                    case rel => exact ⟨k + 1, by omega, by go_num, int_eq (by rw [HST.out]; first | omega | (rw [wrap_minus _ (by omega) (by omega)]; omega))⟩
                    case measure => simp [intOf]; omega
                  · obtain rfl : k = u.size := by omega
                    clear hv2
                    go_wp2_with fail
                    go_ret2
                    exact ⟨by rw [HE.out, HW.out]; rfl, rfl⟩
      · rw [hsg] at hb hrp
        have HR := Lib.hid (show rp s = res true (bl (s.extract 1 s.size)) from hrp)
        clear hrp hsg
        go_enter Tryd.func34, Tryd.ntmps34
        by_cases hz : (s.extract 1 s.size).size = 0
        · have hz2 := empty_yes _ hz
          have e : rp s = (0, false) := by rw [HR.out]; exact res_empty _ _ hz
          have HE := Lib.hid e
          clear e hz
          go_wp2_with fail
          go_ret2
          exact ⟨by rw [HE.out]; rfl, rfl⟩
        · have hz2 := empty_no _ hz
          go_wp2_with fail
          generalize s.extract 1 s.size = t at *
          clear hz2
          have HZ := Lib.hid hz
          clear hz
          go_loop [5] (fun i => ∃ k : Nat, k ≤ t.size ∧ i = .int .i64 k ∧ DigTo t k) (fun i => t.size - (intOf i).toNat)
          case atStart => exact ⟨0, Nat.zero_le _, rfl, fun j hj => absurd hj (Nat.not_lt_zero _)⟩
          case round =>
            obtain ⟨k, hk, rfl, hdt⟩ := hrel
            have HDT := Lib.hid hdt
            clear hdt
            by_cases hlt : k < t.size
            · have hbt := bt_get t k hlt
              by_cases hdg : 48 ≤ bt t k ∧ bt t k ≤ 57
              · obtain ⟨d0, d1⟩ := hdg
                go_wp2_with (first | (go_at_call 51; refine (rdigit_yes _ _ (by assumption) (by assumption)).mono ?_; rintro e w' ⟨rfl, rfl⟩))
                go_round
                case rel => exact ⟨k + 1, by omega, by go_num, HDT.out.step ⟨d0, d1⟩⟩
                case measure => simp [intOf]; omega
              · go_wp2_with (first | (go_at_call 51; refine (rdigit_no _ _ (by omega)).mono ?_; rintro e w' ⟨rfl, rfl⟩))
                go_ret2
                have e : rp s = (0, false) := by rw [HR.out]; exact res_not _ t (not_all hlt hdg)
                exact ⟨by rw [e]; rfl, rfl⟩
            · obtain rfl : k = t.size := by omega
              have hall := HDT.out.all
              go_wp2_with fail
              refine (bare_of t _ (by unfold maxLen; exact hsz)).mono ?_
              rintro e w' ⟨u, rfl, hu, rfl⟩
              have hul := noz_le t u hu
              have hlb := less_top true t u hall HZ.out hu
              have hsize := HZ.out
              by_cases hbig : topV true < val 0 (bl t)
              · have e : rp s = (0, false) := by rw [HR.out]; exact res_big _ t hall hsize hbig
                have HE := Lib.hid e
                have HB := Lib.hid (show lessB (top true) u = true by rw [hlb]; simpa using hbig)
                clear e hlb hbig hu hall hsize
                go_wp2_with fail
                refine (less_of (top true) u _ (by decide) (by unfold maxLen; omega)).mono ?_
                rintro e w' ⟨rfl, rfl⟩
                rw [HB.out]
                go_wp2_with fail
                go_ret2
                exact ⟨by rw [HE.out]; rfl, rfl⟩
              · have e : rp s = (if true then -(val 0 (bl t)) else val 0 (bl t), true) := by rw [HR.out]; exact res_fits _ t hall hsize hbig
                have HE := Lib.hid e
                have HB := Lib.hid (show lessB (top true) u = false by rw [hlb]; simpa using hbig)
                have HV := Lib.hid (atV_bound true t u hall hsize hu hbig)
                have HD := Lib.hid (digit_at t u hall hsize hu)
                have HW := Lib.hid (val_whole t u hall hsize hu)
                clear e hlb hbig hu hall hsize
                go_wp2_with fail
                refine (less_of (top true) u _ (by decide) (by unfold maxLen; omega)).mono ?_
                rintro e w' ⟨rfl, rfl⟩
                rw [HB.out]
                go_wp2_with fail
                go_loop [7, 8] (fun x i => ∃ k : Nat, k ≤ u.size ∧ i = .int .i64 k ∧ x = .int .i64 (-(val 0 ((bl u).take k)))) (fun _ i => u.size - (intOf i).toNat)
                case atStart => exact ⟨0, Nat.zero_le _, rfl, rfl⟩
                case round =>
                  obtain ⟨k, hk, rfl, rfl⟩ := hrel
                  have hv := HV.out k
                  have hv2 := HV.out (k + 1)
                  obtain ⟨v0, v1⟩ := hv
                  have v1' : val 0 ((bl u).take k) ≤ 9223372036854775808 := v1
                  clear v1
                  by_cases hl2 : k < u.size
                  · have hb2 := bt_get u k hl2
                    obtain ⟨d0, d1⟩ := HD.out k hl2
                    have hst := val_step u k hl2
                    have h2 : val 0 ((bl u).take (k + 1)) ≤ 9223372036854775808 := hv2.2
                    have h3 : 0 ≤ val 0 ((bl u).take (k + 1)) := hv2.1
                    have hst2 : val 0 ((bl u).take k) * 10 + (bt u k - 48) ≤ 9223372036854775808 := by rw [← hst]; exact h2
                    have HST := Lib.hid hst
                    clear hst hv2 h2 h3
                    go_wp2_with fail
                    go_round
                    case rel => exact ⟨k + 1, by omega, by go_num, int_eq (by rw [HST.out]; omega)⟩
                    case measure => simp [intOf]; omega
                  · obtain rfl : k = u.size := by omega
                    clear hv2
                    go_wp2_with fail
                    go_ret2
                    exact ⟨by rw [HE.out, HW.out]; rfl, rfl⟩
    · have hrp : rp s = res false (bl s) := by
        unfold rp signK signM
        rw [if_neg (fun h => hsg h.2)]
        congr 1
        simp; intro; omega
      have n1 : (bt s 0 == 43) = false := by rw [beq_eq_false_iff_ne]; omega
      have n2 : (bt s 0 == 45) = false := by rw [beq_eq_false_iff_ne]; omega
      have hsz : s.size ≤ 9223372036854775807 := hs
      have HR := Lib.hid hrp
      clear hrp hsg
      have hz : s.size ≠ 0 := by omega
      go_enter Tryd.func34, Tryd.ntmps34
      have hz2 := empty_no _ hz
      go_wp2_with fail
      obtain ⟨t, ht⟩ : ∃ t, t = s := ⟨_, rfl⟩
      subst ht
      clear hz2
      have HZ := Lib.hid hz
      clear hz
      go_loop [5] (fun i => ∃ k : Nat, k ≤ t.size ∧ i = .int .i64 k ∧ DigTo t k) (fun i => t.size - (intOf i).toNat)
      case atStart => exact ⟨0, Nat.zero_le _, rfl, fun j hj => absurd hj (Nat.not_lt_zero _)⟩
      case round =>
        obtain ⟨k, hk, rfl, hdt⟩ := hrel
        have HDT := Lib.hid hdt
        clear hdt
        by_cases hlt : k < t.size
        · have hbt := bt_get t k hlt
          by_cases hdg : 48 ≤ bt t k ∧ bt t k ≤ 57
          · obtain ⟨d0, d1⟩ := hdg
            go_wp2_with (first | (go_at_call 51; refine (rdigit_yes _ _ (by assumption) (by assumption)).mono ?_; rintro e w' ⟨rfl, rfl⟩))
            go_round
            case rel => exact ⟨k + 1, by omega, by go_num, HDT.out.step ⟨d0, d1⟩⟩
            case measure => simp [intOf]; omega
          · go_wp2_with (first | (go_at_call 51; refine (rdigit_no _ _ (by omega)).mono ?_; rintro e w' ⟨rfl, rfl⟩))
            go_ret2
            have e : rp t = (0, false) := by rw [HR.out]; exact res_not _ t (not_all hlt hdg)
            exact ⟨by rw [e]; rfl, rfl⟩
        · obtain rfl : k = t.size := by omega
          have hall := HDT.out.all
          go_wp2_with fail
          refine (bare_of t _ (by unfold maxLen; exact hsz)).mono ?_
          rintro e w' ⟨u, rfl, hu, rfl⟩
          have hul := noz_le t u hu
          have hlb := less_top false t u hall HZ.out hu
          have hsize := HZ.out
          by_cases hbig : topV false < val 0 (bl t)
          · have e : rp t = (0, false) := by rw [HR.out]; exact res_big _ t hall hsize hbig
            have HE := Lib.hid e
            have HB := Lib.hid (show lessB (top false) u = true by rw [hlb]; simpa using hbig)
            clear e hlb hbig hu hall hsize
            go_wp2_with fail
            refine (less_of (top false) u _ (by decide) (by unfold maxLen; omega)).mono ?_
            rintro e w' ⟨rfl, rfl⟩
            rw [HB.out]
            go_wp2_with fail
            go_ret2
            exact ⟨by rw [HE.out]; rfl, rfl⟩
          · have e : rp t = (if false then -(val 0 (bl t)) else val 0 (bl t), true) := by rw [HR.out]; exact res_fits _ t hall hsize hbig
            have HE := Lib.hid e
            have HB := Lib.hid (show lessB (top false) u = false by rw [hlb]; simpa using hbig)
            have HV := Lib.hid (atV_bound false t u hall hsize hu hbig)
            have HD := Lib.hid (digit_at t u hall hsize hu)
            have HW := Lib.hid (val_whole t u hall hsize hu)
            clear e hlb hbig hu hall hsize
            go_wp2_with fail
            refine (less_of (top false) u _ (by decide) (by unfold maxLen; omega)).mono ?_
            rintro e w' ⟨rfl, rfl⟩
            rw [HB.out]
            go_wp2_with fail
            go_loop [7, 8] (fun x i => ∃ k : Nat, k ≤ u.size ∧ i = .int .i64 k ∧ x = .int .i64 (val 0 ((bl u).take k))) (fun _ i => u.size - (intOf i).toNat)
            case atStart => exact ⟨0, Nat.zero_le _, rfl, rfl⟩
            case round =>
              obtain ⟨k, hk, rfl, rfl⟩ := hrel
              have hv := HV.out k
              have hv2 := HV.out (k + 1)
              obtain ⟨v0, v1⟩ := hv
              have v1' : val 0 ((bl u).take k) ≤ 9223372036854775807 := v1
              clear v1
              by_cases hl2 : k < u.size
              · have hb2 := bt_get u k hl2
                obtain ⟨d0, d1⟩ := HD.out k hl2
                have hst := val_step u k hl2
                have h2 : val 0 ((bl u).take (k + 1)) ≤ 9223372036854775807 := hv2.2
                have h3 : 0 ≤ val 0 ((bl u).take (k + 1)) := hv2.1
                have hst2 : val 0 ((bl u).take k) * 10 + (bt u k - 48) ≤ 9223372036854775807 := by rw [← hst]; exact h2
                have HST := Lib.hid hst
                clear hst hv2 h2 h3
                go_wp2_with fail
                go_round
                case rel => exact ⟨k + 1, by omega, by go_num, int_eq (by rw [HST.out]; first | omega | (rw [wrap_minus _ (by omega) (by omega)]; omega))⟩
                case measure => simp [intOf]; omega
              · obtain rfl : k = u.size := by omega
                clear hv2
                go_wp2_with fail
                go_ret2
                exact ⟨by rw [HE.out, HW.out]; rfl, rfl⟩
  · have hrp : rp s = (0, false) := by
      unfold rp
      have e : bl s = [] := List.eq_nil_of_length_eq_zero (by rw [bl_len]; omega)
      rw [e, List.drop_nil]
      unfold res
      rw [if_pos (Or.inl rfl)]
    have hn : ¬ (0 : Int) < (s.size : Int) := by omega
    have hz2 := empty_yes s (by omega)
    have HR := Lib.hid hrp
    clear hrp
    go_enter Tryd.func34, Tryd.ntmps34
    go_wp2_with fail
    go_ret2
    exact ⟨by rw [HR.out]; rfl, rfl⟩

end Go.Proofs.YtbankegfmamoiaaDoor
