/-
  Plain facts on numerals that are parsed, and the walk of the statement NumBack, at this seat's numbers.
-/
import Derived.Test.YtbankegfmamoiaaDoorNumJ
namespace Go.Proofs.YtbankegfmamoiaaDoor
open Go Go.RowKit
set_option linter.unusedVariables false

theorem bl_strOf (l : List UInt8) : bl (strOf l) = l.map fun b => (b.toNat : Int) := rfl
theorem bt_strOf (c : UInt8) (l : List UInt8) : bt (strOf (c :: l)) 0 = (c.toNat : Int) := rfl

theorem dec_val (u : Nat) : val 0 ((Lib.decDigits u).map fun b => (b.toNat : Int)) = u ∧ AllD ((Lib.decDigits u).map fun b => (b.toNat : Int)) := by
  induction u using Nat.strongRecOn with
  | _ u ih =>
    rw [Lib.decDigits]
    by_cases h : u < 10
    · rw [dif_pos h]
      simp only [List.map_cons, List.map_nil, u8_of _ (show 48 + u < 256 by omega)]
      refine ⟨by simp only [val]; omega, fun d hd => ?_⟩
      rw [List.mem_singleton] at hd
      omega
    · rw [dif_neg h]
      obtain ⟨a, b⟩ := ih (u / 10) (by omega)
      simp only [List.map_append, List.map_cons, List.map_nil, u8_of _ (show 48 + u % 10 < 256 by omega)]
      rw [val_append, a]
      refine ⟨by simp only [val]; omega, fun d hd => ?_⟩
      rcases List.mem_append.1 hd with hd | hd
      · exact b d hd
      · rw [List.mem_singleton] at hd
        omega

theorem dec_ne (u : Nat) : Lib.decDigits u ≠ [] := by
  intro h
  have := congrArg List.length h
  rw [Lib.decDigits_length] at this
  have := Lib.nDigits_pos u
  simp at *
  omega

/-- Noughts ahead of a numeral. -/
def padded (k u : Nat) : List UInt8 := List.replicate k 48 ++ Lib.decDigits u
theorem padded_len (k u : Nat) (h : u < 100000000000000000000) : (padded k u).length ≤ k + 20 := by
  unfold padded
  rw [List.length_append, List.length_replicate, Lib.decDigits_length]
  have := nDigits_le u h
  omega
theorem padded_ne (k u : Nat) : padded k u ≠ [] := by unfold padded; intro h; exact dec_ne u (List.append_eq_nil_iff.1 h).2
theorem padded_val (k u : Nat) : val 0 ((padded k u).map fun b => (b.toNat : Int)) = u ∧ AllD ((padded k u).map fun b => (b.toNat : Int)) := by
  unfold padded
  induction k with
  | zero => simpa using dec_val u
  | succ k ih =>
    rw [List.replicate_succ, List.cons_append, List.map_cons]
    refine ⟨?_, ih.2.cons (by decide)⟩
    show val (0 * 10 + (48 - 48)) _ = _
    exact ih.1

theorem res_padded (mi : Bool) (k u : Nat) (h : (u : Int) ≤ topV mi) : res mi ((padded k u).map fun b => (b.toNat : Int)) = (if mi then -(u : Int) else u, true) := by
  obtain ⟨a, b⟩ := padded_val k u
  unfold res
  rw [if_neg (by
    rintro (h | h)
    · exact padded_ne k u (List.map_eq_nil_iff.1 h)
    · exact h b), a]
  cases mi
  · have h' : (u : Int) ≤ 9223372036854775807 := h
    simp only [Bool.false_eq_true, if_false]
    rw [if_pos (by omega)]
  · have h' : (u : Int) ≤ 9223372036854775808 := h
    simp only [if_true]
    rw [if_pos h']

theorem parse_minus (k u : Nat) (h : u ≤ 9223372036854775808) : parse (strOf (45 :: padded k u)) = (-(u : Int), true) := by
  have e1 : signK (strOf (45 :: padded k u)) = 1 := by unfold signK; rw [if_pos ⟨by rw [strOf_size]; simp, Or.inr rfl⟩]
  have e2 : signM (strOf (45 :: padded k u)) = true := by unfold signM; rw [decide_eq_true_iff]; exact ⟨by rw [strOf_size]; simp, rfl⟩
  rw [parse_eq, e1, e2, bl_strOf]
  exact res_padded true k u (show (u : Int) ≤ 9223372036854775808 by omega)
theorem parse_plus (k u : Nat) (h : u ≤ 9223372036854775807) : parse (strOf (43 :: padded k u)) = ((u : Int), true) := by
  have e1 : signK (strOf (43 :: padded k u)) = 1 := by unfold signK; rw [if_pos ⟨by rw [strOf_size]; simp, Or.inl rfl⟩]
  have e2 : signM (strOf (43 :: padded k u)) = false := by unfold signM; rw [decide_eq_false_iff_not]; intro h; exact absurd (show (43 : Int) = 45 from h.2) (by decide)
  rw [parse_eq, e1, e2, bl_strOf]
  exact res_padded false k u (show (u : Int) ≤ 9223372036854775807 by omega)
theorem parse_bare (u : Nat) (h : u ≤ 9223372036854775807) : parse (strOf (Lib.decDigits u)) = ((u : Int), true) := by
  have hd := (dec_val u).2
  have hne := dec_ne u
  have hr := res_padded false 0 u (show (u : Int) ≤ 9223372036854775807 by omega)
  have e0 : padded 0 u = Lib.decDigits u := rfl
  rw [e0] at hr
  generalize Lib.decDigits u = l at *
  match l, hne with
  | c :: r, _ =>
    have hc : 48 ≤ (c.toNat : Int) ∧ (c.toNat : Int) ≤ 57 := hd.head
    have e1 : signK (strOf (c :: r)) = 0 := by
      unfold signK
      rw [if_neg]
      rintro ⟨_, h⟩
      rw [bt_strOf] at h
      omega
    have e2 : signM (strOf (c :: r)) = false := by
      unfold signM
      rw [decide_eq_false_iff_not]
      rintro ⟨_, h⟩
      rw [bt_strOf] at h
      omega
    rw [parse_eq, e1, e2, bl_strOf]
    exact hr

theorem parse_itoa (n : Int) (h0 : -9223372036854775808 ≤ n) (h1 : n ≤ 9223372036854775807) : parse (strOf (Lib.itoa n)) = (n, true) := by
  unfold Lib.itoa
  by_cases h : n < 0
  · rw [if_pos h]
    have := parse_minus 0 n.natAbs (by omega)
    rw [show -(n.natAbs : Int) = n from by omega] at this
    exact this
  · rw [if_neg h]
    have := parse_bare n.toNat (by omega)
    rw [show (n.toNat : Int) = n from by omega] at this
    exact this

theorem itoa_len (n : Int) (h0 : -9223372036854775808 ≤ n) (h1 : n ≤ 9223372036854775807) : (Lib.itoa n).length ≤ 21 := by
  unfold Lib.itoa
  split
  · rw [List.length_cons, Lib.decDigits_length]; have := nDigits_le n.natAbs (by omega); omega
  · rw [Lib.decDigits_length]; have := nDigits_le n.toNat (by omega); omega

theorem compare_itoa (n m : Int) (h0 : -9223372036854775808 ≤ n) (h1 : n ≤ 9223372036854775807) (g0 : -9223372036854775808 ≤ m) (g1 : m ≤ 9223372036854775807) :
    compare (strOf (Lib.itoa n)) (strOf (Lib.itoa m)) = Lib.compareInt n m := by
  rw [compare_key, parse_itoa n h0 h1, parse_itoa m g0 g1]
  rfl

theorem itoa_ne (n : Int) : Lib.itoa n ≠ [] := by
  unfold Lib.itoa
  split
  · simp
  · exact dec_ne _
theorem extract_strOf (c : UInt8) (l : List UInt8) : (strOf (c :: l)).extract 1 (strOf (c :: l)).size = strOf l := by
  apply ByteArray.ext
  rw [ByteArray.data_extract]
  apply Array.ext'
  simp [strOf]
  exact List.take_length

/-- What the loop of the statement holds. -/
def AtPad (d : List UInt8) (top : Int) (w : World) (v i : Value) : Prop := ∃ k : Nat, (k : Int) ≤ top ∧ i = .int .i64 k ∧ v = .string (strOf (List.replicate k 48 ++ d))

set_option maxRecDepth 100000 in
set_option maxHeartbeats 2000000 in
theorem numBack_walk (n m x : Int) (w : World) (h0 : -9223372036854775808 ≤ n) (h1 : n ≤ 9223372036854775807) (g0 : -9223372036854775808 ≤ m) (g1 : m ≤ 9223372036854775807) (x0 : 0 ≤ x) (x1 : x ≤ 255) (ht : Tens w) :
    Calls Tryd.prog 12 #[.int .i64 n, .int .i64 m, .int .u8 x] w fun e w' => e = .returned (.bool true) ∧ Below w.heap.size w w' := by
  have HT := Lib.hid ht
  have htn : ∀ w, Tens w → Calls Tryd.prog 35 #[.int .i64 n] w fun e w' => e = .returned (.string (strOf (Lib.itoa n))) ∧ Below w.heap.size w w' := fun w h => text_of n h0 h1 w h
  have htm : ∀ w, Tens w → Calls Tryd.prog 35 #[.int .i64 m] w fun e w' => e = .returned (.string (strOf (Lib.itoa m))) ∧ Below w.heap.size w w' := fun w h => text_of m g0 g1 w h
  have hcmp := compare_itoa n m h0 h1 g0 g1
  have hpn := parse_itoa n h0 h1
  have hln := itoa_len n h0 h1
  have hlm := itoa_len m g0 g1
  have hne := empty_no (strOf (Lib.itoa n)) (fun h => itoa_ne n (List.eq_nil_of_length_eq_zero h))
  have hx : 0 ≤ x % 30 ∧ x % 30 ≤ 29 := by omega
  have hcr := cmpI_range n m
  have hk1 : -1 ≤ Lib.compareInt n m ∧ Lib.compareInt n m ≤ 1 := by omega
  obtain ⟨x2, x3⟩ := hx
  obtain ⟨k1, k2⟩ := hk1
  by_cases hn : n < 0
  · have hi : Lib.itoa n = 45 :: Lib.decDigits n.natAbs := by unfold Lib.itoa; rw [if_pos hn]
    have hex : (strOf (Lib.itoa n)).extract 1 (strOf (Lib.itoa n)).size = strOf (Lib.decDigits n.natAbs) := by rw [hi]; exact extract_strOf 45 _
    have hpp : ∀ k, parse (strOf (45 :: (List.replicate k 48 ++ Lib.decDigits n.natAbs))) = (n, true) := fun k => by
      have := parse_minus k n.natAbs (by omega)
      rw [show -(n.natAbs : Int) = n from by omega] at this
      exact this
    have hdl : (Lib.decDigits n.natAbs).length ≤ 20 := by rw [Lib.decDigits_length]; exact nDigits_le _ (by omega)
    generalize Lib.decDigits n.natAbs = D at *
    have ht1 : 1 ≤ (strOf (Lib.itoa n)).size := by rw [hi]; rw [strOf_size]; simp
    have hts : (strOf (Lib.itoa n)).size ≤ 21 := hln
    have hzs : (strOf (Lib.itoa m)).size ≤ 21 := hlm
    clear hi hln hlm
    generalize strOf (Lib.itoa n) = T at *
    generalize strOf (Lib.itoa m) = Z at *
    generalize hcc : Lib.compareInt n m = c at *
    have HCMP := Lib.hid hcmp
    have HPN := Lib.hid hpn
    have HTN := Lib.hid htn
    have HTM := Lib.hid htm
    have HPP := Lib.hid hpp
    have HCR := Lib.hid hcr
    have HT0 := Lib.hid hts
    clear hcmp hpn htn htm hpp hcr ht hcc
    go_enter Tryd.func12, Tryd.ntmps12
    go_wp2_with fail
    refine (HTN.out _ HT.out).mono ?_; rintro e w1 ⟨rfl, hb⟩; have B1 := Lib.hid hb; clear hb
    obtain ⟨c2, W2, r2, s2, b2⟩ := held_of T w1 (by unfold maxLen; omega)
    have HP2 := Lib.hid (parse_held s2)
    rw [HPN.out] at HP2
    have B2 := Lib.hid (B1.out.trans (b2.mono B1.out.size))
    clear s2 b2
    go_wp2_with fail
    refine HP2.out.mono ?_; rintro e w3 ⟨rfl, hb⟩; have B3 := Lib.hid (B2.out.trans (hb.mono B2.out.size)); clear hb
    clear r2 HP2
    go_wp2_with fail
    
    go_loop [10, 12] (fun v i => ∃ k : Nat, (k : Int) ≤ x % 30 ∧ i = .int .i64 k ∧ v = .string (strOf (List.replicate k 48 ++ D))) (fun _ i => (x % 30).toNat - (intOf i).toNat)
    case atStart => exact ⟨0, by omega, rfl, by rfl⟩
    case round =>
      obtain ⟨k, hk, rfl, rfl⟩ := hrel
      by_cases hl : (k : Int) < x % 30
      · have hs1 : (strOf (List.replicate k 48 ++ D)).size ≤ 50 := by rw [strOf_size, List.length_append, List.length_replicate]; omega
        obtain ⟨q, hq⟩ : ∃ q, strOf (List.replicate k 48 ++ D) = q := ⟨_, rfl⟩
        rw [hq] at hs1
        have HQ := Lib.hid hq
        rw [hq]
        clear hq
        go_wp2_with fail
        go_round
        case rel => exact ⟨k + 1, by omega, by go_num, by rw [← HQ.out]; exact congrArg Value.string (strOf_app [48] _)⟩
        case measure => simp [intOf]; omega
      · have hs1 : (strOf (List.replicate k 48 ++ D)).size ≤ 50 := by rw [strOf_size, List.length_append, List.length_replicate]; omega
        obtain ⟨q, hq⟩ : ∃ q, strOf (List.replicate k 48 ++ D) = q := ⟨_, rfl⟩
        have hpq : parse (⟨#[45]⟩ ++ q) = (n, true) := by rw [← hq, ← HPP.out k]; exact congrArg parse (strOf_app [45] _)
        rw [hq] at hs1 ⊢
        clear hq
        have hsz : (⟨#[45]⟩ ++ q : ByteArray).size = 1 + q.size := by rw [ByteArray.size_append]; rfl
        obtain ⟨c4, W4, r4, s4, b4⟩ := held_of (⟨#[45]⟩ ++ q) w3 (by unfold maxLen; omega)
        have HP4 := Lib.hid (parse_held s4)
        rw [hpq, hsz] at HP4
        rw [hsz] at r4
        clear hsz
        have B4 := Lib.hid (B3.out.trans (b4.mono B3.out.size))
        clear s4 b4 hpq
        have hs3 : 1 + q.size ≤ 9223372036854775807 := by omega
        go_wp2_with fail
        refine HP4.out.mono ?_; rintro e w5 ⟨rfl, hb⟩; have B5 := Lib.hid (B4.out.trans (hb.mono B4.out.size)); clear hb
        clear r4 HP4
        obtain ⟨c6, W6, r6, s6, b6⟩ := held_of T w5 (by unfold maxLen; omega)
        have B6 := Lib.hid (B5.out.trans (b6.mono B5.out.size))
        have S6 := Lib.hid s6
        clear s6 b6
        go_wp2_with fail
        refine (HTM.out _ (HT.out.below B6.out HT.out.at)).mono ?_; rintro e w7 ⟨rfl, hb⟩; have B7 := Lib.hid (B6.out.trans (hb.mono B6.out.size)); have S7 := Lib.hid (S6.out.below hb); clear hb
        obtain ⟨c8, W8, r8, s8, b8⟩ := held_of Z w7 (by unfold maxLen; omega)
        have B8 := Lib.hid (B7.out.trans (b8.mono B7.out.size))
        have HC8 := Lib.hid (compare_held (S7.out.below b8) s8)
        rw [HCMP.out] at HC8
        clear s8 b8
        go_wp2_with fail
        refine HC8.out.mono ?_; rintro e w9 ⟨rfl, hb⟩; have B9 := Lib.hid (B8.out.trans (hb.mono B8.out.size)); clear hb
        have hcr := HCR.out
        rcases hcr with ⟨rfl, hnm⟩ | ⟨rfl, hnm⟩ | ⟨rfl, hnm⟩
        · have e1 : decide (n < m) = true := by simpa using hnm
          have e2 : decide (m < n) = false := by simp; omega
          go_wp2_with fail
          refine (awake_of _ (HT.out.below B9.out HT.out.at)).mono ?_; rintro e w10 ⟨rfl, hb⟩
          go_wp2_with fail
          go_ret
          exact ⟨rfl, B9.out.trans (hb.mono B9.out.size)⟩
        · subst hnm
          go_wp2_with fail
          refine (awake_of _ (HT.out.below B9.out HT.out.at)).mono ?_; rintro e w10 ⟨rfl, hb⟩
          go_wp2_with fail
          go_ret
          exact ⟨rfl, B9.out.trans (hb.mono B9.out.size)⟩
        · have e1 : decide (n < m) = false := by simp; omega
          have e2 : decide (m < n) = true := by simpa using hnm
          go_wp2_with fail
          refine (awake_of _ (HT.out.below B9.out HT.out.at)).mono ?_; rintro e w10 ⟨rfl, hb⟩
          go_wp2_with fail
          go_ret
          exact ⟨rfl, B9.out.trans (hb.mono B9.out.size)⟩
  · have hi : Lib.itoa n = Lib.decDigits n.toNat := by unfold Lib.itoa; rw [if_neg hn]
    have hex : strOf (Lib.itoa n) = strOf (Lib.decDigits n.toNat) := by rw [hi]
    have hpp : ∀ k, parse (strOf (43 :: (List.replicate k 48 ++ Lib.decDigits n.toNat))) = (n, true) := fun k => by
      have := parse_plus k n.toNat (by omega)
      rw [show (n.toNat : Int) = n from by omega] at this
      exact this
    have hdl : (Lib.decDigits n.toNat).length ≤ 20 := by rw [Lib.decDigits_length]; exact nDigits_le _ (by omega)
    generalize Lib.decDigits n.toNat = D at *
    have hts : (strOf (Lib.itoa n)).size ≤ 21 := hln
    have hzs : (strOf (Lib.itoa m)).size ≤ 21 := hlm
    clear hi hln hlm
    generalize strOf (Lib.itoa n) = T at *
    generalize strOf (Lib.itoa m) = Z at *
    subst hex
    generalize hcc : Lib.compareInt n m = c at *
    have HCMP := Lib.hid hcmp
    have HPN := Lib.hid hpn
    have HTN := Lib.hid htn
    have HTM := Lib.hid htm
    have HPP := Lib.hid hpp
    have HCR := Lib.hid hcr
    have HT0 := Lib.hid hts
    clear hcmp hpn htn htm hpp hcr ht hcc
    have hn' : ¬ n < 0 := hn
    go_enter Tryd.func12, Tryd.ntmps12
    go_wp2_with fail
    refine (HTN.out _ HT.out).mono ?_; rintro e w1 ⟨rfl, hb⟩; have B1 := Lib.hid hb; clear hb
    obtain ⟨c2, W2, r2, s2, b2⟩ := held_of (strOf D) w1 (by unfold maxLen; omega)
    have HP2 := Lib.hid (parse_held s2)
    rw [HPN.out] at HP2
    have B2 := Lib.hid (B1.out.trans (b2.mono B1.out.size))
    clear s2 b2
    go_wp2_with fail
    refine HP2.out.mono ?_; rintro e w3 ⟨rfl, hb⟩; have B3 := Lib.hid (B2.out.trans (hb.mono B2.out.size)); clear hb
    clear r2 HP2
    go_wp2_with fail
    
    go_loop [10, 12] (fun v i => ∃ k : Nat, (k : Int) ≤ x % 30 ∧ i = .int .i64 k ∧ v = .string (strOf (List.replicate k 48 ++ D))) (fun _ i => (x % 30).toNat - (intOf i).toNat)
    case atStart => exact ⟨0, by omega, rfl, by rfl⟩
    case round =>
      obtain ⟨k, hk, rfl, rfl⟩ := hrel
      by_cases hl : (k : Int) < x % 30
      · have hs1 : (strOf (List.replicate k 48 ++ D)).size ≤ 50 := by rw [strOf_size, List.length_append, List.length_replicate]; omega
        obtain ⟨q, hq⟩ : ∃ q, strOf (List.replicate k 48 ++ D) = q := ⟨_, rfl⟩
        rw [hq] at hs1
        have HQ := Lib.hid hq
        rw [hq]
        clear hq
        go_wp2_with fail
        go_round
        case rel => exact ⟨k + 1, by omega, by go_num, by rw [← HQ.out]; exact congrArg Value.string (strOf_app [48] _)⟩
        case measure => simp [intOf]; omega
      · have hs1 : (strOf (List.replicate k 48 ++ D)).size ≤ 50 := by rw [strOf_size, List.length_append, List.length_replicate]; omega
        obtain ⟨q, hq⟩ : ∃ q, strOf (List.replicate k 48 ++ D) = q := ⟨_, rfl⟩
        have hpq : parse (⟨#[43]⟩ ++ q) = (n, true) := by rw [← hq, ← HPP.out k]; exact congrArg parse (strOf_app [43] _)
        rw [hq] at hs1 ⊢
        clear hq
        have hsz : (⟨#[43]⟩ ++ q : ByteArray).size = 1 + q.size := by rw [ByteArray.size_append]; rfl
        obtain ⟨c4, W4, r4, s4, b4⟩ := held_of (⟨#[43]⟩ ++ q) w3 (by unfold maxLen; omega)
        have HP4 := Lib.hid (parse_held s4)
        rw [hpq, hsz] at HP4
        rw [hsz] at r4
        clear hsz
        have B4 := Lib.hid (B3.out.trans (b4.mono B3.out.size))
        clear s4 b4 hpq
        have hs3 : 1 + q.size ≤ 9223372036854775807 := by omega
        go_wp2_with fail
        refine HP4.out.mono ?_; rintro e w5 ⟨rfl, hb⟩; have B5 := Lib.hid (B4.out.trans (hb.mono B4.out.size)); clear hb
        clear r4 HP4
        obtain ⟨c6, W6, r6, s6, b6⟩ := held_of (strOf D) w5 (by unfold maxLen; omega)
        have B6 := Lib.hid (B5.out.trans (b6.mono B5.out.size))
        have S6 := Lib.hid s6
        clear s6 b6
        go_wp2_with fail
        refine (HTM.out _ (HT.out.below B6.out HT.out.at)).mono ?_; rintro e w7 ⟨rfl, hb⟩; have B7 := Lib.hid (B6.out.trans (hb.mono B6.out.size)); have S7 := Lib.hid (S6.out.below hb); clear hb
        obtain ⟨c8, W8, r8, s8, b8⟩ := held_of Z w7 (by unfold maxLen; omega)
        have B8 := Lib.hid (B7.out.trans (b8.mono B7.out.size))
        have HC8 := Lib.hid (compare_held (S7.out.below b8) s8)
        rw [HCMP.out] at HC8
        clear s8 b8
        go_wp2_with fail
        refine HC8.out.mono ?_; rintro e w9 ⟨rfl, hb⟩; have B9 := Lib.hid (B8.out.trans (hb.mono B8.out.size)); clear hb
        have hcr := HCR.out
        rcases hcr with ⟨rfl, hnm⟩ | ⟨rfl, hnm⟩ | ⟨rfl, hnm⟩
        · have e1 : decide (n < m) = true := by simpa using hnm
          have e2 : decide (m < n) = false := by simp; omega
          go_wp2_with fail
          refine (awake_of _ (HT.out.below B9.out HT.out.at)).mono ?_; rintro e w10 ⟨rfl, hb⟩
          go_wp2_with fail
          go_ret
          exact ⟨rfl, B9.out.trans (hb.mono B9.out.size)⟩
        · subst hnm
          go_wp2_with fail
          refine (awake_of _ (HT.out.below B9.out HT.out.at)).mono ?_; rintro e w10 ⟨rfl, hb⟩
          go_wp2_with fail
          go_ret
          exact ⟨rfl, B9.out.trans (hb.mono B9.out.size)⟩
        · have e1 : decide (n < m) = false := by simp; omega
          have e2 : decide (m < n) = true := by simpa using hnm
          go_wp2_with fail
          refine (awake_of _ (HT.out.below B9.out HT.out.at)).mono ?_; rintro e w10 ⟨rfl, hb⟩
          go_wp2_with fail
          go_ret
          exact ⟨rfl, B9.out.trans (hb.mono B9.out.size)⟩

end Go.Proofs.YtbankegfmamoiaaDoor
