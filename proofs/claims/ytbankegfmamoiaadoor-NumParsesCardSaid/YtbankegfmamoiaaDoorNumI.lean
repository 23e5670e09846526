/-
  The contracts of the document's own Text and Compare, and plain facts on decimal numerals, at this seat's numbers.
-/
import Derived.Test.YtbankegfmamoiaaDoorNumH
import Derived.Test.YtbankegfmamoiaaDoorNumD
import Derived.Laws.Concat
import Derived.Laws.Strings2
namespace Go.Proofs.YtbankegfmamoiaaDoor
open Go Go.RowKit
set_option linter.unusedVariables false

/-- A number's digits, none for 0. -/
def dd (m : Nat) : List UInt8 := if m = 0 then [] else Lib.decDigits m
theorem dd_step (m : Nat) (h : m ≠ 0) : dd (m / 10) ++ [UInt8.ofNat (48 + m % 10)] = dd m := by
  unfold dd
  rw [if_neg h]
  by_cases h1 : m < 10
  · rw [if_pos (by omega), Lib.decDigits, dif_pos h1, Nat.mod_eq_of_lt h1]; rfl
  · rw [if_neg (by omega)]
    conv => rhs; rw [Lib.decDigits, dif_neg h1]
theorem nDigits_le (u : Nat) (h : u < 100000000000000000000) : Lib.nDigits u ≤ 20 := by
  rcases Nat.lt_or_ge 20 (Lib.nDigits u) with hl | hl
  · exfalso
    by_cases h1 : u < 10
    · rw [Lib.nDigits_small h1] at hl; omega
    · have := Lib.nDigits_big h1
      have hp : ∀ k u, u < 10 ^ (k + 1) → Lib.nDigits u ≤ k + 1 := by
        intro k
        induction k with
        | zero => intro u hu; rw [Lib.nDigits_small (by simpa using hu)]; omega
        | succ k ih =>
          intro u hu
          by_cases h2 : u < 10
          · rw [Lib.nDigits_small h2]; omega
          · rw [Lib.nDigits_big h2]
            have := ih (u / 10) (by rw [Nat.pow_succ] at hu; omega)
            omega
      have := hp 19 u (by omega)
      omega
  · exact hl
theorem dd_len (m : Nat) (h : m < 100000000000000000000) : (dd m).length ≤ 20 := by
  unfold dd
  split
  · simp
  · rw [Lib.decDigits_length]; exact nDigits_le m h

/-- 'string([]byte{c})' in new memory. -/
theorem conv_one (w : World) (x : Int) (c : UInt8) (hx : x = c.toNat) :
    (convert 23 9 (.slice (some ⟨w.heap.size, 0, none⟩) 1 1)).run Tryd.prog (w.alloc (.cells #[.int .u8 x] 5)) = .ok (.string (strOf [c])) (w.alloc (.cells #[.int .u8 x] 5)) := by
  refine string_of (strOf [c]) _ w.heap.size 0 1 (bs_new w _ _ _ _ rfl _ fun j hj => ?_)
  have : j = 0 := by have : j < 1 := hj; omega
  subst this
  rw [hx, strOf_bt]
  rfl
set_option maxRecDepth 100000 in
set_option maxHeartbeats 1000000 in
theorem rtext_pos (m : Nat) (w : World) (h0 : m ≠ 0) (h1 : m ≤ 9223372036854775807) :
    Calls Tryd.prog 36 #[.int .i64 m] w fun e w' => e = .returned (.string (strOf (Lib.decDigits m))) ∧ Below w.heap.size w w' := by
  have hm0 : ((m : Int) == 0) = false := by rw [beq_eq_false_iff_ne]; omega
  have hlt : ¬ (m : Int) < 0 := by omega
  go_enter Tryd.func36, Tryd.ntmps36
  go_wp2
  go_loopw [3, 4] (fun v i wr => ∃ (q : Nat) (l : List UInt8), i = .int .i64 q ∧ q ≤ m ∧ v = .string (strOf l) ∧ dd q ++ l = dd m ∧ Below w.heap.size w wr) (fun _ i _ => (intOf i).toNat)
  case atStart => exact ⟨m, [], rfl, Nat.le_refl _, rfl, by simp, Below.refl _ _⟩
  case round =>
    obtain ⟨q, l, rfl, hq, rfl, hd, hb⟩ := hrel
    have hlen : l.length ≤ 20 := by
      have := congrArg List.length hd
      rw [List.length_append] at this
      have := dd_len m (by omega)
      omega
    have HD := Lib.hid hd
    have HB := Lib.hid hb
    clear hd hb
    by_cases hz : q = 0
    · subst hz
      go_wp2_with fail
      go_ret
      have e : l = Lib.decDigits m := by
        have := HD.out
        unfold dd at this
        rw [if_pos rfl, if_neg h0] at this
        exact this
      exact ⟨by rw [← e]; rfl, HB.out⟩
    · have hz' : ((q : Int) != 0) = true := by rw [bne_iff_ne]; omega
      obtain ⟨c, hc⟩ : ∃ c, UInt8.ofNat (48 + q % 10) = c := ⟨_, rfl⟩
      have hcv := conv_one wr (48 + (q : Int) % 10) c (by rw [← hc, u8_of _ (by omega)]; omega)
      have hs1 : (strOf [c]).size = 1 := rfl
      have hs2 : (strOf l).size = l.length := rfl
      have hst := dd_step q hz
      rw [hc] at hst
      have HST := Lib.hid hst
      clear hst hc
      go_wp2_with fail
      go_roundw
      case rel =>
        refine ⟨q / 10, c :: l, by go_num, by omega, ?_, ?_, ?_⟩
        · rw [strOf_app]; rfl
        · rw [← HD.out, ← HST.out, List.append_assoc]; rfl
        · exact (HB.out.alloc HB.out.size _)
      case measure => simp [intOf]; omega

theorem neg_rem (q : Nat) : (-(q : Int)).tmod 10 = -((q : Int) % 10) := by
  rw [Int.neg_tmod, Int.tmod_eq_emod_of_nonneg (by omega)]
theorem neg_quo (q : Nat) : (-(q : Int)).tdiv 10 = -((q : Int) / 10) := by
  rw [Int.neg_tdiv, Int.tdiv_eq_ediv_of_nonneg (by omega)]

set_option maxRecDepth 100000 in
set_option maxHeartbeats 1000000 in
theorem rtext_neg (m : Nat) (w : World) (h0 : m ≠ 0) (h1 : m ≤ 9223372036854775808) :
    Calls Tryd.prog 36 #[.int .i64 (-(m : Int))] w fun e w' => e = .returned (.string (strOf (45 :: Lib.decDigits m))) ∧ Below w.heap.size w w' := by
  have hm0 : (-(m : Int) == 0) = false := by rw [beq_eq_false_iff_ne]; omega
  have hlt : -(m : Int) < 0 := by omega
  go_enter Tryd.func36, Tryd.ntmps36
  go_wp2
  go_loopw [3, 4] (fun v i wr => ∃ (q : Nat) (l : List UInt8), i = .int .i64 (-(q : Int)) ∧ q ≤ m ∧ v = .string (strOf l) ∧ dd q ++ l = dd m ∧ Below w.heap.size w wr) (fun _ i _ => (-intOf i).toNat)
  case atStart => exact ⟨m, [], rfl, Nat.le_refl _, rfl, by simp, Below.refl _ _⟩
  case round =>
    obtain ⟨q, l, rfl, hq, rfl, hd, hb⟩ := hrel
    have hlen : l.length ≤ 20 := by
      have := congrArg List.length hd
      rw [List.length_append] at this
      have := dd_len m (by omega)
      omega
    have HD := Lib.hid hd
    have HB := Lib.hid hb
    clear hd hb
    by_cases hz : q = 0
    · subst hz
      have hs2 : (strOf l).size = l.length := rfl
      have e : l = Lib.decDigits m := by
        have := HD.out
        unfold dd at this
        rw [if_pos rfl, if_neg h0] at this
        exact this
      have HE := Lib.hid e
      clear e
      go_wp2_with fail
      go_ret
      exact ⟨by rw [← HE.out]; exact congrArg (fun x => Ending.returned (.string x)) (strOf_app [45] l), HB.out⟩
    · have hz' : (-(q : Int) != 0) = true := by rw [bne_iff_ne]; omega
      have hr := neg_rem q
      have hqu := neg_quo q
      obtain ⟨c, hc⟩ : ∃ c, UInt8.ofNat (48 + q % 10) = c := ⟨_, rfl⟩
      have hcv := conv_one wr (48 + (q : Int) % 10) c (by rw [← hc, u8_of _ (by omega)]; omega)
      have hs1 : (strOf [c]).size = 1 := rfl
      have hs2 : (strOf l).size = l.length := rfl
      have hst := dd_step q hz
      rw [hc] at hst
      have HST := Lib.hid hst
      clear hst hc
      by_cases hm : (q : Int) % 10 = 0
      · rw [hm, Int.add_zero] at hcv
        rw [hm, Int.neg_zero] at hr
        have HM := Lib.hid hm
        clear hm
        go_wp2_with fail
        go_roundw
        case rel =>
          refine ⟨q / 10, c :: l, by go_num, by omega, ?_, ?_, ?_⟩
          · rw [strOf_app]; rfl
          · rw [← HD.out, ← HST.out, List.append_assoc]; rfl
          · exact (HB.out.alloc HB.out.size _)
        case measure => simp [intOf]; omega
      · have hneg : -((q : Int) % 10) < 0 := by omega
        have HM := Lib.hid hm
        clear hm
        go_wp2_with fail
        go_roundw
        case rel =>
          refine ⟨q / 10, c :: l, by go_num, by omega, ?_, ?_, ?_⟩
          · rw [strOf_app]; rfl
          · rw [← HD.out, ← HST.out, List.append_assoc]; rfl
          · exact (HB.out.alloc HB.out.size _)
        case measure => simp [intOf]; omega

set_option maxRecDepth 100000 in
theorem rtext_zero (w : World) :
    Calls Tryd.prog 36 #[.int .i64 0] w fun e w' => e = .returned (.string (strOf [48])) ∧ Below w.heap.size w w' := by
  go_enter Tryd.func36, Tryd.ntmps36
  go_wp2
  go_loopw [3, 4] (fun v i wr => i = .int .i64 0 ∧ Below w.heap.size w wr) (fun _ i _ => (intOf i).toNat)
  case atStart => exact ⟨rfl, Below.refl _ _⟩
  case round =>
    obtain ⟨rfl, hb⟩ := hrel
    have HB := Lib.hid hb
    clear hb
    go_wp2_with fail
    go_ret
    exact ⟨rfl, HB.out⟩

theorem rtext_of (n : Int) (w : World) (h0 : -9223372036854775808 ≤ n) (h1 : n ≤ 9223372036854775807) :
    Calls Tryd.prog 36 #[.int .i64 n] w fun e w' => e = .returned (.string (strOf (Lib.itoa n))) ∧ Below w.heap.size w w' := by
  by_cases h : n < 0
  · have e : Lib.itoa n = 45 :: Lib.decDigits n.natAbs := by unfold Lib.itoa; rw [if_pos h]
    rw [e]
    have := rtext_neg n.natAbs w (by omega) (by omega)
    rw [show -(n.natAbs : Int) = n from by omega] at this
    exact this
  · have e : Lib.itoa n = Lib.decDigits n.toNat := by unfold Lib.itoa; rw [if_neg h]
    rw [e]
    by_cases hz : n = 0
    · subst hz
      have := rtext_zero w
      rw [show Lib.decDigits (0 : Int).toNat = [48] from by decide +kernel]
      exact this
    · have := rtext_pos n.toNat w (by omega) (by omega)
      rw [show (n.toNat : Int) = n from by omega] at this
      exact this

/-- What the document's Compare answers is num.Compare's. -/
theorem rcompare_of (s t : ByteArray) (w : World) (hs : s.size ≤ maxLen) (ht : t.size ≤ maxLen) :
    Calls Tryd.prog 38 #[.string s, .string t] w fun e w' => e = .returned (.int .i64 (compare s t)) ∧ w = w' := by
  have c1 := rparse_of s w hs
  have c2 := rparse_of t w ht
  unfold RPPost at c1 c2
  rw [rp_parse] at c1 c2
  have H1 := Lib.hid c1
  have H2 := Lib.hid c2
  have hk := compare_key s t
  have l1 : Op.bytesLess s.toList t.toList = decide (cmpL (bl s) (bl t) = -1) := by rw [toList_bytes, toList_bytes, bytesLess_cmp]; rfl
  have l2 : Op.bytesLess t.toList s.toList = decide (cmpL (bl t) (bl s) = -1) := by rw [toList_bytes, toList_bytes, bytesLess_cmp]; rfl
  have r1 := cmpL_range (bl s) (bl t)
  have r2 := cmpL_anti (bl s) (bl t)
  have r3 := cmpI_range (parse s).1 (parse t).1
  clear c1 c2
  unfold maxLen at hs ht
  generalize cmpL (bl s) (bl t) = d at *
  generalize cmpL (bl t) (bl s) = d' at *
  generalize compare s t = c at *
  generalize parse s = p at *
  generalize parse t = q at *
  obtain ⟨n, x⟩ := p
  obtain ⟨m, y⟩ := q
  cases x <;> cases y
  · have hk' : c = d := hk
    clear hk
    subst hk'
    have hc : (c = -1 ∧ decide (c = -1) = true) ∨ (c = 0 ∧ decide (c = -1) = false ∧ decide (d' = -1) = false) ∨ (c = 1 ∧ decide (c = -1) = false ∧ decide (d' = -1) = true) := by simp; omega
    rcases hc with ⟨rfl, e1⟩ | ⟨rfl, e1, e2⟩ | ⟨rfl, e1, e2⟩
    · rw [e1] at l1
      clear r1 r2 r3 e1
      go_enter Tryd.func38, Tryd.ntmps38
      go_wp2_with fail
      refine H1.out.mono ?_; rintro e w1 ⟨rfl, rfl⟩
      go_wp2_with fail
      refine H2.out.mono ?_; rintro e w1 ⟨rfl, rfl⟩
      go_wp2_with fail
      go_ret
      exact ⟨rfl, rfl⟩
    · rw [e1] at l1
      rw [e2] at l2
      clear r1 r2 r3 e1 e2
      go_enter Tryd.func38, Tryd.ntmps38
      go_wp2_with fail
      refine H1.out.mono ?_; rintro e w1 ⟨rfl, rfl⟩
      go_wp2_with fail
      refine H2.out.mono ?_; rintro e w1 ⟨rfl, rfl⟩
      go_wp2_with fail
      go_ret
      exact ⟨rfl, rfl⟩
    · rw [e1] at l1
      rw [e2] at l2
      clear r1 r2 r3 e1 e2
      go_enter Tryd.func38, Tryd.ntmps38
      go_wp2_with fail
      refine H1.out.mono ?_; rintro e w1 ⟨rfl, rfl⟩
      go_wp2_with fail
      refine H2.out.mono ?_; rintro e w1 ⟨rfl, rfl⟩
      go_wp2_with fail
      go_ret
      exact ⟨rfl, rfl⟩
  · obtain rfl : c = 1 := hk
    clear r1 r2 r3
    go_enter Tryd.func38, Tryd.ntmps38
    go_wp2_with fail
    refine H1.out.mono ?_; rintro e w1 ⟨rfl, rfl⟩
    go_wp2_with fail
    refine H2.out.mono ?_; rintro e w1 ⟨rfl, rfl⟩
    go_wp2_with fail
    go_ret
    exact ⟨rfl, rfl⟩
  · obtain rfl : c = -1 := hk
    clear r1 r2 r3
    go_enter Tryd.func38, Tryd.ntmps38
    go_wp2_with fail
    refine H1.out.mono ?_; rintro e w1 ⟨rfl, rfl⟩
    go_wp2_with fail
    refine H2.out.mono ?_; rintro e w1 ⟨rfl, rfl⟩
    go_wp2_with fail
    go_ret
    exact ⟨rfl, rfl⟩
  · have hk' : c = Lib.compareInt n m := hk
    clear hk r1 r2
    rw [← hk'] at r3
    clear hk'
    rcases r3 with ⟨rfl, h⟩ | ⟨rfl, h⟩ | ⟨rfl, h⟩
    · have h' : n < m := h
      clear h
      go_enter Tryd.func38, Tryd.ntmps38
      go_wp2_with fail
      refine H1.out.mono ?_; rintro e w1 ⟨rfl, rfl⟩
      go_wp2_with fail
      refine H2.out.mono ?_; rintro e w1 ⟨rfl, rfl⟩
      go_wp2_with fail
      go_ret
      exact ⟨rfl, rfl⟩
    · obtain rfl : n = m := h
      go_enter Tryd.func38, Tryd.ntmps38
      go_wp2_with fail
      refine H1.out.mono ?_; rintro e w1 ⟨rfl, rfl⟩
      go_wp2_with fail
      refine H2.out.mono ?_; rintro e w1 ⟨rfl, rfl⟩
      go_wp2_with fail
      go_ret
      exact ⟨rfl, rfl⟩
    · have h' : m < n := h
      clear h
      go_enter Tryd.func38, Tryd.ntmps38
      go_wp2_with fail
      refine H1.out.mono ?_; rintro e w1 ⟨rfl, rfl⟩
      go_wp2_with fail
      refine H2.out.mono ?_; rintro e w1 ⟨rfl, rfl⟩
      go_wp2_with fail
      go_ret
      exact ⟨rfl, rfl⟩

end Go.Proofs.YtbankegfmamoiaaDoor
