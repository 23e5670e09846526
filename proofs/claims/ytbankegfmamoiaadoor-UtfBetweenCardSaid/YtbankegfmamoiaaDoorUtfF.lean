/-
  Plain facts: a number's bytes between any bytes are one character, of that number; the walk of the statement UtfBetween, at this seat's numbers.
-/
import Derived.Test.YtbankegfmamoiaaDoorUtfE
namespace Go.Proofs.YtbankegfmamoiaaDoor
open Go Go.RowKit
set_option linter.unusedVariables false

theorem dec1 (n b0 b1 b2 b3 : Nat) (h : b0 < 128) : Lib.decodeN n b0 b1 b2 b3 = (b0, 1) := by
  unfold Lib.decodeN; rw [if_pos h]
theorem dec2 (n b0 b1 b2 b3 r : Nat) (h : 128 ≤ r ∧ r ≤ 2047) (h0 : b0 = 192 + r / 64) (h1 : b1 = 128 + r % 64) (hn : 2 ≤ n) : Lib.decodeN n b0 b1 b2 b3 = (r, 2) := by
  unfold Lib.decodeN
  repeat' split
  all_goals first | (exfalso; omega) | (rw [Prod.mk.injEq]; omega)
theorem dec3 (n b0 b1 b2 b3 r : Nat) (h : (2048 ≤ r ∧ r < 55296) ∨ (57343 < r ∧ r ≤ 65535)) (h0 : b0 = 224 + r / 4096) (h1 : b1 = 128 + r / 64 % 64) (h2 : b2 = 128 + r % 64) (hn : 3 ≤ n) : Lib.decodeN n b0 b1 b2 b3 = (r, 3) := by
  unfold Lib.decodeN
  repeat' split
  all_goals first | (exfalso; omega) | (rw [Prod.mk.injEq]; omega)
theorem dec4 (n b0 b1 b2 b3 r : Nat) (h : 65536 ≤ r ∧ r ≤ 1114111) (h0 : b0 = 240 + r / 262144) (h1 : b1 = 128 + r / 4096 % 64) (h2 : b2 = 128 + r / 64 % 64) (h3 : b3 = 128 + r % 64) (hn : 4 ≤ n) : Lib.decodeN n b0 b1 b2 b3 = (r, 4) := by
  unfold Lib.decodeN
  repeat' split
  all_goals first | (exfalso; omega) | (rw [Prod.mk.injEq]; omega)

/-- Where a good number's bytes stand there is that character. -/
theorem dec_enc (s : ByteArray) (i : Nat) (r : Int) (hg : good r) (hs : i + (Lib.encodeRuneZ r).length ≤ s.size) (hb : ∀ j (hj : j < (Lib.encodeRuneZ r).length), bt s (i + j) = (Lib.encodeRuneZ r)[j]) :
    Utf8.decode s i = (r.toNat, (Lib.encodeRuneZ r).length) := by
  obtain ⟨h0, h1, h2⟩ := hg
  obtain ⟨n, rfl⟩ := Int.eq_ofNat_of_zero_le h0
  rw [Lib.decode_at, Int.toNat_natCast]
  have key : ∀ j (hj : j < (Lib.encodeRuneZ n).length), ((s.get! (i + j)).toNat : Int) = (Lib.encodeRuneZ n)[j] := fun j hj => by rw [← bt_get!]; exact hb j hj
  clear hb
  by_cases k1 : n < 128
  · have e : Lib.encodeRuneZ n = [(n : Int)] := Lib.encodeRuneZ_one (by omega) (by omega)
    simp only [e] at key hs ⊢
    have a := key 0 (by simp)
    simp only [Nat.add_zero, List.getElem_cons_zero] at a
    rw [dec1 _ _ _ _ _ (by omega), show (s.get! i).toNat = n from by omega]
    rfl
  · by_cases k2 : n ≤ 2047
    · have e : Lib.encodeRuneZ n = [192 + (n : Int) / 64, 128 + (n : Int) % 64] := Lib.encodeRuneZ_two (by omega) (by omega)
      simp only [e] at key hs ⊢
      have a := key 0 (by simp)
      have b := key 1 (by simp)
      simp only [Nat.add_zero, List.getElem_cons_zero, List.getElem_cons_succ] at a b
      simp only [List.length_cons, List.length_nil] at hs
      exact dec2 _ _ _ _ _ n (by omega) (by omega) (by omega) (by omega)
    · by_cases k3 : n ≤ 65535
      · have e : Lib.encodeRuneZ n = [224 + (n : Int) / 4096, 128 + (n : Int) / 64 % 64, 128 + (n : Int) % 64] := Lib.encodeRuneZ_three (by omega)
        simp only [e] at key hs ⊢
        have a := key 0 (by simp)
        have b := key 1 (by simp)
        have c := key 2 (by simp)
        simp only [Nat.add_zero, List.getElem_cons_zero, List.getElem_cons_succ] at a b c
        simp only [List.length_cons, List.length_nil] at hs
        exact dec3 _ _ _ _ _ n (by omega) (by omega) (by omega) (by omega) (by omega)
      · have e : Lib.encodeRuneZ n = [240 + (n : Int) / 262144, 128 + (n : Int) / 4096 % 64, 128 + (n : Int) / 64 % 64, 128 + (n : Int) % 64] := Lib.encodeRuneZ_four (by omega) (by omega)
        simp only [e] at key hs ⊢
        have a := key 0 (by simp)
        have b := key 1 (by simp)
        have c := key 2 (by simp)
        have d := key 3 (by simp)
        simp only [Nat.add_zero, List.getElem_cons_zero, List.getElem_cons_succ] at a b c d
        simp only [List.length_cons, List.length_nil] at hs
        exact dec4 _ _ _ _ _ n (by omega) (by omega) (by omega) (by omega) (by omega) (by omega)

theorem enc_lead (r : Int) (hg : good r) : ∀ h, ¬ (128 ≤ (Lib.encodeRuneZ r)[0]'h ∧ (Lib.encodeRuneZ r)[0]'h ≤ 191) := by
  obtain ⟨h0, h1, h2⟩ := hg
  by_cases k1 : r < 128
  · rw [Lib.encodeRuneZ_one (by omega) (by omega)]; intro h; simp only [List.getElem_cons_zero]; omega
  · by_cases k2 : r ≤ 2047
    · rw [Lib.encodeRuneZ_two (by omega) (by omega)]; intro h; simp only [List.getElem_cons_zero]; omega
    · by_cases k3 : r ≤ 65535
      · rw [Lib.encodeRuneZ_three (by omega)]; intro h; simp only [List.getElem_cons_zero]; omega
      · rw [Lib.encodeRuneZ_four (by omega) (by omega)]; intro h; simp only [List.getElem_cons_zero]; omega

theorem wd_one_of_more (s : ByteArray) (j : Nat) (hj : j < s.size) (h : bt s j ≤ 191) : wd s j = 1 := by
  have hf := wd_facts s j hj
  rcases Nat.lt_or_ge (wd s j) 2 with h1 | h1
  · omega
  · have := hf.2.2.2.1 h1; omega

/-- What stands between any bytes. -/
theorem between (x q z : ByteArray) (r : Int) (hg : good r) (hq : q = strOf (Lib.encodeRune r)) :
    runeAt (x ++ q ++ z) x.size = r ∧ sizeAt (x ++ q ++ z) x.size = q.size ∧ bnd (x ++ q ++ z) x.size = true ∧ bnd (x ++ q ++ z) ((x.size + q.size : Nat) : Int) = true := by
  have hql : q.size = (Lib.encodeRuneZ r).length := by rw [hq]; exact enc_len r
  have hl := Lib.encodeRuneZ_length r
  have hsz : (x ++ q ++ z).size = x.size + q.size + z.size := by rw [ByteArray.size_append, ByteArray.size_append]
  have hbt : ∀ j (hj : j < (Lib.encodeRuneZ r).length), bt (x ++ q ++ z) (x.size + j) = (Lib.encodeRuneZ r)[j] := fun j hj => by
    rw [← enc_bt r j hj, ← hq]
    unfold bt
    have e1 : (x ++ q ++ z).data.toList = x.data.toList ++ (q.data.toList ++ z.data.toList) := by simp [ByteArray.data_append]
    have e2 : x.data.toList.length = x.size := rfl
    have e3 : q.data.toList.length = q.size := rfl
    rw [e1, List.getD_eq_getElem?_getD, List.getD_eq_getElem?_getD, List.getElem?_append_right (by omega), e2, Nat.add_sub_cancel_left, List.getElem?_append_left (by omega)]
  generalize x ++ q ++ z = s at *
  have hd := dec_enc s x.size r hg (by omega) hbt
  have hw : wd s x.size = q.size := by unfold wd; rw [hd, hql]
  have hr : rn s x.size = r := by
    unfold rn
    rw [hd]
    have := hg.1
    rw [if_neg]
    · simp only []; omega
    · simp only []
      rintro ⟨a, b⟩
      have e : r = 65533 := by omega
      rw [e] at b
      exact absurd b (by decide +kernel)
  have hlead : ¬ (128 ≤ bt s x.size ∧ bt s x.size ≤ 191) := by
    have := hbt 0 (by omega)
    rw [Nat.add_zero] at this
    rw [this]
    exact enc_lead r hg (by omega)
  have ahead : ∀ j, j < x.size → wd s j ≤ x.size - j := fun j hj => by
    rcases Nat.lt_or_ge (x.size - j) (wd s j) with h | h
    · have := (wd_facts s j (by omega)).2.2.2.2 (x.size - j) (by omega) h
      rw [show j + (x.size - j) = x.size from by omega] at this
      exact absurd this hlead
    · exact h
  refine ⟨by unfold runeAt; rw [if_neg (by omega)]; exact hr, by rw [sizeAt_in s _ (by omega), hw], ?_, ?_⟩
  · rw [bnd_iff s _ (by omega), isB_iff s _ (by omega)]
    intro k h1 h2 h3
    have := ahead (x.size - k) (by omega)
    omega
  · rw [bnd_iff s _ (by omega), isB_iff s _ (by omega)]
    intro k h1 h2 h3
    rcases Nat.lt_trichotomy (x.size + q.size - k) x.size with h | h | h
    · have := ahead (x.size + q.size - k) h
      omega
    · rw [h, hw]; omega
    · have := inside_one s x.size (x.size + q.size - k) (by omega) h (by rw [hw]; omega)
      omega

set_option maxRecDepth 100000 in
set_option maxHeartbeats 2000000 in
theorem utfBetween_walk (a c : ByteArray) (r : Int) (w : World) (ha : a.size ≤ maxLen) (hc : c.size ≤ maxLen) (h0 : -9223372036854775808 ≤ r) (h1 : r ≤ 9223372036854775807) (ht : Tabs w) :
    Calls Tryd.prog 7 #[.string a, .string c, .int .i64 r] w fun e w' => e = .returned (.bool true) ∧ Below w.heap.size w w' := by
  have HC1 := Lib.hid fun w => cut1_of a 100 w ha (by decide)
  have HC2 := Lib.hid fun w => cut1_of c 100 w hc (by decide)
  have l1 := cutS1_le a 100
  have l2 := cutS1_le c 100
  generalize cutS1 a 100 = x at *
  generalize cutS1 c 100 = z at *
  have HT := Lib.hid ht
  have B0 := Lib.hid (Below.refl w.heap.size w)
  clear ha hc ht
  by_cases hg : good r
  · obtain ⟨q, hq⟩ : ∃ q, q = strOf (Lib.encodeRune r) := ⟨_, rfl⟩
    have hb4 := between x q z r hg hq
    have hql : 1 ≤ q.size ∧ q.size ≤ 4 := by rw [hq, enc_len]; exact Lib.encodeRuneZ_length r
    obtain ⟨q1, q2⟩ := hql
    have hp := put_good_chain (W := w) r hg w B0.out
    rw [← hq] at hp
    have HP := Lib.hid hp
    have HB4 := Lib.hid hb4
    have hsz : (x ++ q ++ z).size = x.size + q.size + z.size := by rw [ByteArray.size_append, ByteArray.size_append]
    have HSZ := Lib.hid hsz
    have hne : ((q.size : Int) == 0) = false := by rw [beq_eq_false_iff_ne]; omega
    clear hg hq hb4 hp hsz
    go_enter Tryd.func7, Tryd.ntmps7
    go_wp2_with fail
    refine (HC1.out _).mono ?_; rintro e w1 ⟨rfl, rfl⟩
    go_wp2_with fail
    refine (HC2.out _).mono ?_; rintro e w1 ⟨rfl, rfl⟩
    go_wp2_with fail
    refine HP.out.mono ?_; rintro e w2 ⟨g, rfl, hb, hst⟩; have B2 := Lib.hid hb; clear hb
    have hs2 := hst w2 (Below.refl _ _)
    clear hst
    obtain ⟨cap, W, rb, hh, b1⟩ := held_of (x ++ q ++ z) w2 (by rw [HSZ.out]; unfold maxLen; omega)
    have H8 := Lib.hid (show At8 W w2.heap.size cap (x ++ q ++ z) from ⟨hh, (HT.out.below B2.out).below b1⟩)
    have C1 := Lib.hid (fun v hv => rune_at H8.out x.size v hv)
    have C2 := Lib.hid (fun v hv => size_at H8.out x.size v hv)
    have C3 := Lib.hid (fun v hv => bound_at H8.out x.size (by omega) (by omega) v hv)
    have C4 := Lib.hid (fun v hv => bound_at H8.out ((x.size + q.size : Nat) : Int) (by omega) (by omega) v hv)
    rw [HB4.out.1, HSZ.out] at C1
    rw [HB4.out.2.1, HSZ.out] at C2
    rw [HB4.out.2.2.1, HSZ.out] at C3
    rw [HB4.out.2.2.2, HSZ.out, Int.natCast_add] at C4
    rw [HSZ.out] at rb
    have BW := Lib.hid (B2.out.trans (b1.mono B2.out.size))
    have BB := Lib.hid (Below.refl W.heap.size W)
    clear hh b1
    have m1 : x.size + q.size ≤ 9223372036854775807 := by omega
    have m2 : x.size + q.size + z.size ≤ 9223372036854775807 := by omega
    go_wp2_with fail
    refine (C1.out _ BB.out).mono ?_; rintro e w3 ⟨rfl, hb⟩; have B3 := Lib.hid hb; clear hb
    go_wp2_with fail
    refine (C2.out _ B3.out).mono ?_; rintro e w4 ⟨rfl, hb⟩; have B4 := Lib.hid hb; clear hb
    go_wp2_with fail
    refine (C3.out _ B4.out).mono ?_; rintro e w5 ⟨rfl, hb⟩; have B5 := Lib.hid hb; clear hb
    go_wp2_with fail
    refine (C4.out _ B5.out).mono ?_; rintro e w6 ⟨rfl, hb⟩; have B6 := Lib.hid hb; clear hb
    go_wp2_with fail
    refine (awake1_chain H8.out.tabs _ B6.out).mono ?_; rintro e w7 ⟨rfl, hb⟩
    go_wp2_with fail
    go_ret
    exact ⟨rfl, BW.out.trans (hb.mono BW.out.size)⟩
  · have HP := Lib.hid (put_bad r w hg)
    have hr : (r < 0 ∨ 1114111 < r) ∨ (¬ r < 0 ∧ ¬ 1114111 < r ∧ 55296 ≤ r ∧ r ≤ 57343) := by unfold good at hg; omega
    clear hg
    rcases hr with (hr | hr) | ⟨k1, k2, k3, k4⟩
    all_goals
      go_enter Tryd.func7, Tryd.ntmps7
      go_wp2_with fail
      refine (HC1.out _).mono ?_; rintro e w1 ⟨rfl, rfl⟩
      go_wp2_with fail
      refine (HC2.out _).mono ?_; rintro e w1 ⟨rfl, rfl⟩
      go_wp2_with fail
      refine HP.out.mono ?_; rintro e w1 ⟨rfl, rfl⟩
      go_wp2_with fail
      refine (awake1_chain HT.out _ B0.out).mono ?_; rintro e w2 ⟨rfl, hb⟩
      go_wp2_with fail
      go_ret
      exact ⟨rfl, hb⟩

end Go.Proofs.YtbankegfmamoiaaDoor
