/-
  Plain facts: a number's bytes between any bytes are one character, of that number; the walk of the statement UtfBetween, at this seat's numbers.
-/
import Derived.Test.YtkendmlbmdhnaaaDoorUtfE
namespace Go.Proofs.YtkendmlbmdhnaaaDoor
open Go Go.RowKit
set_option linter.unusedVariables false

theorem dec1 (n b0 b1 b2 b3 : Nat) (h : b0 < 128) : Lib.decodeN n b0 b1 b2 b3 = (b0, 1) := by
  unfold Lib.decodeN; rw [if_pos h]
theorem dec2 (n b0 b1 b2 b3 r : Nat) (h : 128 ≤ r ∧ r ≤ 2047) (h0 : b0 = 192 + r / 64) (h1 : b1 = 128 + r % 64) (hn : 2 ≤ n) : Lib.decodeN n b0 b1 b2 b3 = (r, 2) := by
  unfold Lib.decodeN
  repeat' split
  all_goals first | (exfalso; omega) | (rw [Prod.mk.injEq]; omega)
theorem dec3 (n b0 b1 b2 b3 r : Nat) (h : (2048 ≤ r ∧ r < 55296) ∨ (57343 < r ∧ r ≤ 65535)) (h0 : b0 = 224 + r / 4096) (h1 : b1 = 128 + r / 64 % 64) (h2 : b2 = 128 + r % 64) (hn : 3 ≤ n) : Lib.decodeN n b0 b1 b2 b3 = (r, 3) := by
  unfold Lib.decodeN
  repeat' split
  all_goals first | (exfalso; omega) | (rw [Prod.mk.injEq]; omega)
theorem dec4 (n b0 b1 b2 b3 r : Nat) (h : 65536 ≤ r ∧ r ≤ 1114111) (h0 : b0 = 240 + r / 262144) (h1 : b1 = 128 + r / 4096 % 64) (h2 : b2 = 128 + r / 64 % 64) (h3 : b3 = 128 + r % 64) (hn : 4 ≤ n) : Lib.decodeN n b0 b1 b2 b3 = (r, 4) := by
  unfold Lib.decodeN
  repeat' split
  all_goals first | (exfalso; omega) | (rw [Prod.mk.injEq]; omega)

/-- Where a good number's bytes stand there is that character. -/
theorem dec_enc (s : ByteArray) (i : Nat) (r : Int) (hg : good r) (hs : i + (Lib.encodeRuneZ r).length ≤ s.size) (hb : ∀ j (hj : j < (Lib.encodeRuneZ r).length), bt s (i + j) = (Lib.encodeRuneZ r)[j]) :
    Utf8.decode s i = (r.toNat, (Lib.encodeRuneZ r).length) := by
  obtain ⟨h0, h1, h2⟩ := hg
  obtain ⟨n, rfl⟩ := Int.eq_ofNat_of_zero_le h0
  rw [Lib.decode_at, Int.toNat_natCast]
  have key : ∀ j (hj : j < (Lib.encodeRuneZ n).length), ((s.get! (i + j)).toNat : Int) = (Lib.encodeRuneZ n)[j] := fun j hj => by rw [← bt_get!]; exact hb j hj
  clear hb
  by_cases k1 : n < 128
  · have e : Lib.encodeRuneZ n = [(n : Int)] := Lib.encodeRuneZ_one (by omega) (by omega)
    simp only [e] at key hs ⊢
    have a := key 0 (by simp)
    simp only [Nat.add_zero, List.getElem_cons_zero] at a
    rw [dec1 _ _ _ _ _ (by omega), show (s.get! i).toNat = n from by omega]
    rfl
  · by_cases k2 : n ≤ 2047
    · have e : Lib.encodeRuneZ n = [192 + (n : Int) / 64, 128 + (n : Int) % 64] := Lib.encodeRuneZ_two (by omega) (by omega)
      simp only [e] at key hs ⊢
      have a := key 0 (by simp)
      have b := key 1 (by simp)
      simp only [Nat.add_zero, List.getElem_cons_zero, List.getElem_cons_succ] at a b
      simp only [List.length_cons, List.length_nil] at hs
      exact dec2 _ _ _ _ _ n (by omega) (by omega) (by omega) (by omega)
    · by_cases k3 : n ≤ 65535
      · have e : Lib.encodeRuneZ n = [224 + (n : Int) / 4096, 128 + (n : Int) / 64 % 64, 128 + (n : Int) % 64] := Lib.encodeRuneZ_three (by omega)
        simp only [e] at key hs ⊢
        have a := key 0 (by simp)
        have b := key 1 (by simp)
        have c := key 2 (by simp)
        simp only [Nat.add_zero, List.getElem_cons_zero, List.getElem_cons_succ] at a b c
        simp only [List.length_cons, List.length_nil] at hs
        exact dec3 _ _ _ _ _ n (by omega) (by omega) (by omega) (by omega) (by omega)
      · have e : Lib.encodeRuneZ n = [240 + (n : Int) / 262144, 128 + (n : Int) / 4096 % 64, 128 + (n : Int) / 64 % 64, 128 + (n : Int) % 64] := Lib.encodeRuneZ_four (by omega) (by omega)
        simp only [e] at key hs ⊢
        have a := key 0 (by simp)
        have b := key 1 (by simp)
        have c := key 2 (by simp)
        have d := key 3 (by simp)
        simp only [Nat.add_zero, List.getElem_cons_zero, List.getElem_cons_succ] at a b c d
        simp only [List.length_cons, List.length_nil] at hs
        exact dec4 _ _ _ _ _ n (by omega) (by omega) (by omega) (by omega) (by omega) (by omega)

theorem enc_lead (r : Int) (hg : good r) : ∀ h, ¬ (128 ≤ (Lib.encodeRuneZ r)[0]'h ∧ (Lib.encodeRuneZ r)[0]'h ≤ 191) := by
  obtain ⟨h0, h1, h2⟩ := hg
  by_cases k1 : r < 128
  · rw [Lib.encodeRuneZ_one (by omega) (by omega)]; intro h; simp only [List.getElem_cons_zero]; omega
  · by_cases k2 : r ≤ 2047
    · rw [Lib.encodeRuneZ_two (by omega) (by omega)]; intro h; simp only [List.getElem_cons_zero]; omega
    · by_cases k3 : r ≤ 65535
      · rw [Lib.encodeRuneZ_three (by omega)]; intro h; simp only [List.getElem_cons_zero]; omega
      · rw [Lib.encodeRuneZ_four (by omega) (by omega)]; intro h; simp only [List.getElem_cons_zero]; omega

theorem wd_one_of_more (s : ByteArray) (j : Nat) (hj : j < s.size) (h : bt s j ≤ 191) : wd s j = 1 := by
  have hf := wd_facts s j hj
  rcases Nat.lt_or_ge (wd s j) 2 with h1 | h1
  · omega
  · have := hf.2.2.2.1 h1; omega

/-- What stands between any bytes. -/
theorem between (x q z : ByteArray) (r : Int) (hg : good r) (hq : q = strOf (Lib.encodeRune r)) :
    runeAt (x ++ q ++ z) x.size = r ∧ sizeAt (x ++ q ++ z) x.size = q.size ∧ bnd (x ++ q ++ z) x.size = true ∧ bnd (x ++ q ++ z) ((x.size + q.size : Nat) : Int) = true := by
  have hql : q.size = (Lib.encodeRuneZ r).length := by rw [hq]; exact enc_len r
  have hl := Lib.encodeRuneZ_length r
  have hsz : (x ++ q ++ z).size = x.size + q.size + z.size := by rw [ByteArray.size_append, ByteArray.size_append]
  have hbt : ∀ j (hj : j < (Lib.encodeRuneZ r).length), bt (x ++ q ++ z) (x.size + j) = (Lib.encodeRuneZ r)[j] := fun j hj => by
    rw [← enc_bt r j hj, ← hq]
    unfold bt
    have e1 : (x ++ q ++ z).data.toList = x.data.toList ++ (q.data.toList ++ z.data.toList) := by simp [ByteArray.data_append]
    have e2 : x.data.toList.length = x.size := rfl
    have e3 : q.data.toList.length = q.size := rfl
    rw [e1, List.getD_eq_getElem?_getD, List.getD_eq_getElem?_getD, List.getElem?_append_right (by omega), e2, Nat.add_sub_cancel_left, List.getElem?_append_left (by omega)]
  generalize x ++ q ++ z = s at *
  have hd := dec_enc s x.size r hg (by omega) hbt
  have hw : wd s x.size = q.size := by unfold wd; rw [hd, hql]
  have hr : rn s x.size = r := by
    unfold rn
    rw [hd]
    have := hg.1
    rw [if_neg]
    · simp only []; omega
    · simp only []
      rintro ⟨a, b⟩
      have e : r = 65533 := by omega
      rw [e] at b
      exact absurd b (by decide +kernel)
  have hlead : ¬ (128 ≤ bt s x.size ∧ bt s x.size ≤ 191) := by
    have := hbt 0 (by omega)
    rw [Nat.add_zero] at this
    rw [this]
    exact enc_lead r hg (by omega)
  have ahead : ∀ j, j < x.size → wd s j ≤ x.size - j := fun j hj => by
    rcases Nat.lt_or_ge (x.size - j) (wd s j) with h | h
    · have := (wd_facts s j (by omega)).2.2.2.2 (x.size - j) (by omega) h
      rw [show j + (x.size - j) = x.size from by omega] at this
      exact absurd this hlead
    · exact h
  refine ⟨by unfold runeAt; rw [if_neg (by omega)]; exact hr, by rw [sizeAt_in s _ (by omega), hw], ?_, ?_⟩
  · rw [bnd_iff s _ (by omega), isB_iff s _ (by omega)]
    intro k h1 h2 h3
    have := ahead (x.size - k) (by omega)
    omega
  · rw [bnd_iff s _ (by omega), isB_iff s _ (by omega)]
    intro k h1 h2 h3
    rcases Nat.lt_trichotomy (x.size + q.size - k) x.size with h | h | h
    · have := ahead (x.size + q.size - k) h
      omega
    · rw [h, hw]; omega
    · have := inside_one s x.size (x.size + q.size - k) (by omega) h (by rw [hw]; omega)
      omega

end Go.Proofs.YtkendmlbmdhnaaaDoor
