/-
  The contracts of keys.Is and of the document's own Types, Is, Text of keys, at this seat's numbers.
-/
import Derived.Test.YtkendmlbmdhnaaaDoorKyA
namespace Go.Proofs.YtkendmlbmdhnaaaDoor
open Go Go.RowKit
set_option linter.unusedVariables false

theorem strOf_empty (l : List UInt8) : (strOf l).toList.isEmpty = decide (l = []) := by
  rw [Lib.toList_data]
  show l.isEmpty = _
  cases l <;> rfl

theorem is_of (k : Int) (w : World) (hn : NmT w) :
    Calls Tryd.prog 7 #[.int .i64 k] w fun e w' => e = .returned (.bool (isK k)) ∧ Below w.heap.size w w' := by
  have HT := Lib.hid (text_of k w hn)
  have he := strOf_empty (tx k)
  have hk : isK k = !(strOf (tx k)).toList.isEmpty := by rw [he]; unfold isK; by_cases h : tx k = [] <;> simp [h]
  rw [hk]
  clear hn he hk
  generalize strOf (tx k) = T at *
  go_enter Tryd.func7, Tryd.ntmps7
  go_wp2_with fail
  refine HT.out.mono ?_
  rintro e w1 ⟨rfl, hb⟩
  have HB := Lib.hid hb
  clear hb
  go_wp2_with fail
  go_ret
  exact ⟨by first | rfl | simp, HB.out⟩

theorem rtypes_of (k : Int) (w : World) : Calls Tryd.prog 10 #[.int .i64 k] w fun e w' => e = .returned (.bool (ty k)) ∧ Below w.heap.size w w' := by
  by_cases k0 : k < 32
  · have e : ty k = false := by unfold ty; rw [decide_eq_false_iff_not]; omega
    rw [e]
    clear e
    go_enter Tryd.func10, Tryd.ntmps10
    go_wp2_with fail
    go_ret
    exact ⟨rfl, Below.refl _ _⟩
  · by_cases k1 : k = 127
    · subst k1
      go_enter Tryd.func10, Tryd.ntmps10
      go_wp2_with fail
      go_ret
      exact ⟨rfl, Below.refl _ _⟩
    · have n1 : (k == 127) = false := by rw [beq_eq_false_iff_ne]; exact k1
      have n3 : (k != 127) = true := by rw [bne, n1]; rfl
      by_cases hg : good k
      · have e : ty k = true := (ty_iff k).2 ⟨by omega, k1, hg⟩
        rw [e]
        have HP := Lib.hid (rput_good k w hg)
        have n2 : (strOf (Lib.encodeRune k)).toList.isEmpty = false := by rw [strOf_empty]; exact decide_eq_false (enc_ne k)
        clear e hg
        generalize strOf (Lib.encodeRune k) = q at *
        go_enter Tryd.func10, Tryd.ntmps10
        go_wp2_with fail
        refine HP.out.mono ?_
        rintro e w1 ⟨rfl, hb⟩
        have HB := Lib.hid hb
        clear hb
        go_wp2_with fail
        go_ret
        exact ⟨rfl, HB.out⟩
      · have e : ty k = false := by unfold ty; rw [decide_eq_false_iff_not]; exact fun h => hg h.2.2
        rw [e]
        have HP := Lib.hid (rput_bad k w hg)
        clear e hg
        go_enter Tryd.func10, Tryd.ntmps10
        go_wp2_with fail
        refine HP.out.mono ?_
        rintro e w1 ⟨rfl, hb⟩
        have HB := Lib.hid hb
        clear hb
        go_wp2_with fail
        go_ret
        exact ⟨rfl, HB.out⟩

theorem ris_of (k : Int) (w : World) : Calls Tryd.prog 8 #[.int .i64 k] w fun e w' => e = .returned (.bool (isK k)) ∧ Below w.heap.size w w' := by
  have hi := isK_iff k
  have HT := Lib.hid (rtypes_of k w)
  by_cases hA : -6 ≤ k ∧ k ≤ 27 ∧ k ≠ 0
  · have e : isK k = true := hi.2 (Or.inl hA)
    obtain ⟨a0, a1, a2⟩ := hA
    have n1 : (k == 0) = false := by rw [beq_eq_false_iff_ne]; exact a2
    have n3 : (k != 0) = true := by rw [bne, n1]; rfl
    rw [e]
    clear e hi a2
    go_enter Tryd.func8, Tryd.ntmps8
    go_wp2_with fail
    go_ret
    exact ⟨rfl, Below.refl _ _⟩
  · by_cases hB : k = 127
    · subst hB
      rw [show isK 127 = true from by decide +kernel]
      clear hi
      go_enter Tryd.func8, Tryd.ntmps8
      go_wp2_with fail
      go_ret
      exact ⟨rfl, Below.refl _ _⟩
    · have e : isK k = ty k := by
        by_cases ht : ty k = true
        · rw [ht]; exact hi.2 (Or.inr (Or.inr ht))
        · rw [Bool.eq_false_iff.2 ht, Bool.eq_false_iff]
          intro h
          rcases hi.1 h with h | h | h
          · exact hA h
          · exact hB h
          · exact ht h
      rw [e]
      have n1 : (k == 127) = false := by rw [beq_eq_false_iff_ne]; exact hB
      generalize ty k = tyk at *
      clear e hi hB
      by_cases a0 : -6 ≤ k
      · by_cases a1 : k ≤ 27
        · have a2 : k = 0 := Decidable.not_not.1 fun h => hA ⟨a0, a1, h⟩
          subst a2
          clear hA
          go_enter Tryd.func8, Tryd.ntmps8
          go_wp2_with fail
          refine HT.out.mono ?_
          rintro e w1 ⟨rfl, hb⟩
          have HB := Lib.hid hb
          clear hb
          go_wp2_with fail
          go_ret
          exact ⟨rfl, HB.out⟩
        · clear hA
          go_enter Tryd.func8, Tryd.ntmps8
          go_wp2_with fail
          refine HT.out.mono ?_
          rintro e w1 ⟨rfl, hb⟩
          have HB := Lib.hid hb
          clear hb
          go_wp2_with fail
          go_ret
          exact ⟨rfl, HB.out⟩
      · clear hA
        go_enter Tryd.func8, Tryd.ntmps8
        go_wp2_with fail
        refine HT.out.mono ?_
        rintro e w1 ⟨rfl, hb⟩
        have HB := Lib.hid hb
        clear hb
        go_wp2_with fail
        go_ret
        exact ⟨rfl, HB.out⟩

theorem rtext_60 (w : World) : Calls Tryd.prog 12 #[.int .i64 (60)] w fun e w' => e = .returned (.string (strOf (tx (60)))) ∧ Below w.heap.size w w' := by
  have HT := Lib.hid (ris_of (60) w)
  rw [show isK (60) = true from by decide +kernel] at HT
  rw [show strOf (tx (60)) = ⟨#[60, 108, 116, 62]⟩ from by decide +kernel]
  go_enter Tryd.func12, Tryd.ntmps12
  go_wp2_with fail
  refine HT.out.mono ?_
  rintro e w1 ⟨rfl, hb⟩
  have HB := Lib.hid hb
  clear hb
  go_wp2_with fail
  go_ret
  exact ⟨rfl, HB.out⟩

theorem rtext_9 (w : World) : Calls Tryd.prog 12 #[.int .i64 (9)] w fun e w' => e = .returned (.string (strOf (tx (9)))) ∧ Below w.heap.size w w' := by
  have HT := Lib.hid (ris_of (9) w)
  rw [show isK (9) = true from by decide +kernel] at HT
  rw [show strOf (tx (9)) = ⟨#[60, 84, 97, 98, 62]⟩ from by decide +kernel]
  go_enter Tryd.func12, Tryd.ntmps12
  go_wp2_with fail
  refine HT.out.mono ?_
  rintro e w1 ⟨rfl, hb⟩
  have HB := Lib.hid hb
  clear hb
  go_wp2_with fail
  go_ret
  exact ⟨rfl, HB.out⟩

theorem rtext_13 (w : World) : Calls Tryd.prog 12 #[.int .i64 (13)] w fun e w' => e = .returned (.string (strOf (tx (13)))) ∧ Below w.heap.size w w' := by
  have HT := Lib.hid (ris_of (13) w)
  rw [show isK (13) = true from by decide +kernel] at HT
  rw [show strOf (tx (13)) = ⟨#[60, 67, 82, 62]⟩ from by decide +kernel]
  go_enter Tryd.func12, Tryd.ntmps12
  go_wp2_with fail
  refine HT.out.mono ?_
  rintro e w1 ⟨rfl, hb⟩
  have HB := Lib.hid hb
  clear hb
  go_wp2_with fail
  go_ret
  exact ⟨rfl, HB.out⟩

theorem rtext_8 (w : World) : Calls Tryd.prog 12 #[.int .i64 (8)] w fun e w' => e = .returned (.string (strOf (tx (8)))) ∧ Below w.heap.size w w' := by
  have HT := Lib.hid (ris_of (8) w)
  rw [show isK (8) = true from by decide +kernel] at HT
  rw [show strOf (tx (8)) = ⟨#[60, 66, 83, 62]⟩ from by decide +kernel]
  go_enter Tryd.func12, Tryd.ntmps12
  go_wp2_with fail
  refine HT.out.mono ?_
  rintro e w1 ⟨rfl, hb⟩
  have HB := Lib.hid hb
  clear hb
  go_wp2_with fail
  go_ret
  exact ⟨rfl, HB.out⟩

theorem rtext_27 (w : World) : Calls Tryd.prog 12 #[.int .i64 (27)] w fun e w' => e = .returned (.string (strOf (tx (27)))) ∧ Below w.heap.size w w' := by
  have HT := Lib.hid (ris_of (27) w)
  rw [show isK (27) = true from by decide +kernel] at HT
  rw [show strOf (tx (27)) = ⟨#[60, 69, 115, 99, 62]⟩ from by decide +kernel]
  go_enter Tryd.func12, Tryd.ntmps12
  go_wp2_with fail
  refine HT.out.mono ?_
  rintro e w1 ⟨rfl, hb⟩
  have HB := Lib.hid hb
  clear hb
  go_wp2_with fail
  go_ret
  exact ⟨rfl, HB.out⟩

theorem rtext_127 (w : World) : Calls Tryd.prog 12 #[.int .i64 (127)] w fun e w' => e = .returned (.string (strOf (tx (127)))) ∧ Below w.heap.size w w' := by
  have HT := Lib.hid (ris_of (127) w)
  rw [show isK (127) = true from by decide +kernel] at HT
  rw [show strOf (tx (127)) = ⟨#[60, 68, 101, 108, 62]⟩ from by decide +kernel]
  go_enter Tryd.func12, Tryd.ntmps12
  go_wp2_with fail
  refine HT.out.mono ?_
  rintro e w1 ⟨rfl, hb⟩
  have HB := Lib.hid hb
  clear hb
  go_wp2_with fail
  go_ret
  exact ⟨rfl, HB.out⟩

theorem rtext_m1 (w : World) : Calls Tryd.prog 12 #[.int .i64 (-1)] w fun e w' => e = .returned (.string (strOf (tx (-1)))) ∧ Below w.heap.size w w' := by
  have HT := Lib.hid (ris_of (-1) w)
  rw [show isK (-1) = true from by decide +kernel] at HT
  rw [show strOf (tx (-1)) = ⟨#[60, 76, 101, 102, 116, 62]⟩ from by decide +kernel]
  go_enter Tryd.func12, Tryd.ntmps12
  go_wp2_with fail
  refine HT.out.mono ?_
  rintro e w1 ⟨rfl, hb⟩
  have HB := Lib.hid hb
  clear hb
  go_wp2_with fail
  go_ret
  exact ⟨rfl, HB.out.alloc HB.out.size _⟩

theorem rtext_m2 (w : World) : Calls Tryd.prog 12 #[.int .i64 (-2)] w fun e w' => e = .returned (.string (strOf (tx (-2)))) ∧ Below w.heap.size w w' := by
  have HT := Lib.hid (ris_of (-2) w)
  rw [show isK (-2) = true from by decide +kernel] at HT
  rw [show strOf (tx (-2)) = ⟨#[60, 82, 105, 103, 104, 116, 62]⟩ from by decide +kernel]
  go_enter Tryd.func12, Tryd.ntmps12
  go_wp2_with fail
  refine HT.out.mono ?_
  rintro e w1 ⟨rfl, hb⟩
  have HB := Lib.hid hb
  clear hb
  go_wp2_with fail
  go_ret
  exact ⟨rfl, HB.out.alloc HB.out.size _⟩

theorem rtext_m3 (w : World) : Calls Tryd.prog 12 #[.int .i64 (-3)] w fun e w' => e = .returned (.string (strOf (tx (-3)))) ∧ Below w.heap.size w w' := by
  have HT := Lib.hid (ris_of (-3) w)
  rw [show isK (-3) = true from by decide +kernel] at HT
  rw [show strOf (tx (-3)) = ⟨#[60, 85, 112, 62]⟩ from by decide +kernel]
  go_enter Tryd.func12, Tryd.ntmps12
  go_wp2_with fail
  refine HT.out.mono ?_
  rintro e w1 ⟨rfl, hb⟩
  have HB := Lib.hid hb
  clear hb
  go_wp2_with fail
  go_ret
  exact ⟨rfl, HB.out.alloc HB.out.size _⟩

theorem rtext_m4 (w : World) : Calls Tryd.prog 12 #[.int .i64 (-4)] w fun e w' => e = .returned (.string (strOf (tx (-4)))) ∧ Below w.heap.size w w' := by
  have HT := Lib.hid (ris_of (-4) w)
  rw [show isK (-4) = true from by decide +kernel] at HT
  rw [show strOf (tx (-4)) = ⟨#[60, 68, 111, 119, 110, 62]⟩ from by decide +kernel]
  go_enter Tryd.func12, Tryd.ntmps12
  go_wp2_with fail
  refine HT.out.mono ?_
  rintro e w1 ⟨rfl, hb⟩
  have HB := Lib.hid hb
  clear hb
  go_wp2_with fail
  go_ret
  exact ⟨rfl, HB.out.alloc HB.out.size _⟩

theorem rtext_m5 (w : World) : Calls Tryd.prog 12 #[.int .i64 (-5)] w fun e w' => e = .returned (.string (strOf (tx (-5)))) ∧ Below w.heap.size w w' := by
  have HT := Lib.hid (ris_of (-5) w)
  rw [show isK (-5) = true from by decide +kernel] at HT
  rw [show strOf (tx (-5)) = ⟨#[60, 72, 111, 109, 101, 62]⟩ from by decide +kernel]
  go_enter Tryd.func12, Tryd.ntmps12
  go_wp2_with fail
  refine HT.out.mono ?_
  rintro e w1 ⟨rfl, hb⟩
  have HB := Lib.hid hb
  clear hb
  go_wp2_with fail
  go_ret
  exact ⟨rfl, HB.out.alloc HB.out.size _⟩

theorem rtext_m6 (w : World) : Calls Tryd.prog 12 #[.int .i64 (-6)] w fun e w' => e = .returned (.string (strOf (tx (-6)))) ∧ Below w.heap.size w w' := by
  have HT := Lib.hid (ris_of (-6) w)
  rw [show isK (-6) = true from by decide +kernel] at HT
  rw [show strOf (tx (-6)) = ⟨#[60, 69, 110, 100, 62]⟩ from by decide +kernel]
  go_enter Tryd.func12, Tryd.ntmps12
  go_wp2_with fail
  refine HT.out.mono ?_
  rintro e w1 ⟨rfl, hb⟩
  have HB := Lib.hid hb
  clear hb
  go_wp2_with fail
  go_ret
  exact ⟨rfl, HB.out.alloc HB.out.size _⟩

theorem rtext_not (k : Int) (h : isK k = false) (w : World) : Calls Tryd.prog 12 #[.int .i64 k] w fun e w' => e = .returned (.string (strOf (tx k))) ∧ Below w.heap.size w w' := by
  have HT := Lib.hid (ris_of k w)
  rw [h] at HT
  rw [show strOf (tx k) = ⟨#[]⟩ from by
    have : tx k = [] := by unfold isK at h; simpa using h
    rw [this]; rfl]
  clear h
  go_enter Tryd.func12, Tryd.ntmps12
  go_wp2_with fail
  refine HT.out.mono ?_
  rintro e w1 ⟨rfl, hb⟩
  have HB := Lib.hid hb
  clear hb
  go_wp2_with fail
  go_ret
  exact ⟨rfl, HB.out⟩

theorem tx_ctl2 (k : Int) (h0 : 1 ≤ k) (h1 : k ≤ 26) (hn : k ∉ spl) : strOf (tx k) = ⟨#[60, 67, 45]⟩ ++ strOf [UInt8.ofNat (96 + k).toNat] ++ ⟨#[62]⟩ := by
  have key : ∀ n : Nat, n < 26 → ((n : Int) + 1) ∉ spl → strOf (tx ((n : Int) + 1)) = ⟨#[60, 67, 45]⟩ ++ strOf [UInt8.ofNat (96 + ((n : Int) + 1)).toNat] ++ ⟨#[62]⟩ := by decide +kernel
  obtain ⟨n, rfl⟩ : ∃ n : Nat, k = (n : Int) + 1 := ⟨(k - 1).toNat, by omega⟩
  exact key n (by omega) hn
theorem conv_one (w : World) (x : Int) (h0 : 0 ≤ x) (h1 : x < 256) :
    (convert 36 9 (.slice (some ⟨w.heap.size, 0, none⟩) 1 1)).run Tryd.prog (w.alloc (.cells #[.int .u8 x] 5)) = .ok (.string (strOf [UInt8.ofNat x.toNat])) (w.alloc (.cells #[.int .u8 x] 5)) :=
  string_of (strOf [UInt8.ofNat x.toNat]) (w.alloc (.cells #[.int .u8 x] 5)) w.heap.size 0 1 (bs_new w _ _ _ _ rfl _ fun j hj => by
    have : j = 0 := by have e : (strOf [UInt8.ofNat x.toNat]).size = 1 := rfl; omega
    subst this
    rw [strOf_bt, u8_of x.toNat (by omega), Int.toNat_of_nonneg h0]
    rfl)

theorem rtext_ctl (k : Int) (h0 : 1 ≤ k) (h1 : k ≤ 26) (hn : k ∉ spl) (w : World) : Calls Tryd.prog 12 #[.int .i64 k] w fun e w' => e = .returned (.string (strOf (tx k))) ∧ Below w.heap.size w w' := by
  have HT := Lib.hid (ris_of k w)
  rw [show isK k = true from (isK_iff k).2 (Or.inl ⟨by omega, by omega, by omega⟩)] at HT
  have HE := Lib.hid (tx_ctl2 k h0 h1 hn)
  have hU : (strOf [UInt8.ofNat (96 + k).toNat]).size = 1 := rfl
  have HC := Lib.hid fun w => conv_one w (96 + k) (by omega) (by omega)
  generalize strOf [UInt8.ofNat (96 + k).toNat] = U at *
  have n1 : (k == 60) = false := by rw [beq_eq_false_iff_ne]; omega
  have n2 : (k == 8) = false := by rw [beq_eq_false_iff_ne]; intro h; exact hn (by rw [h]; decide)
  have n3 : (k == 9) = false := by rw [beq_eq_false_iff_ne]; intro h; exact hn (by rw [h]; decide)
  have n4 : (k == 13) = false := by rw [beq_eq_false_iff_ne]; intro h; exact hn (by rw [h]; decide)
  have n5 : (k == 27) = false := by rw [beq_eq_false_iff_ne]; omega
  have n6 : (k == 127) = false := by rw [beq_eq_false_iff_ne]; omega
  clear hn
  go_enter Tryd.func12, Tryd.ntmps12
  go_wp2_with fail
  refine HT.out.mono ?_
  rintro e w1 ⟨rfl, hb⟩
  have HB := Lib.hid hb
  have hc := HC.out w1
  clear hb
  go_wp2_with fail
  rw [HE.out]
  go_ret
  exact ⟨by simp, HB.out.alloc HB.out.size _⟩

theorem rtext_ty (k : Int) (hn : k ∉ spl ++ ctl) (ht : ty k = true) (w : World) : Calls Tryd.prog 12 #[.int .i64 k] w fun e w' => e = .returned (.string (strOf (tx k))) ∧ Below w.heap.size w w' := by
  have HT := Lib.hid (ris_of k w)
  rw [show isK k = true from (isK_iff k).2 (Or.inr (Or.inr ht))] at HT
  have e := tx_not k hn
  rw [if_pos ht] at e
  obtain ⟨t0, t1, hg⟩ := (ty_iff k).1 ht
  have HP := Lib.hid fun v => rput_good k v hg
  rw [← e] at HP
  have n1 : (k == 60) = false := by rw [beq_eq_false_iff_ne]; intro h; exact hn (by rw [h]; decide)
  have n2 : (k == 8) = false := by rw [beq_eq_false_iff_ne]; omega
  have n3 : (k == 9) = false := by rw [beq_eq_false_iff_ne]; omega
  have n4 : (k == 13) = false := by rw [beq_eq_false_iff_ne]; omega
  have n5 : (k == 27) = false := by rw [beq_eq_false_iff_ne]; omega
  have n6 : (k == 127) = false := by rw [beq_eq_false_iff_ne]; exact t1
  generalize strOf (tx k) = T at *
  clear hn hg e ht
  go_enter Tryd.func12, Tryd.ntmps12
  go_wp2_with fail
  refine HT.out.mono ?_
  rintro e w1 ⟨rfl, hb⟩
  have HB := Lib.hid hb
  clear hb
  go_wp2_with fail
  refine (HP.out w1).mono ?_
  rintro e w2 ⟨rfl, hb⟩
  have HB2 := Lib.hid hb
  clear hb
  go_wp2_with fail
  go_ret
  exact ⟨rfl, HB.out.trans (HB2.out.mono HB.out.size)⟩

theorem rtext_of (k : Int) (w : World) : Calls Tryd.prog 12 #[.int .i64 k] w fun e w' => e = .returned (.string (strOf (tx k))) ∧ Below w.heap.size w w' := by
  by_cases hs : k ∈ spl
  · unfold spl at hs
    simp only [List.mem_cons, List.not_mem_nil, or_false] at hs
    rcases hs with rfl | rfl | rfl | rfl | rfl | rfl | rfl | rfl | rfl | rfl | rfl | rfl
    · exact rtext_60 w
    · exact rtext_9 w
    · exact rtext_13 w
    · exact rtext_8 w
    · exact rtext_27 w
    · exact rtext_127 w
    · exact rtext_m1 w
    · exact rtext_m2 w
    · exact rtext_m3 w
    · exact rtext_m4 w
    · exact rtext_m5 w
    · exact rtext_m6 w
  · by_cases hc : 1 ≤ k ∧ k ≤ 26
    · exact rtext_ctl k hc.1 hc.2 hs w
    · have hn : k ∉ spl ++ ctl := fun hm => by
        rcases List.mem_append.1 hm with h | h
        · exact hs h
        · unfold ctl at h
          obtain ⟨n, hn1, hn2⟩ := List.mem_map.1 h
          have := List.mem_range.1 hn1
          omega
      by_cases ht : ty k = true
      · exact rtext_ty k hn ht w
      · refine rtext_not k ?_ w
        unfold isK
        rw [tx_not k hn, if_neg ht]
        rfl

end Go.Proofs.YtkendmlbmdhnaaaDoor
