/-
  Plain facts for Parse; the contract of keys.bracketed, at this seat's numbers.
-/
import Derived.Test.YtkendmlbmdhnaaaDoorKyD
namespace Go.Proofs.YtkendmlbmdhnaaaDoor
open Go Go.RowKit
set_option linter.unusedVariables false

/-- The i-th key whose text begins with <. -/
def kq (i : Nat) : Int := (spl ++ ctl).getD i 0
theorem kq_low {i : Nat} (h : i < 12) : kq i = nkK i := by
  have key : ∀ i, i < 12 → kq i = nkK i := by decide +kernel
  exact key i h
theorem kq_high {k : Nat} (h0 : 1 ≤ k) (h1 : k ≤ 26) : kq (11 + k) = k := by
  have key : ∀ k : Nat, k ≤ 26 → 1 ≤ k → kq (11 + k) = k := by decide +kernel
  exact key k h1 h0
theorem kq_at (j : Nat) (h : j < (spl ++ ctl).length) : (spl ++ ctl)[j] = kq j := by
  unfold kq; rw [List.getD_eq_getElem?_getD, List.getElem?_eq_getElem h]; rfl
theorem brL_hit (t : List UInt8) (i : Nat) (hi : i < 38) (hno : ∀ j, j < i → (tx (kq j)).isPrefixOf t = false) (h : (tx (kq i)).isPrefixOf t = true) : brL t = kq i := by
  have hl : (spl ++ ctl).length = 38 := by decide +kernel
  have : (spl ++ ctl).find? (fun k => (tx k).isPrefixOf t) = some (kq i) := by
    rw [List.find?_eq_some_iff_getElem]
    refine ⟨h, i, by omega, kq_at i (by omega), fun j hj => ?_⟩
    rw [kq_at j (by omega), hno j hj]
    rfl
  unfold brL
  rw [this]
  rfl
theorem brL_none (t : List UInt8) (hno : ∀ j, j < 38 → (tx (kq j)).isPrefixOf t = false) : brL t = 0 := by
  have hl : (spl ++ ctl).length = 38 := by decide +kernel
  have : (spl ++ ctl).find? (fun k => (tx k).isPrefixOf t) = none := by
    rw [List.find?_eq_none]
    intro x hx
    obtain ⟨j, hj, rfl⟩ := List.mem_iff_getElem.1 hx
    rw [kq_at j hj, hno j (by omega)]
    decide
  unfold brL
  rw [this]
  rfl

theorem rn60 (s : ByteArray) (i : Nat) (hi : i < s.size) : rn s i = 60 ↔ bt s i = 60 := by
  constructor
  · intro h
    obtain ⟨_, hp, _⟩ := rn_enc s i hi (by rw [h]; decide)
    rw [h] at hp
    have := (pre_bt hp (Nat.le_of_lt hi)).2 0 (by decide)
    rw [Nat.add_zero] at this
    rw [this]
    decide
  · intro h
    rw [(ascii_rn s i hi (by omega)).1, h]

/-- Behind a key's text there is a boundary. -/
theorem bd_ascii (s : ByteArray) (i j : Nat) (hj : bd s j = i) : ∀ m, i + m ≤ s.size → (∀ t, t < m → bt s (i + t) < 128) → bd s (j + m) = i + m := by
  intro m
  induction m with
  | zero => intro _ _; rw [Nat.add_zero, Nat.add_zero]; exact hj
  | succ m ih =>
    intro hs hb
    have h1 := ih (by omega) (fun t ht => hb t (by omega))
    have hl : bd s (j + m) < s.size := by omega
    rw [show j + (m + 1) = (j + m) + 1 from rfl, bd_succ s _ hl, h1, (ascii_rn s (i + m) (by omega) (hb m (by omega))).2]
    rfl
theorem key_bd (s : ByteArray) (i j : Nat) (hi : i < s.size) (hj : bd s j = i) (h0 : keyAt s i ≠ 0) : ∃ m, bd s (j + m + 1) = i + (tx (keyAt s i)).length := by
  obtain ⟨hn, hp⟩ := keyAt_pre s i hi h0
  have hl := List.length_pos_iff.2 hn
  by_cases h : keyAt s i ∈ spl ++ ctl
  · refine ⟨(tx (keyAt s i)).length - 1, ?_⟩
    obtain ⟨hs, hb⟩ := pre_bt hp (Nat.le_of_lt hi)
    have := bd_ascii s i j hj (tx (keyAt s i)).length hs (fun t ht => by
      rw [hb t ht]
      have hm : (tx (keyAt s i)).getD t 0 ∈ nm (keyAt s i) := by
        rw [← tx_nm _ h, List.getD_eq_getElem?_getD, List.getElem?_eq_getElem ht]
        exact List.getElem_mem ht
      have := nm_low _ h _ hm
      omega)
    rw [show j + ((tx (keyAt s i)).length - 1) + 1 = j + (tx (keyAt s i)).length from by omega]
    exact this
  · refine ⟨0, ?_⟩
    have e := tx_not _ h
    by_cases ht : ty (keyAt s i) = true
    · rw [if_pos ht] at e
      rw [e] at hp ⊢
      have hg := ((ty_iff _).1 ht).2.2
      have := (enc_rn hg hi hp).2
      rw [show j + 0 + 1 = j + 1 from rfl, bd_succ s j (by rw [hj]; exact hi), hj, this]
    · rw [if_neg ht] at e
      exact absurd e hn
theorem bd_ge (s : ByteArray) {a b : Nat} (h : bd s a < bd s b) : a < b := by
  rcases Nat.lt_or_ge a b with h1 | h1
  · exact h1
  · have := bd_mono s h1; omega

theorem ext_list (s : ByteArray) (i : Nat) : (s.extract i s.size).data.toList = s.data.toList.drop i := by
  rw [ByteArray.data_extract, Array.toList_extract]
  show (s.data.toList.drop i).take (s.size - i) = _
  rw [List.take_of_length_le]
  rw [List.length_drop]
  exact Nat.le_refl _

theorem hasPrefix_of (s p : ByteArray) (w : World) : Calls Tryd.prog 32 #[.string s, .string p] w fun e w' => e = .returned (.bool (p.data.toList.isPrefixOf s.data.toList)) ∧ w = w' :=
  (Tryd.strings_HasPrefix s p w).mono fun _ _ ⟨a, b⟩ => ⟨a, b.symm⟩

attribute [-go_sem] loadCells
set_option maxRecDepth 100000 in
set_option maxHeartbeats 2000000 in
theorem brk_of (q : ByteArray) (w : World) (hn : NmT w) :
    Calls Tryd.prog 25 #[.string q] w fun e w' => e = .returned (.int .i64 (brL q.data.toList)) ∧ Below w.heap.size w w' := by
  obtain ⟨X, hl, hix0⟩ := named_open hn
  have HI := Lib.hid hix0
  have HN := Lib.hid hn
  have HH := Lib.hid fun (p : ByteArray) (v : World) => hasPrefix_of q p v
  have CA := Lib.hid (ctrl_of 97 (by omega) (by omega))
  have CZ := Lib.hid (ctrl_of 122 (by omega) (by omega))
  rw [show ctP 97 = 1 from by decide] at CA
  rw [show ctP 122 = 26 from by decide] at CZ
  generalize q.data.toList = t at *
  clear hn hix0
  go_enter Tryd.func25, Tryd.ntmps25
  go_wp2_with fail
  clear hl
  go_loopw [7] (fun v wr => ∃ i : Nat, i ≤ 12 ∧ v = .int .i64 i ∧ (∀ j, j < i → (tx (kq j)).isPrefixOf t = false) ∧ Below w.heap.size w wr) (fun v _ => 12 - (intOf v).toNat)
  case atStart => exact ⟨0, by omega, rfl, fun j hj => absurd hj (by omega), Below.refl _ _⟩
  case round =>
    obtain ⟨i, hi, rfl, hno, hb⟩ := hrel
    have HB := Lib.hid hb
    have HO := Lib.hid hno
    clear hb hno
    by_cases h12 : i < 12
    · have hix := HI.out i h12
      have e1 : nm (nkK i) = tx (kq i) := by rw [kq_low h12, tx_nm _ (nk_in h12)]
      have e2 : nkK i = kq i := (kq_low h12).symm
      rw [e1, e2] at hix
      have hp := HH.out (strOf (tx (kq i)))
      rw [show (strOf (tx (kq i))).data.toList = tx (kq i) from rfl] at hp
      have HP := Lib.hid hp
      have HBr := Lib.hid (brL_hit t i (by omega) HO.out)
      have HK := HO
      clear e1 e2 hp
      have HX : ∀ b, (tx (kq i)).isPrefixOf t = b → b = true ∨ b = false := fun b _ => by cases b <;> simp
      obtain ⟨pb, hpb⟩ : ∃ pb, (tx (kq i)).isPrefixOf t = pb := ⟨_, rfl⟩
      rw [hpb] at HP HBr
      have HQ := Lib.hid hpb
      clear hpb HX
      generalize hT : strOf (tx (kq i)) = T at *
      clear hT
      generalize hK : kq i = kk at *
      have HKK := Lib.hid hK
      clear hK
      cases pb with
      | true =>
        have HBx := Lib.hid (HBr.out rfl)
        clear HBr
        go_wp2_with fail
        refine (HP.out _).mono ?_
        rintro e w1 ⟨rfl, rfl⟩
        go_wp2_with fail
        rw [HBx.out]
        go_ret
        exact ⟨rfl, HB.out.alloc HB.out.size _⟩
      | false =>
        go_wp2_with fail
        refine (HP.out _).mono ?_
        rintro e w1 ⟨rfl, rfl⟩
        go_wp2_with fail
        go_roundw
        case rel =>
          refine ⟨i + 1, by omega, rfl, fun j hj => ?_, HB.out.alloc HB.out.size _⟩
          rcases Nat.lt_or_ge j i with h | h
          · exact HK.out j h
          · rw [show j = i from by omega, HKK.out]; exact HQ.out
        case measure => simp [intOf]; omega
    · have e12 : i = 12 := by omega
      subst e12
      go_wp2_with fail
      refine (CA.out _).mono ?_; rintro e w1 ⟨rfl, rfl⟩
      go_wp2_with fail
      go_loopw [5] (fun v ws => ∃ k : Nat, 1 ≤ k ∧ k ≤ 27 ∧ v = .int .i64 k ∧ (∀ j, j < 11 + k → (tx (kq j)).isPrefixOf t = false) ∧ Below w.heap.size w ws) (fun v _ => 27 - (intOf v).toNat)
      case atStart => exact ⟨1, by omega, by omega, rfl, HO.out, HB.out⟩
      case round =>
        obtain ⟨k, hk1, hk2, rfl, hno, hb⟩ := hrel
        have HB := Lib.hid hb
        have HO := Lib.hid hno
        clear hb hno
        by_cases h26 : k ≤ 26
        · have hkq := kq_high hk1 h26
          have HT := Lib.hid (text_of k _ (HN.out.below HB.out))
          have HBr := Lib.hid (brL_hit t (11 + k) (by omega) HO.out)
          have hp := HH.out (strOf (tx k))
          rw [show (strOf (tx k)).data.toList = tx k from rfl] at hp
          have HP := Lib.hid hp
          clear hp
          rw [hkq] at HBr
          obtain ⟨pb, hpb⟩ : ∃ pb, (tx (k : Int)).isPrefixOf t = pb := ⟨_, rfl⟩
          rw [hpb] at HP HBr
          have HQ := Lib.hid hpb
          have HKQ := Lib.hid hkq
          clear hpb hkq
          generalize hT : strOf (tx (k : Int)) = T at *
          clear hT
          cases pb with
          | true =>
            have HBx := Lib.hid (HBr.out rfl)
            clear HBr
            go_wp2_with fail
            refine (CZ.out _).mono ?_; rintro e w1 ⟨rfl, rfl⟩
            go_wp2_with fail
            refine HT.out.mono ?_
            rintro e w2 ⟨rfl, hb⟩
            have HB2 := Lib.hid hb
            clear hb
            go_wp2_with fail
            refine (HP.out _).mono ?_
            rintro e w3 ⟨rfl, rfl⟩
            go_wp2_with fail
            rw [HBx.out]
            go_ret
            exact ⟨rfl, HB.out.trans (HB2.out.mono HB.out.size)⟩
          | false =>
            go_wp2_with fail
            refine (CZ.out _).mono ?_; rintro e w1 ⟨rfl, rfl⟩
            go_wp2_with fail
            refine HT.out.mono ?_
            rintro e w2 ⟨rfl, hb⟩
            have HB2 := Lib.hid hb
            clear hb
            go_wp2_with fail
            refine (HP.out _).mono ?_
            rintro e w3 ⟨rfl, rfl⟩
            go_wp2_with fail
            go_roundw
            case rel =>
              refine ⟨k + 1, by omega, by omega, rfl, fun j hj => ?_, HB.out.trans (HB2.out.mono HB.out.size)⟩
              rcases Nat.lt_or_ge j (11 + k) with h | h
              · exact HO.out j h
              · rw [show j = 11 + k from by omega, HKQ.out]; exact HQ.out
            case measure => simp [intOf]; omega
        · have e : k = 27 := by omega
          subst e
          have HBr := Lib.hid (brL_none t HO.out)
          go_wp2_with fail
          refine (CZ.out _).mono ?_; rintro e w1 ⟨rfl, rfl⟩
          go_wp2_with fail
          rw [HBr.out]
          go_ret
          exact ⟨rfl, HB.out⟩

end Go.Proofs.YtkendmlbmdhnaaaDoor
