/-
  The contracts of keys.Ctrl, Types, Text, Is, at this seat's numbers.
-/
import Derived.Test.YtkendmlbmdhnaaaDoorKyP
import Derived.Deep.RegionWith
namespace Go.Proofs.YtkendmlbmdhnaaaDoor
open Go Go.RowKit
set_option linter.unusedVariables false

/-- The table of names: as it lies, and as a value. -/
def ntb : List Value := spl.flatMap fun k => [.int .i64 k, .string (strOf (nm k))]
def NmT (w : World) : Prop := ∀ j v, ntb[j]? = some v → w.cell? ⟨0, j, none⟩ = some v
theorem NmT.below {w w' : World} (h : NmT w) (hb : Below w.heap.size w w') : NmT w' := fun j v hj => by
  have := h j v hj
  rw [hb.cell (World.block_lt_of_cell? w _ this)]; exact this
def nkK (i : Nat) : Int := spl.getD i 0
theorem nk_in {i : Nat} (h : i < 12) : nkK i ∈ spl ++ ctl := by
  have key : ∀ i, i < 12 → nkK i ∈ spl ++ ctl := by decide +kernel
  exact key i h
theorem nk_not {k : Int} (h : ∀ j, j < 12 → nkK j ≠ k) : k ∉ spl := by
  intro hm
  obtain ⟨i, hi⟩ := List.mem_iff_getElem?.1 hm
  have hl : i < 12 := by
    have := (List.getElem?_eq_some_iff.1 hi).1
    exact this
  exact h i hl (by unfold nkK; rw [List.getD_eq_getElem?_getD, hi]; rfl)

theorem idx_named (i : Nat) (hi : i < 12) (w : World) : (Instr.index 39 (.agg ntb.toArray) (.int .i64 i)).run Tryd.prog w = .ok (.agg #[.int .i64 (nkK i), .string (strOf (nm (nkK i)))]) w := by
  rcases (show i = 0 ∨ i = 1 ∨ i = 2 ∨ i = 3 ∨ i = 4 ∨ i = 5 ∨ i = 6 ∨ i = 7 ∨ i = 8 ∨ i = 9 ∨ i = 10 ∨ i = 11 by omega) with rfl | rfl | rfl | rfl | rfl | rfl | rfl | rfl | rfl | rfl | rfl | rfl
  all_goals kernel_rfl

/-- The table as a value, behind a name. -/
theorem named_open {w : World} (h : NmT w) : ∃ X : Array Value, (loadCells ⟨0, 0, none⟩ 24).run Tryd.prog w = .ok X w ∧
      ∀ i : Nat, i < 12 → ∀ w, (Instr.index 39 (.agg X) (.int .i64 i)).run Tryd.prog w = .ok (.agg #[.int .i64 (nkK i), .string (strOf (nm (nkK i)))]) w := by
  refine ⟨ntb.toArray, ?_, idx_named⟩
  have hl := run_loadCells_list (P := Tryd.prog) w ⟨0, 0, none⟩ ntb (fun j v hv => by
      have hadd : (⟨0, 0, none⟩ : Addr).add j = ⟨0, j, none⟩ := by unfold Addr.add; split <;> simp_all
      rw [hadd]
      exact h j v hv)
  have e : ntb.length = 24 := by decide
  rw [e] at hl
  exact hl
attribute [-go_sem] loadCells

def ctP (c : Int) : Int := if 97 ≤ c ∧ c ≤ 122 then c - 96 else 0
theorem ctrl_of (c : Int) (h0 : 0 ≤ c) (h1 : c < 256) (w : World) : Calls Tryd.prog 13 #[.int .u8 c] w fun e w' => e = .returned (.int .i64 (ctP c)) ∧ w = w' := by
  unfold ctP
  by_cases k0 : c < 97
  · rw [if_neg (by omega)]
    go_enter Tryd.func13, Tryd.ntmps13
    go_wp2
    go_ret
    exact ⟨rfl, rfl⟩
  · by_cases k1 : 122 < c
    · rw [if_neg (by omega)]
      go_enter Tryd.func13, Tryd.ntmps13
      go_wp2
      go_ret
      exact ⟨rfl, rfl⟩
    · rw [if_pos (by omega)]
      go_enter Tryd.func13, Tryd.ntmps13
      go_wp2
      go_ret
      exact ⟨ret_i (by omega), rfl⟩
theorem rctrl_of (c : Int) (h0 : 0 ≤ c) (h1 : c < 256) (w : World) : Calls Tryd.prog 14 #[.int .u8 c] w fun e w' => e = .returned (.int .i64 (ctP c)) ∧ w = w' := by
  unfold ctP
  by_cases k0 : c < 97
  · rw [if_neg (by omega)]
    go_enter Tryd.func14, Tryd.ntmps14
    go_wp2
    go_ret
    exact ⟨rfl, rfl⟩
  · by_cases k1 : 122 < c
    · rw [if_neg (by omega)]
      go_enter Tryd.func14, Tryd.ntmps14
      go_wp2
      go_ret
      exact ⟨rfl, rfl⟩
    · rw [if_pos (by omega)]
      go_enter Tryd.func14, Tryd.ntmps14
      go_wp2
      go_ret
      exact ⟨ret_i (by omega), rfl⟩

theorem ty_iff (k : Int) : ty k = true ↔ 32 ≤ k ∧ k ≠ 127 ∧ good k := by unfold ty; exact decide_eq_true_iff

theorem types_of (k : Int) (w : World) : Calls Tryd.prog 9 #[.int .i64 k] w fun e w' => e = .returned (.bool (ty k)) ∧ Below w.heap.size w w' := by
  by_cases k0 : k < 32
  · have e : ty k = false := by unfold ty; rw [decide_eq_false_iff_not]; omega
    rw [e]
    clear e
    go_enter Tryd.func9, Tryd.ntmps9
    go_wp2_with fail
    go_ret
    exact ⟨rfl, Below.refl _ _⟩
  · by_cases k1 : k = 127
    · subst k1
      go_enter Tryd.func9, Tryd.ntmps9
      go_wp2_with fail
      go_ret
      exact ⟨rfl, Below.refl _ _⟩
    · have n1 : (k == 127) = false := by rw [beq_eq_false_iff_ne]; exact k1
      by_cases hg : good k
      · have e : ty k = true := (ty_iff k).2 ⟨by omega, k1, hg⟩
        rw [e]
        have HP := Lib.hid (put_good k w hg)
        have hl := (Lib.encodeRuneZ_length k)
        rw [← enc_len] at hl
        clear e hg
        generalize strOf (Lib.encodeRune k) = q at *
        go_enter Tryd.func9, Tryd.ntmps9
        go_wp2_with fail
        refine HP.out.mono ?_
        rintro e w1 ⟨g, rfl, hbs, hb⟩
        have HB := Lib.hid hb
        clear hb hbs
        go_wp2_with fail
        go_ret
        exact ⟨by simp <;> omega, HB.out⟩
      · have e : ty k = false := by unfold ty; rw [decide_eq_false_iff_not]; exact fun h => hg h.2.2
        rw [e]
        have HP := Lib.hid (put_bad k w hg)
        clear e hg
        go_enter Tryd.func9, Tryd.ntmps9
        go_wp2_with fail
        refine HP.out.mono ?_
        rintro e w1 ⟨rfl, rfl⟩
        go_wp2_with fail
        go_ret
        exact ⟨rfl, Below.refl _ _⟩

theorem strOf_nil : strOf [] = ⟨#[]⟩ := rfl
theorem tx_ctl (k : Int) (h0 : 1 ≤ k) (h1 : k ≤ 26) (hn : k ∉ spl) : strOf (tx k) = ⟨#[60, 67, 45]⟩ ++ Utf8.encode (96 + k) ++ ⟨#[62]⟩ := by
  have key : ∀ n : Nat, n < 26 → ((n : Int) + 1) ∉ spl → strOf (tx ((n : Int) + 1)) = ⟨#[60, 67, 45]⟩ ++ Utf8.encode (96 + ((n : Int) + 1)) ++ ⟨#[62]⟩ := by decide +kernel
  obtain ⟨n, rfl⟩ : ∃ n : Nat, k = (n : Int) + 1 := ⟨(k - 1).toNat, by omega⟩
  exact key n (by omega) hn

theorem ctl_size (k : Int) (h0 : 1 ≤ k) (h1 : k ≤ 26) : (Utf8.encode (96 + k)).size = 1 := by
  have key : ∀ n : Nat, n < 26 → (Utf8.encode (96 + ((n : Int) + 1))).size = 1 := by decide +kernel
  obtain ⟨n, rfl⟩ : ∃ n : Nat, k = (n : Int) + 1 := ⟨(k - 1).toNat, by omega⟩
  exact key n (by omega)

set_option maxHeartbeats 2000000 in
theorem text_of (k : Int) (w : World) (hn : NmT w) :
    Calls Tryd.prog 11 #[.int .i64 k] w fun e w' => e = .returned (.string (strOf (tx k))) ∧ Below w.heap.size w w' := by
  obtain ⟨X, hl, hix0⟩ := named_open hn
  have HI := Lib.hid hix0
  have HE : tx k = tx k := rfl
  generalize hT : tx k = T at HE
  have HT := Lib.hid hT
  clear hT HE hn hix0
  go_enter Tryd.func11, Tryd.ntmps11
  go_wp2_with fail
  clear hl
  go_loopw [6] (fun v wr => ∃ i : Nat, i ≤ 12 ∧ v = .int .i64 i ∧ (∀ j, j < i → nkK j ≠ k) ∧ Below w.heap.size w wr) (fun v _ => 12 - (intOf v).toNat)
  case atStart => exact ⟨0, by omega, rfl, fun j hj => absurd hj (by omega), Below.refl _ _⟩
  case round =>
    obtain ⟨i, hi, rfl, hno, hb⟩ := hrel
    have HB := Lib.hid hb
    have HN := Lib.hid hno
    clear hb hno
    by_cases h12 : i < 12
    · have hix := HI.out i h12
      by_cases hk : nkK i = k
      · have d : (nkK i == k) = true := beq_iff_eq.2 hk
        have e : T = nm (nkK i) := by rw [← HT.out, ← hk, tx_nm _ (nk_in h12)]
        have HE := Lib.hid e
        clear e hk
        generalize nm (nkK i) = tt at *
        generalize nkK i = kk at *
        go_wp2_with fail
        rw [HE.out]
        go_ret
        exact ⟨rfl, HB.out.alloc HB.out.size _⟩
      · have d : (nkK i == k) = false := beq_eq_false_iff_ne.2 hk
        have HK := Lib.hid hk
        have HN2 : ∀ j, j < i + 1 → nkK j ≠ k := fun j hj => by
          rcases Nat.lt_or_ge j i with h | h
          · exact HN.out j h
          · rw [show j = i from by omega]; exact HK.out
        have HM := Lib.hid HN2
        clear hk HN2
        generalize strOf (nm (nkK i)) = tt at *
        generalize nkK i = kk at *
        go_wp2_with fail
        go_roundw
        case rel => exact ⟨i + 1, by omega, rfl, HM.out, HB.out.alloc HB.out.size _⟩
        case measure => simp [intOf]; omega
    · have e12 : i = 12 := by omega
      subst e12
      have hs : k ∉ spl := nk_not HN.out
      clear HN HI
      by_cases hc : 1 ≤ k ∧ k ≤ 26
      · obtain ⟨c0, c1⟩ := hc
        have e := tx_ctl k c0 c1 hs
        rw [HT.out] at e
        have hU := ctl_size k c0 c1
        obtain ⟨U, hEU⟩ : ∃ U, Utf8.encode (96 + k) = U := ⟨_, rfl⟩
        rw [hEU] at e hU
        have HE := Lib.hid e
        clear e hs
        have CA := Lib.hid (ctrl_of 97 (by omega) (by omega))
        have CZ := Lib.hid (ctrl_of 122 (by omega) (by omega))
        rw [show ctP 97 = 1 from by decide] at CA
        rw [show ctP 122 = 26 from by decide] at CZ
        go_wp2_with fail
        refine (CA.out _).mono ?_; rintro e w1 ⟨rfl, rfl⟩
        go_wp2_with fail
        refine (CZ.out _).mono ?_; rintro e w2 ⟨rfl, rfl⟩
        have d1 : decide (k ≤ 26) = true := decide_eq_true c1
        go_wp2_with fail
        refine (CA.out _).mono ?_; rintro e w3 ⟨rfl, rfl⟩
        have q1 : 97 + k - 1 = 96 + k := by omega
        go_wp2_with fail
        rw [HE.out]
        go_ret
        exact ⟨by simp, HB.out⟩
      · have e : T = if ty k = true then Lib.encodeRune k else [] := by
          rw [← HT.out]
          refine tx_not k fun hm => ?_
          rcases List.mem_append.1 hm with h | h
          · exact hs h
          · unfold ctl at h
            obtain ⟨n, hn1, hn2⟩ := List.mem_map.1 h
            have := List.mem_range.1 hn1
            omega
        have CA := Lib.hid (ctrl_of 97 (by omega) (by omega))
        have CZ := Lib.hid (ctrl_of 122 (by omega) (by omega))
        rw [show ctP 97 = 1 from by decide] at CA
        rw [show ctP 122 = 26 from by decide] at CZ
        have CT := Lib.hid (types_of k wr)
        by_cases ht : ty k = true
        · rw [if_pos ht] at e
          rw [ht] at CT
          have hg : good k := ((ty_iff k).1 ht).2.2
          have CP := Lib.hid fun v hv => put_good_chain (W := wr) k hg v hv
          have HE := Lib.hid e
          rw [← HE.out] at CP
          clear e hs ht hg
          by_cases c0 : 1 ≤ k
          · have c1 : ¬ k ≤ 26 := fun h => hc ⟨c0, h⟩
            go_wp2_with fail
            refine (CA.out _).mono ?_; rintro e w1 ⟨rfl, rfl⟩
            go_wp2_with fail
            refine (CZ.out _).mono ?_; rintro e w2 ⟨rfl, rfl⟩
            go_wp2_with fail
            refine CT.out.mono ?_; rintro e w3 ⟨rfl, hb⟩
            have HB3 := Lib.hid hb; clear hb
            go_wp2_with fail
            refine (CP.out _ HB3.out).mono ?_; rintro e w4 ⟨g, rfl, hb, hst⟩
            have HB4 := Lib.hid hb; clear hb
            have hst4 := hst _ (Below.refl _ _)
            clear hst
            go_wp2_with fail
            go_ret
            exact ⟨rfl, HB.out.trans (HB4.out.mono HB.out.size)⟩
          · go_wp2_with fail
            refine (CA.out _).mono ?_; rintro e w1 ⟨rfl, rfl⟩
            go_wp2_with fail
            refine CT.out.mono ?_; rintro e w3 ⟨rfl, hb⟩
            have HB3 := Lib.hid hb; clear hb
            go_wp2_with fail
            refine (CP.out _ HB3.out).mono ?_; rintro e w4 ⟨g, rfl, hb, hst⟩
            have HB4 := Lib.hid hb; clear hb
            have hst4 := hst _ (Below.refl _ _)
            clear hst
            go_wp2_with fail
            go_ret
            exact ⟨rfl, HB.out.trans (HB4.out.mono HB.out.size)⟩
        · rw [if_neg ht] at e
          rw [Bool.not_eq_true] at ht
          rw [ht] at CT
          subst e
          clear hs ht
          by_cases c0 : 1 ≤ k
          · have c1 : ¬ k ≤ 26 := fun h => hc ⟨c0, h⟩
            go_wp2_with fail
            refine (CA.out _).mono ?_; rintro e w1 ⟨rfl, rfl⟩
            go_wp2_with fail
            refine (CZ.out _).mono ?_; rintro e w2 ⟨rfl, rfl⟩
            go_wp2_with fail
            refine CT.out.mono ?_; rintro e w3 ⟨rfl, hb⟩
            have HB3 := Lib.hid hb; clear hb
            go_wp2_with fail
            go_ret
            exact ⟨rfl, HB.out.trans (HB3.out.mono HB.out.size)⟩
          · go_wp2_with fail
            refine (CA.out _).mono ?_; rintro e w1 ⟨rfl, rfl⟩
            go_wp2_with fail
            refine CT.out.mono ?_; rintro e w3 ⟨rfl, hb⟩
            have HB3 := Lib.hid hb; clear hb
            go_wp2_with fail
            go_ret
            exact ⟨rfl, HB.out.trans (HB3.out.mono HB.out.size)⟩

end Go.Proofs.YtkendmlbmdhnaaaDoor
