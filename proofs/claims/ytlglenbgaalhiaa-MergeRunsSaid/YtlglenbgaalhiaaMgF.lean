/-
  The contracts of container/heap's down, Push, Pop and Fix over waiting rows, at this seat's numbers.
-/
import Derived.Test.YtlglenbgaalhiaaMgE
namespace Go.Proofs.Ytlglenbgaalhiaa
open Go Go.RowKit
set_option linter.unusedVariables false

theorem kid_of {k i : Nat} (h0 : 0 < k) (h : par k = i) : k = 2 * i + 1 ∨ k = 2 * i + 2 := by unfold par at h; omega

set_option maxRecDepth 100000 in
set_option maxHeartbeats 16000000 in
theorem down_of {W w : World} {p : Nat} {fv : Value} {D : Int → Prop} {c : Int → Int → Int} {R : List Ent} (hC : Cv W fv D c) (hM : Cm c) (hb : Below W.heap.size W w) (h : Hp w W.heap.size p fv R) (hn : R.length ≤ 1000000) (n : Nat) (hnR : n ≤ R.length) (hR : ∀ k, k < n → EntOk W D (gE R k)) (hu : DnOk c R n 0) :
    Calls Try.prog 33 #[.iface 41 (.pointer (some ⟨p, 0, none⟩)), .int .i64 0, .int .i64 n] w fun e w' => (∃ b, e = .returned (.bool b)) ∧ ∃ R', R'.Perm R ∧ Heap c R' n ∧ Hp w' W.heap.size p fv R' ∧ Tn W.heap.size w w' ∧ ∀ k, n ≤ k → gE R' k = gE R k := by
  obtain ⟨m, hnn⟩ : ∃ m, R.length = m := ⟨_, rfl⟩
  have HC := Lib.hid hC
  have HB := Lib.hid hb
  have HH := Lib.hid h
  have HR := Lib.hid hR
  have HU := Lib.hid hu
  have HN := Lib.hid hnn
  have HCM := Lib.hid hM
  rw [hnn] at hn hnR
  have HNR := Lib.hid hnR
  have hn' : n ≤ 1000000 := by omega
  clear hC hb h hR hu hnn hM hnR hn
  have mless := meth_less ⟨p, 0, none⟩
  have mswap := meth_swap ⟨p, 0, none⟩
  go_enter Try.func33, Try.ntmps33
  go_wp2_with fail
  go_loopw [7] (fun v7 wr => ∃ (j : Nat) (R' : List Ent), v7 = .int .i64 j ∧ j ≤ n ∧ R'.Perm R ∧ DnOk c R' n j ∧ Hp wr W.heap.size p fv R' ∧ Tn W.heap.size w wr ∧ (∀ k, n ≤ k → gE R' k = gE R k) ∧ ∀ k, k < n → EntOk W D (gE R' k)) (fun v7 _ => n - (intOf v7).toNat)
  case atStart => exact ⟨0, R, rfl, by omega, List.Perm.refl _, HU.out, HH.out, Tn.refl _ _, fun _ _ => rfl, HR.out⟩
  case round =>
    obtain ⟨wq, rfl⟩ : ∃ wq : World, wq = wr := ⟨_, rfl⟩
    obtain ⟨i, R', rfl, hi, hp, hu, hh, ht, hk, hro⟩ := hrel
    have HRO := Lib.hid hro
    have hlen : R'.length = m := hp.length_eq.trans HN.out
    have HP := Lib.hid hp
    have HU' := Lib.hid hu
    have HH' := Lib.hid hh
    have HT := Lib.hid ht
    have HK := Lib.hid hk
    have HL := Lib.hid hlen
    clear hp hu hh ht hk hlen hro
    obtain ⟨c1, hc1⟩ : ∃ c1, c1 = 2 * i + 1 := ⟨_, rfl⟩
    obtain ⟨c2, hc2⟩ : ∃ c2, c2 = 2 * i + 2 := ⟨_, rfl⟩
    have q1 : 2 * (i : Int) + 1 = (c1 : Int) := by omega
    have q2 : (c1 : Int) + 1 = (c2 : Int) := by omega
    have q3 : decide ((c1 : Int) < 0) = false := decide_eq_false (by omega)
    have q4 : decide ((i : Int) > 0) = decide (0 < i) := by simp
    have b1 : c1 ≤ 2000001 := by omega
    have HC1 := Lib.hid hc1
    have HC2 := Lib.hid hc2
    by_cases g1 : n ≤ c1
    · have d1 : decide ((n : Int) ≤ (c1 : Int)) = true := decide_eq_true (by omega)
      have d1' : decide (n ≤ c1) = true := decide_eq_true (by omega)
      have HF : Hid (Heap c R' n) := Lib.hid (dn_stop HU'.out (fun k k0 kn kp => by have := kid_of k0 kp; have h1 := hc1; omega))
      clear hc1 hc2
      go_wp2_with fail
      go_ret
      exact ⟨⟨_, rfl⟩, R', HP.out, HF.out, HH'.out, HT.out, HK.out⟩
    · have d1 : decide ((n : Int) ≤ (c1 : Int)) = false := decide_eq_false (by omega)
      have d1' : decide (n ≤ c1) = false := decide_eq_false (by omega)
      by_cases g2 : c2 < n
      · have d2 : decide ((c2 : Int) < (n : Int)) = true := decide_eq_true (by omega)
        have d2' : decide (c2 < n) = true := decide_eq_true (by omega)
        have HLs := Lib.hid (less_of HC.out (HB.out.trans (HT.out.low)) HH'.out c2 c1 (by rw [HL.out]; have := HNR.out; omega) (by rw [HL.out]; have := HNR.out; omega) (HRO.out _ (by omega)) (HRO.out _ (by omega)))
        obtain ⟨bb, hbb⟩ : ∃ bb, lsB c (gE R' c2) (gE R' c1) = bb := ⟨_, rfl⟩
        rw [hbb] at HLs
        have HBB := Lib.hid hbb
        clear hbb hc1 hc2
        go_wp2_with fail
        refine HLs.out.mono ?_; rintro e w1 ⟨rfl, hb1⟩
        have HH1 := Lib.hid (HH'.out.below hb1)
        have HT1 := Lib.hid (HT.out.trans (Tn.of_below hb1 (Nat.le_trans HB.out.size HT.out.low.size)))
        clear hb1 HLs
        cases bb
        · have HS : Hid (∀ k, 0 < k → k < n → par k = i → Nl c (gE R' k) (gE R' c1)) := Lib.hid (fun k k0 kn kp => by
            have h1 := HC1.out
            have h2 := HC2.out
            rcases kid_of k0 kp with h | h
            · rw [h, ← h1]; exact nl_refl HCM.out _
            · rw [h, ← h2]; exact HBB.out)
          have HLt := Lib.hid (less_of HC.out (HB.out.trans (HT1.out.low)) HH1.out c1 i (by rw [HL.out]; have := HNR.out; omega) (by rw [HL.out]; have := HNR.out; have := HC1.out; omega) (HRO.out _ (by omega)) (HRO.out _ (by have := HC1.out; omega)))
          obtain ⟨dd, hdd⟩ : ∃ dd, lsB c (gE R' c1) (gE R' i) = dd := ⟨_, rfl⟩
          rw [hdd] at HLt
          have HDD := Lib.hid hdd
          clear hdd
          go_wp2_with fail
          refine HLt.out.mono ?_; rintro e w2 ⟨rfl, hb2⟩
          have HH2 := Lib.hid (HH1.out.below hb2)
          have HT2 := Lib.hid (HT1.out.trans (Tn.of_below hb2 (Nat.le_trans HB.out.size HT1.out.low.size)))
          clear hb2 HLt
          cases dd
          · have HF : Hid (Heap c R' n) := Lib.hid (dn_stop HU'.out (fun k k0 kn kp => nl_trans HCM.out HDD.out (HS.out k k0 kn kp)))
            go_wp2_with fail
            go_ret
            exact ⟨⟨_, rfl⟩, R', HP.out, HF.out, HH2.out, HT2.out, HK.out⟩
          · have HSw := Lib.hid (hswap_of HH2.out i c1 (by rw [HL.out]; have := HNR.out; have := HC1.out; omega) (by rw [HL.out]; have := HNR.out; omega))
            go_wp2_with fail
            refine HSw.out.mono ?_; rintro e w3 ⟨rfl, hh3, ht3⟩
            have HH3 := Lib.hid hh3
            have HT3 := Lib.hid (HT2.out.trans ht3)
            have hpj : par c1 = i := by have h1 := HC1.out; have h2 := HC2.out; unfold par; omega
            have HU3 : Hid (DnOk c (swapE R' i c1) n c1) := Lib.hid (dn_step HCM.out HU'.out (by have h1 := HC1.out; have h2 := HC2.out; omega) (by omega) (by rw [HL.out]; exact HNR.out) hpj HDD.out HS.out)
            have HP3 : Hid ((swapE R' i c1).Perm R) := Lib.hid ((swap_perm (by have h1 := HC1.out; have h2 := HC2.out; omega) (by rw [HL.out]; have := HNR.out; omega)).trans HP.out)
            have HK3 : Hid (∀ k, n ≤ k → gE (swapE R' i c1) k = gE R k) := Lib.hid (fun k hk => by
              have h1 := HC1.out
              rw [gE_swap (by rw [HL.out]; have := HNR.out; omega) (by rw [HL.out]; have := HNR.out; omega), if_neg (by omega), if_neg (by omega)]
              exact HK.out k hk)
            have HRO3 : Hid (∀ k, k < n → EntOk W D (gE (swapE R' i c1) k)) := Lib.hid (fun k hk => by
              have h1 := HC1.out
              rw [gE_swap (by rw [HL.out]; have := HNR.out; omega) (by rw [HL.out]; have := HNR.out; omega)]
              split
              · exact HRO.out i (by omega)
              · split
                · exact HRO.out c1 (by omega)
                · exact HRO.out k hk)
            have HLJ : Hid (i < c1) := Lib.hid (by have h1 := HC1.out; have h2 := HC2.out; omega)
            clear hh3 ht3 HSw hpj
            go_wp2_with fail
            go_roundw
            case rel => exact ⟨c1, swapE R' i c1, rfl, by omega, HP3.out, HU3.out, HH3.out, HT3.out, HK3.out, HRO3.out⟩
            case measure => have := HLJ.out; simp [intOf]; omega
        · have HS : Hid (∀ k, 0 < k → k < n → par k = i → Nl c (gE R' k) (gE R' c2)) := Lib.hid (fun k k0 kn kp => by
            have h1 := HC1.out
            have h2 := HC2.out
            rcases kid_of k0 kp with h | h
            · rw [h, ← h1]; exact ls_asym HCM.out HBB.out
            · rw [h, ← h2]; exact nl_refl HCM.out _)
          have HLt := Lib.hid (less_of HC.out (HB.out.trans (HT1.out.low)) HH1.out c2 i (by rw [HL.out]; have := HNR.out; omega) (by rw [HL.out]; have := HNR.out; have := HC1.out; omega) (HRO.out _ (by omega)) (HRO.out _ (by have := HC1.out; omega)))
          obtain ⟨dd, hdd⟩ : ∃ dd, lsB c (gE R' c2) (gE R' i) = dd := ⟨_, rfl⟩
          rw [hdd] at HLt
          have HDD := Lib.hid hdd
          clear hdd
          go_wp2_with fail
          refine HLt.out.mono ?_; rintro e w2 ⟨rfl, hb2⟩
          have HH2 := Lib.hid (HH1.out.below hb2)
          have HT2 := Lib.hid (HT1.out.trans (Tn.of_below hb2 (Nat.le_trans HB.out.size HT1.out.low.size)))
          clear hb2 HLt
          cases dd
          · have HF : Hid (Heap c R' n) := Lib.hid (dn_stop HU'.out (fun k k0 kn kp => nl_trans HCM.out HDD.out (HS.out k k0 kn kp)))
            go_wp2_with fail
            go_ret
            exact ⟨⟨_, rfl⟩, R', HP.out, HF.out, HH2.out, HT2.out, HK.out⟩
          · have HSw := Lib.hid (hswap_of HH2.out i c2 (by rw [HL.out]; have := HNR.out; have := HC1.out; omega) (by rw [HL.out]; have := HNR.out; omega))
            go_wp2_with fail
            refine HSw.out.mono ?_; rintro e w3 ⟨rfl, hh3, ht3⟩
            have HH3 := Lib.hid hh3
            have HT3 := Lib.hid (HT2.out.trans ht3)
            have hpj : par c2 = i := by have h1 := HC1.out; have h2 := HC2.out; unfold par; omega
            have HU3 : Hid (DnOk c (swapE R' i c2) n c2) := Lib.hid (dn_step HCM.out HU'.out (by have h1 := HC1.out; have h2 := HC2.out; omega) (by omega) (by rw [HL.out]; exact HNR.out) hpj HDD.out HS.out)
            have HP3 : Hid ((swapE R' i c2).Perm R) := Lib.hid ((swap_perm (by have h1 := HC1.out; have h2 := HC2.out; omega) (by rw [HL.out]; have := HNR.out; omega)).trans HP.out)
            have HK3 : Hid (∀ k, n ≤ k → gE (swapE R' i c2) k = gE R k) := Lib.hid (fun k hk => by
              have h1 := HC1.out
              rw [gE_swap (by rw [HL.out]; have := HNR.out; omega) (by rw [HL.out]; have := HNR.out; omega), if_neg (by omega), if_neg (by omega)]
              exact HK.out k hk)
            have HRO3 : Hid (∀ k, k < n → EntOk W D (gE (swapE R' i c2) k)) := Lib.hid (fun k hk => by
              have h1 := HC1.out
              rw [gE_swap (by rw [HL.out]; have := HNR.out; omega) (by rw [HL.out]; have := HNR.out; omega)]
              split
              · exact HRO.out i (by omega)
              · split
                · exact HRO.out c2 (by omega)
                · exact HRO.out k hk)
            have HLJ : Hid (i < c2) := Lib.hid (by have h1 := HC1.out; have h2 := HC2.out; omega)
            clear hh3 ht3 HSw hpj
            go_wp2_with fail
            go_roundw
            case rel => exact ⟨c2, swapE R' i c2, rfl, by omega, HP3.out, HU3.out, HH3.out, HT3.out, HK3.out, HRO3.out⟩
            case measure => have := HLJ.out; simp [intOf]; omega
      · have d2 : decide ((c2 : Int) < (n : Int)) = false := decide_eq_false (by omega)
        have d2' : decide (c2 < n) = false := decide_eq_false (by omega)
        clear hc1 hc2
        have HS : Hid (∀ k, 0 < k → k < n → par k = i → Nl c (gE R' k) (gE R' c1)) := Lib.hid (fun k k0 kn kp => by
          have h1 := HC1.out
          have h2 := HC2.out
          rcases kid_of k0 kp with h | h
          · rw [h, ← h1]; exact nl_refl HCM.out _
          · omega)
        have HLt := Lib.hid (less_of HC.out (HB.out.trans (HT.out.low)) HH'.out c1 i (by rw [HL.out]; have := HNR.out; omega) (by rw [HL.out]; have := HNR.out; have := HC1.out; omega) (HRO.out _ (by omega)) (HRO.out _ (by have := HC1.out; omega)))
        obtain ⟨dd, hdd⟩ : ∃ dd, lsB c (gE R' c1) (gE R' i) = dd := ⟨_, rfl⟩
        rw [hdd] at HLt
        have HDD := Lib.hid hdd
        clear hdd
        go_wp2_with fail
        refine HLt.out.mono ?_; rintro e w2 ⟨rfl, hb2⟩
        have HH2 := Lib.hid (HH'.out.below hb2)
        have HT2 := Lib.hid (HT.out.trans (Tn.of_below hb2 (Nat.le_trans HB.out.size HT.out.low.size)))
        clear hb2 HLt
        cases dd
        · have HF : Hid (Heap c R' n) := Lib.hid (dn_stop HU'.out (fun k k0 kn kp => nl_trans HCM.out HDD.out (HS.out k k0 kn kp)))
          go_wp2_with fail
          go_ret
          exact ⟨⟨_, rfl⟩, R', HP.out, HF.out, HH2.out, HT2.out, HK.out⟩
        · have HSw := Lib.hid (hswap_of HH2.out i c1 (by rw [HL.out]; have := HNR.out; have := HC1.out; omega) (by rw [HL.out]; have := HNR.out; omega))
          go_wp2_with fail
          refine HSw.out.mono ?_; rintro e w3 ⟨rfl, hh3, ht3⟩
          have HH3 := Lib.hid hh3
          have HT3 := Lib.hid (HT2.out.trans ht3)
          have hpj : par c1 = i := by have h1 := HC1.out; have h2 := HC2.out; unfold par; omega
          have HU3 : Hid (DnOk c (swapE R' i c1) n c1) := Lib.hid (dn_step HCM.out HU'.out (by have h1 := HC1.out; have h2 := HC2.out; omega) (by omega) (by rw [HL.out]; exact HNR.out) hpj HDD.out HS.out)
          have HP3 : Hid ((swapE R' i c1).Perm R) := Lib.hid ((swap_perm (by have h1 := HC1.out; have h2 := HC2.out; omega) (by rw [HL.out]; have := HNR.out; omega)).trans HP.out)
          have HK3 : Hid (∀ k, n ≤ k → gE (swapE R' i c1) k = gE R k) := Lib.hid (fun k hk => by
            have h1 := HC1.out
            rw [gE_swap (by rw [HL.out]; have := HNR.out; omega) (by rw [HL.out]; have := HNR.out; omega), if_neg (by omega), if_neg (by omega)]
            exact HK.out k hk)
          have HRO3 : Hid (∀ k, k < n → EntOk W D (gE (swapE R' i c1) k)) := Lib.hid (fun k hk => by
            have h1 := HC1.out
            rw [gE_swap (by rw [HL.out]; have := HNR.out; omega) (by rw [HL.out]; have := HNR.out; omega)]
            split
            · exact HRO.out i (by omega)
            · split
              · exact HRO.out c1 (by omega)
              · exact HRO.out k hk)
          have HLJ : Hid (i < c1) := Lib.hid (by have h1 := HC1.out; have h2 := HC2.out; omega)
          clear hh3 ht3 HSw hpj
          go_wp2_with fail
          go_roundw
          case rel => exact ⟨c1, swapE R' i c1, rfl, by omega, HP3.out, HU3.out, HH3.out, HT3.out, HK3.out, HRO3.out⟩
          case measure => have := HLJ.out; simp [intOf]; omega

/-- A row more. -/
theorem hpush_of {W w : World} {p : Nat} {fv : Value} {D : Int → Prop} {c : Int → Int → Int} {R : List Ent} (hC : Cv W fv D c) (hM : Cm c) (hb : Below W.heap.size W w) (h : Hp w W.heap.size p fv R) (hR : ∀ e ∈ R, EntOk W D e) (hn : R.length < 1000000) (hp : Heap c R R.length) (e : Ent) (he : EntOk W D e) :
    Calls Try.prog 27 #[.iface 41 (.pointer (some ⟨p, 0, none⟩)), .iface 47 (entV e)] w fun e' w' => e' = .returned (.tuple #[]) ∧ ∃ R', R'.Perm (e :: R) ∧ Heap c R' (R.length + 1) ∧ Hp w' W.heap.size p fv R' ∧ Tn W.heap.size w w' := by
  have HP := Lib.hid (wpush_of h hb.size (by omega) e)
  have hu : UpOk c (R ++ [e]) (R ++ [e]).length R.length := by
    have hg : ∀ k, k < R.length → gE (R ++ [e]) k = gE R k := fun k hk => by
      unfold gE; rw [List.getD_eq_getElem?_getD, List.getElem?_append_left hk, List.getD_eq_getElem?_getD]
    refine ⟨fun k k0 kn kj => ?_, fun k k0 kn kp => ?_⟩
    · rw [List.length_append] at kn
      have kl : k < R.length := by simp at kn; omega
      rw [hg k kl, hg (par k) (by have := par_lt k0; omega)]
      exact hp k k0 kl
    · rw [List.length_append] at kn
      have := par_lt k0
      simp at kn; omega
  have HU := Lib.hid hu
  have HAll : Hid (∀ x ∈ R ++ [e], EntOk W D x) := Lib.hid (fun x hx => by
    rcases List.mem_append.1 hx with h | h
    · exact hR x h
    · rw [List.mem_singleton.1 h]; exact he)
  have HC := Lib.hid hC
  have HCM := Lib.hid hM
  have HB := Lib.hid hb
  have hln : (R ++ [e]).length = R.length + 1 := by simp
  have HLn := Lib.hid hln
  obtain ⟨n, hnn⟩ : ∃ n, R.length = n := ⟨_, rfl⟩
  have HN := Lib.hid hnn
  rw [hnn] at hn
  have mpush := meth_push ⟨p, 0, none⟩
  have mlen := meth_len ⟨p, 0, none⟩
  clear hC hM hb h hR hu he hp hln hnn
  go_enter Try.func27, Try.ntmps27
  go_wp2_with fail
  refine HP.out.mono ?_; rintro e' w1 ⟨rfl, hh1, ht1⟩
  have HLe := hlen_of hh1
  rw [HLn.out, HN.out] at HLe
  have HLe := Lib.hid HLe
  have HU1 := Lib.hid (up_of HC.out HCM.out (HB.out.trans ht1.low) hh1 HAll.out (by rw [HLn.out, HN.out]; omega) n (by rw [HLn.out, HN.out]; omega) (by have := HU.out; rwa [HN.out] at this))
  have HT1 := Lib.hid ht1
  have hq : ((n + 1 : Nat) : Int) - 1 = (n : Int) := by omega
  have hq' : (n : Int) + 1 - 1 = (n : Int) := by omega
  clear hh1 ht1 HP
  go_wp2_with fail
  refine HLe.out.mono ?_; rintro e' w2 ⟨rfl, rfl⟩
  go_wp2_with fail
  refine HU1.out.mono ?_; rintro e' w2 ⟨rfl, R', hp', hh', hh2, ht2⟩
  have HE : Hid (R'.Perm (e :: R) ∧ Heap c R' (R.length + 1) ∧ Hp w2 W.heap.size p fv R' ∧ Tn W.heap.size w w2) := Lib.hid ⟨hp'.trans (List.perm_append_singleton e R), by rw [← HLn.out]; exact hh', hh2, HT1.out.trans ht2⟩
  clear hp' hh' hh2 ht2 HU1
  go_wp2_with fail
  go_end0
  exact ⟨rfl, R', by have := HE.out; rwa [HN.out] at this⟩

/-- The top row's next thing was taken. -/
theorem hfix_of {W w : World} {p : Nat} {fv : Value} {D : Int → Prop} {c : Int → Int → Int} {R : List Ent} (hC : Cv W fv D c) (hM : Cm c) (hb : Below W.heap.size W w) (h : Hp w W.heap.size p fv R) (hR : ∀ e ∈ R, EntOk W D e) (hn : R.length ≤ 1000000) (h0 : 0 < R.length) (hp : DnOk c R R.length 0) :
    Calls Try.prog 30 #[.iface 41 (.pointer (some ⟨p, 0, none⟩)), .int .i64 0] w fun e' w' => e' = .returned (.tuple #[]) ∧ ∃ R', R'.Perm R ∧ Heap c R' R.length ∧ Hp w' W.heap.size p fv R' ∧ Tn W.heap.size w w' := by
  have HLe := Lib.hid (hlen_of h)
  have HD := Lib.hid (down_of hC hM hb h hn R.length (Nat.le_refl _) (fun k hk => ok_at hR hk) hp)
  have HC := Lib.hid hC
  have HCM := Lib.hid hM
  have HB := Lib.hid hb
  have HR := Lib.hid hR
  obtain ⟨n, hnn⟩ : ∃ n, R.length = n := ⟨_, rfl⟩
  have HN := Lib.hid hnn
  rw [hnn] at hn h0 HLe HD
  have mlen := meth_len ⟨p, 0, none⟩
  clear hC hM hb h hR hp hnn
  go_enter Try.func30, Try.ntmps30
  go_wp2_with fail
  refine HLe.out.mono ?_; rintro e' w2 ⟨rfl, rfl⟩
  go_wp2_with fail
  refine HD.out.mono ?_; rintro e' w1 ⟨⟨bb, rfl⟩, R', hp', hh', hh1, ht1, _⟩
  have hl' : R'.length = n := hp'.length_eq.trans HN.out
  have HU1 := Lib.hid (up_of HC.out HCM.out (HB.out.trans ht1.low) hh1 (Hp.perm_ok hp' HR.out) (by rw [hl']; exact hn) 0 (by rw [hl']; exact h0) ⟨fun k k0 kn _ => hh' k k0 (by rwa [hl'] at kn), fun k _ _ _ h => absurd h (by omega)⟩)
  have HE : Hid (R'.Perm R ∧ Heap c R' n ∧ Hp w1 W.heap.size p fv R' ∧ Tn W.heap.size w w1) := Lib.hid ⟨hp', hh', hh1, ht1⟩
  have HL' := Lib.hid hl'
  clear hp' hh' hh1 ht1 HD hl' HLe
  cases bb
  · go_wp2_with fail
    refine HU1.out.mono ?_; rintro e' w2 ⟨rfl, R2, hp2, hh2, hx2, ht2⟩
    have HE2 : Hid (R2.Perm R ∧ Heap c R2 n ∧ Hp w2 W.heap.size p fv R2 ∧ Tn W.heap.size w w2) := Lib.hid ⟨hp2.trans HE.out.1, by rw [← HL'.out]; exact hh2, hx2, HE.out.2.2.2.trans ht2⟩
    clear hp2 hh2 hx2 ht2 HU1
    go_wp2_with fail
    go_end0
    exact ⟨rfl, R2, by rw [HN.out]; exact HE2.out⟩
  · go_wp2_with fail
    go_end0
    exact ⟨rfl, R', by rw [HN.out]; exact HE.out⟩

/-- The top row goes. -/
theorem hpop_of {W w : World} {p : Nat} {fv : Value} {D : Int → Prop} {c : Int → Int → Int} {R : List Ent} {e0 : Ent} (hC : Cv W fv D c) (hM : Cm c) (hb : Below W.heap.size W w) (h : Hp w W.heap.size p fv (e0 :: R)) (hR : ∀ e ∈ R, EntOk W D e) (hn : R.length < 1000000) (hp : DnOk c (e0 :: R) (R.length + 1) 0) :
    Calls Try.prog 29 #[.iface 41 (.pointer (some ⟨p, 0, none⟩))] w fun e' w' => (∃ v, e' = .returned v) ∧ ∃ R', R'.Perm R ∧ Heap c R' R.length ∧ Hp w' W.heap.size p fv R' ∧ Tn W.heap.size w w' := by
  have HLe := Lib.hid (hlen_of h)
  have HSw := Lib.hid (hswap_of h 0 R.length (by simp) (by simp))
  have HS : Hid ((swapE (e0 :: R) 0 R.length).Perm (e0 :: R) ∧ DnOk c (swapE (e0 :: R) 0 R.length) R.length 0 ∧ gE (swapE (e0 :: R) 0 R.length) R.length = e0) := Lib.hid (by
    have G : ∀ k, gE (swapE (e0 :: R) 0 R.length) k = if k = R.length then gE (e0 :: R) 0 else if k = 0 then gE (e0 :: R) R.length else gE (e0 :: R) k := fun k => gE_swap (by simp) (by simp)
    refine ⟨?_, ⟨fun k k0 kn kp => ?_, fun k _ _ _ h => absurd h (by omega)⟩, ?_⟩
    · rcases Nat.eq_zero_or_pos R.length with h0 | h0
      · rw [h0, swap_self]
      · exact swap_perm h0 (by simp)
    · have := par_lt k0
      rw [G k, G (par k), if_neg (by omega), if_neg (by omega), if_neg (by omega), if_neg (by omega)]
      exact hp.1 k k0 (by omega) kp
    · rw [G, if_pos rfl]; rfl)
  have HOK : Hid (∀ k, k < R.length → EntOk W D (gE (swapE (e0 :: R) 0 R.length) k)) := Lib.hid (fun k hk => by
    rw [gE_swap (by simp) (by simp), if_neg (by omega)]
    have hg : ∀ q, gE (e0 :: R) (q + 1) = gE R q := fun q => rfl
    split
    · obtain ⟨q, hq⟩ : ∃ q, R.length = q + 1 := ⟨R.length - 1, by omega⟩
      rw [hq, hg]; exact ok_at hR (by omega)
    · obtain ⟨q, rfl⟩ : ∃ q, k = q + 1 := ⟨k - 1, by omega⟩
      rw [hg]; exact ok_at hR (by omega))
  have HC := Lib.hid hC
  have HCM := Lib.hid hM
  have HB := Lib.hid hb
  have HR := Lib.hid hR
  obtain ⟨n, hnn⟩ : ∃ n, R.length = n := ⟨_, rfl⟩
  have HN := Lib.hid hnn
  rw [List.length_cons] at HLe
  have HL0 : Hid ((e0 :: R).length = n + 1) := Lib.hid (by simp [hnn])
  rw [hnn] at hn HLe HSw HS HOK
  have mlen := meth_len ⟨p, 0, none⟩
  have mswap := meth_swap ⟨p, 0, none⟩
  have mpop := meth_pop ⟨p, 0, none⟩
  have hq' : (n : Int) + 1 - 1 = (n : Int) := by omega
  clear hC hM hb h hR hp hnn
  go_enter Try.func29, Try.ntmps29
  go_wp2_with fail
  refine HLe.out.mono ?_; rintro e' w2 ⟨rfl, rfl⟩
  go_wp2_with fail
  refine HSw.out.mono ?_; rintro e' w1 ⟨rfl, hh1, ht1⟩
  have hl1 : (swapE (e0 :: R) 0 n).length = n + 1 := (swap_len _ _ _).trans HL0.out
  have HD := Lib.hid (down_of HC.out HCM.out (HB.out.trans ht1.low) hh1 (by rw [hl1]; omega) n (by rw [hl1]; omega) HOK.out HS.out.2.1)
  have HT1 := Lib.hid ht1
  have HL1 := Lib.hid hl1
  clear hh1 ht1 HSw HLe hl1
  go_wp2_with fail
  refine HD.out.mono ?_; rintro e' w2 ⟨⟨bb, rfl⟩, R2, hp2, hh2, hx2, ht2, hk2⟩
  have hl2 : R2.length = n + 1 := hp2.length_eq.trans HL1.out
  obtain ⟨R3, f, rfl⟩ : ∃ R3 f, R2 = R3 ++ [f] := by
    have hne : R2 ≠ [] := by intro h; rw [h] at hl2; simp at hl2
    exact ⟨_, _, (List.dropLast_concat_getLast hne).symm⟩
  have hl3 : R3.length = n := by rw [List.length_append] at hl2; simpa using hl2
  have hf : f = e0 := by
    have h1 := hk2 n (Nat.le_refl _)
    rw [HS.out.2.2] at h1
    rw [← h1]
    unfold gE
    rw [List.getD_eq_getElem?_getD, ← hl3, List.getElem?_append_right (Nat.le_refl _), Nat.sub_self]; rfl
  subst hf
  have HPo := Lib.hid (wpop_of hx2 (Nat.le_trans HB.out.size (Nat.le_trans HT1.out.low.size ht2.low.size)) (by omega))
  have HE : Hid (R3.Perm R ∧ Heap c R3 n ∧ Tn W.heap.size w w2) := Lib.hid (by
    refine ⟨?_, ?_, HT1.out.trans ht2⟩
    · have h1 := (List.perm_append_singleton f R3).symm.trans (hp2.trans HS.out.1)
      exact List.Perm.cons_inv h1
    · intro k k0 kn
      have h1 := hh2 k k0 kn
      have hg : ∀ k, k < n → gE (R3 ++ [f]) k = gE R3 k := fun k hk => by
        unfold gE; rw [List.getD_eq_getElem?_getD, List.getElem?_append_left (by omega), List.getD_eq_getElem?_getD]
      rwa [hg k kn, hg (par k) (by have := par_lt k0; omega)] at h1)
  clear hp2 hh2 hx2 ht2 hk2 HD hl2 hl3
  go_wp2_with fail
  refine HPo.out.mono ?_; rintro e' w3 ⟨⟨v, rfl⟩, hx3, ht3⟩
  have HE3 : Hid (R3.Perm R ∧ Heap c R3 n ∧ Hp w3 W.heap.size p fv R3 ∧ Tn W.heap.size w w3) := Lib.hid ⟨HE.out.1, HE.out.2.1, hx3, HE.out.2.2.trans ht3⟩
  clear hx3 ht3 HPo
  go_wp2_with fail
  go_ret
  exact ⟨⟨_, rfl⟩, R3, by rw [HN.out]; exact HE3.out⟩

end Go.Proofs.Ytlglenbgaalhiaa
