/-
  container/heap's up, down, Push and Remove over numbers that wait, at this seat's numbers.
-/
import Derived.Test.YtmjlmciocockpaaLfC
namespace Go.Proofs.Ytmjlmciocockpaa
open Go Go.RowKit
set_option linter.unusedVariables false

theorem meth_less (a : Addr) (w : World) : (method 161 68 (.pointer (some a)) "Less").run Try.prog w = .ok (94, .pointer (some a)) w := by kernel_rfl
theorem meth_swap (a : Addr) (w : World) : (method 161 68 (.pointer (some a)) "Swap").run Try.prog w = .ok (97, .pointer (some a)) w := by kernel_rfl
theorem meth_len (a : Addr) (w : World) : (method 161 68 (.pointer (some a)) "Len").run Try.prog w = .ok (93, .pointer (some a)) w := by kernel_rfl
theorem meth_push (a : Addr) (w : World) : (method 161 68 (.pointer (some a)) "Push").run Try.prog w = .ok (96, .pointer (some a)) w := by kernel_rfl
theorem meth_pop (a : Addr) (w : World) : (method 161 68 (.pointer (some a)) "Pop").run Try.prog w = .ok (95, .pointer (some a)) w := by kernel_rfl

/-- Where numbers wait: the row's block, its room, the map's datum are left open. -/
def Hs (w0 w : World) (p m : Nat) (g0 : Option Nat) (R : List Int) : Prop := ∃ g c D, Hw w p m g c D R ∧ Mv p m g0 g w0 w
theorem Hs.refl {w : World} {p m : Nat} {g : Option Nat} {c : Nat} {D : DataW Unit} {R : List Int} (h : Hw w p m g c D R) : Hs w w p m g R := ⟨g, c, D, h, Mv.refl _ _ _ _⟩
theorem Hs.below {w0 w w' : World} {p m : Nat} {g0 : Option Nat} {R : List Int} (h : Hs w0 w p m g0 R) (hb : Below w.heap.size w w') : Hs w0 w' p m g0 R := by
  obtain ⟨g, c, D, h1, h2⟩ := h
  exact ⟨g, c, D, h1.below hb, h2.trans (Mv.of_below hb)⟩
theorem Hs.nd {w0 w : World} {p m : Nat} {g0 : Option Nat} {R : List Int} (h : Hs w0 w p m g0 R) : R.Nodup ∧ ∀ x ∈ R, Wf x := by
  obtain ⟨g, c, D, h1, h2⟩ := h
  exact ⟨h1.nd, h1.wf⟩
theorem hless {w0 w : World} {p m : Nat} {g0 : Option Nat} {R : List Int} (h : Hs w0 w p m g0 R) (i j : Nat) (hi : i < R.length) (hj : j < R.length) :
    Calls Try.prog 94 #[.pointer (some ⟨p, 0, none⟩), .int .i64 i, .int .i64 j] w fun e w' => e = .returned (.bool (lsB (gN R i) (gN R j))) ∧ Hs w0 w' p m g0 R := by
  obtain ⟨g, c, D, h1, h2⟩ := h
  exact (less_of h1 i j hi hj).mono (fun e w' ⟨e1, hb⟩ => ⟨e1, ⟨g, c, D, h1.below hb, h2.trans (Mv.of_below hb)⟩⟩)
theorem hswap {w0 w : World} {p m : Nat} {g0 : Option Nat} {R : List Int} (h : Hs w0 w p m g0 R) (hn : R.length ≤ 1000000) (i j : Nat) (hi : i < R.length) (hj : j < R.length) (hij : i ≠ j) :
    Calls Try.prog 97 #[.pointer (some ⟨p, 0, none⟩), .int .i64 i, .int .i64 j] w fun e w' => e = .returned (.tuple #[]) ∧ Hs w0 w' p m g0 (swapE R i j) := by
  obtain ⟨g, c, D, h1, h2⟩ := h
  exact (wswap_of h1 hn i j hi hj hij).mono (fun e w' ⟨e1, D', h3, h4⟩ => ⟨e1, ⟨g, c, D', h3, h2.trans h4⟩⟩)
theorem hlen {w0 w : World} {p m : Nat} {g0 : Option Nat} {R : List Int} (h : Hs w0 w p m g0 R) : Calls Try.prog 93 #[.pointer (some ⟨p, 0, none⟩)] w fun e w' => e = .returned (.int .i64 R.length) ∧ w = w' := by
  obtain ⟨g, c, D, h1, h2⟩ := h
  exact wlen_of h1

set_option maxRecDepth 100000 in
set_option maxHeartbeats 8000000 in
theorem up_of {w0 w : World} {p m : Nat} {g0 : Option Nat} {R : List Int} (h : Hs w0 w p m g0 R) (hn : R.length ≤ 1000000) (n : Nat) (hnR : n ≤ R.length) (j : Nat) (hj : j < n) (hu : UpOk R n j) :
    Calls Try.prog 46 #[.iface 68 (.pointer (some ⟨p, 0, none⟩)), .int .i64 j] w fun e w' => e = .returned (.tuple #[]) ∧ ∃ R', R'.Perm R ∧ Heap R' n ∧ Hs w0 w' p m g0 R' ∧ ∀ k, n ≤ k → gN R' k = gN R k := by
  have HH := Lib.hid h
  have HU := Lib.hid hu
  have HNR := Lib.hid hnR
  have HNM := Lib.hid hn
  have hn2 : n ≤ 1000000 := by omega
  clear h hu hn hnR
  have mless := meth_less ⟨p, 0, none⟩
  have mswap := meth_swap ⟨p, 0, none⟩
  go_enter Try.func46, Try.ntmps46
  go_wp2_with fail
  go_loopw [1] (fun v1 wr => ∃ (j : Nat) (R' : List Int), v1 = .int .i64 j ∧ j < n ∧ R'.Perm R ∧ UpOk R' n j ∧ Hs w0 wr p m g0 R' ∧ (∀ k, n ≤ k → gN R' k = gN R k)) (fun v1 _ => (intOf v1).toNat)
  case atStart => exact ⟨j, R, rfl, hj, List.Perm.refl _, HU.out, HH.out, fun _ _ => rfl⟩
  case round =>
    obtain ⟨wq, rfl⟩ : ∃ wq : World, wq = wr := ⟨_, rfl⟩
    obtain ⟨i, R', rfl, hi, hp, hu, hh, hk⟩ := hrel
    have HP := Lib.hid hp
    have HU' := Lib.hid hu
    have HH' := Lib.hid hh
    have HK := Lib.hid hk
    clear hp hu hh hk
    have hlen : R'.length = R.length := HP.out.length_eq
    have HL := Lib.hid hlen
    rcases Nat.eq_zero_or_pos i with rfl | hi0
    · have hq : (((0 : Nat) : Int) - 1).tdiv 2 = ((0 : Nat) : Int) := by decide
      go_wp2_with fail
      go_end0
      exact ⟨rfl, R', HP.out, up_stop HU'.out (.inl rfl), HH'.out, HK.out⟩
    · have hq : ((i : Int) - 1).tdiv 2 = ((par i : Nat) : Int) := by
        unfold par
        have : ((i : Int) - 1) = ((i - 1 : Nat) : Int) := by omega
        rw [this]
        rfl
      have hpl := par_lt hi0
      have hiL : i < R'.length := by rw [hlen]; exact Nat.lt_of_lt_of_le hi HNR.out
      have hne : (((par i : Nat) : Int) == (i : Int)) = false := by rw [beq_eq_false_iff_ne]; omega
      have hne2 : ¬ ((par i : Nat) : Int) = (i : Int) := by omega
      have HLs := Lib.hid (hless HH'.out i (par i) hiL (Nat.lt_trans hpl hiL))
      obtain ⟨q, hqq⟩ : ∃ q, par i = q := ⟨_, rfl⟩
      have HQ := Lib.hid hqq
      rw [hqq] at hq hne hne2 HLs hpl
      obtain ⟨bb, hbb⟩ : ∃ bb, lsB (gN R' i) (gN R' q) = bb := ⟨_, rfl⟩
      rw [hbb] at HLs
      have HBB := Lib.hid hbb
      have HIL := Lib.hid hiL
      clear hqq hbb hlen hiL
      go_wp2_with fail
      refine HLs.out.mono ?_; rintro e w1 ⟨rfl, hb1⟩
      have HH1 := Lib.hid hb1
      clear hb1 HLs
      cases bb
      · go_wp2_with fail
        go_end0
        exact ⟨rfl, R', HP.out, up_stop HU'.out (.inr (by rw [HQ.out]; exact HBB.out)), HH1.out, HK.out⟩
      · have HSw := Lib.hid (hswap HH1.out (by rw [HL.out]; exact HNM.out) q i (Nat.lt_trans hpl HIL.out) HIL.out (by omega))
        go_wp2_with fail
        refine HSw.out.mono ?_; rintro e w2 ⟨rfl, hh2⟩
        have HH2 := Lib.hid hh2
        have HU2 : Hid (UpOk (swapE R' q i) n q) := Lib.hid (by
          have := up_step HU'.out hi0 hi (by rw [HL.out]; exact HNR.out) (by rw [HQ.out]; exact HBB.out)
          rwa [HQ.out] at this)
        have HP2 : Hid ((swapE R' q i).Perm R) := Lib.hid ((swap_perm hpl HIL.out).trans HP.out)
        have HK2 : Hid (∀ k, n ≤ k → gN (swapE R' q i) k = gN R k) := Lib.hid (fun k hk => by
          rw [gN_swap (Nat.lt_trans hpl HIL.out) HIL.out, if_neg (by omega), if_neg (by omega)]
          exact HK.out k hk)
        clear hh2 HSw
        go_wp2_with fail
        go_roundw
        case rel => exact ⟨q, swapE R' q i, rfl, by omega, HP2.out, HU2.out, HH2.out, HK2.out⟩
        case measure => simp [intOf]; omega

set_option maxRecDepth 100000 in
set_option maxHeartbeats 16000000 in
theorem down_of {w0 w : World} {p m : Nat} {g0 : Option Nat} {R : List Int} (h : Hs w0 w p m g0 R) (hn : R.length ≤ 1000000) (i0 n : Nat) (hnR : n ≤ R.length) (hi0 : i0 ≤ n) (hu : DnOk R n i0 i0) :
    Calls Try.prog 45 #[.iface 68 (.pointer (some ⟨p, 0, none⟩)), .int .i64 i0, .int .i64 n] w fun e w' => ∃ b, e = .returned (.bool b) ∧ ∃ R', R'.Perm R ∧ ((b = true → Heap R' n) ∧ (b = false → R' = R ∧ UpOk R' n i0)) ∧ Hs w0 w' p m g0 R' ∧ ∀ k, n ≤ k → gN R' k = gN R k := by
  obtain ⟨m', hnn⟩ : ∃ m, R.length = m := ⟨_, rfl⟩
  have HH := Lib.hid h
  have HU := Lib.hid hu
  have HN := Lib.hid hnn
  rw [hnn] at hn hnR
  have hm := hn
  have HNR := Lib.hid hnR
  have hn' : n ≤ 1000000 := by omega
  clear h hu hnn hnR hn
  have mless := meth_less ⟨p, 0, none⟩
  have mswap := meth_swap ⟨p, 0, none⟩
  go_enter Try.func45, Try.ntmps45
  go_wp2_with fail
  go_loopw [7] (fun v7 wr => ∃ (j : Nat) (R' : List Int), v7 = .int .i64 j ∧ j ≤ n ∧ i0 ≤ j ∧ ((j = i0 ∧ R' = R) ∨ i0 < j) ∧ R'.Perm R ∧ DnOk R' n i0 j ∧ Hs w0 wr p m g0 R' ∧ (∀ k, n ≤ k → gN R' k = gN R k)) (fun v7 _ => n - (intOf v7).toNat)
  case atStart => exact ⟨i0, R, rfl, hi0, Nat.le_refl _, .inl ⟨rfl, rfl⟩, List.Perm.refl _, HU.out, HH.out, fun _ _ => rfl⟩
  case round =>
    obtain ⟨wq, rfl⟩ : ∃ wq : World, wq = wr := ⟨_, rfl⟩
    obtain ⟨i, R', rfl, hi, hii, hrr, hp, hu, hh, hk⟩ := hrel
    have HRR := Lib.hid hrr
    have HII := Lib.hid hii
    have hlen : R'.length = m' := hp.length_eq.trans HN.out
    have HP := Lib.hid hp
    have HU' := Lib.hid hu
    have HH' := Lib.hid hh
    have HK := Lib.hid hk
    have HL := Lib.hid hlen
    clear hp hu hh hk hlen hrr
    obtain ⟨c1, hc1⟩ : ∃ c1, c1 = 2 * i + 1 := ⟨_, rfl⟩
    obtain ⟨c2, hc2⟩ : ∃ c2, c2 = 2 * i + 2 := ⟨_, rfl⟩
    have q1 : 2 * (i : Int) + 1 = (c1 : Int) := by omega
    have q2 : (c1 : Int) + 1 = (c2 : Int) := by omega
    have q3 : decide ((c1 : Int) < 0) = false := decide_eq_false (by omega)
    have b1 : c1 ≤ 2000001 := by omega
    have HC1 := Lib.hid hc1
    have HC2 := Lib.hid hc2
    by_cases g1 : n ≤ c1
    · have d1 : decide ((n : Int) ≤ (c1 : Int)) = true := decide_eq_true (by omega)
      have d1' : decide (n ≤ c1) = true := decide_eq_true (by omega)
      have HF : Hid (∀ k, 0 < k → k < n → par k = i → Nl (gN R' k) (gN R' i)) := Lib.hid (fun k k0 kn kp => by have := kid_of k0 kp; have h1 := hc1; omega)
      clear hc1 hc2
      rcases HRR.out with ⟨he, hR'⟩ | hlt
      · have hd : decide ((i : Int) > (i0 : Int)) = false := decide_eq_false (by omega)
        have hd' : decide ((i0 : Int) < (i : Int)) = false := decide_eq_false (by omega)
        have hd2 : decide (i0 < i) = false := decide_eq_false (by omega)
        have HR' := Lib.hid hR'
        have HE := Lib.hid he
        clear hR' he
        go_wp2_with fail
        go_ret
        exact ⟨false, rfl, R', HP.out, ⟨fun h => absurd h (by decide), fun _ => ⟨HR'.out, by rw [← HE.out]; exact dn_stop0 (by have := HU'.out; rwa [← HE.out] at this) HF.out⟩⟩, HH'.out, HK.out⟩
      · have hd : decide ((i : Int) > (i0 : Int)) = true := decide_eq_true (by omega)
        have hd' : decide ((i0 : Int) < (i : Int)) = true := decide_eq_true (by omega)
        have hd2 : decide (i0 < i) = true := decide_eq_true (by omega)
        have HFF : Hid (Heap R' n) := Lib.hid (dn_stop HU'.out (by omega) HF.out)
        go_wp2_with fail
        go_ret
        exact ⟨true, rfl, R', HP.out, ⟨fun _ => HFF.out, fun h => absurd h (by decide)⟩, HH'.out, HK.out⟩
    · have d1 : decide ((n : Int) ≤ (c1 : Int)) = false := decide_eq_false (by omega)
      have d1' : decide (n ≤ c1) = false := decide_eq_false (by omega)
      by_cases g2 : c2 < n
      · have d2 : decide ((c2 : Int) < (n : Int)) = true := decide_eq_true (by omega)
        have d2' : decide (c2 < n) = true := decide_eq_true (by omega)
        have HLs := Lib.hid (hless HH'.out c2 c1 (by rw [HL.out]; have := HNR.out; omega) (by rw [HL.out]; have := HNR.out; omega))
        obtain ⟨bb, hbb⟩ : ∃ bb, lsB (gN R' c2) (gN R' c1) = bb := ⟨_, rfl⟩
        rw [hbb] at HLs
        have HBB := Lib.hid hbb
        clear hbb hc1 hc2
        go_wp2_with fail
        refine HLs.out.mono ?_; rintro e w1 ⟨rfl, hb1⟩
        have HH1 := Lib.hid hb1
        clear hb1 HLs
        cases bb
        · have HS : Hid (∀ k, 0 < k → k < n → par k = i → Nl (gN R' k) (gN R' c1)) := Lib.hid (fun k k0 kn kp => by
            have h1 := HC1.out
            have h2 := HC2.out
            rcases kid_of k0 kp with h | h
            · rw [h, ← h1]; exact nl_refl _
            · rw [h, ← h2]; exact HBB.out)
          have HLt := Lib.hid (hless HH1.out c1 i (by rw [HL.out]; have := HNR.out; omega) (by rw [HL.out]; have := HNR.out; have := HC1.out; have := HC2.out; omega))
          obtain ⟨dd, hdd⟩ : ∃ dd, lsB (gN R' c1) (gN R' i) = dd := ⟨_, rfl⟩
          rw [hdd] at HLt
          have HDD := Lib.hid hdd
          clear hdd
          go_wp2_with fail
          refine HLt.out.mono ?_; rintro e w2 ⟨rfl, hb2⟩
          have HH2 := Lib.hid hb2
          clear hb2 HLt
          cases dd
          · have HF : Hid (∀ k, 0 < k → k < n → par k = i → Nl (gN R' k) (gN R' i)) := Lib.hid (fun k k0 kn kp => nl_trans HDD.out (HS.out k k0 kn kp))
            rcases HRR.out with ⟨he, hR'⟩ | hlt
            · have hd : decide ((i : Int) > (i0 : Int)) = false := decide_eq_false (by omega)
              have hd' : decide ((i0 : Int) < (i : Int)) = false := decide_eq_false (by omega)
              have hd2 : decide (i0 < i) = false := decide_eq_false (by omega)
              have HR' := Lib.hid hR'
              have HE := Lib.hid he
              clear hR' he
              go_wp2_with fail
              go_ret
              exact ⟨false, rfl, R', HP.out, ⟨fun h => absurd h (by decide), fun _ => ⟨HR'.out, by rw [← HE.out]; exact dn_stop0 (by have := HU'.out; rwa [← HE.out] at this) HF.out⟩⟩, HH2.out, HK.out⟩
            · have hd : decide ((i : Int) > (i0 : Int)) = true := decide_eq_true (by omega)
              have hd' : decide ((i0 : Int) < (i : Int)) = true := decide_eq_true (by omega)
              have hd2 : decide (i0 < i) = true := decide_eq_true (by omega)
              have HFF : Hid (Heap R' n) := Lib.hid (dn_stop HU'.out (by omega) HF.out)
              go_wp2_with fail
              go_ret
              exact ⟨true, rfl, R', HP.out, ⟨fun _ => HFF.out, fun h => absurd h (by decide)⟩, HH2.out, HK.out⟩
          · have HSw := Lib.hid (hswap HH2.out (by rw [HL.out]; exact hm) i c1 (by rw [HL.out]; have := HNR.out; have := HC1.out; omega) (by rw [HL.out]; have := HNR.out; omega) (by have := HC1.out; have := HC2.out; omega))
            go_wp2_with fail
            refine HSw.out.mono ?_; rintro e w3 ⟨rfl, hh3⟩
            have HH3 := Lib.hid hh3
            have hpj : par c1 = i := by have h1 := HC1.out; have h2 := HC2.out; unfold par; omega
            have HU3 : Hid (DnOk (swapE R' i c1) n i0 c1) := Lib.hid (dn_step HU'.out (by have h1 := HC1.out; have h2 := HC2.out; omega) (by omega) (by rw [HL.out]; exact HNR.out) hpj HII.out HDD.out HS.out)
            have HP3 : Hid ((swapE R' i c1).Perm R) := Lib.hid ((swap_perm (by have h1 := HC1.out; have h2 := HC2.out; omega) (by rw [HL.out]; have := HNR.out; omega)).trans HP.out)
            have HK3 : Hid (∀ k, n ≤ k → gN (swapE R' i c1) k = gN R k) := Lib.hid (fun k hk => by
              have h1 := HC1.out
              rw [gN_swap (by rw [HL.out]; have := HNR.out; omega) (by rw [HL.out]; have := HNR.out; omega), if_neg (by omega), if_neg (by omega)]
              exact HK.out k hk)
            have HLJ : Hid (i < c1) := Lib.hid (by have h1 := HC1.out; have h2 := HC2.out; omega)
            clear hh3 HSw hpj
            go_wp2_with fail
            go_roundw
            case rel => exact ⟨c1, swapE R' i c1, rfl, by omega, Nat.le_of_lt (Nat.lt_of_le_of_lt HII.out HLJ.out), .inr (Nat.lt_of_le_of_lt HII.out HLJ.out), HP3.out, HU3.out, HH3.out, HK3.out⟩
            case measure => have := HLJ.out; simp [intOf]; omega
        · have HS : Hid (∀ k, 0 < k → k < n → par k = i → Nl (gN R' k) (gN R' c2)) := Lib.hid (fun k k0 kn kp => by
            have h1 := HC1.out
            have h2 := HC2.out
            rcases kid_of k0 kp with h | h
            · rw [h, ← h1]; exact ls_asym HBB.out
            · rw [h, ← h2]; exact nl_refl _)
          have HLt := Lib.hid (hless HH1.out c2 i (by rw [HL.out]; have := HNR.out; omega) (by rw [HL.out]; have := HNR.out; have := HC1.out; have := HC2.out; omega))
          obtain ⟨dd, hdd⟩ : ∃ dd, lsB (gN R' c2) (gN R' i) = dd := ⟨_, rfl⟩
          rw [hdd] at HLt
          have HDD := Lib.hid hdd
          clear hdd
          go_wp2_with fail
          refine HLt.out.mono ?_; rintro e w2 ⟨rfl, hb2⟩
          have HH2 := Lib.hid hb2
          clear hb2 HLt
          cases dd
          · have HF : Hid (∀ k, 0 < k → k < n → par k = i → Nl (gN R' k) (gN R' i)) := Lib.hid (fun k k0 kn kp => nl_trans HDD.out (HS.out k k0 kn kp))
            rcases HRR.out with ⟨he, hR'⟩ | hlt
            · have hd : decide ((i : Int) > (i0 : Int)) = false := decide_eq_false (by omega)
              have hd' : decide ((i0 : Int) < (i : Int)) = false := decide_eq_false (by omega)
              have hd2 : decide (i0 < i) = false := decide_eq_false (by omega)
              have HR' := Lib.hid hR'
              have HE := Lib.hid he
              clear hR' he
              go_wp2_with fail
              go_ret
              exact ⟨false, rfl, R', HP.out, ⟨fun h => absurd h (by decide), fun _ => ⟨HR'.out, by rw [← HE.out]; exact dn_stop0 (by have := HU'.out; rwa [← HE.out] at this) HF.out⟩⟩, HH2.out, HK.out⟩
            · have hd : decide ((i : Int) > (i0 : Int)) = true := decide_eq_true (by omega)
              have hd' : decide ((i0 : Int) < (i : Int)) = true := decide_eq_true (by omega)
              have hd2 : decide (i0 < i) = true := decide_eq_true (by omega)
              have HFF : Hid (Heap R' n) := Lib.hid (dn_stop HU'.out (by omega) HF.out)
              go_wp2_with fail
              go_ret
              exact ⟨true, rfl, R', HP.out, ⟨fun _ => HFF.out, fun h => absurd h (by decide)⟩, HH2.out, HK.out⟩
          · have HSw := Lib.hid (hswap HH2.out (by rw [HL.out]; exact hm) i c2 (by rw [HL.out]; have := HNR.out; have := HC1.out; omega) (by rw [HL.out]; have := HNR.out; omega) (by have := HC1.out; have := HC2.out; omega))
            go_wp2_with fail
            refine HSw.out.mono ?_; rintro e w3 ⟨rfl, hh3⟩
            have HH3 := Lib.hid hh3
            have hpj : par c2 = i := by have h1 := HC1.out; have h2 := HC2.out; unfold par; omega
            have HU3 : Hid (DnOk (swapE R' i c2) n i0 c2) := Lib.hid (dn_step HU'.out (by have h1 := HC1.out; have h2 := HC2.out; omega) (by omega) (by rw [HL.out]; exact HNR.out) hpj HII.out HDD.out HS.out)
            have HP3 : Hid ((swapE R' i c2).Perm R) := Lib.hid ((swap_perm (by have h1 := HC1.out; have h2 := HC2.out; omega) (by rw [HL.out]; have := HNR.out; omega)).trans HP.out)
            have HK3 : Hid (∀ k, n ≤ k → gN (swapE R' i c2) k = gN R k) := Lib.hid (fun k hk => by
              have h1 := HC1.out
              rw [gN_swap (by rw [HL.out]; have := HNR.out; omega) (by rw [HL.out]; have := HNR.out; omega), if_neg (by omega), if_neg (by omega)]
              exact HK.out k hk)
            have HLJ : Hid (i < c2) := Lib.hid (by have h1 := HC1.out; have h2 := HC2.out; omega)
            clear hh3 HSw hpj
            go_wp2_with fail
            go_roundw
            case rel => exact ⟨c2, swapE R' i c2, rfl, by omega, Nat.le_of_lt (Nat.lt_of_le_of_lt HII.out HLJ.out), .inr (Nat.lt_of_le_of_lt HII.out HLJ.out), HP3.out, HU3.out, HH3.out, HK3.out⟩
            case measure => have := HLJ.out; simp [intOf]; omega
      · have d2 : decide ((c2 : Int) < (n : Int)) = false := decide_eq_false (by omega)
        have d2' : decide (c2 < n) = false := decide_eq_false (by omega)
        clear hc1 hc2
        have HS : Hid (∀ k, 0 < k → k < n → par k = i → Nl (gN R' k) (gN R' c1)) := Lib.hid (fun k k0 kn kp => by
          have h1 := HC1.out
          have h2 := HC2.out
          rcases kid_of k0 kp with h | h
          · rw [h, ← h1]; exact nl_refl _
          · omega)
        have HLt := Lib.hid (hless HH'.out c1 i (by rw [HL.out]; have := HNR.out; omega) (by rw [HL.out]; have := HNR.out; have := HC1.out; have := HC2.out; omega))
        obtain ⟨dd, hdd⟩ : ∃ dd, lsB (gN R' c1) (gN R' i) = dd := ⟨_, rfl⟩
        rw [hdd] at HLt
        have HDD := Lib.hid hdd
        clear hdd
        go_wp2_with fail
        refine HLt.out.mono ?_; rintro e w2 ⟨rfl, hb2⟩
        have HH2 := Lib.hid hb2
        clear hb2 HLt
        cases dd
        · have HF : Hid (∀ k, 0 < k → k < n → par k = i → Nl (gN R' k) (gN R' i)) := Lib.hid (fun k k0 kn kp => nl_trans HDD.out (HS.out k k0 kn kp))
          rcases HRR.out with ⟨he, hR'⟩ | hlt
          · have hd : decide ((i : Int) > (i0 : Int)) = false := decide_eq_false (by omega)
            have hd' : decide ((i0 : Int) < (i : Int)) = false := decide_eq_false (by omega)
            have hd2 : decide (i0 < i) = false := decide_eq_false (by omega)
            have HR' := Lib.hid hR'
            have HE := Lib.hid he
            clear hR' he
            go_wp2_with fail
            go_ret
            exact ⟨false, rfl, R', HP.out, ⟨fun h => absurd h (by decide), fun _ => ⟨HR'.out, by rw [← HE.out]; exact dn_stop0 (by have := HU'.out; rwa [← HE.out] at this) HF.out⟩⟩, HH2.out, HK.out⟩
          · have hd : decide ((i : Int) > (i0 : Int)) = true := decide_eq_true (by omega)
            have hd' : decide ((i0 : Int) < (i : Int)) = true := decide_eq_true (by omega)
            have hd2 : decide (i0 < i) = true := decide_eq_true (by omega)
            have HFF : Hid (Heap R' n) := Lib.hid (dn_stop HU'.out (by omega) HF.out)
            go_wp2_with fail
            go_ret
            exact ⟨true, rfl, R', HP.out, ⟨fun _ => HFF.out, fun h => absurd h (by decide)⟩, HH2.out, HK.out⟩
        · have HSw := Lib.hid (hswap HH2.out (by rw [HL.out]; exact hm) i c1 (by rw [HL.out]; have := HNR.out; have := HC1.out; omega) (by rw [HL.out]; have := HNR.out; omega) (by have := HC1.out; have := HC2.out; omega))
          go_wp2_with fail
          refine HSw.out.mono ?_; rintro e w3 ⟨rfl, hh3⟩
          have HH3 := Lib.hid hh3
          have hpj : par c1 = i := by have h1 := HC1.out; have h2 := HC2.out; unfold par; omega
          have HU3 : Hid (DnOk (swapE R' i c1) n i0 c1) := Lib.hid (dn_step HU'.out (by have h1 := HC1.out; have h2 := HC2.out; omega) (by omega) (by rw [HL.out]; exact HNR.out) hpj HII.out HDD.out HS.out)
          have HP3 : Hid ((swapE R' i c1).Perm R) := Lib.hid ((swap_perm (by have h1 := HC1.out; have h2 := HC2.out; omega) (by rw [HL.out]; have := HNR.out; omega)).trans HP.out)
          have HK3 : Hid (∀ k, n ≤ k → gN (swapE R' i c1) k = gN R k) := Lib.hid (fun k hk => by
            have h1 := HC1.out
            rw [gN_swap (by rw [HL.out]; have := HNR.out; omega) (by rw [HL.out]; have := HNR.out; omega), if_neg (by omega), if_neg (by omega)]
            exact HK.out k hk)
          have HLJ : Hid (i < c1) := Lib.hid (by have h1 := HC1.out; have h2 := HC2.out; omega)
          clear hh3 HSw hpj
          go_wp2_with fail
          go_roundw
          case rel => exact ⟨c1, swapE R' i c1, rfl, by omega, Nat.le_of_lt (Nat.lt_of_le_of_lt HII.out HLJ.out), .inr (Nat.lt_of_le_of_lt HII.out HLJ.out), HP3.out, HU3.out, HH3.out, HK3.out⟩
          case measure => have := HLJ.out; simp [intOf]; omega

set_option maxRecDepth 100000 in
/-- A number more. -/
theorem hpush_of {w : World} {p m : Nat} {g : Option Nat} {c : Nat} {D : DataW Unit} {R : List Int} (h : Hw w p m g c D R) (hn : R.length < 1000000) (hp : Heap R R.length) {x : Int} (wx : Wf x) (hx : x ∉ R) :
    Calls Try.prog 35 #[.iface 68 (.pointer (some ⟨p, 0, none⟩)), .iface 3 (.int .i64 x)] w fun e' w' => e' = .returned (.tuple #[]) ∧ ∃ R', R'.Perm (x :: R) ∧ Heap R' (R.length + 1) ∧ Hs w w' p m g R' := by
  have HP := Lib.hid (wpush_of h (by omega) wx hx)
  have hu : UpOk (R ++ [x]) (R ++ [x]).length R.length := by
    refine ⟨fun k k0 kn kj => ?_, fun k k0 kn kp => ?_⟩
    · rw [List.length_append] at kn
      have kl : k < R.length := by simp at kn; omega
      rw [gN_app kl, gN_app (by have := par_lt k0; omega)]
      exact hp k k0 kl
    · rw [List.length_append] at kn
      have := par_lt k0
      simp at kn; omega
  have HU := Lib.hid hu
  have hln : (R ++ [x]).length = R.length + 1 := by simp
  have HLn := Lib.hid hln
  obtain ⟨n, hnn⟩ : ∃ n, R.length = n := ⟨_, rfl⟩
  have HN := Lib.hid hnn
  rw [hnn] at hn
  have mpush := meth_push ⟨p, 0, none⟩
  have mlen := meth_len ⟨p, 0, none⟩
  clear h hu hp hln hnn wx hx
  go_enter Try.func35, Try.ntmps35
  go_wp2_with fail
  refine HP.out.mono ?_; rintro e' w1 ⟨rfl, g1, c1, D1, hw1, mv1⟩
  have hs1 : Hs w w1 p m g (R ++ [x]) := ⟨g1, c1, D1, hw1, mv1⟩
  have HLe := hlen hs1
  rw [HLn.out, HN.out] at HLe
  have HLe := Lib.hid HLe
  have HU1 := Lib.hid (up_of hs1 (by rw [HLn.out, HN.out]; omega) _ (Nat.le_refl _) n (by rw [HLn.out, HN.out]; omega) (by have := HU.out; rwa [HN.out] at this))
  have hq : ((n + 1 : Nat) : Int) - 1 = (n : Int) := by omega
  have hq' : (n : Int) + 1 - 1 = (n : Int) := by omega
  clear hw1 mv1 hs1 HP
  go_wp2_with fail
  refine HLe.out.mono ?_; rintro e' w2 ⟨rfl, rfl⟩
  go_wp2_with fail
  refine HU1.out.mono ?_; rintro e' w2 ⟨rfl, R', hp', hh', hh2, _⟩
  have HE : Hid (R'.Perm (x :: R) ∧ Heap R' (R.length + 1) ∧ Hs w w2 p m g R') := Lib.hid ⟨hp'.trans (List.perm_append_singleton x R), by rw [← HLn.out]; exact hh', hh2⟩
  clear hp' hh' hh2 HU1
  go_wp2_with fail
  go_end0
  exact ⟨rfl, R', by have := HE.out; rwa [HN.out] at this⟩

theorem hpop {w0 w : World} {p m : Nat} {g0 : Option Nat} {R : List Int} {x : Int} (h : Hs w0 w p m g0 (R ++ [x])) (hn : R.length ≤ 1000000) :
    Calls Try.prog 95 #[.pointer (some ⟨p, 0, none⟩)] w fun e' w' => e' = .returned (.iface 3 (.int .i64 x)) ∧ Hs w0 w' p m g0 R := by
  obtain ⟨g, c, D, h1, h2⟩ := h
  exact (wpop_of h1 hn).mono (fun e w' ⟨e1, D', h3, h4⟩ => ⟨e1, ⟨g, c, D', h3, h2.trans h4⟩⟩)
theorem heap_pre {R : List Int} {x : Int} (h : Heap (R ++ [x]) R.length) : Heap R R.length := by
  intro k k0 kn
  have := h k k0 kn
  rwa [gN_app kn, gN_app (by have := par_lt k0; omega)] at this

set_option maxRecDepth 100000 in
set_option maxHeartbeats 8000000 in
/-- A number goes from where it stands. -/
theorem hrem_of {w : World} {p m : Nat} {g : Option Nat} {c : Nat} {D : DataW Unit} {R : List Int} (h : Hw w p m g c D R) (hn : R.length ≤ 1000000) (hp : Heap R R.length) (i : Nat) (hi : i < R.length) :
    Calls Try.prog 33 #[.iface 68 (.pointer (some ⟨p, 0, none⟩)), .int .i64 i] w fun e' w' => (∃ v, e' = .returned v) ∧ ∃ R', (gN R i :: R').Perm R ∧ Heap R' R'.length ∧ Hs w w' p m g R' := by
  have hs := Hs.refl h
  obtain ⟨n, hnn⟩ : ∃ n, R.length = n + 1 := ⟨R.length - 1, by omega⟩
  have HLe := hlen hs
  rw [hnn] at HLe
  have HLe := Lib.hid HLe
  have HN := Lib.hid hnn
  have HP := Lib.hid hp
  have HS := Lib.hid hs
  have hi' : i ≤ n := by omega
  have hn' : n + 1 ≤ 1000000 := by omega
  have hq' : (n : Int) + 1 - 1 = (n : Int) := by omega
  have mlen := meth_len ⟨p, 0, none⟩
  have mswap := meth_swap ⟨p, 0, none⟩
  have mpop := meth_pop ⟨p, 0, none⟩
  -- what goes, and what is left, as soon as the number stands last
  have HFIN : Hid (∀ wq (R2 : List Int), R2.Perm R → gN R2 n = gN R i → Heap R2 n → Hs w wq p m g R2 → ∃ R3, (gN R i :: R3).Perm R ∧ Heap R3 R3.length ∧ Calls Try.prog 95 #[.pointer (some ⟨p, 0, none⟩)] wq fun e' w' => e' = .returned (.iface 3 (.int .i64 (gN R i))) ∧ Hs w w' p m g R3) := Lib.hid (by
    intro wq R2 hp2 hg2 hh2 hs2
    have hl2 : R2.length = n + 1 := hp2.length_eq.trans hnn
    obtain ⟨R3, f, rfl⟩ : ∃ R3 f, R2 = R3 ++ [f] := by
      have hne : R2 ≠ [] := by intro h; rw [h] at hl2; simp at hl2
      exact ⟨_, _, (List.dropLast_concat_getLast hne).symm⟩
    have hl3 : R3.length = n := by rw [List.length_append] at hl2; simpa using hl2
    have hf : f = gN R i := by rw [← hg2, ← hl3, gN_last]
    subst hf
    refine ⟨R3, (List.perm_append_singleton _ _).symm.trans hp2, ?_, hpop hs2 (by omega)⟩
    rw [← hl3] at hh2
    exact heap_pre hh2)
  by_cases hin : i = n
  · subst hin
    obtain ⟨R3, hr1, hr2, hc⟩ := HFIN.out w R (List.Perm.refl _) rfl (fun k k0 kn => hp k k0 (by omega)) hs
    have HC := Lib.hid hc
    have HR := Lib.hid (And.intro hr1 hr2)
    have hne : (((i : Nat) : Int) == (i : Int)) = true := by simp
    clear h hs hp hnn hi HFIN hr1 hr2 hc
    go_enter Try.func33, Try.ntmps33
    go_wp2_with fail
    refine HLe.out.mono ?_; rintro e' w2 ⟨rfl, rfl⟩
    go_wp2_with fail
    refine HC.out.mono ?_; rintro e' w2 ⟨rfl, hh2⟩
    have HH2 := Lib.hid hh2
    clear hh2
    go_wp2_with fail
    go_ret
    exact ⟨⟨_, rfl⟩, R3, HR.out.1, HR.out.2, HH2.out⟩
  · have hne : (((n : Nat) : Int) == (i : Int)) = false := by rw [beq_eq_false_iff_ne]; omega
    have hne2 : ¬ (n : Int) = (i : Int) := by omega
    have HSw := Lib.hid (hswap hs hn i n hi (by omega) hin)
    have G : ∀ k, gN (swapE R i n) k = if k = n then gN R i else if k = i then gN R n else gN R k := fun k => gN_swap hi (by omega)
    have HDN : Hid (DnOk (swapE R i n) n i i) := Lib.hid (by
      refine ⟨fun k k0 kn kp ki => ?_, fun k k0 kn kp i0 => ?_⟩
      · have := par_lt k0
        rw [G k, G (par k), if_neg (by omega), if_neg (by omega), if_neg (by omega), if_neg (by omega)]
        exact hp k k0 (by omega)
      · have h1 := par_lt k0
        have h2 := par_lt i0
        rw [G k, G (par i), if_neg (by omega), if_neg (by omega), if_neg (by omega), if_neg (by omega)]
        have h3 := hp k k0 (by omega)
        rw [kp] at h3
        exact nl_trans (hp i i0 hi) h3)
    have HGn : Hid (gN (swapE R i n) n = gN R i) := Lib.hid (by rw [G, if_pos rfl])
    have HPS : Hid ((swapE R i n).Perm R) := Lib.hid (swap_perm (by omega) (by omega))
    have hil : i < n := by omega
    clear h hs hp hnn hi G hin
    go_enter Try.func33, Try.ntmps33
    go_wp2_with fail
    refine HLe.out.mono ?_; rintro e' w2 ⟨rfl, rfl⟩
    go_wp2_with fail
    refine HSw.out.mono ?_; rintro e' w1 ⟨rfl, hh1⟩
    have hl1 : (swapE R i n).length = n + 1 := (swap_len _ _ _).trans HN.out
    have HD := Lib.hid (down_of hh1 (by rw [hl1]; omega) i n (by rw [hl1]; omega) (by omega) HDN.out)
    clear hh1 HSw HLe hl1
    go_wp2_with fail
    refine HD.out.mono ?_; rintro e' w2 ⟨bb, rfl, R2, hp2, ⟨ht, hf⟩, hx2, hk2⟩
    have hg2 : gN R2 n = gN R i := by rw [hk2 n (Nat.le_refl _)]; exact HGn.out
    have hp2' := hp2.trans HPS.out
    cases bb
    · obtain ⟨rfl, hu⟩ := hf rfl
      have hl2 : (swapE R i n).length = n + 1 := (swap_len _ _ _).trans HN.out
      have HU := Lib.hid (up_of hx2 (by rw [hl2]; omega) n (by rw [hl2]; omega) i hil hu)
      clear hp2 ht hf hx2 hk2 hp2' hg2 hl2 hu HD
      go_wp2_with fail
      refine HU.out.mono ?_; rintro e' w3 ⟨rfl, R4, hp4, hh4, hx4, hk4⟩
      obtain ⟨R3, hr1, hr2, hc⟩ := HFIN.out w3 R4 (hp4.trans HPS.out) (by rw [hk4 n (Nat.le_refl _)]; exact HGn.out) hh4 hx4
      have HC := Lib.hid hc
      have HR := Lib.hid (And.intro hr1 hr2)
      clear hp4 hh4 hx4 hk4 HFIN hr1 hr2 hc HU
      go_wp2_with fail
      refine HC.out.mono ?_; rintro e' w4 ⟨rfl, hh2⟩
      have HH2 := Lib.hid hh2
      clear hh2
      go_wp2_with fail
      go_ret
      exact ⟨⟨_, rfl⟩, R3, HR.out.1, HR.out.2, HH2.out⟩
    · obtain ⟨R3, hr1, hr2, hc⟩ := HFIN.out w2 R2 hp2' hg2 (ht rfl) hx2
      have HC := Lib.hid hc
      have HR := Lib.hid (And.intro hr1 hr2)
      clear hp2 ht hf hx2 hk2 hp2' hg2 HFIN hr1 hr2 hc HD
      go_wp2_with fail
      refine HC.out.mono ?_; rintro e' w3 ⟨rfl, hh2⟩
      have HH2 := Lib.hid hh2
      clear hh2
      go_wp2_with fail
      go_ret
      exact ⟨⟨_, rfl⟩, R3, HR.out.1, HR.out.2, HH2.out⟩
end Go.Proofs.Ytmjlmciocockpaa
