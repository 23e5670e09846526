/-
  MergeOnly's walk, at this seat's numbers.
-/
import Derived.Test.YtlglenbgaalhiaaMgW
namespace Go.Proofs.Ytlglenbgaalhiaa
open Go Go.RowKit
set_option linter.unusedVariables false

set_option maxRecDepth 100000 in
set_option maxHeartbeats 32000000 in
theorem mergeOnly_walk (a : Option Addr) (c : Nat) (l0 : List Int) (w : World) (hl0 : Sl w a c (l0.map (Value.int .i64)) ∧ ∀ x ∈ l0, I64 x) :
    Calls Try.prog 5 #[.slice a l0.length c] w fun e w' => e = .returned (.bool true) ∧ Below w.heap.size w w' := by
  obtain ⟨i0, hi0, hz0, hz1, hz2⟩ := info_parts info_int
  have hS0 : Sl w a c (nums l0) := hl0.1
  have HFe := Lib.hid (few_of l0 hS0)
  have hl200 : (fewL l0).length ≤ 200 := by rw [few_len]; omega
  have hdm := few_dm l0
  obtain ⟨l, hl⟩ : ∃ l, fewL l0 = l := ⟨_, rfl⟩
  rw [hl] at HFe hl200 hdm
  obtain ⟨n, hnn⟩ : ∃ n, l.length = n := ⟨_, rfl⟩
  have HN := Lib.hid hnn
  have HDm := Lib.hid hdm
  have hn200 : n ≤ 200 := by omega
  clear hS0 hl0 hl hdm hl200
  generalize l0.length = n0 at *
  go_enter Try.func5, Try.ntmps5
  go_wp2_with fail
  refine HFe.out.mono ?_; rintro e w1 ⟨a1, c1, rfl, ho1, hb1⟩
  have HB1 := Lib.hid hb1
  have HS1 := Lib.hid (own_sl ho1 (nums_one _))
  rw [hnn]
  clear ho1 hb1 HFe hnn
  go_wp2_with fail
  go_loopw [3, 13] (fun v3 v13 wr => ∃ (k : Nat) (a3 : Option Addr) (c3 : Nat), v3 = .slice a3 k c3 ∧ v13 = .int .i64 k ∧ k ≤ n ∧ wr.ownsRow w1.heap.size 3 1 (.slice a3 k c3) k (nums (l.take k)) ∧ Below w1.heap.size w1 wr) (fun _ v13 _ => n - (intOf v13).toNat)
  case atStart => exact ⟨0, none, 0, rfl, rfl, by omega, by simpa [nums] using t_nil _ _ _ _, Below.refl _ _⟩
  case round =>
    obtain ⟨wq, rfl⟩ : ∃ wq : World, wq = wr := ⟨_, rfl⟩
    obtain ⟨k, a3, c3, rfl, rfl, hk, ho, hb⟩ := hrel
    have HO := Lib.hid ho
    have HB := Lib.hid hb
    clear ho hb
    by_cases hlt : k < n
    · have dk : decide (k < n) = true := decide_eq_true hlt
      obtain ⟨g, o, rfl⟩ := HS1.out.numsome (by rw [HN.out]; omega)
      obtain ⟨y, hy⟩ : ∃ y, l[k]? = some y := ⟨_, List.getElem?_eq_getElem (by rw [HN.out]; exact hlt)⟩
      have c0 := ((HS1.out.below HB.out).num hy).1
      have e0 : (0 : Int) ≤ (k : Int) := by omega
      have e1 : (k : Int) < (n : Int) := by omega
      have HTk : Hid (l.take (k + 1) = l.take k ++ [y]) := Lib.hid (by rw [List.take_add_one, hy]; rfl)
      clear hy
      have C3 : Hid (k + 1 ≤ maxLen) := by show _ ≤ _; unfold maxLen; omega
      have C4 : Hid ((k + 1) * 8 ≤ 140737488355328) := by show _ ≤ _; omega
      have C5 : Hid (w1.heap.size ≤ (wq.alloc (Obj.cells #[.int .i64 y] 3)).heap.size) := by show _ ≤ _; have := HB.out.size; simp only [World.size_alloc]; omega
      go_wp2_with (first
        | (at_builtin; refine wpList_append_own _ rfl (.tmp 17) (.tmp 19) 22 rfl w1.heap.size 3 i0 (.int .i64 0) 1 8 Try.underlying22 hi0 hz0 hz1 hz2 rfl (by decide) (.slice a3 k c3) (k) (nums (l.take k)) rfl (HO.out.alloc _) ⟨wq.heap.size, 0, none⟩ 1 1 [.int .i64 y] rfl rfl (c1_one wq _ _) (c2_one _ rfl) C3.out C4.out C5.out ?_)
        | fail)
      intro vN wB hoN hgN _
      obtain ⟨aN, cN, rfl⟩ := own_slice hoN
      have HOB := Lib.hid hoN
      have HBB := Lib.hid (app_below HB.out HO.out hgN)
      clear hoN hgN C3 C4 C5
      go_wp2_with fail
      go_roundw
      case rel =>
        refine ⟨k + 1, aN, cN, by go_num, by go_num, by omega, ?_, HBB.out⟩
        rw [HTk.out, ← nums_app]; exact HOB.out
      case measure => simp [intOf]; omega
    · have dk : decide (k < n) = false := decide_eq_false hlt
      have hkn : k = n := by omega
      subst hkn
      have hO := HO.out
      rw [List.take_of_length_le (by rw [HN.out]; exact Nat.le_refl _)] at hO
      have HWas := Lib.hid (own_sl hO (nums_one _))
      have HS2 := Lib.hid (HS1.out.below HB.out)
      have HB2 := Lib.hid (HB1.out.trans (HB.out.mono HB1.out.size))
      have hP := perm_of l (cv_tens wq) cmpT_cm HS2.out HDm.out (by rw [HN.out]; omega)
      rw [HN.out] at hP
      have HP := Lib.hid hP
      clear hO hP HO HB HS1 HB1
      go_wp2_with fail
      refine HP.out.mono ?_; rintro e w3 ⟨a4, c4, rfl, ho3, hb3⟩
      have hPe : sortL (cmpAt cmpT l) (upTo k) = plc cmpT l := by unfold plc; rw [HN.out]
      have hPl : (plc cmpT l).length = k := (plc_len _ _).trans HN.out
      rw [hPe] at ho3 ⊢
      rw [hPl] at ho3 ⊢
      have HP3 := Lib.hid (own_sl ho3 (nums_one _))
      have HPN := Lib.hid hPl
      have HS3 := Lib.hid (HS2.out.below hb3)
      have HWa3 := Lib.hid (HWas.out.below hb3)
      have HB3 := Lib.hid (HB2.out.trans (hb3.mono HB2.out.size))
      have hMS := msort_of l (cv_tens w3) cmpT_cm (HS2.out.below hb3) HDm.out (by rw [HN.out]; omega)
      obtain ⟨S, hS⟩ : ∃ S, sortL cmpT l = S := ⟨_, rfl⟩
      have hSn : S.length = k := by rw [← hS, sort_len, HN.out]
      rw [hS, HN.out] at hMS
      have HMS := Lib.hid hMS
      have HSS := Lib.hid hS
      have HSN := Lib.hid hSn
      clear ho3 hb3 hPe hPl hMS hS hSn HP HS2 HWas HB2
      go_wp2_with fail
      refine HMS.out.mono ?_; rintro e w4 ⟨a5, c5, rfl, ho4, hb4⟩
      rw [HSN.out] at ho4 ⊢
      have HW4 := Lib.hid (own_sl ho4 (nums_one _))
      have HP4 := Lib.hid (HP3.out.below hb4)
      have HS4 := Lib.hid (HS3.out.below hb4)
      have HWa4 := Lib.hid (HWa3.out.below hb4)
      have HB4 := Lib.hid (HB3.out.trans (hb4.mono HB3.out.size))
      have HPA : Hid (∀ i, i < k → ∃ v : Nat, v < k ∧ (plc cmpT l).getD i 0 = (v : Int) ∧ S.getD i 0 = l.getD v 0) := Lib.hid (fun i hi => by
        have h := plc_at cmpT l (i := i) (by rw [HN.out]; exact hi)
        rwa [HN.out, HSS.out] at h)
      have HOrd : Hid (∀ i, 0 < i → i < k → cmpT (S.getD (i - 1) 0) (S.getD i 0) < 0 ∨ (cmpT (S.getD (i - 1) 0) (S.getD i 0) ≤ 0 ∧ (plc cmpT l).getD (i - 1) 0 < (plc cmpT l).getD i 0)) := Lib.hid (fun i h0 hi => by
        have h := plc_ord cmpT_cm l h0 (by rw [HN.out]; exact hi)
        rwa [HSS.out] at h)
      have HSD : Hid (∀ x ∈ S, Dm x) := Lib.hid (fun x hx => HDm.out x (by rw [← HSS.out] at hx; exact (sort_perm _ _).mem_iff.1 hx))
      have q9 : ((k : Int) == (k : Int)) = true := by simp
      clear ho4 hb4 HMS HP3 HS3 HWa3 HB3
      go_wp2_with fail
      go_loopw [40] (fun v40 wr => ∃ i : Nat, v40 = .int .i64 i ∧ i ≤ k ∧ Below w4.heap.size w4 wr) (fun v40 _ => k - (intOf v40).toNat)
      case atStart => exact ⟨0, rfl, by omega, Below.refl _ _⟩
      case round =>
        obtain ⟨wp, rfl⟩ : ∃ wp : World, wp = wr := ⟨_, rfl⟩
        obtain ⟨i, rfl, hi, hb⟩ := hrel
        have HB := Lib.hid hb
        clear hb
        by_cases hit : i < k
        · have di : decide (i < k) = true := decide_eq_true hit
          obtain ⟨v, hv, hv1, hv2⟩ := HPA.out i hit
          obtain ⟨gl, ol, rfl⟩ := HS4.out.numsome (by rw [HN.out]; omega)
          obtain ⟨gw, ow, rfl⟩ := HW4.out.numsome (by rw [HSN.out]; omega)
          obtain ⟨gp, op, rfl⟩ := HP4.out.numsome (by rw [HPN.out]; omega)
          have cp := ((HP4.out.below HB.out).num (getD_lt (by rw [HPN.out]; exact hit))).1
          have cl := ((HS4.out.below HB.out).num (getD_lt (by rw [HN.out]; exact hv))).1
          have cw := ((HW4.out.below HB.out).num (getD_lt (by rw [HSN.out]; exact hit))).1
          have HXD := Lib.hid (HSD.out _ (List.mem_of_getElem? (getD_lt (by rw [HSN.out]; exact hit))))
          have f0 : (0 : Int) ≤ (i : Int) := by omega
          have f1 : (i : Int) < (k : Int) := by omega
          have f2 : decide ((v : Int) < 0) = false := decide_eq_false (by omega)
          have f3 : decide ((k : Int) ≤ (v : Int)) = false := decide_eq_false (by omega)
          have f3' : decide (k ≤ v) = false := decide_eq_false (by omega)
          have f4 : (0 : Int) ≤ (v : Int) := by omega
          have f5 : (v : Int) < (k : Int) := by omega
          obtain ⟨x, hx⟩ : ∃ x, S.getD i 0 = x := ⟨_, rfl⟩
          have HX := Lib.hid hx
          have HV1 := Lib.hid hv1
          rw [hv1] at cp
          rw [hx] at cw hv2
          rw [← hv2] at cl
          have f6 : (x == x) = true := by simp
          clear hv1 hv2 hx
          go_wp2_with fail
          go_quiet (fail)
          have HBz : Hid (Below w4.heap.size w4 (wp.drewN nq)) := Lib.hid (Below.draws1 HB.out nq)
          generalize wp.drewN nq = wz at *
          clear cp cl cw
          have cp := ((HP4.out.below HBz.out).num (getD_lt (by rw [HPN.out]; exact hit))).1
          have cw := ((HW4.out.below HBz.out).num (getD_lt (by rw [HSN.out]; exact hit))).1
          rw [HV1.out] at cp
          rw [HX.out] at cw
          rcases Nat.eq_zero_or_pos i with hi0 | hi0
          · have g0 : decide ((i : Int) > 0) = false := decide_eq_false (by omega)
            have g0' : decide (0 < i) = false := decide_eq_false (by omega)
            clear hi0
            go_wp2_with fail
            go_quiet (fail)
            go_wp2_with fail
            go_roundw
            case rel => exact ⟨i + 1, by go_num, by omega, Below.draws1 HBz.out _⟩
            case measure => simp [intOf]; omega
          · obtain ⟨j, hj⟩ : ∃ j, j = i - 1 := ⟨_, rfl⟩
            have g0 : decide ((i : Int) > 0) = true := decide_eq_true (by omega)
            have g0' : decide (0 < i) = true := decide_eq_true hi0
            have hjk : j < k := by omega
            obtain ⟨u, hu, hu1, hu2⟩ := HPA.out j hjk
            obtain ⟨y, hy⟩ : ∃ y, S.getD j 0 = y := ⟨_, rfl⟩
            have cu := ((HP4.out.below HBz.out).num (getD_lt (by rw [HPN.out]; exact hjk))).1
            have cy := ((HW4.out.below HBz.out).num (getD_lt (by rw [HSN.out]; exact hjk))).1
            rw [hu1] at cu
            rw [hy] at cy
            have hord := HOrd.out i hi0 hit
            rw [← hj, hy, HX.out, hu1, HV1.out] at hord
            have HYD : Hid (Dm y) := Lib.hid (by rw [← hy]; exact HSD.out _ (List.mem_of_getElem? (getD_lt (by rw [HSN.out]; exact hjk))))
            have HXD' : Hid (Dm x) := Lib.hid (by rw [← HX.out]; exact HXD.out)
            obtain ⟨s, hs⟩ : ∃ s, cmpT y x = s := ⟨_, rfl⟩
            rw [hs] at hord
            have hCm := fun w' => rcmp_of y x w' HYD.out HXD'.out
            simp only [hs] at hCm
            have HCm := Lib.hid hCm
            have hgw := ((HW4.out.below HBz.out).num (getD_lt (by rw [HSN.out]; exact hjk))).2
            have hgp := ((HP4.out.below HBz.out).num (getD_lt (by rw [HPN.out]; exact hjk))).2
            have s9 : (i : Int) - 1 = (j : Int) := by omega
            have t0 : (0 : Int) ≤ (j : Int) := by omega
            have t1 : (j : Int) < (k : Int) := by omega
            have s6 : IntKind.i64.wrap (j : Int) = (j : Int) := IntWalk.i64_in _ (by omega)
            have hpair : (s < 0) ∨ (s = 0 ∧ ¬ (v : Int) ≤ (u : Int)) := by omega
            clear hj hi0 hu1 hu2 hy hord hs hCm hjk hu
            rcases hpair with hs0 | ⟨hs0, huv⟩
            · have d1 : decide (s > 0) = false := decide_eq_false (by omega)
              have d2 : decide (0 < s) = false := decide_eq_false (by omega)
              have d3 : (s == 0) = false := by rw [beq_eq_false_iff_ne]; omega
              clear hs0
              go_wp2_with fail
              go_quiet (exact Calls.quiet_of_same ((HCm.out _).mono (fun e w' h => ⟨h.1, h.2.symm⟩)))
              clear s6 s9
              go_wp2_with fail
              go_roundw
              case rel => exact ⟨i + 1, by go_num, by omega, Below.draws1 HBz.out _⟩
              case measure => simp [intOf]; omega
            · subst hs0
              have d4 : decide ((v : Int) ≤ (u : Int)) = false := decide_eq_false huv
              have d4' : decide (v ≤ u) = false := decide_eq_false (by omega)
              have d3 : ((0 : Int) == 0) = true := by decide
              clear huv
              go_wp2_with fail
              go_quiet (exact Calls.quiet_of_same ((HCm.out _).mono (fun e w' h => ⟨h.1, h.2.symm⟩)))
              clear s6 s9
              go_wp2_with fail
              go_roundw
              case rel => exact ⟨i + 1, by go_num, by omega, Below.draws1 HBz.out _⟩
              case measure => simp [intOf]; omega
        · have di : decide (i < k) = false := decide_eq_false hit
          have hSS : sortL cmpT S = S := by rw [← HSS.out]; exact sort_id cmpT_cm (sort_srt cmpT_cm _)
          have hB := HB.out
          have hMS := msort_of S (cv_tens wp) cmpT_cm (HW4.out.below hB) HSD.out (by rw [HSN.out]; omega)
          rw [hSS, HSN.out] at hMS
          have HMS := Lib.hid hMS
          have HS5 := Lib.hid (HS4.out.below hB)
          have HWa5 := Lib.hid (HWa4.out.below hB)
          have HW5 := Lib.hid (HW4.out.below hB)
          have HB5 := Lib.hid (HB4.out.trans (hB.mono HB4.out.size))
          clear hSS hB hMS
          go_wp2_with fail
          refine HMS.out.mono ?_; rintro e w6 ⟨a6, c6, rfl, ho6, hb6⟩
          rw [HSN.out] at ho6 ⊢
          have hSm := nsame_self S (own_sl ho6 (nums_one _)) (HW5.out.below hb6) (by rw [HSN.out]; omega)
          rw [HSN.out] at hSm
          have HSm := Lib.hid hSm
          have HS6 := Lib.hid (HS5.out.below hb6)
          have HWa6 := Lib.hid (HWa5.out.below hb6)
          have HB6 := Lib.hid (HB5.out.trans (hb6.mono HB5.out.size))
          clear ho6 hb6 hSm HMS
          go_wp2_with fail
          refine HSm.out.mono ?_; rintro e w7 ⟨rfl, hb7⟩
          have hSm2 := nsame_self l (HS6.out.below hb7) (HWa6.out.below hb7) (by rw [HN.out]; omega)
          rw [HN.out] at hSm2
          have HSm2 := Lib.hid hSm2
          have HB7 := Lib.hid (HB6.out.trans (hb7.mono HB6.out.size))
          clear hb7 hSm2 HSm
          go_wp2_with fail
          refine HSm2.out.mono ?_; rintro e w8 ⟨rfl, hb8⟩
          have HB8 := Lib.hid (HB7.out.trans (hb8.mono HB7.out.size))
          have HAw := Lib.hid (awake15_of w8)
          clear hb8 HSm2
          go_wp2_with fail
          refine HAw.out.mono ?_; rintro e w9 ⟨rfl, hb9⟩
          have HB9 := Lib.hid (HB8.out.trans (hb9.mono HB8.out.size))
          clear hb9
          go_wp2_with fail
          go_ret
          exact ⟨rfl, HB9.out⟩

end Go.Proofs.Ytlglenbgaalhiaa
