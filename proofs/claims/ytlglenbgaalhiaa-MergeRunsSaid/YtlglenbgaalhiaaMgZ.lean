/-
  MergeRuns' walk, at this seat's numbers.
-/
import Derived.Test.YtlglenbgaalhiaaMgY
namespace Go.Proofs.Ytlglenbgaalhiaa
open Go Go.RowKit
set_option linter.unusedVariables false

theorem flatR_short {T : List RowM} (h : ∀ p ∈ T, p.2.2.length ≤ 200) : (flatR T).length ≤ 200 * T.length := by
  induction T with
  | nil => simp [flatR]
  | cons p T ih =>
    rw [flatR_cons, List.length_append, List.length_cons]
    have h1 := h p (by simp)
    have h2 := ih (fun q hq => h q (by simp [hq]))
    omega

set_option maxRecDepth 100000 in
set_option maxHeartbeats 32000000 in
theorem mergeRuns_walk (a : Option Addr) (c : Nat) (l0 : List Int) (b : Option Addr) (d : Nat) (T0 : List RowM) (w : World) (hl0 : Sl w a c (l0.map (Value.int .i64)) ∧ ∀ x ∈ l0, I64 x) (hT0 : RowsIn w b T0) :
    Calls Try.prog 4 #[.slice a l0.length c, .slice b T0.length d] w fun e w' => e = .returned (.bool true) ∧ Below w.heap.size w w' := by
  obtain ⟨i0, hi0, hz0, hz1, hz2⟩ := info_parts info_rows
  have hS0 : Sl w a c (nums l0) := hl0.1
  have HFe := Lib.hid (few_of l0 hS0)
  have hl200 : (fewL l0).length ≤ 200 := by rw [few_len]; omega
  have hdm := few_dm l0
  obtain ⟨l, hl⟩ : ∃ l, fewL l0 = l := ⟨_, rfl⟩
  rw [hl] at HFe hl200 hdm
  obtain ⟨n, hnn⟩ : ∃ n, l.length = n := ⟨_, rfl⟩
  have HN := Lib.hid hnn
  have HDm := Lib.hid hdm
  have hn200 : n ≤ 200 := by omega
  obtain ⟨M, hM⟩ : ∃ M, T0.length = M := ⟨_, rfl⟩
  have HM := Lib.hid hM
  have hM63 : (M : Int) ≤ 9223372036854775807 := by have := hT0.len; rw [hM] at this; unfold maxLen at this; omega
  have HT0 := Lib.hid hT0
  rw [hM]
  clear hS0 hl0 hl hdm hl200 hT0 hM
  generalize l0.length = n0 at *
  go_enter Try.func4, Try.ntmps4
  go_wp2_with fail
  refine HFe.out.mono ?_; rintro e w1 ⟨a1, c1, rfl, ho1, hb1⟩
  have HB1 := Lib.hid hb1
  have HS1 := Lib.hid (own_sl ho1 (nums_one _))
  have hRu := runs_of l (cv_tens w1) HS1.out HDm.out (by omega)
  rw [hnn] at hRu ⊢
  have HRu := Lib.hid hRu
  clear ho1 hb1 HFe hnn hRu
  go_wp2_with fail
  refine HRu.out.mono ?_; rintro e w2 ⟨a2, c2, TA, hTA, rfl, hoA, htA, hb2⟩
  have hRR := rruns_of l (HS1.out.below hb2) HDm.out (by rw [HN.out]; omega)
  rw [HN.out] at hRR
  have HRR := Lib.hid hRR
  have HRA := Lib.hid (rws_of hoA htA)
  have HTA := Lib.hid hTA
  have HB2 := Lib.hid (HB1.out.trans (hb2.mono HB1.out.size))
  have HS2 := Lib.hid (HS1.out.below hb2)
  clear hTA hoA htA hb2 hRR HRu HB1 HS1
  go_wp2_with fail
  refine HRR.out.mono ?_; rintro e w3 ⟨a3, c3, TB, hTB, rfl, hoB, htB, hb3⟩
  have hAB : TB.map (fun p : RowM => p.2.2) = TA.map (fun p : RowM => p.2.2) := by rw [hTB, HTA.out]
  have hlen : TB.length = TA.length := by have := congrArg List.length hAB; simpa using this
  rw [hlen]
  obtain ⟨N, hNN⟩ : ∃ N, TA.length = N := ⟨_, rfl⟩
  rw [hNN] at hlen ⊢
  have HTAl := Lib.hid hNN
  have HTBl := Lib.hid hlen
  have HAB := Lib.hid hAB
  have HRB := Lib.hid (rws_of hoB htB)
  have HRA3 := Lib.hid (HRA.out.below hb3)
  have HB3 := Lib.hid (HB2.out.trans (hb3.mono HB2.out.size))
  have HS3 := Lib.hid (HS2.out.below hb3)
  have hNle : N ≤ 200 := by
    have h1 := congrArg List.length HTA.out
    rw [List.length_map, hNN] at h1
    have h2 := runsI_len cmpT l n
    omega
  have q9 : ((N : Int) == (N : Int)) = true := by simp
  clear hTB hAB hlen hNN hoB htB hb3 HRR HRA HB2 HS2
  go_wp2_with fail
  go_loopw [24] (fun v24 wr => ∃ i : Nat, v24 = .int .i64 i ∧ i ≤ N ∧ Below w3.heap.size w3 wr) (fun v24 _ => N - (intOf v24).toNat)
  case atStart => exact ⟨0, rfl, by omega, Below.refl _ _⟩
  case round =>
    obtain ⟨wq, rfl⟩ : ∃ wq : World, wq = wr := ⟨_, rfl⟩
    obtain ⟨i, rfl, hi, hb⟩ := hrel
    have HB := Lib.hid hb
    clear hb
    by_cases hit : i < N
    · have di : decide (i < N) = true := decide_eq_true hit
      obtain ⟨⟨pa, pc, pl⟩, hpa⟩ : ∃ p, TA[i]? = some p := ⟨_, List.getElem?_eq_getElem (by rw [HTAl.out]; exact hit)⟩
      obtain ⟨⟨qa, qc, ql⟩, hqb⟩ : ∃ p, TB[i]? = some p := ⟨_, List.getElem?_eq_getElem (by rw [HTBl.out]; exact hit)⟩
      have hpq : ql = pl := by
        have h1 := congrArg (fun L : List (List Int) => L[i]?) HAB.out
        simp only [List.getElem?_map, hpa, hqb] at h1
        simpa using h1
      subst hpq
      obtain ⟨g1, o1, rfl, hg1, ca1, sa1⟩ := (HRA3.out.below HB.out).at hpa
      obtain ⟨g2, o2, rfl, hg2, ca2, sa2⟩ := (HRB.out.below HB.out).at hqb
      have ca1' : wq.cell? ⟨g1, o1 + i, none⟩ = some (.slice pa ql.length pc) := ca1
      have ca2' : wq.cell? ⟨g2, o2 + i, none⟩ = some (.slice qa ql.length qc) := ca2
      have hqn : ql.length ≤ 200 := by
        have h1 : ql ∈ runsI cmpT l n := by rw [← HTA.out]; exact List.mem_map.2 ⟨_, List.mem_of_getElem? hpa, rfl⟩
        have h2 := runsI_flat cmpT l n (by rw [HN.out]; exact Nat.le_refl _)
        have h3 := (List.sublist_flatten_of_mem h1).length_le
        rw [h2, List.length_take] at h3
        omega
      have sb1 : Sl wq pa pc (nums ql) := sa1
      have sb2 : Sl wq qa qc (nums ql) := sa2
      have HSm := Lib.hid (fun w' (h : Below wq.heap.size wq w') => nsame_self ql (sb1.below h) (sb2.below h) (by omega))
      obtain ⟨r, hr⟩ : ∃ r, ql.length = r := ⟨_, rfl⟩
      rw [hr] at ca1' ca2' HSm
      have ld1 := fun w' (h : Below wq.heap.size wq w') => (h.cell (p := ⟨g1, o1 + i, none⟩) hg1).trans ca1'
      have ld2 := fun w' (h : Below wq.heap.size wq w') => (h.cell (p := ⟨g2, o2 + i, none⟩) hg2).trans ca2'
      have f0 : (0 : Int) ≤ (i : Int) := by omega
      have f1 : (i : Int) < (N : Int) := by omega
      have hsB1 : Below wq.heap.size wq wq.drew := (Below.refl _ _).drew
      have B1 := Lib.hid hsB1
      clear hpa hqb ca1 ca2 sa1 sa2 sb1 sb2 ca1' ca2' hqn hr
      go_wp2_with fail
      go_region_held3 (fun w' => Below wq.heap.size wq w') (first | assumption)
        ((go_at_call 11; refine (HSm.out _ B1.out).mono ?_; rintro e w5 ⟨rfl, hb5⟩; have hsB5 := B1.out.trans (hb5.mono B1.out.size); have B5 := Lib.hid hsB5; clear hb5))
      all_goals
        clear ld1 ld2
        go_wp2_with fail
        go_roundw
        case rel => exact ⟨i + 1, by go_num, by omega, HB.out.trans (B5.out.mono HB.out.size)⟩
        case measure => simp [intOf]; omega
    · have di : decide (i < N) = false := decide_eq_false hit
      have HB4 := Lib.hid (HB3.out.trans (HB.out.mono HB3.out.size))
      have HRA4 := Lib.hid (HRA3.out.below HB.out)
      have HS4 := Lib.hid (HS3.out.below HB.out)
      have HT4 : Hid (RowsIn w b T0) := HT0
      clear HRA3 HRB HS3 HB3 HAB HT0
      go_wp2_with fail
      go_loopw [8, 40] (fun v8 v40 wr => ∃ (k K : Nat) (a8 : Option Addr) (c8 : Nat) (T : List RowM), v8 = .slice a8 K c8 ∧ v40 = .int .i64 k ∧ k ≤ M ∧ K = min 10 k ∧ T.length = K ∧ wr.ownsRow wq.heap.size 22 1 (.slice a8 K c8) K (T.map rowV) ∧ TOwn wr wq.heap.size T ∧ (∀ p ∈ T, Srt cmpT p.2.2 ∧ (∀ x ∈ p.2.2, Dm x) ∧ p.2.2.length ≤ 200) ∧ Below wq.heap.size wq wr) (fun _ v40 _ => M - (intOf v40).toNat)
      case atStart => exact ⟨0, 0, none, 0, [], rfl, rfl, by omega, by omega, rfl, t_nil _ _ _ _, (fun p hp => by simp at hp), (fun p hp => by simp at hp), Below.refl _ _⟩
      case round =>
        obtain ⟨wp, rfl⟩ : ∃ wp : World, wp = wr := ⟨_, rfl⟩
        obtain ⟨k, K, a8, c8, T, rfl, rfl, hk, hK, hTK, ho, ht, hp, hb⟩ := hrel
        have HO := Lib.hid ho
        have HTO := Lib.hid ht
        have HPr := Lib.hid hp
        have HBk := Lib.hid hb
        have HTK := Lib.hid hTK
        clear ho ht hp hb hTK
        by_cases hkt : k < M
        · have dk : decide (k < M) = true := decide_eq_true hkt
          obtain ⟨⟨pa, pc, pl⟩, hpk⟩ : ∃ p, T0[k]? = some p := ⟨_, List.getElem?_eq_getElem (by rw [HM.out]; exact hkt)⟩
          obtain ⟨g1, o1, rfl, hg1, hc1⟩ := HT4.out.sl (by rw [HM.out]; omega)
          have hbw := HB4.out.trans (HBk.out.mono HB4.out.size)
          have cr : wp.cell? ⟨g1, o1 + k, none⟩ = some (.slice pa pl.length pc) := (hbw.cell (p := ⟨g1, o1 + k, none⟩) hg1).trans (hc1 k _ hpk)
          obtain ⟨hrd, hpm⟩ := HT4.out.rd _ (List.mem_of_getElem? hpk)
          have HFw := Lib.hid (few_any (c := pc) pl (hrd.below hbw) hpm)
          have f0 : (0 : Int) ≤ (k : Int) := by omega
          have f1 : (k : Int) < (M : Int) := by omega
          generalize pl.length = pn at *
          clear hpk hc1 hbw hrd hpm
          by_cases hk10 : k < 10
          · have d2 : decide ((k : Int) < 10) = true := decide_eq_true (by omega)
            have hKk : K = k := by omega
            subst hKk
            clear hK
            go_wp2_with fail
            refine HFw.out.mono ?_; rintro e w5 ⟨a5, c5, rfl, ho5, hb5⟩
            have hf200 : (fewL pl).length ≤ 200 := by rw [few_len]; omega
            have HRs := Lib.hid (rsort_of (fewL pl) (own_sl ho5 (nums_one _)) (few_dm pl) (by omega))
            have HO5 := Lib.hid (own_below HO.out hb5)
            have HTO5 := Lib.hid (HTO.out.below hb5)
            have HB5 := Lib.hid (HBk.out.trans (hb5.mono HBk.out.size))
            obtain ⟨F, hF⟩ : ∃ F, fewL pl = F := ⟨_, rfl⟩
            have hFd := few_dm pl
            rw [hF] at hFd
            have HFd := Lib.hid hFd
            rw [hF] at HRs hf200 ⊢
            clear ho5 hb5 hF hFd HFw
            go_wp2_with fail
            refine HRs.out.mono ?_; rintro e w6 ⟨a6, c6, rfl, ho6, hb6⟩
            obtain ⟨S, hS⟩ : ∃ S, sortL cmpT F = S := ⟨_, rfl⟩
            have HSp : Hid (Srt cmpT S ∧ (∀ x ∈ S, Dm x) ∧ S.length ≤ 200) := Lib.hid (by
              rw [← hS]
              exact ⟨sort_srt cmpT_cm _, fun x hx => HFd.out x ((sort_perm _ _).mem_iff.1 hx), by rw [sort_len]; exact hf200⟩)
            rw [hS] at ho6 ⊢
            have HO6 := Lib.hid (own_below HO5.out hb6)
            have HTO6 := Lib.hid (HTO5.out.below hb6)
            have HB6 := Lib.hid (HB5.out.trans (hb6.mono HB5.out.size))
            have HS6 := Lib.hid (own_mono ho6 HB5.out.size)
            obtain ⟨sn, hsn⟩ : ∃ sn, S.length = sn := ⟨_, rfl⟩
            have HSN := Lib.hid hsn
            rw [hsn]
            clear ho6 hb6 hS hsn HO5 HTO5 HRs hf200 HFd
            have C3 : Hid (K + 1 ≤ maxLen) := by show _ ≤ _; unfold maxLen; omega
            have C4 : Hid ((K + 1) * 24 ≤ 140737488355328) := by show _ ≤ _; omega
            have C5 : Hid (wq.heap.size ≤ (w6.alloc (Obj.cells #[.slice a6 sn c6] 22)).heap.size) := by show _ ≤ _; have := HB6.out.size; simp only [World.size_alloc]; omega
            go_wp2_with (first
              | (at_builtin; refine wpList_append_own _ rfl (.tmp 47) (.tmp 51) 32 rfl wq.heap.size 22 i0 (.slice none 0 0) 1 24 Try.underlying32 hi0 hz0 hz1 hz2 rfl (by decide) (.slice a8 K c8) K (T.map rowV) rfl (HO6.out.alloc _) ⟨w6.heap.size, 0, none⟩ 1 1 [.slice a6 sn c6] rfl rfl (c1_one w6 _ _) (c2_one _ rfl) C3.out C4.out C5.out ?_)
              | fail)
            intro vN w7 ho7 hg7 _
            obtain ⟨aN, cN, rfl⟩ := own_slice ho7
            clear C3 C4 C5
            have hTO7 : TOwn w7 wq.heap.size T := (HTO6.out.below (t_al _ _)).grown (HO6.out.alloc _) hg7 (by decide)
            have hNew : TOwn w7 wq.heap.size [((a6, c6, S) : RowM)] := TOwn.grown (T := [((a6, c6, S) : RowM)]) (fun p hp => by
              rw [List.mem_singleton.1 hp]
              exact own_below HS6.out (t_al _ _)) (HO6.out.alloc (Obj.cells #[.slice a6 sn c6] 22)) hg7 (by decide)
            have HTO7 : Hid (TOwn w7 wq.heap.size (T ++ [((a6, c6, S) : RowM)])) := Lib.hid (fun p hp => by
              rcases List.mem_append.1 hp with h | h
              · exact hTO7 p h
              · exact hNew p h)
            have HO7 : Hid (w7.ownsRow wq.heap.size 22 1 (.slice aN (K + 1) cN) (K + 1) ((T ++ [((a6, c6, S) : RowM)]).map rowV)) := Lib.hid (by
              rw [List.map_append, show [((a6, c6, S) : RowM)].map rowV = [.slice a6 sn c6] by show [Value.slice a6 S.length c6] = _; rw [HSN.out]]
              exact ho7)
            have HPr7 : Hid (∀ p ∈ T ++ [((a6, c6, S) : RowM)], Srt cmpT p.2.2 ∧ (∀ x ∈ p.2.2, Dm x) ∧ p.2.2.length ≤ 200) := Lib.hid (fun p hp => by
              rcases List.mem_append.1 hp with h | h
              · exact HPr.out p h
              · rw [List.mem_singleton.1 h]; exact HSp.out)
            have HB7 := Lib.hid (app_below HB6.out HO6.out hg7)
            have HL7 : Hid ((T ++ [((a6, c6, S) : RowM)]).length = K + 1) := Lib.hid (by rw [List.length_append, HTK.out]; rfl)
            clear hTO7 hNew ho7 hg7
            go_wp2_with fail
            go_roundw
            case rel => exact ⟨K + 1, K + 1, aN, cN, T ++ [(a6, c6, S)], by go_num, by go_num, by omega, by omega, HL7.out, HO7.out, HTO7.out, HPr7.out, HB7.out⟩
            case measure => simp [intOf]; omega
          · have d2 : decide ((k : Int) < 10) = false := decide_eq_false (by omega)
            clear HFw
            go_wp2_with fail
            go_roundw
            case rel => exact ⟨k + 1, K, a8, c8, T, rfl, by go_num, by omega, by omega, HTK.out, HO.out, HTO.out, HPr.out, HBk.out⟩
            case measure => simp [intOf]; omega
        · have dk : decide (k < M) = false := decide_eq_false hkt
          have hK10 : K ≤ 10 := by omega
          have hOT := HO.out
          rw [← HTK.out] at hOT
          have hRw := rws_of hOT HTO.out
          have hfl : (flatR T).length ≤ 2000 := by
            have h1 := flatR_short (T := T) (fun p hp => (HPr.out p hp).2.2)
            rw [HTK.out] at h1; omega
          have hMe := merge_of T (cv_tens wp) cmpT_cm hRw (fun p hp => (HPr.out p hp).1) (fun p hp => (HPr.out p hp).2.1) (by rw [HTK.out]; omega) (by omega)
          rw [HTK.out] at hMe
          have HMe := Lib.hid hMe
          have HRw := Lib.hid hRw
          have HFl := Lib.hid hfl
          have HB5 := Lib.hid (HB4.out.trans (HBk.out.mono HB4.out.size))
          have HRA5 := Lib.hid (HRA4.out.below HBk.out)
          have HS5 := Lib.hid (HS4.out.below HBk.out)
          clear hOT hRw hfl hMe HO HTO HBk HRA4 HS4 HB4 hK
          go_wp2_with fail
          refine HMe.out.mono ?_; rintro e w6 ⟨a6, c6, rfl, ho6, hb6⟩
          have hMr := rmerge_of T (HRw.out.below hb6) (fun p hp => (HPr.out p hp).2.1) (by rw [HTK.out]; omega) (by have := HFl.out; omega)
          rw [HTK.out] at hMr
          have HMr := Lib.hid hMr
          obtain ⟨Q, hQ⟩ : ∃ Q, sortL cmpT (flatR T) = Q := ⟨_, rfl⟩
          have hQl : Q.length ≤ 2000 := by rw [← hQ, sort_len]; exact HFl.out
          rw [hQ] at ho6 ⊢
          have HQ := Lib.hid hQ
          have HS6 := Lib.hid (own_sl ho6 (nums_one _))
          have HB6 := Lib.hid (HB5.out.trans (hb6.mono HB5.out.size))
          have HRA6 := Lib.hid (HRA5.out.below hb6)
          have HS16 := Lib.hid (HS5.out.below hb6)
          clear ho6 hb6 hMr hQ HMe HB5 HRA5 HS5
          go_wp2_with fail
          refine HMr.out.mono ?_; rintro e w7 ⟨a7, c7, rfl, ho7, hb7⟩
          rw [HQ.out] at ho7 ⊢
          have HSm := Lib.hid (nsame_self Q (HS6.out.below hb7) (own_sl ho7 (nums_one _)) (by omega))
          have HB7 := Lib.hid (HB6.out.trans (hb7.mono HB6.out.size))
          have HRA7 := Lib.hid (HRA6.out.below hb7)
          have HS7 := Lib.hid (HS16.out.below hb7)
          clear ho7 hb7 HMr HB6 HRA6 HS16
          go_wp2_with fail
          refine HSm.out.mono ?_; rintro e w8 ⟨rfl, hb8⟩
          have hRA8 := HRA7.out.below hb8
          have hflA : flatR TA = l := by rw [flatR_map, HTA.out, runsI_flat cmpT l n (by rw [HN.out]; exact Nat.le_refl _), ← HN.out, List.take_length]
          have hmemA : ∀ p ∈ TA, p.2.2 ∈ runsI cmpT l n := fun p hp => by rw [← HTA.out]; exact List.mem_map_of_mem hp
          have hMA := merge_of TA (cv_tens w8) cmpT_cm hRA8 (fun p hp => runsI_srt cmpT_cm l n _ (hmemA p hp)) (fun p hp x hx => HDm.out x (by rw [← hflA]; exact List.mem_flatMap.2 ⟨p, hp, hx⟩)) (by rw [HTAl.out]; omega) (by rw [hflA, HN.out]; omega)
          rw [hflA, HTAl.out] at hMA
          have HMA := Lib.hid hMA
          have HB8 := Lib.hid (HB7.out.trans (hb8.mono HB7.out.size))
          have HS8 := Lib.hid (HS7.out.below hb8)
          clear hb8 hRA8 hflA hmemA hMA HSm HB7 HRA7 HS7
          go_wp2_with fail
          refine HMA.out.mono ?_; rintro e w9 ⟨a9, c9, rfl, ho9, hb9⟩
          have hRs := rsort_of l (HS8.out.below hb9) HDm.out (by rw [HN.out]; omega)
          rw [HN.out] at hRs
          have HRs := Lib.hid hRs
          obtain ⟨S, hS⟩ : ∃ S, sortL cmpT l = S := ⟨_, rfl⟩
          have hSl : S.length ≤ 200 := by rw [← hS, sort_len, HN.out]; exact hn200
          rw [hS] at ho9 ⊢
          have HSS := Lib.hid hS
          have HS9 := Lib.hid (own_sl ho9 (nums_one _))
          have HB9 := Lib.hid (HB8.out.trans (hb9.mono HB8.out.size))
          clear ho9 hb9 hRs hS HMA HB8 HS8
          go_wp2_with fail
          refine HRs.out.mono ?_; rintro e w10 ⟨a10, c10, rfl, ho10, hb10⟩
          rw [HSS.out] at ho10 ⊢
          have HSm2 := Lib.hid (nsame_self S (HS9.out.below hb10) (own_sl ho10 (nums_one _)) (by omega))
          have HB10 := Lib.hid (HB9.out.trans (hb10.mono HB9.out.size))
          clear ho10 hb10 HRs HB9 HS9
          go_wp2_with fail
          refine HSm2.out.mono ?_; rintro e w11 ⟨rfl, hb11⟩
          have HB11 := Lib.hid (HB10.out.trans (hb11.mono HB10.out.size))
          have HAw := Lib.hid (awake15_of w11)
          clear hb11 HSm2 HB10
          go_wp2_with fail
          refine HAw.out.mono ?_; rintro e w12 ⟨rfl, hb12⟩
          have HB12 := Lib.hid (HB11.out.trans (hb12.mono HB11.out.size))
          clear hb12
          go_wp2_with fail
          go_ret
          exact ⟨rfl, HB12.out⟩

end Go.Proofs.Ytlglenbgaalhiaa
