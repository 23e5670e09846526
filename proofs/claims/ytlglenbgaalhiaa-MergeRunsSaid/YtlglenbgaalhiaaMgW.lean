/-
  Sorted places on plain lists; MergeSorts' walk, at this seat's numbers.
-/
import Derived.Test.YtlglenbgaalhiaaMgV
import Derived.Test.YtlglenbgaalhiaaLiftM
namespace Go.Proofs.Ytlglenbgaalhiaa
open Go Go.RowKit
set_option linter.unusedVariables false

theorem upTo_nth {n j : Nat} (h : j < n) : (upTo n).getD j 0 = (j : Int) := by
  unfold upTo
  rw [List.getD_eq_getElem?_getD, List.getElem?_map, List.getElem?_range h]; rfl
theorem upTo_count {n i : Nat} (h : i < n) : (upTo n).count (i : Int) = 1 :=
  count_one (j := i) (by rw [upTo_len]; exact h) (upTo_nth h) (fun j k hj hk he => by
    rw [upTo_len] at hj hk
    rw [upTo_nth hj, upTo_nth hk] at he; omega)
theorem upTo_lt (n : Nat) : (upTo n).Pairwise (· < ·) := by
  unfold upTo
  rw [List.pairwise_map]
  exact List.Pairwise.imp (fun h => by omega) List.pairwise_lt_range
theorem upTo_map (l : List Int) : (upTo l.length).map (fun v => l.getD v.toNat 0) = l := by
  apply List.ext_getElem?
  intro j
  unfold upTo
  rw [List.map_map, List.getElem?_map]
  by_cases h : j < l.length
  · rw [List.getElem?_range h, List.getElem?_eq_getElem h]
    simp [List.getD_eq_getElem?_getD, List.getElem?_eq_getElem h]
  · rw [List.getElem?_eq_none (by simp; omega), List.getElem?_eq_none (by omega)]; rfl
/-- The places in order. -/
def plc (c : Int → Int → Int) (l : List Int) : List Int := sortL (cmpAt c l) (upTo l.length)
theorem plc_len (c : Int → Int → Int) (l : List Int) : (plc c l).length = l.length := by unfold plc; rw [sort_len, upTo_len]
theorem plc_map (c : Int → Int → Int) (l : List Int) : (plc c l).map (fun v => l.getD v.toNat 0) = sortL c l := by
  unfold plc
  rw [sort_map (c := c) (d := cmpAt c l) (f := fun v => l.getD v.toNat 0) (fun a b => rfl), upTo_map]
theorem plc_at (c : Int → Int → Int) (l : List Int) {i : Nat} (h : i < l.length) : ∃ v : Nat, v < l.length ∧ (plc c l).getD i 0 = (v : Int) ∧ (sortL c l).getD i 0 = l.getD v 0 := by
  have hi : i < (plc c l).length := by rw [plc_len]; exact h
  have hm : (plc c l).getD i 0 ∈ upTo l.length := (sort_perm _ _).mem_iff.1 (List.mem_of_getElem? (getD_lt hi))
  obtain ⟨v, hv, hvn⟩ := upTo_mem hm
  refine ⟨v, hvn, hv, ?_⟩
  rw [← plc_map c l, List.getD_eq_getElem?_getD, List.getElem?_map, getD_lt hi, hv]; rfl
theorem plc_good (c : Int → Int → Int) (l : List Int) : GoodP (plc c l) := by
  apply good_of_counts
  intro i hi
  rw [plc_len] at hi
  unfold plc
  rw [(sort_perm _ _).count_eq]
  exact upTo_count hi
theorem plc_ord {c : Int → Int → Int} (H : Cm c) (l : List Int) {i : Nat} (h0 : 0 < i) (h : i < l.length) : c ((sortL c l).getD (i - 1) 0) ((sortL c l).getD i 0) < 0 ∨ (c ((sortL c l).getD (i - 1) 0) ((sortL c l).getD i 0) ≤ 0 ∧ (plc c l).getD (i - 1) 0 < (plc c l).getD i 0) := by
  have hs := sort_stb (cmpAt_cm H l) (upTo_lt l.length)
  have hl := plc_len c l
  have h1 := List.pairwise_iff_getElem.1 hs (i - 1) i (by unfold plc at hl; omega) (by unfold plc at hl; omega) (by omega)
  obtain ⟨u, hu, hu1, hu2⟩ := plc_at c l (i := i - 1) (by omega)
  obtain ⟨v, hv, hv1, hv2⟩ := plc_at c l h
  have e1 : (sortL (cmpAt c l) (upTo l.length))[i - 1]'(by unfold plc at hl; omega) = (u : Int) := by
    rw [← hu1]; unfold plc
    rw [List.getD_eq_getElem?_getD, List.getElem?_eq_getElem (by unfold plc at hl; omega)]; rfl
  have e2 : (sortL (cmpAt c l) (upTo l.length))[i]'(by unfold plc at hl; omega) = (v : Int) := by
    rw [← hv1]; unfold plc
    rw [List.getD_eq_getElem?_getD, List.getElem?_eq_getElem (by unfold plc at hl; omega)]; rfl
  rw [e1, e2] at h1
  rw [hu2, hv2, hu1, hv1]
  exact h1
theorem take_len (L : List Int) (j : Nat) : L.take (L.take j).length = L.take j := by
  rw [List.length_take]
  rcases Nat.le_total j L.length with h | h
  · rw [Nat.min_eq_left h]
  · rw [Nat.min_eq_right h, List.take_of_length_le (Nat.le_refl _), List.take_of_length_le h]

set_option maxRecDepth 100000 in
set_option maxHeartbeats 32000000 in
theorem mergeSorts_walk (a : Option Addr) (c : Nat) (l0 : List Int) (I : Int) (w : World) (hl0 : Sl w a c (l0.map (Value.int .i64)) ∧ ∀ x ∈ l0, I64 x) (hI0 : -9223372036854775808 ≤ I) (hI1 : I ≤ 9223372036854775807) :
    Calls Try.prog 3 #[.slice a l0.length c, .int .i64 I] w fun e w' => e = .returned (.bool true) ∧ Below w.heap.size w w' := by
  have hS0 : Sl w a c (nums l0) := hl0.1
  have HFe := Lib.hid (few_of l0 hS0)
  have hl200 : (fewL l0).length ≤ 200 := by rw [few_len]; omega
  have hdm := few_dm l0
  obtain ⟨l, hl⟩ : ∃ l, fewL l0 = l := ⟨_, rfl⟩
  rw [hl] at HFe hl200 hdm
  obtain ⟨n, hnn⟩ : ∃ n, l.length = n := ⟨_, rfl⟩
  have HN := Lib.hid hnn
  have HDm := Lib.hid hdm
  have hn200 : n ≤ 200 := by omega
  rw [hnn] at hl200
  clear hS0 hl0 hl hdm
  generalize l0.length = n0 at *
  go_enter Try.func3, Try.ntmps3
  go_wp2_with fail
  refine HFe.out.mono ?_; rintro e w1 ⟨a1, c1, rfl, ho1, hb1⟩
  have HB1 := Lib.hid hb1
  have hS1 := own_sl ho1 (nums_one _)
  have HS1 := Lib.hid hS1
  have HRS := Lib.hid (rsort_of l hS1 HDm.out (by omega))
  rw [hnn] at HRS ⊢
  clear ho1 hb1 hS1 HFe
  go_wp2_with fail
  refine HRS.out.mono ?_; rintro e w2 ⟨a2, c2, rfl, ho2, hb2⟩
  obtain ⟨S, hS⟩ : ∃ S, sortL cmpT l = S := ⟨_, rfl⟩
  have hSn : S.length = n := by rw [← hS, sort_len, hnn]
  rw [hS] at ho2 ⊢
  rw [hSn] at ho2 ⊢
  have HSS := Lib.hid hS
  have HSN := Lib.hid hSn
  have HB2 := Lib.hid (HB1.out.trans (hb2.mono HB1.out.size))
  have HS2 := Lib.hid (HS1.out.below hb2)
  have HW2 := Lib.hid (own_sl ho2 (nums_one _))
  have hc2 : n ≤ c2 ∧ (a2 = none → n = 0 ∧ c2 = 0) := by
    rcases t_form ho2 with ⟨h1, h2, h3⟩ | ⟨g, h1, _, _, h2, _⟩
    · exact ⟨by omega, fun _ => ⟨h2, h3⟩⟩
    · exact ⟨h2, fun h => by rw [h1] at h; cases h⟩
  have HC2 := Lib.hid hc2
  have hP := perm_of l (cv_tens w2) cmpT_cm (HS1.out.below hb2) HDm.out (by omega)
  rw [hnn] at hP
  have HP := Lib.hid hP
  obtain ⟨Q, hQ⟩ : ∃ Q, S.take I.toNat = Q := ⟨_, rfl⟩
  obtain ⟨k, hk⟩ : ∃ k, Q.length = k := ⟨_, rfl⟩
  have hkv : (k : Int) = min (max I 0) (n : Int) := by rw [← hk, ← hQ, List.length_take, hSn]; omega
  have hQk : S.take k = Q := by rw [← hk, ← hQ]; exact take_len S _
  have HQ := Lib.hid hQ
  have HQK := Lib.hid hQk
  have HK := Lib.hid hk
  have hkn : k ≤ n := by omega
  have hQS : Sl w2 a2 c2 (nums Q) := by rw [← hQk, ← nums_take]; exact HW2.out.take k
  have HQS := Lib.hid hQS
  clear ho2 hb2 hS hSn hnn HRS hP hQ hk hQk hQS hc2
  have hcase : (decide (I < 0) = true ∧ k = 0 ∧ I < 0) ∨ (decide (I < 0) = false ∧ decide (I > (n : Int)) = true ∧ k = n ∧ ¬ I < 0 ∧ (n : Int) < I) ∨ (decide (I < 0) = false ∧ decide (I > (n : Int)) = false ∧ I = (k : Int)) := by
    by_cases q1 : I < 0
    · exact .inl ⟨decide_eq_true q1, by omega, q1⟩
    · by_cases q2 : I > (n : Int)
      · exact .inr (.inl ⟨decide_eq_false q1, decide_eq_true q2, by omega, q1, q2⟩)
      · exact .inr (.inr ⟨decide_eq_false q1, decide_eq_false q2, by omega⟩)
  clear hkv
  rcases hcase with ⟨q1, q2, q2'⟩ | ⟨q1, q2, q3, q4, q5⟩ | ⟨q1, q2, q3⟩
  · subst q2
    have q5 : decide ((0 : Int) > (n : Int)) = false := decide_eq_false (by omega)
    have q6 : decide ((n : Int) < 0) = false := decide_eq_false (by omega)
    go_wp2_with fail
    refine HP.out.mono ?_; rintro e w3 ⟨a3, c3, rfl, ho3, hb3⟩
    have hPl : (sortL (cmpAt cmpT l) (upTo n)).length = n := by rw [sort_len, upTo_len]
    rw [hPl] at ho3 ⊢
    have HPO := Lib.hid (own_sl ho3 (nums_one _))
    have HB3 := Lib.hid (HB2.out.trans (hb3.mono HB2.out.size))
    have HS3 := Lib.hid (HS2.out.below hb3)
    have HW3 := Lib.hid (HW2.out.below hb3)
    have HQ3 := Lib.hid (HQS.out.below hb3)
    have hMS := fun w' (h : Below w3.heap.size w3 w') => msort_of l (cv_tens w') cmpT_cm (HS3.out.below h) HDm.out (by rw [HN.out]; omega)
    have hML := fun w' (h : Below w3.heap.size w3 w') => least_of l I (cv_tens w') cmpT_cm (HS3.out.below h) HDm.out (by rw [HN.out]; omega)
    simp only [HSS.out, HN.out] at hMS hML
    have HMS := Lib.hid hMS
    have HML := Lib.hid hML
    have hsB0 : Below w3.heap.size w3 w3.drew := (Below.refl _ _).drew
    have B0 := Lib.hid hsB0
    have k1 : (0 : Int) ≤ (0 : Int) := by omega
    have k2 : (0 : Int) ≤ (c2 : Int) := by have := HC2.out.1; omega
    clear ho3 hb3 hPl HP hMS hML HB2 HS2 HW2 HQS
    have HSameS := Lib.hid (fun w' (b : Option Addr) (d : Nat) (h : Below w3.heap.size w3 w') (hS : Sl w' b d (nums S)) => nsame_self S hS (HW3.out.below h) (by rw [HSN.out]; omega))
    have HSameQ := Lib.hid (fun w' (b : Option Addr) (d : Nat) (h : Below w3.heap.size w3 w') (hS : Sl w' b d (nums Q)) => nsame_self Q hS (HQ3.out.below h) (by rw [HK.out]; omega))
    have q9 : ((n : Int) == (n : Int)) = true := by simp
    rw [HSN.out] at HSameS
    rw [HK.out] at HSameQ
    simp only [HQ.out, HK.out] at HMS HML HSameS HSameQ
    go_wp2_with fail
    go_region_held3 (fun w' => Below w3.heap.size w3 w') (first | assumption)
      ((first
        | (go_at_call 11; have XX := L6; clear XX; refine (HSameQ.out _ a6 c6 L6.out S6.out).mono ?_; rintro e w7 ⟨rfl, hb7⟩; have hsL7 := L6.out.trans (hb7.mono L6.out.size); have L7 := Lib.hid hsL7; clear hb7)
        | (go_at_call 13; have XX := L5; clear XX; refine (HML.out _ L5.out).mono ?_; rintro e w6 ⟨a6, c6, rfl, hs6, hb6⟩; have hsL6 := L5.out.trans (hb6.mono L5.out.size); have L6 := Lib.hid hsL6; have S6 := Lib.hid hs6; clear hb6 hs6)
        | (go_at_call 11; have XX := L4; clear XX; refine (HSameS.out _ a4 c4 L4.out S4.out).mono ?_; rintro e w5 ⟨rfl, hb5⟩; have hsL5 := L4.out.trans (hb5.mono L4.out.size); have L5 := Lib.hid hsL5; clear hb5)
        | (go_at_call 12; refine (HMS.out _ B0.out).mono ?_; rintro e w4 ⟨a4, c4, rfl, ho4, hb4⟩; rw [HSN.out] at ho4 ⊢; have hsL4 := B0.out.trans (hb4.mono B0.out.size); have L4 := Lib.hid hsL4; have S4 := Lib.hid (own_sl ho4 (nums_one _)); clear hb4 ho4)))
    all_goals
      clear hsB0 hsL4 hsL5 hsL6 hsL7
      have HB7 := Lib.hid (HB3.out.trans (L7.out.mono HB3.out.size))
      have HS7 := Lib.hid (HS3.out.below L7.out)
      have HW7 := Lib.hid (HW3.out.below L7.out)
      have HP7 := Lib.hid (HPO.out.below L7.out)
      have HPA : Hid (∀ i, i < n → ∃ v : Nat, v < n ∧ (plc cmpT l).getD i 0 = (v : Int) ∧ S.getD i 0 = l.getD v 0) := Lib.hid (fun i hi => by
        have h := plc_at cmpT l (i := i) (by rw [HN.out]; exact hi)
        rwa [HN.out, HSS.out] at h)
      have HPE : Hid (sortL (cmpAt cmpT l) (upTo n) = plc cmpT l) := Lib.hid (by unfold plc; rw [HN.out])
      have HPN : Hid ((plc cmpT l).length = n) := Lib.hid ((plc_len _ _).trans HN.out)
      clear B0 L4 L5 L6 S4 S6 HMS HML HSameS HSameQ HB1 HB3 HS1 HS3 HW3 HQ3 HPO
      go_wp2_with fail
      go_loopw [51] (fun v51 wr => ∃ i : Nat, v51 = .int .i64 i ∧ i ≤ n ∧ Below w7.heap.size w7 wr) (fun v51 _ => n - (intOf v51).toNat)
      case atStart => exact ⟨0, rfl, by omega, Below.refl _ _⟩
      case round =>
        obtain ⟨wq, rfl⟩ : ∃ wq : World, wq = wr := ⟨_, rfl⟩
        obtain ⟨i, rfl, hi, hb⟩ := hrel
        have HB := Lib.hid hb
        clear hb
        have HPq := HP7.out.below HB.out
        rw [HPE.out] at HPq
        by_cases hit : i < n
        · have di : decide (i < n) = true := decide_eq_true hit
          obtain ⟨v, hv, hv1, hv2⟩ := HPA.out i hit
          obtain ⟨gl, ol, rfl⟩ := HS7.out.numsome (by rw [HN.out]; omega)
          obtain ⟨gw, ow, rfl⟩ := HW7.out.numsome (by rw [HSN.out]; omega)
          obtain ⟨gp, op, rfl⟩ := HPq.numsome (by rw [HPN.out]; omega)
          have cp := (HPq.num (getD_lt (by rw [HPN.out]; exact hit))).1
          rw [hv1] at cp
          have cl := ((HS7.out.below HB.out).num (getD_lt (by rw [HN.out]; exact hv))).1
          have cw := ((HW7.out.below HB.out).num (getD_lt (by rw [HSN.out]; exact hit))).1
          rw [hv2] at cw
          generalize l.getD v 0 = y at *
          have f0 : (0 : Int) ≤ (i : Int) := by omega
          have f1 : (i : Int) < (n : Int) := by omega
          have f2 : decide ((v : Int) < 0) = false := decide_eq_false (by omega)
          have f3 : decide ((n : Int) ≤ (v : Int)) = false := decide_eq_false (by omega)
          have f3' : decide (n ≤ v) = false := decide_eq_false (by omega)
          have f4 : (0 : Int) ≤ (v : Int) := by omega
          have f5 : (v : Int) < (n : Int) := by omega
          have f6 : (y == y) = true := by simp
          clear hv1 hv2 HPq
          go_wp2_with fail
          go_quiet (fail)
          go_wp2_with fail
          go_roundw
          case rel => exact ⟨i + 1, by go_num, by omega, Below.draws1 HB.out _⟩
          case measure => simp [intOf]; omega
        · have di : decide (i < n) = false := decide_eq_false hit
          have hT := turn_of (plc cmpT l) HPq (by rw [HPN.out]; omega)
          rw [HPN.out] at hT
          have HT := Lib.hid hT
          have HB8 := Lib.hid (HB7.out.trans (HB.out.mono HB7.out.size))
          clear hT HPq
          go_wp2_with fail
          refine HT.out.mono ?_; rintro e w8 hpost
          obtain ⟨b, ap, cp, P, rfl, hSP, hb8, hyes, hno⟩ := turn_one hpost
          have HB9 := Lib.hid (HB8.out.trans (hb8.mono HB8.out.size))
          have hbt : b = true := by
            cases b
            · exact absurd (plc_good cmpT l) (hno rfl).2
            · rfl
          subst hbt
          have HAw := Lib.hid (awake15_of w8)
          clear hpost hSP hb8 hyes hno HT
          go_wp2_with fail
          refine HAw.out.mono ?_; rintro e w9 ⟨rfl, hb9⟩
          have HB10 := Lib.hid (HB9.out.trans (hb9.mono HB9.out.size))
          clear hb9
          go_wp2_with fail
          go_ret
          exact ⟨rfl, HB10.out⟩
  · subst q3
    have q6 : decide ((k : Int) < I) = true := decide_eq_true q5
    go_wp2_with fail
    refine HP.out.mono ?_; rintro e w3 ⟨a3, c3, rfl, ho3, hb3⟩
    have hPl : (sortL (cmpAt cmpT l) (upTo k)).length = k := by rw [sort_len, upTo_len]
    rw [hPl] at ho3 ⊢
    have HPO := Lib.hid (own_sl ho3 (nums_one _))
    have HB3 := Lib.hid (HB2.out.trans (hb3.mono HB2.out.size))
    have HS3 := Lib.hid (HS2.out.below hb3)
    have HW3 := Lib.hid (HW2.out.below hb3)
    have HQ3 := Lib.hid (HQS.out.below hb3)
    have hMS := fun w' (h : Below w3.heap.size w3 w') => msort_of l (cv_tens w') cmpT_cm (HS3.out.below h) HDm.out (by rw [HN.out]; omega)
    have hML := fun w' (h : Below w3.heap.size w3 w') => least_of l I (cv_tens w') cmpT_cm (HS3.out.below h) HDm.out (by rw [HN.out]; omega)
    simp only [HSS.out, HN.out] at hMS hML
    have HMS := Lib.hid hMS
    have HML := Lib.hid hML
    have hsB0 : Below w3.heap.size w3 w3.drew := (Below.refl _ _).drew
    have B0 := Lib.hid hsB0
    have k1 : (0 : Int) ≤ (k : Int) := by omega
    have k2 : (k : Int) ≤ (c2 : Int) := by have := HC2.out.1; omega
    clear ho3 hb3 hPl HP hMS hML HB2 HS2 HW2 HQS
    have HSameS := Lib.hid (fun w' (b : Option Addr) (d : Nat) (h : Below w3.heap.size w3 w') (hS : Sl w' b d (nums S)) => nsame_self S hS (HW3.out.below h) (by rw [HSN.out]; omega))
    have HSameQ := Lib.hid (fun w' (b : Option Addr) (d : Nat) (h : Below w3.heap.size w3 w') (hS : Sl w' b d (nums Q)) => nsame_self Q hS (HQ3.out.below h) (by rw [HK.out]; omega))
    have q9 : ((k : Int) == (k : Int)) = true := by simp
    rw [HSN.out] at HSameS
    rw [HK.out] at HSameQ
    simp only [HQ.out, HK.out] at HMS HML HSameS HSameQ
    go_wp2_with fail
    go_region_held3 (fun w' => Below w3.heap.size w3 w') (first | assumption)
      ((first
        | (go_at_call 11; have XX := L6; clear XX; refine (HSameQ.out _ a6 c6 L6.out S6.out).mono ?_; rintro e w7 ⟨rfl, hb7⟩; have hsL7 := L6.out.trans (hb7.mono L6.out.size); have L7 := Lib.hid hsL7; clear hb7)
        | (go_at_call 13; have XX := L5; clear XX; refine (HML.out _ L5.out).mono ?_; rintro e w6 ⟨a6, c6, rfl, hs6, hb6⟩; have hsL6 := L5.out.trans (hb6.mono L5.out.size); have L6 := Lib.hid hsL6; have S6 := Lib.hid hs6; clear hb6 hs6)
        | (go_at_call 11; have XX := L4; clear XX; refine (HSameS.out _ a4 c4 L4.out S4.out).mono ?_; rintro e w5 ⟨rfl, hb5⟩; have hsL5 := L4.out.trans (hb5.mono L4.out.size); have L5 := Lib.hid hsL5; clear hb5)
        | (go_at_call 12; refine (HMS.out _ B0.out).mono ?_; rintro e w4 ⟨a4, c4, rfl, ho4, hb4⟩; rw [HSN.out] at ho4 ⊢; have hsL4 := B0.out.trans (hb4.mono B0.out.size); have L4 := Lib.hid hsL4; have S4 := Lib.hid (own_sl ho4 (nums_one _)); clear hb4 ho4)))
    all_goals
      clear hsB0 hsL4 hsL5 hsL6 hsL7
      have HB7 := Lib.hid (HB3.out.trans (L7.out.mono HB3.out.size))
      have HS7 := Lib.hid (HS3.out.below L7.out)
      have HW7 := Lib.hid (HW3.out.below L7.out)
      have HP7 := Lib.hid (HPO.out.below L7.out)
      have HPA : Hid (∀ i, i < k → ∃ v : Nat, v < k ∧ (plc cmpT l).getD i 0 = (v : Int) ∧ S.getD i 0 = l.getD v 0) := Lib.hid (fun i hi => by
        have h := plc_at cmpT l (i := i) (by rw [HN.out]; exact hi)
        rwa [HN.out, HSS.out] at h)
      have HPE : Hid (sortL (cmpAt cmpT l) (upTo k) = plc cmpT l) := Lib.hid (by unfold plc; rw [HN.out])
      have HPN : Hid ((plc cmpT l).length = k) := Lib.hid ((plc_len _ _).trans HN.out)
      clear B0 L4 L5 L6 S4 S6 HMS HML HSameS HSameQ HB1 HB3 HS1 HS3 HW3 HQ3 HPO
      go_wp2_with fail
      go_loopw [51] (fun v51 wr => ∃ i : Nat, v51 = .int .i64 i ∧ i ≤ k ∧ Below w7.heap.size w7 wr) (fun v51 _ => k - (intOf v51).toNat)
      case atStart => exact ⟨0, rfl, by omega, Below.refl _ _⟩
      case round =>
        obtain ⟨wq, rfl⟩ : ∃ wq : World, wq = wr := ⟨_, rfl⟩
        obtain ⟨i, rfl, hi, hb⟩ := hrel
        have HB := Lib.hid hb
        clear hb
        have HPq := HP7.out.below HB.out
        rw [HPE.out] at HPq
        by_cases hit : i < k
        · have di : decide (i < k) = true := decide_eq_true hit
          obtain ⟨v, hv, hv1, hv2⟩ := HPA.out i hit
          obtain ⟨gl, ol, rfl⟩ := HS7.out.numsome (by rw [HN.out]; omega)
          obtain ⟨gw, ow, rfl⟩ := HW7.out.numsome (by rw [HSN.out]; omega)
          obtain ⟨gp, op, rfl⟩ := HPq.numsome (by rw [HPN.out]; omega)
          have cp := (HPq.num (getD_lt (by rw [HPN.out]; exact hit))).1
          rw [hv1] at cp
          have cl := ((HS7.out.below HB.out).num (getD_lt (by rw [HN.out]; exact hv))).1
          have cw := ((HW7.out.below HB.out).num (getD_lt (by rw [HSN.out]; exact hit))).1
          rw [hv2] at cw
          generalize l.getD v 0 = y at *
          have f0 : (0 : Int) ≤ (i : Int) := by omega
          have f1 : (i : Int) < (k : Int) := by omega
          have f2 : decide ((v : Int) < 0) = false := decide_eq_false (by omega)
          have f3 : decide ((k : Int) ≤ (v : Int)) = false := decide_eq_false (by omega)
          have f3' : decide (k ≤ v) = false := decide_eq_false (by omega)
          have f4 : (0 : Int) ≤ (v : Int) := by omega
          have f5 : (v : Int) < (k : Int) := by omega
          have f6 : (y == y) = true := by simp
          clear hv1 hv2 HPq
          go_wp2_with fail
          go_quiet (fail)
          go_wp2_with fail
          go_roundw
          case rel => exact ⟨i + 1, by go_num, by omega, Below.draws1 HB.out _⟩
          case measure => simp [intOf]; omega
        · have di : decide (i < k) = false := decide_eq_false hit
          have hT := turn_of (plc cmpT l) HPq (by rw [HPN.out]; omega)
          rw [HPN.out] at hT
          have HT := Lib.hid hT
          have HB8 := Lib.hid (HB7.out.trans (HB.out.mono HB7.out.size))
          clear hT HPq
          go_wp2_with fail
          refine HT.out.mono ?_; rintro e w8 hpost
          obtain ⟨b, ap, cp, P, rfl, hSP, hb8, hyes, hno⟩ := turn_one hpost
          have HB9 := Lib.hid (HB8.out.trans (hb8.mono HB8.out.size))
          have hbt : b = true := by
            cases b
            · exact absurd (plc_good cmpT l) (hno rfl).2
            · rfl
          subst hbt
          have HAw := Lib.hid (awake15_of w8)
          clear hpost hSP hb8 hyes hno HT
          go_wp2_with fail
          refine HAw.out.mono ?_; rintro e w9 ⟨rfl, hb9⟩
          have HB10 := Lib.hid (HB9.out.trans (hb9.mono HB9.out.size))
          clear hb9
          go_wp2_with fail
          go_ret
          exact ⟨rfl, HB10.out⟩
  · subst q3
    have q6 : decide ((n : Int) < (k : Int)) = false := decide_eq_false (by omega)
    go_wp2_with fail
    refine HP.out.mono ?_; rintro e w3 ⟨a3, c3, rfl, ho3, hb3⟩
    have hPl : (sortL (cmpAt cmpT l) (upTo n)).length = n := by rw [sort_len, upTo_len]
    rw [hPl] at ho3 ⊢
    have HPO := Lib.hid (own_sl ho3 (nums_one _))
    have HB3 := Lib.hid (HB2.out.trans (hb3.mono HB2.out.size))
    have HS3 := Lib.hid (HS2.out.below hb3)
    have HW3 := Lib.hid (HW2.out.below hb3)
    have HQ3 := Lib.hid (HQS.out.below hb3)
    have hMS := fun w' (h : Below w3.heap.size w3 w') => msort_of l (cv_tens w') cmpT_cm (HS3.out.below h) HDm.out (by rw [HN.out]; omega)
    have hML := fun w' (h : Below w3.heap.size w3 w') => least_of l (k : Int) (cv_tens w') cmpT_cm (HS3.out.below h) HDm.out (by rw [HN.out]; omega)
    simp only [HSS.out, HN.out] at hMS hML
    have HMS := Lib.hid hMS
    have HML := Lib.hid hML
    have hsB0 : Below w3.heap.size w3 w3.drew := (Below.refl _ _).drew
    have B0 := Lib.hid hsB0
    have k1 : (0 : Int) ≤ (k : Int) := by omega
    have k2 : (k : Int) ≤ (c2 : Int) := by have := HC2.out.1; omega
    clear ho3 hb3 hPl HP hMS hML HB2 HS2 HW2 HQS
    have HSameS := Lib.hid (fun w' (b : Option Addr) (d : Nat) (h : Below w3.heap.size w3 w') (hS : Sl w' b d (nums S)) => nsame_self S hS (HW3.out.below h) (by rw [HSN.out]; omega))
    have HSameQ := Lib.hid (fun w' (b : Option Addr) (d : Nat) (h : Below w3.heap.size w3 w') (hS : Sl w' b d (nums Q)) => nsame_self Q hS (HQ3.out.below h) (by rw [HK.out]; omega))
    have q9 : ((n : Int) == (n : Int)) = true := by simp
    rw [HSN.out] at HSameS
    rw [HK.out] at HSameQ
    simp only [HQ.out, HK.out] at HMS HML HSameS HSameQ
    go_wp2_with fail
    go_region_held3 (fun w' => Below w3.heap.size w3 w') (first | assumption)
      ((first
        | (go_at_call 11; have XX := L6; clear XX; refine (HSameQ.out _ a6 c6 L6.out S6.out).mono ?_; rintro e w7 ⟨rfl, hb7⟩; have hsL7 := L6.out.trans (hb7.mono L6.out.size); have L7 := Lib.hid hsL7; clear hb7)
        | (go_at_call 13; have XX := L5; clear XX; refine (HML.out _ L5.out).mono ?_; rintro e w6 ⟨a6, c6, rfl, hs6, hb6⟩; have hsL6 := L5.out.trans (hb6.mono L5.out.size); have L6 := Lib.hid hsL6; have S6 := Lib.hid hs6; clear hb6 hs6)
        | (go_at_call 11; have XX := L4; clear XX; refine (HSameS.out _ a4 c4 L4.out S4.out).mono ?_; rintro e w5 ⟨rfl, hb5⟩; have hsL5 := L4.out.trans (hb5.mono L4.out.size); have L5 := Lib.hid hsL5; clear hb5)
        | (go_at_call 12; refine (HMS.out _ B0.out).mono ?_; rintro e w4 ⟨a4, c4, rfl, ho4, hb4⟩; rw [HSN.out] at ho4 ⊢; have hsL4 := B0.out.trans (hb4.mono B0.out.size); have L4 := Lib.hid hsL4; have S4 := Lib.hid (own_sl ho4 (nums_one _)); clear hb4 ho4)))
    all_goals
      clear hsB0 hsL4 hsL5 hsL6 hsL7
      have HB7 := Lib.hid (HB3.out.trans (L7.out.mono HB3.out.size))
      have HS7 := Lib.hid (HS3.out.below L7.out)
      have HW7 := Lib.hid (HW3.out.below L7.out)
      have HP7 := Lib.hid (HPO.out.below L7.out)
      have HPA : Hid (∀ i, i < n → ∃ v : Nat, v < n ∧ (plc cmpT l).getD i 0 = (v : Int) ∧ S.getD i 0 = l.getD v 0) := Lib.hid (fun i hi => by
        have h := plc_at cmpT l (i := i) (by rw [HN.out]; exact hi)
        rwa [HN.out, HSS.out] at h)
      have HPE : Hid (sortL (cmpAt cmpT l) (upTo n) = plc cmpT l) := Lib.hid (by unfold plc; rw [HN.out])
      have HPN : Hid ((plc cmpT l).length = n) := Lib.hid ((plc_len _ _).trans HN.out)
      clear B0 L4 L5 L6 S4 S6 HMS HML HSameS HSameQ HB1 HB3 HS1 HS3 HW3 HQ3 HPO
      go_wp2_with fail
      go_loopw [51] (fun v51 wr => ∃ i : Nat, v51 = .int .i64 i ∧ i ≤ n ∧ Below w7.heap.size w7 wr) (fun v51 _ => n - (intOf v51).toNat)
      case atStart => exact ⟨0, rfl, by omega, Below.refl _ _⟩
      case round =>
        obtain ⟨wq, rfl⟩ : ∃ wq : World, wq = wr := ⟨_, rfl⟩
        obtain ⟨i, rfl, hi, hb⟩ := hrel
        have HB := Lib.hid hb
        clear hb
        have HPq := HP7.out.below HB.out
        rw [HPE.out] at HPq
        by_cases hit : i < n
        · have di : decide (i < n) = true := decide_eq_true hit
          obtain ⟨v, hv, hv1, hv2⟩ := HPA.out i hit
          obtain ⟨gl, ol, rfl⟩ := HS7.out.numsome (by rw [HN.out]; omega)
          obtain ⟨gw, ow, rfl⟩ := HW7.out.numsome (by rw [HSN.out]; omega)
          obtain ⟨gp, op, rfl⟩ := HPq.numsome (by rw [HPN.out]; omega)
          have cp := (HPq.num (getD_lt (by rw [HPN.out]; exact hit))).1
          rw [hv1] at cp
          have cl := ((HS7.out.below HB.out).num (getD_lt (by rw [HN.out]; exact hv))).1
          have cw := ((HW7.out.below HB.out).num (getD_lt (by rw [HSN.out]; exact hit))).1
          rw [hv2] at cw
          generalize l.getD v 0 = y at *
          have f0 : (0 : Int) ≤ (i : Int) := by omega
          have f1 : (i : Int) < (n : Int) := by omega
          have f2 : decide ((v : Int) < 0) = false := decide_eq_false (by omega)
          have f3 : decide ((n : Int) ≤ (v : Int)) = false := decide_eq_false (by omega)
          have f3' : decide (n ≤ v) = false := decide_eq_false (by omega)
          have f4 : (0 : Int) ≤ (v : Int) := by omega
          have f5 : (v : Int) < (n : Int) := by omega
          have f6 : (y == y) = true := by simp
          clear hv1 hv2 HPq
          go_wp2_with fail
          go_quiet (fail)
          go_wp2_with fail
          go_roundw
          case rel => exact ⟨i + 1, by go_num, by omega, Below.draws1 HB.out _⟩
          case measure => simp [intOf]; omega
        · have di : decide (i < n) = false := decide_eq_false hit
          have hT := turn_of (plc cmpT l) HPq (by rw [HPN.out]; omega)
          rw [HPN.out] at hT
          have HT := Lib.hid hT
          have HB8 := Lib.hid (HB7.out.trans (HB.out.mono HB7.out.size))
          clear hT HPq
          go_wp2_with fail
          refine HT.out.mono ?_; rintro e w8 hpost
          obtain ⟨b, ap, cp, P, rfl, hSP, hb8, hyes, hno⟩ := turn_one hpost
          have HB9 := Lib.hid (HB8.out.trans (hb8.mono HB8.out.size))
          have hbt : b = true := by
            cases b
            · exact absurd (plc_good cmpT l) (hno rfl).2
            · rfl
          subst hbt
          have HAw := Lib.hid (awake15_of w8)
          clear hpost hSP hb8 hyes hno HT
          go_wp2_with fail
          refine HAw.out.mono ?_; rintro e w9 ⟨rfl, hb9⟩
          have HB10 := Lib.hid (HB9.out.trans (hb9.mono HB9.out.size))
          clear hb9
          go_wp2_with fail
          go_ret
          exact ⟨rfl, HB10.out⟩

end Go.Proofs.Ytlglenbgaalhiaa
