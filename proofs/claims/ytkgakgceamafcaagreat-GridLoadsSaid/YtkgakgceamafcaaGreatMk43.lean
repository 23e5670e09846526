/-
  Texts of this seat, put together (a claim holds few texts): TgL, TgO.
-/
import Derived.Test.YtkgakgceamafcaaGreatMk42

namespace Go.Proofs.YtkgakgceamafcaaGreat
open Go Go.RowKit
set_option linter.unusedVariables false

theorem join0_i {w : World} {h : Nat} {ts ss : List (El h)} {b b' : Nat} (H : In w 194 h ts b) (H' : In w 194 h ss b') (hn1 : 1 ≤ ts.length) (hn2 : 1 ≤ ss.length) (hl : ts.length + ss.length ≤ 100) (hf : (flatL h (ts ++ ss)).length ≤ 1000000) :
    Calls Tryz.prog 182 #[ptr b, ptr b', .int .i64 0] w fun e w' => ∃ a' c', e = .returned (.slice a' (fewN (ts ++ ss).length) c') ∧ Es w' 194 (h + 1) (pts (ts ++ ss)) a' c' ∧ Below w.heap.size w w' := by
  cases h with
  | zero => exact join0l_i H H' hn1 hn2 hl hf
  | succ h => exact join0n_i H H' hn1 hn2 hl hf

set_option maxRecDepth 100000 in
set_option maxHeartbeats 1000000 in
theorem del0_i {w : World} {t : List (El 0)} {b : Nat} (i : Nat) (H : In w 194 0 t b) (hw : Wf 0 t) (hi : i < (flatL 0 t).length) (hf : (flatL 0 t).length ≤ 100000) :
    Calls Tryz.prog 155 #[ptr b, .int .i64 i] w fun e w' => ∃ b', e = .returned (ptr b') ∧ In w' 194 0 (delT 0 t i) b' ∧ Below w.heap.size w w' := by
  have HL := Lib.hid (isleaf_i H)
  obtain ⟨g, o, c, hh, he⟩ := H.es hw.len.1
  have h0 : (flatL 0 t).length = t.length := flatLen0 t
  rw [h0] at hi hf
  obtain ⟨n, hn⟩ : ∃ n, t.length = n := ⟨_, rfl⟩
  have hn6 := hw.len.2
  rw [hn] at hi hf hn6
  have c0 : w.cell? ⟨b, 0, none⟩ = some (.slice none 0 0) := by rw [cell_at hh]; rfl
  have c1 : w.cell? ⟨b, 1, none⟩ = some (.slice (some ⟨g, o, none⟩) n c) := by rw [cell_at hh, ← hn]; rfl
  have HR := Lib.hid (ereplI_i (I := i) (J := (i : Int) + 1) (i := i) (j := i + 1) (m := 0) (os := []) he (Es.ofSl (xs := []) (S3.none w)) hn rfl (by omega) (by omega) (by omega) rfl (by omega))
  rw [show i + 0 + (n - (i + 1)) = n - 1 by omega] at HR
  have hwr : IntKind.i64.wrap ((i : Int) + 1) = (i : Int) + 1 := by rw [IntKind.wrap_i64]; omega
  have hrl : (replL t i (i + 1) ([] : List (El 0))).length = n - 1 := by rw [replL_len _ _ (by omega) (by omega), hn]; simp; omega
  have HRL := Lib.hid hrl
  have hpd : delT 0 t i = replL t i (i + 1) ([] : List (El 0)) := rfl
  rw [hpd]
  clear H hh he h0 hw hrl hpd
  go_enter Tryz.func155, Tryz.ntmps155
  go_wp2_with fail
  refine HL.out.mono ?_; rintro e w1 ⟨rfl, rfl⟩
  go_wp2_with fail
  refine HR.out.mono ?_; rintro e w2 ⟨a2, c2, rfl, he2, hb2⟩
  have HE := Lib.hid (eleaf_i he2 HRL.out (by omega))
  have HB2 := Lib.hid hb2
  clear he2 hb2 HR HL
  go_wp2_with fail
  refine HE.out.mono ?_; rintro e w3 ⟨b3, rfl, hin, hb3⟩
  have HI := Lib.hid hin
  have HB3 := Lib.hid (HB2.out.trans (hb3.mono HB2.out.size))
  clear hin hb3 HE
  go_wp2_with fail
  go_ret
  exact ⟨b3, rfl, HI.out, HB3.out⟩

set_option maxRecDepth 100000 in
set_option maxHeartbeats 2000000 in
theorem delS_i (h : Nat) (REC : ∀ {lo : Nat} {w : World} {t : List (El h)} {b : Nat} (i : Nat), In w 194 h t b → 1 ≤ lo → (h = 0 ∨ 2 ≤ lo) → Ok lo h t → i < (flatL h t).length → (flatL h t).length ≤ 100000 →
      Calls Tryz.prog 155 #[ptr b, .int .i64 i] w fun e w' => ∃ b', e = .returned (ptr b') ∧ In w' 194 h (delT h t i) b' ∧ Below w.heap.size w w')
    {lo : Nat} {w : World} {ks : List (El (h + 1))} {b : Nat} (i : Nat) (H : In w 194 (h + 1) ks b) (hlo : 2 ≤ lo) (hok : Ok lo (h + 1) ks) (hi : i < (flatL (h + 1) ks).length) (hf : (flatL (h + 1) ks).length ≤ 100000) :
    Calls Tryz.prog 155 #[ptr b, .int .i64 i] w fun e w' => ∃ b', e = .returned (ptr b') ∧ In w' 194 (h + 1) (delT (h + 1) ks i) b' ∧ Below w.heap.size w w' := by
  have hw := hok.wf (by omega)
  have HL := Lib.hid (notleaf_i H hw.len.1)
  have HK := Lib.hid (kid_i H hw.len.1 (by have := hw.len.2; omega) i (by omega))
  obtain ⟨h1, h2, h3, _⟩ := kid_at hw.len.1 i
  have h3 := h3 hi
  have hokk := hok.kid h1
  have hfk := nth_flat h1
  obtain ⟨hft, hot⟩ := del_spec h _ _ (show 1 ≤ 3 by omega) (.inr (by omega)) hokk h3
  have hkf := flat_del_kids hw.len.1 i hi _ hft
  rw [delT_succ h1]
  obtain ⟨hdf, hdo⟩ := delK_spec h1 hlo hok hot
  have hfl : (flatL (h + 1) (replL ks (kidP (szs h ks) i).1 ((kidP (szs h ks) i).1 + 1) [mk1 (delT h (nth ks (kidP (szs h ks) i).1) (kidP (szs h ks) i).2)])).length ≤ 1000000 := by
    rw [hkf, replL_len _ _ (by omega) (by omega)]; simp; omega
  rw [← hdf] at hfl
  clear hft hkf
  generalize (kidP (szs h ks) i).1 = k at *
  generalize (kidP (szs h ks) i).2 = j at *
  generalize hT : delT h (nth ks k) j = t' at *
  have IH0 := fun (w' : World) (b'' : Nat) (hin : In w' 194 h (nth ks k) b'') => REC (w := w') j hin (show 1 ≤ 3 by omega) (.inr (by omega)) hokk h3 (by omega)
  rw [hT] at IH0
  obtain ⟨g, o, c, hh, he⟩ := H.es hw.len.1
  obtain ⟨b', hcb, hin⟩ := he.at (x := nth ks k) (nth_at h1)
  obtain ⟨n, hn⟩ : ∃ n, ks.length = n := ⟨_, rfl⟩
  have hn6 := hw.len.2
  have hn2 : 2 ≤ n := by rw [← hn]; exact Nat.le_trans hlo hok.len.1
  have hkn : k < n := by rw [← hn]; exact h1
  rw [hn] at hn6
  have c0 : w.cell? ⟨b, 0, none⟩ = some (.slice (some ⟨g, o, none⟩) n c) := by rw [cell_at hh, ← hn]; rfl
  have hbl := H.lt
  have hgl : g < w.heap.size := by
    obtain ⟨g', o', e', hg⟩ := (he.has (by omega))
    cases e'; exact hg
  have IH := Lib.hid (fun w' (hb : Below w.heap.size w w') => IH0 w' b' (hin.below hb))
  have HRp : Hid (∀ w5 b5, Below w.heap.size w w5 → In w5 194 h t' b5 → Calls Tryz.prog 180 #[.slice (some ⟨g, o, none⟩) n c, .int .i64 k, .int .i64 ((k : Int) + 1), .slice (some ⟨w5.heap.size, 0, none⟩) 1 1] (w5.alloc (Obj.cells #[ptr b5] 23)) fun e w6 => ∃ a c', e = .returned (.slice a n c') ∧ Es w6 194 (h + 1) (replL ks k (k + 1) [mk1 t']) a c' ∧ Below w5.heap.size w5 w6) := by
    refine Lib.hid (fun w5 b5 hb hi5 => ?_)
    have al := t_al w5 (Obj.cells #[ptr b5] 23)
    refine (ereplN_i (i := k) (j := k + 1) ((he.below hb).below al) (Es.one hi5) hn rfl (by omega) (by omega) (by show n + 1 ≤ _; omega) rfl (by omega)).mono ?_
    rintro e w6 ⟨a6, c6, rfl, he6, hb6⟩
    refine ⟨a6, c6, by show Ending.returned (.slice a6 (k + 1 + (n - (k + 1))) c6) = _; rw [show k + 1 + (n - (k + 1)) = n by omega], he6, al.trans (hb6.mono al.size)⟩
  have e0 : (0 : Int) ≤ (k : Int) := by omega
  have e1 : (k : Int) < (n : Int) := by omega
  have hwr : IntKind.i64.wrap ((k : Int) + 1) = (k : Int) + 1 := by rw [IntKind.wrap_i64]; omega
  have hrl := repl_one_len (x := mk1 t') h1
  have hnk := nth_repl_at h1 t'
  have hpr := pair_len h1 (by omega) hok.oks hot
  have hot2 := hot.len
  have HFD : Hid (flatL (h + 1) (delK ks k t') = flatL (h + 1) (replL ks k (k + 1) [mk1 t'])) := Lib.hid hdf
  have HDK : Hid (delK ks k t' = if t'.length < 3 then replL (replL ks k (k + 1) [mk1 t']) (k - 1) (k - 1 + 2) (pts (nth (replL ks k (k + 1) [mk1 t']) (k - 1) ++ nth (replL ks k (k + 1) [mk1 t']) (k - 1 + 1))) else replL ks k (k + 1) [mk1 t']) := Lib.hid rfl
  have hdl := hdo.len.2
  rw [hn] at hrl
  generalize hKS : replL ks k (k + 1) [mk1 t'] = KS at *
  generalize hDK : delK ks k t' = DK at *
  clear H hh he hin hfk hdf hdo hT hw hi hf h2 h3 IH0 hDK hKS
  have HRL := Lib.hid hrl
  have HNK := Lib.hid hnk
  have HPR := Lib.hid hpr
  have HOK := Lib.hid (And.intro hok hot)
  clear hrl hnk hpr hokk hok hot h1 hn
  go_enter Tryz.func155, Tryz.ntmps155
  go_wp2_with fail
  refine HL.out.mono ?_; rintro e w1 ⟨rfl, rfl⟩
  go_wp2_with fail
  refine HK.out.mono ?_; rintro e w1 ⟨rfl, rfl⟩
  go_upto_region 4 with fail
  have ld0 := fun w' (h : Below w.heap.size w w') => (h.cell (p := ⟨b, 0, none⟩) hbl).trans c0
  have ld1 := fun w' (h : Below w.heap.size w w') => (h.cell (p := ⟨g, o + k, none⟩) hgl).trans hcb
  have hb0 : Below w.heap.size w w.drew := (Below.refl _ _).drew
  clear c0 hcb HL HK
  go_region_held_law (fun w' => Below w.heap.size w w')
    (first | assumption | exact Below.alloc (by assumption) (Below.size (by assumption)) _)
    ((first
      | (go_at_call 155; refine (IH.out _ hb0).mono ?_; rintro e w5 ⟨b5, rfl, hi5, hb5⟩; have hs5 := hb0.trans (hb5.mono hb0.size); have HI5 := Lib.hid hi5; clear hb5 hi5)
      | (go_at_call 180; refine (HRp.out w5 b5 hs5 HI5.out).mono ?_; rintro e w6 ⟨a6, c6, rfl, he6, hb6⟩; have hs6 := hs5.trans (hb6.mono hs5.size); have HE6 := Lib.hid he6; clear hb6 he6)))
  all_goals
    have HS6 := Lib.hid hs6
    clear ld0 ld1 hs6 hs5 hb0 IH HRp
    obtain ⟨g6, o6, rfl, hg6⟩ := HE6.out.has (by rw [HRL.out]; omega)
    obtain ⟨b7, hc7, hi7⟩ := HE6.out.at (x := nth KS k) (nth_at (by rw [HRL.out]; exact hkn))
    rw [HNK.out] at hi7
    have HLw := Lib.hid (low_i hi7 (by omega))
    clear hi7
    go_wp2_with fail
    refine HLw.out.mono ?_; rintro e w7 ⟨rfl, hb7⟩
    have HB7 := Lib.hid (HS6.out.trans (hb7.mono HS6.out.size))
    have HE7 := Lib.hid (HE6.out.below hb7)
    have hg7 := Nat.lt_of_lt_of_le hg6 hb7.size
    clear hb7 HLw hc7
    by_cases hlow : t'.length < 3
    · have dl : decide (t'.length < 3) = true := decide_eq_true hlow
      have hdk := HDK.out
      rw [if_pos hlow] at hdk
      have HD2 := Lib.hid hdk
      obtain ⟨p1, p2, p3, p6, p7, p4, p5⟩ := HPR.out hlow
      rw [dl]
      obtain ⟨q, hq⟩ : ∃ q, k - 1 = q := ⟨_, rfl⟩
      have hwm : IntKind.i64.wrap ((k : Int) - 1) = (k : Int) - 1 := by rw [IntKind.wrap_i64]; omega
      have hmx : (if (k : Int) - 1 < 0 then (0 : Int) else (k : Int) - 1) = (q : Int) := by split <;> omega
      rw [hq] at p2 p3 p4 p5 p6 p7 hdk
      have hqn : q + 1 < n := by omega
      obtain ⟨b8, hc8, hi8⟩ := HE7.out.at (x := nth KS q) (nth_at (by rw [HRL.out]; omega))
      obtain ⟨b9, hc9, hi9⟩ := HE7.out.at (x := nth KS (q + 1)) (nth_at (by rw [HRL.out]; omega))
      have hpl : (nth KS q ++ nth KS (q + 1)).length = (nth KS q).length + (nth KS (q + 1)).length := List.length_append
      have hfl2 : (flatL h (nth KS q ++ nth KS (q + 1))).length ≤ 1000000 := by
        have h5 := nth_flat (ks := KS) (k := q) (by rw [HRL.out]; omega)
        have h6 := flat_split (ks := KS) (k := q) (by rw [HRL.out]; omega)
        have h7 := nth_at (ks := KS) (k := q + 1) (by rw [HRL.out]; omega)
        have h8 := (List.getElem?_eq_some_iff.1 h7).2
        have h9 : flatL (h + 1) (KS.drop (q + 1)) = flatL h (nth KS (q + 1)) ++ flatL (h + 1) (KS.drop (q + 2)) := by
          rw [List.drop_eq_getElem_cons (by rw [HRL.out]; omega), h8, flatL_cons]; rfl
        rw [HFD.out, h6, h9] at hfl
        rw [flatL_app]
        simp only [List.length_append] at hfl ⊢
        omega
      have HJ := Lib.hid (fun w' (hb : Below w7.heap.size w7 w') => join0_i (hi8.below hb) (hi9.below hb) (by omega) (by omega) (by omega) hfl2)
      have HRp2 : Hid (∀ w8 a8 c8, Below w7.heap.size w7 w8 → Es w8 194 (h + 1) (pts (nth KS q ++ nth KS (q + 1))) a8 c8 → Calls Tryz.prog 180 #[.slice (some ⟨g6, o6, none⟩) n c6, .int .i64 q, .int .i64 ((q : Int) + 2), .slice a8 (fewN (nth KS q ++ nth KS (q + 1)).length) c8] w8 fun e w9 => ∃ a c', e = .returned (.slice a DK.length c') ∧ Es w9 194 (h + 1) DK a c' ∧ Below w8.heap.size w8 w9) := by
        refine Lib.hid (fun w8 a8 c8 hb he8 => ?_)
        have hpn : (pts (nth KS q ++ nth KS (q + 1))).length = fewN (nth KS q ++ nth KS (q + 1)).length := pts_len _
        have hfw : fewN (nth KS q ++ nth KS (q + 1)).length ≤ 2 := by rw [hpl]; unfold fewN; omega
        refine (ereplN_i (i := q) (j := q + 2) (HE7.out.below hb) he8 HRL.out hpn (by omega) (by omega) (by omega) rfl (by omega)).mono ?_
        rintro e w9 ⟨a9, c9, rfl, he9, hb9⟩
        rw [← hdk] at he9
        have hdl9 : DK.length = q + fewN (nth KS q ++ nth KS (q + 1)).length + (n - (q + 2)) := by
          rw [hdk, replL_len _ _ (by omega) (by rw [HRL.out]; omega), hpn, HRL.out]
        exact ⟨a9, c9, by rw [hdl9], he9, hb9⟩
      have HAb := Lib.hid (fun w6 a6 c6 (he6 : Es w6 194 (h + 1) DK a6 c6) => eabove_i he6 rfl (by omega) hfl)
      have f0 : (0 : Int) ≤ (q : Int) := by omega
      have f1 : (q : Int) < (n : Int) := by omega
      have f2 : (0 : Int) ≤ (q : Int) + 1 := by omega
      have f3 : (q : Int) + 1 < (n : Int) := by omega
      have hw2 : IntKind.i64.wrap ((q : Int) + 2) = (q : Int) + 2 := by rw [IntKind.wrap_i64]; omega
      have hw1 : IntKind.i64.wrap ((q : Int) + 1) = (q : Int) + 1 := by rw [IntKind.wrap_i64]; omega
      obtain ⟨m, hm⟩ : ∃ m, fewN (nth KS q ++ nth KS (q + 1)).length = m := ⟨_, rfl⟩
      obtain ⟨dl9, hdl9⟩ : ∃ dl9, DK.length = dl9 := ⟨_, rfl⟩
      rw [hm] at HJ HRp2
      rw [hdl9] at HRp2 HAb
      clear hm hdk p1 p2 p3 p4 p5 p6 p7 hi8 hi9 hpl hfl2 dl HDK hdl9 hdl
      clear hfl
      go_upto_region 7 with fail
      have ld0 := fun w' (h : Below w7.heap.size w7 w') => (h.cell (p := ⟨g6, o6 + q, none⟩) hg7).trans hc8
      have ld1 := fun w' (h : Below w7.heap.size w7 w') => (h.cell (p := ⟨g6, o6 + (q + 1), none⟩) hg7).trans hc9
      have hb0 : Below w7.heap.size w7 w7.drew := (Below.refl _ _).drew
      clear hc8 hc9
      go_region_held_law (fun w' => Below w7.heap.size w7 w')
        (first | assumption)
        ((first
          | (go_at_call 182; refine (HJ.out _ hb0).mono ?_; rintro e w8 ⟨a8, c8, rfl, hi8, hb8⟩; have hs8 := hb0.trans (hb8.mono hb0.size); have HI8 := Lib.hid hi8; clear hb8 hi8)
          | (go_at_call 180; refine (HRp2.out w8 a8 c8 hs8 HI8.out).mono ?_; rintro e w9 ⟨a9, c9, rfl, he9, hb9⟩; have hs9 := hs8.trans (hb9.mono hs8.size); have HE9 := Lib.hid he9; clear hb9 he9)))
      all_goals
        have HS9 := Lib.hid (HB7.out.trans (hs9.mono HB7.out.size))
        clear ld0 ld1 hs9 hs8 hb0 HRp2 HJ
        have HA9 := Lib.hid (HAb.out w9 a9 c9 HE9.out)
        go_wp2_with fail
        refine HA9.out.mono ?_; rintro e wa ⟨ba, rfl, hia, hba⟩
        have HIa := Lib.hid hia
        have HBa := Lib.hid (HS9.out.trans (hba.mono HS9.out.size))
        clear hia hba
        go_wp2_with fail
        go_ret
        exact ⟨ba, rfl, HIa.out, HBa.out⟩
    · have dl : decide (t'.length < 3) = false := decide_eq_false hlow
      have hdk := HDK.out
      rw [if_neg hlow] at hdk
      rw [dl]
      have HA9 := Lib.hid (eabove_i HE7.out HRL.out (by omega) (by rw [← hdk]; exact hfl))
      have HD2 := Lib.hid hdk
      clear hdk dl HDK
      go_wp2_with fail
      refine HA9.out.mono ?_; rintro e wa ⟨ba, rfl, hia, hba⟩
      have HIa := Lib.hid hia
      have HBa := Lib.hid (HB7.out.trans (hba.mono HB7.out.size))
      clear hia hba
      go_wp2_with fail
      go_ret
      have hq := HIa.out
      rw [← HD2.out] at hq
      exact ⟨ba, rfl, hq, HBa.out⟩

theorem del_i : ∀ (h : Nat) {lo : Nat} {w : World} {t : List (El h)} {b : Nat} (i : Nat), In w 194 h t b → 1 ≤ lo → (h = 0 ∨ 2 ≤ lo) → Ok lo h t → i < (flatL h t).length → (flatL h t).length ≤ 100000 →
    Calls Tryz.prog 155 #[ptr b, .int .i64 i] w fun e w' => ∃ b', e = .returned (ptr b') ∧ In w' 194 h (delT h t i) b' ∧ Below w.heap.size w w'
  | 0, lo, w, t, b, i, H, hlo, h2, hok, hi, hf => del0_i i H (hok.wf hlo) hi hf
  | h + 1, lo, w, t, b, i, H, hlo, h2, hok, hi, hf => delS_i h (fun i => del_i h i) i H (by omega) hok hi hf

end Go.Proofs.YtkgakgceamafcaaGreat

namespace Go.Proofs.YtkgakgceamafcaaGreat
open Go Go.RowKit
set_option linter.unusedVariables false

/-- Delete where there is no such thing. -/
theorem delno_i {w : World} {pv : Value} {L : List Value} (I : Int) (H : Tin w 194 pv L) (hI : ¬ (0 ≤ I ∧ I < L.length)) :
    Calls Tryz.prog 111 #[.agg #[pv], .int .i64 I] w fun e w' => e = .returned (.tuple #[.agg #[pv], .bool false]) ∧ Below w.heap.size w w' := by
  obtain ⟨w1, hw1, hb1, hz1, hA, hC⟩ := two_blocks w (Obj.cells #[pv] 25) (Obj.cells #[Value.pointer none] 25)
  have HH := Lib.hid (has_i I (H.below hb1))
  rw [show decide (0 ≤ I ∧ I < L.length) = false from decide_eq_false hI] at HH
  have c0 : w1.cell? ⟨w.heap.size, 0, none⟩ = some pv := by rw [cell_at hA]; rfl
  have HB := Lib.hid hb1
  have HC := Lib.hid hC
  have HA := Lib.hid hA
  have hone := H.one
  clear H hb1 hC hA hI
  rcases hone with rfl | ⟨b, rfl⟩
  all_goals
    go_enter Tryz.func111, Tryz.ntmps111
    go_upto_region 1 with fail
    go_wp2_with fail
    refine HH.out.mono ?_; rintro e w2 ⟨rfl, hb2⟩
    have hc2 := (hb2.block (w.heap.size + 1) (by omega)).trans HC.out
    have ha2 := (hb2.block w.heap.size (by omega)).trans HA.out
    have zz := fun i => unfrozen hc2 i
    have r0 : w2.cell? ⟨w.heap.size + 1, 0, none⟩ = some (.pointer none) := by rw [cell_at hc2]; rfl
    have r1 := cell_at ha2 0
    have HB2 := Lib.hid (HB.out.trans (hb2.mono (by omega)))
    have HC2 := Lib.hid hc2
    clear hb2 hc2 ha2
    go_wp2_with fail
  · have hs := heap_set_at (o := 0) (u := Value.pointer none) HC2.out
    have hB := HB2.out.setCell (p := ⟨w.heap.size + 1, 0, none⟩) (Nat.le_succ _) (Value.pointer none)
    have q0 : (w2.setCell ⟨w.heap.size + 1, 0, none⟩ (Value.pointer none)).cell? ⟨w.heap.size + 1, 0, none⟩ = some (Value.pointer none) := by rw [cell_at hs]; rfl
    exact bodyPost_ret (v := .tuple #[.agg #[.pointer none], .bool false]) (by simp [results, Tryz.results111, go_sem, q0]) rfl ⟨rfl, hB⟩
  · have hs := heap_set_at (o := 0) (u := ptr b) HC2.out
    have hB := HB2.out.setCell (p := ⟨w.heap.size + 1, 0, none⟩) (Nat.le_succ _) (ptr b)
    have q0 : (w2.setCell ⟨w.heap.size + 1, 0, none⟩ (ptr b)).cell? ⟨w.heap.size + 1, 0, none⟩ = some (ptr b) := by rw [cell_at hs]; rfl
    exact bodyPost_ret (v := .tuple #[.agg #[ptr b], .bool false]) (by simp [results, Tryz.results111, go_sem, q0]) rfl ⟨rfl, hB⟩

theorem topok_kids {h : Nat} {ks : List (El (h + 1))} (H : Oks h ks) : TopOk h ks := ⟨fun h1 => ok_lower (H 0 (by omega)) (by have := rlo_le h; omega), fun _ => H⟩
set_option maxRecDepth 100000 in
set_option maxHeartbeats 1000000 in
theorem delyes_i {w : World} {pv : Value} {L : List Value} (i : Nat) (H : Tin w 194 pv L) (hg : Gd L) (hi : i < L.length) (hf : L.length ≤ 90000) :
    Calls Tryz.prog 111 #[.agg #[pv], .int .i64 i] w fun e w' => ∃ pv', e = .returned (.tuple #[.agg #[pv'], .bool true]) ∧ Tin w' 194 pv' (replL L i (i + 1) []) ∧ Below w.heap.size w w' := by
  have hT := H
  rcases H with ⟨_, rfl⟩ | ⟨b, h, t, rfl, hin, hok, rfl⟩
  · simp at hi
  obtain ⟨w1, hw1, hb1, hz1, hA, hC⟩ := two_blocks w (Obj.cells #[ptr b] 25) (Obj.cells #[Value.pointer none] 25)
  have HH := Lib.hid (has_i (i : Int) (hT.below hb1))
  rw [show decide (0 ≤ (i : Int) ∧ (i : Int) < (flatL h t).length) = true from decide_eq_true ⟨by omega, by omega⟩] at HH
  have c0 : w1.cell? ⟨w.heap.size, 0, none⟩ = some (ptr b) := by rw [cell_at hA]; rfl
  have hh2 : h = 0 ∨ 2 ≤ rlo h := by unfold rlo; by_cases e : h = 0 <;> simp [e]
  obtain ⟨hfs, hos⟩ := del_spec h t i (rlo_pos h) hh2 hok hi
  have HS := Lib.hid (fun w' (hb : Below w1.heap.size w1 w') => del_i h i ((hin.below hb1).below hb) (rlo_pos h) hh2 hok hi (by omega))
  have hgd : Gd (replL (flatL h t) i (i + 1) []) := gd_repl hg (fun v hv => by simp at hv)
  have hlen : (replL (flatL h t) i (i + 1) []).length ≤ 90000 := by rw [replL_len _ _ (by omega) (by omega)]; simp; omega
  have HG := Lib.hid hgd
  have HB := Lib.hid hb1
  have HC := Lib.hid hC
  have HFS := Lib.hid hfs
  have HOS := Lib.hid hos
  generalize hR : replL (flatL h t) i (i + 1) [] = R at *
  generalize hD : delT h t i = D at *
  clear hT hin hok hfs hos hb1 hC hA hg hi hf hR hh2 hD
  go_enter Tryz.func111, Tryz.ntmps111
  go_upto_region 1 with fail
  go_wp2_with fail
  refine HH.out.mono ?_; rintro e w2 ⟨rfl, hb2⟩
  have r1 := (hb2.cell (p := ⟨w.heap.size, 0, none⟩) (by show w.heap.size < _; omega)).trans c0
  have HB2 := Lib.hid hb2
  have HS2 := Lib.hid (HS.out w2 hb2)
  clear hb2 HS HH c0
  go_wp2_with fail
  refine HS2.out.mono ?_; rintro e w5 ⟨b5, rfl, hi5, hb5⟩
  have HI5 := Lib.hid hi5
  have HB5 := Lib.hid (HB2.out.trans (hb5.mono HB2.out.size))
  clear hb5 HS2 r1
  cases h with
  | zero =>
    have hDR : D = R := (flatL_zero D).symm.trans HFS.out
    have HL := Lib.hid (isleaf_i hi5)
    obtain ⟨ia, ic, i0, i1, isl⟩ := hi5.items
    obtain ⟨n, hn⟩ : ∃ n, @List.length Value D = n := ⟨_, rfl⟩
    have hnl : n ≤ 100000 := by
      have e : @List.length Value D = R.length := congrArg (@List.length Value) hDR
      omega
    have HOf := Lib.hid (of_i (xs := D) isl hn hnl (by rw [hDR]; exact HG.out))
    have i1' : w5.cell? ⟨b5, 1, none⟩ = some (.slice ia n ic) := by rw [i1]; exact congrArg (fun m => some (Value.slice ia m ic)) hn
    have HDR := Lib.hid hDR
    clear hi5 isl i1 hn hDR hlen
    go_wp2_with fail
    refine HL.out.mono ?_; rintro e w6 ⟨rfl, rfl⟩
    go_wp2_with fail
    refine HOf.out.mono ?_; rintro e w6 ⟨pv6, rfl, hT6, hb6⟩
    rw [HDR.out] at hT6
    have HB6 := Lib.hid (HB5.out.trans (hb6.mono HB5.out.size))
    have hc2 := (HB6.out.block (w.heap.size + 1) (by omega)).trans HC.out
    have zz := fun i => unfrozen hc2 i
    have r0 : w6.cell? ⟨w.heap.size + 1, 0, none⟩ = some (.pointer none) := by rw [cell_at hc2]; rfl
    have HC2 := Lib.hid hc2
    have HT := Lib.hid hT6
    have hone := hT6.one
    have HBx := Lib.hid (HB.out.trans (HB6.out.mono (by omega)))
    clear hb6 hc2 hT6 HOf
    rcases hone with rfl | ⟨b', rfl⟩
    all_goals
      go_wp2_with fail
    · have hs := heap_set_at (o := 0) (u := Value.pointer none) HC2.out
      have hB := HBx.out.setCell (p := ⟨w.heap.size + 1, 0, none⟩) (Nat.le_succ _) (Value.pointer none)
      have hT := HT.out.setNil (u := Value.pointer none) HC2.out (by decide) HG.out
      have q0 : (w6.setCell ⟨w.heap.size + 1, 0, none⟩ (Value.pointer none)).cell? ⟨w.heap.size + 1, 0, none⟩ = some (Value.pointer none) := by rw [cell_at hs]; rfl
      exact bodyPost_ret (v := .tuple #[.agg #[.pointer none], .bool true]) (by simp [results, Tryz.results111, go_sem, q0]) rfl ⟨.pointer none, rfl, hT, hB⟩
    · have hs := heap_set_at (o := 0) (u := ptr b') HC2.out
      have hB := HBx.out.setCell (p := ⟨w.heap.size + 1, 0, none⟩) (Nat.le_succ _) (ptr b')
      have hT := HT.out.setNil (u := ptr b') HC2.out (by decide) HG.out
      have q0 : (w6.setCell ⟨w.heap.size + 1, 0, none⟩ (ptr b')).cell? ⟨w.heap.size + 1, 0, none⟩ = some (ptr b') := by rw [cell_at hs]; rfl
      exact bodyPost_ret (v := .tuple #[.agg #[ptr b'], .bool true]) (by simp [results, Tryz.results111, go_sem, q0]) rfl ⟨ptr b', rfl, hT, hB⟩
  | succ h =>
    have HL := Lib.hid (notleaf_i hi5 (by have := HOS.out.len; rw [rlo_succ] at this; omega))
    obtain ⟨ia, ic, i0, i1, isl⟩ := hi5.kids
    have HOf := Lib.hid (top_i isl rfl (by have := HOS.out.len; omega) (topok_kids HOS.out.oks) (by rw [HFS.out]; exact HG.out) (by rw [HFS.out]; omega))
    rw [HFS.out] at HOf
    obtain ⟨n, hn⟩ : ∃ n, D.length = n := ⟨_, rfl⟩
    rw [hn] at i0 HOf
    clear hi5 isl hn hlen
    go_wp2_with fail
    refine HL.out.mono ?_; rintro e w6 ⟨rfl, rfl⟩
    go_wp2_with fail
    refine HOf.out.mono ?_; rintro e w6 ⟨pv6, rfl, hT6, hb6⟩
    have HB6 := Lib.hid (HB5.out.trans (hb6.mono HB5.out.size))
    have hc2 := (HB6.out.block (w.heap.size + 1) (by omega)).trans HC.out
    have zz := fun i => unfrozen hc2 i
    have r0 : w6.cell? ⟨w.heap.size + 1, 0, none⟩ = some (.pointer none) := by rw [cell_at hc2]; rfl
    have HC2 := Lib.hid hc2
    have HT := Lib.hid hT6
    have hone := hT6.one
    have HBx := Lib.hid (HB.out.trans (HB6.out.mono (by omega)))
    clear hb6 hc2 hT6 HOf
    rcases hone with rfl | ⟨b', rfl⟩
    all_goals
      go_wp2_with fail
    · have hs := heap_set_at (o := 0) (u := Value.pointer none) HC2.out
      have hB := HBx.out.setCell (p := ⟨w.heap.size + 1, 0, none⟩) (Nat.le_succ _) (Value.pointer none)
      have hT := HT.out.setNil (u := Value.pointer none) HC2.out (by decide) HG.out
      have q0 : (w6.setCell ⟨w.heap.size + 1, 0, none⟩ (Value.pointer none)).cell? ⟨w.heap.size + 1, 0, none⟩ = some (Value.pointer none) := by rw [cell_at hs]; rfl
      exact bodyPost_ret (v := .tuple #[.agg #[.pointer none], .bool true]) (by simp [results, Tryz.results111, go_sem, q0]) rfl ⟨.pointer none, rfl, hT, hB⟩
    · have hs := heap_set_at (o := 0) (u := ptr b') HC2.out
      have hB := HBx.out.setCell (p := ⟨w.heap.size + 1, 0, none⟩) (Nat.le_succ _) (ptr b')
      have hT := HT.out.setNil (u := ptr b') HC2.out (by decide) HG.out
      have q0 : (w6.setCell ⟨w.heap.size + 1, 0, none⟩ (ptr b')).cell? ⟨w.heap.size + 1, 0, none⟩ = some (ptr b') := by rw [cell_at hs]; rfl
      exact bodyPost_ret (v := .tuple #[.agg #[ptr b'], .bool true]) (by simp [results, Tryz.results111, go_sem, q0]) rfl ⟨ptr b', rfl, hT, hB⟩

end Go.Proofs.YtkgakgceamafcaaGreat
