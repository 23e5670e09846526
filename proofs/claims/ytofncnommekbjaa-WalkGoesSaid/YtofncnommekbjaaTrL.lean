/-
  Contracts of layer 9, nodes of ints: without; at this seat's numbers.
-/
import Derived.Test.YtofncnommekbjaaTrJ
import Derived.Test.YtofncnommekbjaaTrK
namespace Go.Proofs.Ytofncnommekbjaa
open Go Go.RowKit
set_option linter.unusedVariables false

theorem join0_i {w : World} {h : Nat} {ts ss : List (El h)} {b b' : Nat} (H : In w 95 h ts b) (H' : In w 95 h ss b') (hn1 : 1 ≤ ts.length) (hn2 : 1 ≤ ss.length) (hl : ts.length + ss.length ≤ 100) (hf : (flatL h (ts ++ ss)).length ≤ 1000000) :
    Calls Try.prog 59 #[ptr b, ptr b', .int .i64 0] w fun e w' => ∃ a' c', e = .returned (.slice a' (fewN (ts ++ ss).length) c') ∧ Es w' 95 (h + 1) (pts (ts ++ ss)) a' c' ∧ Below w.heap.size w w' := by
  cases h with
  | zero => exact join0l_i H H' hn1 hn2 hl hf
  | succ h => exact join0n_i H H' hn1 hn2 hl hf

set_option maxRecDepth 100000 in
set_option maxHeartbeats 1000000 in
theorem del0_i {w : World} {t : List (El 0)} {b : Nat} (i : Nat) (H : In w 95 0 t b) (hw : Wf 0 t) (hi : i < (flatL 0 t).length) (hf : (flatL 0 t).length ≤ 100000) :
    Calls Try.prog 79 #[ptr b, .int .i64 i] w fun e w' => ∃ b', e = .returned (ptr b') ∧ In w' 95 0 (delT 0 t i) b' ∧ Below w.heap.size w w' := by
  have HL := Lib.hid (isleaf_i H)
  obtain ⟨g, o, c, hh, he⟩ := H.es hw.len.1
  have h0 : (flatL 0 t).length = t.length := flatLen0 t
  rw [h0] at hi hf
  obtain ⟨n, hn⟩ : ∃ n, t.length = n := ⟨_, rfl⟩
  have hn6 := hw.len.2
  rw [hn] at hi hf hn6
  have c0 : w.cell? ⟨b, 0, none⟩ = some (.slice none 0 0) := by rw [cell_at hh]; rfl
  have c1 : w.cell? ⟨b, 1, none⟩ = some (.slice (some ⟨g, o, none⟩) n c) := by rw [cell_at hh, ← hn]; rfl
  have HR := Lib.hid (ereplI_i (I := i) (J := (i : Int) + 1) (i := i) (j := i + 1) (m := 0) (os := []) he (Es.ofSl (xs := []) (Sl.none w)) hn rfl (by omega) (by omega) (by omega) rfl (by omega))
  rw [show i + 0 + (n - (i + 1)) = n - 1 by omega] at HR
  have hwr : IntKind.i64.wrap ((i : Int) + 1) = (i : Int) + 1 := by rw [IntKind.wrap_i64]; omega
  have hrl : (replL t i (i + 1) ([] : List (El 0))).length = n - 1 := by rw [replL_len _ _ (by omega) (by omega), hn]; simp; omega
  have HRL := Lib.hid hrl
  have hpd : delT 0 t i = replL t i (i + 1) ([] : List (El 0)) := rfl
  rw [hpd]
  clear H hh he h0 hw hrl hpd
  go_enter Try.func79, Try.ntmps79
  go_wp2_with fail
  refine HL.out.mono ?_; rintro e w1 ⟨rfl, rfl⟩
  go_wp2_with fail
  refine HR.out.mono ?_; rintro e w2 ⟨a2, c2, rfl, he2, hb2⟩
  have HE := Lib.hid (eleaf_i he2 HRL.out (by omega))
  have HB2 := Lib.hid hb2
  clear he2 hb2 HR HL
  go_wp2_with fail
  refine HE.out.mono ?_; rintro e w3 ⟨b3, rfl, hin, hb3⟩
  have HI := Lib.hid hin
  have HB3 := Lib.hid (HB2.out.trans (hb3.mono HB2.out.size))
  clear hin hb3 HE
  go_wp2_with fail
  go_ret
  exact ⟨b3, rfl, HI.out, HB3.out⟩

set_option maxRecDepth 100000 in
set_option maxHeartbeats 2000000 in
theorem delS_i (h : Nat) (REC : ∀ {lo : Nat} {w : World} {t : List (El h)} {b : Nat} (i : Nat), In w 95 h t b → 1 ≤ lo → (h = 0 ∨ 2 ≤ lo) → Ok lo h t → i < (flatL h t).length → (flatL h t).length ≤ 100000 →
      Calls Try.prog 79 #[ptr b, .int .i64 i] w fun e w' => ∃ b', e = .returned (ptr b') ∧ In w' 95 h (delT h t i) b' ∧ Below w.heap.size w w')
    {lo : Nat} {w : World} {ks : List (El (h + 1))} {b : Nat} (i : Nat) (H : In w 95 (h + 1) ks b) (hlo : 2 ≤ lo) (hok : Ok lo (h + 1) ks) (hi : i < (flatL (h + 1) ks).length) (hf : (flatL (h + 1) ks).length ≤ 100000) :
    Calls Try.prog 79 #[ptr b, .int .i64 i] w fun e w' => ∃ b', e = .returned (ptr b') ∧ In w' 95 (h + 1) (delT (h + 1) ks i) b' ∧ Below w.heap.size w w' := by
  have hw := hok.wf (by omega)
  have HL := Lib.hid (notleaf_i H hw.len.1)
  have HK := Lib.hid (kid_i H hw.len.1 (by have := hw.len.2; omega) i (by omega))
  obtain ⟨h1, h2, h3, _⟩ := kid_at hw.len.1 i
  have h3 := h3 hi
  have hokk := hok.kid h1
  have hfk := nth_flat h1
  obtain ⟨hft, hot⟩ := del_spec h _ _ (show 1 ≤ 3 by omega) (.inr (by omega)) hokk h3
  have hkf := flat_del_kids hw.len.1 i hi _ hft
  rw [delT_succ h1]
  obtain ⟨hdf, hdo⟩ := delK_spec h1 hlo hok hot
  have hfl : (flatL (h + 1) (replL ks (kidP (szs h ks) i).1 ((kidP (szs h ks) i).1 + 1) [mk1 (delT h (nth ks (kidP (szs h ks) i).1) (kidP (szs h ks) i).2)])).length ≤ 1000000 := by
    rw [hkf, replL_len _ _ (by omega) (by omega)]; simp; omega
  rw [← hdf] at hfl
  clear hft hkf
  generalize (kidP (szs h ks) i).1 = k at *
  generalize (kidP (szs h ks) i).2 = j at *
  generalize hT : delT h (nth ks k) j = t' at *
  have IH0 := fun (w' : World) (b'' : Nat) (hin : In w' 95 h (nth ks k) b'') => REC (w := w') j hin (show 1 ≤ 3 by omega) (.inr (by omega)) hokk h3 (by omega)
  rw [hT] at IH0
  obtain ⟨g, o, c, hh, he⟩ := H.es hw.len.1
  obtain ⟨b', hcb, hin⟩ := he.at (x := nth ks k) (nth_at h1)
  obtain ⟨n, hn⟩ : ∃ n, ks.length = n := ⟨_, rfl⟩
  have hn6 := hw.len.2
  have hn2 : 2 ≤ n := by rw [← hn]; exact Nat.le_trans hlo hok.len.1
  have hkn : k < n := by rw [← hn]; exact h1
  rw [hn] at hn6
  have c0 : w.cell? ⟨b, 0, none⟩ = some (.slice (some ⟨g, o, none⟩) n c) := by rw [cell_at hh, ← hn]; rfl
  have hbl := H.lt
  have hgl : g < w.heap.size := by
    obtain ⟨g', o', e', hg⟩ := (he.has (by omega))
    cases e'; exact hg
  have IH := Lib.hid (fun w' (hb : Below w.heap.size w w') => IH0 w' b' (hin.below hb))
  have HRp : Hid (∀ w5 b5, Below w.heap.size w w5 → In w5 95 h t' b5 → Calls Try.prog 96 #[.slice (some ⟨g, o, none⟩) n c, .int .i64 k, .int .i64 ((k : Int) + 1), .slice (some ⟨w5.heap.size, 0, none⟩) 1 1] (w5.alloc (Obj.cells #[ptr b5] 25)) fun e w6 => ∃ a c', e = .returned (.slice a n c') ∧ Es w6 95 (h + 1) (replL ks k (k + 1) [mk1 t']) a c' ∧ Below w5.heap.size w5 w6) := by
    refine Lib.hid (fun w5 b5 hb hi5 => ?_)
    have al := t_al w5 (Obj.cells #[ptr b5] 25)
    refine (ereplN_i (i := k) (j := k + 1) ((he.below hb).below al) (Es.one hi5) hn rfl (by omega) (by omega) (by show n + 1 ≤ _; omega) rfl (by omega)).mono ?_
    rintro e w6 ⟨a6, c6, rfl, he6, hb6⟩
    refine ⟨a6, c6, by show Ending.returned (.slice a6 (k + 1 + (n - (k + 1))) c6) = _; rw [show k + 1 + (n - (k + 1)) = n by omega], he6, al.trans (hb6.mono al.size)⟩
  have e0 : (0 : Int) ≤ (k : Int) := by omega
  have e1 : (k : Int) < (n : Int) := by omega
  have hwr : IntKind.i64.wrap ((k : Int) + 1) = (k : Int) + 1 := by rw [IntKind.wrap_i64]; omega
  have hrl := repl_one_len (x := mk1 t') h1
  have hnk := nth_repl_at h1 t'
  have hpr := pair_len h1 (by omega) hok.oks hot
  have hot2 := hot.len
  have HFD : Hid (flatL (h + 1) (delK ks k t') = flatL (h + 1) (replL ks k (k + 1) [mk1 t'])) := Lib.hid hdf
  have HDK : Hid (delK ks k t' = if t'.length < 3 then replL (replL ks k (k + 1) [mk1 t']) (k - 1) (k - 1 + 2) (pts (nth (replL ks k (k + 1) [mk1 t']) (k - 1) ++ nth (replL ks k (k + 1) [mk1 t']) (k - 1 + 1))) else replL ks k (k + 1) [mk1 t']) := Lib.hid rfl
  have hdl := hdo.len.2
  rw [hn] at hrl
  generalize hKS : replL ks k (k + 1) [mk1 t'] = KS at *
  generalize hDK : delK ks k t' = DK at *
  clear H hh he hin hfk hdf hdo hT hw hi hf h2 h3 IH0 hDK hKS
  have HRL := Lib.hid hrl
  have HNK := Lib.hid hnk
  have HPR := Lib.hid hpr
  have HOK := Lib.hid (And.intro hok hot)
  clear hrl hnk hpr hokk hok hot h1 hn
  go_enter Try.func79, Try.ntmps79
  go_wp2_with fail
  refine HL.out.mono ?_; rintro e w1 ⟨rfl, rfl⟩
  go_wp2_with fail
  refine HK.out.mono ?_; rintro e w1 ⟨rfl, rfl⟩
  go_upto_region 4 with fail
  have ld0 := fun w' (h : Below w.heap.size w w') => (h.cell (p := ⟨b, 0, none⟩) hbl).trans c0
  have ld1 := fun w' (h : Below w.heap.size w w') => (h.cell (p := ⟨g, o + k, none⟩) hgl).trans hcb
  have hb0 : Below w.heap.size w w.drew := (Below.refl _ _).drew
  clear c0 hcb HL HK
  go_region_held_law (fun w' => Below w.heap.size w w')
    (first | assumption | exact Below.alloc (by assumption) (Below.size (by assumption)) _)
    ((first
      | (go_at_call 79; refine (IH.out _ hb0).mono ?_; rintro e w5 ⟨b5, rfl, hi5, hb5⟩; have hs5 := hb0.trans (hb5.mono hb0.size); have HI5 := Lib.hid hi5; clear hb5 hi5)
      | (go_at_call 96; refine (HRp.out w5 b5 hs5 HI5.out).mono ?_; rintro e w6 ⟨a6, c6, rfl, he6, hb6⟩; have hs6 := hs5.trans (hb6.mono hs5.size); have HE6 := Lib.hid he6; clear hb6 he6)))
  all_goals
    have HS6 := Lib.hid hs6
    clear ld0 ld1 hs6 hs5 hb0 IH HRp
    obtain ⟨g6, o6, rfl, hg6⟩ := HE6.out.has (by rw [HRL.out]; omega)
    obtain ⟨b7, hc7, hi7⟩ := HE6.out.at (x := nth KS k) (nth_at (by rw [HRL.out]; exact hkn))
    rw [HNK.out] at hi7
    have HLw := Lib.hid (low_i hi7 (by omega))
    clear hi7
    go_wp2_with fail
    refine HLw.out.mono ?_; rintro e w7 ⟨rfl, hb7⟩
    have HB7 := Lib.hid (HS6.out.trans (hb7.mono HS6.out.size))
    have HE7 := Lib.hid (HE6.out.below hb7)
    have hg7 := Nat.lt_of_lt_of_le hg6 hb7.size
    clear hb7 HLw hc7
    by_cases hlow : t'.length < 3
    · have dl : decide (t'.length < 3) = true := decide_eq_true hlow
      have hdk := HDK.out
      rw [if_pos hlow] at hdk
      have HD2 := Lib.hid hdk
      obtain ⟨p1, p2, p3, p6, p7, p4, p5⟩ := HPR.out hlow
      rw [dl]
      obtain ⟨q, hq⟩ : ∃ q, k - 1 = q := ⟨_, rfl⟩
      have hwm : IntKind.i64.wrap ((k : Int) - 1) = (k : Int) - 1 := by rw [IntKind.wrap_i64]; omega
      have hmx : (if (k : Int) - 1 < 0 then (0 : Int) else (k : Int) - 1) = (q : Int) := by split <;> omega
      rw [hq] at p2 p3 p4 p5 p6 p7 hdk
      have hqn : q + 1 < n := by omega
      obtain ⟨b8, hc8, hi8⟩ := HE7.out.at (x := nth KS q) (nth_at (by rw [HRL.out]; omega))
      obtain ⟨b9, hc9, hi9⟩ := HE7.out.at (x := nth KS (q + 1)) (nth_at (by rw [HRL.out]; omega))
      have hpl : (nth KS q ++ nth KS (q + 1)).length = (nth KS q).length + (nth KS (q + 1)).length := List.length_append
      have hfl2 : (flatL h (nth KS q ++ nth KS (q + 1))).length ≤ 1000000 := by
        have h5 := nth_flat (ks := KS) (k := q) (by rw [HRL.out]; omega)
        have h6 := flat_split (ks := KS) (k := q) (by rw [HRL.out]; omega)
        have h7 := nth_at (ks := KS) (k := q + 1) (by rw [HRL.out]; omega)
        have h8 := (List.getElem?_eq_some_iff.1 h7).2
        have h9 : flatL (h + 1) (KS.drop (q + 1)) = flatL h (nth KS (q + 1)) ++ flatL (h + 1) (KS.drop (q + 2)) := by
          rw [List.drop_eq_getElem_cons (by rw [HRL.out]; omega), h8, flatL_cons]; rfl
        rw [HFD.out, h6, h9] at hfl
        rw [flatL_app]
        simp only [List.length_append] at hfl ⊢
        omega
      have HJ := Lib.hid (fun w' (hb : Below w7.heap.size w7 w') => join0_i (hi8.below hb) (hi9.below hb) (by omega) (by omega) (by omega) hfl2)
      have HRp2 : Hid (∀ w8 a8 c8, Below w7.heap.size w7 w8 → Es w8 95 (h + 1) (pts (nth KS q ++ nth KS (q + 1))) a8 c8 → Calls Try.prog 96 #[.slice (some ⟨g6, o6, none⟩) n c6, .int .i64 q, .int .i64 ((q : Int) + 2), .slice a8 (fewN (nth KS q ++ nth KS (q + 1)).length) c8] w8 fun e w9 => ∃ a c', e = .returned (.slice a DK.length c') ∧ Es w9 95 (h + 1) DK a c' ∧ Below w8.heap.size w8 w9) := by
        refine Lib.hid (fun w8 a8 c8 hb he8 => ?_)
        have hpn : (pts (nth KS q ++ nth KS (q + 1))).length = fewN (nth KS q ++ nth KS (q + 1)).length := pts_len _
        have hfw : fewN (nth KS q ++ nth KS (q + 1)).length ≤ 2 := by rw [hpl]; unfold fewN; omega
        refine (ereplN_i (i := q) (j := q + 2) (HE7.out.below hb) he8 HRL.out hpn (by omega) (by omega) (by omega) rfl (by omega)).mono ?_
        rintro e w9 ⟨a9, c9, rfl, he9, hb9⟩
        rw [← hdk] at he9
        have hdl9 : DK.length = q + fewN (nth KS q ++ nth KS (q + 1)).length + (n - (q + 2)) := by
          rw [hdk, replL_len _ _ (by omega) (by rw [HRL.out]; omega), hpn, HRL.out]
        exact ⟨a9, c9, by rw [hdl9], he9, hb9⟩
      have HAb := Lib.hid (fun w6 a6 c6 (he6 : Es w6 95 (h + 1) DK a6 c6) => eabove_i he6 rfl (by omega) hfl)
      have f0 : (0 : Int) ≤ (q : Int) := by omega
      have f1 : (q : Int) < (n : Int) := by omega
      have f2 : (0 : Int) ≤ (q : Int) + 1 := by omega
      have f3 : (q : Int) + 1 < (n : Int) := by omega
      have hw2 : IntKind.i64.wrap ((q : Int) + 2) = (q : Int) + 2 := by rw [IntKind.wrap_i64]; omega
      have hw1 : IntKind.i64.wrap ((q : Int) + 1) = (q : Int) + 1 := by rw [IntKind.wrap_i64]; omega
      obtain ⟨m, hm⟩ : ∃ m, fewN (nth KS q ++ nth KS (q + 1)).length = m := ⟨_, rfl⟩
      obtain ⟨dl9, hdl9⟩ : ∃ dl9, DK.length = dl9 := ⟨_, rfl⟩
      rw [hm] at HJ HRp2
      rw [hdl9] at HRp2 HAb
      clear hm hdk p1 p2 p3 p4 p5 p6 p7 hi8 hi9 hpl hfl2 dl HDK hdl9 hdl
      clear hfl
      go_upto_region 7 with fail
      have ld0 := fun w' (h : Below w7.heap.size w7 w') => (h.cell (p := ⟨g6, o6 + q, none⟩) hg7).trans hc8
      have ld1 := fun w' (h : Below w7.heap.size w7 w') => (h.cell (p := ⟨g6, o6 + (q + 1), none⟩) hg7).trans hc9
      have hb0 : Below w7.heap.size w7 w7.drew := (Below.refl _ _).drew
      clear hc8 hc9
      go_region_held_law (fun w' => Below w7.heap.size w7 w')
        (first | assumption)
        ((first
          | (go_at_call 59; refine (HJ.out _ hb0).mono ?_; rintro e w8 ⟨a8, c8, rfl, hi8, hb8⟩; have hs8 := hb0.trans (hb8.mono hb0.size); have HI8 := Lib.hid hi8; clear hb8 hi8)
          | (go_at_call 96; refine (HRp2.out w8 a8 c8 hs8 HI8.out).mono ?_; rintro e w9 ⟨a9, c9, rfl, he9, hb9⟩; have hs9 := hs8.trans (hb9.mono hs8.size); have HE9 := Lib.hid he9; clear hb9 he9)))
      all_goals
        have HS9 := Lib.hid (HB7.out.trans (hs9.mono HB7.out.size))
        clear ld0 ld1 hs9 hs8 hb0 HRp2 HJ
        have HA9 := Lib.hid (HAb.out w9 a9 c9 HE9.out)
        go_wp2_with fail
        refine HA9.out.mono ?_; rintro e wa ⟨ba, rfl, hia, hba⟩
        have HIa := Lib.hid hia
        have HBa := Lib.hid (HS9.out.trans (hba.mono HS9.out.size))
        clear hia hba
        go_wp2_with fail
        go_ret
        exact ⟨ba, rfl, HIa.out, HBa.out⟩
    · have dl : decide (t'.length < 3) = false := decide_eq_false hlow
      have hdk := HDK.out
      rw [if_neg hlow] at hdk
      rw [dl]
      have HA9 := Lib.hid (eabove_i HE7.out HRL.out (by omega) (by rw [← hdk]; exact hfl))
      have HD2 := Lib.hid hdk
      clear hdk dl HDK
      go_wp2_with fail
      refine HA9.out.mono ?_; rintro e wa ⟨ba, rfl, hia, hba⟩
      have HIa := Lib.hid hia
      have HBa := Lib.hid (HB7.out.trans (hba.mono HB7.out.size))
      clear hia hba
      go_wp2_with fail
      go_ret
      have hq := HIa.out
      rw [← HD2.out] at hq
      exact ⟨ba, rfl, hq, HBa.out⟩

theorem del_i : ∀ (h : Nat) {lo : Nat} {w : World} {t : List (El h)} {b : Nat} (i : Nat), In w 95 h t b → 1 ≤ lo → (h = 0 ∨ 2 ≤ lo) → Ok lo h t → i < (flatL h t).length → (flatL h t).length ≤ 100000 →
    Calls Try.prog 79 #[ptr b, .int .i64 i] w fun e w' => ∃ b', e = .returned (ptr b') ∧ In w' 95 h (delT h t i) b' ∧ Below w.heap.size w w'
  | 0, lo, w, t, b, i, H, hlo, h2, hok, hi, hf => del0_i i H (hok.wf hlo) hi hf
  | h + 1, lo, w, t, b, i, H, hlo, h2, hok, hi, hf => delS_i h (fun i => del_i h i) i H (by omega) hok hi hf

end Go.Proofs.Ytofncnommekbjaa
