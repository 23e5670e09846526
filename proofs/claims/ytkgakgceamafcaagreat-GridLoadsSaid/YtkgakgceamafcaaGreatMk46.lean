/-
  Texts of this seat, put together (a claim holds few texts): GeR.
-/
import Derived.Test.YtkgakgceamafcaaGreatMk45

namespace Go.Proofs.YtkgakgceamafcaaGreat
open Go Go.RowKit Go.Shelf
set_option linter.unusedVariables false

set_option maxRecDepth 100000 in
set_option maxHeartbeats 8000000 in
theorem gridLoads_walk (s : ByteArray) (w : World) (hs : s.size ≤ maxLen) :
    Calls Tryz.prog 3 #[.string s] w fun e w' => e = .returned (.bool true) ∧ Below w.heap.size w w' := by
  obtain ⟨b, eb, lb⟩ := str_cut11 s 4200
  obtain ⟨L, hL⟩ : ∃ L, b.length = L := ⟨_, rfl⟩
  rw [hL] at lb
  have HC1 := Lib.hid (cut11_of s 4200 w hs (by decide))
  rw [eb] at HC1
  obtain ⟨c1, W1, q1, hc1, hc2, r1, b1, z1⟩ := conv_str11 b w hL (by omega)
  have HLo := Lib.hid (gload_u r1 hL hc1 hc2)
  have HRL := Lib.hid (rload_u b (by omega))
  have B1 := Lib.hid b1
  have HLb := Lib.hid hL
  obtain ⟨K, hK⟩ : ∃ K, glEr b = K := ⟨_, rfl⟩
  rw [hK] at HLo HRL
  have HK := Lib.hid hK
  have hmix : Tryz.prog.follows .mixedOrders = true := by kernel_rfl
  clear r1 b1 z1 eb hL hK
  go_enter Tryz.func3, Tryz.ntmps3
  go_wp2_with fail
  refine HC1.out.mono ?_; rintro e w0 ⟨rfl, rfl⟩
  go_wp2_with fail
  refine HLo.out.mono ?_; rintro e w1 ⟨px, tl, en, p, l', N, Ls, Cs, B, rfl, hT, hN, hG, hA, hU, hb1⟩
  obtain ⟨wa, hwa, hba, hha⟩ : ∃ wa, w1.alloc (.cells #[.pointer px, .bool tl, .int .i64 en] 27) = wa ∧ Below w1.heap.size w1 wa ∧ wa.heap[w1.heap.size]? = some (.cells #[.pointer px, .bool tl, .int .i64 en] 27 (0, 0)) := ⟨_, rfl, t_al _ _, World.alloc_heap_new _ _⟩
  have hw1 := B1.out.trans (hb1.mono B1.out.size)
  have HP := Lib.hid (And.intro (hT.below hba) (And.intro hN (And.intro (hG.below hba) (And.intro (hA.below hba) (And.intro hU (And.intro hha (hw1.trans (hba.mono hw1.size))))))))
  have HRa := Lib.hid (HRL.out wa)
  clear hT hN hG hA hU hb1 hba hha hw1 q1 HC1 HLo HRL
  go_wp2_with fail
  clear hwa
  refine HRa.out.mono ?_; rintro e w2 ⟨ra, rk, n, td, ed, Es, Ns, B2, rfl, hR, hDg, hE, hV, hb2⟩
  clear HRa
  obtain ⟨wb, hwb, hbb, hhb⟩ : ∃ wb, w2.alloc (.cells #[.slice ra n rk, .bool td, .int .i64 ed] 35) = wb ∧ Below w2.heap.size w2 wb ∧ wb.heap[w2.heap.size]? = some (.cells #[.slice ra n rk, .bool td, .int .i64 ed] 35 (0, 0)) := ⟨_, rfl, t_al _ _, World.alloc_heap_new _ _⟩
  have hab : Below wa.heap.size wa wb := hb2.trans (hbb.mono hb2.size)
  have hRb := hR.below hbb
  have hDb := hDg.below hbb
  have FR : Hid (∀ wk, Below wb.heap.size wb wk → (wk.cell? ⟨w1.heap.size, 0, none⟩ = some (.pointer px) ∧ wk.cell? ⟨w1.heap.size, 1, none⟩ = some (.bool tl) ∧ wk.cell? ⟨w1.heap.size, 2, none⟩ = some (.int .i64 en) ∧ wk.cell? ⟨w2.heap.size, 0, none⟩ = some (.slice ra n rk) ∧ wk.cell? ⟨w2.heap.size, 1, none⟩ = some (.bool td) ∧ wk.cell? ⟨w2.heap.size, 2, none⟩ = some (.int .i64 ed)) ∧
      Hid (Tin wk 194 (.pointer px) (rws Ls)) ∧ Hid (GrIn wk l' Ls Cs) ∧ Hid (Ar wk B p l') ∧ Hid (Rd wk 3 ra n (cs3 (rws Es))) ∧ Hid (DgIn wk B2 Es Ns) ∧ Hid (Below w.heap.size w wk)) := Lib.hid (by
    intro wk hbk
    have hak := hab.trans (hbk.mono hab.size)
    have hA := (hak.block _ (lt_of_at HP.out.2.2.2.2.2.1)).trans HP.out.2.2.2.2.2.1
    have hB := (hbk.block _ (lt_of_at hhb)).trans hhb
    exact ⟨⟨(cell_at hA 0).trans rfl, (cell_at hA 1).trans rfl, (cell_at hA 2).trans rfl, (cell_at hB 0).trans rfl, (cell_at hB 1).trans rfl, (cell_at hB 2).trans rfl⟩, Lib.hid (HP.out.1.below hak), Lib.hid (HP.out.2.2.1.below hak), Lib.hid (HP.out.2.2.2.1.below hak), Lib.hid (hRb.below hbk), Lib.hid (hDb.below hbk), Lib.hid (HP.out.2.2.2.2.2.2.trans (hak.mono HP.out.2.2.2.2.2.2.size))⟩)
  have HQ := Lib.hid (And.intro HP.out.2.1 (And.intro HP.out.2.2.1.len (And.intro HP.out.2.2.2.2.1 (And.intro hV hE))))
  have HU := Lib.hid (HQ.out.2.2.1.use HQ.out.1 HQ.out.2.1)
  have HVu := Lib.hid hV.use
  clear hR hDg hE hV hb2 hbb hhb hab hRb hDb HP
  obtain ⟨⟨g0, g1, g2, h0, h1, h2⟩, HT, HG, HA, HR, HDg, HW⟩ := FR.out wb.drew (Below.refl _ wb).drew
  obtain ⟨⟨j0, j1, j2, i0, i1, i2⟩, _⟩ := FR.out wb (Below.refl _ _)
  have HPl := Lib.hid (gplain_of (tl := tl) (en := en) HT.out HG.out HA.out (by have := HU.out.2.1; omega) HQ.out.1 HU.out.1 (fun ms h => by have := HU.out.2.2.1 ms h; omega))
  have ARM : Hid (∀ w5 a5 c5 Ds, Below wb.drew.heap.size wb.drew w5 → Ds.length = N → w5.ownsRow wb.drew.heap.size 116 3 (.slice a5 N c5) N (cs3 (rws Ds)) → DgIn w5 wb.drew.heap.size Ds (Cs.map fun ms => ms.map (rc l')) → AsRows Ls Ds →
      (w5.cell? ⟨w2.heap.size, 0, none⟩ = some (.slice ra n rk) ∧ w5.cell? ⟨w2.heap.size, 1, none⟩ = some (.bool td) ∧ w5.cell? ⟨w2.heap.size, 2, none⟩ = some (.int .i64 ed)) ∧ Hid (Below wb.heap.size wb w5) ∧
      Hid (Calls Tryz.prog 12 #[.agg #[.slice a5 N c5, .bool tl, .int .i64 en], .agg #[.slice ra n rk, .bool td, .int .i64 ed]] w5 fun e' w' => e' = .returned (.bool true) ∧ Below w5.heap.size w5 w')) := Lib.hid (by
    intro w5 a5 c5 Ds hb5 hl ho hd has
    have hb05 : Below wb.heap.size wb w5 := (Below.refl _ wb).drew.trans hb5
    obtain ⟨⟨_, _, _, f0, f1, f2⟩, _, _, _, HR5, HD5, _⟩ := FR.out w5 hb05
    have hsm := rgsame_of (t := tl) (u := td) (e := en) (f := ed) (c := c5) (d := rk) (rd_own ho) HR5.out hd HD5.out hl HQ.out.2.2.2.2 (by have := HU.out.1; omega) (by have := HVu.out.1; omega) (fun M hM => by
      obtain ⟨ms, hms, rfl⟩ := List.mem_map.1 hM
      have := HU.out.2.2.1 ms hms
      rw [List.length_map]; omega) HVu.out.2
    rw [decide_eq_true (HQ.out.2.2.1.same HQ.out.1 HQ.out.2.1 HQ.out.2.2.2.1 HQ.out.2.2.2.2 hl has)] at hsm
    exact ⟨⟨f0, f1, f2⟩, Lib.hid hb05, Lib.hid hsm⟩)
  clear HR HDg HT HG HA
  go_upto_region 4 with fail
  clear hwb
  go_cut [36] from 22 to 35 (fun s36 wx => s36 = .bool false ∧ Below wb.heap.size wb wx)
  case first =>
    go_region_with (first
      | (go_at_call 13; refine HPl.out.mono ?_; rintro e w5 ⟨a5, c5, Ds, rfl, hl5, ho5, hd5, has5, hb5⟩; obtain ⟨⟨f0, f1, f2⟩, hB5, HSm⟩ := ARM.out w5 a5 c5 Ds hb5 hl5 ho5 hd5 has5; clear hl5 ho5 hd5 has5 hb5)
      | (go_at_call 12; refine HSm.out.mono ?_; rintro e w6 ⟨rfl, hb6⟩; have HB6 := Lib.hid (hB5.out.trans (hb6.mono hB5.out.size)); clear hb6))
    all_goals go_wp2_with fail
    all_goals go_meet
    all_goals exact ⟨rfl, HB6.out⟩
  case rest =>
    obtain ⟨rfl, hbc⟩ := hcut
    clear g0 g1 g2 h0 h1 h2 j0 j1 j2 i0 i1 i2 HPl ARM HVu
    obtain ⟨⟨g0, g1, g2, _, _, _⟩, HT, HG, HA, _, _, HW⟩ := FR.out wc hbc
    have HBc := Lib.hid hbc
    clear hbc
    have dK : (K != 0) = decide (K ≠ 0) := by by_cases h : K = 0 <;> simp [h]
    by_cases hK0 : K = 0
    · have hl' : l' = b := by
        rcases HQ.out.2.2.1 with ⟨h, _⟩ | ⟨_, h, _⟩
        · exact absurd (HK.out.trans hK0) h
        · exact h
      subst hl'
      have hsv := save_of (tl := tl) (en := en) HT.out HQ.out.1 (by have := HU.out.1; omega) HG.out HA.out (by have := HU.out.2.1; omega) (fun ms h => by have := HU.out.2.2.1 ms h; omega) (by rw [HU.out.2.2.2, HLb.out]; omega)
      rw [HU.out.2.2.2] at hsv
      have HS := Lib.hid (sv_str hsv L HLb.out (strOf l') rfl)
      have HAw := Lib.hid (fun w => awake11_of w)
      subst hK0
      clear hsv HT HG HA HW dK HQ HU HK
      go_wp2_with fail
      refine HS.out.mono ?_; rintro e w6 ⟨sa, sc, rfl, hs6, hb6⟩
      have HW6 := (FR.out w6 (HBc.out.trans (hb6.mono HBc.out.size))).2.2.2.2.2.2
      clear g0 g1 g2 HS hb6
      go_wp2_with fail
      refine (HAw.out _).mono ?_; rintro e w7 ⟨rfl, hb7⟩
      have HW7 := Lib.hid (HW6.out.trans (hb7.mono HW6.out.size))
      clear hb7 hs6
      go_wp2_with fail
      go_ret
      exact ⟨rfl, HW7.out⟩
    · obtain ⟨hl', hLs, hCs, hN0⟩ : l' = [] ∧ Ls = [] ∧ Cs = [] ∧ N = 0 := by
        rcases HQ.out.2.2.1 with ⟨_, h1, h2, h3, h4, _⟩ | ⟨h, _⟩
        · exact ⟨h1, h2, h3, h4⟩
        · exact absurd (HK.out.symm.trans h) hK0
      subst hl' hLs hCs hN0
      have hln := len_of HA.out
      have HLn := Lib.hid hln
      have HGl := Lib.hid (gln_of (n := 0) tl en HT.out rfl)
      have HAw := Lib.hid (fun w => awake11_of w)
      have HUs := Lib.hid HU.out.2.2.2
      clear hln HT HG HA HW HQ HU HK
      go_wp2_with fail
      refine HLn.out.mono ?_; rintro e w3 ⟨rfl, rfl⟩
      go_wp2_with fail
      refine HGl.out.mono ?_; rintro e w4 ⟨rfl, hb4⟩
      have HB4 := Lib.hid (HBc.out.trans (hb4.mono HBc.out.size))
      clear g0 g1 g2 hb4 HLn HGl
      obtain ⟨⟨g0, g1, g2, _, _, _⟩, HT, HG, HA, _, _, HW⟩ := FR.out w4 HB4.out
      have hsv := save_of (tl := tl) (en := en) (N := 0) HT.out rfl (by decide) HG.out HA.out (by decide) (fun ms h => (by cases h)) (by rw [HUs.out]; decide)
      rw [HUs.out] at hsv
      have HS := Lib.hid (sv_str hsv 0 rfl (strOf []) rfl)
      clear hsv HT HG HA HW
      go_wp2_with fail
      refine HS.out.mono ?_; rintro e w6 ⟨sa, sc, rfl, hs6, hb6⟩
      have HW6 := (FR.out w6 (HB4.out.trans (hb6.mono HB4.out.size))).2.2.2.2.2.2
      clear g0 g1 g2 HS hb6 hs6
      go_wp2_with fail
      refine (HAw.out _).mono ?_; rintro e w7 ⟨rfl, hb7⟩
      have HW7 := Lib.hid (HW6.out.trans (hb7.mono HW6.out.size))
      clear hb7
      go_wp2_with fail
      go_ret
      exact ⟨rfl, HW7.out⟩

end Go.Proofs.YtkgakgceamafcaaGreat
