/-
  The document's Print of a command without a register, at this seat's numbers.
-/
import Derived.Test.YtjmpokgdgnjojaaDoorGsB
namespace Go.Proofs.YtjmpokgdgnjojaaDoor
open Go Go.RowKit
set_option linter.unusedVariables false

attribute [-go_sem] Builtin.append_
set_option maxRecDepth 100000 in
set_option maxHeartbeats 64000000 in
theorem rprint_bare (c : Cm) (w : World) (hv : c.vb ≤ 9223372036854775807) (hrg : c.rg = 0) : Calls Tryd.prog 6 #[cmV c] w (KPost (prL c) w) := by
  have s0 : SpI w (w.alloc (cm2O c)) w.heap.size (.slice none 0 0) [] (cm2O c) := ⟨heap_alloc_new w _, t_nil _ _ _ _, t_al w _⟩
  have hz0 : (w.alloc (cm2O c)).heap.size = w.heap.size + 1 := by simp
  obtain ⟨d0, d1, d2, d3, d4⟩ := row2Cells s0.box
  have HVb := Lib.hid hv
  clear hv
  have z : (c.rg != 0) = false := by rw [hrg]; rfl
  have N0 : Hid (0 = (regL c).length) := Lib.hid (by unfold regL; rw [if_pos hrg]; rfl)
  have S0 := Lib.hid (s0.as (l' := regL c) (by unfold regL; rw [if_pos hrg]))
  clear s0 hrg
  by_cases hr : 0 ≤ c.ct ∧ c.ct ≤ 9999
  · have r1 : decide (c.ct < 0) = false := decide_eq_false (by omega)
    have r2 : decide (9999 < c.ct) = false := decide_eq_false (by omega)
    have HR := Lib.hid hr
    have HLs : Hid ((regL c).length ≤ 2 ∧ (cntL c).length ≤ 21 ∧ (opL c).length ≤ 1 ∧ (vbL c).length ≤ 2) := Lib.hid ⟨regL_len c, cntL_len c (by omega) (by omega), opL_len c, vbL_len c⟩
    have HSp := Lib.hid (spL_len c hr)
    clear hr
    go_enter Tryd.func6, Tryd.ntmps6
    go_wp2_with fail
    go_loopw [3, 4] (fun v3 v4 wr => ∃ (j : Nat) (a : Option Addr) (n k : Nat), v3 = .slice a n k ∧ v4 = .int .i64 (byJ j) ∧ j ≤ 4 ∧ n = (dgJ c j).length ∧ SpI w wr w.heap.size (.slice a n k) (dgJ c j) (cm2O c)) (fun _ v4 _ => (intOf v4).toNat)
    case atStart => exact ⟨0, _, _, _, rfl, rfl, by omega, N0.out, S0.out⟩
    case round =>
      obtain ⟨j, a, n, k, rfl, rfl, hj, hn, hs⟩ := hrel
      obtain ⟨g0, g1, g2, g3, g4⟩ := row2Cells hs.box
      have HS := Lib.hid hs
      have HNn := Lib.hid hn
      clear hs hn
      have hj4 : j = 0 ∨ j = 1 ∨ j = 2 ∨ j = 3 ∨ j = 4 := by omega
      rcases hj4 with rfl | rfl | rfl | rfl | rfl
      · skip
        have hdj : dgJ c 1 = dgJ c 0 ++ dgL c.ct 1000 := rfl
        have hby : byJ 0 = 1000 := rfl
        rw [hby]
        by_cases hd : 1000 ≤ c.ct
        · have x1 : decide (1000 ≤ c.ct) = true := decide_eq_true hd
          have hr := HR.out
          have q1 : (c.ct).tdiv 1000 = c.ct / 1000 := Int.tdiv_eq_ediv_of_nonneg (by omega)
          have q2 : wrap64 (c.ct / 1000) = c.ct / 1000 := by unfold wrap64; omega
          have q3 : (c.ct / 1000).tmod 10 = c.ct / 1000 % 10 := Int.tmod_eq_emod_of_nonneg (by omega)
          have q4 : wrap64 (48 + c.ct / 1000 % 10) = 48 + c.ct / 1000 % 10 := by unfold wrap64; omega
          obtain ⟨a1, n1, k1, W1, hr1, hn1, s1, kp1⟩ := HS.out.one (l' := dgJ c 1) (Nat.le_trans (dgJ_len c 0) (by omega)) rfl (by decide) (48 + c.ct / 1000 % 10) (by rw [hdj]; unfold dgL; rw [if_pos hd])
          obtain ⟨e0, e1, e2, e3, e4⟩ := row2Cells s1.box
          have S1 := Lib.hid s1
          have N1 := Lib.hid hn1
          clear kp1 s1 hn1
          clear hr hd hdj hby
          go_wp2_with fail
          go_roundw
          case rel => exact ⟨1, _, _, _, rfl, rfl, by omega, N1.out, S1.out⟩
          case measure => simp [intOf]
        · have x1 : decide (1000 ≤ c.ct) = false := decide_eq_false hd
          have hsame : dgJ c 1 = dgJ c 0 := by rw [hdj]; unfold dgL; rw [if_neg hd, List.append_nil]
          have HS2 := Lib.hid (HS.out.as hsame)
          have HN2 : Hid (n = _) := Lib.hid (HNn.out.trans (congrArg List.length hsame.symm))
          clear hd hdj hsame hby
          go_wp2_with fail
          go_roundw
          case rel => exact ⟨1, _, _, _, rfl, rfl, by omega, HN2.out, HS2.out⟩
          case measure => simp [intOf]
      · skip
        have hdj : dgJ c 2 = dgJ c 1 ++ dgL c.ct 100 := rfl
        have hby : byJ 1 = 100 := rfl
        rw [hby]
        by_cases hd : 100 ≤ c.ct
        · have x1 : decide (100 ≤ c.ct) = true := decide_eq_true hd
          have hr := HR.out
          have q1 : (c.ct).tdiv 100 = c.ct / 100 := Int.tdiv_eq_ediv_of_nonneg (by omega)
          have q2 : wrap64 (c.ct / 100) = c.ct / 100 := by unfold wrap64; omega
          have q3 : (c.ct / 100).tmod 10 = c.ct / 100 % 10 := Int.tmod_eq_emod_of_nonneg (by omega)
          have q4 : wrap64 (48 + c.ct / 100 % 10) = 48 + c.ct / 100 % 10 := by unfold wrap64; omega
          obtain ⟨a2, n2, k2, W2, hr2, hn2, s2, kp2⟩ := HS.out.one (l' := dgJ c 2) (Nat.le_trans (dgJ_len c 1) (by omega)) rfl (by decide) (48 + c.ct / 100 % 10) (by rw [hdj]; unfold dgL; rw [if_pos hd])
          obtain ⟨e0, e1, e2, e3, e4⟩ := row2Cells s2.box
          have S2 := Lib.hid s2
          have N2 := Lib.hid hn2
          clear kp2 s2 hn2
          clear hr hd hdj hby
          go_wp2_with fail
          go_roundw
          case rel => exact ⟨2, _, _, _, rfl, rfl, by omega, N2.out, S2.out⟩
          case measure => simp [intOf]
        · have x1 : decide (100 ≤ c.ct) = false := decide_eq_false hd
          have hsame : dgJ c 2 = dgJ c 1 := by rw [hdj]; unfold dgL; rw [if_neg hd, List.append_nil]
          have HS2 := Lib.hid (HS.out.as hsame)
          have HN2 : Hid (n = _) := Lib.hid (HNn.out.trans (congrArg List.length hsame.symm))
          clear hd hdj hsame hby
          go_wp2_with fail
          go_roundw
          case rel => exact ⟨2, _, _, _, rfl, rfl, by omega, HN2.out, HS2.out⟩
          case measure => simp [intOf]
      · skip
        have hdj : dgJ c 3 = dgJ c 2 ++ dgL c.ct 10 := rfl
        have hby : byJ 2 = 10 := rfl
        rw [hby]
        by_cases hd : 10 ≤ c.ct
        · have x1 : decide (10 ≤ c.ct) = true := decide_eq_true hd
          have hr := HR.out
          have q1 : (c.ct).tdiv 10 = c.ct / 10 := Int.tdiv_eq_ediv_of_nonneg (by omega)
          have q2 : wrap64 (c.ct / 10) = c.ct / 10 := by unfold wrap64; omega
          have q3 : (c.ct / 10).tmod 10 = c.ct / 10 % 10 := Int.tmod_eq_emod_of_nonneg (by omega)
          have q4 : wrap64 (48 + c.ct / 10 % 10) = 48 + c.ct / 10 % 10 := by unfold wrap64; omega
          obtain ⟨a3, n3, k3, W3, hr3, hn3, s3, kp3⟩ := HS.out.one (l' := dgJ c 3) (Nat.le_trans (dgJ_len c 2) (by omega)) rfl (by decide) (48 + c.ct / 10 % 10) (by rw [hdj]; unfold dgL; rw [if_pos hd])
          obtain ⟨e0, e1, e2, e3, e4⟩ := row2Cells s3.box
          have S3 := Lib.hid s3
          have N3 := Lib.hid hn3
          clear kp3 s3 hn3
          clear hr hd hdj hby
          go_wp2_with fail
          go_roundw
          case rel => exact ⟨3, _, _, _, rfl, rfl, by omega, N3.out, S3.out⟩
          case measure => simp [intOf]
        · have x1 : decide (10 ≤ c.ct) = false := decide_eq_false hd
          have hsame : dgJ c 3 = dgJ c 2 := by rw [hdj]; unfold dgL; rw [if_neg hd, List.append_nil]
          have HS2 := Lib.hid (HS.out.as hsame)
          have HN2 : Hid (n = _) := Lib.hid (HNn.out.trans (congrArg List.length hsame.symm))
          clear hd hdj hsame hby
          go_wp2_with fail
          go_roundw
          case rel => exact ⟨3, _, _, _, rfl, rfl, by omega, HN2.out, HS2.out⟩
          case measure => simp [intOf]
      · skip
        have hdj : dgJ c 4 = dgJ c 3 ++ dgL c.ct 1 := rfl
        have hby : byJ 3 = 1 := rfl
        rw [hby]
        by_cases hd : 1 ≤ c.ct
        · have x1 : decide (1 ≤ c.ct) = true := decide_eq_true hd
          have hr := HR.out
          have q1 : (c.ct).tdiv 1 = c.ct / 1 := Int.tdiv_eq_ediv_of_nonneg (by omega)
          have q2 : wrap64 (c.ct / 1) = c.ct / 1 := by unfold wrap64; omega
          have q3 : (c.ct / 1).tmod 10 = c.ct / 1 % 10 := Int.tmod_eq_emod_of_nonneg (by omega)
          have q4 : wrap64 (48 + c.ct / 1 % 10) = 48 + c.ct / 1 % 10 := by unfold wrap64; omega
          rw [show c.ct / 1 = c.ct by omega] at q1 q2 q3 q4
          obtain ⟨a4, n4, k4, W4, hr4, hn4, s4, kp4⟩ := HS.out.one (l' := dgJ c 4) (Nat.le_trans (dgJ_len c 3) (by omega)) rfl (by decide) (48 + c.ct % 10) (by rw [hdj]; unfold dgL; rw [if_pos hd]; rw [show c.ct / 1 = c.ct by omega])
          obtain ⟨e0, e1, e2, e3, e4⟩ := row2Cells s4.box
          have S4 := Lib.hid s4
          have N4 := Lib.hid hn4
          clear kp4 s4 hn4
          clear hr hd hdj hby
          go_wp2_with fail
          go_roundw
          case rel => exact ⟨4, _, _, _, rfl, rfl, by omega, N4.out, S4.out⟩
          case measure => simp [intOf]
        · have x1 : decide (1 ≤ c.ct) = false := decide_eq_false hd
          have hsame : dgJ c 4 = dgJ c 3 := by rw [hdj]; unfold dgL; rw [if_neg hd, List.append_nil]
          have HS2 := Lib.hid (HS.out.as hsame)
          have HN2 : Hid (n = _) := Lib.hid (HNn.out.trans (congrArg List.length hsame.symm))
          clear hd hdj hsame hby
          go_wp2_with fail
          go_roundw
          case rel => exact ⟨4, _, _, _, rfl, rfl, by omega, HN2.out, HS2.out⟩
          case measure => simp [intOf]
      · skip
        have hall := dgJ_all HR.out
        have hby : byJ 4 = 0 := rfl
        rw [hby]
        rw [hall] at HS HNn
        clear hall hby
        by_cases hop : c.op = 0
        · have z3 : (c.op != 0) = false := by rw [hop]; rfl
          have S5 := Lib.hid (HS.out.as (l' := regL c ++ cntL c ++ opL c) (by unfold opL; rw [if_pos hop, List.append_nil]))
          clear hop
          by_cases hvb : c.vb < 256
          · have z4 : decide (256 ≤ c.vb) = false := decide_eq_false (by omega)
            obtain ⟨a6, n6, k6, W6, hr6, hn6, s6, kp6⟩ := S5.out.one (l' := regL c ++ cntL c ++ opL c ++ vbL c) (by have := HLs.out; simp only [List.length_append]; omega) rfl (by decide) c.vb (by unfold vbL; rw [if_pos hvb])
            obtain ⟨e0, e1, e2, e3, e4⟩ := row2Cells s6.box
            have S6 := Lib.hid s6
            have N6 := Lib.hid hn6
            clear kp6 s6 hn6
            clear hvb
            by_cases hch : c.ch = 0
            · have z5 : (c.ch != 0) = false := by rw [hch]; rfl
              have SE := Lib.hid (S6.out.as (l' := spL c) (by unfold spL chL; rw [if_pos hch, List.append_nil]))
              have NE : Hid (n6 = (spL c).length) := Lib.hid (N6.out.trans (by unfold spL chL; rw [if_pos hch, List.append_nil]))
              clear hch
              go_wp2_with fail
              go_loopw [5] (fun v5 wr => ∃ j : Nat, v5 = .int .i64 j ∧ 1 ≤ j ∧ j ≤ n6 + 1 ∧ SpI w wr w.heap.size (.slice a6 n6 k6) (spL c) (cm2O c) ∧ Fnd c j) (fun v5 _ => n6 + 1 - (intOf v5).toNat)
              case atStart => exact ⟨1, rfl, Nat.le_refl _, by omega, SE.out, Fnd.first c⟩
              case round =>
                try clear q1 q2 q3
                obtain ⟨j, rfl, hj1, hj2, hs, hf⟩ := hrel
                have HSj := Lib.hid hs
                have HF := Lib.hid hf
                have hsl : Sl wr a6 k6 (nums (spL c)) := gm_own_sl (by have := hs.ow; rw [← NE.out] at this; exact this) (gm_nums_one _)
                have hcap : n6 ≤ k6 := by have := hsl.cap; rw [nums_len, ← NE.out] at this; exact this
                have hcapm := hsl.capm
                unfold maxLen at hcapm
                have hnb : n6 ≤ 30 := by rw [NE.out]; exact HSp.out
                have hpos : 0 < n6 := by rw [NE.out]; exact List.length_pos_iff.2 (spL_ne c)
                obtain ⟨ga, oa, hform⟩ := hsl.numsome (by rw [← NE.out]; exact hpos)
                by_cases hle : j ≤ n6
                · have dl : decide ((j : Int) ≤ (n6 : Int)) = true := decide_eq_true (by omega)
                  have htk : ((spL c).take j).length = j := by rw [List.length_take, ← NE.out]; omega
                  have hRd : Calls Tryd.prog 13 #[.slice a6 ((spL c).take j).length k6, .bool false, .bool false] wr (RdP wr a6 k6 ((spL c).take j) 0 false) := read_all (hsl.sq.take j) 0 false
                  unfold RdP at hRd
                  rw [htk] at hRd
                  have HRd := Lib.hid hRd
                  have HLe : Hid (j ≤ (spL c).length) := Lib.hid (by rw [← NE.out]; exact hle)
                  have e0 : (0 : Int) ≤ (j : Int) := by omega
                  have e1 : (j : Int) ≤ (k6 : Int) := by omega
                  subst hform
                  clear hRd hsl hs hf htk
                  go_wp2_with fail
                  refine HRd.out.mono ?_; rintro e w6 ⟨⟨C6, m6, er6⟩, i6, hag, rfl, b6⟩
                  have s7 := (HSj.out.below b6).below (t_al w6 (rgO (some ⟨ga, oa, none⟩) j k6 i6 C6 m6 er6))
                  obtain ⟨q0, q1, q2, q3, q4, q5, q6, q7, q8⟩ := rgCells (heap_alloc_new w6 (rgO (some ⟨ga, oa, none⟩) j k6 i6 C6 m6 er6))
                  obtain ⟨y0, y1, y2, y3, y4⟩ := row2Cells s7.box
                  have HS7 := Lib.hid s7
                  have hwhat := rg_what hag
                  simp only at hwhat
                  clear s7 HRd
                  rcases hwhat with rfl | rfl | rfl
                  · have HFm := Lib.hid (HF.out.more hj1 HLe.out hag rfl)
                    clear hag
                    go_wp2_with fail
                    go_roundw
                    case rel => exact ⟨j + 1, by go_num, by omega, by omega, HS7.out, HFm.out⟩
                    case measure => simp [intOf]; omega
                  · by_cases hjn : j < n6
                    · have dn : decide ((j : Int) < (n6 : Int)) = true := decide_eq_true (by omega)
                      have HPr := Lib.hid (not_early hj1 (by rw [← NE.out]; exact hjn) hag rfl)
                      clear hag
                      go_wp2_with fail
                      go_ret
                      exact KPost.none HPr.out HS7.out.low
                    · have dn : decide ((j : Int) < (n6 : Int)) = false := decide_eq_false (by omega)
                      have hjl : j = (spL c).length := by rw [← NE.out]; omega
                      cases hcm : cmEq C6 c
                      · have HPr := Lib.hid (not_other hjl hag rfl (fun h => by have h : C6 = c := h; rw [h, cmEq_refl] at hcm; cases hcm))
                        have HNe := Lib.hid (cm_not2 hcm)
                        have HLw := Lib.hid (HSj.out.below b6).low
                        clear hag hjl hcm
                        go_wp2_with fail
                        all_goals first
                          | exact absurd ⟨‹C6.op = c.op›, ‹C6.vb = c.vb›, ‹C6.ct = c.ct›, ‹C6.rg = c.rg›, ‹C6.ch = c.ch›⟩ HNe.out
                          | (go_ret; exact KPost.none HPr.out (HLw.out.trans ((t_al w6 _).mono HLw.out.size)))
                      · have hce := cmEq_eq hcm
                        subst hce
                        have HFm := Lib.hid (HF.out.made hjl hag rfl rfl)
                        clear hag hjl hcm
                        go_wp2_with fail
                        go_roundw
                        case rel => exact ⟨j + 1, by go_num, by omega, by omega, HS7.out, HFm.out⟩
                        case measure => simp [intOf]; omega
                  · have HPr := Lib.hid (not_two hj1 HLe.out hag rfl)
                    clear hag
                    go_wp2_with fail
                    go_ret
                    exact KPost.none HPr.out HS7.out.low
                · have dl : decide ((j : Int) ≤ (n6 : Int)) = false := decide_eq_false (by omega)
                  have hjn : j = (spL c).length + 1 := by rw [← NE.out]; omega
                  have hRd : Calls Tryd.prog 13 #[.slice a6 (spL c).length k6, .bool false, .bool false] wr (RdP wr a6 k6 (spL c) 0 false) := read_all hsl.sq 0 false
                  unfold RdP at hRd
                  rw [← NE.out] at hRd
                  have HRd := Lib.hid hRd
                  rw [hjn] at hf
                  have HF2 := Lib.hid hf
                  subst hform
                  have dl2 : decide (j ≤ n6) = false := decide_eq_false hle
                  have hgt : n6 < j := by omega
                  clear hRd hsl hs hf hjn hj1 hj2 HF
                  go_wp2_with fail
                  refine HRd.out.mono ?_; rintro e w6 ⟨⟨C6, m6, er6⟩, i6, hag, rfl, b6⟩
                  have s6 := HSj.out.below b6
                  have HS7 := Lib.hid s6
                  have hfd := rg_field (some ⟨ga, oa, none⟩) n6 k6 i6 C6 m6 er6
                  by_cases hm : m6 = 1
                  · subst hm
                    have HD := Lib.hid (HF2.out.dcd hag rfl)
                    clear hag s6 b6 HRd
                    go_wp2_with fail
                    go_loopw [111] (fun v111 wr => ∃ t : Nat, v111 = .int .i64 t ∧ t ≤ n6 ∧ SpI w wr w.heap.size (.slice (some ⟨ga, oa, none⟩) n6 k6) (spL c) (cm2O c) ∧ ∀ u, u < t → (spL c)[u]? ≠ some 27) (fun v111 _ => n6 - (intOf v111).toNat)
                    case atStart => exact ⟨0, rfl, Nat.zero_le _, HS7.out, fun u h => absurd h (by omega)⟩
                    case round =>
                      obtain ⟨t, rfl, ht, hs, hno⟩ := hrel
                      have HSt := Lib.hid hs
                      have hsl : Sl _ (some ⟨ga, oa, none⟩) k6 (nums (spL c)) := gm_own_sl (by have := hs.ow; rw [← NE.out] at this; exact this) (gm_nums_one _)
                      by_cases hlt : t < n6
                      · have dt : decide ((t : Int) < (n6 : Int)) = true := decide_eq_true (by omega)
                        obtain ⟨x, hx⟩ : ∃ x, (spL c)[t]? = some x := ⟨_, List.getElem?_eq_getElem (by rw [← NE.out]; exact hlt)⟩
                        have c0 := (hsl.num hx).1
                        have e0 : (0 : Int) ≤ (t : Int) := by omega
                        have e1 : (t : Int) < (n6 : Int) := by omega
                        by_cases h27 : x = 27
                        · have z27 : (x == 27) = true := by rw [h27]; rfl
                          have HPr := Lib.hid (not_27 (c := c) (by rw [← h27]; exact List.mem_of_getElem? hx))
                          clear hx hno hs hsl h27
                          go_wp2_with fail
                          go_ret
                          exact KPost.none HPr.out HSt.out.low
                        · have z27 : (x == 27) = false := beq_eq_false_iff_ne.2 h27
                          have HNo : Hid (∀ u, u < t + 1 → (spL c)[u]? ≠ some 27) := Lib.hid fun u hu => by
                            rcases Nat.lt_or_ge u t with h | h
                            · exact hno u h
                            · obtain rfl : u = t := by omega
                              rw [hx]; exact fun e => h27 (Option.some.inj e)
                          clear hx hno hs hsl h27
                          go_wp2_with fail
                          go_roundw
                          case rel => exact ⟨t + 1, by go_num, by omega, HSt.out, HNo.out⟩
                          case measure => simp [intOf]; omega
                      · have dt : decide ((t : Int) < (n6 : Int)) = false := decide_eq_false (by omega)
                        have hall : (27 : Int) ∉ spL c := fun h => by
                          obtain ⟨u, hu, he⟩ := List.getElem_of_mem h
                          exact hno u (by rw [← NE.out] at hu; omega) (by rw [List.getElem?_eq_getElem hu, he])
                        have HPr := Lib.hid (prL_doc c ⟨HR.out, HD.out, hall⟩)
                        have HSl := Lib.hid hsl
                        clear hall hno hs hsl
                        go_wp2_with fail
                        go_ret
                        exact KPost.all HPr.out NE.out HSl.out HSt.out.low
                  · have zm : (m6 != 1) = true := bne_iff_ne.2 hm
                    have HPr := Lib.hid (not_last hag hm)
                    clear hag s6 b6 HRd
                    go_wp2_with fail
                    go_ret
                    exact KPost.none HPr.out HS7.out.low
            · have z5 : (c.ch != 0) = true := bne_iff_ne.2 hch
              obtain ⟨a7, n7, k7, W7, hr7, hn7, s7, kp7⟩ := S6.out.one (l' := spL c) (by have := HLs.out; simp only [List.length_append]; omega) rfl (by decide) c.ch (by unfold spL chL; rw [if_neg hch])
              obtain ⟨e0, e1, e2, e3, e4⟩ := row2Cells s7.box
              have S7 := Lib.hid s7
              have N7 := Lib.hid hn7
              clear kp7 s7 hn7
              clear hch
              go_wp2_with fail
              go_loopw [5] (fun v5 wr => ∃ j : Nat, v5 = .int .i64 j ∧ 1 ≤ j ∧ j ≤ n7 + 1 ∧ SpI w wr w.heap.size (.slice a7 n7 k7) (spL c) (cm2O c) ∧ Fnd c j) (fun v5 _ => n7 + 1 - (intOf v5).toNat)
              case atStart => exact ⟨1, rfl, Nat.le_refl _, by omega, S7.out, Fnd.first c⟩
              case round =>
                try clear q1 q2 q3
                obtain ⟨j, rfl, hj1, hj2, hs, hf⟩ := hrel
                have HSj := Lib.hid hs
                have HF := Lib.hid hf
                have hsl : Sl wr a7 k7 (nums (spL c)) := gm_own_sl (by have := hs.ow; rw [← N7.out] at this; exact this) (gm_nums_one _)
                have hcap : n7 ≤ k7 := by have := hsl.cap; rw [nums_len, ← N7.out] at this; exact this
                have hcapm := hsl.capm
                unfold maxLen at hcapm
                have hnb : n7 ≤ 30 := by rw [N7.out]; exact HSp.out
                have hpos : 0 < n7 := by rw [N7.out]; exact List.length_pos_iff.2 (spL_ne c)
                obtain ⟨ga, oa, hform⟩ := hsl.numsome (by rw [← N7.out]; exact hpos)
                by_cases hle : j ≤ n7
                · have dl : decide ((j : Int) ≤ (n7 : Int)) = true := decide_eq_true (by omega)
                  have htk : ((spL c).take j).length = j := by rw [List.length_take, ← N7.out]; omega
                  have hRd : Calls Tryd.prog 13 #[.slice a7 ((spL c).take j).length k7, .bool false, .bool false] wr (RdP wr a7 k7 ((spL c).take j) 0 false) := read_all (hsl.sq.take j) 0 false
                  unfold RdP at hRd
                  rw [htk] at hRd
                  have HRd := Lib.hid hRd
                  have HLe : Hid (j ≤ (spL c).length) := Lib.hid (by rw [← N7.out]; exact hle)
                  have e0 : (0 : Int) ≤ (j : Int) := by omega
                  have e1 : (j : Int) ≤ (k7 : Int) := by omega
                  subst hform
                  clear hRd hsl hs hf htk
                  go_wp2_with fail
                  refine HRd.out.mono ?_; rintro e w6 ⟨⟨C6, m6, er6⟩, i6, hag, rfl, b6⟩
                  have s7 := (HSj.out.below b6).below (t_al w6 (rgO (some ⟨ga, oa, none⟩) j k7 i6 C6 m6 er6))
                  obtain ⟨q0, q1, q2, q3, q4, q5, q6, q7, q8⟩ := rgCells (heap_alloc_new w6 (rgO (some ⟨ga, oa, none⟩) j k7 i6 C6 m6 er6))
                  obtain ⟨y0, y1, y2, y3, y4⟩ := row2Cells s7.box
                  have HS7 := Lib.hid s7
                  have hwhat := rg_what hag
                  simp only at hwhat
                  clear s7 HRd
                  rcases hwhat with rfl | rfl | rfl
                  · have HFm := Lib.hid (HF.out.more hj1 HLe.out hag rfl)
                    clear hag
                    go_wp2_with fail
                    go_roundw
                    case rel => exact ⟨j + 1, by go_num, by omega, by omega, HS7.out, HFm.out⟩
                    case measure => simp [intOf]; omega
                  · by_cases hjn : j < n7
                    · have dn : decide ((j : Int) < (n7 : Int)) = true := decide_eq_true (by omega)
                      have HPr := Lib.hid (not_early hj1 (by rw [← N7.out]; exact hjn) hag rfl)
                      clear hag
                      go_wp2_with fail
                      go_ret
                      exact KPost.none HPr.out HS7.out.low
                    · have dn : decide ((j : Int) < (n7 : Int)) = false := decide_eq_false (by omega)
                      have hjl : j = (spL c).length := by rw [← N7.out]; omega
                      cases hcm : cmEq C6 c
                      · have HPr := Lib.hid (not_other hjl hag rfl (fun h => by have h : C6 = c := h; rw [h, cmEq_refl] at hcm; cases hcm))
                        have HNe := Lib.hid (cm_not2 hcm)
                        have HLw := Lib.hid (HSj.out.below b6).low
                        clear hag hjl hcm
                        go_wp2_with fail
                        all_goals first
                          | exact absurd ⟨‹C6.op = c.op›, ‹C6.vb = c.vb›, ‹C6.ct = c.ct›, ‹C6.rg = c.rg›, ‹C6.ch = c.ch›⟩ HNe.out
                          | (go_ret; exact KPost.none HPr.out (HLw.out.trans ((t_al w6 _).mono HLw.out.size)))
                      · have hce := cmEq_eq hcm
                        subst hce
                        have HFm := Lib.hid (HF.out.made hjl hag rfl rfl)
                        clear hag hjl hcm
                        go_wp2_with fail
                        go_roundw
                        case rel => exact ⟨j + 1, by go_num, by omega, by omega, HS7.out, HFm.out⟩
                        case measure => simp [intOf]; omega
                  · have HPr := Lib.hid (not_two hj1 HLe.out hag rfl)
                    clear hag
                    go_wp2_with fail
                    go_ret
                    exact KPost.none HPr.out HS7.out.low
                · have dl : decide ((j : Int) ≤ (n7 : Int)) = false := decide_eq_false (by omega)
                  have hjn : j = (spL c).length + 1 := by rw [← N7.out]; omega
                  have hRd : Calls Tryd.prog 13 #[.slice a7 (spL c).length k7, .bool false, .bool false] wr (RdP wr a7 k7 (spL c) 0 false) := read_all hsl.sq 0 false
                  unfold RdP at hRd
                  rw [← N7.out] at hRd
                  have HRd := Lib.hid hRd
                  rw [hjn] at hf
                  have HF2 := Lib.hid hf
                  subst hform
                  have dl2 : decide (j ≤ n7) = false := decide_eq_false hle
                  have hgt : n7 < j := by omega
                  clear hRd hsl hs hf hjn hj1 hj2 HF
                  go_wp2_with fail
                  refine HRd.out.mono ?_; rintro e w6 ⟨⟨C6, m6, er6⟩, i6, hag, rfl, b6⟩
                  have s6 := HSj.out.below b6
                  have HS7 := Lib.hid s6
                  have hfd := rg_field (some ⟨ga, oa, none⟩) n7 k7 i6 C6 m6 er6
                  by_cases hm : m6 = 1
                  · subst hm
                    have HD := Lib.hid (HF2.out.dcd hag rfl)
                    clear hag s6 b6 HRd
                    go_wp2_with fail
                    go_loopw [111] (fun v111 wr => ∃ t : Nat, v111 = .int .i64 t ∧ t ≤ n7 ∧ SpI w wr w.heap.size (.slice (some ⟨ga, oa, none⟩) n7 k7) (spL c) (cm2O c) ∧ ∀ u, u < t → (spL c)[u]? ≠ some 27) (fun v111 _ => n7 - (intOf v111).toNat)
                    case atStart => exact ⟨0, rfl, Nat.zero_le _, HS7.out, fun u h => absurd h (by omega)⟩
                    case round =>
                      obtain ⟨t, rfl, ht, hs, hno⟩ := hrel
                      have HSt := Lib.hid hs
                      have hsl : Sl _ (some ⟨ga, oa, none⟩) k7 (nums (spL c)) := gm_own_sl (by have := hs.ow; rw [← N7.out] at this; exact this) (gm_nums_one _)
                      by_cases hlt : t < n7
                      · have dt : decide ((t : Int) < (n7 : Int)) = true := decide_eq_true (by omega)
                        obtain ⟨x, hx⟩ : ∃ x, (spL c)[t]? = some x := ⟨_, List.getElem?_eq_getElem (by rw [← N7.out]; exact hlt)⟩
                        have c0 := (hsl.num hx).1
                        have e0 : (0 : Int) ≤ (t : Int) := by omega
                        have e1 : (t : Int) < (n7 : Int) := by omega
                        by_cases h27 : x = 27
                        · have z27 : (x == 27) = true := by rw [h27]; rfl
                          have HPr := Lib.hid (not_27 (c := c) (by rw [← h27]; exact List.mem_of_getElem? hx))
                          clear hx hno hs hsl h27
                          go_wp2_with fail
                          go_ret
                          exact KPost.none HPr.out HSt.out.low
                        · have z27 : (x == 27) = false := beq_eq_false_iff_ne.2 h27
                          have HNo : Hid (∀ u, u < t + 1 → (spL c)[u]? ≠ some 27) := Lib.hid fun u hu => by
                            rcases Nat.lt_or_ge u t with h | h
                            · exact hno u h
                            · obtain rfl : u = t := by omega
                              rw [hx]; exact fun e => h27 (Option.some.inj e)
                          clear hx hno hs hsl h27
                          go_wp2_with fail
                          go_roundw
                          case rel => exact ⟨t + 1, by go_num, by omega, HSt.out, HNo.out⟩
                          case measure => simp [intOf]; omega
                      · have dt : decide ((t : Int) < (n7 : Int)) = false := decide_eq_false (by omega)
                        have hall : (27 : Int) ∉ spL c := fun h => by
                          obtain ⟨u, hu, he⟩ := List.getElem_of_mem h
                          exact hno u (by rw [← N7.out] at hu; omega) (by rw [List.getElem?_eq_getElem hu, he])
                        have HPr := Lib.hid (prL_doc c ⟨HR.out, HD.out, hall⟩)
                        have HSl := Lib.hid hsl
                        clear hall hno hs hsl
                        go_wp2_with fail
                        go_ret
                        exact KPost.all HPr.out N7.out HSl.out HSt.out.low
                  · have zm : (m6 != 1) = true := bne_iff_ne.2 hm
                    have HPr := Lib.hid (not_last hag hm)
                    clear hag s6 b6 HRd
                    go_wp2_with fail
                    go_ret
                    exact KPost.none HPr.out HS7.out.low
          · have z4 : decide (256 ≤ c.vb) = true := decide_eq_true (by omega)
            have q1 : (c.vb).tdiv 256 = c.vb / 256 := Int.tdiv_eq_ediv_of_nonneg (by omega)
            have q3 : wrap64 (c.vb / 256) = c.vb / 256 := by have := HVb.out; unfold wrap64; omega
            have q2 : (c.vb).tmod 256 = c.vb % 256 := Int.tmod_eq_emod_of_nonneg (by omega)
            obtain ⟨a8, n8, k8, W8, hr8, hn8, s8, kp8⟩ := S5.out.two (l' := regL c ++ cntL c ++ opL c ++ vbL c) (by have := HLs.out; simp only [List.length_append]; omega) rfl (by decide) (c.vb / 256) (c.vb % 256) (by unfold vbL; rw [if_neg hvb])
            obtain ⟨e0, e1, e2, e3, e4⟩ := row2Cells s8.box
            have S8 := Lib.hid s8
            have N8 := Lib.hid hn8
            clear kp8 s8 hn8
            clear hvb
            by_cases hch : c.ch = 0
            · have z5 : (c.ch != 0) = false := by rw [hch]; rfl
              have SE := Lib.hid (S8.out.as (l' := spL c) (by unfold spL chL; rw [if_pos hch, List.append_nil]))
              have NE : Hid (n8 = (spL c).length) := Lib.hid (N8.out.trans (by unfold spL chL; rw [if_pos hch, List.append_nil]))
              clear hch
              go_wp2_with fail
              go_loopw [5] (fun v5 wr => ∃ j : Nat, v5 = .int .i64 j ∧ 1 ≤ j ∧ j ≤ n8 + 1 ∧ SpI w wr w.heap.size (.slice a8 n8 k8) (spL c) (cm2O c) ∧ Fnd c j) (fun v5 _ => n8 + 1 - (intOf v5).toNat)
              case atStart => exact ⟨1, rfl, Nat.le_refl _, by omega, SE.out, Fnd.first c⟩
              case round =>
                try clear q1 q2 q3
                obtain ⟨j, rfl, hj1, hj2, hs, hf⟩ := hrel
                have HSj := Lib.hid hs
                have HF := Lib.hid hf
                have hsl : Sl wr a8 k8 (nums (spL c)) := gm_own_sl (by have := hs.ow; rw [← NE.out] at this; exact this) (gm_nums_one _)
                have hcap : n8 ≤ k8 := by have := hsl.cap; rw [nums_len, ← NE.out] at this; exact this
                have hcapm := hsl.capm
                unfold maxLen at hcapm
                have hnb : n8 ≤ 30 := by rw [NE.out]; exact HSp.out
                have hpos : 0 < n8 := by rw [NE.out]; exact List.length_pos_iff.2 (spL_ne c)
                obtain ⟨ga, oa, hform⟩ := hsl.numsome (by rw [← NE.out]; exact hpos)
                by_cases hle : j ≤ n8
                · have dl : decide ((j : Int) ≤ (n8 : Int)) = true := decide_eq_true (by omega)
                  have htk : ((spL c).take j).length = j := by rw [List.length_take, ← NE.out]; omega
                  have hRd : Calls Tryd.prog 13 #[.slice a8 ((spL c).take j).length k8, .bool false, .bool false] wr (RdP wr a8 k8 ((spL c).take j) 0 false) := read_all (hsl.sq.take j) 0 false
                  unfold RdP at hRd
                  rw [htk] at hRd
                  have HRd := Lib.hid hRd
                  have HLe : Hid (j ≤ (spL c).length) := Lib.hid (by rw [← NE.out]; exact hle)
                  have e0 : (0 : Int) ≤ (j : Int) := by omega
                  have e1 : (j : Int) ≤ (k8 : Int) := by omega
                  subst hform
                  clear hRd hsl hs hf htk
                  go_wp2_with fail
                  refine HRd.out.mono ?_; rintro e w6 ⟨⟨C6, m6, er6⟩, i6, hag, rfl, b6⟩
                  have s7 := (HSj.out.below b6).below (t_al w6 (rgO (some ⟨ga, oa, none⟩) j k8 i6 C6 m6 er6))
                  obtain ⟨q0, q1, q2, q3, q4, q5, q6, q7, q8⟩ := rgCells (heap_alloc_new w6 (rgO (some ⟨ga, oa, none⟩) j k8 i6 C6 m6 er6))
                  obtain ⟨y0, y1, y2, y3, y4⟩ := row2Cells s7.box
                  have HS7 := Lib.hid s7
                  have hwhat := rg_what hag
                  simp only at hwhat
                  clear s7 HRd
                  rcases hwhat with rfl | rfl | rfl
                  · have HFm := Lib.hid (HF.out.more hj1 HLe.out hag rfl)
                    clear hag
                    go_wp2_with fail
                    go_roundw
                    case rel => exact ⟨j + 1, by go_num, by omega, by omega, HS7.out, HFm.out⟩
                    case measure => simp [intOf]; omega
                  · by_cases hjn : j < n8
                    · have dn : decide ((j : Int) < (n8 : Int)) = true := decide_eq_true (by omega)
                      have HPr := Lib.hid (not_early hj1 (by rw [← NE.out]; exact hjn) hag rfl)
                      clear hag
                      go_wp2_with fail
                      go_ret
                      exact KPost.none HPr.out HS7.out.low
                    · have dn : decide ((j : Int) < (n8 : Int)) = false := decide_eq_false (by omega)
                      have hjl : j = (spL c).length := by rw [← NE.out]; omega
                      cases hcm : cmEq C6 c
                      · have HPr := Lib.hid (not_other hjl hag rfl (fun h => by have h : C6 = c := h; rw [h, cmEq_refl] at hcm; cases hcm))
                        have HNe := Lib.hid (cm_not2 hcm)
                        have HLw := Lib.hid (HSj.out.below b6).low
                        clear hag hjl hcm
                        go_wp2_with fail
                        all_goals first
                          | exact absurd ⟨‹C6.op = c.op›, ‹C6.vb = c.vb›, ‹C6.ct = c.ct›, ‹C6.rg = c.rg›, ‹C6.ch = c.ch›⟩ HNe.out
                          | (go_ret; exact KPost.none HPr.out (HLw.out.trans ((t_al w6 _).mono HLw.out.size)))
                      · have hce := cmEq_eq hcm
                        subst hce
                        have HFm := Lib.hid (HF.out.made hjl hag rfl rfl)
                        clear hag hjl hcm
                        go_wp2_with fail
                        go_roundw
                        case rel => exact ⟨j + 1, by go_num, by omega, by omega, HS7.out, HFm.out⟩
                        case measure => simp [intOf]; omega
                  · have HPr := Lib.hid (not_two hj1 HLe.out hag rfl)
                    clear hag
                    go_wp2_with fail
                    go_ret
                    exact KPost.none HPr.out HS7.out.low
                · have dl : decide ((j : Int) ≤ (n8 : Int)) = false := decide_eq_false (by omega)
                  have hjn : j = (spL c).length + 1 := by rw [← NE.out]; omega
                  have hRd : Calls Tryd.prog 13 #[.slice a8 (spL c).length k8, .bool false, .bool false] wr (RdP wr a8 k8 (spL c) 0 false) := read_all hsl.sq 0 false
                  unfold RdP at hRd
                  rw [← NE.out] at hRd
                  have HRd := Lib.hid hRd
                  rw [hjn] at hf
                  have HF2 := Lib.hid hf
                  subst hform
                  have dl2 : decide (j ≤ n8) = false := decide_eq_false hle
                  have hgt : n8 < j := by omega
                  clear hRd hsl hs hf hjn hj1 hj2 HF
                  go_wp2_with fail
                  refine HRd.out.mono ?_; rintro e w6 ⟨⟨C6, m6, er6⟩, i6, hag, rfl, b6⟩
                  have s6 := HSj.out.below b6
                  have HS7 := Lib.hid s6
                  have hfd := rg_field (some ⟨ga, oa, none⟩) n8 k8 i6 C6 m6 er6
                  by_cases hm : m6 = 1
                  · subst hm
                    have HD := Lib.hid (HF2.out.dcd hag rfl)
                    clear hag s6 b6 HRd
                    go_wp2_with fail
                    go_loopw [111] (fun v111 wr => ∃ t : Nat, v111 = .int .i64 t ∧ t ≤ n8 ∧ SpI w wr w.heap.size (.slice (some ⟨ga, oa, none⟩) n8 k8) (spL c) (cm2O c) ∧ ∀ u, u < t → (spL c)[u]? ≠ some 27) (fun v111 _ => n8 - (intOf v111).toNat)
                    case atStart => exact ⟨0, rfl, Nat.zero_le _, HS7.out, fun u h => absurd h (by omega)⟩
                    case round =>
                      obtain ⟨t, rfl, ht, hs, hno⟩ := hrel
                      have HSt := Lib.hid hs
                      have hsl : Sl _ (some ⟨ga, oa, none⟩) k8 (nums (spL c)) := gm_own_sl (by have := hs.ow; rw [← NE.out] at this; exact this) (gm_nums_one _)
                      by_cases hlt : t < n8
                      · have dt : decide ((t : Int) < (n8 : Int)) = true := decide_eq_true (by omega)
                        obtain ⟨x, hx⟩ : ∃ x, (spL c)[t]? = some x := ⟨_, List.getElem?_eq_getElem (by rw [← NE.out]; exact hlt)⟩
                        have c0 := (hsl.num hx).1
                        have e0 : (0 : Int) ≤ (t : Int) := by omega
                        have e1 : (t : Int) < (n8 : Int) := by omega
                        by_cases h27 : x = 27
                        · have z27 : (x == 27) = true := by rw [h27]; rfl
                          have HPr := Lib.hid (not_27 (c := c) (by rw [← h27]; exact List.mem_of_getElem? hx))
                          clear hx hno hs hsl h27
                          go_wp2_with fail
                          go_ret
                          exact KPost.none HPr.out HSt.out.low
                        · have z27 : (x == 27) = false := beq_eq_false_iff_ne.2 h27
                          have HNo : Hid (∀ u, u < t + 1 → (spL c)[u]? ≠ some 27) := Lib.hid fun u hu => by
                            rcases Nat.lt_or_ge u t with h | h
                            · exact hno u h
                            · obtain rfl : u = t := by omega
                              rw [hx]; exact fun e => h27 (Option.some.inj e)
                          clear hx hno hs hsl h27
                          go_wp2_with fail
                          go_roundw
                          case rel => exact ⟨t + 1, by go_num, by omega, HSt.out, HNo.out⟩
                          case measure => simp [intOf]; omega
                      · have dt : decide ((t : Int) < (n8 : Int)) = false := decide_eq_false (by omega)
                        have hall : (27 : Int) ∉ spL c := fun h => by
                          obtain ⟨u, hu, he⟩ := List.getElem_of_mem h
                          exact hno u (by rw [← NE.out] at hu; omega) (by rw [List.getElem?_eq_getElem hu, he])
                        have HPr := Lib.hid (prL_doc c ⟨HR.out, HD.out, hall⟩)
                        have HSl := Lib.hid hsl
                        clear hall hno hs hsl
                        go_wp2_with fail
                        go_ret
                        exact KPost.all HPr.out NE.out HSl.out HSt.out.low
                  · have zm : (m6 != 1) = true := bne_iff_ne.2 hm
                    have HPr := Lib.hid (not_last hag hm)
                    clear hag s6 b6 HRd
                    go_wp2_with fail
                    go_ret
                    exact KPost.none HPr.out HS7.out.low
            · have z5 : (c.ch != 0) = true := bne_iff_ne.2 hch
              obtain ⟨a9, n9, k9, W9, hr9, hn9, s9, kp9⟩ := S8.out.one (l' := spL c) (by have := HLs.out; simp only [List.length_append]; omega) rfl (by decide) c.ch (by unfold spL chL; rw [if_neg hch])
              obtain ⟨e0, e1, e2, e3, e4⟩ := row2Cells s9.box
              have S9 := Lib.hid s9
              have N9 := Lib.hid hn9
              clear kp9 s9 hn9
              clear hch
              go_wp2_with fail
              go_loopw [5] (fun v5 wr => ∃ j : Nat, v5 = .int .i64 j ∧ 1 ≤ j ∧ j ≤ n9 + 1 ∧ SpI w wr w.heap.size (.slice a9 n9 k9) (spL c) (cm2O c) ∧ Fnd c j) (fun v5 _ => n9 + 1 - (intOf v5).toNat)
              case atStart => exact ⟨1, rfl, Nat.le_refl _, by omega, S9.out, Fnd.first c⟩
              case round =>
                try clear q1 q2 q3
                obtain ⟨j, rfl, hj1, hj2, hs, hf⟩ := hrel
                have HSj := Lib.hid hs
                have HF := Lib.hid hf
                have hsl : Sl wr a9 k9 (nums (spL c)) := gm_own_sl (by have := hs.ow; rw [← N9.out] at this; exact this) (gm_nums_one _)
                have hcap : n9 ≤ k9 := by have := hsl.cap; rw [nums_len, ← N9.out] at this; exact this
                have hcapm := hsl.capm
                unfold maxLen at hcapm
                have hnb : n9 ≤ 30 := by rw [N9.out]; exact HSp.out
                have hpos : 0 < n9 := by rw [N9.out]; exact List.length_pos_iff.2 (spL_ne c)
                obtain ⟨ga, oa, hform⟩ := hsl.numsome (by rw [← N9.out]; exact hpos)
                by_cases hle : j ≤ n9
                · have dl : decide ((j : Int) ≤ (n9 : Int)) = true := decide_eq_true (by omega)
                  have htk : ((spL c).take j).length = j := by rw [List.length_take, ← N9.out]; omega
                  have hRd : Calls Tryd.prog 13 #[.slice a9 ((spL c).take j).length k9, .bool false, .bool false] wr (RdP wr a9 k9 ((spL c).take j) 0 false) := read_all (hsl.sq.take j) 0 false
                  unfold RdP at hRd
                  rw [htk] at hRd
                  have HRd := Lib.hid hRd
                  have HLe : Hid (j ≤ (spL c).length) := Lib.hid (by rw [← N9.out]; exact hle)
                  have e0 : (0 : Int) ≤ (j : Int) := by omega
                  have e1 : (j : Int) ≤ (k9 : Int) := by omega
                  subst hform
                  clear hRd hsl hs hf htk
                  go_wp2_with fail
                  refine HRd.out.mono ?_; rintro e w6 ⟨⟨C6, m6, er6⟩, i6, hag, rfl, b6⟩
                  have s7 := (HSj.out.below b6).below (t_al w6 (rgO (some ⟨ga, oa, none⟩) j k9 i6 C6 m6 er6))
                  obtain ⟨q0, q1, q2, q3, q4, q5, q6, q7, q8⟩ := rgCells (heap_alloc_new w6 (rgO (some ⟨ga, oa, none⟩) j k9 i6 C6 m6 er6))
                  obtain ⟨y0, y1, y2, y3, y4⟩ := row2Cells s7.box
                  have HS7 := Lib.hid s7
                  have hwhat := rg_what hag
                  simp only at hwhat
                  clear s7 HRd
                  rcases hwhat with rfl | rfl | rfl
                  · have HFm := Lib.hid (HF.out.more hj1 HLe.out hag rfl)
                    clear hag
                    go_wp2_with fail
                    go_roundw
                    case rel => exact ⟨j + 1, by go_num, by omega, by omega, HS7.out, HFm.out⟩
                    case measure => simp [intOf]; omega
                  · by_cases hjn : j < n9
                    · have dn : decide ((j : Int) < (n9 : Int)) = true := decide_eq_true (by omega)
                      have HPr := Lib.hid (not_early hj1 (by rw [← N9.out]; exact hjn) hag rfl)
                      clear hag
                      go_wp2_with fail
                      go_ret
                      exact KPost.none HPr.out HS7.out.low
                    · have dn : decide ((j : Int) < (n9 : Int)) = false := decide_eq_false (by omega)
                      have hjl : j = (spL c).length := by rw [← N9.out]; omega
                      cases hcm : cmEq C6 c
                      · have HPr := Lib.hid (not_other hjl hag rfl (fun h => by have h : C6 = c := h; rw [h, cmEq_refl] at hcm; cases hcm))
                        have HNe := Lib.hid (cm_not2 hcm)
                        have HLw := Lib.hid (HSj.out.below b6).low
                        clear hag hjl hcm
                        go_wp2_with fail
                        all_goals first
                          | exact absurd ⟨‹C6.op = c.op›, ‹C6.vb = c.vb›, ‹C6.ct = c.ct›, ‹C6.rg = c.rg›, ‹C6.ch = c.ch›⟩ HNe.out
                          | (go_ret; exact KPost.none HPr.out (HLw.out.trans ((t_al w6 _).mono HLw.out.size)))
                      · have hce := cmEq_eq hcm
                        subst hce
                        have HFm := Lib.hid (HF.out.made hjl hag rfl rfl)
                        clear hag hjl hcm
                        go_wp2_with fail
                        go_roundw
                        case rel => exact ⟨j + 1, by go_num, by omega, by omega, HS7.out, HFm.out⟩
                        case measure => simp [intOf]; omega
                  · have HPr := Lib.hid (not_two hj1 HLe.out hag rfl)
                    clear hag
                    go_wp2_with fail
                    go_ret
                    exact KPost.none HPr.out HS7.out.low
                · have dl : decide ((j : Int) ≤ (n9 : Int)) = false := decide_eq_false (by omega)
                  have hjn : j = (spL c).length + 1 := by rw [← N9.out]; omega
                  have hRd : Calls Tryd.prog 13 #[.slice a9 (spL c).length k9, .bool false, .bool false] wr (RdP wr a9 k9 (spL c) 0 false) := read_all hsl.sq 0 false
                  unfold RdP at hRd
                  rw [← N9.out] at hRd
                  have HRd := Lib.hid hRd
                  rw [hjn] at hf
                  have HF2 := Lib.hid hf
                  subst hform
                  have dl2 : decide (j ≤ n9) = false := decide_eq_false hle
                  have hgt : n9 < j := by omega
                  clear hRd hsl hs hf hjn hj1 hj2 HF
                  go_wp2_with fail
                  refine HRd.out.mono ?_; rintro e w6 ⟨⟨C6, m6, er6⟩, i6, hag, rfl, b6⟩
                  have s6 := HSj.out.below b6
                  have HS7 := Lib.hid s6
                  have hfd := rg_field (some ⟨ga, oa, none⟩) n9 k9 i6 C6 m6 er6
                  by_cases hm : m6 = 1
                  · subst hm
                    have HD := Lib.hid (HF2.out.dcd hag rfl)
                    clear hag s6 b6 HRd
                    go_wp2_with fail
                    go_loopw [111] (fun v111 wr => ∃ t : Nat, v111 = .int .i64 t ∧ t ≤ n9 ∧ SpI w wr w.heap.size (.slice (some ⟨ga, oa, none⟩) n9 k9) (spL c) (cm2O c) ∧ ∀ u, u < t → (spL c)[u]? ≠ some 27) (fun v111 _ => n9 - (intOf v111).toNat)
                    case atStart => exact ⟨0, rfl, Nat.zero_le _, HS7.out, fun u h => absurd h (by omega)⟩
                    case round =>
                      obtain ⟨t, rfl, ht, hs, hno⟩ := hrel
                      have HSt := Lib.hid hs
                      have hsl : Sl _ (some ⟨ga, oa, none⟩) k9 (nums (spL c)) := gm_own_sl (by have := hs.ow; rw [← N9.out] at this; exact this) (gm_nums_one _)
                      by_cases hlt : t < n9
                      · have dt : decide ((t : Int) < (n9 : Int)) = true := decide_eq_true (by omega)
                        obtain ⟨x, hx⟩ : ∃ x, (spL c)[t]? = some x := ⟨_, List.getElem?_eq_getElem (by rw [← N9.out]; exact hlt)⟩
                        have c0 := (hsl.num hx).1
                        have e0 : (0 : Int) ≤ (t : Int) := by omega
                        have e1 : (t : Int) < (n9 : Int) := by omega
                        by_cases h27 : x = 27
                        · have z27 : (x == 27) = true := by rw [h27]; rfl
                          have HPr := Lib.hid (not_27 (c := c) (by rw [← h27]; exact List.mem_of_getElem? hx))
                          clear hx hno hs hsl h27
                          go_wp2_with fail
                          go_ret
                          exact KPost.none HPr.out HSt.out.low
                        · have z27 : (x == 27) = false := beq_eq_false_iff_ne.2 h27
                          have HNo : Hid (∀ u, u < t + 1 → (spL c)[u]? ≠ some 27) := Lib.hid fun u hu => by
                            rcases Nat.lt_or_ge u t with h | h
                            · exact hno u h
                            · obtain rfl : u = t := by omega
                              rw [hx]; exact fun e => h27 (Option.some.inj e)
                          clear hx hno hs hsl h27
                          go_wp2_with fail
                          go_roundw
                          case rel => exact ⟨t + 1, by go_num, by omega, HSt.out, HNo.out⟩
                          case measure => simp [intOf]; omega
                      · have dt : decide ((t : Int) < (n9 : Int)) = false := decide_eq_false (by omega)
                        have hall : (27 : Int) ∉ spL c := fun h => by
                          obtain ⟨u, hu, he⟩ := List.getElem_of_mem h
                          exact hno u (by rw [← N9.out] at hu; omega) (by rw [List.getElem?_eq_getElem hu, he])
                        have HPr := Lib.hid (prL_doc c ⟨HR.out, HD.out, hall⟩)
                        have HSl := Lib.hid hsl
                        clear hall hno hs hsl
                        go_wp2_with fail
                        go_ret
                        exact KPost.all HPr.out N9.out HSl.out HSt.out.low
                  · have zm : (m6 != 1) = true := bne_iff_ne.2 hm
                    have HPr := Lib.hid (not_last hag hm)
                    clear hag s6 b6 HRd
                    go_wp2_with fail
                    go_ret
                    exact KPost.none HPr.out HS7.out.low
        · have z3 : (c.op != 0) = true := bne_iff_ne.2 hop
          obtain ⟨a10, n10, k10, W10, hr10, hn10, s10, kp10⟩ := HS.out.one (l' := regL c ++ cntL c ++ opL c) (by have := HLs.out; simp only [List.length_append]; omega) rfl (by decide) c.op (by unfold opL; rw [if_neg hop])
          obtain ⟨e0, e1, e2, e3, e4⟩ := row2Cells s10.box
          have S10 := Lib.hid s10
          have N10 := Lib.hid hn10
          clear kp10 s10 hn10
          clear hop
          by_cases hvb : c.vb < 256
          · have z4 : decide (256 ≤ c.vb) = false := decide_eq_false (by omega)
            obtain ⟨a11, n11, k11, W11, hr11, hn11, s11, kp11⟩ := S10.out.one (l' := regL c ++ cntL c ++ opL c ++ vbL c) (by have := HLs.out; simp only [List.length_append]; omega) rfl (by decide) c.vb (by unfold vbL; rw [if_pos hvb])
            obtain ⟨e0, e1, e2, e3, e4⟩ := row2Cells s11.box
            have S11 := Lib.hid s11
            have N11 := Lib.hid hn11
            clear kp11 s11 hn11
            clear hvb
            by_cases hch : c.ch = 0
            · have z5 : (c.ch != 0) = false := by rw [hch]; rfl
              have SE := Lib.hid (S11.out.as (l' := spL c) (by unfold spL chL; rw [if_pos hch, List.append_nil]))
              have NE : Hid (n11 = (spL c).length) := Lib.hid (N11.out.trans (by unfold spL chL; rw [if_pos hch, List.append_nil]))
              clear hch
              go_wp2_with fail
              go_loopw [5] (fun v5 wr => ∃ j : Nat, v5 = .int .i64 j ∧ 1 ≤ j ∧ j ≤ n11 + 1 ∧ SpI w wr w.heap.size (.slice a11 n11 k11) (spL c) (cm2O c) ∧ Fnd c j) (fun v5 _ => n11 + 1 - (intOf v5).toNat)
              case atStart => exact ⟨1, rfl, Nat.le_refl _, by omega, SE.out, Fnd.first c⟩
              case round =>
                try clear q1 q2 q3
                obtain ⟨j, rfl, hj1, hj2, hs, hf⟩ := hrel
                have HSj := Lib.hid hs
                have HF := Lib.hid hf
                have hsl : Sl wr a11 k11 (nums (spL c)) := gm_own_sl (by have := hs.ow; rw [← NE.out] at this; exact this) (gm_nums_one _)
                have hcap : n11 ≤ k11 := by have := hsl.cap; rw [nums_len, ← NE.out] at this; exact this
                have hcapm := hsl.capm
                unfold maxLen at hcapm
                have hnb : n11 ≤ 30 := by rw [NE.out]; exact HSp.out
                have hpos : 0 < n11 := by rw [NE.out]; exact List.length_pos_iff.2 (spL_ne c)
                obtain ⟨ga, oa, hform⟩ := hsl.numsome (by rw [← NE.out]; exact hpos)
                by_cases hle : j ≤ n11
                · have dl : decide ((j : Int) ≤ (n11 : Int)) = true := decide_eq_true (by omega)
                  have htk : ((spL c).take j).length = j := by rw [List.length_take, ← NE.out]; omega
                  have hRd : Calls Tryd.prog 13 #[.slice a11 ((spL c).take j).length k11, .bool false, .bool false] wr (RdP wr a11 k11 ((spL c).take j) 0 false) := read_all (hsl.sq.take j) 0 false
                  unfold RdP at hRd
                  rw [htk] at hRd
                  have HRd := Lib.hid hRd
                  have HLe : Hid (j ≤ (spL c).length) := Lib.hid (by rw [← NE.out]; exact hle)
                  have e0 : (0 : Int) ≤ (j : Int) := by omega
                  have e1 : (j : Int) ≤ (k11 : Int) := by omega
                  subst hform
                  clear hRd hsl hs hf htk
                  go_wp2_with fail
                  refine HRd.out.mono ?_; rintro e w6 ⟨⟨C6, m6, er6⟩, i6, hag, rfl, b6⟩
                  have s7 := (HSj.out.below b6).below (t_al w6 (rgO (some ⟨ga, oa, none⟩) j k11 i6 C6 m6 er6))
                  obtain ⟨q0, q1, q2, q3, q4, q5, q6, q7, q8⟩ := rgCells (heap_alloc_new w6 (rgO (some ⟨ga, oa, none⟩) j k11 i6 C6 m6 er6))
                  obtain ⟨y0, y1, y2, y3, y4⟩ := row2Cells s7.box
                  have HS7 := Lib.hid s7
                  have hwhat := rg_what hag
                  simp only at hwhat
                  clear s7 HRd
                  rcases hwhat with rfl | rfl | rfl
                  · have HFm := Lib.hid (HF.out.more hj1 HLe.out hag rfl)
                    clear hag
                    go_wp2_with fail
                    go_roundw
                    case rel => exact ⟨j + 1, by go_num, by omega, by omega, HS7.out, HFm.out⟩
                    case measure => simp [intOf]; omega
                  · by_cases hjn : j < n11
                    · have dn : decide ((j : Int) < (n11 : Int)) = true := decide_eq_true (by omega)
                      have HPr := Lib.hid (not_early hj1 (by rw [← NE.out]; exact hjn) hag rfl)
                      clear hag
                      go_wp2_with fail
                      go_ret
                      exact KPost.none HPr.out HS7.out.low
                    · have dn : decide ((j : Int) < (n11 : Int)) = false := decide_eq_false (by omega)
                      have hjl : j = (spL c).length := by rw [← NE.out]; omega
                      cases hcm : cmEq C6 c
                      · have HPr := Lib.hid (not_other hjl hag rfl (fun h => by have h : C6 = c := h; rw [h, cmEq_refl] at hcm; cases hcm))
                        have HNe := Lib.hid (cm_not2 hcm)
                        have HLw := Lib.hid (HSj.out.below b6).low
                        clear hag hjl hcm
                        go_wp2_with fail
                        all_goals first
                          | exact absurd ⟨‹C6.op = c.op›, ‹C6.vb = c.vb›, ‹C6.ct = c.ct›, ‹C6.rg = c.rg›, ‹C6.ch = c.ch›⟩ HNe.out
                          | (go_ret; exact KPost.none HPr.out (HLw.out.trans ((t_al w6 _).mono HLw.out.size)))
                      · have hce := cmEq_eq hcm
                        subst hce
                        have HFm := Lib.hid (HF.out.made hjl hag rfl rfl)
                        clear hag hjl hcm
                        go_wp2_with fail
                        go_roundw
                        case rel => exact ⟨j + 1, by go_num, by omega, by omega, HS7.out, HFm.out⟩
                        case measure => simp [intOf]; omega
                  · have HPr := Lib.hid (not_two hj1 HLe.out hag rfl)
                    clear hag
                    go_wp2_with fail
                    go_ret
                    exact KPost.none HPr.out HS7.out.low
                · have dl : decide ((j : Int) ≤ (n11 : Int)) = false := decide_eq_false (by omega)
                  have hjn : j = (spL c).length + 1 := by rw [← NE.out]; omega
                  have hRd : Calls Tryd.prog 13 #[.slice a11 (spL c).length k11, .bool false, .bool false] wr (RdP wr a11 k11 (spL c) 0 false) := read_all hsl.sq 0 false
                  unfold RdP at hRd
                  rw [← NE.out] at hRd
                  have HRd := Lib.hid hRd
                  rw [hjn] at hf
                  have HF2 := Lib.hid hf
                  subst hform
                  have dl2 : decide (j ≤ n11) = false := decide_eq_false hle
                  have hgt : n11 < j := by omega
                  clear hRd hsl hs hf hjn hj1 hj2 HF
                  go_wp2_with fail
                  refine HRd.out.mono ?_; rintro e w6 ⟨⟨C6, m6, er6⟩, i6, hag, rfl, b6⟩
                  have s6 := HSj.out.below b6
                  have HS7 := Lib.hid s6
                  have hfd := rg_field (some ⟨ga, oa, none⟩) n11 k11 i6 C6 m6 er6
                  by_cases hm : m6 = 1
                  · subst hm
                    have HD := Lib.hid (HF2.out.dcd hag rfl)
                    clear hag s6 b6 HRd
                    go_wp2_with fail
                    go_loopw [111] (fun v111 wr => ∃ t : Nat, v111 = .int .i64 t ∧ t ≤ n11 ∧ SpI w wr w.heap.size (.slice (some ⟨ga, oa, none⟩) n11 k11) (spL c) (cm2O c) ∧ ∀ u, u < t → (spL c)[u]? ≠ some 27) (fun v111 _ => n11 - (intOf v111).toNat)
                    case atStart => exact ⟨0, rfl, Nat.zero_le _, HS7.out, fun u h => absurd h (by omega)⟩
                    case round =>
                      obtain ⟨t, rfl, ht, hs, hno⟩ := hrel
                      have HSt := Lib.hid hs
                      have hsl : Sl _ (some ⟨ga, oa, none⟩) k11 (nums (spL c)) := gm_own_sl (by have := hs.ow; rw [← NE.out] at this; exact this) (gm_nums_one _)
                      by_cases hlt : t < n11
                      · have dt : decide ((t : Int) < (n11 : Int)) = true := decide_eq_true (by omega)
                        obtain ⟨x, hx⟩ : ∃ x, (spL c)[t]? = some x := ⟨_, List.getElem?_eq_getElem (by rw [← NE.out]; exact hlt)⟩
                        have c0 := (hsl.num hx).1
                        have e0 : (0 : Int) ≤ (t : Int) := by omega
                        have e1 : (t : Int) < (n11 : Int) := by omega
                        by_cases h27 : x = 27
                        · have z27 : (x == 27) = true := by rw [h27]; rfl
                          have HPr := Lib.hid (not_27 (c := c) (by rw [← h27]; exact List.mem_of_getElem? hx))
                          clear hx hno hs hsl h27
                          go_wp2_with fail
                          go_ret
                          exact KPost.none HPr.out HSt.out.low
                        · have z27 : (x == 27) = false := beq_eq_false_iff_ne.2 h27
                          have HNo : Hid (∀ u, u < t + 1 → (spL c)[u]? ≠ some 27) := Lib.hid fun u hu => by
                            rcases Nat.lt_or_ge u t with h | h
                            · exact hno u h
                            · obtain rfl : u = t := by omega
                              rw [hx]; exact fun e => h27 (Option.some.inj e)
                          clear hx hno hs hsl h27
                          go_wp2_with fail
                          go_roundw
                          case rel => exact ⟨t + 1, by go_num, by omega, HSt.out, HNo.out⟩
                          case measure => simp [intOf]; omega
                      · have dt : decide ((t : Int) < (n11 : Int)) = false := decide_eq_false (by omega)
                        have hall : (27 : Int) ∉ spL c := fun h => by
                          obtain ⟨u, hu, he⟩ := List.getElem_of_mem h
                          exact hno u (by rw [← NE.out] at hu; omega) (by rw [List.getElem?_eq_getElem hu, he])
                        have HPr := Lib.hid (prL_doc c ⟨HR.out, HD.out, hall⟩)
                        have HSl := Lib.hid hsl
                        clear hall hno hs hsl
                        go_wp2_with fail
                        go_ret
                        exact KPost.all HPr.out NE.out HSl.out HSt.out.low
                  · have zm : (m6 != 1) = true := bne_iff_ne.2 hm
                    have HPr := Lib.hid (not_last hag hm)
                    clear hag s6 b6 HRd
                    go_wp2_with fail
                    go_ret
                    exact KPost.none HPr.out HS7.out.low
            · have z5 : (c.ch != 0) = true := bne_iff_ne.2 hch
              obtain ⟨a12, n12, k12, W12, hr12, hn12, s12, kp12⟩ := S11.out.one (l' := spL c) (by have := HLs.out; simp only [List.length_append]; omega) rfl (by decide) c.ch (by unfold spL chL; rw [if_neg hch])
              obtain ⟨e0, e1, e2, e3, e4⟩ := row2Cells s12.box
              have S12 := Lib.hid s12
              have N12 := Lib.hid hn12
              clear kp12 s12 hn12
              clear hch
              go_wp2_with fail
              go_loopw [5] (fun v5 wr => ∃ j : Nat, v5 = .int .i64 j ∧ 1 ≤ j ∧ j ≤ n12 + 1 ∧ SpI w wr w.heap.size (.slice a12 n12 k12) (spL c) (cm2O c) ∧ Fnd c j) (fun v5 _ => n12 + 1 - (intOf v5).toNat)
              case atStart => exact ⟨1, rfl, Nat.le_refl _, by omega, S12.out, Fnd.first c⟩
              case round =>
                try clear q1 q2 q3
                obtain ⟨j, rfl, hj1, hj2, hs, hf⟩ := hrel
                have HSj := Lib.hid hs
                have HF := Lib.hid hf
                have hsl : Sl wr a12 k12 (nums (spL c)) := gm_own_sl (by have := hs.ow; rw [← N12.out] at this; exact this) (gm_nums_one _)
                have hcap : n12 ≤ k12 := by have := hsl.cap; rw [nums_len, ← N12.out] at this; exact this
                have hcapm := hsl.capm
                unfold maxLen at hcapm
                have hnb : n12 ≤ 30 := by rw [N12.out]; exact HSp.out
                have hpos : 0 < n12 := by rw [N12.out]; exact List.length_pos_iff.2 (spL_ne c)
                obtain ⟨ga, oa, hform⟩ := hsl.numsome (by rw [← N12.out]; exact hpos)
                by_cases hle : j ≤ n12
                · have dl : decide ((j : Int) ≤ (n12 : Int)) = true := decide_eq_true (by omega)
                  have htk : ((spL c).take j).length = j := by rw [List.length_take, ← N12.out]; omega
                  have hRd : Calls Tryd.prog 13 #[.slice a12 ((spL c).take j).length k12, .bool false, .bool false] wr (RdP wr a12 k12 ((spL c).take j) 0 false) := read_all (hsl.sq.take j) 0 false
                  unfold RdP at hRd
                  rw [htk] at hRd
                  have HRd := Lib.hid hRd
                  have HLe : Hid (j ≤ (spL c).length) := Lib.hid (by rw [← N12.out]; exact hle)
                  have e0 : (0 : Int) ≤ (j : Int) := by omega
                  have e1 : (j : Int) ≤ (k12 : Int) := by omega
                  subst hform
                  clear hRd hsl hs hf htk
                  go_wp2_with fail
                  refine HRd.out.mono ?_; rintro e w6 ⟨⟨C6, m6, er6⟩, i6, hag, rfl, b6⟩
                  have s7 := (HSj.out.below b6).below (t_al w6 (rgO (some ⟨ga, oa, none⟩) j k12 i6 C6 m6 er6))
                  obtain ⟨q0, q1, q2, q3, q4, q5, q6, q7, q8⟩ := rgCells (heap_alloc_new w6 (rgO (some ⟨ga, oa, none⟩) j k12 i6 C6 m6 er6))
                  obtain ⟨y0, y1, y2, y3, y4⟩ := row2Cells s7.box
                  have HS7 := Lib.hid s7
                  have hwhat := rg_what hag
                  simp only at hwhat
                  clear s7 HRd
                  rcases hwhat with rfl | rfl | rfl
                  · have HFm := Lib.hid (HF.out.more hj1 HLe.out hag rfl)
                    clear hag
                    go_wp2_with fail
                    go_roundw
                    case rel => exact ⟨j + 1, by go_num, by omega, by omega, HS7.out, HFm.out⟩
                    case measure => simp [intOf]; omega
                  · by_cases hjn : j < n12
                    · have dn : decide ((j : Int) < (n12 : Int)) = true := decide_eq_true (by omega)
                      have HPr := Lib.hid (not_early hj1 (by rw [← N12.out]; exact hjn) hag rfl)
                      clear hag
                      go_wp2_with fail
                      go_ret
                      exact KPost.none HPr.out HS7.out.low
                    · have dn : decide ((j : Int) < (n12 : Int)) = false := decide_eq_false (by omega)
                      have hjl : j = (spL c).length := by rw [← N12.out]; omega
                      cases hcm : cmEq C6 c
                      · have HPr := Lib.hid (not_other hjl hag rfl (fun h => by have h : C6 = c := h; rw [h, cmEq_refl] at hcm; cases hcm))
                        have HNe := Lib.hid (cm_not2 hcm)
                        have HLw := Lib.hid (HSj.out.below b6).low
                        clear hag hjl hcm
                        go_wp2_with fail
                        all_goals first
                          | exact absurd ⟨‹C6.op = c.op›, ‹C6.vb = c.vb›, ‹C6.ct = c.ct›, ‹C6.rg = c.rg›, ‹C6.ch = c.ch›⟩ HNe.out
                          | (go_ret; exact KPost.none HPr.out (HLw.out.trans ((t_al w6 _).mono HLw.out.size)))
                      · have hce := cmEq_eq hcm
                        subst hce
                        have HFm := Lib.hid (HF.out.made hjl hag rfl rfl)
                        clear hag hjl hcm
                        go_wp2_with fail
                        go_roundw
                        case rel => exact ⟨j + 1, by go_num, by omega, by omega, HS7.out, HFm.out⟩
                        case measure => simp [intOf]; omega
                  · have HPr := Lib.hid (not_two hj1 HLe.out hag rfl)
                    clear hag
                    go_wp2_with fail
                    go_ret
                    exact KPost.none HPr.out HS7.out.low
                · have dl : decide ((j : Int) ≤ (n12 : Int)) = false := decide_eq_false (by omega)
                  have hjn : j = (spL c).length + 1 := by rw [← N12.out]; omega
                  have hRd : Calls Tryd.prog 13 #[.slice a12 (spL c).length k12, .bool false, .bool false] wr (RdP wr a12 k12 (spL c) 0 false) := read_all hsl.sq 0 false
                  unfold RdP at hRd
                  rw [← N12.out] at hRd
                  have HRd := Lib.hid hRd
                  rw [hjn] at hf
                  have HF2 := Lib.hid hf
                  subst hform
                  have dl2 : decide (j ≤ n12) = false := decide_eq_false hle
                  have hgt : n12 < j := by omega
                  clear hRd hsl hs hf hjn hj1 hj2 HF
                  go_wp2_with fail
                  refine HRd.out.mono ?_; rintro e w6 ⟨⟨C6, m6, er6⟩, i6, hag, rfl, b6⟩
                  have s6 := HSj.out.below b6
                  have HS7 := Lib.hid s6
                  have hfd := rg_field (some ⟨ga, oa, none⟩) n12 k12 i6 C6 m6 er6
                  by_cases hm : m6 = 1
                  · subst hm
                    have HD := Lib.hid (HF2.out.dcd hag rfl)
                    clear hag s6 b6 HRd
                    go_wp2_with fail
                    go_loopw [111] (fun v111 wr => ∃ t : Nat, v111 = .int .i64 t ∧ t ≤ n12 ∧ SpI w wr w.heap.size (.slice (some ⟨ga, oa, none⟩) n12 k12) (spL c) (cm2O c) ∧ ∀ u, u < t → (spL c)[u]? ≠ some 27) (fun v111 _ => n12 - (intOf v111).toNat)
                    case atStart => exact ⟨0, rfl, Nat.zero_le _, HS7.out, fun u h => absurd h (by omega)⟩
                    case round =>
                      obtain ⟨t, rfl, ht, hs, hno⟩ := hrel
                      have HSt := Lib.hid hs
                      have hsl : Sl _ (some ⟨ga, oa, none⟩) k12 (nums (spL c)) := gm_own_sl (by have := hs.ow; rw [← N12.out] at this; exact this) (gm_nums_one _)
                      by_cases hlt : t < n12
                      · have dt : decide ((t : Int) < (n12 : Int)) = true := decide_eq_true (by omega)
                        obtain ⟨x, hx⟩ : ∃ x, (spL c)[t]? = some x := ⟨_, List.getElem?_eq_getElem (by rw [← N12.out]; exact hlt)⟩
                        have c0 := (hsl.num hx).1
                        have e0 : (0 : Int) ≤ (t : Int) := by omega
                        have e1 : (t : Int) < (n12 : Int) := by omega
                        by_cases h27 : x = 27
                        · have z27 : (x == 27) = true := by rw [h27]; rfl
                          have HPr := Lib.hid (not_27 (c := c) (by rw [← h27]; exact List.mem_of_getElem? hx))
                          clear hx hno hs hsl h27
                          go_wp2_with fail
                          go_ret
                          exact KPost.none HPr.out HSt.out.low
                        · have z27 : (x == 27) = false := beq_eq_false_iff_ne.2 h27
                          have HNo : Hid (∀ u, u < t + 1 → (spL c)[u]? ≠ some 27) := Lib.hid fun u hu => by
                            rcases Nat.lt_or_ge u t with h | h
                            · exact hno u h
                            · obtain rfl : u = t := by omega
                              rw [hx]; exact fun e => h27 (Option.some.inj e)
                          clear hx hno hs hsl h27
                          go_wp2_with fail
                          go_roundw
                          case rel => exact ⟨t + 1, by go_num, by omega, HSt.out, HNo.out⟩
                          case measure => simp [intOf]; omega
                      · have dt : decide ((t : Int) < (n12 : Int)) = false := decide_eq_false (by omega)
                        have hall : (27 : Int) ∉ spL c := fun h => by
                          obtain ⟨u, hu, he⟩ := List.getElem_of_mem h
                          exact hno u (by rw [← N12.out] at hu; omega) (by rw [List.getElem?_eq_getElem hu, he])
                        have HPr := Lib.hid (prL_doc c ⟨HR.out, HD.out, hall⟩)
                        have HSl := Lib.hid hsl
                        clear hall hno hs hsl
                        go_wp2_with fail
                        go_ret
                        exact KPost.all HPr.out N12.out HSl.out HSt.out.low
                  · have zm : (m6 != 1) = true := bne_iff_ne.2 hm
                    have HPr := Lib.hid (not_last hag hm)
                    clear hag s6 b6 HRd
                    go_wp2_with fail
                    go_ret
                    exact KPost.none HPr.out HS7.out.low
          · have z4 : decide (256 ≤ c.vb) = true := decide_eq_true (by omega)
            have q1 : (c.vb).tdiv 256 = c.vb / 256 := Int.tdiv_eq_ediv_of_nonneg (by omega)
            have q3 : wrap64 (c.vb / 256) = c.vb / 256 := by have := HVb.out; unfold wrap64; omega
            have q2 : (c.vb).tmod 256 = c.vb % 256 := Int.tmod_eq_emod_of_nonneg (by omega)
            obtain ⟨a13, n13, k13, W13, hr13, hn13, s13, kp13⟩ := S10.out.two (l' := regL c ++ cntL c ++ opL c ++ vbL c) (by have := HLs.out; simp only [List.length_append]; omega) rfl (by decide) (c.vb / 256) (c.vb % 256) (by unfold vbL; rw [if_neg hvb])
            obtain ⟨e0, e1, e2, e3, e4⟩ := row2Cells s13.box
            have S13 := Lib.hid s13
            have N13 := Lib.hid hn13
            clear kp13 s13 hn13
            clear hvb
            by_cases hch : c.ch = 0
            · have z5 : (c.ch != 0) = false := by rw [hch]; rfl
              have SE := Lib.hid (S13.out.as (l' := spL c) (by unfold spL chL; rw [if_pos hch, List.append_nil]))
              have NE : Hid (n13 = (spL c).length) := Lib.hid (N13.out.trans (by unfold spL chL; rw [if_pos hch, List.append_nil]))
              clear hch
              go_wp2_with fail
              go_loopw [5] (fun v5 wr => ∃ j : Nat, v5 = .int .i64 j ∧ 1 ≤ j ∧ j ≤ n13 + 1 ∧ SpI w wr w.heap.size (.slice a13 n13 k13) (spL c) (cm2O c) ∧ Fnd c j) (fun v5 _ => n13 + 1 - (intOf v5).toNat)
              case atStart => exact ⟨1, rfl, Nat.le_refl _, by omega, SE.out, Fnd.first c⟩
              case round =>
                try clear q1 q2 q3
                obtain ⟨j, rfl, hj1, hj2, hs, hf⟩ := hrel
                have HSj := Lib.hid hs
                have HF := Lib.hid hf
                have hsl : Sl wr a13 k13 (nums (spL c)) := gm_own_sl (by have := hs.ow; rw [← NE.out] at this; exact this) (gm_nums_one _)
                have hcap : n13 ≤ k13 := by have := hsl.cap; rw [nums_len, ← NE.out] at this; exact this
                have hcapm := hsl.capm
                unfold maxLen at hcapm
                have hnb : n13 ≤ 30 := by rw [NE.out]; exact HSp.out
                have hpos : 0 < n13 := by rw [NE.out]; exact List.length_pos_iff.2 (spL_ne c)
                obtain ⟨ga, oa, hform⟩ := hsl.numsome (by rw [← NE.out]; exact hpos)
                by_cases hle : j ≤ n13
                · have dl : decide ((j : Int) ≤ (n13 : Int)) = true := decide_eq_true (by omega)
                  have htk : ((spL c).take j).length = j := by rw [List.length_take, ← NE.out]; omega
                  have hRd : Calls Tryd.prog 13 #[.slice a13 ((spL c).take j).length k13, .bool false, .bool false] wr (RdP wr a13 k13 ((spL c).take j) 0 false) := read_all (hsl.sq.take j) 0 false
                  unfold RdP at hRd
                  rw [htk] at hRd
                  have HRd := Lib.hid hRd
                  have HLe : Hid (j ≤ (spL c).length) := Lib.hid (by rw [← NE.out]; exact hle)
                  have e0 : (0 : Int) ≤ (j : Int) := by omega
                  have e1 : (j : Int) ≤ (k13 : Int) := by omega
                  subst hform
                  clear hRd hsl hs hf htk
                  go_wp2_with fail
                  refine HRd.out.mono ?_; rintro e w6 ⟨⟨C6, m6, er6⟩, i6, hag, rfl, b6⟩
                  have s7 := (HSj.out.below b6).below (t_al w6 (rgO (some ⟨ga, oa, none⟩) j k13 i6 C6 m6 er6))
                  obtain ⟨q0, q1, q2, q3, q4, q5, q6, q7, q8⟩ := rgCells (heap_alloc_new w6 (rgO (some ⟨ga, oa, none⟩) j k13 i6 C6 m6 er6))
                  obtain ⟨y0, y1, y2, y3, y4⟩ := row2Cells s7.box
                  have HS7 := Lib.hid s7
                  have hwhat := rg_what hag
                  simp only at hwhat
                  clear s7 HRd
                  rcases hwhat with rfl | rfl | rfl
                  · have HFm := Lib.hid (HF.out.more hj1 HLe.out hag rfl)
                    clear hag
                    go_wp2_with fail
                    go_roundw
                    case rel => exact ⟨j + 1, by go_num, by omega, by omega, HS7.out, HFm.out⟩
                    case measure => simp [intOf]; omega
                  · by_cases hjn : j < n13
                    · have dn : decide ((j : Int) < (n13 : Int)) = true := decide_eq_true (by omega)
                      have HPr := Lib.hid (not_early hj1 (by rw [← NE.out]; exact hjn) hag rfl)
                      clear hag
                      go_wp2_with fail
                      go_ret
                      exact KPost.none HPr.out HS7.out.low
                    · have dn : decide ((j : Int) < (n13 : Int)) = false := decide_eq_false (by omega)
                      have hjl : j = (spL c).length := by rw [← NE.out]; omega
                      cases hcm : cmEq C6 c
                      · have HPr := Lib.hid (not_other hjl hag rfl (fun h => by have h : C6 = c := h; rw [h, cmEq_refl] at hcm; cases hcm))
                        have HNe := Lib.hid (cm_not2 hcm)
                        have HLw := Lib.hid (HSj.out.below b6).low
                        clear hag hjl hcm
                        go_wp2_with fail
                        all_goals first
                          | exact absurd ⟨‹C6.op = c.op›, ‹C6.vb = c.vb›, ‹C6.ct = c.ct›, ‹C6.rg = c.rg›, ‹C6.ch = c.ch›⟩ HNe.out
                          | (go_ret; exact KPost.none HPr.out (HLw.out.trans ((t_al w6 _).mono HLw.out.size)))
                      · have hce := cmEq_eq hcm
                        subst hce
                        have HFm := Lib.hid (HF.out.made hjl hag rfl rfl)
                        clear hag hjl hcm
                        go_wp2_with fail
                        go_roundw
                        case rel => exact ⟨j + 1, by go_num, by omega, by omega, HS7.out, HFm.out⟩
                        case measure => simp [intOf]; omega
                  · have HPr := Lib.hid (not_two hj1 HLe.out hag rfl)
                    clear hag
                    go_wp2_with fail
                    go_ret
                    exact KPost.none HPr.out HS7.out.low
                · have dl : decide ((j : Int) ≤ (n13 : Int)) = false := decide_eq_false (by omega)
                  have hjn : j = (spL c).length + 1 := by rw [← NE.out]; omega
                  have hRd : Calls Tryd.prog 13 #[.slice a13 (spL c).length k13, .bool false, .bool false] wr (RdP wr a13 k13 (spL c) 0 false) := read_all hsl.sq 0 false
                  unfold RdP at hRd
                  rw [← NE.out] at hRd
                  have HRd := Lib.hid hRd
                  rw [hjn] at hf
                  have HF2 := Lib.hid hf
                  subst hform
                  have dl2 : decide (j ≤ n13) = false := decide_eq_false hle
                  have hgt : n13 < j := by omega
                  clear hRd hsl hs hf hjn hj1 hj2 HF
                  go_wp2_with fail
                  refine HRd.out.mono ?_; rintro e w6 ⟨⟨C6, m6, er6⟩, i6, hag, rfl, b6⟩
                  have s6 := HSj.out.below b6
                  have HS7 := Lib.hid s6
                  have hfd := rg_field (some ⟨ga, oa, none⟩) n13 k13 i6 C6 m6 er6
                  by_cases hm : m6 = 1
                  · subst hm
                    have HD := Lib.hid (HF2.out.dcd hag rfl)
                    clear hag s6 b6 HRd
                    go_wp2_with fail
                    go_loopw [111] (fun v111 wr => ∃ t : Nat, v111 = .int .i64 t ∧ t ≤ n13 ∧ SpI w wr w.heap.size (.slice (some ⟨ga, oa, none⟩) n13 k13) (spL c) (cm2O c) ∧ ∀ u, u < t → (spL c)[u]? ≠ some 27) (fun v111 _ => n13 - (intOf v111).toNat)
                    case atStart => exact ⟨0, rfl, Nat.zero_le _, HS7.out, fun u h => absurd h (by omega)⟩
                    case round =>
                      obtain ⟨t, rfl, ht, hs, hno⟩ := hrel
                      have HSt := Lib.hid hs
                      have hsl : Sl _ (some ⟨ga, oa, none⟩) k13 (nums (spL c)) := gm_own_sl (by have := hs.ow; rw [← NE.out] at this; exact this) (gm_nums_one _)
                      by_cases hlt : t < n13
                      · have dt : decide ((t : Int) < (n13 : Int)) = true := decide_eq_true (by omega)
                        obtain ⟨x, hx⟩ : ∃ x, (spL c)[t]? = some x := ⟨_, List.getElem?_eq_getElem (by rw [← NE.out]; exact hlt)⟩
                        have c0 := (hsl.num hx).1
                        have e0 : (0 : Int) ≤ (t : Int) := by omega
                        have e1 : (t : Int) < (n13 : Int) := by omega
                        by_cases h27 : x = 27
                        · have z27 : (x == 27) = true := by rw [h27]; rfl
                          have HPr := Lib.hid (not_27 (c := c) (by rw [← h27]; exact List.mem_of_getElem? hx))
                          clear hx hno hs hsl h27
                          go_wp2_with fail
                          go_ret
                          exact KPost.none HPr.out HSt.out.low
                        · have z27 : (x == 27) = false := beq_eq_false_iff_ne.2 h27
                          have HNo : Hid (∀ u, u < t + 1 → (spL c)[u]? ≠ some 27) := Lib.hid fun u hu => by
                            rcases Nat.lt_or_ge u t with h | h
                            · exact hno u h
                            · obtain rfl : u = t := by omega
                              rw [hx]; exact fun e => h27 (Option.some.inj e)
                          clear hx hno hs hsl h27
                          go_wp2_with fail
                          go_roundw
                          case rel => exact ⟨t + 1, by go_num, by omega, HSt.out, HNo.out⟩
                          case measure => simp [intOf]; omega
                      · have dt : decide ((t : Int) < (n13 : Int)) = false := decide_eq_false (by omega)
                        have hall : (27 : Int) ∉ spL c := fun h => by
                          obtain ⟨u, hu, he⟩ := List.getElem_of_mem h
                          exact hno u (by rw [← NE.out] at hu; omega) (by rw [List.getElem?_eq_getElem hu, he])
                        have HPr := Lib.hid (prL_doc c ⟨HR.out, HD.out, hall⟩)
                        have HSl := Lib.hid hsl
                        clear hall hno hs hsl
                        go_wp2_with fail
                        go_ret
                        exact KPost.all HPr.out NE.out HSl.out HSt.out.low
                  · have zm : (m6 != 1) = true := bne_iff_ne.2 hm
                    have HPr := Lib.hid (not_last hag hm)
                    clear hag s6 b6 HRd
                    go_wp2_with fail
                    go_ret
                    exact KPost.none HPr.out HS7.out.low
            · have z5 : (c.ch != 0) = true := bne_iff_ne.2 hch
              obtain ⟨a14, n14, k14, W14, hr14, hn14, s14, kp14⟩ := S13.out.one (l' := spL c) (by have := HLs.out; simp only [List.length_append]; omega) rfl (by decide) c.ch (by unfold spL chL; rw [if_neg hch])
              obtain ⟨e0, e1, e2, e3, e4⟩ := row2Cells s14.box
              have S14 := Lib.hid s14
              have N14 := Lib.hid hn14
              clear kp14 s14 hn14
              clear hch
              go_wp2_with fail
              go_loopw [5] (fun v5 wr => ∃ j : Nat, v5 = .int .i64 j ∧ 1 ≤ j ∧ j ≤ n14 + 1 ∧ SpI w wr w.heap.size (.slice a14 n14 k14) (spL c) (cm2O c) ∧ Fnd c j) (fun v5 _ => n14 + 1 - (intOf v5).toNat)
              case atStart => exact ⟨1, rfl, Nat.le_refl _, by omega, S14.out, Fnd.first c⟩
              case round =>
                try clear q1 q2 q3
                obtain ⟨j, rfl, hj1, hj2, hs, hf⟩ := hrel
                have HSj := Lib.hid hs
                have HF := Lib.hid hf
                have hsl : Sl wr a14 k14 (nums (spL c)) := gm_own_sl (by have := hs.ow; rw [← N14.out] at this; exact this) (gm_nums_one _)
                have hcap : n14 ≤ k14 := by have := hsl.cap; rw [nums_len, ← N14.out] at this; exact this
                have hcapm := hsl.capm
                unfold maxLen at hcapm
                have hnb : n14 ≤ 30 := by rw [N14.out]; exact HSp.out
                have hpos : 0 < n14 := by rw [N14.out]; exact List.length_pos_iff.2 (spL_ne c)
                obtain ⟨ga, oa, hform⟩ := hsl.numsome (by rw [← N14.out]; exact hpos)
                by_cases hle : j ≤ n14
                · have dl : decide ((j : Int) ≤ (n14 : Int)) = true := decide_eq_true (by omega)
                  have htk : ((spL c).take j).length = j := by rw [List.length_take, ← N14.out]; omega
                  have hRd : Calls Tryd.prog 13 #[.slice a14 ((spL c).take j).length k14, .bool false, .bool false] wr (RdP wr a14 k14 ((spL c).take j) 0 false) := read_all (hsl.sq.take j) 0 false
                  unfold RdP at hRd
                  rw [htk] at hRd
                  have HRd := Lib.hid hRd
                  have HLe : Hid (j ≤ (spL c).length) := Lib.hid (by rw [← N14.out]; exact hle)
                  have e0 : (0 : Int) ≤ (j : Int) := by omega
                  have e1 : (j : Int) ≤ (k14 : Int) := by omega
                  subst hform
                  clear hRd hsl hs hf htk
                  go_wp2_with fail
                  refine HRd.out.mono ?_; rintro e w6 ⟨⟨C6, m6, er6⟩, i6, hag, rfl, b6⟩
                  have s7 := (HSj.out.below b6).below (t_al w6 (rgO (some ⟨ga, oa, none⟩) j k14 i6 C6 m6 er6))
                  obtain ⟨q0, q1, q2, q3, q4, q5, q6, q7, q8⟩ := rgCells (heap_alloc_new w6 (rgO (some ⟨ga, oa, none⟩) j k14 i6 C6 m6 er6))
                  obtain ⟨y0, y1, y2, y3, y4⟩ := row2Cells s7.box
                  have HS7 := Lib.hid s7
                  have hwhat := rg_what hag
                  simp only at hwhat
                  clear s7 HRd
                  rcases hwhat with rfl | rfl | rfl
                  · have HFm := Lib.hid (HF.out.more hj1 HLe.out hag rfl)
                    clear hag
                    go_wp2_with fail
                    go_roundw
                    case rel => exact ⟨j + 1, by go_num, by omega, by omega, HS7.out, HFm.out⟩
                    case measure => simp [intOf]; omega
                  · by_cases hjn : j < n14
                    · have dn : decide ((j : Int) < (n14 : Int)) = true := decide_eq_true (by omega)
                      have HPr := Lib.hid (not_early hj1 (by rw [← N14.out]; exact hjn) hag rfl)
                      clear hag
                      go_wp2_with fail
                      go_ret
                      exact KPost.none HPr.out HS7.out.low
                    · have dn : decide ((j : Int) < (n14 : Int)) = false := decide_eq_false (by omega)
                      have hjl : j = (spL c).length := by rw [← N14.out]; omega
                      cases hcm : cmEq C6 c
                      · have HPr := Lib.hid (not_other hjl hag rfl (fun h => by have h : C6 = c := h; rw [h, cmEq_refl] at hcm; cases hcm))
                        have HNe := Lib.hid (cm_not2 hcm)
                        have HLw := Lib.hid (HSj.out.below b6).low
                        clear hag hjl hcm
                        go_wp2_with fail
                        all_goals first
                          | exact absurd ⟨‹C6.op = c.op›, ‹C6.vb = c.vb›, ‹C6.ct = c.ct›, ‹C6.rg = c.rg›, ‹C6.ch = c.ch›⟩ HNe.out
                          | (go_ret; exact KPost.none HPr.out (HLw.out.trans ((t_al w6 _).mono HLw.out.size)))
                      · have hce := cmEq_eq hcm
                        subst hce
                        have HFm := Lib.hid (HF.out.made hjl hag rfl rfl)
                        clear hag hjl hcm
                        go_wp2_with fail
                        go_roundw
                        case rel => exact ⟨j + 1, by go_num, by omega, by omega, HS7.out, HFm.out⟩
                        case measure => simp [intOf]; omega
                  · have HPr := Lib.hid (not_two hj1 HLe.out hag rfl)
                    clear hag
                    go_wp2_with fail
                    go_ret
                    exact KPost.none HPr.out HS7.out.low
                · have dl : decide ((j : Int) ≤ (n14 : Int)) = false := decide_eq_false (by omega)
                  have hjn : j = (spL c).length + 1 := by rw [← N14.out]; omega
                  have hRd : Calls Tryd.prog 13 #[.slice a14 (spL c).length k14, .bool false, .bool false] wr (RdP wr a14 k14 (spL c) 0 false) := read_all hsl.sq 0 false
                  unfold RdP at hRd
                  rw [← N14.out] at hRd
                  have HRd := Lib.hid hRd
                  rw [hjn] at hf
                  have HF2 := Lib.hid hf
                  subst hform
                  have dl2 : decide (j ≤ n14) = false := decide_eq_false hle
                  have hgt : n14 < j := by omega
                  clear hRd hsl hs hf hjn hj1 hj2 HF
                  go_wp2_with fail
                  refine HRd.out.mono ?_; rintro e w6 ⟨⟨C6, m6, er6⟩, i6, hag, rfl, b6⟩
                  have s6 := HSj.out.below b6
                  have HS7 := Lib.hid s6
                  have hfd := rg_field (some ⟨ga, oa, none⟩) n14 k14 i6 C6 m6 er6
                  by_cases hm : m6 = 1
                  · subst hm
                    have HD := Lib.hid (HF2.out.dcd hag rfl)
                    clear hag s6 b6 HRd
                    go_wp2_with fail
                    go_loopw [111] (fun v111 wr => ∃ t : Nat, v111 = .int .i64 t ∧ t ≤ n14 ∧ SpI w wr w.heap.size (.slice (some ⟨ga, oa, none⟩) n14 k14) (spL c) (cm2O c) ∧ ∀ u, u < t → (spL c)[u]? ≠ some 27) (fun v111 _ => n14 - (intOf v111).toNat)
                    case atStart => exact ⟨0, rfl, Nat.zero_le _, HS7.out, fun u h => absurd h (by omega)⟩
                    case round =>
                      obtain ⟨t, rfl, ht, hs, hno⟩ := hrel
                      have HSt := Lib.hid hs
                      have hsl : Sl _ (some ⟨ga, oa, none⟩) k14 (nums (spL c)) := gm_own_sl (by have := hs.ow; rw [← N14.out] at this; exact this) (gm_nums_one _)
                      by_cases hlt : t < n14
                      · have dt : decide ((t : Int) < (n14 : Int)) = true := decide_eq_true (by omega)
                        obtain ⟨x, hx⟩ : ∃ x, (spL c)[t]? = some x := ⟨_, List.getElem?_eq_getElem (by rw [← N14.out]; exact hlt)⟩
                        have c0 := (hsl.num hx).1
                        have e0 : (0 : Int) ≤ (t : Int) := by omega
                        have e1 : (t : Int) < (n14 : Int) := by omega
                        by_cases h27 : x = 27
                        · have z27 : (x == 27) = true := by rw [h27]; rfl
                          have HPr := Lib.hid (not_27 (c := c) (by rw [← h27]; exact List.mem_of_getElem? hx))
                          clear hx hno hs hsl h27
                          go_wp2_with fail
                          go_ret
                          exact KPost.none HPr.out HSt.out.low
                        · have z27 : (x == 27) = false := beq_eq_false_iff_ne.2 h27
                          have HNo : Hid (∀ u, u < t + 1 → (spL c)[u]? ≠ some 27) := Lib.hid fun u hu => by
                            rcases Nat.lt_or_ge u t with h | h
                            · exact hno u h
                            · obtain rfl : u = t := by omega
                              rw [hx]; exact fun e => h27 (Option.some.inj e)
                          clear hx hno hs hsl h27
                          go_wp2_with fail
                          go_roundw
                          case rel => exact ⟨t + 1, by go_num, by omega, HSt.out, HNo.out⟩
                          case measure => simp [intOf]; omega
                      · have dt : decide ((t : Int) < (n14 : Int)) = false := decide_eq_false (by omega)
                        have hall : (27 : Int) ∉ spL c := fun h => by
                          obtain ⟨u, hu, he⟩ := List.getElem_of_mem h
                          exact hno u (by rw [← N14.out] at hu; omega) (by rw [List.getElem?_eq_getElem hu, he])
                        have HPr := Lib.hid (prL_doc c ⟨HR.out, HD.out, hall⟩)
                        have HSl := Lib.hid hsl
                        clear hall hno hs hsl
                        go_wp2_with fail
                        go_ret
                        exact KPost.all HPr.out N14.out HSl.out HSt.out.low
                  · have zm : (m6 != 1) = true := bne_iff_ne.2 hm
                    have HPr := Lib.hid (not_last hag hm)
                    clear hag s6 b6 HRd
                    go_wp2_with fail
                    go_ret
                    exact KPost.none HPr.out HS7.out.low
  · have HPr : Hid (prL c = []) := Lib.hid (prL_not c (fun h => hr h.1))
    have HB := Lib.hid S0.out.low
    by_cases hneg : c.ct < 0
    · have r1 : decide (c.ct < 0) = true := decide_eq_true hneg
      clear hr hneg
      go_enter Tryd.func6, Tryd.ntmps6
      go_wp2_with fail
      go_ret
      exact KPost.none HPr.out HB.out
    · have r1 : decide (c.ct < 0) = false := decide_eq_false hneg
      have r2 : decide (9999 < c.ct) = true := decide_eq_true (by omega)
      clear hr hneg
      go_enter Tryd.func6, Tryd.ntmps6
      go_wp2_with fail
      go_ret
      exact KPost.none HPr.out HB.out
end Go.Proofs.YtjmpokgdgnjojaaDoor
