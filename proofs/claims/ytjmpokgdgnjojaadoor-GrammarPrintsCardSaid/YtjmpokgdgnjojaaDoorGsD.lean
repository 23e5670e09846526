/-
  The document's Print of a command with a register, at this seat's numbers.
-/
import Derived.Test.YtjmpokgdgnjojaaDoorGsB
namespace Go.Proofs.YtjmpokgdgnjojaaDoor
open Go Go.RowKit
set_option linter.unusedVariables false

attribute [-go_sem] Builtin.append_
set_option maxRecDepth 100000 in
set_option maxHeartbeats 64000000 in
theorem rprint_reg (c : Cm) (w : World) (hv : c.vb ≤ 9223372036854775807) (hrg : c.rg ≠ 0) : Calls Tryd.prog 6 #[cmV c] w (KPost (prL c) w) := by
  have s0 : SpI w (w.alloc (cm2O c)) w.heap.size (.slice none 0 0) [] (cm2O c) := ⟨heap_alloc_new w _, t_nil _ _ _ _, t_al w _⟩
  have hz0 : (w.alloc (cm2O c)).heap.size = w.heap.size + 1 := by simp
  obtain ⟨d0, d1, d2, d3, d4⟩ := row2Cells s0.box
  have HVb := Lib.hid hv
  clear hv
  have z : (c.rg != 0) = true := bne_iff_ne.2 hrg
  obtain ⟨a15, n15, k15, W15, hr15, hn15, s15, kp15⟩ := s0.two (l' := regL c) (by simp) rfl (by decide) 34 c.rg (by unfold regL; rw [if_neg hrg]; rfl)
  rw [hz0] at hr15
  obtain ⟨e0, e1, e2, e3, e4⟩ := row2Cells s15.box
  have S15 := Lib.hid s15
  have N15 := Lib.hid hn15
  clear kp15 s15 hn15 hz0
  clear s0 hrg
  by_cases hr : 0 ≤ c.ct ∧ c.ct ≤ 9999
  · have r1 : decide (c.ct < 0) = false := decide_eq_false (by omega)
    have r2 : decide (9999 < c.ct) = false := decide_eq_false (by omega)
    have HR := Lib.hid hr
    have HLs : Hid ((regL c).length ≤ 2 ∧ (cntL c).length ≤ 21 ∧ (opL c).length ≤ 1 ∧ (vbL c).length ≤ 2) := Lib.hid ⟨regL_len c, cntL_len c (by omega) (by omega), opL_len c, vbL_len c⟩
    have HSp := Lib.hid (spL_len c hr)
    clear hr
    go_enter Tryd.func6, Tryd.ntmps6
    go_wp2_with fail
    go_loopw [3, 4] (fun v3 v4 wr => ∃ (j : Nat) (a : Option Addr) (n k : Nat), v3 = .slice a n k ∧ v4 = .int .i64 (byJ j) ∧ j ≤ 4 ∧ n = (dgJ c j).length ∧ SpI w wr w.heap.size (.slice a n k) (dgJ c j) (cm2O c)) (fun _ v4 _ => (intOf v4).toNat)
    case atStart => exact ⟨0, _, _, _, rfl, rfl, by omega, N15.out, S15.out⟩
    case round =>
      obtain ⟨j, a, n, k, rfl, rfl, hj, hn, hs⟩ := hrel
      obtain ⟨g0, g1, g2, g3, g4⟩ := row2Cells hs.box
      have HS := Lib.hid hs
      have HNn := Lib.hid hn
      clear hs hn
      have hj4 : j = 0 ∨ j = 1 ∨ j = 2 ∨ j = 3 ∨ j = 4 := by omega
      rcases hj4 with rfl | rfl | rfl | rfl | rfl
      · skip
        have hdj : dgJ c 1 = dgJ c 0 ++ dgL c.ct 1000 := rfl
        have hby : byJ 0 = 1000 := rfl
        rw [hby]
        by_cases hd : 1000 ≤ c.ct
        · have x1 : decide (1000 ≤ c.ct) = true := decide_eq_true hd
          have hr := HR.out
          have q1 : (c.ct).tdiv 1000 = c.ct / 1000 := Int.tdiv_eq_ediv_of_nonneg (by omega)
          have q2 : wrap64 (c.ct / 1000) = c.ct / 1000 := by unfold wrap64; omega
          have q3 : (c.ct / 1000).tmod 10 = c.ct / 1000 % 10 := Int.tmod_eq_emod_of_nonneg (by omega)
          have q4 : wrap64 (48 + c.ct / 1000 % 10) = 48 + c.ct / 1000 % 10 := by unfold wrap64; omega
          obtain ⟨a16, n16, k16, W16, hr16, hn16, s16, kp16⟩ := HS.out.one (l' := dgJ c 1) (Nat.le_trans (dgJ_len c 0) (by omega)) rfl (by decide) (48 + c.ct / 1000 % 10) (by rw [hdj]; unfold dgL; rw [if_pos hd])
          obtain ⟨e0, e1, e2, e3, e4⟩ := row2Cells s16.box
          have S16 := Lib.hid s16
          have N16 := Lib.hid hn16
          clear kp16 s16 hn16
          clear hr hd hdj hby
          go_wp2_with fail
          go_roundw
          case rel => exact ⟨1, _, _, _, rfl, rfl, by omega, N16.out, S16.out⟩
          case measure => simp [intOf]
        · have x1 : decide (1000 ≤ c.ct) = false := decide_eq_false hd
          have hsame : dgJ c 1 = dgJ c 0 := by rw [hdj]; unfold dgL; rw [if_neg hd, List.append_nil]
          have HS2 := Lib.hid (HS.out.as hsame)
          have HN2 : Hid (n = _) := Lib.hid (HNn.out.trans (congrArg List.length hsame.symm))
          clear hd hdj hsame hby
          go_wp2_with fail
          go_roundw
          case rel => exact ⟨1, _, _, _, rfl, rfl, by omega, HN2.out, HS2.out⟩
          case measure => simp [intOf]
      · skip
        have hdj : dgJ c 2 = dgJ c 1 ++ dgL c.ct 100 := rfl
        have hby : byJ 1 = 100 := rfl
        rw [hby]
        by_cases hd : 100 ≤ c.ct
        · have x1 : decide (100 ≤ c.ct) = true := decide_eq_true hd
          have hr := HR.out
          have q1 : (c.ct).tdiv 100 = c.ct / 100 := Int.tdiv_eq_ediv_of_nonneg (by omega)
          have q2 : wrap64 (c.ct / 100) = c.ct / 100 := by unfold wrap64; omega
          have q3 : (c.ct / 100).tmod 10 = c.ct / 100 % 10 := Int.tmod_eq_emod_of_nonneg (by omega)
          have q4 : wrap64 (48 + c.ct / 100 % 10) = 48 + c.ct / 100 % 10 := by unfold wrap64; omega
          obtain ⟨a17, n17, k17, W17, hr17, hn17, s17, kp17⟩ := HS.out.one (l' := dgJ c 2) (Nat.le_trans (dgJ_len c 1) (by omega)) rfl (by decide) (48 + c.ct / 100 % 10) (by rw [hdj]; unfold dgL; rw [if_pos hd])
          obtain ⟨e0, e1, e2, e3, e4⟩ := row2Cells s17.box
          have S17 := Lib.hid s17
          have N17 := Lib.hid hn17
          clear kp17 s17 hn17
          clear hr hd hdj hby
          go_wp2_with fail
          go_roundw
          case rel => exact ⟨2, _, _, _, rfl, rfl, by omega, N17.out, S17.out⟩
          case measure => simp [intOf]
        · have x1 : decide (100 ≤ c.ct) = false := decide_eq_false hd
          have hsame : dgJ c 2 = dgJ c 1 := by rw [hdj]; unfold dgL; rw [if_neg hd, List.append_nil]
          have HS2 := Lib.hid (HS.out.as hsame)
          have HN2 : Hid (n = _) := Lib.hid (HNn.out.trans (congrArg List.length hsame.symm))
          clear hd hdj hsame hby
          go_wp2_with fail
          go_roundw
          case rel => exact ⟨2, _, _, _, rfl, rfl, by omega, HN2.out, HS2.out⟩
          case measure => simp [intOf]
      · skip
        have hdj : dgJ c 3 = dgJ c 2 ++ dgL c.ct 10 := rfl
        have hby : byJ 2 = 10 := rfl
        rw [hby]
        by_cases hd : 10 ≤ c.ct
        · have x1 : decide (10 ≤ c.ct) = true := decide_eq_true hd
          have hr := HR.out
          have q1 : (c.ct).tdiv 10 = c.ct / 10 := Int.tdiv_eq_ediv_of_nonneg (by omega)
          have q2 : wrap64 (c.ct / 10) = c.ct / 10 := by unfold wrap64; omega
          have q3 : (c.ct / 10).tmod 10 = c.ct / 10 % 10 := Int.tmod_eq_emod_of_nonneg (by omega)
          have q4 : wrap64 (48 + c.ct / 10 % 10) = 48 + c.ct / 10 % 10 := by unfold wrap64; omega
          obtain ⟨a18, n18, k18, W18, hr18, hn18, s18, kp18⟩ := HS.out.one (l' := dgJ c 3) (Nat.le_trans (dgJ_len c 2) (by omega)) rfl (by decide) (48 + c.ct / 10 % 10) (by rw [hdj]; unfold dgL; rw [if_pos hd])
          obtain ⟨e0, e1, e2, e3, e4⟩ := row2Cells s18.box
          have S18 := Lib.hid s18
          have N18 := Lib.hid hn18
          clear kp18 s18 hn18
          clear hr hd hdj hby
          go_wp2_with fail
          go_roundw
          case rel => exact ⟨3, _, _, _, rfl, rfl, by omega, N18.out, S18.out⟩
          case measure => simp [intOf]
        · have x1 : decide (10 ≤ c.ct) = false := decide_eq_false hd
          have hsame : dgJ c 3 = dgJ c 2 := by rw [hdj]; unfold dgL; rw [if_neg hd, List.append_nil]
          have HS2 := Lib.hid (HS.out.as hsame)
          have HN2 : Hid (n = _) := Lib.hid (HNn.out.trans (congrArg List.length hsame.symm))
          clear hd hdj hsame hby
          go_wp2_with fail
          go_roundw
          case rel => exact ⟨3, _, _, _, rfl, rfl, by omega, HN2.out, HS2.out⟩
          case measure => simp [intOf]
      · skip
        have hdj : dgJ c 4 = dgJ c 3 ++ dgL c.ct 1 := rfl
        have hby : byJ 3 = 1 := rfl
        rw [hby]
        by_cases hd : 1 ≤ c.ct
        · have x1 : decide (1 ≤ c.ct) = true := decide_eq_true hd
          have hr := HR.out
          have q1 : (c.ct).tdiv 1 = c.ct / 1 := Int.tdiv_eq_ediv_of_nonneg (by omega)
          have q2 : wrap64 (c.ct / 1) = c.ct / 1 := by unfold wrap64; omega
          have q3 : (c.ct / 1).tmod 10 = c.ct / 1 % 10 := Int.tmod_eq_emod_of_nonneg (by omega)
          have q4 : wrap64 (48 + c.ct / 1 % 10) = 48 + c.ct / 1 % 10 := by unfold wrap64; omega
          rw [show c.ct / 1 = c.ct by omega] at q1 q2 q3 q4
          obtain ⟨a19, n19, k19, W19, hr19, hn19, s19, kp19⟩ := HS.out.one (l' := dgJ c 4) (Nat.le_trans (dgJ_len c 3) (by omega)) rfl (by decide) (48 + c.ct % 10) (by rw [hdj]; unfold dgL; rw [if_pos hd]; rw [show c.ct / 1 = c.ct by omega])
          obtain ⟨e0, e1, e2, e3, e4⟩ := row2Cells s19.box
          have S19 := Lib.hid s19
          have N19 := Lib.hid hn19
          clear kp19 s19 hn19
          clear hr hd hdj hby
          go_wp2_with fail
          go_roundw
          case rel => exact ⟨4, _, _, _, rfl, rfl, by omega, N19.out, S19.out⟩
          case measure => simp [intOf]
        · have x1 : decide (1 ≤ c.ct) = false := decide_eq_false hd
          have hsame : dgJ c 4 = dgJ c 3 := by rw [hdj]; unfold dgL; rw [if_neg hd, List.append_nil]
          have HS2 := Lib.hid (HS.out.as hsame)
          have HN2 : Hid (n = _) := Lib.hid (HNn.out.trans (congrArg List.length hsame.symm))
          clear hd hdj hsame hby
          go_wp2_with fail
          go_roundw
          case rel => exact ⟨4, _, _, _, rfl, rfl, by omega, HN2.out, HS2.out⟩
          case measure => simp [intOf]
      · skip
        have hall := dgJ_all HR.out
        have hby : byJ 4 = 0 := rfl
        rw [hby]
        rw [hall] at HS HNn
        clear hall hby
        by_cases hop : c.op = 0
        · have z3 : (c.op != 0) = false := by rw [hop]; rfl
          have S20 := Lib.hid (HS.out.as (l' := regL c ++ cntL c ++ opL c) (by unfold opL; rw [if_pos hop, List.append_nil]))
          clear hop
          by_cases hvb : c.vb < 256
          · have z4 : decide (256 ≤ c.vb) = false := decide_eq_false (by omega)
            obtain ⟨a21, n21, k21, W21, hr21, hn21, s21, kp21⟩ := S20.out.one (l' := regL c ++ cntL c ++ opL c ++ vbL c) (by have := HLs.out; simp only [List.length_append]; omega) rfl (by decide) c.vb (by unfold vbL; rw [if_pos hvb])
            obtain ⟨e0, e1, e2, e3, e4⟩ := row2Cells s21.box
            have S21 := Lib.hid s21
            have N21 := Lib.hid hn21
            clear kp21 s21 hn21
            clear hvb
            by_cases hch : c.ch = 0
            · have z5 : (c.ch != 0) = false := by rw [hch]; rfl
              have SE := Lib.hid (S21.out.as (l' := spL c) (by unfold spL chL; rw [if_pos hch, List.append_nil]))
              have NE : Hid (n21 = (spL c).length) := Lib.hid (N21.out.trans (by unfold spL chL; rw [if_pos hch, List.append_nil]))
              clear hch
              go_wp2_with fail
              go_loopw [5] (fun v5 wr => ∃ j : Nat, v5 = .int .i64 j ∧ 1 ≤ j ∧ j ≤ n21 + 1 ∧ SpI w wr w.heap.size (.slice a21 n21 k21) (spL c) (cm2O c) ∧ Fnd c j) (fun v5 _ => n21 + 1 - (intOf v5).toNat)
              case atStart => exact ⟨1, rfl, Nat.le_refl _, by omega, SE.out, Fnd.first c⟩
              case round =>
                try clear q1 q2 q3
                obtain ⟨j, rfl, hj1, hj2, hs, hf⟩ := hrel
                have HSj := Lib.hid hs
                have HF := Lib.hid hf
                have hsl : Sl wr a21 k21 (nums (spL c)) := gm_own_sl (by have := hs.ow; rw [← NE.out] at this; exact this) (gm_nums_one _)
                have hcap : n21 ≤ k21 := by have := hsl.cap; rw [nums_len, ← NE.out] at this; exact this
                have hcapm := hsl.capm
                unfold maxLen at hcapm
                have hnb : n21 ≤ 30 := by rw [NE.out]; exact HSp.out
                have hpos : 0 < n21 := by rw [NE.out]; exact List.length_pos_iff.2 (spL_ne c)
                obtain ⟨ga, oa, hform⟩ := hsl.numsome (by rw [← NE.out]; exact hpos)
                by_cases hle : j ≤ n21
                · have dl : decide ((j : Int) ≤ (n21 : Int)) = true := decide_eq_true (by omega)
                  have htk : ((spL c).take j).length = j := by rw [List.length_take, ← NE.out]; omega
                  have hRd : Calls Tryd.prog 13 #[.slice a21 ((spL c).take j).length k21, .bool false, .bool false] wr (RdP wr a21 k21 ((spL c).take j) 0 false) := read_all (hsl.sq.take j) 0 false
                  unfold RdP at hRd
                  rw [htk] at hRd
                  have HRd := Lib.hid hRd
                  have HLe : Hid (j ≤ (spL c).length) := Lib.hid (by rw [← NE.out]; exact hle)
                  have e0 : (0 : Int) ≤ (j : Int) := by omega
                  have e1 : (j : Int) ≤ (k21 : Int) := by omega
                  subst hform
                  clear hRd hsl hs hf htk
                  go_wp2_with fail
                  refine HRd.out.mono ?_; rintro e w6 ⟨⟨C6, m6, er6⟩, i6, hag, rfl, b6⟩
                  have s7 := (HSj.out.below b6).below (t_al w6 (rgO (some ⟨ga, oa, none⟩) j k21 i6 C6 m6 er6))
                  obtain ⟨q0, q1, q2, q3, q4, q5, q6, q7, q8⟩ := rgCells (heap_alloc_new w6 (rgO (some ⟨ga, oa, none⟩) j k21 i6 C6 m6 er6))
                  obtain ⟨y0, y1, y2, y3, y4⟩ := row2Cells s7.box
                  have HS7 := Lib.hid s7
                  have hwhat := rg_what hag
                  simp only at hwhat
                  clear s7 HRd
                  rcases hwhat with rfl | rfl | rfl
                  · have HFm := Lib.hid (HF.out.more hj1 HLe.out hag rfl)
                    clear hag
                    go_wp2_with fail
                    go_roundw
                    case rel => exact ⟨j + 1, by go_num, by omega, by omega, HS7.out, HFm.out⟩
                    case measure => simp [intOf]; omega
                  · by_cases hjn : j < n21
                    · have dn : decide ((j : Int) < (n21 : Int)) = true := decide_eq_true (by omega)
                      have HPr := Lib.hid (not_early hj1 (by rw [← NE.out]; exact hjn) hag rfl)
                      clear hag
                      go_wp2_with fail
                      go_ret
                      exact KPost.none HPr.out HS7.out.low
                    · have dn : decide ((j : Int) < (n21 : Int)) = false := decide_eq_false (by omega)
                      have hjl : j = (spL c).length := by rw [← NE.out]; omega
                      cases hcm : cmEq C6 c
                      · have HPr := Lib.hid (not_other hjl hag rfl (fun h => by have h : C6 = c := h; rw [h, cmEq_refl] at hcm; cases hcm))
                        have HNe := Lib.hid (cm_not2 hcm)
                        have HLw := Lib.hid (HSj.out.below b6).low
                        clear hag hjl hcm
                        go_wp2_with fail
                        all_goals first
                          | exact absurd ⟨‹C6.op = c.op›, ‹C6.vb = c.vb›, ‹C6.ct = c.ct›, ‹C6.rg = c.rg›, ‹C6.ch = c.ch›⟩ HNe.out
                          | (go_ret; exact KPost.none HPr.out (HLw.out.trans ((t_al w6 _).mono HLw.out.size)))
                      · have hce := cmEq_eq hcm
                        subst hce
                        have HFm := Lib.hid (HF.out.made hjl hag rfl rfl)
                        clear hag hjl hcm
                        go_wp2_with fail
                        go_roundw
                        case rel => exact ⟨j + 1, by go_num, by omega, by omega, HS7.out, HFm.out⟩
                        case measure => simp [intOf]; omega
                  · have HPr := Lib.hid (not_two hj1 HLe.out hag rfl)
                    clear hag
                    go_wp2_with fail
                    go_ret
                    exact KPost.none HPr.out HS7.out.low
                · have dl : decide ((j : Int) ≤ (n21 : Int)) = false := decide_eq_false (by omega)
                  have hjn : j = (spL c).length + 1 := by rw [← NE.out]; omega
                  have hRd : Calls Tryd.prog 13 #[.slice a21 (spL c).length k21, .bool false, .bool false] wr (RdP wr a21 k21 (spL c) 0 false) := read_all hsl.sq 0 false
                  unfold RdP at hRd
                  rw [← NE.out] at hRd
                  have HRd := Lib.hid hRd
                  rw [hjn] at hf
                  have HF2 := Lib.hid hf
                  subst hform
                  have dl2 : decide (j ≤ n21) = false := decide_eq_false hle
                  have hgt : n21 < j := by omega
                  clear hRd hsl hs hf hjn hj1 hj2 HF
                  go_wp2_with fail
                  refine HRd.out.mono ?_; rintro e w6 ⟨⟨C6, m6, er6⟩, i6, hag, rfl, b6⟩
                  have s6 := HSj.out.below b6
                  have HS7 := Lib.hid s6
                  have hfd := rg_field (some ⟨ga, oa, none⟩) n21 k21 i6 C6 m6 er6
                  by_cases hm : m6 = 1
                  · subst hm
                    have HD := Lib.hid (HF2.out.dcd hag rfl)
                    clear hag s6 b6 HRd
                    go_wp2_with fail
                    go_loopw [111] (fun v111 wr => ∃ t : Nat, v111 = .int .i64 t ∧ t ≤ n21 ∧ SpI w wr w.heap.size (.slice (some ⟨ga, oa, none⟩) n21 k21) (spL c) (cm2O c) ∧ ∀ u, u < t → (spL c)[u]? ≠ some 27) (fun v111 _ => n21 - (intOf v111).toNat)
                    case atStart => exact ⟨0, rfl, Nat.zero_le _, HS7.out, fun u h => absurd h (by omega)⟩
                    case round =>
                      obtain ⟨t, rfl, ht, hs, hno⟩ := hrel
                      have HSt := Lib.hid hs
                      have hsl : Sl _ (some ⟨ga, oa, none⟩) k21 (nums (spL c)) := gm_own_sl (by have := hs.ow; rw [← NE.out] at this; exact this) (gm_nums_one _)
                      by_cases hlt : t < n21
                      · have dt : decide ((t : Int) < (n21 : Int)) = true := decide_eq_true (by omega)
                        obtain ⟨x, hx⟩ : ∃ x, (spL c)[t]? = some x := ⟨_, List.getElem?_eq_getElem (by rw [← NE.out]; exact hlt)⟩
                        have c0 := (hsl.num hx).1
                        have e0 : (0 : Int) ≤ (t : Int) := by omega
                        have e1 : (t : Int) < (n21 : Int) := by omega
                        by_cases h27 : x = 27
                        · have z27 : (x == 27) = true := by rw [h27]; rfl
                          have HPr := Lib.hid (not_27 (c := c) (by rw [← h27]; exact List.mem_of_getElem? hx))
                          clear hx hno hs hsl h27
                          go_wp2_with fail
                          go_ret
                          exact KPost.none HPr.out HSt.out.low
                        · have z27 : (x == 27) = false := beq_eq_false_iff_ne.2 h27
                          have HNo : Hid (∀ u, u < t + 1 → (spL c)[u]? ≠ some 27) := Lib.hid fun u hu => by
                            rcases Nat.lt_or_ge u t with h | h
                            · exact hno u h
                            · obtain rfl : u = t := by omega
                              rw [hx]; exact fun e => h27 (Option.some.inj e)
                          clear hx hno hs hsl h27
                          go_wp2_with fail
                          go_roundw
                          case rel => exact ⟨t + 1, by go_num, by omega, HSt.out, HNo.out⟩
                          case measure => simp [intOf]; omega
                      · have dt : decide ((t : Int) < (n21 : Int)) = false := decide_eq_false (by omega)
                        have hall : (27 : Int) ∉ spL c := fun h => by
                          obtain ⟨u, hu, he⟩ := List.getElem_of_mem h
                          exact hno u (by rw [← NE.out] at hu; omega) (by rw [List.getElem?_eq_getElem hu, he])
                        have HPr := Lib.hid (prL_doc c ⟨HR.out, HD.out, hall⟩)
                        have HSl := Lib.hid hsl
                        clear hall hno hs hsl
                        go_wp2_with fail
                        go_ret
                        exact KPost.all HPr.out NE.out HSl.out HSt.out.low
                  · have zm : (m6 != 1) = true := bne_iff_ne.2 hm
                    have HPr := Lib.hid (not_last hag hm)
                    clear hag s6 b6 HRd
                    go_wp2_with fail
                    go_ret
                    exact KPost.none HPr.out HS7.out.low
            · have z5 : (c.ch != 0) = true := bne_iff_ne.2 hch
              obtain ⟨a22, n22, k22, W22, hr22, hn22, s22, kp22⟩ := S21.out.one (l' := spL c) (by have := HLs.out; simp only [List.length_append]; omega) rfl (by decide) c.ch (by unfold spL chL; rw [if_neg hch])
              obtain ⟨e0, e1, e2, e3, e4⟩ := row2Cells s22.box
              have S22 := Lib.hid s22
              have N22 := Lib.hid hn22
              clear kp22 s22 hn22
              clear hch
              go_wp2_with fail
              go_loopw [5] (fun v5 wr => ∃ j : Nat, v5 = .int .i64 j ∧ 1 ≤ j ∧ j ≤ n22 + 1 ∧ SpI w wr w.heap.size (.slice a22 n22 k22) (spL c) (cm2O c) ∧ Fnd c j) (fun v5 _ => n22 + 1 - (intOf v5).toNat)
              case atStart => exact ⟨1, rfl, Nat.le_refl _, by omega, S22.out, Fnd.first c⟩
              case round =>
                try clear q1 q2 q3
                obtain ⟨j, rfl, hj1, hj2, hs, hf⟩ := hrel
                have HSj := Lib.hid hs
                have HF := Lib.hid hf
                have hsl : Sl wr a22 k22 (nums (spL c)) := gm_own_sl (by have := hs.ow; rw [← N22.out] at this; exact this) (gm_nums_one _)
                have hcap : n22 ≤ k22 := by have := hsl.cap; rw [nums_len, ← N22.out] at this; exact this
                have hcapm := hsl.capm
                unfold maxLen at hcapm
                have hnb : n22 ≤ 30 := by rw [N22.out]; exact HSp.out
                have hpos : 0 < n22 := by rw [N22.out]; exact List.length_pos_iff.2 (spL_ne c)
                obtain ⟨ga, oa, hform⟩ := hsl.numsome (by rw [← N22.out]; exact hpos)
                by_cases hle : j ≤ n22
                · have dl : decide ((j : Int) ≤ (n22 : Int)) = true := decide_eq_true (by omega)
                  have htk : ((spL c).take j).length = j := by rw [List.length_take, ← N22.out]; omega
                  have hRd : Calls Tryd.prog 13 #[.slice a22 ((spL c).take j).length k22, .bool false, .bool false] wr (RdP wr a22 k22 ((spL c).take j) 0 false) := read_all (hsl.sq.take j) 0 false
                  unfold RdP at hRd
                  rw [htk] at hRd
                  have HRd := Lib.hid hRd
                  have HLe : Hid (j ≤ (spL c).length) := Lib.hid (by rw [← N22.out]; exact hle)
                  have e0 : (0 : Int) ≤ (j : Int) := by omega
                  have e1 : (j : Int) ≤ (k22 : Int) := by omega
                  subst hform
                  clear hRd hsl hs hf htk
                  go_wp2_with fail
                  refine HRd.out.mono ?_; rintro e w6 ⟨⟨C6, m6, er6⟩, i6, hag, rfl, b6⟩
                  have s7 := (HSj.out.below b6).below (t_al w6 (rgO (some ⟨ga, oa, none⟩) j k22 i6 C6 m6 er6))
                  obtain ⟨q0, q1, q2, q3, q4, q5, q6, q7, q8⟩ := rgCells (heap_alloc_new w6 (rgO (some ⟨ga, oa, none⟩) j k22 i6 C6 m6 er6))
                  obtain ⟨y0, y1, y2, y3, y4⟩ := row2Cells s7.box
                  have HS7 := Lib.hid s7
                  have hwhat := rg_what hag
                  simp only at hwhat
                  clear s7 HRd
                  rcases hwhat with rfl | rfl | rfl
                  · have HFm := Lib.hid (HF.out.more hj1 HLe.out hag rfl)
                    clear hag
                    go_wp2_with fail
                    go_roundw
                    case rel => exact ⟨j + 1, by go_num, by omega, by omega, HS7.out, HFm.out⟩
                    case measure => simp [intOf]; omega
                  · by_cases hjn : j < n22
                    · have dn : decide ((j : Int) < (n22 : Int)) = true := decide_eq_true (by omega)
                      have HPr := Lib.hid (not_early hj1 (by rw [← N22.out]; exact hjn) hag rfl)
                      clear hag
                      go_wp2_with fail
                      go_ret
                      exact KPost.none HPr.out HS7.out.low
                    · have dn : decide ((j : Int) < (n22 : Int)) = false := decide_eq_false (by omega)
                      have hjl : j = (spL c).length := by rw [← N22.out]; omega
                      cases hcm : cmEq C6 c
                      · have HPr := Lib.hid (not_other hjl hag rfl (fun h => by have h : C6 = c := h; rw [h, cmEq_refl] at hcm; cases hcm))
                        have HNe := Lib.hid (cm_not2 hcm)
                        have HLw := Lib.hid (HSj.out.below b6).low
                        clear hag hjl hcm
                        go_wp2_with fail
                        all_goals first
                          | exact absurd ⟨‹C6.op = c.op›, ‹C6.vb = c.vb›, ‹C6.ct = c.ct›, ‹C6.rg = c.rg›, ‹C6.ch = c.ch›⟩ HNe.out
                          | (go_ret; exact KPost.none HPr.out (HLw.out.trans ((t_al w6 _).mono HLw.out.size)))
                      · have hce := cmEq_eq hcm
                        subst hce
                        have HFm := Lib.hid (HF.out.made hjl hag rfl rfl)
                        clear hag hjl hcm
                        go_wp2_with fail
                        go_roundw
                        case rel => exact ⟨j + 1, by go_num, by omega, by omega, HS7.out, HFm.out⟩
                        case measure => simp [intOf]; omega
                  · have HPr := Lib.hid (not_two hj1 HLe.out hag rfl)
                    clear hag
                    go_wp2_with fail
                    go_ret
                    exact KPost.none HPr.out HS7.out.low
                · have dl : decide ((j : Int) ≤ (n22 : Int)) = false := decide_eq_false (by omega)
                  have hjn : j = (spL c).length + 1 := by rw [← N22.out]; omega
                  have hRd : Calls Tryd.prog 13 #[.slice a22 (spL c).length k22, .bool false, .bool false] wr (RdP wr a22 k22 (spL c) 0 false) := read_all hsl.sq 0 false
                  unfold RdP at hRd
                  rw [← N22.out] at hRd
                  have HRd := Lib.hid hRd
                  rw [hjn] at hf
                  have HF2 := Lib.hid hf
                  subst hform
                  have dl2 : decide (j ≤ n22) = false := decide_eq_false hle
                  have hgt : n22 < j := by omega
                  clear hRd hsl hs hf hjn hj1 hj2 HF
                  go_wp2_with fail
                  refine HRd.out.mono ?_; rintro e w6 ⟨⟨C6, m6, er6⟩, i6, hag, rfl, b6⟩
                  have s6 := HSj.out.below b6
                  have HS7 := Lib.hid s6
                  have hfd := rg_field (some ⟨ga, oa, none⟩) n22 k22 i6 C6 m6 er6
                  by_cases hm : m6 = 1
                  · subst hm
                    have HD := Lib.hid (HF2.out.dcd hag rfl)
                    clear hag s6 b6 HRd
                    go_wp2_with fail
                    go_loopw [111] (fun v111 wr => ∃ t : Nat, v111 = .int .i64 t ∧ t ≤ n22 ∧ SpI w wr w.heap.size (.slice (some ⟨ga, oa, none⟩) n22 k22) (spL c) (cm2O c) ∧ ∀ u, u < t → (spL c)[u]? ≠ some 27) (fun v111 _ => n22 - (intOf v111).toNat)
                    case atStart => exact ⟨0, rfl, Nat.zero_le _, HS7.out, fun u h => absurd h (by omega)⟩
                    case round =>
                      obtain ⟨t, rfl, ht, hs, hno⟩ := hrel
                      have HSt := Lib.hid hs
                      have hsl : Sl _ (some ⟨ga, oa, none⟩) k22 (nums (spL c)) := gm_own_sl (by have := hs.ow; rw [← N22.out] at this; exact this) (gm_nums_one _)
                      by_cases hlt : t < n22
                      · have dt : decide ((t : Int) < (n22 : Int)) = true := decide_eq_true (by omega)
                        obtain ⟨x, hx⟩ : ∃ x, (spL c)[t]? = some x := ⟨_, List.getElem?_eq_getElem (by rw [← N22.out]; exact hlt)⟩
                        have c0 := (hsl.num hx).1
                        have e0 : (0 : Int) ≤ (t : Int) := by omega
                        have e1 : (t : Int) < (n22 : Int) := by omega
                        by_cases h27 : x = 27
                        · have z27 : (x == 27) = true := by rw [h27]; rfl
                          have HPr := Lib.hid (not_27 (c := c) (by rw [← h27]; exact List.mem_of_getElem? hx))
                          clear hx hno hs hsl h27
                          go_wp2_with fail
                          go_ret
                          exact KPost.none HPr.out HSt.out.low
                        · have z27 : (x == 27) = false := beq_eq_false_iff_ne.2 h27
                          have HNo : Hid (∀ u, u < t + 1 → (spL c)[u]? ≠ some 27) := Lib.hid fun u hu => by
                            rcases Nat.lt_or_ge u t with h | h
                            · exact hno u h
                            · obtain rfl : u = t := by omega
                              rw [hx]; exact fun e => h27 (Option.some.inj e)
                          clear hx hno hs hsl h27
                          go_wp2_with fail
                          go_roundw
                          case rel => exact ⟨t + 1, by go_num, by omega, HSt.out, HNo.out⟩
                          case measure => simp [intOf]; omega
                      · have dt : decide ((t : Int) < (n22 : Int)) = false := decide_eq_false (by omega)
                        have hall : (27 : Int) ∉ spL c := fun h => by
                          obtain ⟨u, hu, he⟩ := List.getElem_of_mem h
                          exact hno u (by rw [← N22.out] at hu; omega) (by rw [List.getElem?_eq_getElem hu, he])
                        have HPr := Lib.hid (prL_doc c ⟨HR.out, HD.out, hall⟩)
                        have HSl := Lib.hid hsl
                        clear hall hno hs hsl
                        go_wp2_with fail
                        go_ret
                        exact KPost.all HPr.out N22.out HSl.out HSt.out.low
                  · have zm : (m6 != 1) = true := bne_iff_ne.2 hm
                    have HPr := Lib.hid (not_last hag hm)
                    clear hag s6 b6 HRd
                    go_wp2_with fail
                    go_ret
                    exact KPost.none HPr.out HS7.out.low
          · have z4 : decide (256 ≤ c.vb) = true := decide_eq_true (by omega)
            have q1 : (c.vb).tdiv 256 = c.vb / 256 := Int.tdiv_eq_ediv_of_nonneg (by omega)
            have q3 : wrap64 (c.vb / 256) = c.vb / 256 := by have := HVb.out; unfold wrap64; omega
            have q2 : (c.vb).tmod 256 = c.vb % 256 := Int.tmod_eq_emod_of_nonneg (by omega)
            obtain ⟨a23, n23, k23, W23, hr23, hn23, s23, kp23⟩ := S20.out.two (l' := regL c ++ cntL c ++ opL c ++ vbL c) (by have := HLs.out; simp only [List.length_append]; omega) rfl (by decide) (c.vb / 256) (c.vb % 256) (by unfold vbL; rw [if_neg hvb])
            obtain ⟨e0, e1, e2, e3, e4⟩ := row2Cells s23.box
            have S23 := Lib.hid s23
            have N23 := Lib.hid hn23
            clear kp23 s23 hn23
            clear hvb
            by_cases hch : c.ch = 0
            · have z5 : (c.ch != 0) = false := by rw [hch]; rfl
              have SE := Lib.hid (S23.out.as (l' := spL c) (by unfold spL chL; rw [if_pos hch, List.append_nil]))
              have NE : Hid (n23 = (spL c).length) := Lib.hid (N23.out.trans (by unfold spL chL; rw [if_pos hch, List.append_nil]))
              clear hch
              go_wp2_with fail
              go_loopw [5] (fun v5 wr => ∃ j : Nat, v5 = .int .i64 j ∧ 1 ≤ j ∧ j ≤ n23 + 1 ∧ SpI w wr w.heap.size (.slice a23 n23 k23) (spL c) (cm2O c) ∧ Fnd c j) (fun v5 _ => n23 + 1 - (intOf v5).toNat)
              case atStart => exact ⟨1, rfl, Nat.le_refl _, by omega, SE.out, Fnd.first c⟩
              case round =>
                try clear q1 q2 q3
                obtain ⟨j, rfl, hj1, hj2, hs, hf⟩ := hrel
                have HSj := Lib.hid hs
                have HF := Lib.hid hf
                have hsl : Sl wr a23 k23 (nums (spL c)) := gm_own_sl (by have := hs.ow; rw [← NE.out] at this; exact this) (gm_nums_one _)
                have hcap : n23 ≤ k23 := by have := hsl.cap; rw [nums_len, ← NE.out] at this; exact this
                have hcapm := hsl.capm
                unfold maxLen at hcapm
                have hnb : n23 ≤ 30 := by rw [NE.out]; exact HSp.out
                have hpos : 0 < n23 := by rw [NE.out]; exact List.length_pos_iff.2 (spL_ne c)
                obtain ⟨ga, oa, hform⟩ := hsl.numsome (by rw [← NE.out]; exact hpos)
                by_cases hle : j ≤ n23
                · have dl : decide ((j : Int) ≤ (n23 : Int)) = true := decide_eq_true (by omega)
                  have htk : ((spL c).take j).length = j := by rw [List.length_take, ← NE.out]; omega
                  have hRd : Calls Tryd.prog 13 #[.slice a23 ((spL c).take j).length k23, .bool false, .bool false] wr (RdP wr a23 k23 ((spL c).take j) 0 false) := read_all (hsl.sq.take j) 0 false
                  unfold RdP at hRd
                  rw [htk] at hRd
                  have HRd := Lib.hid hRd
                  have HLe : Hid (j ≤ (spL c).length) := Lib.hid (by rw [← NE.out]; exact hle)
                  have e0 : (0 : Int) ≤ (j : Int) := by omega
                  have e1 : (j : Int) ≤ (k23 : Int) := by omega
                  subst hform
                  clear hRd hsl hs hf htk
                  go_wp2_with fail
                  refine HRd.out.mono ?_; rintro e w6 ⟨⟨C6, m6, er6⟩, i6, hag, rfl, b6⟩
                  have s7 := (HSj.out.below b6).below (t_al w6 (rgO (some ⟨ga, oa, none⟩) j k23 i6 C6 m6 er6))
                  obtain ⟨q0, q1, q2, q3, q4, q5, q6, q7, q8⟩ := rgCells (heap_alloc_new w6 (rgO (some ⟨ga, oa, none⟩) j k23 i6 C6 m6 er6))
                  obtain ⟨y0, y1, y2, y3, y4⟩ := row2Cells s7.box
                  have HS7 := Lib.hid s7
                  have hwhat := rg_what hag
                  simp only at hwhat
                  clear s7 HRd
                  rcases hwhat with rfl | rfl | rfl
                  · have HFm := Lib.hid (HF.out.more hj1 HLe.out hag rfl)
                    clear hag
                    go_wp2_with fail
                    go_roundw
                    case rel => exact ⟨j + 1, by go_num, by omega, by omega, HS7.out, HFm.out⟩
                    case measure => simp [intOf]; omega
                  · by_cases hjn : j < n23
                    · have dn : decide ((j : Int) < (n23 : Int)) = true := decide_eq_true (by omega)
                      have HPr := Lib.hid (not_early hj1 (by rw [← NE.out]; exact hjn) hag rfl)
                      clear hag
                      go_wp2_with fail
                      go_ret
                      exact KPost.none HPr.out HS7.out.low
                    · have dn : decide ((j : Int) < (n23 : Int)) = false := decide_eq_false (by omega)
                      have hjl : j = (spL c).length := by rw [← NE.out]; omega
                      cases hcm : cmEq C6 c
                      · have HPr := Lib.hid (not_other hjl hag rfl (fun h => by have h : C6 = c := h; rw [h, cmEq_refl] at hcm; cases hcm))
                        have HNe := Lib.hid (cm_not2 hcm)
                        have HLw := Lib.hid (HSj.out.below b6).low
                        clear hag hjl hcm
                        go_wp2_with fail
                        all_goals first
                          | exact absurd ⟨‹C6.op = c.op›, ‹C6.vb = c.vb›, ‹C6.ct = c.ct›, ‹C6.rg = c.rg›, ‹C6.ch = c.ch›⟩ HNe.out
                          | (go_ret; exact KPost.none HPr.out (HLw.out.trans ((t_al w6 _).mono HLw.out.size)))
                      · have hce := cmEq_eq hcm
                        subst hce
                        have HFm := Lib.hid (HF.out.made hjl hag rfl rfl)
                        clear hag hjl hcm
                        go_wp2_with fail
                        go_roundw
                        case rel => exact ⟨j + 1, by go_num, by omega, by omega, HS7.out, HFm.out⟩
                        case measure => simp [intOf]; omega
                  · have HPr := Lib.hid (not_two hj1 HLe.out hag rfl)
                    clear hag
                    go_wp2_with fail
                    go_ret
                    exact KPost.none HPr.out HS7.out.low
                · have dl : decide ((j : Int) ≤ (n23 : Int)) = false := decide_eq_false (by omega)
                  have hjn : j = (spL c).length + 1 := by rw [← NE.out]; omega
                  have hRd : Calls Tryd.prog 13 #[.slice a23 (spL c).length k23, .bool false, .bool false] wr (RdP wr a23 k23 (spL c) 0 false) := read_all hsl.sq 0 false
                  unfold RdP at hRd
                  rw [← NE.out] at hRd
                  have HRd := Lib.hid hRd
                  rw [hjn] at hf
                  have HF2 := Lib.hid hf
                  subst hform
                  have dl2 : decide (j ≤ n23) = false := decide_eq_false hle
                  have hgt : n23 < j := by omega
                  clear hRd hsl hs hf hjn hj1 hj2 HF
                  go_wp2_with fail
                  refine HRd.out.mono ?_; rintro e w6 ⟨⟨C6, m6, er6⟩, i6, hag, rfl, b6⟩
                  have s6 := HSj.out.below b6
                  have HS7 := Lib.hid s6
                  have hfd := rg_field (some ⟨ga, oa, none⟩) n23 k23 i6 C6 m6 er6
                  by_cases hm : m6 = 1
                  · subst hm
                    have HD := Lib.hid (HF2.out.dcd hag rfl)
                    clear hag s6 b6 HRd
                    go_wp2_with fail
                    go_loopw [111] (fun v111 wr => ∃ t : Nat, v111 = .int .i64 t ∧ t ≤ n23 ∧ SpI w wr w.heap.size (.slice (some ⟨ga, oa, none⟩) n23 k23) (spL c) (cm2O c) ∧ ∀ u, u < t → (spL c)[u]? ≠ some 27) (fun v111 _ => n23 - (intOf v111).toNat)
                    case atStart => exact ⟨0, rfl, Nat.zero_le _, HS7.out, fun u h => absurd h (by omega)⟩
                    case round =>
                      obtain ⟨t, rfl, ht, hs, hno⟩ := hrel
                      have HSt := Lib.hid hs
                      have hsl : Sl _ (some ⟨ga, oa, none⟩) k23 (nums (spL c)) := gm_own_sl (by have := hs.ow; rw [← NE.out] at this; exact this) (gm_nums_one _)
                      by_cases hlt : t < n23
                      · have dt : decide ((t : Int) < (n23 : Int)) = true := decide_eq_true (by omega)
                        obtain ⟨x, hx⟩ : ∃ x, (spL c)[t]? = some x := ⟨_, List.getElem?_eq_getElem (by rw [← NE.out]; exact hlt)⟩
                        have c0 := (hsl.num hx).1
                        have e0 : (0 : Int) ≤ (t : Int) := by omega
                        have e1 : (t : Int) < (n23 : Int) := by omega
                        by_cases h27 : x = 27
                        · have z27 : (x == 27) = true := by rw [h27]; rfl
                          have HPr := Lib.hid (not_27 (c := c) (by rw [← h27]; exact List.mem_of_getElem? hx))
                          clear hx hno hs hsl h27
                          go_wp2_with fail
                          go_ret
                          exact KPost.none HPr.out HSt.out.low
                        · have z27 : (x == 27) = false := beq_eq_false_iff_ne.2 h27
                          have HNo : Hid (∀ u, u < t + 1 → (spL c)[u]? ≠ some 27) := Lib.hid fun u hu => by
                            rcases Nat.lt_or_ge u t with h | h
                            · exact hno u h
                            · obtain rfl : u = t := by omega
                              rw [hx]; exact fun e => h27 (Option.some.inj e)
                          clear hx hno hs hsl h27
                          go_wp2_with fail
                          go_roundw
                          case rel => exact ⟨t + 1, by go_num, by omega, HSt.out, HNo.out⟩
                          case measure => simp [intOf]; omega
                      · have dt : decide ((t : Int) < (n23 : Int)) = false := decide_eq_false (by omega)
                        have hall : (27 : Int) ∉ spL c := fun h => by
                          obtain ⟨u, hu, he⟩ := List.getElem_of_mem h
                          exact hno u (by rw [← NE.out] at hu; omega) (by rw [List.getElem?_eq_getElem hu, he])
                        have HPr := Lib.hid (prL_doc c ⟨HR.out, HD.out, hall⟩)
                        have HSl := Lib.hid hsl
                        clear hall hno hs hsl
                        go_wp2_with fail
                        go_ret
                        exact KPost.all HPr.out NE.out HSl.out HSt.out.low
                  · have zm : (m6 != 1) = true := bne_iff_ne.2 hm
                    have HPr := Lib.hid (not_last hag hm)
                    clear hag s6 b6 HRd
                    go_wp2_with fail
                    go_ret
                    exact KPost.none HPr.out HS7.out.low
            · have z5 : (c.ch != 0) = true := bne_iff_ne.2 hch
              obtain ⟨a24, n24, k24, W24, hr24, hn24, s24, kp24⟩ := S23.out.one (l' := spL c) (by have := HLs.out; simp only [List.length_append]; omega) rfl (by decide) c.ch (by unfold spL chL; rw [if_neg hch])
              obtain ⟨e0, e1, e2, e3, e4⟩ := row2Cells s24.box
              have S24 := Lib.hid s24
              have N24 := Lib.hid hn24
              clear kp24 s24 hn24
              clear hch
              go_wp2_with fail
              go_loopw [5] (fun v5 wr => ∃ j : Nat, v5 = .int .i64 j ∧ 1 ≤ j ∧ j ≤ n24 + 1 ∧ SpI w wr w.heap.size (.slice a24 n24 k24) (spL c) (cm2O c) ∧ Fnd c j) (fun v5 _ => n24 + 1 - (intOf v5).toNat)
              case atStart => exact ⟨1, rfl, Nat.le_refl _, by omega, S24.out, Fnd.first c⟩
              case round =>
                try clear q1 q2 q3
                obtain ⟨j, rfl, hj1, hj2, hs, hf⟩ := hrel
                have HSj := Lib.hid hs
                have HF := Lib.hid hf
                have hsl : Sl wr a24 k24 (nums (spL c)) := gm_own_sl (by have := hs.ow; rw [← N24.out] at this; exact this) (gm_nums_one _)
                have hcap : n24 ≤ k24 := by have := hsl.cap; rw [nums_len, ← N24.out] at this; exact this
                have hcapm := hsl.capm
                unfold maxLen at hcapm
                have hnb : n24 ≤ 30 := by rw [N24.out]; exact HSp.out
                have hpos : 0 < n24 := by rw [N24.out]; exact List.length_pos_iff.2 (spL_ne c)
                obtain ⟨ga, oa, hform⟩ := hsl.numsome (by rw [← N24.out]; exact hpos)
                by_cases hle : j ≤ n24
                · have dl : decide ((j : Int) ≤ (n24 : Int)) = true := decide_eq_true (by omega)
                  have htk : ((spL c).take j).length = j := by rw [List.length_take, ← N24.out]; omega
                  have hRd : Calls Tryd.prog 13 #[.slice a24 ((spL c).take j).length k24, .bool false, .bool false] wr (RdP wr a24 k24 ((spL c).take j) 0 false) := read_all (hsl.sq.take j) 0 false
                  unfold RdP at hRd
                  rw [htk] at hRd
                  have HRd := Lib.hid hRd
                  have HLe : Hid (j ≤ (spL c).length) := Lib.hid (by rw [← N24.out]; exact hle)
                  have e0 : (0 : Int) ≤ (j : Int) := by omega
                  have e1 : (j : Int) ≤ (k24 : Int) := by omega
                  subst hform
                  clear hRd hsl hs hf htk
                  go_wp2_with fail
                  refine HRd.out.mono ?_; rintro e w6 ⟨⟨C6, m6, er6⟩, i6, hag, rfl, b6⟩
                  have s7 := (HSj.out.below b6).below (t_al w6 (rgO (some ⟨ga, oa, none⟩) j k24 i6 C6 m6 er6))
                  obtain ⟨q0, q1, q2, q3, q4, q5, q6, q7, q8⟩ := rgCells (heap_alloc_new w6 (rgO (some ⟨ga, oa, none⟩) j k24 i6 C6 m6 er6))
                  obtain ⟨y0, y1, y2, y3, y4⟩ := row2Cells s7.box
                  have HS7 := Lib.hid s7
                  have hwhat := rg_what hag
                  simp only at hwhat
                  clear s7 HRd
                  rcases hwhat with rfl | rfl | rfl
                  · have HFm := Lib.hid (HF.out.more hj1 HLe.out hag rfl)
                    clear hag
                    go_wp2_with fail
                    go_roundw
                    case rel => exact ⟨j + 1, by go_num, by omega, by omega, HS7.out, HFm.out⟩
                    case measure => simp [intOf]; omega
                  · by_cases hjn : j < n24
                    · have dn : decide ((j : Int) < (n24 : Int)) = true := decide_eq_true (by omega)
                      have HPr := Lib.hid (not_early hj1 (by rw [← N24.out]; exact hjn) hag rfl)
                      clear hag
                      go_wp2_with fail
                      go_ret
                      exact KPost.none HPr.out HS7.out.low
                    · have dn : decide ((j : Int) < (n24 : Int)) = false := decide_eq_false (by omega)
                      have hjl : j = (spL c).length := by rw [← N24.out]; omega
                      cases hcm : cmEq C6 c
                      · have HPr := Lib.hid (not_other hjl hag rfl (fun h => by have h : C6 = c := h; rw [h, cmEq_refl] at hcm; cases hcm))
                        have HNe := Lib.hid (cm_not2 hcm)
                        have HLw := Lib.hid (HSj.out.below b6).low
                        clear hag hjl hcm
                        go_wp2_with fail
                        all_goals first
                          | exact absurd ⟨‹C6.op = c.op›, ‹C6.vb = c.vb›, ‹C6.ct = c.ct›, ‹C6.rg = c.rg›, ‹C6.ch = c.ch›⟩ HNe.out
                          | (go_ret; exact KPost.none HPr.out (HLw.out.trans ((t_al w6 _).mono HLw.out.size)))
                      · have hce := cmEq_eq hcm
                        subst hce
                        have HFm := Lib.hid (HF.out.made hjl hag rfl rfl)
                        clear hag hjl hcm
                        go_wp2_with fail
                        go_roundw
                        case rel => exact ⟨j + 1, by go_num, by omega, by omega, HS7.out, HFm.out⟩
                        case measure => simp [intOf]; omega
                  · have HPr := Lib.hid (not_two hj1 HLe.out hag rfl)
                    clear hag
                    go_wp2_with fail
                    go_ret
                    exact KPost.none HPr.out HS7.out.low
                · have dl : decide ((j : Int) ≤ (n24 : Int)) = false := decide_eq_false (by omega)
                  have hjn : j = (spL c).length + 1 := by rw [← N24.out]; omega
                  have hRd : Calls Tryd.prog 13 #[.slice a24 (spL c).length k24, .bool false, .bool false] wr (RdP wr a24 k24 (spL c) 0 false) := read_all hsl.sq 0 false
                  unfold RdP at hRd
                  rw [← N24.out] at hRd
                  have HRd := Lib.hid hRd
                  rw [hjn] at hf
                  have HF2 := Lib.hid hf
                  subst hform
                  have dl2 : decide (j ≤ n24) = false := decide_eq_false hle
                  have hgt : n24 < j := by omega
                  clear hRd hsl hs hf hjn hj1 hj2 HF
                  go_wp2_with fail
                  refine HRd.out.mono ?_; rintro e w6 ⟨⟨C6, m6, er6⟩, i6, hag, rfl, b6⟩
                  have s6 := HSj.out.below b6
                  have HS7 := Lib.hid s6
                  have hfd := rg_field (some ⟨ga, oa, none⟩) n24 k24 i6 C6 m6 er6
                  by_cases hm : m6 = 1
                  · subst hm
                    have HD := Lib.hid (HF2.out.dcd hag rfl)
                    clear hag s6 b6 HRd
                    go_wp2_with fail
                    go_loopw [111] (fun v111 wr => ∃ t : Nat, v111 = .int .i64 t ∧ t ≤ n24 ∧ SpI w wr w.heap.size (.slice (some ⟨ga, oa, none⟩) n24 k24) (spL c) (cm2O c) ∧ ∀ u, u < t → (spL c)[u]? ≠ some 27) (fun v111 _ => n24 - (intOf v111).toNat)
                    case atStart => exact ⟨0, rfl, Nat.zero_le _, HS7.out, fun u h => absurd h (by omega)⟩
                    case round =>
                      obtain ⟨t, rfl, ht, hs, hno⟩ := hrel
                      have HSt := Lib.hid hs
                      have hsl : Sl _ (some ⟨ga, oa, none⟩) k24 (nums (spL c)) := gm_own_sl (by have := hs.ow; rw [← N24.out] at this; exact this) (gm_nums_one _)
                      by_cases hlt : t < n24
                      · have dt : decide ((t : Int) < (n24 : Int)) = true := decide_eq_true (by omega)
                        obtain ⟨x, hx⟩ : ∃ x, (spL c)[t]? = some x := ⟨_, List.getElem?_eq_getElem (by rw [← N24.out]; exact hlt)⟩
                        have c0 := (hsl.num hx).1
                        have e0 : (0 : Int) ≤ (t : Int) := by omega
                        have e1 : (t : Int) < (n24 : Int) := by omega
                        by_cases h27 : x = 27
                        · have z27 : (x == 27) = true := by rw [h27]; rfl
                          have HPr := Lib.hid (not_27 (c := c) (by rw [← h27]; exact List.mem_of_getElem? hx))
                          clear hx hno hs hsl h27
                          go_wp2_with fail
                          go_ret
                          exact KPost.none HPr.out HSt.out.low
                        · have z27 : (x == 27) = false := beq_eq_false_iff_ne.2 h27
                          have HNo : Hid (∀ u, u < t + 1 → (spL c)[u]? ≠ some 27) := Lib.hid fun u hu => by
                            rcases Nat.lt_or_ge u t with h | h
                            · exact hno u h
                            · obtain rfl : u = t := by omega
                              rw [hx]; exact fun e => h27 (Option.some.inj e)
                          clear hx hno hs hsl h27
                          go_wp2_with fail
                          go_roundw
                          case rel => exact ⟨t + 1, by go_num, by omega, HSt.out, HNo.out⟩
                          case measure => simp [intOf]; omega
                      · have dt : decide ((t : Int) < (n24 : Int)) = false := decide_eq_false (by omega)
                        have hall : (27 : Int) ∉ spL c := fun h => by
                          obtain ⟨u, hu, he⟩ := List.getElem_of_mem h
                          exact hno u (by rw [← N24.out] at hu; omega) (by rw [List.getElem?_eq_getElem hu, he])
                        have HPr := Lib.hid (prL_doc c ⟨HR.out, HD.out, hall⟩)
                        have HSl := Lib.hid hsl
                        clear hall hno hs hsl
                        go_wp2_with fail
                        go_ret
                        exact KPost.all HPr.out N24.out HSl.out HSt.out.low
                  · have zm : (m6 != 1) = true := bne_iff_ne.2 hm
                    have HPr := Lib.hid (not_last hag hm)
                    clear hag s6 b6 HRd
                    go_wp2_with fail
                    go_ret
                    exact KPost.none HPr.out HS7.out.low
        · have z3 : (c.op != 0) = true := bne_iff_ne.2 hop
          obtain ⟨a25, n25, k25, W25, hr25, hn25, s25, kp25⟩ := HS.out.one (l' := regL c ++ cntL c ++ opL c) (by have := HLs.out; simp only [List.length_append]; omega) rfl (by decide) c.op (by unfold opL; rw [if_neg hop])
          obtain ⟨e0, e1, e2, e3, e4⟩ := row2Cells s25.box
          have S25 := Lib.hid s25
          have N25 := Lib.hid hn25
          clear kp25 s25 hn25
          clear hop
          by_cases hvb : c.vb < 256
          · have z4 : decide (256 ≤ c.vb) = false := decide_eq_false (by omega)
            obtain ⟨a26, n26, k26, W26, hr26, hn26, s26, kp26⟩ := S25.out.one (l' := regL c ++ cntL c ++ opL c ++ vbL c) (by have := HLs.out; simp only [List.length_append]; omega) rfl (by decide) c.vb (by unfold vbL; rw [if_pos hvb])
            obtain ⟨e0, e1, e2, e3, e4⟩ := row2Cells s26.box
            have S26 := Lib.hid s26
            have N26 := Lib.hid hn26
            clear kp26 s26 hn26
            clear hvb
            by_cases hch : c.ch = 0
            · have z5 : (c.ch != 0) = false := by rw [hch]; rfl
              have SE := Lib.hid (S26.out.as (l' := spL c) (by unfold spL chL; rw [if_pos hch, List.append_nil]))
              have NE : Hid (n26 = (spL c).length) := Lib.hid (N26.out.trans (by unfold spL chL; rw [if_pos hch, List.append_nil]))
              clear hch
              go_wp2_with fail
              go_loopw [5] (fun v5 wr => ∃ j : Nat, v5 = .int .i64 j ∧ 1 ≤ j ∧ j ≤ n26 + 1 ∧ SpI w wr w.heap.size (.slice a26 n26 k26) (spL c) (cm2O c) ∧ Fnd c j) (fun v5 _ => n26 + 1 - (intOf v5).toNat)
              case atStart => exact ⟨1, rfl, Nat.le_refl _, by omega, SE.out, Fnd.first c⟩
              case round =>
                try clear q1 q2 q3
                obtain ⟨j, rfl, hj1, hj2, hs, hf⟩ := hrel
                have HSj := Lib.hid hs
                have HF := Lib.hid hf
                have hsl : Sl wr a26 k26 (nums (spL c)) := gm_own_sl (by have := hs.ow; rw [← NE.out] at this; exact this) (gm_nums_one _)
                have hcap : n26 ≤ k26 := by have := hsl.cap; rw [nums_len, ← NE.out] at this; exact this
                have hcapm := hsl.capm
                unfold maxLen at hcapm
                have hnb : n26 ≤ 30 := by rw [NE.out]; exact HSp.out
                have hpos : 0 < n26 := by rw [NE.out]; exact List.length_pos_iff.2 (spL_ne c)
                obtain ⟨ga, oa, hform⟩ := hsl.numsome (by rw [← NE.out]; exact hpos)
                by_cases hle : j ≤ n26
                · have dl : decide ((j : Int) ≤ (n26 : Int)) = true := decide_eq_true (by omega)
                  have htk : ((spL c).take j).length = j := by rw [List.length_take, ← NE.out]; omega
                  have hRd : Calls Tryd.prog 13 #[.slice a26 ((spL c).take j).length k26, .bool false, .bool false] wr (RdP wr a26 k26 ((spL c).take j) 0 false) := read_all (hsl.sq.take j) 0 false
                  unfold RdP at hRd
                  rw [htk] at hRd
                  have HRd := Lib.hid hRd
                  have HLe : Hid (j ≤ (spL c).length) := Lib.hid (by rw [← NE.out]; exact hle)
                  have e0 : (0 : Int) ≤ (j : Int) := by omega
                  have e1 : (j : Int) ≤ (k26 : Int) := by omega
                  subst hform
                  clear hRd hsl hs hf htk
                  go_wp2_with fail
                  refine HRd.out.mono ?_; rintro e w6 ⟨⟨C6, m6, er6⟩, i6, hag, rfl, b6⟩
                  have s7 := (HSj.out.below b6).below (t_al w6 (rgO (some ⟨ga, oa, none⟩) j k26 i6 C6 m6 er6))
                  obtain ⟨q0, q1, q2, q3, q4, q5, q6, q7, q8⟩ := rgCells (heap_alloc_new w6 (rgO (some ⟨ga, oa, none⟩) j k26 i6 C6 m6 er6))
                  obtain ⟨y0, y1, y2, y3, y4⟩ := row2Cells s7.box
                  have HS7 := Lib.hid s7
                  have hwhat := rg_what hag
                  simp only at hwhat
                  clear s7 HRd
                  rcases hwhat with rfl | rfl | rfl
                  · have HFm := Lib.hid (HF.out.more hj1 HLe.out hag rfl)
                    clear hag
                    go_wp2_with fail
                    go_roundw
                    case rel => exact ⟨j + 1, by go_num, by omega, by omega, HS7.out, HFm.out⟩
                    case measure => simp [intOf]; omega
                  · by_cases hjn : j < n26
                    · have dn : decide ((j : Int) < (n26 : Int)) = true := decide_eq_true (by omega)
                      have HPr := Lib.hid (not_early hj1 (by rw [← NE.out]; exact hjn) hag rfl)
                      clear hag
                      go_wp2_with fail
                      go_ret
                      exact KPost.none HPr.out HS7.out.low
                    · have dn : decide ((j : Int) < (n26 : Int)) = false := decide_eq_false (by omega)
                      have hjl : j = (spL c).length := by rw [← NE.out]; omega
                      cases hcm : cmEq C6 c
                      · have HPr := Lib.hid (not_other hjl hag rfl (fun h => by have h : C6 = c := h; rw [h, cmEq_refl] at hcm; cases hcm))
                        have HNe := Lib.hid (cm_not2 hcm)
                        have HLw := Lib.hid (HSj.out.below b6).low
                        clear hag hjl hcm
                        go_wp2_with fail
                        all_goals first
                          | exact absurd ⟨‹C6.op = c.op›, ‹C6.vb = c.vb›, ‹C6.ct = c.ct›, ‹C6.rg = c.rg›, ‹C6.ch = c.ch›⟩ HNe.out
                          | (go_ret; exact KPost.none HPr.out (HLw.out.trans ((t_al w6 _).mono HLw.out.size)))
                      · have hce := cmEq_eq hcm
                        subst hce
                        have HFm := Lib.hid (HF.out.made hjl hag rfl rfl)
                        clear hag hjl hcm
                        go_wp2_with fail
                        go_roundw
                        case rel => exact ⟨j + 1, by go_num, by omega, by omega, HS7.out, HFm.out⟩
                        case measure => simp [intOf]; omega
                  · have HPr := Lib.hid (not_two hj1 HLe.out hag rfl)
                    clear hag
                    go_wp2_with fail
                    go_ret
                    exact KPost.none HPr.out HS7.out.low
                · have dl : decide ((j : Int) ≤ (n26 : Int)) = false := decide_eq_false (by omega)
                  have hjn : j = (spL c).length + 1 := by rw [← NE.out]; omega
                  have hRd : Calls Tryd.prog 13 #[.slice a26 (spL c).length k26, .bool false, .bool false] wr (RdP wr a26 k26 (spL c) 0 false) := read_all hsl.sq 0 false
                  unfold RdP at hRd
                  rw [← NE.out] at hRd
                  have HRd := Lib.hid hRd
                  rw [hjn] at hf
                  have HF2 := Lib.hid hf
                  subst hform
                  have dl2 : decide (j ≤ n26) = false := decide_eq_false hle
                  have hgt : n26 < j := by omega
                  clear hRd hsl hs hf hjn hj1 hj2 HF
                  go_wp2_with fail
                  refine HRd.out.mono ?_; rintro e w6 ⟨⟨C6, m6, er6⟩, i6, hag, rfl, b6⟩
                  have s6 := HSj.out.below b6
                  have HS7 := Lib.hid s6
                  have hfd := rg_field (some ⟨ga, oa, none⟩) n26 k26 i6 C6 m6 er6
                  by_cases hm : m6 = 1
                  · subst hm
                    have HD := Lib.hid (HF2.out.dcd hag rfl)
                    clear hag s6 b6 HRd
                    go_wp2_with fail
                    go_loopw [111] (fun v111 wr => ∃ t : Nat, v111 = .int .i64 t ∧ t ≤ n26 ∧ SpI w wr w.heap.size (.slice (some ⟨ga, oa, none⟩) n26 k26) (spL c) (cm2O c) ∧ ∀ u, u < t → (spL c)[u]? ≠ some 27) (fun v111 _ => n26 - (intOf v111).toNat)
                    case atStart => exact ⟨0, rfl, Nat.zero_le _, HS7.out, fun u h => absurd h (by omega)⟩
                    case round =>
                      obtain ⟨t, rfl, ht, hs, hno⟩ := hrel
                      have HSt := Lib.hid hs
                      have hsl : Sl _ (some ⟨ga, oa, none⟩) k26 (nums (spL c)) := gm_own_sl (by have := hs.ow; rw [← NE.out] at this; exact this) (gm_nums_one _)
                      by_cases hlt : t < n26
                      · have dt : decide ((t : Int) < (n26 : Int)) = true := decide_eq_true (by omega)
                        obtain ⟨x, hx⟩ : ∃ x, (spL c)[t]? = some x := ⟨_, List.getElem?_eq_getElem (by rw [← NE.out]; exact hlt)⟩
                        have c0 := (hsl.num hx).1
                        have e0 : (0 : Int) ≤ (t : Int) := by omega
                        have e1 : (t : Int) < (n26 : Int) := by omega
                        by_cases h27 : x = 27
                        · have z27 : (x == 27) = true := by rw [h27]; rfl
                          have HPr := Lib.hid (not_27 (c := c) (by rw [← h27]; exact List.mem_of_getElem? hx))
                          clear hx hno hs hsl h27
                          go_wp2_with fail
                          go_ret
                          exact KPost.none HPr.out HSt.out.low
                        · have z27 : (x == 27) = false := beq_eq_false_iff_ne.2 h27
                          have HNo : Hid (∀ u, u < t + 1 → (spL c)[u]? ≠ some 27) := Lib.hid fun u hu => by
                            rcases Nat.lt_or_ge u t with h | h
                            · exact hno u h
                            · obtain rfl : u = t := by omega
                              rw [hx]; exact fun e => h27 (Option.some.inj e)
                          clear hx hno hs hsl h27
                          go_wp2_with fail
                          go_roundw
                          case rel => exact ⟨t + 1, by go_num, by omega, HSt.out, HNo.out⟩
                          case measure => simp [intOf]; omega
                      · have dt : decide ((t : Int) < (n26 : Int)) = false := decide_eq_false (by omega)
                        have hall : (27 : Int) ∉ spL c := fun h => by
                          obtain ⟨u, hu, he⟩ := List.getElem_of_mem h
                          exact hno u (by rw [← NE.out] at hu; omega) (by rw [List.getElem?_eq_getElem hu, he])
                        have HPr := Lib.hid (prL_doc c ⟨HR.out, HD.out, hall⟩)
                        have HSl := Lib.hid hsl
                        clear hall hno hs hsl
                        go_wp2_with fail
                        go_ret
                        exact KPost.all HPr.out NE.out HSl.out HSt.out.low
                  · have zm : (m6 != 1) = true := bne_iff_ne.2 hm
                    have HPr := Lib.hid (not_last hag hm)
                    clear hag s6 b6 HRd
                    go_wp2_with fail
                    go_ret
                    exact KPost.none HPr.out HS7.out.low
            · have z5 : (c.ch != 0) = true := bne_iff_ne.2 hch
              obtain ⟨a27, n27, k27, W27, hr27, hn27, s27, kp27⟩ := S26.out.one (l' := spL c) (by have := HLs.out; simp only [List.length_append]; omega) rfl (by decide) c.ch (by unfold spL chL; rw [if_neg hch])
              obtain ⟨e0, e1, e2, e3, e4⟩ := row2Cells s27.box
              have S27 := Lib.hid s27
              have N27 := Lib.hid hn27
              clear kp27 s27 hn27
              clear hch
              go_wp2_with fail
              go_loopw [5] (fun v5 wr => ∃ j : Nat, v5 = .int .i64 j ∧ 1 ≤ j ∧ j ≤ n27 + 1 ∧ SpI w wr w.heap.size (.slice a27 n27 k27) (spL c) (cm2O c) ∧ Fnd c j) (fun v5 _ => n27 + 1 - (intOf v5).toNat)
              case atStart => exact ⟨1, rfl, Nat.le_refl _, by omega, S27.out, Fnd.first c⟩
              case round =>
                try clear q1 q2 q3
                obtain ⟨j, rfl, hj1, hj2, hs, hf⟩ := hrel
                have HSj := Lib.hid hs
                have HF := Lib.hid hf
                have hsl : Sl wr a27 k27 (nums (spL c)) := gm_own_sl (by have := hs.ow; rw [← N27.out] at this; exact this) (gm_nums_one _)
                have hcap : n27 ≤ k27 := by have := hsl.cap; rw [nums_len, ← N27.out] at this; exact this
                have hcapm := hsl.capm
                unfold maxLen at hcapm
                have hnb : n27 ≤ 30 := by rw [N27.out]; exact HSp.out
                have hpos : 0 < n27 := by rw [N27.out]; exact List.length_pos_iff.2 (spL_ne c)
                obtain ⟨ga, oa, hform⟩ := hsl.numsome (by rw [← N27.out]; exact hpos)
                by_cases hle : j ≤ n27
                · have dl : decide ((j : Int) ≤ (n27 : Int)) = true := decide_eq_true (by omega)
                  have htk : ((spL c).take j).length = j := by rw [List.length_take, ← N27.out]; omega
                  have hRd : Calls Tryd.prog 13 #[.slice a27 ((spL c).take j).length k27, .bool false, .bool false] wr (RdP wr a27 k27 ((spL c).take j) 0 false) := read_all (hsl.sq.take j) 0 false
                  unfold RdP at hRd
                  rw [htk] at hRd
                  have HRd := Lib.hid hRd
                  have HLe : Hid (j ≤ (spL c).length) := Lib.hid (by rw [← N27.out]; exact hle)
                  have e0 : (0 : Int) ≤ (j : Int) := by omega
                  have e1 : (j : Int) ≤ (k27 : Int) := by omega
                  subst hform
                  clear hRd hsl hs hf htk
                  go_wp2_with fail
                  refine HRd.out.mono ?_; rintro e w6 ⟨⟨C6, m6, er6⟩, i6, hag, rfl, b6⟩
                  have s7 := (HSj.out.below b6).below (t_al w6 (rgO (some ⟨ga, oa, none⟩) j k27 i6 C6 m6 er6))
                  obtain ⟨q0, q1, q2, q3, q4, q5, q6, q7, q8⟩ := rgCells (heap_alloc_new w6 (rgO (some ⟨ga, oa, none⟩) j k27 i6 C6 m6 er6))
                  obtain ⟨y0, y1, y2, y3, y4⟩ := row2Cells s7.box
                  have HS7 := Lib.hid s7
                  have hwhat := rg_what hag
                  simp only at hwhat
                  clear s7 HRd
                  rcases hwhat with rfl | rfl | rfl
                  · have HFm := Lib.hid (HF.out.more hj1 HLe.out hag rfl)
                    clear hag
                    go_wp2_with fail
                    go_roundw
                    case rel => exact ⟨j + 1, by go_num, by omega, by omega, HS7.out, HFm.out⟩
                    case measure => simp [intOf]; omega
                  · by_cases hjn : j < n27
                    · have dn : decide ((j : Int) < (n27 : Int)) = true := decide_eq_true (by omega)
                      have HPr := Lib.hid (not_early hj1 (by rw [← N27.out]; exact hjn) hag rfl)
                      clear hag
                      go_wp2_with fail
                      go_ret
                      exact KPost.none HPr.out HS7.out.low
                    · have dn : decide ((j : Int) < (n27 : Int)) = false := decide_eq_false (by omega)
                      have hjl : j = (spL c).length := by rw [← N27.out]; omega
                      cases hcm : cmEq C6 c
                      · have HPr := Lib.hid (not_other hjl hag rfl (fun h => by have h : C6 = c := h; rw [h, cmEq_refl] at hcm; cases hcm))
                        have HNe := Lib.hid (cm_not2 hcm)
                        have HLw := Lib.hid (HSj.out.below b6).low
                        clear hag hjl hcm
                        go_wp2_with fail
                        all_goals first
                          | exact absurd ⟨‹C6.op = c.op›, ‹C6.vb = c.vb›, ‹C6.ct = c.ct›, ‹C6.rg = c.rg›, ‹C6.ch = c.ch›⟩ HNe.out
                          | (go_ret; exact KPost.none HPr.out (HLw.out.trans ((t_al w6 _).mono HLw.out.size)))
                      · have hce := cmEq_eq hcm
                        subst hce
                        have HFm := Lib.hid (HF.out.made hjl hag rfl rfl)
                        clear hag hjl hcm
                        go_wp2_with fail
                        go_roundw
                        case rel => exact ⟨j + 1, by go_num, by omega, by omega, HS7.out, HFm.out⟩
                        case measure => simp [intOf]; omega
                  · have HPr := Lib.hid (not_two hj1 HLe.out hag rfl)
                    clear hag
                    go_wp2_with fail
                    go_ret
                    exact KPost.none HPr.out HS7.out.low
                · have dl : decide ((j : Int) ≤ (n27 : Int)) = false := decide_eq_false (by omega)
                  have hjn : j = (spL c).length + 1 := by rw [← N27.out]; omega
                  have hRd : Calls Tryd.prog 13 #[.slice a27 (spL c).length k27, .bool false, .bool false] wr (RdP wr a27 k27 (spL c) 0 false) := read_all hsl.sq 0 false
                  unfold RdP at hRd
                  rw [← N27.out] at hRd
                  have HRd := Lib.hid hRd
                  rw [hjn] at hf
                  have HF2 := Lib.hid hf
                  subst hform
                  have dl2 : decide (j ≤ n27) = false := decide_eq_false hle
                  have hgt : n27 < j := by omega
                  clear hRd hsl hs hf hjn hj1 hj2 HF
                  go_wp2_with fail
                  refine HRd.out.mono ?_; rintro e w6 ⟨⟨C6, m6, er6⟩, i6, hag, rfl, b6⟩
                  have s6 := HSj.out.below b6
                  have HS7 := Lib.hid s6
                  have hfd := rg_field (some ⟨ga, oa, none⟩) n27 k27 i6 C6 m6 er6
                  by_cases hm : m6 = 1
                  · subst hm
                    have HD := Lib.hid (HF2.out.dcd hag rfl)
                    clear hag s6 b6 HRd
                    go_wp2_with fail
                    go_loopw [111] (fun v111 wr => ∃ t : Nat, v111 = .int .i64 t ∧ t ≤ n27 ∧ SpI w wr w.heap.size (.slice (some ⟨ga, oa, none⟩) n27 k27) (spL c) (cm2O c) ∧ ∀ u, u < t → (spL c)[u]? ≠ some 27) (fun v111 _ => n27 - (intOf v111).toNat)
                    case atStart => exact ⟨0, rfl, Nat.zero_le _, HS7.out, fun u h => absurd h (by omega)⟩
                    case round =>
                      obtain ⟨t, rfl, ht, hs, hno⟩ := hrel
                      have HSt := Lib.hid hs
                      have hsl : Sl _ (some ⟨ga, oa, none⟩) k27 (nums (spL c)) := gm_own_sl (by have := hs.ow; rw [← N27.out] at this; exact this) (gm_nums_one _)
                      by_cases hlt : t < n27
                      · have dt : decide ((t : Int) < (n27 : Int)) = true := decide_eq_true (by omega)
                        obtain ⟨x, hx⟩ : ∃ x, (spL c)[t]? = some x := ⟨_, List.getElem?_eq_getElem (by rw [← N27.out]; exact hlt)⟩
                        have c0 := (hsl.num hx).1
                        have e0 : (0 : Int) ≤ (t : Int) := by omega
                        have e1 : (t : Int) < (n27 : Int) := by omega
                        by_cases h27 : x = 27
                        · have z27 : (x == 27) = true := by rw [h27]; rfl
                          have HPr := Lib.hid (not_27 (c := c) (by rw [← h27]; exact List.mem_of_getElem? hx))
                          clear hx hno hs hsl h27
                          go_wp2_with fail
                          go_ret
                          exact KPost.none HPr.out HSt.out.low
                        · have z27 : (x == 27) = false := beq_eq_false_iff_ne.2 h27
                          have HNo : Hid (∀ u, u < t + 1 → (spL c)[u]? ≠ some 27) := Lib.hid fun u hu => by
                            rcases Nat.lt_or_ge u t with h | h
                            · exact hno u h
                            · obtain rfl : u = t := by omega
                              rw [hx]; exact fun e => h27 (Option.some.inj e)
                          clear hx hno hs hsl h27
                          go_wp2_with fail
                          go_roundw
                          case rel => exact ⟨t + 1, by go_num, by omega, HSt.out, HNo.out⟩
                          case measure => simp [intOf]; omega
                      · have dt : decide ((t : Int) < (n27 : Int)) = false := decide_eq_false (by omega)
                        have hall : (27 : Int) ∉ spL c := fun h => by
                          obtain ⟨u, hu, he⟩ := List.getElem_of_mem h
                          exact hno u (by rw [← N27.out] at hu; omega) (by rw [List.getElem?_eq_getElem hu, he])
                        have HPr := Lib.hid (prL_doc c ⟨HR.out, HD.out, hall⟩)
                        have HSl := Lib.hid hsl
                        clear hall hno hs hsl
                        go_wp2_with fail
                        go_ret
                        exact KPost.all HPr.out N27.out HSl.out HSt.out.low
                  · have zm : (m6 != 1) = true := bne_iff_ne.2 hm
                    have HPr := Lib.hid (not_last hag hm)
                    clear hag s6 b6 HRd
                    go_wp2_with fail
                    go_ret
                    exact KPost.none HPr.out HS7.out.low
          · have z4 : decide (256 ≤ c.vb) = true := decide_eq_true (by omega)
            have q1 : (c.vb).tdiv 256 = c.vb / 256 := Int.tdiv_eq_ediv_of_nonneg (by omega)
            have q3 : wrap64 (c.vb / 256) = c.vb / 256 := by have := HVb.out; unfold wrap64; omega
            have q2 : (c.vb).tmod 256 = c.vb % 256 := Int.tmod_eq_emod_of_nonneg (by omega)
            obtain ⟨a28, n28, k28, W28, hr28, hn28, s28, kp28⟩ := S25.out.two (l' := regL c ++ cntL c ++ opL c ++ vbL c) (by have := HLs.out; simp only [List.length_append]; omega) rfl (by decide) (c.vb / 256) (c.vb % 256) (by unfold vbL; rw [if_neg hvb])
            obtain ⟨e0, e1, e2, e3, e4⟩ := row2Cells s28.box
            have S28 := Lib.hid s28
            have N28 := Lib.hid hn28
            clear kp28 s28 hn28
            clear hvb
            by_cases hch : c.ch = 0
            · have z5 : (c.ch != 0) = false := by rw [hch]; rfl
              have SE := Lib.hid (S28.out.as (l' := spL c) (by unfold spL chL; rw [if_pos hch, List.append_nil]))
              have NE : Hid (n28 = (spL c).length) := Lib.hid (N28.out.trans (by unfold spL chL; rw [if_pos hch, List.append_nil]))
              clear hch
              go_wp2_with fail
              go_loopw [5] (fun v5 wr => ∃ j : Nat, v5 = .int .i64 j ∧ 1 ≤ j ∧ j ≤ n28 + 1 ∧ SpI w wr w.heap.size (.slice a28 n28 k28) (spL c) (cm2O c) ∧ Fnd c j) (fun v5 _ => n28 + 1 - (intOf v5).toNat)
              case atStart => exact ⟨1, rfl, Nat.le_refl _, by omega, SE.out, Fnd.first c⟩
              case round =>
                try clear q1 q2 q3
                obtain ⟨j, rfl, hj1, hj2, hs, hf⟩ := hrel
                have HSj := Lib.hid hs
                have HF := Lib.hid hf
                have hsl : Sl wr a28 k28 (nums (spL c)) := gm_own_sl (by have := hs.ow; rw [← NE.out] at this; exact this) (gm_nums_one _)
                have hcap : n28 ≤ k28 := by have := hsl.cap; rw [nums_len, ← NE.out] at this; exact this
                have hcapm := hsl.capm
                unfold maxLen at hcapm
                have hnb : n28 ≤ 30 := by rw [NE.out]; exact HSp.out
                have hpos : 0 < n28 := by rw [NE.out]; exact List.length_pos_iff.2 (spL_ne c)
                obtain ⟨ga, oa, hform⟩ := hsl.numsome (by rw [← NE.out]; exact hpos)
                by_cases hle : j ≤ n28
                · have dl : decide ((j : Int) ≤ (n28 : Int)) = true := decide_eq_true (by omega)
                  have htk : ((spL c).take j).length = j := by rw [List.length_take, ← NE.out]; omega
                  have hRd : Calls Tryd.prog 13 #[.slice a28 ((spL c).take j).length k28, .bool false, .bool false] wr (RdP wr a28 k28 ((spL c).take j) 0 false) := read_all (hsl.sq.take j) 0 false
                  unfold RdP at hRd
                  rw [htk] at hRd
                  have HRd := Lib.hid hRd
                  have HLe : Hid (j ≤ (spL c).length) := Lib.hid (by rw [← NE.out]; exact hle)
                  have e0 : (0 : Int) ≤ (j : Int) := by omega
                  have e1 : (j : Int) ≤ (k28 : Int) := by omega
                  subst hform
                  clear hRd hsl hs hf htk
                  go_wp2_with fail
                  refine HRd.out.mono ?_; rintro e w6 ⟨⟨C6, m6, er6⟩, i6, hag, rfl, b6⟩
                  have s7 := (HSj.out.below b6).below (t_al w6 (rgO (some ⟨ga, oa, none⟩) j k28 i6 C6 m6 er6))
                  obtain ⟨q0, q1, q2, q3, q4, q5, q6, q7, q8⟩ := rgCells (heap_alloc_new w6 (rgO (some ⟨ga, oa, none⟩) j k28 i6 C6 m6 er6))
                  obtain ⟨y0, y1, y2, y3, y4⟩ := row2Cells s7.box
                  have HS7 := Lib.hid s7
                  have hwhat := rg_what hag
                  simp only at hwhat
                  clear s7 HRd
                  rcases hwhat with rfl | rfl | rfl
                  · have HFm := Lib.hid (HF.out.more hj1 HLe.out hag rfl)
                    clear hag
                    go_wp2_with fail
                    go_roundw
                    case rel => exact ⟨j + 1, by go_num, by omega, by omega, HS7.out, HFm.out⟩
                    case measure => simp [intOf]; omega
                  · by_cases hjn : j < n28
                    · have dn : decide ((j : Int) < (n28 : Int)) = true := decide_eq_true (by omega)
                      have HPr := Lib.hid (not_early hj1 (by rw [← NE.out]; exact hjn) hag rfl)
                      clear hag
                      go_wp2_with fail
                      go_ret
                      exact KPost.none HPr.out HS7.out.low
                    · have dn : decide ((j : Int) < (n28 : Int)) = false := decide_eq_false (by omega)
                      have hjl : j = (spL c).length := by rw [← NE.out]; omega
                      cases hcm : cmEq C6 c
                      · have HPr := Lib.hid (not_other hjl hag rfl (fun h => by have h : C6 = c := h; rw [h, cmEq_refl] at hcm; cases hcm))
                        have HNe := Lib.hid (cm_not2 hcm)
                        have HLw := Lib.hid (HSj.out.below b6).low
                        clear hag hjl hcm
                        go_wp2_with fail
                        all_goals first
                          | exact absurd ⟨‹C6.op = c.op›, ‹C6.vb = c.vb›, ‹C6.ct = c.ct›, ‹C6.rg = c.rg›, ‹C6.ch = c.ch›⟩ HNe.out
                          | (go_ret; exact KPost.none HPr.out (HLw.out.trans ((t_al w6 _).mono HLw.out.size)))
                      · have hce := cmEq_eq hcm
                        subst hce
                        have HFm := Lib.hid (HF.out.made hjl hag rfl rfl)
                        clear hag hjl hcm
                        go_wp2_with fail
                        go_roundw
                        case rel => exact ⟨j + 1, by go_num, by omega, by omega, HS7.out, HFm.out⟩
                        case measure => simp [intOf]; omega
                  · have HPr := Lib.hid (not_two hj1 HLe.out hag rfl)
                    clear hag
                    go_wp2_with fail
                    go_ret
                    exact KPost.none HPr.out HS7.out.low
                · have dl : decide ((j : Int) ≤ (n28 : Int)) = false := decide_eq_false (by omega)
                  have hjn : j = (spL c).length + 1 := by rw [← NE.out]; omega
                  have hRd : Calls Tryd.prog 13 #[.slice a28 (spL c).length k28, .bool false, .bool false] wr (RdP wr a28 k28 (spL c) 0 false) := read_all hsl.sq 0 false
                  unfold RdP at hRd
                  rw [← NE.out] at hRd
                  have HRd := Lib.hid hRd
                  rw [hjn] at hf
                  have HF2 := Lib.hid hf
                  subst hform
                  have dl2 : decide (j ≤ n28) = false := decide_eq_false hle
                  have hgt : n28 < j := by omega
                  clear hRd hsl hs hf hjn hj1 hj2 HF
                  go_wp2_with fail
                  refine HRd.out.mono ?_; rintro e w6 ⟨⟨C6, m6, er6⟩, i6, hag, rfl, b6⟩
                  have s6 := HSj.out.below b6
                  have HS7 := Lib.hid s6
                  have hfd := rg_field (some ⟨ga, oa, none⟩) n28 k28 i6 C6 m6 er6
                  by_cases hm : m6 = 1
                  · subst hm
                    have HD := Lib.hid (HF2.out.dcd hag rfl)
                    clear hag s6 b6 HRd
                    go_wp2_with fail
                    go_loopw [111] (fun v111 wr => ∃ t : Nat, v111 = .int .i64 t ∧ t ≤ n28 ∧ SpI w wr w.heap.size (.slice (some ⟨ga, oa, none⟩) n28 k28) (spL c) (cm2O c) ∧ ∀ u, u < t → (spL c)[u]? ≠ some 27) (fun v111 _ => n28 - (intOf v111).toNat)
                    case atStart => exact ⟨0, rfl, Nat.zero_le _, HS7.out, fun u h => absurd h (by omega)⟩
                    case round =>
                      obtain ⟨t, rfl, ht, hs, hno⟩ := hrel
                      have HSt := Lib.hid hs
                      have hsl : Sl _ (some ⟨ga, oa, none⟩) k28 (nums (spL c)) := gm_own_sl (by have := hs.ow; rw [← NE.out] at this; exact this) (gm_nums_one _)
                      by_cases hlt : t < n28
                      · have dt : decide ((t : Int) < (n28 : Int)) = true := decide_eq_true (by omega)
                        obtain ⟨x, hx⟩ : ∃ x, (spL c)[t]? = some x := ⟨_, List.getElem?_eq_getElem (by rw [← NE.out]; exact hlt)⟩
                        have c0 := (hsl.num hx).1
                        have e0 : (0 : Int) ≤ (t : Int) := by omega
                        have e1 : (t : Int) < (n28 : Int) := by omega
                        by_cases h27 : x = 27
                        · have z27 : (x == 27) = true := by rw [h27]; rfl
                          have HPr := Lib.hid (not_27 (c := c) (by rw [← h27]; exact List.mem_of_getElem? hx))
                          clear hx hno hs hsl h27
                          go_wp2_with fail
                          go_ret
                          exact KPost.none HPr.out HSt.out.low
                        · have z27 : (x == 27) = false := beq_eq_false_iff_ne.2 h27
                          have HNo : Hid (∀ u, u < t + 1 → (spL c)[u]? ≠ some 27) := Lib.hid fun u hu => by
                            rcases Nat.lt_or_ge u t with h | h
                            · exact hno u h
                            · obtain rfl : u = t := by omega
                              rw [hx]; exact fun e => h27 (Option.some.inj e)
                          clear hx hno hs hsl h27
                          go_wp2_with fail
                          go_roundw
                          case rel => exact ⟨t + 1, by go_num, by omega, HSt.out, HNo.out⟩
                          case measure => simp [intOf]; omega
                      · have dt : decide ((t : Int) < (n28 : Int)) = false := decide_eq_false (by omega)
                        have hall : (27 : Int) ∉ spL c := fun h => by
                          obtain ⟨u, hu, he⟩ := List.getElem_of_mem h
                          exact hno u (by rw [← NE.out] at hu; omega) (by rw [List.getElem?_eq_getElem hu, he])
                        have HPr := Lib.hid (prL_doc c ⟨HR.out, HD.out, hall⟩)
                        have HSl := Lib.hid hsl
                        clear hall hno hs hsl
                        go_wp2_with fail
                        go_ret
                        exact KPost.all HPr.out NE.out HSl.out HSt.out.low
                  · have zm : (m6 != 1) = true := bne_iff_ne.2 hm
                    have HPr := Lib.hid (not_last hag hm)
                    clear hag s6 b6 HRd
                    go_wp2_with fail
                    go_ret
                    exact KPost.none HPr.out HS7.out.low
            · have z5 : (c.ch != 0) = true := bne_iff_ne.2 hch
              obtain ⟨a29, n29, k29, W29, hr29, hn29, s29, kp29⟩ := S28.out.one (l' := spL c) (by have := HLs.out; simp only [List.length_append]; omega) rfl (by decide) c.ch (by unfold spL chL; rw [if_neg hch])
              obtain ⟨e0, e1, e2, e3, e4⟩ := row2Cells s29.box
              have S29 := Lib.hid s29
              have N29 := Lib.hid hn29
              clear kp29 s29 hn29
              clear hch
              go_wp2_with fail
              go_loopw [5] (fun v5 wr => ∃ j : Nat, v5 = .int .i64 j ∧ 1 ≤ j ∧ j ≤ n29 + 1 ∧ SpI w wr w.heap.size (.slice a29 n29 k29) (spL c) (cm2O c) ∧ Fnd c j) (fun v5 _ => n29 + 1 - (intOf v5).toNat)
              case atStart => exact ⟨1, rfl, Nat.le_refl _, by omega, S29.out, Fnd.first c⟩
              case round =>
                try clear q1 q2 q3
                obtain ⟨j, rfl, hj1, hj2, hs, hf⟩ := hrel
                have HSj := Lib.hid hs
                have HF := Lib.hid hf
                have hsl : Sl wr a29 k29 (nums (spL c)) := gm_own_sl (by have := hs.ow; rw [← N29.out] at this; exact this) (gm_nums_one _)
                have hcap : n29 ≤ k29 := by have := hsl.cap; rw [nums_len, ← N29.out] at this; exact this
                have hcapm := hsl.capm
                unfold maxLen at hcapm
                have hnb : n29 ≤ 30 := by rw [N29.out]; exact HSp.out
                have hpos : 0 < n29 := by rw [N29.out]; exact List.length_pos_iff.2 (spL_ne c)
                obtain ⟨ga, oa, hform⟩ := hsl.numsome (by rw [← N29.out]; exact hpos)
                by_cases hle : j ≤ n29
                · have dl : decide ((j : Int) ≤ (n29 : Int)) = true := decide_eq_true (by omega)
                  have htk : ((spL c).take j).length = j := by rw [List.length_take, ← N29.out]; omega
                  have hRd : Calls Tryd.prog 13 #[.slice a29 ((spL c).take j).length k29, .bool false, .bool false] wr (RdP wr a29 k29 ((spL c).take j) 0 false) := read_all (hsl.sq.take j) 0 false
                  unfold RdP at hRd
                  rw [htk] at hRd
                  have HRd := Lib.hid hRd
                  have HLe : Hid (j ≤ (spL c).length) := Lib.hid (by rw [← N29.out]; exact hle)
                  have e0 : (0 : Int) ≤ (j : Int) := by omega
                  have e1 : (j : Int) ≤ (k29 : Int) := by omega
                  subst hform
                  clear hRd hsl hs hf htk
                  go_wp2_with fail
                  refine HRd.out.mono ?_; rintro e w6 ⟨⟨C6, m6, er6⟩, i6, hag, rfl, b6⟩
                  have s7 := (HSj.out.below b6).below (t_al w6 (rgO (some ⟨ga, oa, none⟩) j k29 i6 C6 m6 er6))
                  obtain ⟨q0, q1, q2, q3, q4, q5, q6, q7, q8⟩ := rgCells (heap_alloc_new w6 (rgO (some ⟨ga, oa, none⟩) j k29 i6 C6 m6 er6))
                  obtain ⟨y0, y1, y2, y3, y4⟩ := row2Cells s7.box
                  have HS7 := Lib.hid s7
                  have hwhat := rg_what hag
                  simp only at hwhat
                  clear s7 HRd
                  rcases hwhat with rfl | rfl | rfl
                  · have HFm := Lib.hid (HF.out.more hj1 HLe.out hag rfl)
                    clear hag
                    go_wp2_with fail
                    go_roundw
                    case rel => exact ⟨j + 1, by go_num, by omega, by omega, HS7.out, HFm.out⟩
                    case measure => simp [intOf]; omega
                  · by_cases hjn : j < n29
                    · have dn : decide ((j : Int) < (n29 : Int)) = true := decide_eq_true (by omega)
                      have HPr := Lib.hid (not_early hj1 (by rw [← N29.out]; exact hjn) hag rfl)
                      clear hag
                      go_wp2_with fail
                      go_ret
                      exact KPost.none HPr.out HS7.out.low
                    · have dn : decide ((j : Int) < (n29 : Int)) = false := decide_eq_false (by omega)
                      have hjl : j = (spL c).length := by rw [← N29.out]; omega
                      cases hcm : cmEq C6 c
                      · have HPr := Lib.hid (not_other hjl hag rfl (fun h => by have h : C6 = c := h; rw [h, cmEq_refl] at hcm; cases hcm))
                        have HNe := Lib.hid (cm_not2 hcm)
                        have HLw := Lib.hid (HSj.out.below b6).low
                        clear hag hjl hcm
                        go_wp2_with fail
                        all_goals first
                          | exact absurd ⟨‹C6.op = c.op›, ‹C6.vb = c.vb›, ‹C6.ct = c.ct›, ‹C6.rg = c.rg›, ‹C6.ch = c.ch›⟩ HNe.out
                          | (go_ret; exact KPost.none HPr.out (HLw.out.trans ((t_al w6 _).mono HLw.out.size)))
                      · have hce := cmEq_eq hcm
                        subst hce
                        have HFm := Lib.hid (HF.out.made hjl hag rfl rfl)
                        clear hag hjl hcm
                        go_wp2_with fail
                        go_roundw
                        case rel => exact ⟨j + 1, by go_num, by omega, by omega, HS7.out, HFm.out⟩
                        case measure => simp [intOf]; omega
                  · have HPr := Lib.hid (not_two hj1 HLe.out hag rfl)
                    clear hag
                    go_wp2_with fail
                    go_ret
                    exact KPost.none HPr.out HS7.out.low
                · have dl : decide ((j : Int) ≤ (n29 : Int)) = false := decide_eq_false (by omega)
                  have hjn : j = (spL c).length + 1 := by rw [← N29.out]; omega
                  have hRd : Calls Tryd.prog 13 #[.slice a29 (spL c).length k29, .bool false, .bool false] wr (RdP wr a29 k29 (spL c) 0 false) := read_all hsl.sq 0 false
                  unfold RdP at hRd
                  rw [← N29.out] at hRd
                  have HRd := Lib.hid hRd
                  rw [hjn] at hf
                  have HF2 := Lib.hid hf
                  subst hform
                  have dl2 : decide (j ≤ n29) = false := decide_eq_false hle
                  have hgt : n29 < j := by omega
                  clear hRd hsl hs hf hjn hj1 hj2 HF
                  go_wp2_with fail
                  refine HRd.out.mono ?_; rintro e w6 ⟨⟨C6, m6, er6⟩, i6, hag, rfl, b6⟩
                  have s6 := HSj.out.below b6
                  have HS7 := Lib.hid s6
                  have hfd := rg_field (some ⟨ga, oa, none⟩) n29 k29 i6 C6 m6 er6
                  by_cases hm : m6 = 1
                  · subst hm
                    have HD := Lib.hid (HF2.out.dcd hag rfl)
                    clear hag s6 b6 HRd
                    go_wp2_with fail
                    go_loopw [111] (fun v111 wr => ∃ t : Nat, v111 = .int .i64 t ∧ t ≤ n29 ∧ SpI w wr w.heap.size (.slice (some ⟨ga, oa, none⟩) n29 k29) (spL c) (cm2O c) ∧ ∀ u, u < t → (spL c)[u]? ≠ some 27) (fun v111 _ => n29 - (intOf v111).toNat)
                    case atStart => exact ⟨0, rfl, Nat.zero_le _, HS7.out, fun u h => absurd h (by omega)⟩
                    case round =>
                      obtain ⟨t, rfl, ht, hs, hno⟩ := hrel
                      have HSt := Lib.hid hs
                      have hsl : Sl _ (some ⟨ga, oa, none⟩) k29 (nums (spL c)) := gm_own_sl (by have := hs.ow; rw [← N29.out] at this; exact this) (gm_nums_one _)
                      by_cases hlt : t < n29
                      · have dt : decide ((t : Int) < (n29 : Int)) = true := decide_eq_true (by omega)
                        obtain ⟨x, hx⟩ : ∃ x, (spL c)[t]? = some x := ⟨_, List.getElem?_eq_getElem (by rw [← N29.out]; exact hlt)⟩
                        have c0 := (hsl.num hx).1
                        have e0 : (0 : Int) ≤ (t : Int) := by omega
                        have e1 : (t : Int) < (n29 : Int) := by omega
                        by_cases h27 : x = 27
                        · have z27 : (x == 27) = true := by rw [h27]; rfl
                          have HPr := Lib.hid (not_27 (c := c) (by rw [← h27]; exact List.mem_of_getElem? hx))
                          clear hx hno hs hsl h27
                          go_wp2_with fail
                          go_ret
                          exact KPost.none HPr.out HSt.out.low
                        · have z27 : (x == 27) = false := beq_eq_false_iff_ne.2 h27
                          have HNo : Hid (∀ u, u < t + 1 → (spL c)[u]? ≠ some 27) := Lib.hid fun u hu => by
                            rcases Nat.lt_or_ge u t with h | h
                            · exact hno u h
                            · obtain rfl : u = t := by omega
                              rw [hx]; exact fun e => h27 (Option.some.inj e)
                          clear hx hno hs hsl h27
                          go_wp2_with fail
                          go_roundw
                          case rel => exact ⟨t + 1, by go_num, by omega, HSt.out, HNo.out⟩
                          case measure => simp [intOf]; omega
                      · have dt : decide ((t : Int) < (n29 : Int)) = false := decide_eq_false (by omega)
                        have hall : (27 : Int) ∉ spL c := fun h => by
                          obtain ⟨u, hu, he⟩ := List.getElem_of_mem h
                          exact hno u (by rw [← N29.out] at hu; omega) (by rw [List.getElem?_eq_getElem hu, he])
                        have HPr := Lib.hid (prL_doc c ⟨HR.out, HD.out, hall⟩)
                        have HSl := Lib.hid hsl
                        clear hall hno hs hsl
                        go_wp2_with fail
                        go_ret
                        exact KPost.all HPr.out N29.out HSl.out HSt.out.low
                  · have zm : (m6 != 1) = true := bne_iff_ne.2 hm
                    have HPr := Lib.hid (not_last hag hm)
                    clear hag s6 b6 HRd
                    go_wp2_with fail
                    go_ret
                    exact KPost.none HPr.out HS7.out.low
  · have HPr : Hid (prL c = []) := Lib.hid (prL_not c (fun h => hr h.1))
    have HB := Lib.hid S15.out.low
    by_cases hneg : c.ct < 0
    · have r1 : decide (c.ct < 0) = true := decide_eq_true hneg
      clear hr hneg
      go_enter Tryd.func6, Tryd.ntmps6
      go_wp2_with fail
      go_ret
      exact KPost.none HPr.out HB.out
    · have r1 : decide (c.ct < 0) = false := decide_eq_false hneg
      have r2 : decide (9999 < c.ct) = true := decide_eq_true (by omega)
      clear hr hneg
      go_enter Tryd.func6, Tryd.ntmps6
      go_wp2_with fail
      go_ret
      exact KPost.none HPr.out HB.out
end Go.Proofs.YtjmpokgdgnjojaaDoor
