/-
  The walk of ScanAll, at this seat's numbers.
-/
import Derived.Test.YtphfhmabchfjjaaScW
import Derived.Test.YtphfhmabchfjjaaScY
import Derived.Test.YtphfhmabchfjjaaScJ
import Derived.Deep.RegionWith
import Derived.Deep.RegionHeld3
namespace Go.Proofs.Ytphfhmabchfjjaa
open Go Go.RowKit
set_option linter.unusedVariables false

/-- The head of the loop over rows. -/
def SaJ (n : Nat) (w : World) (v22 : Value) (wr : World) : Prop := ∃ r : Nat, v22 = .int .i64 r ∧ r ≤ n ∧ Below w.heap.size w wr

/-- What a call of Value tells, as a text. -/
def VPost (sv : ByteArray) (w : World) (e : Ending) (w' : World) : Prop := ∃ a n c, e = .returned (.slice a n c) ∧ (convert 55 9 (.slice a n c)).run Try.prog w' = .ok (.string sv) w' ∧ Below w.heap.size w w'

/-- The same, with all that is older. -/
def VPost2 (sv : ByteArray) (wf w : World) (e : Ending) (w' : World) : Prop := ∃ a n c, e = .returned (.slice a n c) ∧ (convert 55 9 (.slice a n c)).run Try.prog w' = .ok (.string sv) w' ∧ Below wf.heap.size wf w' ∧ Below w.heap.size w w'

set_option maxRecDepth 100000 in
set_option maxHeartbeats 8000000 in
theorem scanAll_walk (s : ByteArray) (w : World) (hs : s.size ≤ maxLen) :
    Calls Try.prog 7 #[.string s] w fun e w' => e = .returned (.bool true) ∧ Below w.heap.size w w' := by
  have HC := Lib.hid (fun w' => cut5_of s 1000 w' hs (by decide))
  have hcl := cutS_le s 1000
  clear hs
  generalize cutS s 1000 = t at *
  obtain ⟨l, hl⟩ : ∃ l, t.data.toList = l := ⟨_, rfl⟩
  have hsz := sz_of hl
  rw [hsz] at hcl
  have HL := Lib.hid hl
  clear hl
  go_enter Try.func7, Try.ntmps7
  go_wp2_with fail
  refine (HC.out _).mono ?_; rintro e wx ⟨rfl, rfl⟩
  obtain ⟨cap, W1, hcv, hH, hb1⟩ := held_of t w (by rw [hsz]; unfold maxLen; omega)
  have hrd : Rd W1 1 (some ⟨w.heap.size, 0, none⟩) l.length (bc l) := by have := rd_held hH; rw [HL.out] at this; exact this
  have HALL := Lib.hid (all_of (c := cap) hrd (by omega) (by rw [← hsz]; exact hH.fits) hH.cap)
  have HB1 := Lib.hid hb1
  rw [hsz] at hcv
  clear hH hb1 HC hrd
  go_wp2_with fail
  refine HALL.out.mono ?_; rintro e w2 ⟨rs, a4, c4, rfl, hm, ho, hi, hb⟩
  have HB2 := Lib.hid (HB1.out.trans (hb.mono HB1.out.size))
  have HM := Lib.hid hm
  have HO2 := Lib.hid ho
  have HI2 := Lib.hid hi
  have HRA := Lib.hid (rall_of HL.out (by omega) w2)
  have hrl : rs.length ≤ 1000000 := by
    have h1 := congrArg List.length hm
    have h2 := allP_len l _ 0 rfl
    rw [List.length_map] at h1
    omega
  clear hm ho hi hb HALL HB1 hcv
  go_wp2_with fail
  refine HRA.out.mono ?_; rintro e w3 ⟨qs, a6, c6, rfl, hm2, ho2, hi2, hb2⟩
  have hlq : qs.length = rs.length := by
    have h1 := congrArg List.length hm2
    have h2 := congrArg List.length HM.out
    rw [List.length_map] at h1 h2
    omega
  have HB3 := Lib.hid (HB2.out.trans (hb2.mono HB2.out.size))
  have HM2 := Lib.hid hm2
  have HO := Lib.hid (own_below HO2.out hb2)
  have HI := Lib.hid (HI2.out.below hb2)
  have HQ := Lib.hid ho2
  have HJ := Lib.hid hi2
  have HLQ := Lib.hid hlq
  rw [hlq]
  clear hm2 ho2 hi2 hb2 hlq HRA HO2 HI2 HB2
  go_wp2_with fail
  go_loopw [22] (fun v22 wr => SaJ rs.length w3 v22 wr) (fun v22 _ => rs.length - (intOf v22).toNat)
  case atStart => exact ⟨0, rfl, by omega, Below.refl _ _⟩
  case round =>
    obtain ⟨wq, rfl⟩ : ∃ wq : World, wq = wr := ⟨_, rfl⟩
    obtain ⟨r, rfl, hr, hb⟩ := hrel
    have HB := Lib.hid hb
    have hzr := hb.size
    clear hb
    by_cases hlt : r < rs.length
    · have dr : decide (r < rs.length) = true := decide_eq_true hlt
      have hlt2 : r < qs.length := by rw [HLQ.out]; exact hlt
      rcases own_form HO.out with ⟨_, h0⟩ | ⟨g, rfl, _, hg⟩
      · omega
      rcases own_form HQ.out with ⟨_, h0⟩ | ⟨g2, hg2e, _, hg2⟩
      · omega
      subst hg2e
      have hRq : qs[r].1 = rs[r].1 := by
        have h1 : (rs.map (·.1))[r]? = (qs.map (·.1))[r]? := by rw [HM.out, HM2.out]
        rw [List.getElem?_map, List.getElem?_map, List.getElem?_eq_getElem hlt, List.getElem?_eq_getElem hlt2] at h1
        simpa using h1.symm
      have hmem : rs[r].1 ∈ allP l 0 := by rw [← HM.out]; exact List.mem_map.2 ⟨rs[r], List.getElem_mem hlt, rfl⟩
      have hrf := row_fields hmem
      have hri := HI.out rs[r] (List.getElem_mem hlt)
      have hqi := HJ.out qs[r] (List.getElem_mem hlt2)
      have p0 := (HB.out.cell (p := ⟨g, r * 2 + 0, none⟩) hg).trans (own_cells HO.out ((rwC_at rs r rs[r] 0 (List.getElem?_eq_getElem hlt) (by omega)).trans rfl))
      have p1 := (HB.out.cell (p := ⟨g, r * 2 + 1, none⟩) hg).trans (own_cells HO.out ((rwC_at rs r rs[r] 1 (List.getElem?_eq_getElem hlt) (by omega)).trans rfl))
      have q0 := (HB.out.cell (p := ⟨g2, r * 2 + 0, none⟩) hg2).trans (own_cells HQ.out ((rwC_at qs r qs[r] 0 (List.getElem?_eq_getElem hlt2) (by omega)).trans rfl))
      have q1 := (HB.out.cell (p := ⟨g2, r * 2 + 1, none⟩) hg2).trans (own_cells HQ.out ((rwC_at qs r qs[r] 1 (List.getElem?_eq_getElem hlt2) (by omega)).trans rfl))
      rw [hRq] at q1
      rw [Nat.add_zero] at p0 q0
      generalize hP : rs[r] = P at *
      generalize hQ' : qs[r] = Q at *
      clear hP hQ'
      obtain ⟨R, ps, pa, pc⟩ := P
      obtain ⟨R', zs, qa, qc⟩ := Q
      simp only at hRq p0 p1 q0 q1 hrf hmem
      subst hRq
      have HLK := Lib.hid (fun w' (hb : Below w3.heap.size w3 w') => like5_of (hri.below hb) (hqi.below hb) (fun f hf => ⟨fun x hx => by have := (hrf.2 f hf).1 x hx; omega, by have := (hrf.2 f hf).2; omega⟩) (by have := hrf.1; omega))
      have HRI := Lib.hid hri
      have HQI := Lib.hid hqi
      have HRF := Lib.hid hrf
      have hpl : ps.length = R'.fs.length := by rw [← hri.fs]; simp
      have hzl : zs.length = ps.length := by rw [hpl, ← hqi.fs]; simp
      have hpn : ps.length ≤ 1000000 := by have := hrf.1; omega
      rw [hzl] at q0
      rw [hzl] at HLK
      have HPL := Lib.hid hpl
      have HZL := Lib.hid hzl
      have i0 : (0 : Int) ≤ (r : Int) := by omega
      have i1 : (r : Int) < (rs.length : Int) := by omega
      have hgq : g < wq.heap.size := by omega
      have hg2q : g2 < wq.heap.size := by omega
      clear hri hqi hrf hmem hpl hzl
      go_upto_region 8 with fail
      go_cut [34] (fun s34 wx => s34 = .bool false ∧ Below wq.heap.size wq wx)
      case first =>
        go_region_with ((go_at_call 37; refine (HLK.out _ (HB.out.trans (((Below.refl _ wq).drew).mono hzr))).mono ?_; rintro e w' ⟨rfl, hbl⟩; have hbl2 := Lib.hid (((Below.refl _ wq).drew).trans (hbl.mono (Nat.le_refl _))); clear hbl))
        all_goals go_wp2_with fail
        all_goals go_meet
        all_goals exact ⟨rfl, hbl2.out⟩
      case rest =>
        obtain ⟨rfl, hbw⟩ := hcut
        have HBw := Lib.hid hbw
        have hzc := hbw.size
        have p0c := (hbw.cell (p := ⟨g, r * 2, none⟩) hgq).trans p0
        have q0c := (hbw.cell (p := ⟨g2, r * 2, none⟩) hg2q).trans q0
        have Q0 := Lib.hid q0c
        have hg2c : g2 < wc.heap.size := by omega
        clear hbw p0 p1 q0 q1 q0c HLK hgq
        go_wp2_with fail
        clear p0c
        go_loopw [41] (fun v41 wr => SaJ ps.length wc v41 wr) (fun v41 _ => ps.length - (intOf v41).toNat)
        case atStart => exact ⟨0, rfl, by omega, Below.refl _ _⟩
        case round =>
          obtain ⟨k, rfl, hk, hbi⟩ := hrel
          have HBi := Lib.hid hbi
          have hzi := hbi.size
          clear hbi
          by_cases hkl : k < ps.length
          · have dk : decide (k < ps.length) = true := decide_eq_true hkl
            have hkl2 : k < zs.length := by rw [HZL.out]; exact hkl
            rcases own_form HRI.out.own with ⟨_, h0⟩ | ⟨gf, hgf, _, hgf2⟩
            · simp only at h0; omega
            rcases own_form HQI.out.own with ⟨_, h0⟩ | ⟨gz, hgz, _, hgz2⟩
            · simp only at h0; omega
            simp only at hgf hgz
            subst hgf hgz
            have hFk : k < R'.fs.length := by rw [← HPL.out]; exact hkl
            have hFP : ps[k].1 = R'.fs[k] := by
              have h := HRI.out.fs; simp only at h
              simp only [← h, List.getElem_map]
            have hFQ : zs[k].1 = R'.fs[k] := by
              have h := HQI.out.fs; simp only at h
              simp only [← h, List.getElem_map]
            have hF := HRF.out.2 _ (List.getElem_mem hFk)
            have hbb := HB.out.trans ((HBw.out.trans (HBi.out.mono hzc)).mono hzr)
            have hpp := own_below (HRI.out.parts ps[k] (List.getElem_mem hkl)) hbb
            have hqp := own_below (HQI.out.parts zs[k] (List.getElem_mem hkl2)) hbb
            have hc := fun (o : Nat) (u : Value) (ho : o < 4) (hu : (fdC1 ps[k])[o]? = some u) => (hbb.cell (p := ⟨gf, k * 4 + o, none⟩) hgf2).trans (own_cells HRI.out.own ((fdC_at ps k ps[k] o (List.getElem?_eq_getElem hkl) ho).trans hu))
            have q3 := (hbb.cell (p := ⟨gz, k * 4 + 3, none⟩) hgz2).trans (own_cells HQI.out.own ((rfC_at zs k zs[k] 3 (List.getElem?_eq_getElem hkl2) (by omega)).trans rfl))
            have p0 := hc 0 _ (by omega) rfl
            have p1 := hc 1 _ (by omega) rfl
            have p2 := hc 2 _ (by omega) rfl
            have p3 := hc 3 _ (by omega) rfl
            rw [hFP] at p0 p1 p2 p3 hpp
            rw [hFQ] at q3 hqp
            rw [Nat.add_zero] at p0
            obtain ⟨a5, c5, h5⟩ : ∃ a5 c5, ps[k].2 = (a5, c5) := ⟨_, _, rfl⟩
            obtain ⟨a6', c6', h6⟩ : ∃ a6 c6, zs[k].2 = (a6, c6) := ⟨_, _, rfl⟩
            rw [h5] at p3 hpp
            rw [h6] at q3 hqp
            simp only at p3 hpp q3 hqp
            have hgzr : gz < wr.heap.size := by have := hbb.size; omega
            have hg2r : g2 < wr.heap.size := by omega
            have hq0r := (HBi.out.cell (p := ⟨g2, r * 2, none⟩) hg2c).trans Q0.out
            clear hc hFP hFQ h5 h6 hbb
            generalize R'.fs[k] = F at *
            generalize (F.from_ : Int) = x0 at *
            generalize (F.to_ : Int) - x0 = x1 at *
            generalize F.kind = x2 at *
            have al := below_al wr (Obj.cells #[Value.int IntKind.i64 x0, Value.int IntKind.i64 x1, Value.int IntKind.i64 x2, Value.slice a5 (canon F.pl).length c5] 77)
            have hfn := heap_alloc_new wr (Obj.cells #[Value.int IntKind.i64 x0, Value.int IntKind.i64 x1, Value.int IntKind.i64 x2, Value.slice a5 (canon F.pl).length c5] 77)
            have hzf : (wr.alloc (Obj.cells #[Value.int IntKind.i64 x0, Value.int IntKind.i64 x1, Value.int IntKind.i64 x2, Value.slice a5 (canon F.pl).length c5] 77)).heap.size = wr.heap.size + 1 := by simp
            have hq3f := (al.cell (p := ⟨gz, k * 4 + 3, none⟩) hgzr).trans q3
            have hq0f := (al.cell (p := ⟨g2, r * 2, none⟩) hg2r).trans hq0r
            have hppf := own_below hpp al
            have hqpf := own_below hqp al
            have hBf := Lib.hid (HBi.out.trans (al.mono hzi))
            go_upto_region 13 with fail
            clear al p0 p1 p2 p3 q3 hq0r hpp hqp
            generalize wr.alloc (Obj.cells #[Value.int IntKind.i64 x0, Value.int IntKind.i64 x1, Value.int IntKind.i64 x2, Value.slice a5 (canon F.pl).length c5] 77) = wf at *
            have hcn := canon_count F.pl
            have y0 : wf.cell? ⟨wr.heap.size, 0, none⟩ = some (.int .i64 x0) := by rw [cell_at hfn]; rfl
            have y1 : wf.cell? ⟨wr.heap.size, 1, none⟩ = some (.int .i64 x1) := by rw [cell_at hfn]; rfl
            have y2 : wf.cell? ⟨wr.heap.size, 2, none⟩ = some (.int .i64 x2) := by rw [cell_at hfn]; rfl
            have y3 : wf.cell? ⟨wr.heap.size, 3, none⟩ = some (.slice a5 (canon F.pl).length c5) := by rw [cell_at hfn]; rfl
            refine regSA t (strOf (atL l F.pl)) x0 x1 x2 a5 a6' (canon F.pl).length c5 g2 rs.length c6 r gz ps.length qc k F.pl.length c6' wr.heap.size rfl rfl rfl rfl rfl rfl i0 i1 (by omega) (by omega) (by rw [hsz]; unfold maxLen; omega)
              (fun w' hb => (hb.cell (p := ⟨wr.heap.size, 0, none⟩) (by show wr.heap.size < _; omega)).trans y0) (fun w' hb => (hb.cell (p := ⟨wr.heap.size, 1, none⟩) (by show wr.heap.size < _; omega)).trans y1) (fun w' hb => (hb.cell (p := ⟨wr.heap.size, 2, none⟩) (by show wr.heap.size < _; omega)).trans y2) (fun w' hb => (hb.cell (p := ⟨wr.heap.size, 3, none⟩) (by show wr.heap.size < _; omega)).trans y3)
              (fun w' hb => (hb.cell (p := ⟨g2, r * 2, none⟩) (by show g2 < _; omega)).trans hq0f) (fun w' hb => (hb.cell (p := ⟨gz, k * 4 + 3, none⟩) (by show gz < _; omega)).trans hq3f) ?_ ?_ ?_
            · intro w' hb b cap hh
              have hrd2 : Rd w' 1 (some ⟨b, 0, none⟩) l.length (bc l) := by have := rd_held hh; rw [HL.out] at this; exact this
              rw [hsz]
              refine (value_of (c := cap) hrd2 hh.lies (by omega) (by rw [← hsz]; exact hh.fits) hh.cap (rd_own (own_below hppf hb)) (by omega) x0 x1 x2).mono ?_
              rintro e w2 ⟨a9, c9, rfl, ho9, hb9⟩
              rw [valL_canon hF.1] at ho9 ⊢
              exact ⟨_, rfl, ⟨⟨_, _, _, rfl⟩, fun w3 h3 => string_own (own_below ho9 h3)⟩, hb.trans (hb9.mono hb.size), hb9⟩
            · intro w' hb
              exact text_of HL.out (by omega) (w := w') (c := c6') (rd_own (own_below hqpf hb)) hF.1 (by omega)
            · intro a w' hd hs hfr h62 hbx
              have ha := frame_of hd hs hfr [46, 47, 48, 49, 50, 51, 52, 53, 54, 55, 56, 57, 58, 59, 60, 61, 62] (by kernel_rfl)
              simp only [List.foldl_cons, List.foldl_nil] at ha
              rw [h62] at ha
              clear hd hs hfr h62
              generalize a.tmps.getD 46 undef = v46 at ha
              generalize a.tmps.getD 47 undef = v47 at ha
              generalize a.tmps.getD 48 undef = v48 at ha
              generalize a.tmps.getD 49 undef = v49 at ha
              generalize a.tmps.getD 50 undef = v50 at ha
              generalize a.tmps.getD 51 undef = v51 at ha
              generalize a.tmps.getD 52 undef = v52 at ha
              generalize a.tmps.getD 53 undef = v53 at ha
              generalize a.tmps.getD 54 undef = v54 at ha
              generalize a.tmps.getD 55 undef = v55 at ha
              generalize a.tmps.getD 56 undef = v56 at ha
              generalize a.tmps.getD 57 undef = v57 at ha
              generalize a.tmps.getD 58 undef = v58 at ha
              generalize a.tmps.getD 59 undef = v59 at ha
              generalize a.tmps.getD 60 undef = v60 at ha
              generalize a.tmps.getD 61 undef = v61 at ha
              subst ha
              have HBx := Lib.hid (hBf.out.trans (hbx.mono hBf.out.size))
              clear hbx y0 y1 y2 y3 hq3f hq0f hF hcn
              rename_i Kx hKx
              simp only [List.setIfInBounds_toArray, List.set_cons_succ, List.set_cons_zero]
              show Kx _ _
              go_wp2_with fail
              go_roundw
              case rel => exact ⟨k + 1, by go_num, hkl, HBx.out⟩
              case measure => simp [intOf]; omega
          · have dk : decide (k < ps.length) = false := decide_eq_false hkl
            have HBy := Lib.hid (HB.out.trans ((HBw.out.trans (HBi.out.mono hzc)).mono hzr))
            go_wp2_with fail
            go_roundw
            case rel => exact ⟨r + 1, by go_num, hlt, HBy.out⟩
            case measure => simp [intOf]; omega
    · have dr : decide (r < rs.length) = false := decide_eq_false hlt
      have HBw := Lib.hid (HB3.out.trans (HB.out.mono (by have := HB3.out.size; omega)))
      clear HO HI HQ HJ
      go_wp2_with fail
      refine (awake5_of _).mono ?_; rintro e w4 ⟨rfl, hb4⟩
      have HB4 := Lib.hid (HBw.out.trans (hb4.mono HBw.out.size))
      clear hb4
      go_wp2_with fail
      go_ret
      exact ⟨rfl, HB4.out⟩

end Go.Proofs.Ytphfhmabchfjjaa
