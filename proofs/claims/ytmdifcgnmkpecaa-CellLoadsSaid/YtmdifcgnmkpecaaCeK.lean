/-
  The walk of CellLoads, at this seat's numbers.
-/
import Derived.Test.YtmdifcgnmkpecaaCeI
import Derived.Test.YtmdifcgnmkpecaaScT
import Derived.Deep.RegionHeldLaw
namespace Go.Proofs.Ytmdifcgnmkpecaa
open Go Go.RowKit
set_option linter.unusedVariables false

/-- The head of a loop that only goes on. -/
def ClJ (n : Nat) (w : World) (v : Value) (wr : World) : Prop := ∃ r : Nat, v = .int .i64 r ∧ r ≤ n ∧ Below w.heap.size w wr
theorem ext_sub {s : ByteArray} {l : List UInt8} (hs : s.data.toList = l) {i j : Nat} (hi : i ≤ j) (hj : j ≤ l.length) : s.extract i j = strOf (subL l i ((j : Int) - i)) := by
  have e : s.extract i j = strOf ((s.data.toList.drop i).take (j - i)) := by
    apply ByteArray.ext
    simp [strOf, ByteArray.data_extract]
    rw [← Array.toList_inj]
    simp [List.extract_eq_take_drop]
  rw [e, hs]
  unfold subL rightB
  rw [if_pos (by simp only [decide_eq_true_eq]; omega)]
  congr 2
  omega

set_option maxRecDepth 100000 in
set_option maxHeartbeats 8000000 in
theorem cellLoads_walk (s : ByteArray) (w : World) (hs : s.size ≤ maxLen) (_ : ML w) :
    Calls Try.prog 3 #[.string s] w fun e w' => e = .returned (.bool true) ∧ Below w.heap.size w w' := by
  have HC := Lib.hid (fun w' => cut7_of s 600 w' hs (by decide))
  have hcl := cutS_le s 600
  clear hs
  generalize cutS s 600 = t at *
  obtain ⟨l, hl⟩ : ∃ l, t.data.toList = l := ⟨_, rfl⟩
  have hsz := sz_of hl
  rw [hsz] at hcl
  have HL := Lib.hid hl
  clear hl
  go_enter Try.func3, Try.ntmps3
  go_wp2_with fail
  refine (HC.out _).mono ?_; rintro e wx ⟨rfl, rfl⟩
  obtain ⟨cap, W1, hcv, hH, hb1⟩ := held_of t w (by rw [hsz]; unfold maxLen; omega)
  have hrd : Rd W1 1 (some ⟨w.heap.size, 0, none⟩) l.length (bc l) := by have := rd_held hH; rw [HL.out] at this; exact this
  have HN := Lib.hid (new_of _ cap hrd (by omega))
  have HB12 := Lib.hid hb1
  rw [hsz] at hcv
  clear hH hb1 HC hrd
  go_wp2_with fail
  refine HN.out.mono ?_; rintro e w2 ⟨p, rfl, hA, hb2⟩
  have HA := Lib.hid hA
  have HB3 := Lib.hid (HB12.out.trans (hb2.mono HB12.out.size))
  have HRA := Lib.hid (rall_of HL.out (by omega) w2)
  clear hA hb2 HN hcv HB12
  go_wp2_with fail
  refine HRA.out.mono ?_; rintro e w3 ⟨qs, a6, c6, rfl, hm2, ho2, hi2, hb2⟩
  have HM2 := Lib.hid hm2
  have HQ := Lib.hid ho2
  have HJ := Lib.hid hi2
  have HA3 := Lib.hid (HA.out.below hb2)
  have HB4 := Lib.hid (HB3.out.trans (hb2.mono HB3.out.size))
  clear hm2 ho2 hi2 hb2 HRA HA HB3
  obtain ⟨cap, W2, hcv, hH, hb2⟩ := held_of t w3 (by rw [hsz]; unfold maxLen; omega)
  have hrd : Rd W2 1 (some ⟨w3.heap.size, 0, none⟩) l.length (bc l) := by have := rd_held hH; rw [HL.out] at this; exact this
  have HALL := Lib.hid (all_of (c := cap) hrd (by omega) (by rw [← hsz]; exact hH.fits) hH.cap)
  have HB5 := Lib.hid hb2
  rw [hsz] at hcv
  clear hH hb2 hrd
  go_wp2_with fail
  refine HALL.out.mono ?_; rintro e w4 ⟨rs, a4, c4, rfl, hm, ho, hi, hb⟩
  have HW4 := Lib.hid (HB5.out.trans (hb.mono HB5.out.size))
  have hlq : qs.length = rs.length := by
    have h1 := congrArg List.length hm
    have h2 := congrArg List.length HM2.out
    rw [List.length_map] at h1 h2
    omega
  have HM := Lib.hid hm
  have HO := Lib.hid ho
  have HI := Lib.hid hi
  have HQ4 := Lib.hid (own_below HQ.out HW4.out)
  have HJ4 := Lib.hid (HJ.out.below HW4.out)
  have HA4 := Lib.hid (HA3.out.below HW4.out)
  have HB6 := Lib.hid (HB4.out.trans (HW4.out.mono HB4.out.size))
  have hrl : rs.length ≤ 600 := by
    have h1 := congrArg List.length hm
    have h2 := allP_cnt l _ 0 rfl
    rw [List.length_map] at h1
    omega
  have HLQ := Lib.hid hlq
  rw [hlq]
  have dn : ((rs.length : Int) != (rs.length : Int)) = false := by simp
  clear hm ho hi hb HALL hcv HQ HJ HA3 HB4 HB5 HW4 hlq
  go_wp2_with fail
  go_loopw [40] (fun v40 wr => ClJ rs.length w4 v40 wr) (fun v40 _ => rs.length - (intOf v40).toNat)
  case atStart => exact ⟨0, rfl, by omega, Below.refl _ _⟩
  case round =>
    obtain ⟨wq, rfl⟩ : ∃ wq : World, wq = wr := ⟨_, rfl⟩
    obtain ⟨r, rfl, hr, hb⟩ := hrel
    have HB := Lib.hid hb
    have hzr := hb.size
    clear hb
    by_cases hlt : r < rs.length
    · have dr : decide (r < rs.length) = true := decide_eq_true hlt
      have hlt2 : r < qs.length := by rw [HLQ.out]; exact hlt
      rcases own_form HO.out with ⟨_, h0⟩ | ⟨g, rfl, _, hg⟩
      · omega
      rcases own_form HQ4.out with ⟨_, h0⟩ | ⟨g2, hg2e, _, hg2⟩
      · omega
      subst hg2e
      have hRq : qs[r].1 = rs[r].1 := by
        have h1 : (rs.map (·.1))[r]? = (qs.map (·.1))[r]? := by rw [HM.out, HM2.out]
        rw [List.getElem?_map, List.getElem?_map, List.getElem?_eq_getElem hlt, List.getElem?_eq_getElem hlt2] at h1
        simpa using h1.symm
      have hmem : rs[r].1 ∈ allP l 0 := by rw [← HM.out]; exact List.mem_map.2 ⟨rs[r], List.getElem_mem hlt, rfl⟩
      have hrf := row_fields hmem
      have hrf2 := row_fields2 hmem
      have hri := HI.out rs[r] (List.getElem_mem hlt)
      have hqi := HJ4.out qs[r] (List.getElem_mem hlt2)
      have p0 := (HB.out.cell (p := ⟨g, r * 2 + 0, none⟩) hg).trans (own_cells HO.out ((rwC_at rs r rs[r] 0 (List.getElem?_eq_getElem hlt) (by omega)).trans rfl))
      have p1 := (HB.out.cell (p := ⟨g, r * 2 + 1, none⟩) hg).trans (own_cells HO.out ((rwC_at rs r rs[r] 1 (List.getElem?_eq_getElem hlt) (by omega)).trans rfl))
      have q0 := (HB.out.cell (p := ⟨g2, r * 2 + 0, none⟩) hg2).trans (own_cells HQ4.out ((rwC_at qs r qs[r] 0 (List.getElem?_eq_getElem hlt2) (by omega)).trans rfl))
      rw [Nat.add_zero] at p0 q0
      generalize hP : rs[r] = P at *
      generalize hQ' : qs[r] = Q at *
      clear hP hQ'
      obtain ⟨R, ps, pa, pc⟩ := P
      obtain ⟨R', zs, qa, qc⟩ := Q
      simp only at hRq p0 p1 q0 hrf hrf2 hmem
      subst hRq
      have hpl : ps.length = R'.fs.length := by rw [← hri.fs]; simp
      have hzl : zs.length = ps.length := by rw [hpl, ← hqi.fs]; simp
      have hpn : ps.length ≤ 1000000 := by have := hrf.1; omega
      rw [hzl] at q0
      have HRI := Lib.hid hri
      have HQI := Lib.hid hqi
      have HRF := Lib.hid hrf
      have HRG := Lib.hid hrf2
      have HPL := Lib.hid hpl
      have HZL := Lib.hid hzl
      have i0 : (0 : Int) ≤ (r : Int) := by omega
      have i1 : (r : Int) < (rs.length : Int) := by omega
      have hgq : g < wq.heap.size := by omega
      have hg2q : g2 < wq.heap.size := by omega
      have al := below_al wq (Obj.cells #[Value.slice pa ps.length pc, Value.int .i64 R'.fin] 34)
      have hfn := heap_alloc_new wq (Obj.cells #[Value.slice pa ps.length pc, Value.int .i64 R'.fin] 34)
      clear hri hqi hrf hrf2 hmem hpl hzl
      go_upto_region 12 with fail
      have HBr := Lib.hid al
      have k8 : (wq.alloc (Obj.cells #[Value.slice pa ps.length pc, Value.int .i64 R'.fin] 34)).cell? ⟨wq.heap.size, 0, none⟩ = some (.slice pa ps.length pc) := by rw [cell_at hfn]; rfl
      have q0r := (al.cell (p := ⟨g2, r * 2, none⟩) hg2q).trans q0
      have hzf : (wq.alloc (Obj.cells #[Value.slice pa ps.length pc, Value.int .i64 R'.fin] 34)).heap.size = wq.heap.size + 1 := by simp
      generalize wq.alloc (Obj.cells #[Value.slice pa ps.length pc, Value.int .i64 R'.fin] 34) = wz at *
      have dz : ((ps.length : Int) != (ps.length : Int)) = false := by simp
      clear al hfn p0 p1 q0
      go_quiet (fail)
      go_upto_region 14 with fail
      have k8 : (wz.drewN nq).cell? ⟨wq.heap.size, 0, none⟩ = some (.slice pa ps.length pc) := k8
      have q0r : (wz.drewN nq).cell? ⟨g2, r * 2, none⟩ = some (.slice qa ps.length qc) := q0r
      have HBr2 := Lib.hid (below_draw1 (Below.refl wz.heap.size wz) nq)
      have hzn : wq.heap.size < (wz.drewN nq).heap.size := by show wq.heap.size < wz.heap.size; omega
      have HBq := Lib.hid (HBr.out.trans (HBr2.out.mono (by omega)))
      clear HBr HBr2 hzf
      generalize wz.drewN nq = wy at *
      have HBy := Lib.hid (HB.out.trans (HBq.out.mono hzr))
      go_wp2_with fail
      go_loopw [58] (fun v58 wr => ClJ ps.length wy v58 wr) (fun v58 _ => ps.length - (intOf v58).toNat)
      case atStart => exact ⟨0, rfl, by omega, Below.refl _ _⟩
      case round =>
        obtain ⟨k, rfl, hk, hbi⟩ := hrel
        have HBi := Lib.hid hbi
        have hzi := hbi.size
        clear hbi
        by_cases hkl : k < ps.length
        · have dk : decide (k < ps.length) = true := decide_eq_true hkl
          have hkl2 : k < zs.length := by rw [HZL.out]; exact hkl
          rcases own_form HRI.out.own with ⟨_, h0⟩ | ⟨gf, hgf, _, hgf2⟩
          · simp only at h0; omega
          rcases own_form HQI.out.own with ⟨_, h0⟩ | ⟨gz, hgz, _, hgz2⟩
          · simp only at h0; omega
          simp only at hgf hgz
          subst hgf hgz
          have hFk : k < R'.fs.length := by rw [← HPL.out]; exact hkl
          have hFP : ps[k].1 = R'.fs[k] := by
            have h := HRI.out.fs; simp only at h
            simp only [← h, List.getElem_map]
          have hFQ : zs[k].1 = R'.fs[k] := by
            have h := HQI.out.fs; simp only at h
            simp only [← h, List.getElem_map]
          have hF := HRF.out.2 _ (List.getElem_mem hFk)
          have hG := HRG.out _ (List.getElem_mem hFk)
          have hbb : Below w4.heap.size w4 wr := HBy.out.trans (HBi.out.mono HBy.out.size)
          have hpp := own_below (HRI.out.parts ps[k] (List.getElem_mem hkl)) hbb
          have hqp := own_below (HQI.out.parts zs[k] (List.getElem_mem hkl2)) hbb
          have hc := fun (o : Nat) (u : Value) (ho : o < 4) (hu : (fdC1 ps[k])[o]? = some u) => (hbb.cell (p := ⟨gf, k * 4 + o, none⟩) hgf2).trans (own_cells HRI.out.own ((fdC_at ps k ps[k] o (List.getElem?_eq_getElem hkl) ho).trans hu))
          have hd := fun (o : Nat) (u : Value) (ho : o < 4) (hu : (rfC1 zs[k])[o]? = some u) => (hbb.cell (p := ⟨gz, k * 4 + o, none⟩) hgz2).trans (own_cells HQI.out.own ((rfC_at zs k zs[k] o (List.getElem?_eq_getElem hkl2) ho).trans hu))
          have p0 := hc 0 _ (by omega) rfl
          have p1 := hc 1 _ (by omega) rfl
          have p2 := hc 2 _ (by omega) rfl
          have p3 := hc 3 _ (by omega) rfl
          have q0 := hd 0 _ (by omega) rfl
          have q1 := hd 1 _ (by omega) rfl
          have q2 := hd 2 _ (by omega) rfl
          have q3 := hd 3 _ (by omega) rfl
          rw [hFP] at p0 p1 p2 p3 hpp
          rw [hFQ] at q0 q1 q2 q3 hqp
          rw [Nat.add_zero] at p0 q0
          obtain ⟨a5, c5, h5⟩ : ∃ a5 c5, ps[k].2 = (a5, c5) := ⟨_, _, rfl⟩
          obtain ⟨a7, c7, h7⟩ : ∃ a7 c7, zs[k].2 = (a7, c7) := ⟨_, _, rfl⟩
          rw [h5] at p3 hpp
          rw [h7] at q3 hqp
          simp only at p3 hpp q3 hqp
          have hg2y : g2 < wy.heap.size := by omega
          have hq0r := (HBi.out.cell (p := ⟨g2, r * 2, none⟩) hg2y).trans q0r
          have HBB := Lib.hid hbb
          have hgzr : gz < wr.heap.size := by have := hbb.size; omega
          clear hc hd hFP hFQ h5 h7 hbb
          generalize R'.fs[k] = F at *
          have HXS := Lib.hid (ext_sub HL.out hG.1 hG.2)
          have hw1 : IntKind.i64.wrap ((F.from_ : Int) + ((F.to_ : Int) - F.from_)) = (F.to_ : Int) := by rw [IntKind.wrap_i64]; omega
          obtain ⟨hG1, hG2⟩ := hG
          generalize hx2 : (F.to_ : Int) - (F.from_ : Int) = x2 at *
          generalize F.kind = x3 at *
          generalize hQ : F.pl = Q at *
          generalize F.from_ = f at *
          generalize F.to_ = tt at *
          have HX2 := Lib.hid hx2
          clear hQ hx2
          have hs1 : tt ≤ t.size := by omega
          have j0 : (0 : Int) ≤ (f : Int) := by omega
          have j1 : (f : Int) ≤ (tt : Int) := by omega
          have j2 : (tt : Int) ≤ (l.length : Int) := by omega
          have e2 : (0 : Int) ≤ (k : Int) := by omega
          have e3 : (k : Int) < (ps.length : Int) := by omega
          have al := below_al wr (Obj.cells #[Value.int IntKind.i64 f, Value.int IntKind.i64 x2, Value.int IntKind.i64 x3, Value.slice a5 (canon Q).length c5] 42)
          have hfn := heap_alloc_new wr (Obj.cells #[Value.int IntKind.i64 f, Value.int IntKind.i64 x2, Value.int IntKind.i64 x3, Value.slice a5 (canon Q).length c5] 42)
          have hzA : (wr.alloc (Obj.cells #[Value.int IntKind.i64 f, Value.int IntKind.i64 x2, Value.int IntKind.i64 x3, Value.slice a5 (canon Q).length c5] 42)).heap.size > wr.heap.size := by simp
          go_upto_region 17 with fail
          generalize wr.alloc (Obj.cells #[Value.int IntKind.i64 f, Value.int IntKind.i64 x2, Value.int IntKind.i64 x3, Value.slice a5 (canon Q).length c5] 42) = wA at *
          have hppA := own_below hpp al
          have hqpA := own_below hqp al
          have hg2r : g2 < wr.heap.size := by omega
          have hq0A := (al.cell (p := ⟨g2, r * 2, none⟩) hg2r).trans hq0r
          have q0A := (al.cell (p := ⟨gz, k * 4, none⟩) hgzr).trans q0
          have q1A := (al.cell (p := ⟨gz, k * 4 + 1, none⟩) hgzr).trans q1
          have q2A := (al.cell (p := ⟨gz, k * 4 + 2, none⟩) hgzr).trans q2
          have q3A := (al.cell (p := ⟨gz, k * 4 + 3, none⟩) hgzr).trans q3
          have HALA := Lib.hid al
          have HFN := Lib.hid hfn
          clear al hfn hpp hqp p0 p1 p2 p3 q0 q1 q2 q3 hq0r
          have al := below_al wA (Obj.cells #[Value.int IntKind.i64 f, Value.int IntKind.i64 x2, Value.int IntKind.i64 x3, Value.slice a7 Q.length c7] 46)
          have hfn := heap_alloc_new wA (Obj.cells #[Value.int IntKind.i64 f, Value.int IntKind.i64 x2, Value.int IntKind.i64 x3, Value.slice a7 Q.length c7] 46)
          have hzB : (wA.alloc (Obj.cells #[Value.int IntKind.i64 f, Value.int IntKind.i64 x2, Value.int IntKind.i64 x3, Value.slice a7 Q.length c7] 46)).heap.size > wA.heap.size := by simp
          have hwr1 : wr.heap.size < wA.heap.size := by omega
          go_upto_region 18 with fail
          generalize wA.alloc (Obj.cells #[Value.int IntKind.i64 f, Value.int IntKind.i64 x2, Value.int IntKind.i64 x3, Value.slice a7 Q.length c7] 46) = wB at *
          have hppB := own_below hppA al
          have hqpB := own_below hqpA al
          have hF0 := (al.block wr.heap.size hwr1).trans HFN.out
          have b0 : wB.cell? ⟨wr.heap.size, 0, none⟩ = some (.int .i64 f) := by rw [cell_at hF0]; rfl
          have b1 : wB.cell? ⟨wr.heap.size, 1, none⟩ = some (.int .i64 x2) := by rw [cell_at hF0]; rfl
          have b2 : wB.cell? ⟨wr.heap.size, 2, none⟩ = some (.int .i64 x3) := by rw [cell_at hF0]; rfl
          have b3 : wB.cell? ⟨wr.heap.size, 3, none⟩ = some (.slice a5 (canon Q).length c5) := by rw [cell_at hF0]; rfl
          have c0 : wB.cell? ⟨wA.heap.size, 0, none⟩ = some (.int .i64 f) := by rw [cell_at hfn]; rfl
          have c1 : wB.cell? ⟨wA.heap.size, 1, none⟩ = some (.int .i64 x2) := by rw [cell_at hfn]; rfl
          have HALB := Lib.hid (HALA.out.trans (al.mono (by omega)))
          have HHB := Lib.hid hfn
          have hcl' : (canon Q).length ≤ 100000 := by have := canon_count Q; omega
          have HLD := Lib.hid (cload_of (x := f) (y := x2) (k := x3) (c := c5) (own_rd hppB) hcl' (fun sp hsp => by have := canon_in (l := l) hF.1 sp hsp; unfold In40; omega) (by rw [ex_canon]; exact ⟨by omega, fun x hx => by have := hF.1 x hx; omega⟩))
          have HQP := Lib.hid hqpB
          clear hppA hqpA hppB hqpB al hfn hq0A q0A q1A q2A q3A hF0 HALA HFN
          go_upto_region 19 with fail
          rw [HXS.out]
          go_wp2_with fail
          refine HLD.out.mono ?_; rintro e w5 ⟨a6, n6, c6, rfl, hx6, hb6⟩
          rw [ex_canon] at hx6
          have hz5 := hb6.size
          have al := below_al w5 (Obj.cells #[Value.slice a6 n6 c6, Value.int .i64 f, Value.int .i64 x2, Value.bool true] 50)
          have hfn := heap_alloc_new w5 (Obj.cells #[Value.slice a6 n6 c6, Value.int .i64 f, Value.int .i64 x2, Value.bool true] 50)
          have hbC := HALB.out.trans ((hb6.trans (al.mono hz5)).mono (by omega))
          have HX7 := Lib.hid ((hx6.tx).below al)
          have HH7 := Lib.hid (((hb6.trans (al.mono hz5)).block wA.heap.size (by omega)).trans HHB.out)
          have HQ7 := Lib.hid (own_below HQP.out (hb6.trans (al.mono hz5)))
          have HF7 := Lib.hid hfn
          have hlt7 : w5.heap.size < (w5.alloc (Obj.cells #[Value.slice a6 n6 c6, Value.int .i64 f, Value.int .i64 x2, Value.bool true] 50)).heap.size := by simp
          have HB7 := Lib.hid hbC
          clear hx6 hb6 al hfn hbC HLD HQP HHB b0 b1 b2 b3 c0 c1 HALB
          go_upto_region 20 with fail
          generalize w5.alloc (Obj.cells #[Value.slice a6 n6 c6, Value.int .i64 f, Value.int .i64 x2, Value.bool true] 50) = w7 at *
          have HA7 := Lib.hid (HA4.out.below (HBB.out.trans (HB7.out.mono HBB.out.size)))
          have hltA := lt_of_heap HH7.out
          have ld0 := fun w' (h : Below w7.heap.size w7 w') => (h.cell (p := ⟨w5.heap.size, 0, none⟩) hlt7).trans (show w7.cell? ⟨w5.heap.size, 0, none⟩ = some (.slice a6 n6 c6) by rw [cell_at HF7.out]; rfl)
          have ld1 := fun w' (h : Below w7.heap.size w7 w') => (h.cell (p := ⟨w5.heap.size, 1, none⟩) hlt7).trans (show w7.cell? ⟨w5.heap.size, 1, none⟩ = some (.int .i64 f) by rw [cell_at HF7.out]; rfl)
          have ld2 := fun w' (h : Below w7.heap.size w7 w') => (h.cell (p := ⟨w5.heap.size, 2, none⟩) hlt7).trans (show w7.cell? ⟨w5.heap.size, 2, none⟩ = some (.int .i64 x2) by rw [cell_at HF7.out]; rfl)
          have ld3 := fun w' (h : Below w7.heap.size w7 w') => (h.cell (p := ⟨w5.heap.size, 3, none⟩) hlt7).trans (show w7.cell? ⟨w5.heap.size, 3, none⟩ = some (.bool true) by rw [cell_at HF7.out]; rfl)
          have ldQ := fun w' (h : Below w7.heap.size w7 w') => (h.cell (p := ⟨wA.heap.size, 3, none⟩) hltA).trans (show w7.cell? ⟨wA.heap.size, 3, none⟩ = some (.slice a7 Q.length c7) by rw [cell_at HH7.out]; rfl)
          have hinQ : InL l Q := hF.1
          have HPl := Lib.hid (fun w' (h : Below w7.heap.size w7 w') => cplain_kept f x2 (HA7.out.below h) (by omega) (HX7.out.below h) hinQ)
          have HTx := Lib.hid (fun w' (h : Below w7.heap.size w7 w') => text_of (c := c7) HL.out (by omega) (own_rd (own_below HQ7.out h)) hinQ (by omega))
          have HPr := Lib.hid (fun w' (h : Below w7.heap.size w7 w') => cprint_kept (a := a6) (n := n6) (c := c6) f x2 (HA7.out.below h) (by omega))
          have HEm := Lib.hid (fun w' (h : Below w7.heap.size w7 w') => cempty_of f x2 true (HX7.out.below h))
          have hqe : ((Q.length : Int) == 0) = decide (Q = []) := by
            by_cases h : Q = []
            · subst h; rfl
            · have := List.length_pos_iff.2 h
              rw [decide_eq_false h]; simp; exact h
          have hb0 : Below w7.heap.size w7 w7.drew := (Below.refl _ _).drew
          have hsf := strOf_size (subL l f x2)
          generalize hqb : decide (Q = []) = qb at *
          have hne : (qb != qb) = false := by simp
          generalize Q.length = nQ at *
          generalize strOf (atL l Q) = F0 at *
          clear hF HF7 HH7 hinQ hqb
          go_region_held_law (fun w' => Below w7.heap.size w7 w')
            (first | assumption)
            ((first
              | (go_at_call 15; refine (HPl.out _ hb0).mono ?_; rintro e wa ⟨rfl, hba⟩; have hsa := hb0.trans (hba.mono hb0.size); clear hba)
              | (go_at_call 16; refine (HTx.out _ hsa).mono ?_; rintro e wt ⟨rfl, rfl⟩)
              | (go_at_call 17; refine (HPr.out _ hsa).mono ?_; rintro e wb ⟨ab, cb, rfl, hob, hbb⟩; have hst := string_own hob; have hsb := hsa.trans (hbb.mono hsa.size); clear hob hbb)
              | (go_at_call 18; refine (HEm.out _ hsb).mono ?_; rintro e wd ⟨rfl, hbd⟩; have hsd := hsb.trans (hbd.mono hsb.size); clear hbd)))
          all_goals
            go_wp2_with fail
            go_roundw
            case rel => exact ⟨k + 1, by simp, by omega, HBi.out.trans ((HB7.out.trans (hsd.mono HB7.out.size)).mono hzi)⟩
            case measure => simp [intOf]; omega
        · have dk : decide (k < ps.length) = false := decide_eq_false hkl
          have hkq : k = ps.length := by omega
          go_wp2_with fail
          go_roundw
          case rel => exact ⟨r + 1, by simp, by omega, HBy.out.trans (HBi.out.mono HBy.out.size)⟩
          case measure => simp [intOf]; omega
    · have dr : decide (r < rs.length) = false := decide_eq_false hlt
      go_wp2_with fail
      refine (awake7_of _).mono ?_; rintro e wz ⟨rfl, hbz⟩
      have HBZ := Lib.hid (HB6.out.trans ((HB.out.trans (hbz.mono hzr)).mono HB6.out.size))
      clear hbz
      go_wp2_with fail
      go_ret
      exact ⟨rfl, HBZ.out⟩

end Go.Proofs.Ytmdifcgnmkpecaa
