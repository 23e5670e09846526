/-
  The walk of ScanWhole, at this seat's numbers.
-/
import Derived.Test.YtphfhmabchfjjaaScL
namespace Go.Proofs.Ytphfhmabchfjjaa
open Go Go.RowKit
set_option linter.unusedVariables false

theorem str_ext (l : List UInt8) (i j : Nat) : (strOf l).extract i j = strOf ((l.drop i).take (j - i)) := ext_strOf (strOf l) i j
theorem allP_nil {l : List UInt8} {k : Nat} (hk : k ≤ l.length) (h : allP l k = []) : k = l.length := by
  rcases Nat.lt_or_ge k l.length with h1 | h1
  · rw [allP_more h1] at h; cases h
  · omega
theorem allP_step {l : List UInt8} {k r : Nat} {R : List Rw} (h : R.drop r = allP l k) (hr : r < R.length) : k < l.length ∧ R[r] = rowP l k ∧ R.drop (r + 1) = allP l (rowP l k).next := by
  rw [List.drop_eq_getElem_cons hr] at h
  rcases Nat.lt_or_ge k l.length with h1 | h1
  · rw [allP_more h1] at h
    injection h with h2 h3
    exact ⟨h1, h2, h3⟩
  · rw [allP_end h1] at h; cases h

/-- What holds at the head of the loop over rows. -/
def WhJ (l : List UInt8) (rs : List RowM) (w2 : World) (v3 v17 : Value) (wr : World) : Prop := ∃ (r k : Nat) (A : ByteArray), v17 = .int .i64 r ∧ r ≤ rs.length ∧ k ≤ l.length ∧ v3 = .string A ∧ A = strOf (l.take k) ∧ (rs.map (·.1)).drop r = allP l k ∧ Below w2.heap.size w2 wr
/-- What holds at the head of the loop over fields. -/
def WhI (l : List UInt8) (k : Nat) (ps : List FdM) (wo : World) (v3 v27 : Value) (wi : World) : Prop := ∃ (j q : Nat) (A : ByteArray), v27 = .int .i64 j ∧ j ≤ ps.length ∧ q ≤ l.length ∧ v3 = .string A ∧ A = strOf (l.take q) ∧ InAt l k (ps.map (·.1)) j q ∧ Below wo.heap.size wo wi

set_option maxRecDepth 100000 in
set_option maxHeartbeats 8000000 in
theorem scanWhole_walk (s : ByteArray) (w : World) (hs : s.size ≤ maxLen) :
    Calls Try.prog 8 #[.string s] w fun e w' => e = .returned (.bool true) ∧ Below w.heap.size w w' := by
  have HC := Lib.hid (fun w' => cut5_of s 1000 w' hs (by decide))
  have hcl := cutS_le s 1000
  clear hs
  generalize cutS s 1000 = t at *
  obtain ⟨l, rfl⟩ : ∃ l, t = strOf l := ⟨_, (strOf_data t).symm⟩
  have hsz : (strOf l).size = l.length := rfl
  rw [hsz] at hcl
  go_enter Try.func8, Try.ntmps8
  go_wp2_with fail
  refine (HC.out _).mono ?_; rintro e wx ⟨rfl, rfl⟩
  obtain ⟨cap, W1, hcv, hH, hb1⟩ := held_of (strOf l) w (by rw [hsz]; unfold maxLen; omega)
  have HALL : Hid (Calls Try.prog 35 #[.slice (some ⟨w.heap.size, 0, none⟩) l.length cap] W1 (AllPost (allP l 0) W1)) := all_of (rd_held hH) (by show l.length ≤ _; omega) hH.fits hH.cap
  have HB1 := Lib.hid hb1
  rw [hsz] at hcv
  clear hH hb1 HC
  go_wp2_with fail
  refine HALL.out.mono ?_; rintro e w2 ⟨rs, a4, c4, rfl, hm, ho, hi, hb⟩
  have HB2 := Lib.hid (HB1.out.trans (hb.mono HB1.out.size))
  have HM := Lib.hid hm
  have HO := Lib.hid ho
  have HI := Lib.hid hi
  have hrl : rs.length ≤ 1000000 := by
    have h1 := congrArg List.length hm
    have h2 := allP_len l _ 0 rfl
    rw [List.length_map] at h1
    omega
  clear hm ho hi hb HALL HB1 hcv
  go_wp2_with fail
  go_loopw [3, 17] (fun v3 v17 wr => WhJ l rs w2 v3 v17 wr) (fun _ v17 _ => rs.length - (intOf v17).toNat)
  case atStart => exact ⟨0, 0, _, rfl, by omega, by omega, rfl, rfl, by rw [HM.out]; rfl, Below.refl _ _⟩
  case round =>
    obtain ⟨wq, rfl⟩ : ∃ wq : World, wq = wr := ⟨_, rfl⟩
    obtain ⟨r, k, A, rfl, hr, hkl, rfl, hA, hd, hb⟩ := hrel
    have HA := Lib.hid hA
    have HD := Lib.hid hd
    have HB := Lib.hid hb
    have hsA : A.size = k := by rw [hA, strOf_size]; simp; omega
    have hzr := hb.size
    clear hA hd hb
    by_cases hlt : r < rs.length
    · have dr : decide (r < rs.length) = true := decide_eq_true hlt
      obtain ⟨hk, hR, hD2⟩ := allP_step HD.out (by simpa using hlt)
      rw [List.getElem_map] at hR
      rcases own_form HO.out with ⟨_, h0⟩ | ⟨g, rfl, _, hg⟩
      · omega
      have hrin := HI.out rs[r] (List.getElem_mem hlt)
      have hc0 := (HB.out.cell (p := ⟨g, r * 2 + 0, none⟩) hg).trans (own_cells HO.out ((rwC_at rs r rs[r] 0 (List.getElem?_eq_getElem hlt) (by omega)).trans rfl))
      have hc1 := (HB.out.cell (p := ⟨g, r * 2 + 1, none⟩) hg).trans (own_cells HO.out ((rwC_at rs r rs[r] 1 (List.getElem?_eq_getElem hlt) (by omega)).trans rfl))
      rw [Nat.add_zero] at hc0
      have HRIN := Lib.hid hrin
      have HR := Lib.hid hR
      have hNx := (rowP_next hk).2
      have HD2 := Lib.hid hD2
      clear hrin hR hD2
      generalize hp : rs[r] = p at *
      have HP := Lib.hid hp
      clear hp
      obtain ⟨R, ps, pa, pc⟩ := p
      simp only at hc0 hc1 HR
      have HFS := Lib.hid (show ps.map (·.1) = (fieldsP l k).1 by have h1 := HRIN.out.fs; simp only at h1; rw [h1, HR.out]; rfl)
      have hpl : ps.length ≤ 1000002 := by
        have h1 := congrArg List.length HFS.out
        rw [List.length_map] at h1
        have h2 := (fieldsP_spec l _ k rfl hkl).2.2.2.2
        omega
      have HFO := Lib.hid HRIN.out.own
      simp only at HFO
      have al := below_al wq (Obj.cells #[Value.slice pa ps.length pc, Value.int IntKind.i64 R.fin] 72)
      have HAL := Lib.hid al
      have hro := heap_alloc_new wq (Obj.cells #[Value.slice pa ps.length pc, Value.int IntKind.i64 R.fin] 72)
      have HRO := Lib.hid hro
      have hzo : (wq.alloc (Obj.cells #[Value.slice pa ps.length pc, Value.int IntKind.i64 R.fin] 72)).heap.size = wq.heap.size + 1 := by simp
      go_upto_region 7 with fail
      clear al hro hc0 hc1
      obtain ⟨wo, hwo⟩ : ∃ wo, wq.alloc (Obj.cells #[Value.slice pa ps.length pc, Value.int IntKind.i64 R.fin] 72) = wo := ⟨_, rfl⟩
      rw [hwo] at HAL HRO hzo ⊢
      clear hwo
      generalize hpr : wq.heap.size = pr at *
      have HPR := Lib.hid hpr
      clear hpr
      have b0 : wo.cell? ⟨pr, 0, none⟩ = some (.slice pa ps.length pc) := by rw [cell_at HRO.out]; rfl
      have HZO := Lib.hid hzo
      have hpo : pr < wo.heap.size := by omega
      clear hzo
      go_wp2_with fail
      clear b0
      go_loopw [3, 27] (fun v3 v27 wi => WhI l k ps wo v3 v27 wi) (fun _ v27 _ => ps.length - (intOf v27).toNat)
      case atStart => exact ⟨0, k, A, rfl, by omega, hkl, rfl, HA.out, .inl ⟨rfl, rfl⟩, Below.refl _ _⟩
      case round =>
        obtain ⟨j, q, A', rfl, hj, hql, rfl, hA', hin, hbi⟩ := hrel
        have HA' := Lib.hid hA'
        have HIN := Lib.hid hin
        have HBi := Lib.hid hbi
        have hsA' : A'.size = q := by rw [hA', strOf_size]; simp; omega
        have hzi := hbi.size
        clear hA' hin hbi
        by_cases hjl : j < ps.length
        · have dj : decide (j < ps.length) = true := decide_eq_true hjl
          rcases own_form HFO.out with ⟨_, h0⟩ | ⟨gf, rfl, _, hgf⟩
          · omega
          by_cases hj0 : j = 0
          · have dj0 : decide ((0 : Int) < (j : Int)) = false := decide_eq_false (by omega)
            have dj1 : decide (0 < j) = false := decide_eq_false (by omega)
            have hin0 := HIN.out
            rw [hj0] at hin0
            obtain ⟨hq1, hq4, hq5⟩ := inAt_zero hkl HFS.out hin0
            have HQ1 := Lib.hid hq1
            rw [← hj0] at hq4
            rw [show (1 : Nat) = j + 1 by omega] at hq5
            rw [← hq1] at hq4
            rw [show fieldP l k = fieldP l q by rw [hq1]] at hq5
            clear hq1 hin0 hj0
            obtain ⟨N, hN⟩ : ∃ N : Nat, (fieldP l q).to_ = q + N := ⟨(fieldP l q).to_ - q, by have := (fieldP_spec (l := l) (i := q) (by omega)).1; omega⟩
            have hNl : q + N ≤ l.length := by have := (fieldP_spec (l := l) (i := q) (by omega)).2.1; omega
            have hF : ps[j].1 = fieldP l q := by
              rw [List.getElem?_map, List.getElem?_eq_getElem hjl] at hq4
              simpa using hq4
            have hfr := fieldP_from l q
            have hbb := HB.out.trans ((HAL.out.trans (HBi.out.mono (by omega))).mono (by have := HPR.out; omega))
            have c0 : wr.cell? ⟨gf, j * 4, none⟩ = some (.int .i64 (q : Nat)) := by
              have h1 := (hbb.cell (p := ⟨gf, j * 4 + 0, none⟩) hgf).trans (own_cells HFO.out ((fdC_at ps j ps[j] 0 (List.getElem?_eq_getElem hjl) (by omega)).trans rfl))
              rw [hF, hfr] at h1; exact h1
            have c1 : wr.cell? ⟨gf, j * 4 + 1, none⟩ = some (.int .i64 (N : Nat)) := by
              have h1 := (hbb.cell (p := ⟨gf, j * 4 + 1, none⟩) hgf).trans (own_cells HFO.out ((fdC_at ps j ps[j] 1 (List.getElem?_eq_getElem hjl) (by omega)).trans rfl))
              rw [hF, hfr, hN] at h1
              rw [h1]; congr 2; omega
            obtain ⟨x2, c2⟩ : ∃ x2 : Int, wr.cell? ⟨gf, j * 4 + 2, none⟩ = some (.int .i64 x2) := ⟨_, (hbb.cell (p := ⟨gf, j * 4 + 2, none⟩) hgf).trans (own_cells HFO.out ((fdC_at ps j ps[j] 2 (List.getElem?_eq_getElem hjl) (by omega)).trans rfl))⟩
            obtain ⟨a3, n3, c3', c3⟩ : ∃ a3 n3 c3', wr.cell? ⟨gf, j * 4 + 3, none⟩ = some (.slice a3 n3 c3') := ⟨_, _, _, (hbb.cell (p := ⟨gf, j * 4 + 3, none⟩) hgf).trans (own_cells HFO.out ((fdC_at ps j ps[j] 3 (List.getElem?_eq_getElem hjl) (by omega)).trans rfl))⟩
            rw [hN] at hq5
            have HQ5 := Lib.hid hq5
            have HBo := Lib.hid (HBi.out.alloc hzi (Obj.cells #[Value.int IntKind.i64 (q : Nat), Value.int IntKind.i64 (N : Nat), .int .i64 x2, .slice a3 n3 c3'] 77))
            have HTX := Lib.hid (take_ext l q N)
            have HSX := Lib.hid (str_ext l q (q + N))
            have hN3 : q + N - q = N := by omega
            clear hq4 hq5 hN hF hfr hbb
            have dN : decide ((l.length : Int) - (q : Nat) < (N : Int)) = false := decide_eq_false (by omega)
            go_wp2_with fail
            go_roundw
            case rel =>
              refine ⟨j + 1, q + N, _, by go_num, by omega, hNl, rfl, ?_, HQ5.out, HBo.out⟩
              rw [HA'.out, HSX.out, hN3, strOf_app, HTX.out]
            case measure => simp [intOf]; omega
          · obtain ⟨hq1, hq2, hq3, hq4, hq5⟩ := inAt_more (by omega) (by simpa using hjl) HIN.out
            have dj0 : decide ((0 : Int) < (j : Int)) = true := decide_eq_true (by omega)
            have dj1 : decide (0 < j) = true := decide_eq_true (by omega)
            have HC44 := Lib.hid (take_one l q hq1 44 hq2)
            clear hq2
            obtain ⟨N, hN⟩ : ∃ N : Nat, (fieldP l (q + 1)).to_ = (q + 1) + N := ⟨(fieldP l (q + 1)).to_ - (q + 1), by have := (fieldP_spec (l := l) (i := (q + 1)) (by omega)).1; omega⟩
            have hNl : (q + 1) + N ≤ l.length := by have := (fieldP_spec (l := l) (i := (q + 1)) (by omega)).2.1; omega
            have hF : ps[j].1 = fieldP l (q + 1) := by
              rw [List.getElem?_map, List.getElem?_eq_getElem hjl] at hq4
              simpa using hq4
            have hfr := fieldP_from l (q + 1)
            have hbb := HB.out.trans ((HAL.out.trans (HBi.out.mono (by omega))).mono (by have := HPR.out; omega))
            have c0 : wr.cell? ⟨gf, j * 4, none⟩ = some (.int .i64 ((q + 1) : Nat)) := by
              have h1 := (hbb.cell (p := ⟨gf, j * 4 + 0, none⟩) hgf).trans (own_cells HFO.out ((fdC_at ps j ps[j] 0 (List.getElem?_eq_getElem hjl) (by omega)).trans rfl))
              rw [hF, hfr] at h1; exact h1
            have c1 : wr.cell? ⟨gf, j * 4 + 1, none⟩ = some (.int .i64 (N : Nat)) := by
              have h1 := (hbb.cell (p := ⟨gf, j * 4 + 1, none⟩) hgf).trans (own_cells HFO.out ((fdC_at ps j ps[j] 1 (List.getElem?_eq_getElem hjl) (by omega)).trans rfl))
              rw [hF, hfr, hN] at h1
              rw [h1]; congr 2; omega
            obtain ⟨x2, c2⟩ : ∃ x2 : Int, wr.cell? ⟨gf, j * 4 + 2, none⟩ = some (.int .i64 x2) := ⟨_, (hbb.cell (p := ⟨gf, j * 4 + 2, none⟩) hgf).trans (own_cells HFO.out ((fdC_at ps j ps[j] 2 (List.getElem?_eq_getElem hjl) (by omega)).trans rfl))⟩
            obtain ⟨a3, n3, c3', c3⟩ : ∃ a3 n3 c3', wr.cell? ⟨gf, j * 4 + 3, none⟩ = some (.slice a3 n3 c3') := ⟨_, _, _, (hbb.cell (p := ⟨gf, j * 4 + 3, none⟩) hgf).trans (own_cells HFO.out ((fdC_at ps j ps[j] 3 (List.getElem?_eq_getElem hjl) (by omega)).trans rfl))⟩
            rw [hN] at hq5
            have HQ5 := Lib.hid hq5
            have HBo := Lib.hid (HBi.out.alloc hzi (Obj.cells #[Value.int IntKind.i64 ((q + 1) : Nat), Value.int IntKind.i64 (N : Nat), .int .i64 x2, .slice a3 n3 c3'] 77))
            have HTX := Lib.hid (take_ext l (q + 1) N)
            have HSX := Lib.hid (str_ext l (q + 1) ((q + 1) + N))
            have hN3 : (q + 1) + N - (q + 1) = N := by omega
            clear hq4 hq5 hN hF hfr hbb
            have dN : decide ((l.length : Int) - ((q + 1) : Nat) < (N : Int)) = false := decide_eq_false (by omega)
            go_wp2_with fail
            go_roundw
            case rel =>
              refine ⟨j + 1, q + 1 + N, _, by go_num, by omega, hNl, rfl, ?_, HQ5.out, HBo.out⟩
              rw [HA'.out, HSX.out, hN3]
              rw [show (⟨#[44]⟩ : ByteArray) = strOf [44] from rfl, strOf_app, HC44.out, strOf_app, HTX.out]
            case measure => simp [intOf]; omega
        · have dj : decide (j < ps.length) = false := decide_eq_false hjl
          have hend := inAt_end hkl HFS.out (by simp; omega) HIN.out
          have hkq := hend.2
          have HQ := Lib.hid hend.1
          have hme := mark_ext hk
          have HME := Lib.hid hme.1
          have b1 : wr.cell? ⟨pr, 1, none⟩ = some (.int .i64 R.fin) := (HBi.out.cell (p := ⟨pr, 1, none⟩) hpo).trans (by rw [cell_at HRO.out]; rfl)
          have HMK := Lib.hid (fun w => mark_of R.fin w)
          have HBr := Lib.hid (HB.out.trans ((HAL.out.trans (HBi.out.mono (by omega))).mono (by have := HPR.out; omega)))
          have HN := Lib.hid (fun h : R.fin = 0 => hme.2 (by rw [← HR.out]; exact h))
          clear hend hme
          by_cases hf : R.fin = 0
          · obtain ⟨hn1, hn2⟩ := HN.out hf
            have hlast : r + 1 = rs.length := by
              have h1 := HD2.out
              rw [hn1, allP_end (Nat.le_refl _)] at h1
              have h2 := congrArg List.length h1
              rw [List.length_drop, List.length_map, List.length_nil] at h2
              omega
            have hqk : q = l.length := by rw [HQ.out, hn2]
            have d2 : decide ((r : Int) < (rs.length : Int) - 1) = false := decide_eq_false (by omega)
            have d3 : (q == k) = false := by simp; omega
            have d3' : ((q : Int) == (k : Int)) = false := by simp; omega
            rw [hf] at b1
            have HMK0 : Hid (∀ w, Calls Try.prog 41 #[.int .i64 0] w fun e w' => e = .returned (.string (markS R.fin)) ∧ w = w') := by rw [hf]; exact fun w => mark_of 0 w
            have hms : (markS R.fin).size ≤ 2 := by rw [hf]; decide
            have HME2 : Hid (strOf (l.take (fieldsP l k).2) ++ markS R.fin = strOf (l.take (rowP l k).next)) := by rw [HR.out]; exact HME.out
            clear hn1 hn2 hlast hqk hf HN
            generalize markS R.fin = ms at *
            go_wp2_with (go_at_call 41; refine (HMK0.out _).mono ?_; rintro e w' ⟨rfl, rfl⟩)
            go_roundw
            case rel => exact ⟨r + 1, (rowP l k).next, A' ++ ms, by go_num, hlt, hNx, rfl, by rw [HA'.out, HQ.out, HME2.out], HD2.out, HBr.out⟩
            case measure => simp [intOf]; omega
          · have d1 : (R.fin == 0) = false := by simpa using hf
            have hms : (markS R.fin).size ≤ 2 := by rw [markS_size]; unfold markN; split <;> (try split) <;> (try split) <;> omega
            have HME2 : Hid (strOf (l.take (fieldsP l k).2) ++ markS R.fin = strOf (l.take (rowP l k).next)) := by rw [HR.out]; exact HME.out
            clear hf HN
            generalize markS R.fin = ms at *
            go_wp2_with (go_at_call 41; refine (HMK.out _).mono ?_; rintro e w' ⟨rfl, rfl⟩)
            go_roundw
            case rel => exact ⟨r + 1, (rowP l k).next, A' ++ ms, by go_num, hlt, hNx, rfl, by rw [HA'.out, HQ.out, HME2.out], HD2.out, HBr.out⟩
            case measure => simp [intOf]; omega
    · have dr : decide (r < rs.length) = false := decide_eq_false hlt
      have hkn : k = l.length := allP_nil hkl (by rw [← HD.out, List.drop_eq_nil_of_le (by simp; omega)])
      have hAl : A = strOf l := by rw [HA.out, hkn, List.take_length]
      have HBw := Lib.hid (HB2.out.trans (HB.out.mono (by have := HB2.out.size; omega)))
      clear hkn hsA HA HD HB
      subst hAl
      go_wp2_with fail
      refine (awake5_of _).mono ?_; rintro e w4 ⟨rfl, hb4⟩
      have HB4 := Lib.hid (HBw.out.trans (hb4.mono HBw.out.size))
      clear hb4
      go_wp2_with fail
      go_ret
      exact ⟨rfl, HB4.out⟩

end Go.Proofs.Ytphfhmabchfjjaa
