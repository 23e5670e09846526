/-
  The contract of the document's own Right, at this seat's numbers.
-/
import Derived.Test.YtelnehjmkjpjhaaDoorQuR
import Derived.Test.YtelnehjmkjpjhaaDoorScT
import Derived.Test.YtelnehjmkjpjhaaDoorScL
import Derived.Test.YtelnehjmkjpjhaaDoorScW
namespace Go.Proofs.YtelnehjmkjpjhaaDoor
open Go Go.RowKit
set_option linter.unusedVariables false

theorem docR_step {rs : List RowM} {r : Nat} (h : r < rs.length) : docR ((rs.drop r).map (·.1)) = ((decide (rs[r].1.fin = 2) || (decide (rs[r].1.fin = 0) && decide (r + 1 = rs.length))) && fineFs rs[r].1.fs && docR ((rs.drop (r + 1)).map (·.1))) := by
  have e : ((rs.drop (r + 1)).map (·.1)).isEmpty = decide (r + 1 = rs.length) := by
    rw [Bool.eq_iff_iff]; simp; omega
  rw [List.drop_eq_getElem_cons h, List.map_cons, docR, e]
theorem fine_step {ps : List FdM} {j : Nat} (h : j < ps.length) : fineFs ((ps.drop j).map (·.1)) = (decide (ps[j].1.kind ≤ 1) && fineFs ((ps.drop (j + 1)).map (·.1))) := by
  rw [List.drop_eq_getElem_cons h, List.map_cons]
  simp only [fineFs, List.all_cons]

/-- What holds at the head of the loop over rows. -/
def RgJ (D : Bool) (rs : List RowM) (w2 : World) (v12 : Value) (wr : World) : Prop := ∃ r : Nat, v12 = .int .i64 r ∧ r ≤ rs.length ∧ D = docR ((rs.drop r).map (·.1)) ∧ Below w2.heap.size w2 wr
/-- What holds at the head of the loop over fields. -/
def RgI (E : Bool) (ps : List FdM) (wo : World) (v35 : Value) (wi : World) : Prop := ∃ j : Nat, v35 = .int .i64 j ∧ j ≤ ps.length ∧ E = fineFs ((ps.drop j).map (·.1)) ∧ Below wo.heap.size wo wi

set_option maxRecDepth 100000 in
set_option maxHeartbeats 8000000 in
theorem rright_of {s : ByteArray} {l : List UInt8} (hs : s.data.toList = l) (hl : l.length ≤ 1000000) (w : World) :
    Calls Tryd.prog 8 #[.string s] w fun e w' => e = .returned (.bool (docR (allP l 0))) ∧ Below w.heap.size w w' := by
  have HALL := Lib.hid (rall_of hs hl w)
  clear hs
  go_enter Tryd.func8, Tryd.ntmps8
  go_wp2_with fail
  refine HALL.out.mono ?_; rintro e w2 ⟨rs, a4, c4, rfl, hm, ho, hi, hb⟩
  have HB2 := Lib.hid hb
  have HM := Lib.hid hm
  have HO := Lib.hid ho
  have HI := Lib.hid hi
  have hrl : rs.length ≤ 1000000 := by
    have h1 := congrArg List.length hm
    have h2 := allP_len l _ 0 rfl
    rw [List.length_map] at h1
    omega
  have hfl : ∀ p ∈ rs, p.2.1.length ≤ 1000002 := by
    intro p hp
    have h1 := congrArg List.length (hi p hp).fs
    rw [List.length_map] at h1
    have h3 : p.1 ∈ allP l 0 := by rw [← hm]; exact List.mem_map.2 ⟨p, hp, rfl⟩
    have h4 := (row_fields h3).1
    omega
  have HFL := Lib.hid hfl
  generalize hD : docR (allP l 0) = D at *
  have HD0 := Lib.hid hD
  clear hm ho hi hb HALL hfl hD
  go_wp2_with fail
  go_loopw [12] (fun v12 wr => RgJ D rs w2 v12 wr) (fun v12 _ => rs.length - (intOf v12).toNat)
  case atStart => exact ⟨0, rfl, by omega, by rw [← HD0.out, ← HM.out]; rfl, Below.refl _ _⟩
  case round =>
    obtain ⟨wq, rfl⟩ : ∃ wq : World, wq = wr := ⟨_, rfl⟩
    obtain ⟨r, rfl, hr, hd, hb⟩ := hrel
    have HB := Lib.hid hb
    have hzr := hb.size
    have HBQ := Lib.hid (HB2.out.trans (hb.mono HB2.out.size))
    clear hb
    by_cases hlt : r < rs.length
    · have dr : decide (r < rs.length) = true := decide_eq_true hlt
      rw [docR_step hlt] at hd
      rcases own_form HO.out with ⟨_, h0⟩ | ⟨g, rfl, _, hg⟩
      · omega
      have hrin := HI.out rs[r] (List.getElem_mem hlt)
      have hpl := HFL.out rs[r] (List.getElem_mem hlt)
      have hc0 := (HB.out.cell (p := ⟨g, r * 2 + 0, none⟩) hg).trans (own_cells HO.out ((rwC_at rs r rs[r] 0 (List.getElem?_eq_getElem hlt) (by omega)).trans rfl))
      have hc1 := (HB.out.cell (p := ⟨g, r * 2 + 1, none⟩) hg).trans (own_cells HO.out ((rwC_at rs r rs[r] 1 (List.getElem?_eq_getElem hlt) (by omega)).trans rfl))
      rw [Nat.add_zero] at hc0
      have HRIN := Lib.hid hrin
      clear hrin
      generalize hp : rs[r] = p at *
      clear hp
      obtain ⟨R, ps, pa, pc⟩ := p
      simp only at hc0 hc1 hd hpl
      have HFS := Lib.hid (show ps.map (·.1) = R.fs from HRIN.out.fs)
      have HFO := Lib.hid HRIN.out.own
      simp only at HFO
      generalize R.fin = x at *
      rw [← HFS.out] at hd
      generalize hE : fineFs (ps.map (·.1)) = E at *
      have HE := Lib.hid hE
      generalize hD2 : docR ((rs.drop (r + 1)).map (·.1)) = D2 at *
      have HD2 := Lib.hid hD2.symm
      clear hD2
      have HD := Lib.hid hd
      clear hd hE
      have al := below_al wq (Obj.cells #[Value.slice pa ps.length pc, Value.int IntKind.i64 x] 53)
      have HAL := Lib.hid al
      have hro := heap_alloc_new wq (Obj.cells #[Value.slice pa ps.length pc, Value.int IntKind.i64 x] 53)
      have HRO := Lib.hid hro
      have hzo : (wq.alloc (Obj.cells #[Value.slice pa ps.length pc, Value.int IntKind.i64 x] 53)).heap.size = wq.heap.size + 1 := by simp
      go_upto_region 5 with fail
      clear al hro hc0 hc1
      obtain ⟨wo, hwo⟩ : ∃ wo, wq.alloc (Obj.cells #[Value.slice pa ps.length pc, Value.int IntKind.i64 x] 53) = wo := ⟨_, rfl⟩
      rw [hwo] at HAL HRO hzo ⊢
      clear hwo
      have b0 : wo.cell? ⟨wq.heap.size, 0, none⟩ = some (.slice pa ps.length pc) := by rw [cell_at HRO.out]; rfl
      have b1 : wo.cell? ⟨wq.heap.size, 1, none⟩ = some (.int .i64 x) := by rw [cell_at HRO.out]; rfl
      have hpo : wq.heap.size < wo.heap.size := by omega
      have HBW := Lib.hid HAL.out
      have HBO := Lib.hid (HBQ.out.trans (HAL.out.mono HBQ.out.size))
      by_cases hgood : (x = 2 ∧ True) ∨ (x = 0 ∧ decide ((r : Int) < (rs.length : Int) - 1) = false)
      · have HDE : Hid (D = (E && D2)) := by
          show _ = _
          rw [HD.out]
          rcases hgood with ⟨h, _⟩ | ⟨h, h2⟩
          · rw [h]; simp
          · have h3 : r + 1 = rs.length := by have := of_decide_eq_false h2; omega
            rw [h]; simp [h3]
        rcases hgood with ⟨rfl, dk⟩ | ⟨rfl, dk⟩
        all_goals
          clear HD HRO HAL
          go_wp2_with fail
          clear b0 b1
          go_loopw [35] (fun v35 wi => RgI E ps wo v35 wi) (fun v35 _ => ps.length - (intOf v35).toNat)
          case atStart => exact ⟨0, rfl, by omega, HE.out.symm, Below.refl _ _⟩
          case round =>
            obtain ⟨wi, rfl⟩ : ∃ wi : World, wi = wr := ⟨_, rfl⟩
            obtain ⟨j, rfl, hj, he, hbi⟩ := hrel
            have HBi := Lib.hid hbi
            have hzi := hbi.size
            have HBI := Lib.hid (HBO.out.trans (hbi.mono HBO.out.size))
            clear hbi
            by_cases hjl : j < ps.length
            · have dj : decide (j < ps.length) = true := decide_eq_true hjl
              rw [fine_step hjl] at he
              rcases own_form HFO.out with ⟨_, h0⟩ | ⟨gf, rfl, _, hgf⟩
              · omega
              have hbb := HB.out.trans (HBW.out.trans (HBi.out.mono HBW.out.size) |>.mono hzr)
              have hd := fun (o : Nat) (u : Value) (ho : o < 4) (hu : (rfC1 ps[j])[o]? = some u) => (hbb.cell (p := ⟨gf, j * 4 + o, none⟩) hgf).trans (own_cells HFO.out ((rfC_at ps j ps[j] o (List.getElem?_eq_getElem hjl) ho).trans hu))
              have q0 := hd 0 _ (by omega) rfl
              have q1 := hd 1 _ (by omega) rfl
              have q2 := hd 2 _ (by omega) rfl
              have q3 := hd 3 _ (by omega) rfl
              rw [Nat.add_zero] at q0
              have HE2 := Lib.hid he
              clear hbb hd he
              generalize (ps[j].1.from_ : Int) = x0 at *
              generalize (ps[j].1.to_ : Int) - x0 = x1 at *
              generalize ps[j].1.kind = y at *
              generalize ps[j].1.pl.length = n3 at *
              generalize ps[j].2.1 = a3 at *
              generalize ps[j].2.2 = c3 at *
              have HBo := Lib.hid (HBi.out.alloc hzi (Obj.cells #[Value.int IntKind.i64 x0, Value.int IntKind.i64 x1, .int .i64 y, .slice a3 n3 c3] 57))
              have HBR := Lib.hid (HBI.out.alloc HBI.out.size (Obj.cells #[Value.int IntKind.i64 x0, Value.int IntKind.i64 x1, .int .i64 y, .slice a3 n3 c3] 57))
              by_cases hy : y ≤ 1
              · have dy : decide (1 < y) = false := decide_eq_false (by omega)
                have HE3 : Hid (E = fineFs ((ps.drop (j + 1)).map (·.1))) := by show _ = _; rw [HE2.out, decide_eq_true hy, Bool.true_and]
                clear hy
                go_wp2_with fail
                go_roundw
                case rel => exact ⟨j + 1, by go_num, hjl, HE3.out, HBo.out⟩
                case measure => simp [intOf]; omega
              · have dy : decide (1 < y) = true := decide_eq_true (by omega)
                have HDF : Hid (D = false) := by show _ = _; rw [HDE.out, HE2.out, decide_eq_false hy, Bool.false_and, Bool.false_and]
                clear hy
                go_wp2_with fail
                go_ret
                exact ⟨by rw [HD0.out, HDF.out] <;> rfl, HBR.out⟩
            · have dj : decide (j < ps.length) = false := decide_eq_false hjl
              obtain rfl : j = ps.length := by omega
              have HD3 : Hid (D = D2) := by
                show _ = _
                rw [HDE.out, he, List.drop_length]; rfl
              have HBZ := Lib.hid (HBW.out.trans (HBi.out.mono HBW.out.size))
              clear he
              go_wp2_with fail
              go_roundw
              case rel => exact ⟨r + 1, by go_num, hlt, HD3.out.trans HD2.out, HB.out.trans (HBZ.out.mono hzr)⟩
              case measure => simp [intOf]; omega
      · have HDF : Hid (D = false) := by
          show _ = _
          rw [HD.out]
          by_cases h2 : x = 2
          · exact absurd (.inl ⟨h2, trivial⟩) hgood
          · by_cases h0 : x = 0
            · have h3 : ¬ (r + 1 = rs.length) := fun h => hgood (.inr ⟨h0, decide_eq_false (by omega)⟩)
              rw [decide_eq_false h2, decide_eq_false h3]; simp
            · rw [decide_eq_false h2, decide_eq_false h0]; simp
        have n2 : x ≠ 2 := fun h => hgood (.inl ⟨h, trivial⟩)
        have d2 : (x == 2) = false := by simpa using n2
        have d2' : (x != 2) = true := by simpa using n2
        by_cases h0 : x = 0
        · have dk : decide ((r : Int) < (rs.length : Int) - 1) = true := by
            rcases hk : decide ((r : Int) < (rs.length : Int) - 1) with _ | _
            · exact absurd (.inr ⟨h0, hk⟩) hgood
            · rfl
          subst h0
          clear hgood n2 d2 d2' HD HRO HAL
          go_wp2_with fail
          go_ret
          exact ⟨by rw [HD0.out, HDF.out] <;> rfl, HBO.out⟩
        · have d0 : (x == 0) = false := by simpa using h0
          have d0' : (x != 0) = true := by simpa using h0
          clear hgood n2 h0 HD HRO HAL
          go_wp2_with fail
          go_ret
          exact ⟨by rw [HD0.out, HDF.out] <;> rfl, HBO.out⟩
    · have dr : decide (r < rs.length) = false := decide_eq_false hlt
      obtain rfl : r = rs.length := by omega
      have HDT : Hid (D = true) := by show _ = _; rw [hd, List.drop_length]; rfl
      clear hd
      go_wp2_with fail
      go_ret
      exact ⟨by rw [HD0.out, HDT.out] <;> rfl, HBQ.out⟩

end Go.Proofs.YtelnehjmkjpjhaaDoor
