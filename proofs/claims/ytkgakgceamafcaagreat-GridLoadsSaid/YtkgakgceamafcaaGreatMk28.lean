/-
  Texts of this seat, put together (a claim holds few texts): GeB, GeC.
-/
import Derived.Test.YtkgakgceamafcaaGreatMk27

namespace Go.Proofs.YtkgakgceamafcaaGreat
open Go Go.RowKit Go.Shelf
set_option linter.unusedVariables false

set_option maxRecDepth 100000 in
set_option maxHeartbeats 8000000 in
theorem rgload_of {s : ByteArray} {l : List UInt8} (hs : s.data.toList = l) (hl : l.length ≤ 1000000) (w : World) :
    Calls Tryz.prog 11 #[.string s] w (RGlPost l w) := by
  obtain ⟨i0, hi0, hz0, hz1, hz2⟩ := info_parts info_drow
  have hsz := sz_of hs
  have HS := Lib.hid hs
  obtain ⟨N, hN⟩ : ∃ N, l.length = N := ⟨_, rfl⟩
  rw [hN] at hsz
  obtain ⟨w1, hw1⟩ : ∃ w1, w1 = allocs w [Obj.cells #[Value.slice none 0 0, Value.bool false, Value.int .i64 0] 35, Obj.cells #[Value.slice none 0 0, Value.bool false, Value.int .i64 2] 35] := ⟨_, rfl⟩
  have HB1 : Hid (Below w.heap.size w w1) := by rw [hw1]; exact Lib.hid (allocs_below _ w)
  have hzw : w1.heap.size > w.heap.size + 1 := by rw [hw1, allocs_size]; simp
  have HH0 : Hid (w1.heap[w.heap.size]? = some (.cells #[Value.slice none 0 0, Value.bool false, Value.int .i64 0] 35 (0, 0))) := by rw [hw1]; exact Lib.hid (allocs_at _ w 0 _ rfl)
  have HH1 : Hid (w1.heap[w.heap.size + 1]? = some (.cells #[Value.slice none 0 0, Value.bool false, Value.int .i64 2] 35 (0, 0))) := by rw [hw1]; exact Lib.hid (allocs_at _ w 1 _ rfl)
  have HGL : Hid (glEr l = if 4096 < N then 8 else if 400 < (allP l 0).length then 6 else fstEr (allP l 0)) := by rw [← hN]; exact Lib.hid rfl
  have HN := Lib.hid hN
  rw [hN] at hl
  obtain ⟨R, hR⟩ : ∃ R, allP l 0 = R := ⟨_, rfl⟩
  have HRR := Lib.hid hR
  obtain ⟨n, hn⟩ : ∃ n, R.length = n := ⟨_, rfl⟩
  have HNn := Lib.hid hn
  clear hs hN hR hn
  unfold RGlPost
  rw [HRR.out]
  go_enter Tryz.func11, Tryz.ntmps11
  go_upto_region 2 with fail
  rw [show (w.alloc (Obj.cells #[Value.slice none 0 0, Value.bool false, Value.int .i64 0] 35)).alloc (Obj.cells #[Value.slice none 0 0, Value.bool false, Value.int .i64 2] 35) = w1 from hw1.symm]
  clear hw1
  by_cases hbig : 4096 < N
  · have d : decide ((4096 : Int) < (N : Int)) = true := decide_eq_true (by omega)
    have d' : decide (4096 < N) = true := decide_eq_true hbig
    have HE : Hid (glEr l = 8) := Lib.hid (by rw [HGL.out, if_pos hbig])
    have hh0 := HH0.out
    have HH0w := Lib.hid hh0
    have zz := fun i => unfrozen hh0 i
    have r0 : w1.cell? ⟨w.heap.size, 0, none⟩ = some (.slice none 0 0) := by rw [cell_at hh0]; rfl
    have r1 : w1.cell? ⟨w.heap.size, 1, none⟩ = some (.bool false) := by rw [cell_at hh0]; rfl
    have r2 : w1.cell? ⟨w.heap.size, 2, none⟩ = some (.int .i64 0) := by rw [cell_at hh0]; rfl
    have hh1 := HH1.out
    have x0 : w1.cell? ⟨w.heap.size + 1, 0, none⟩ = some (.slice none 0 0) := by rw [cell_at hh1]; rfl
    have x1 : w1.cell? ⟨w.heap.size + 1, 1, none⟩ = some (.bool false) := by rw [cell_at hh1]; rfl
    have x2 : w1.cell? ⟨w.heap.size + 1, 2, none⟩ = some (.int .i64 2) := by rw [cell_at hh1]; rfl
    clear hh1
    have HBw := Lib.hid (HB1.out)
    clear hh0
    go_wp2_with fail
    have hs := set3_at HH0w.out (.slice none 0 0) (.bool false) (.int .i64 2)
    have hB := set3_below HBw.out (Nat.le_refl _) (.slice none 0 0) (.bool false) (.int .i64 2)
    have q0 : (set3 w1 w.heap.size (.slice none 0 0) (.bool false) (.int .i64 2)).cell? ⟨w.heap.size, 0, none⟩ = some (.slice none 0 0) := by rw [cell_at hs]; rfl
    have q1 : (set3 w1 w.heap.size (.slice none 0 0) (.bool false) (.int .i64 2)).cell? ⟨w.heap.size, 1, none⟩ = some (.bool false) := by rw [cell_at hs]; rfl
    have q2 : (set3 w1 w.heap.size (.slice none 0 0) (.bool false) (.int .i64 2)).cell? ⟨w.heap.size, 2, none⟩ = some (.int .i64 2) := by rw [cell_at hs]; rfl
    unfold set3 at hB q0 q1 q2
    exact bodyPost_ret (v := .tuple #[.agg #[.slice none 0 0, .bool false, .int .i64 2], .int .i64 8]) (by simp [results, Tryz.results11, go_sem, q0, q1, q2]) rfl ⟨hB, .inl ⟨by rw [HE.out]; decide, by rw [HE.out]⟩⟩
  · have d : decide ((4096 : Int) < (N : Int)) = false := decide_eq_false (by omega)
    have d' : decide (4096 < N) = false := decide_eq_false hbig
    have HAll := Lib.hid (rall_of HS.out (by rw [HN.out]; omega) w1)
    rw [HRR.out] at HAll
    go_wp2_with fail
    refine HAll.out.mono ?_; rintro e w3 ⟨rs, a4, c4, rfl, hm, ho, hi, hb3⟩
    have hrl : rs.length = n := by rw [← HNn.out, ← hm, List.length_map]
    have HRS := Lib.hid hrl
    rw [hrl] at ho ⊢
    have HM := Lib.hid hm
    have HO := Lib.hid ho
    have HI := Lib.hid hi
    have HB3 := Lib.hid (HB1.out.trans (hb3.mono HB1.out.size))
    have HH03 := Lib.hid ((hb3.block w.heap.size (by omega)).trans HH0.out)
    have HH13 := Lib.hid ((hb3.block (w.heap.size + 1) (by omega)).trans HH1.out)
    have hz3 : w.heap.size + 1 < w3.heap.size := by have := hb3.size; omega
    clear hm ho hi hb3 hrl HAll d d'
    by_cases h4 : 400 < n
    · have d : decide ((400 : Int) < (n : Int)) = true := decide_eq_true (by omega)
      have d' : decide (400 < n) = true := decide_eq_true h4
      have HE : Hid (glEr l = 6) := Lib.hid (by rw [HGL.out, if_neg hbig, HRR.out, if_pos (by rw [HNn.out]; exact h4)])
      have hh0 := HH03.out
      have HH0w := Lib.hid hh0
      have zz := fun i => unfrozen hh0 i
      have r0 : w3.cell? ⟨w.heap.size, 0, none⟩ = some (.slice none 0 0) := by rw [cell_at hh0]; rfl
      have r1 : w3.cell? ⟨w.heap.size, 1, none⟩ = some (.bool false) := by rw [cell_at hh0]; rfl
      have r2 : w3.cell? ⟨w.heap.size, 2, none⟩ = some (.int .i64 0) := by rw [cell_at hh0]; rfl
      have hh1 := HH13.out
      have x0 : w3.cell? ⟨w.heap.size + 1, 0, none⟩ = some (.slice none 0 0) := by rw [cell_at hh1]; rfl
      have x1 : w3.cell? ⟨w.heap.size + 1, 1, none⟩ = some (.bool false) := by rw [cell_at hh1]; rfl
      have x2 : w3.cell? ⟨w.heap.size + 1, 2, none⟩ = some (.int .i64 2) := by rw [cell_at hh1]; rfl
      clear hh1
      have HBw := Lib.hid (HB3.out)
      clear hh0
      go_wp2_with fail
      have hs := set3_at HH0w.out (.slice none 0 0) (.bool false) (.int .i64 2)
      have hB := set3_below HBw.out (Nat.le_refl _) (.slice none 0 0) (.bool false) (.int .i64 2)
      have q0 : (set3 w3 w.heap.size (.slice none 0 0) (.bool false) (.int .i64 2)).cell? ⟨w.heap.size, 0, none⟩ = some (.slice none 0 0) := by rw [cell_at hs]; rfl
      have q1 : (set3 w3 w.heap.size (.slice none 0 0) (.bool false) (.int .i64 2)).cell? ⟨w.heap.size, 1, none⟩ = some (.bool false) := by rw [cell_at hs]; rfl
      have q2 : (set3 w3 w.heap.size (.slice none 0 0) (.bool false) (.int .i64 2)).cell? ⟨w.heap.size, 2, none⟩ = some (.int .i64 2) := by rw [cell_at hs]; rfl
      unfold set3 at hB q0 q1 q2
      exact bodyPost_ret (v := .tuple #[.agg #[.slice none 0 0, .bool false, .int .i64 2], .int .i64 6]) (by simp [results, Tryz.results11, go_sem, q0, q1, q2]) rfl ⟨hB, .inl ⟨by rw [HE.out]; decide, by rw [HE.out]⟩⟩
    · have d : decide ((400 : Int) < (n : Int)) = false := decide_eq_false (by omega)
      have d' : decide (400 < n) = false := decide_eq_false h4
      have HF : Hid (glEr l = fstEr R) := Lib.hid (by rw [HGL.out, if_neg hbig, HRR.out, if_neg (by rw [HNn.out]; exact h4)])
      go_wp2_with fail
      go_loopw [24] (fun v24 wr => RgJ l R w3 (w.heap.size + 1) n v24 wr) (fun v24 _ => n - (intOf v24).toNat)
      case atStart => exact ⟨0, none, 0, [], rfl, Nat.zero_le _, rfl, HH13.out, own_nil _ _ _ _, DgIn.nil _ _, (fun k r q h => by simp at h), kx_refl _ _, fun r hr => by simp at hr⟩
      case round =>
        obtain ⟨k, a, c, Ls, rfl, hk, hkl, hbx, how, hdg, hen, hkx, hgd⟩ := hrel
        have HKL := Lib.hid hkl
        have HBX := Lib.hid hbx
        have HOW := Lib.hid how
        have HDG := Lib.hid hdg
        have HEN := Lib.hid hen
        have HKX := Lib.hid hkx
        have HGD := Lib.hid hgd
        have hzr : w3.heap.size ≤ wr.heap.size := hkx.size
        clear hbx how hdg hen hkx hgd hkl
        by_cases hlt : k < n
        · have dk : decide (k < n) = true := decide_eq_true hlt
          have hkr : k < rs.length := by rw [HRS.out]; exact hlt
          have hrk : rs[k]? = some rs[k] := List.getElem?_eq_getElem hkr
          have how3 := own_kx HO.out HKX.out HH13.out (by decide)
          rcases own_form how3 with ⟨_, h0⟩ | ⟨ga, hga, _, hga2⟩
          · omega
          subst hga
          have hRk : R[k]? = some rs[k].1 := by rw [← HM.out, List.getElem?_map, hrk]; rfl
          have hri := (HI.out rs[k] (List.getElem_mem hkr)).kx HKX.out HH13.out (by decide) (by decide)
          have p0 := own_cells how3 ((rwC_at rs k rs[k] 0 hrk (by omega)).trans rfl)
          have p1 := own_cells how3 ((rwC_at rs k rs[k] 1 hrk (by omega)).trans rfl)
          rw [Nat.add_zero] at p0
          generalize rs[k] = P at *
          obtain ⟨Q, ps, pa, pc⟩ := P
          simp only at hRk p0 p1
          have hpl : ps.length = Q.fs.length := by rw [← hri.fs]; simp
          have hmem : Q ∈ allP l 0 := by rw [HRR.out]; exact List.mem_of_getElem? hRk
          have hrf := row_fields hmem
          have hrf2 := row_fields2 hmem
          obtain ⟨m, hm⟩ : ∃ m, ps.length = m := ⟨_, rfl⟩
          rw [hm] at p0 hpl
          have e0 : (0 : Int) ≤ (k : Int) := by omega
          have e1 : (k : Int) < (n : Int) := by omega
          have al := t_al wr (Obj.cells #[.slice pa m pc, .int .i64 Q.fin] 113)
          have hh := heap_alloc_new wr (Obj.cells #[.slice pa m pc, .int .i64 Q.fin] 113)
          have hza : (wr.alloc (Obj.cells #[.slice pa m pc, .int .i64 Q.fin] 113)).heap.size = wr.heap.size + 1 := by simp
          have HLd := Lib.hid (rrload_of HS.out (hri.below al) (fun f hf => hrf.2 f hf) hrf2 (by rw [HN.out]; omega) (by have := hrf.1; have := HN.out; omega))
          rw [← hpl] at HLd
          have HRk := Lib.hid (And.intro hRk hpl)
          clear hri hrf hrf2 hmem hRk hpl hm hrk hkr how3
          generalize hfin : Q.fin = fin at *
          have HFIN := Lib.hid hfin
          clear hfin
          go_upto_region 10 with fail
          generalize wr.alloc (Obj.cells #[.slice pa m pc, .int .i64 fin] 113) = w5 at *
          have q0 : w5.cell? ⟨wr.heap.size, 0, none⟩ = some (.slice pa m pc) := (cell_at hh 0).trans rfl
          have q1 : w5.cell? ⟨wr.heap.size, 1, none⟩ = some (.int .i64 fin) := (cell_at hh 1).trans rfl
          have HKX5 := Lib.hid (kx_below HKX.out al)
          have HBX5 := Lib.hid ((al.block _ (lt_of_heap HBX.out)).trans HBX.out)
          have HOW5 := Lib.hid (own_below HOW.out al)
          have HDG5 := Lib.hid (HDG.out.below al)
          have H7 := Lib.hid hh
          clear al hh p0 p1 HBX HOW HDG HKX
          go_wp2_with fail
          refine HLd.out.mono ?_; rintro e w6 hpost
          obtain ⟨hb6, hcase⟩ := hpost
          have HKX6 := Lib.hid (kx_below HKX5.out hb6)
          have HBX6 := Lib.hid ((hb6.block _ (lt_of_heap HBX5.out)).trans HBX5.out)
          have HOW6 := Lib.hid (own_below HOW5.out hb6)
          have HDG6 := Lib.hid (HDG5.out.below hb6)
          have H76 := Lib.hid ((hb6.block _ (lt_of_heap H7.out)).trans H7.out)
          have hz6 : wr.heap.size < w6.heap.size := lt_of_heap H76.out
          have hz56 : w5.heap.size ≤ w6.heap.size := hb6.size
          clear hb6 HLd HKX5 HBX5 HOW5 HDG5 H7 q0 q1
          rcases hcase with h | h | h
          · have hq := rEr6 h.1
            have HBad : Hid (glEr l = 6) := Lib.hid (by rw [HF.out]; exact (fstEr_bad (fun x hx => HGD.out x hx) HRk.out.1 (by rw [hq]; decide)).trans hq)
            obtain rfl := h.2
            have al := t_al w6 (Obj.cells #[.slice none 0 0, .int .i64 0, .bool false] 116)
            have hk7 := kx_below HKX6.out al
            have h07 := (hk7.block w.heap.size (by omega) (by simp)).trans HH03.out
            have hb7 := kx_to HB3.out hk7 (by omega)
            clear al hq hk7
            go_upto_region 12 with fail
            generalize w6.alloc (Obj.cells #[.slice none 0 0, .int .i64 0, .bool false] 116) = w7 at *
            have H07 := Lib.hid h07
            have HB7 := Lib.hid hb7
            clear h07 hb7
            have hh0 := H07.out
            have HH0w := Lib.hid hh0
            have zz := fun i => unfrozen hh0 i
            have r0 : w7.cell? ⟨w.heap.size, 0, none⟩ = some (.slice none 0 0) := by rw [cell_at hh0]; rfl
            have r1 : w7.cell? ⟨w.heap.size, 1, none⟩ = some (.bool false) := by rw [cell_at hh0]; rfl
            have r2 : w7.cell? ⟨w.heap.size, 2, none⟩ = some (.int .i64 0) := by rw [cell_at hh0]; rfl
            have HBw := Lib.hid (HB7.out)
            clear hh0
            go_wp2_with fail
            have hs := set3_at HH0w.out (.slice none 0 0) (.bool false) (.int .i64 2)
            have hB := set3_below HBw.out (Nat.le_refl _) (.slice none 0 0) (.bool false) (.int .i64 2)
            have q0 : (set3 w7 w.heap.size (.slice none 0 0) (.bool false) (.int .i64 2)).cell? ⟨w.heap.size, 0, none⟩ = some (.slice none 0 0) := by rw [cell_at hs]; rfl
            have q1 : (set3 w7 w.heap.size (.slice none 0 0) (.bool false) (.int .i64 2)).cell? ⟨w.heap.size, 1, none⟩ = some (.bool false) := by rw [cell_at hs]; rfl
            have q2 : (set3 w7 w.heap.size (.slice none 0 0) (.bool false) (.int .i64 2)).cell? ⟨w.heap.size, 2, none⟩ = some (.int .i64 2) := by rw [cell_at hs]; rfl
            unfold set3 at hB q0 q1 q2
            exact bodyPost_ret (v := .tuple #[.agg #[.slice none 0 0, .bool false, .int .i64 2], .int .i64 6]) (by simp [results, Tryz.results11, go_sem, q0, q1, q2]) rfl ⟨hB, .inl ⟨by rw [HBad.out]; decide, by rw [HBad.out]⟩⟩
          · have hq := rEr7 h.1 h.2.1
            have HBad : Hid (glEr l = 7) := Lib.hid (by rw [HF.out]; exact (fstEr_bad (fun x hx => HGD.out x hx) HRk.out.1 (by rw [hq]; decide)).trans hq)
            obtain rfl := h.2.2
            have al := t_al w6 (Obj.cells #[.slice none 0 0, .int .i64 0, .bool false] 116)
            have hk7 := kx_below HKX6.out al
            have h07 := (hk7.block w.heap.size (by omega) (by simp)).trans HH03.out
            have hb7 := kx_to HB3.out hk7 (by omega)
            clear al hq hk7
            go_upto_region 12 with fail
            generalize w6.alloc (Obj.cells #[.slice none 0 0, .int .i64 0, .bool false] 116) = w7 at *
            have H07 := Lib.hid h07
            have HB7 := Lib.hid hb7
            clear h07 hb7
            have hh0 := H07.out
            have HH0w := Lib.hid hh0
            have zz := fun i => unfrozen hh0 i
            have r0 : w7.cell? ⟨w.heap.size, 0, none⟩ = some (.slice none 0 0) := by rw [cell_at hh0]; rfl
            have r1 : w7.cell? ⟨w.heap.size, 1, none⟩ = some (.bool false) := by rw [cell_at hh0]; rfl
            have r2 : w7.cell? ⟨w.heap.size, 2, none⟩ = some (.int .i64 0) := by rw [cell_at hh0]; rfl
            have HBw := Lib.hid (HB7.out)
            clear hh0
            go_wp2_with fail
            have hs := set3_at HH0w.out (.slice none 0 0) (.bool false) (.int .i64 2)
            have hB := set3_below HBw.out (Nat.le_refl _) (.slice none 0 0) (.bool false) (.int .i64 2)
            have q0 : (set3 w7 w.heap.size (.slice none 0 0) (.bool false) (.int .i64 2)).cell? ⟨w.heap.size, 0, none⟩ = some (.slice none 0 0) := by rw [cell_at hs]; rfl
            have q1 : (set3 w7 w.heap.size (.slice none 0 0) (.bool false) (.int .i64 2)).cell? ⟨w.heap.size, 1, none⟩ = some (.bool false) := by rw [cell_at hs]; rfl
            have q2 : (set3 w7 w.heap.size (.slice none 0 0) (.bool false) (.int .i64 2)).cell? ⟨w.heap.size, 2, none⟩ = some (.int .i64 2) := by rw [cell_at hs]; rfl
            unfold set3 at hB q0 q1 q2
            exact bodyPost_ret (v := .tuple #[.agg #[.slice none 0 0, .bool false, .int .i64 2], .int .i64 7]) (by simp [results, Tryz.results11, go_sem, q0, q1, q2]) rfl ⟨hB, .inl ⟨by rw [HBad.out]; decide, by rw [HBad.out]⟩⟩
          · have HQ0 := Lib.hid (rEr0 h.1 h.2.1)
            obtain ⟨_, _, a', c', rfl, hoc⟩ := h
            rw [← HRk.out.2] at hoc ⊢
            have al := t_al w6 (Obj.cells #[.slice a' m c', .int .i64 fin, .bool false] 116)
            have hh := heap_alloc_new w6 (Obj.cells #[.slice a' m c', .int .i64 fin, .bool false] 116)
            have HKX7 := Lib.hid (kx_below HKX6.out al)
            have HBX7 := Lib.hid ((al.block _ (lt_of_heap HBX6.out)).trans HBX6.out)
            have HOW7 := Lib.hid (own_below HOW6.out al)
            have HDG7 := Lib.hid (HDG6.out.below al)
            have H77 := Lib.hid ((al.block _ (lt_of_heap H76.out)).trans H76.out)
            have HOC7 := Lib.hid (own_mono (own_below hoc al) (show w3.heap.size ≤ w5.heap.size by omega))
            rw [HFIN.out]
            clear hoc al HKX6 HBX6 HOW6 HDG6 H76
            go_upto_region 13 with fail
            generalize w6.alloc (Obj.cells #[.slice a' m c', .int .i64 fin, .bool false] 116) = w7 at *
            have hbx := HBX7.out
            have y0 : w7.cell? ⟨w.heap.size + 1, 0, none⟩ = some (.slice a k c) := (cell_at hbx 0).trans rfl
            have t0 : w7.cell? ⟨w6.heap.size, 0, none⟩ = some (.slice a' m c') := (cell_at hh 0).trans rfl
            have t1 : w7.cell? ⟨w6.heap.size, 1, none⟩ = some (.int .i64 fin) := (cell_at hh 1).trans rfl
            have t2 : w7.cell? ⟨w6.heap.size, 2, none⟩ = some (.bool false) := (cell_at hh 2).trans rfl
            clear hbx hh
            go_wp2_with (first
              | (at_builtin; refine wpList_append_own _ rfl (.tmp 39) (.tmp 41) 33 rfl w3.heap.size 116 i0 (.agg #[.slice none 0 0, .int .i64 0, .bool false]) 3 40 Tryz.underlying33 hi0 hz0 hz1 (by assumption) rfl (by decide) (.slice a k c) k (cs3 (rws Ls)) rfl (HOW7.out.alloc _) ⟨w7.heap.size, 0, none⟩ 1 1 [.slice a' m c', .int .i64 fin, .bool false] rfl rfl ?c1 ?c2 ?c3 ?c4 ?c5 ?_)
              | fail)
            case c1 =>
              intro j u hj
              rw [Addr.add_lit, Nat.zero_add]
              rw [cell_at (heap_alloc_new w7 _)]
              simpa using hj
            case c2 =>
              intro u hu
              simp only [List.mem_cons, List.not_mem_nil, or_false] at hu
              rcases hu with rfl | rfl | rfl <;> rfl
            case c3 => unfold maxLen; omega
            case c4 => omega
            case c5 => have := HKX7.out.size; simp only [World.size_alloc]; omega
            intro v7 wB ho7 hg7 _
            obtain ⟨a8, c8, rfl⟩ := own_slice ho7
            have al := t_al w7 (Obj.cells #[.slice a' m c', .int .i64 fin, .bool false] 116)
            have HOa := own_below HOW7.out al
            have hkB := kx_own (kx_below HKX7.out al) hg7 (fun q hq => (HOa.lt q hq).1)
            have hbx7 := (al.block _ (lt_of_heap HBX7.out)).trans HBX7.out
            have hbxB := (hg7.block (w.heap.size + 1) (lt_of_heap hbx7) (fun e => by have := (HOa.lt _ e.symm).1; omega)).trans hbx7
            have h77a := (al.block _ (lt_of_heap H77.out)).trans H77.out
            have h7B := (hg7.block wr.heap.size (lt_of_heap h77a) (fun e => own_ne HOa h77a (by decide) e.symm)).trans h77a
            have HDB := Lib.hid (((HDG7.out.below al).grown HOa (by decide) hg7).snoc (r := ⟨a', m, c', fin, false⟩) (L := Q.fs.map (rcF l)) (by rw [List.length_map]; exact HRk.out.2) (own_grown (own_below HOC7.out al) HOa (by decide) hg7))
            have HOB := Lib.hid ho7
            have HKB := Lib.hid hkB
            have HBXB := Lib.hid hbxB
            have H7B := Lib.hid h7B
            have zz := fun i => unfrozen hbxB i
            have y1 : wB.cell? ⟨w.heap.size + 1, 0, none⟩ = some (.slice a k c) := (cell_at hbxB 0).trans rfl
            have y2 : wB.cell? ⟨w.heap.size + 1, 1, none⟩ = some (.bool (tailP (R.take k))) := (cell_at hbxB 1).trans rfl
            have y3 : wB.cell? ⟨wr.heap.size, 1, none⟩ = some (.int .i64 fin) := (cell_at h7B 1).trans rfl
            have hnb : wr.heap.size ≠ w.heap.size + 1 := by omega
            obtain ⟨tb, htb⟩ : ∃ tb, (fin != 0) = tb := ⟨_, rfl⟩
            have HTB := Lib.hid htb
            clear ho7 hg7 al HOa hkB hbx7 hbxB h77a h7B HKX7 HBX7 HOW7 HDG7 H77 HOC7 y0 t0 t1 t2
            go_wp2_with fail
            go_roundw
            case rel =>
              have htk : R.take (k + 1) = R.take k ++ [Q] := by rw [List.take_add_one, HRk.out.1]; rfl
              have ht : tailP (R.take (k + 1)) = tb := by rw [htk, tail_snoc, HFIN.out]; exact HTB.out
              have n0 := own_ne HOB.out HBXB.out (by decide)
              refine ⟨k + 1, a8, c8, Ls ++ [⟨a', m, c', fin, false⟩], rfl, by omega, by rw [List.length_append, HKL.out]; rfl, ?_, ?_, ?_, HEN.out.snoc (by rw [HKL.out]; exact HRk.out.1) HFIN.out.symm rfl, kx_set (kx_set HKB.out), ?_⟩
              · rw [ht]; exact heap_set_at (heap_set_at HBXB.out)
              · rw [rws_app, cs3_app]
                exact own_set (own_set HOB.out n0) n0
              · rw [htk, cellsG_snoc]
                exact (HDB.out.setT HBXB.out (by decide)).setT (heap_set_at HBXB.out) (by decide)
              · intro r hr
                rw [htk] at hr
                rcases List.mem_append.1 hr with h | h
                · exact HGD.out r h
                · obtain rfl : r = Q := by simpa using h
                  exact HQ0.out
            case measure => simp [intOf]; omega
        · have dk : decide (k < n) = false := decide_eq_false hlt
          obtain rfl : k = n := by omega
          have htk : R.take k = R := by rw [← HNn.out]; exact List.take_length
          have HE : Hid (glEr l = 0) := Lib.hid (by rw [HF.out]; exact fstEr_ok fun r hr => HGD.out r (by rw [htk]; exact hr))
          have hb0 := HBX.out
          have hd0 := HDG.out
          rw [htk] at hb0 hd0
          have HBX1 := Lib.hid hb0
          have HDG1 := Lib.hid hd0
          have HB4 := Lib.hid (kx_to HB3.out HKX.out (by omega))
          have HH04 := Lib.hid ((HKX.out.block w.heap.size (by omega) (by simp)).trans HH03.out)
          have how3 := Lib.hid (own_kx HO.out HKX.out HH13.out (by decide))
          clear hb0 hd0 htk HBX HDG HGD HI dk hlt
          obtain ⟨wv, hwv⟩ : ∃ wv, wv = wr := ⟨_, rfl⟩
          subst hwv
          go_wp2_with fail
          go_loopw [10] (fun v10 wx => RgK R a c wv (w.heap.size + 1) k v10 wx) (fun v10 _ => (intOf v10 + 1).toNat)
          case atStart => exact ⟨k, by go_num, Nat.le_refl _, by rw [List.drop_eq_nil_of_le (by rw [HNn.out]; exact Nat.le_refl _)]; exact HBX1.out, kx_refl _ _⟩
          case round =>
            obtain ⟨j, rfl, hj, hbx, hkx⟩ := hrel
            have HKXr := Lib.hid hkx
            have HBXr := Lib.hid hbx
            clear hbx hkx
            cases j with
            | zero =>
              rw [show ((0 : Nat) : Int) - 1 = -1 from rfl]
              have hbx := HBXr.out
              rw [List.drop_zero] at hbx
              have HHr := Lib.hid ((HKXr.out.block w.heap.size (by omega) (by simp)).trans HH04.out)
              have HBr := Lib.hid (kx_to HB4.out HKXr.out (by omega))
              have HOr := Lib.hid (own_mono (own_kx HOW.out HKXr.out HBX1.out (by decide)) (show w.heap.size ≤ w3.heap.size by omega))
              have HDr := Lib.hid (DgIn.mono (B := w.heap.size) (B' := w3.heap.size) ⟨HDG1.out.len, fun i r L h1 h2 => ⟨(HDG1.out.row i r L h1 h2).1, own_kx (HDG1.out.row i r L h1 h2).2 HKXr.out HBX1.out (by decide)⟩⟩ (by omega))
              have hh0 := HHr.out
              have HH0w := Lib.hid hh0
              have zz := fun i => unfrozen hh0 i
              have r0 : wr.cell? ⟨w.heap.size, 0, none⟩ = some (.slice none 0 0) := by rw [cell_at hh0]; rfl
              have r1 : wr.cell? ⟨w.heap.size, 1, none⟩ = some (.bool false) := by rw [cell_at hh0]; rfl
              have r2 : wr.cell? ⟨w.heap.size, 2, none⟩ = some (.int .i64 0) := by rw [cell_at hh0]; rfl
              have hh1 := hbx
              have x0 : wr.cell? ⟨w.heap.size + 1, 0, none⟩ = some (.slice a k c) := by rw [cell_at hh1]; rfl
              have x1 : wr.cell? ⟨w.heap.size + 1, 1, none⟩ = some (.bool (tailP R)) := by rw [cell_at hh1]; rfl
              have x2 : wr.cell? ⟨w.heap.size + 1, 2, none⟩ = some (.int .i64 (frsP R)) := by rw [cell_at hh1]; rfl
              clear hh1
              have HBw := Lib.hid (HBr.out)
              clear hh0
              go_wp2_with fail
              have hs := set3_at HH0w.out (.slice a k c) (.bool (tailP R)) (.int .i64 (frsP R))
              have hB := set3_below HBw.out (Nat.le_refl _) (.slice a k c) (.bool (tailP R)) (.int .i64 (frsP R))
              have q0 : (set3 wr w.heap.size (.slice a k c) (.bool (tailP R)) (.int .i64 (frsP R))).cell? ⟨w.heap.size, 0, none⟩ = some (.slice a k c) := by rw [cell_at hs]; rfl
              have q1 : (set3 wr w.heap.size (.slice a k c) (.bool (tailP R)) (.int .i64 (frsP R))).cell? ⟨w.heap.size, 1, none⟩ = some (.bool (tailP R)) := by rw [cell_at hs]; rfl
              have q2 : (set3 wr w.heap.size (.slice a k c) (.bool (tailP R)) (.int .i64 (frsP R))).cell? ⟨w.heap.size, 2, none⟩ = some (.int .i64 (frsP R)) := by rw [cell_at hs]; rfl
              have hos : (set3 wr w.heap.size (.slice a k c) (.bool (tailP R)) (.int .i64 (frsP R))).ownsRow w.heap.size 116 3 (.slice a k c) k (cs3 (rws Ls)) := by
                have n0 := own_ne HOr.out HH0w.out (by decide)
                unfold set3
                exact own_set (own_set (own_set HOr.out n0) n0) n0
              have hdg := ((HDr.out.setT (o := 0) (u := .slice a k c) HH0w.out (by decide)).setT (o := 1) (u := .bool (tailP R)) (heap_set_at HH0w.out) (by decide)).setT (o := 2) (u := .int .i64 (frsP R)) (heap_set_at (heap_set_at HH0w.out)) (by decide)
              unfold set3 at hos
              unfold set3 at hB q0 q1 q2
              exact bodyPost_ret (v := .tuple #[.agg #[.slice a k c, .bool (tailP R), .int .i64 (frsP R)], .int .i64 0]) (by simp [results, Tryz.results11, go_sem, q0, q1, q2]) rfl ⟨hB, .inr ⟨HE.out, a, c, k, Ls, by rw [HNn.out], HKL.out, rfl, hos, hdg, HEN.out⟩⟩
            | succ j =>
              rw [show ((j + 1 : Nat) : Int) - 1 = (j : Int) by omega]
              have dk : decide ((0 : Int) ≤ (j : Int)) = true := decide_eq_true (by omega)
              have hjr : j < rs.length := by rw [HRS.out]; omega
              have hrk : rs[j]? = some rs[j] := List.getElem?_eq_getElem hjr
              have hRk : R[j]? = some rs[j].1 := by rw [← HM.out, List.getElem?_map, hrk]; rfl
              have how4 := own_kx how3.out HKXr.out HBX1.out (by decide)
              rcases own_form how4 with ⟨_, h0⟩ | ⟨ga, hga, _, hga2⟩
              · omega
              subst hga
              have p1 := own_cells how4 ((rwC_at rs j rs[j] 1 hrk (by omega)).trans rfl)
              generalize rs[j].1 = Q at *
              have e0 : (0 : Int) ≤ (j : Int) := by omega
              have e1 : (j : Int) < (k : Int) := by omega
              have hbx := HBXr.out
              have zz := fun i => unfrozen hbx i
              have y2 : wr.cell? ⟨w.heap.size + 1, 2, none⟩ = some (.int .i64 (frsP (R.drop (j + 1)))) := (cell_at hbx 2).trans rfl
              by_cases hq : Q.fin = 0
              · have HS0 := Lib.hid (frs_step hRk hq)
                have dq : (Q.fin == 0) = true := by rw [hq]; rfl
                clear hbx how4 hRk hrk hjr
                rw [hq] at p1
                clear hq dq
                go_wp2_with fail
                go_roundw
                case rel => exact ⟨j, by go_num, by omega, by rw [HS0.out]; exact HBXr.out, HKXr.out⟩
                case measure => simp [intOf]
              · have HS0 := Lib.hid (frs_hit hRk hq)
                have dq : (Q.fin == 0) = false := by simpa using hq
                clear hbx how4 hRk hrk hjr
                generalize Q.fin = fin at *
                go_wp2_with fail
                go_roundw
                case rel => exact ⟨j, by go_num, by omega, by rw [HS0.out]; exact heap_set_at HBXr.out, kx_set HKXr.out⟩
                case measure => simp [intOf]
end Go.Proofs.YtkgakgceamafcaaGreat

namespace Go.Proofs.YtkgakgceamafcaaGreat
open Go Go.RowKit Go.Shelf
set_option linter.unusedVariables false

set_option maxRecDepth 100000 in
set_option maxHeartbeats 4000000 in
theorem gload_many {w : World} {l : List UInt8} {a : Option Addr} {N c n : Nat} (hrd : Rd w 1 a l.length (bc l)) (hN : l.length = N) (hl : N ≤ 4096) (hlc : N ≤ c) (hc : c ≤ maxLen) (hn : (allP l 0).length = n) (hn4 : 400 < n) :
    Calls Tryz.prog 10 #[.slice a N c] w (GlNo 6 w) := by
  have hh0 := heap_alloc_new w (Obj.cells #[.pointer none, .bool false, .int .i64 0] 27)
  have al0 := t_al w (Obj.cells #[.pointer none, .bool false, .int .i64 0] 27)
  obtain ⟨w1, hw1⟩ : ∃ w1, w.alloc (Obj.cells #[.pointer none, .bool false, .int .i64 0] 27) = w1 := ⟨_, rfl⟩
  have hsz1 : (w.alloc (Obj.cells #[.pointer none, .bool false, .int .i64 0] 27)).heap.size = w.heap.size + 1 := by simp
  rw [hw1] at hh0 al0 hsz1
  have HNew := Lib.hid (new_of (t := l) a c (hrd.below al0) (by rw [hN]; exact hl))
  rw [hN] at HNew
  have HRd := Lib.hid (hrd.below al0)
  have HN := Lib.hid hN
  have HNn := Lib.hid hn
  have HH0 := Lib.hid hh0
  have HAL0 := Lib.hid al0
  have HSZ1 := Lib.hid hsz1
  obtain ⟨R, hR⟩ : ∃ R, allP l 0 = R := ⟨_, rfl⟩
  have HRR := Lib.hid hR
  rw [hR] at HNn
  clear hrd hN hn hh0 al0 hsz1 hR
  go_enter Tryz.func10, Tryz.ntmps10
  go_wp2_with fail
  refine HNew.out.mono ?_; rintro e w2 ⟨p, rfl, hAr, hb2⟩
  have HAr := Lib.hid hAr
  have HB2 := Lib.hid hb2
  have HAll := Lib.hid (all_of (c := c) (HRd.out.below hb2) (by rw [HN.out]; omega) (by rw [HN.out]; exact hlc) hc)
  rw [HN.out, HRR.out] at HAll
  clear hAr hb2 HNew hw1
  go_wp2_with fail
  refine HAll.out.mono ?_; rintro e w3 ⟨rs, a4, c4, rfl, hm, ho, hi, hb3⟩
  have hrl : rs.length = n := by rw [← HNn.out, ← hm, List.length_map]
  have HRS := Lib.hid hrl
  rw [hrl] at ho ⊢
  have HM := Lib.hid hm
  have HO := Lib.hid ho
  have HI := Lib.hid hi
  have HB3 := Lib.hid (HB2.out.trans (hb3.mono HB2.out.size))
  have HAr3 := Lib.hid (HAr.out.below hb3)
  have d4 : decide ((400 : Int) < (n : Int)) = true := decide_eq_true (by omega)
  have d4' : decide (400 < n) = true := decide_eq_true hn4
  have HNo := Lib.hid (nothing_of 6 w3)
  have HAL := Lib.hid (HAL0.out.trans (HB3.out.mono HAL0.out.size))
  have HH := Lib.hid ((HB3.out.block w.heap.size (by have := HSZ1.out; omega)).trans HH0.out)
  have HSZ : Hid (w.heap.size < w3.heap.size) := lt_of_heap HH.out
  clear hm ho hi hb3 hrl HAll HAr
  go_wp2_with fail
  refine HNo.out.mono ?_; rintro e wz ⟨p, Bz, rfl, hAr, hbz⟩
  have hbox := (hbz.block w.heap.size HSZ.out).trans HH.out
  have zz := fun i => unfrozen hbox i
  have r0 : wz.cell? ⟨w.heap.size, 0, none⟩ = some (.pointer none) := (cell_at hbox 0).trans rfl
  have r1 : wz.cell? ⟨w.heap.size, 1, none⟩ = some (.bool false) := (cell_at hbox 1).trans rfl
  have r2 : wz.cell? ⟨w.heap.size, 2, none⟩ = some (.int .i64 0) := (cell_at hbox 2).trans rfl
  have HX := Lib.hid (no_box (Q := fun _ _ => True) (k := 0) hbox hAr (HAL.out.trans (hbz.mono HAL.out.size)) (Nat.le_refl _))
  clear hAr hbz hbox HNo
  go_wp2_with fail
  obtain ⟨⟨s0, s1, s2⟩, hA7, hB7⟩ := HX.out
  exact bodyPost_ret (v := .tuple #[.agg #[.pointer none, .bool false, .int .i64 2], .pointer (some ⟨p, 0, none⟩), .int .i64 6]) (by simp [results, Tryz.results10, go_sem, s0, s1, s2]) rfl ⟨p, Bz, rfl, hA7, hB7⟩

/-- What grid.Load tells of any file. -/
def GlPost (l : List UInt8) (w : World) (e : Ending) (w' : World) : Prop :=
  (glEr l ≠ 0 ∧ GlNo (glEr l) w e w') ∨ (glEr l = 0 ∧ ∃ (px : Option Addr) (p : Nat) (Ls : List R3) (Cs : List (List CelM)), e = .returned (.tuple #[.agg #[.pointer px, .bool (tailP (allP l 0)), .int .i64 (frsP (allP l 0))], .pointer (some ⟨p, 0, none⟩), .int .i64 0]) ∧
      Tin w' 194 (.pointer px) (rws Ls) ∧ Ls.length = (allP l 0).length ∧ GrIn w' l Ls Cs ∧ FileOf Ls Cs (allP l 0) ∧ Ar w' (w.heap.size + 1) p l ∧ Below w.heap.size w w')
theorem gload_of {w : World} {l : List UInt8} {a : Option Addr} {N c : Nat} (hrd : Rd w 1 a l.length (bc l)) (hN : l.length = N) (hlc : N ≤ c) (hc : c ≤ maxLen) :
    Calls Tryz.prog 10 #[.slice a N c] w (GlPost l w) := by
  by_cases hb : 4096 < N
  · have e : glEr l = 8 := by unfold glEr; rw [hN, if_pos hb]
    refine (gload_big (a := a) (c := c) (by omega) hb).mono ?_
    intro e' w' h
    exact Or.inl ⟨by rw [e]; decide, by rw [e]; exact h⟩
  · by_cases hm : 400 < (allP l 0).length
    · have e : glEr l = 6 := by unfold glEr; rw [hN, if_neg hb, if_pos hm]
      refine (gload_many hrd hN (by omega) hlc hc rfl hm).mono ?_
      intro e' w' h
      exact Or.inl ⟨by rw [e]; decide, by rw [e]; exact h⟩
    · have e : glEr l = fstEr (allP l 0) := by unfold glEr; rw [hN, if_neg hb, if_neg hm]
      refine (gload_few hrd hN (by omega) hlc hc rfl (by omega)).mono ?_
      intro e' w' h
      unfold GlPost
      rw [e]
      exact h
end Go.Proofs.YtkgakgceamafcaaGreat
