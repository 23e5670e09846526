/-
  Texts of this seat, put together (a claim holds few texts): RwG, GeG, GeH, WgG, WgH.
-/
import Derived.Test.YtkgakgceamafcaaGreatMk29
import Derived.Deep.QuietTactic
import Derived.StillTailTactics

namespace Go.Proofs.YtkgakgceamafcaaGreat
open Go Go.RowKit
set_option linter.unusedVariables false

theorem neq_plain (w : World) (a0 a1 b0 b1 : ByteArray) (ka kb : Bool) : Sem.run Tryz.prog (binOp .neq 51 (.agg #[.string a0, .string a1, .bool ka]) (.agg #[.string b0, .string b1, .bool kb])) w = .ok (.bool (!decide (a0 = b0 ∧ a1 = b1 ∧ ka = kb))) w := by
  have u9 := Tryz.underlying9
  have a9 := Tryz.isAgg9
  have z9 := Tryz.sizeOf9
  have u4 := Tryz.underlying4
  have a4 := Tryz.isAgg4
  have z4 := Tryz.sizeOf4
  have hS : Tryz.prog.underlying 51 = some (.struct (Tryz.prog.fieldsOf 51)) := by kernel_rfl
  have hp : Tryz.prog.stoodInHeld 51 = false := by kernel_rfl
  rw [run_neq_struct, show (10000 : Nat) = 9999 + 1 from rfl, run_equalIn_agg w 9999 51 _ _ hS hp]
  simp only [Program.fieldsOf, Tryz.underlying51]
  go_simp
  by_cases h1 : a0 = b0 <;> by_cases h2 : a1 = b1 <;> by_cases h3 : ka = kb <;> simp [h1, h2, h3, toList_iff]
theorem rcd_cell {w : World} {a : Option Addr} {L : List RCM} (h : Rd w 3 a L.length (rcC L)) {k : Nat} (hk : k < L.length) :
    ∃ g o, a = some ⟨g, o, none⟩ ∧ g < w.heap.size ∧ w.cell? ⟨g, o + k * 3, none⟩ = some (.string L[k].1) ∧ w.cell? ⟨g, o + k * 3 + 1, none⟩ = some (.string L[k].2.1) ∧ w.cell? ⟨g, o + k * 3 + 2, none⟩ = some (.bool L[k].2.2) := by
  obtain ⟨g, o, e, hg, hc⟩ := h.2 (by omega)
  have hh := fun (j : Nat) (u : Value) (hj : j < 3) (hu : (rcC1 L[k])[j]? = some u) => hc (k * 3 + j) u ((rcC_at L k L[k] j (List.getElem?_eq_getElem hk) hj).trans hu)
  have h0 := hh 0 _ (by omega) rfl
  have h1 := hh 1 _ (by omega) rfl
  have h2 := hh 2 _ (by omega) rfl
  exact ⟨g, o, e, hg, h0, by rw [Nat.add_assoc]; exact h1, by rw [Nat.add_assoc]; exact h2⟩

set_option maxRecDepth 100000 in
set_option maxHeartbeats 4000000 in
theorem rcsame_of {w : World} {a b : Option Addr} {c d : Nat} {L M : List RCM} (ha : Rd w 3 a L.length (rcC L)) (hb : Rd w 3 b M.length (rcC M)) (hn : L.length ≤ 1000000) (hn2 : M.length ≤ 1000000) :
    Calls Tryz.prog 106 #[.slice a L.length c, .slice b M.length d] w fun e w' => e = .returned (.bool (decide (L = M))) ∧ Below w.heap.size w w' := by
  by_cases hlm : L.length = M.length
  · have HA := Lib.hid ha
    have HB := Lib.hid hb
    have HLM := Lib.hid hlm
    have dn : ((L.length : Int) != (L.length : Int)) = false := by simp
    rw [← hlm]
    clear ha hb hlm
    go_enter Tryz.func106, Tryz.ntmps106
    go_wp2_with fail
    go_loopw [13] (fun v13 wr => ∃ k : Nat, v13 = .int .i64 k ∧ k ≤ L.length ∧ L.take k = M.take k ∧ Below w.heap.size w wr) (fun v13 _ => L.length - (intOf v13).toNat)
    case atStart => exact ⟨0, rfl, by omega, by simp, Below.refl _ _⟩
    case round =>
      obtain ⟨k, rfl, hk, hpre, hbr⟩ := hrel
      have HP := Lib.hid hpre
      have HBr := Lib.hid hbr
      have hzr := hbr.size
      clear hpre hbr
      by_cases hlt : k < L.length
      · have dk : decide (k < L.length) = true := decide_eq_true hlt
        have hlt2 : k < M.length := by rw [← HLM.out]; exact hlt
        obtain ⟨g, o, rfl, hg, x0, x1, x2⟩ := rcd_cell HA.out hlt
        obtain ⟨g2, o2, rfl, hg2, z0, z1, z2⟩ := rcd_cell HB.out hlt2
        have y0 := (HBr.out.cell (p := ⟨g, o + k * 3, none⟩) hg).trans x0
        have y1 := (HBr.out.cell (p := ⟨g, o + k * 3 + 1, none⟩) hg).trans x1
        have y2 := (HBr.out.cell (p := ⟨g, o + k * 3 + 2, none⟩) hg).trans x2
        have v0 := (HBr.out.cell (p := ⟨g2, o2 + k * 3, none⟩) hg2).trans z0
        have v1 := (HBr.out.cell (p := ⟨g2, o2 + k * 3 + 1, none⟩) hg2).trans z1
        have v2 := (HBr.out.cell (p := ⟨g2, o2 + k * 3 + 2, none⟩) hg2).trans z2
        have hnq := fun w' => neq_plain w' L[k].1 L[k].2.1 M[k].1 M[k].2.1 L[k].2.2 M[k].2.2
        have e0 : (0 : Int) ≤ (k : Int) := by omega
        have e1 : (k : Int) < (L.length : Int) := by omega
        have htk : L.take (k + 1) = L.take k ++ [L[k]] := List.take_succ_eq_append_getElem hlt
        have htk2 : M.take (k + 1) = M.take k ++ [M[k]] := List.take_succ_eq_append_getElem hlt2
        have HTK := Lib.hid htk
        have HTK2 := Lib.hid htk2
        have HLK := Lib.hid (show ∀ h : L = M, L[k] = M[k] from fun h => by subst h; rfl)
        clear x0 x1 x2 z0 z1 z2 htk htk2
        generalize L[k] = P at *
        generalize M[k] = Q at *
        obtain ⟨p0, p1, p2⟩ := P
        obtain ⟨q0, q1, q2⟩ := Q
        simp only at y0 y1 y2 v0 v1 v2 hnq
        by_cases hpq : (p0, p1, p2) = ((q0, q1, q2) : RCM)
        · simp only [Prod.mk.injEq] at hpq
          rw [decide_eq_true hpq] at hnq
          go_upto_region 6 with fail
          go_quiet (fail)
          all_goals
            go_wp2_with fail
            go_roundw
            case rel => exact ⟨k + 1, by simp, by omega, by rw [HTK.out, HTK2.out, HP.out, hpq.1, hpq.2.1, hpq.2.2], below_draw1 HBr.out _⟩
            case measure => simp [intOf]; omega
        · have hne : ¬ (p0 = q0 ∧ p1 = q1 ∧ p2 = q2) := fun h => hpq (by rw [h.1, h.2.1, h.2.2])
          rw [decide_eq_false hne] at hnq
          have HNE : Hid (decide (L = M) = false) := Lib.hid (decide_eq_false (fun h => hpq (HLK.out h)))
          clear hpq hne
          go_upto_region 6 with fail
          go_quiet (fail)
          all_goals
            go_wp2_with fail
            go_ret
            exact ⟨by rw [HNE.out] <;> rfl, below_draw1 HBr.out _⟩
      · have dk : decide (k < L.length) = false := decide_eq_false hlt
        have hkl : k = L.length := by omega
        have HEQ : Hid (decide (L = M) = true) := Lib.hid (decide_eq_true (by
          have h := HP.out
          rw [hkl, List.take_length, HLM.out, List.take_length] at h
          exact h))
        go_wp2_with fail
        go_ret
        exact ⟨by rw [HEQ.out] <;> rfl, HBr.out⟩
  · have HNE : Hid (decide (L = M) = false) := Lib.hid (decide_eq_false (fun h => hlm (by rw [h])))
    have dn : ((L.length : Int) != (M.length : Int)) = true := by simp; omega
    clear ha hb
    go_enter Tryz.func106, Tryz.ntmps106
    go_wp2_with fail
    go_ret
    exact ⟨by rw [HNE.out] <;> rfl, Below.refl _ _⟩

set_option maxRecDepth 100000 in
set_option maxHeartbeats 4000000 in
theorem rrsame_of {w : World} {a b : Option Addr} {c d : Nat} {e f : Int} {h k : Bool} {L M : List RCM} (ha : Rd w 3 a L.length (rcC L)) (hb : Rd w 3 b M.length (rcC M)) (hn : L.length ≤ 1000000) (hn2 : M.length ≤ 1000000) :
    Calls Tryz.prog 51 #[.agg #[.slice a L.length c, .int .i64 e, .bool h], .agg #[.slice b M.length d, .int .i64 f, .bool k]] w fun e' w' => e' = .returned (.bool (decide (e = f ∧ h = k ∧ L = M))) ∧ Below w.heap.size w w' := by
  obtain ⟨w1, hw1⟩ : ∃ w1, w1 = allocs w [Obj.cells #[Value.slice a L.length c, Value.int .i64 e, Value.bool h] 116, Obj.cells #[Value.slice b M.length d, Value.int .i64 f, Value.bool k] 116] := ⟨_, rfl⟩
  have HB1 : Hid (Below w.heap.size w w1) := by rw [hw1]; exact Lib.hid (allocs_below _ w)
  have hzw : w1.heap.size > w.heap.size + 1 := by rw [hw1, allocs_size]; simp
  have h0 : w1.heap[w.heap.size]? = some (.cells #[Value.slice a L.length c, Value.int .i64 e, Value.bool h] 116 (0, 0)) := by rw [hw1]; exact allocs_at _ w 0 _ rfl
  have h1 : w1.heap[w.heap.size + 1]? = some (.cells #[Value.slice b M.length d, Value.int .i64 f, Value.bool k] 116 (0, 0)) := by rw [hw1]; exact allocs_at _ w 1 _ rfl
  have x0 : w1.cell? ⟨w.heap.size, 0, none⟩ = some (Value.slice a L.length c) := by rw [cell_at h0]; rfl
  have x1 : w1.cell? ⟨w.heap.size, 1, none⟩ = some (.int .i64 e) := by rw [cell_at h0]; rfl
  have x2 : w1.cell? ⟨w.heap.size, 2, none⟩ = some (.bool h) := by rw [cell_at h0]; rfl
  have y0 : w1.cell? ⟨w.heap.size + 1, 0, none⟩ = some (Value.slice b M.length d) := by rw [cell_at h1]; rfl
  have y1 : w1.cell? ⟨w.heap.size + 1, 1, none⟩ = some (.int .i64 f) := by rw [cell_at h1]; rfl
  have y2 : w1.cell? ⟨w.heap.size + 1, 2, none⟩ = some (.bool k) := by rw [cell_at h1]; rfl
  have HS := Lib.hid (rcsame_of (w := w1) (c := c) (d := d) (ha.below HB1.out) (hb.below HB1.out) hn hn2)
  have HE : Hid (decide (e = f ∧ h = k ∧ L = M) = (decide (e = f) && (decide (h = k) && decide (L = M)))) := Lib.hid (by rw [Bool.decide_and, Bool.decide_and])
  have he : (e == f) = decide (e = f) := by by_cases hh : e = f <;> simp [hh]
  have hk : (h == k) = decide (h = k) := by by_cases hh : h = k <;> simp [hh]
  generalize decide (L = M) = q at *
  generalize decide (e = f) = q1 at *
  generalize decide (h = k) = q2 at *
  clear h0 h1 ha hb
  go_enter Tryz.func51, Tryz.ntmps51
  go_upto_region 1 with fail
  rw [show (w.alloc (Obj.cells #[Value.slice a L.length c, Value.int .i64 e, Value.bool h] 116)).alloc (Obj.cells #[Value.slice b M.length d, Value.int .i64 f, Value.bool k] 116) = w1 from hw1.symm]
  clear hw1
  cases q1 with
  | false =>
    go_wp2_with fail
    go_ret
    exact ⟨by rw [HE.out] <;> rfl, HB1.out⟩
  | true =>
    cases q2 with
    | false =>
      go_wp2_with fail
      go_ret
      exact ⟨by rw [HE.out] <;> rfl, HB1.out⟩
    | true =>
      go_wp2_with fail
      refine HS.out.mono ?_; rintro e' w2 ⟨rfl, hb2⟩
      have HB2 := Lib.hid (HB1.out.trans (hb2.mono (by omega)))
      clear hb2
      go_wp2_with fail
      go_ret
      exact ⟨by rw [HE.out]; simp, HB2.out⟩

end Go.Proofs.YtkgakgceamafcaaGreat

namespace Go.Proofs.YtkgakgceamafcaaGreat
open Go Go.RowKit Go.Shelf
set_option linter.unusedVariables false

/-- A document's row, as what it is. -/
abbrev DRow := List RCM × Int × Bool
def gRow (Ds : List R3) (Ms : List (List RCM)) : List DRow := (Ds.zip Ms).map fun q => (q.2, q.1.e, q.1.b)
theorem gRow_at {Ds : List R3} {Ms : List (List RCM)} {k : Nat} {d : R3} {M : List RCM} (h1 : Ds[k]? = some d) (h2 : Ms[k]? = some M) : (gRow Ds Ms)[k]? = some (M, d.e, d.b) := by
  have h : (Ds.zip Ms)[k]? = some (d, M) := by rw [List.getElem?_zip_eq_some]; exact ⟨h1, h2⟩
  unfold gRow
  rw [List.getElem?_map, h]; rfl
theorem gRow_len {Ds : List R3} {Ms : List (List RCM)} (h : Ms.length = Ds.length) : (gRow Ds Ms).length = Ds.length := by unfold gRow; simp [h]
theorem rd_row {w : World} {a : Option Addr} {n k : Nat} {Ds : List R3} {d : R3} (h : Rd w 3 a n (cs3 (rws Ds))) (hn : Ds.length = n) (hd : Ds[k]? = some d) : ∃ g o, a = some ⟨g, o, none⟩ ∧ g < w.heap.size ∧ w.cell? ⟨g, o + k * 3, none⟩ = some (.slice d.a d.n d.c) ∧ w.cell? ⟨g, o + k * 3 + 1, none⟩ = some (.int .i64 d.e) ∧ w.cell? ⟨g, o + k * 3 + 2, none⟩ = some (.bool d.b) := by
  have hk := (List.getElem?_eq_some_iff.1 hd).1
  obtain ⟨g, o, rfl, hg, hc⟩ := h.2 (by omega)
  have hr : (rws Ds)[k]? = some (r3V d) := by unfold rws; rw [List.getElem?_map, hd]; rfl
  have e := fun (j : Nat) (u : Value) (hj : j < 3) (hu : (c3 (r3V d))[j]? = some u) => hc (k * 3 + j) u ((cs3_at (rws_is Ds) hr hj).trans hu)
  have e0 := e 0 _ (by omega) rfl
  have e1 := e 1 _ (by omega) rfl
  have e2 := e 2 _ (by omega) rfl
  exact ⟨g, o, rfl, hg, e0, e1, e2⟩

set_option maxRecDepth 100000 in
set_option maxHeartbeats 8000000 in
theorem rgsame_of {w : World} {a b : Option Addr} {n m c d B1 B2 : Nat} {t u : Bool} {e f : Int} {Ds Es : List R3} {Ms Ns : List (List RCM)} (ha : Rd w 3 a n (cs3 (rws Ds))) (hb : Rd w 3 b m (cs3 (rws Es))) (hd : DgIn w B1 Ds Ms) (he : DgIn w B2 Es Ns) (hn : Ds.length = n) (hm : Es.length = m) (hl : n ≤ 100000) (hl2 : m ≤ 100000) (hM : ∀ M ∈ Ms, M.length ≤ 1000000) (hN : ∀ M ∈ Ns, M.length ≤ 1000000) :
    Calls Tryz.prog 12 #[.agg #[.slice a n c, .bool t, .int .i64 e], .agg #[.slice b m d, .bool u, .int .i64 f]] w fun e' w' => e' = .returned (.bool (decide (t = u ∧ e = f ∧ gRow Ds Ms = gRow Es Ns))) ∧ Below w.heap.size w w' := by
  obtain ⟨w1, hw1, hb1, hz1, hA, hC⟩ := two_blocks w (Obj.cells #[.slice a n c, .bool t, .int .i64 e] 35) (Obj.cells #[.slice b m d, .bool u, .int .i64 f] 35)
  have HRa := Lib.hid (ha.below hb1)
  have HRb := Lib.hid (hb.below hb1)
  have HD := Lib.hid (hd.below hb1)
  have HE := Lib.hid (he.below hb1)
  have HNn := Lib.hid hn
  have HMm := Lib.hid hm
  have HM := Lib.hid hM
  have HN := Lib.hid hN
  have HB := Lib.hid hb1
  have HA := Lib.hid hA
  have HC := Lib.hid hC
  have HGl : Hid ((gRow Ds Ms).length = n) := Lib.hid ((gRow_len hd.len).trans hn)
  have HGm : Hid ((gRow Es Ns).length = m) := Lib.hid ((gRow_len he.len).trans hm)
  have a0 : w1.cell? ⟨w.heap.size, 0, none⟩ = some (.slice a n c) := by rw [cell_at hA]; rfl
  have a1 : w1.cell? ⟨w.heap.size, 1, none⟩ = some (.bool t) := by rw [cell_at hA]; rfl
  have a2 : w1.cell? ⟨w.heap.size, 2, none⟩ = some (.int .i64 e) := by rw [cell_at hA]; rfl
  have b0 : w1.cell? ⟨w.heap.size + 1, 0, none⟩ = some (.slice b m d) := by rw [cell_at hC]; rfl
  have b1 : w1.cell? ⟨w.heap.size + 1, 1, none⟩ = some (.bool u) := by rw [cell_at hC]; rfl
  have b2 : w1.cell? ⟨w.heap.size + 1, 2, none⟩ = some (.int .i64 f) := by rw [cell_at hC]; rfl
  obtain ⟨D, hDD⟩ : ∃ D, decide (t = u ∧ e = f ∧ gRow Ds Ms = gRow Es Ns) = D := ⟨_, rfl⟩
  have HDD := Lib.hid hDD
  rw [hDD]
  clear hDD ha hb hd he hn hm hM hN hb1 hA hC
  by_cases hnm : n = m
  · subst hnm
    by_cases htu : t = u
    · subst htu
      by_cases hef : e = f
      · subst hef
        have d1 : ((n : Int) == (n : Int)) = true := beq_self_eq_true _
        have d2 : (t == t) = true := beq_self_eq_true _
        have d3 : (e == e) = true := beq_self_eq_true _
        go_enter Tryz.func12, Tryz.ntmps12
        go_upto_region 1 with fail
        go_wp2_with fail
        go_loopw [30] (fun v30 wr => ∃ k : Nat, v30 = .int .i64 (k : Int) ∧ k ≤ n ∧ Below w1.heap.size w1 wr ∧ ∀ i, i < k → (gRow Ds Ms)[i]? = (gRow Es Ns)[i]?) (fun v30 _ => n - (intOf v30).toNat)
        case atStart => exact ⟨0, rfl, Nat.zero_le _, Below.refl _ _, fun i h => by omega⟩
        case round =>
          obtain ⟨k, rfl, hk, hbw, hal⟩ := hrel
          have HBw := Lib.hid hbw
          have HAl := Lib.hid hal
          have x0 := (hbw.cell (p := ⟨w.heap.size, 0, none⟩) (show w.heap.size < w1.heap.size by omega)).trans a0
          have x3 := (hbw.cell (p := ⟨w.heap.size + 1, 0, none⟩) (show w.heap.size + 1 < w1.heap.size by omega)).trans b0
          clear hbw hal
          by_cases hlt : k < n
          · have dk : decide (k < n) = true := decide_eq_true hlt
            obtain ⟨p, hp⟩ : ∃ p, Ds[k]? = some p := ⟨_, List.getElem?_eq_getElem (by rw [HNn.out]; exact hlt)⟩
            obtain ⟨q, hq⟩ : ∃ q, Es[k]? = some q := ⟨_, List.getElem?_eq_getElem (by rw [HMm.out]; exact hlt)⟩
            obtain ⟨M, hMk⟩ : ∃ M, Ms[k]? = some M := ⟨_, List.getElem?_eq_getElem (by rw [HD.out.len, HNn.out]; exact hlt)⟩
            obtain ⟨N, hNk⟩ : ∃ N, Ns[k]? = some N := ⟨_, List.getElem?_eq_getElem (by rw [HE.out.len, HMm.out]; exact hlt)⟩
            have g1 := gRow_at hp hMk
            have g2 := gRow_at hq hNk
            have r1 := HD.out.row k p M hp hMk
            have r2 := HE.out.row k q N hq hNk
            obtain ⟨ga, oa, rfl, _, y0, y1, y2⟩ := rd_row (HRa.out.below HBw.out) HNn.out hp
            obtain ⟨gb, ob, rfl, _, y3, y4, y5⟩ := rd_row (HRb.out.below HBw.out) HMm.out hq
            obtain ⟨pa, pn, pc, pe, pb⟩ := p
            obtain ⟨qa, qn, qc, qe, qb⟩ := q
            simp only at r1 r2 g1 g2 y0 y1 y2 y3 y4 y5
            have e0 : (0 : Int) ≤ (k : Int) := by omega
            have e1 : (k : Int) < (n : Int) := by omega
            have HG1 := Lib.hid g1
            have HG2 := Lib.hid g2
            have HSa : Hid (∀ v, Below wr.heap.size wr v → Calls Tryz.prog 51 #[.agg #[.slice pa pn pc, .int .i64 pe, .bool pb], .agg #[.slice qa qn qc, .int .i64 qe, .bool qb]] v fun e' w' => e' = .returned (.bool (decide (pe = qe ∧ pb = qb ∧ M = N))) ∧ Below v.heap.size v w') := by
              have hpn := r1.1
              have hqn := r2.1
              subst hpn hqn
              exact Lib.hid (fun v hv => rrsame_of ((rd_own (own_below r1.2 HBw.out)).below hv) ((rd_own (own_below r2.2 HBw.out)).below hv) (HM.out M (List.mem_of_getElem? hMk)) (HN.out N (List.mem_of_getElem? hNk)))
            obtain ⟨S, hS⟩ : ∃ S, decide (pe = qe ∧ pb = qb ∧ M = N) = S := ⟨_, rfl⟩
            have HS := Lib.hid hS
            rw [hS] at HSa
            clear hS r1 r2 g1 g2 hp hq hMk hNk a0 a1 a2 b0 b1 b2
            go_upto_region 6 with fail
            go_still_tail 10, (by kernel_rfl)
            change wpList _ _ _ _ _ wr.drew
            have hdr : Below wr.heap.size wr wr.drew := (Below.refl _ _).drew
            have HSc := Lib.hid (HSa.out _ hdr)
            have HDr := Lib.hid hdr
            clear hdr HSa
            generalize wr.drew = w2 at *
            go_wp2_with fail
            refine HSc.out.mono ?_; rintro e' w3 ⟨rfl, hb3⟩
            have HB3 := Lib.hid ((HBw.out.trans (HDr.out.mono HBw.out.size)).trans (hb3.mono (HBw.out.trans (HDr.out.mono HBw.out.size)).size))
            clear hb3 HSc
            cases S
            · have hD : D = false := by
                rw [← HDD.out]
                refine decide_eq_false (fun h => ?_)
                have h1 := HG1.out.symm.trans ((congrArg (fun z => z[k]?) h.2.2).trans HG2.out)
                simp only [Option.some.injEq, Prod.mk.injEq] at h1
                exact of_decide_eq_false HS.out ⟨h1.2.1, h1.2.2, h1.1⟩
              subst hD
              go_wp2_with fail
              go_ret
              exact ⟨rfl, HB.out.trans (HB3.out.mono HB.out.size)⟩
            · have hq := of_decide_eq_true HS.out
              have HQ := Lib.hid hq
              clear hq
              go_wp2_with fail
              go_roundw
              case rel =>
                refine ⟨k + 1, rfl, by omega, HB3.out, fun i hi => ?_⟩
                rcases Nat.lt_or_ge i k with h | h
                · exact HAl.out i h
                · obtain rfl : i = k := by omega
                  rw [HG1.out, HG2.out, HQ.out.1, HQ.out.2.1, HQ.out.2.2]
              case measure => simp [intOf]; omega
          · have dk : decide (k < n) = false := decide_eq_false hlt
            obtain rfl : k = n := by omega
            have hD : D = true := by
              rw [← HDD.out]
              refine decide_eq_true ⟨by trivial, by trivial, List.ext_getElem? fun i => ?_⟩
              rcases Nat.lt_or_ge i k with h | h
              · exact HAl.out i h
              · rw [List.getElem?_eq_none (by rw [HGl.out]; exact h), List.getElem?_eq_none (by rw [HGm.out]; exact h)]
            subst hD
            go_wp2_with fail
            go_ret
            exact ⟨rfl, HB.out.trans (HBw.out.mono HB.out.size)⟩
      · have d1 : ((n : Int) == (n : Int)) = true := beq_self_eq_true _
        have d2 : (t == t) = true := beq_self_eq_true _
        have hD : D = false := by rw [← HDD.out]; exact decide_eq_false (by exact fun h => hef h.2.1)
        subst hD
        have d3 : (e == f) = false := by simpa using hef
        go_enter Tryz.func12, Tryz.ntmps12
        go_upto_region 1 with fail
        go_wp2_with fail
        go_ret
        exact ⟨rfl, HB.out⟩
    · have d1 : ((n : Int) == (n : Int)) = true := beq_self_eq_true _
      have hD : D = false := by rw [← HDD.out]; exact decide_eq_false (by exact fun h => htu h.1)
      subst hD
      have d2 : (t == u) = false := by simpa using htu
      go_enter Tryz.func12, Tryz.ntmps12
      go_upto_region 1 with fail
      go_wp2_with fail
      go_ret
      exact ⟨rfl, HB.out⟩
  · have hD : D = false := by rw [← HDD.out]; exact decide_eq_false (by exact fun h => hnm (by have := congrArg List.length h.2.2; rw [HGl.out, HGm.out] at this; exact this))
    subst hD
    have d1 : ((n : Int) == (m : Int)) = false := by simp; omega
    go_enter Tryz.func12, Tryz.ntmps12
    go_upto_region 1 with fail
    go_wp2_with fail
    go_ret
    exact ⟨rfl, HB.out⟩
end Go.Proofs.YtkgakgceamafcaaGreat

namespace Go.Proofs.YtkgakgceamafcaaGreat
open Go Go.RowKit Go.Shelf
set_option linter.unusedVariables false

/-- How a row ends, in a grid. -/
def endR (en e : Int) : Int := if e = 0 then en else e
set_option maxRecDepth 100000 in
set_option maxHeartbeats 1000000 in
theorem gmark_of {w : World} (pv a : Option Addr) (n c : Nat) (t h : Bool) (en e : Int) :
    Calls Tryz.prog 57 #[.agg #[.pointer pv, .bool t, .int .i64 en], .agg #[.slice a n c, .int .i64 e, .bool h]] w fun e' w' => e' = .returned (.string (markS (endR en e))) ∧ Below w.heap.size w w' := by
  obtain ⟨w1, hw1, hb1, hz1, hA, hC⟩ := two_blocks w (Obj.cells #[.pointer pv, .bool t, .int .i64 en] 27) (Obj.cells #[.slice a n c, .int .i64 e, .bool h] 103)
  have a2 : w1.cell? ⟨w.heap.size, 2, none⟩ = some (.int .i64 en) := by rw [cell_at hA]; rfl
  have b1 : w1.cell? ⟨w.heap.size + 1, 1, none⟩ = some (.int .i64 e) := by rw [cell_at hC]; rfl
  have HB := Lib.hid hb1
  have HM := Lib.hid (fun (x : Int) (v : World) => mark_of x v)
  clear hA hC hb1
  by_cases h0 : e = 0
  · subst h0
    have e1 : endR en 0 = en := rfl
    rw [e1]
    clear e1
    go_enter Tryz.func57, Tryz.ntmps57
    go_upto_region 1 with fail
    go_wp2_with fail
    refine (HM.out _ _).mono ?_; rintro e' w2 ⟨rfl, rfl⟩
    go_wp2_with fail
    go_ret
    exact ⟨rfl, HB.out⟩
  · have d : (e == 0) = false := by simpa using h0
    have e1 : endR en e = e := by unfold endR; rw [if_neg h0]
    rw [e1]
    clear e1
    go_enter Tryz.func57, Tryz.ntmps57
    go_upto_region 1 with fail
    go_wp2_with fail
    refine (HM.out _ _).mono ?_; rintro e' w2 ⟨rfl, rfl⟩
    go_wp2_with fail
    go_ret
    exact ⟨rfl, HB.out⟩
end Go.Proofs.YtkgakgceamafcaaGreat

namespace Go.Proofs.YtkgakgceamafcaaGreat
open Go Go.RowKit
set_option linter.unusedVariables false

set_option maxRecDepth 100000 in
set_option maxHeartbeats 2000000 in
theorem kids_i {w w0 : World} {b f g o c h : Nat} {es : List Ent} (hw : Below w0.heap.size w0 w) (hb : b < w0.heap.size) (hg : g < w0.heap.size) (k0 : w0.cell? ⟨b, 0, none⟩ = some (.slice (some ⟨g, o, none⟩) es.length c)) (hl : es.length ≤ 1000000) (h0 : 0 < es.length) (hf : f + sumN es ≤ 2000000)
    (hk : ∀ k x, es[k]? = some x → w0.cell? ⟨g, o + k, none⟩ = some (ptr x.b) ∧ x.f = f + sumN (es.take k) ∧ w0.cell? ⟨x.b, 2, none⟩ = some (.int .i64 x.n) ∧ x.b < w0.heap.size) :
    Calls Tryz.prog 186 #[spotV b f] w fun e w' => ∃ g', e = .returned (.slice (some ⟨g', 0, none⟩) es.length es.length) ∧ w.heap.size ≤ g' ∧ w'.heap[g']? = some (.cells (spQ es).toArray 211 (0, 0)) ∧ Below w.heap.size w w' := by
  obtain ⟨i0, hi0, hz0, hz1, hz2⟩ := info_parts info_sp
  have hh := heap_alloc_new w (Obj.cells #[ptr b, .int .i64 (f : Int)] 211)
  have al := t_al w (Obj.cells #[ptr b, .int .i64 (f : Int)] 211)
  have hsz : (w.alloc (Obj.cells #[ptr b, .int .i64 (f : Int)] 211)).heap.size = w.heap.size + 1 := by simp
  obtain ⟨w1, hw1⟩ : ∃ w1, w.alloc (Obj.cells #[ptr b, .int .i64 (f : Int)] 211) = w1 := ⟨_, rfl⟩
  rw [hw1] at hh al hsz
  have c0 : w1.cell? ⟨w.heap.size, 0, none⟩ = some (ptr b) := (cell_at hh 0).trans rfl
  have c1 : w1.cell? ⟨w.heap.size, 1, none⟩ = some (.int .i64 (f : Int)) := (cell_at hh 1).trans rfl
  have hw01 := hw.trans (al.mono hw.size)
  have hws := hw.size
  have kb := (hw01.cell (p := ⟨b, 0, none⟩) hb).trans k0
  obtain ⟨m, hm⟩ : ∃ m, es.length = m := ⟨_, rfl⟩
  have HM := Lib.hid hm
  have HK := Lib.hid hk
  rw [hm] at kb hl h0 ⊢
  clear k0 hk hm
  go_enter Tryz.func186, Tryz.ntmps186
  simp only [spotV]
  go_wp2_with (at_make; refine wpList_make_full _ rfl _ _ 209 rfl w.heap.size 211 i0 (.agg #[.pointer none, .int .i64 0]) 2 Tryz.underlying209 hi0 hz0 hz1 .i64 .i64 _ _ m rfl rfl rfl rfl ?b2 ?b3 ?b4 ?_)
  case b2 => rw [hz2]; omega
  case b3 => unfold maxLen; omega
  case b4 => omega
  intro w3 hown hgrow
  rw [show (madeCells #[Value.pointer none, .int .i64 0] (m * 2)).toList = zeroS m from made_spots m] at hown
  obtain ⟨hg3, _⟩ := own_whole hown
  have hb3 := (Below.refl w1.heap.size w1).grown hgrow (Nat.le_refl _) (by simp)
  obtain ⟨G, hG⟩ : ∃ G, w.heap.size + 1 = G := ⟨_, rfl⟩
  have c0 := (hb3.cell (p := ⟨w.heap.size, 0, none⟩) (by show w.heap.size < _; omega)).trans c0
  have kb := (hb3.cell (p := ⟨b, 0, none⟩) (show b < w1.heap.size by omega)).trans kb
  have hbox := (hb3.block w.heap.size (by omega)).trans hh
  have hbw := al.trans (hb3.mono al.size)
  have HS := Lib.hid (And.intro hg3 (And.intro hbox hbw))
  rw [hG]
  rw [hG] at HS
  clear hown hgrow hg3 hb3 hbox hbw hh al hw1 hw01 c1
  go_wp2_with fail
  go_loopw [19] (fun v wr => ∃ k : Nat, v = .int .i64 k ∧ k ≤ m ∧ wr.heap[w.heap.size]? = some (.cells #[ptr b, .int .i64 ((f + sumN (es.take k) : Nat) : Int)] 211 (0, 0)) ∧ wr.heap[G]? = some (.cells (mkZ (es.take k) m) 211 (0, 0)) ∧ Below w.heap.size w wr) (fun v _ => m - (intOf v).toNat)
  case atStart => exact ⟨0, rfl, Nat.zero_le _, HS.out.2.1, HS.out.1, HS.out.2.2⟩
  case round =>
    obtain ⟨k, rfl, hkm, hx, hy, hbr⟩ := hrel
    have hw0r := hw.trans (hbr.mono hws)
    by_cases hlt : k < m
    · have d0 : decide (k < m) = true := decide_eq_true hlt
      obtain ⟨x, hxk⟩ : ∃ x, es[k]? = some x := ⟨_, List.getElem?_eq_getElem (by rw [HM.out]; exact hlt)⟩
      obtain ⟨e1, e2, e3, e4⟩ := HK.out k x hxk
      have q1 := (hw0r.cell (p := ⟨g, o + k, none⟩) hg).trans e1
      have q2 := (hw0r.cell (p := ⟨x.b, 2, none⟩) e4).trans e3
      have b0 : wr.cell? ⟨w.heap.size, 0, none⟩ = some (ptr b) := (cell_at hx 0).trans rfl
      have b1 : wr.cell? ⟨w.heap.size, 1, none⟩ = some (.int .i64 ((f + sumN (es.take k) : Nat) : Int)) := (cell_at hx 1).trans rfl
      have HX := Lib.hid (And.intro hx (And.intro hy hbr))
      have HT := Lib.hid (And.intro hxk e2)
      have hsum := sumN_succ hxk
      have hle := sumN_take es (k + 1)
      obtain ⟨s, hs⟩ : ∃ s : Nat, f + sumN (es.take k) = s := ⟨_, rfl⟩
      rw [hs] at b1 HX HT
      obtain ⟨xb, hxb⟩ : ∃ xb, x.b = xb := ⟨_, rfl⟩
      obtain ⟨xn, hxn⟩ : ∃ xn, x.n = xn := ⟨_, rfl⟩
      rw [hxn] at q2 hsum
      rw [hxb] at q1 q2 e4
      have hsx : s + xn ≤ 2000000 := by omega
      have zz1 := fun i => unfrozen hx i
      have zz2 := fun i => unfrozen hy i
      have hbl : xb ≠ w.heap.size := by omega
      have hkl : (es.take k).length = k := by rw [List.length_take, HM.out]; omega
      obtain ⟨p1, p2⟩ := mkZ_at (m := m) hkl hlt
      have g1 : wr.cell? ⟨G, k * 2, none⟩ = some (.pointer none) := by rw [cell_at hy]; exact p1
      have g2 : wr.cell? ⟨G, k * 2 + 1, none⟩ = some (.int .i64 0) := by rw [cell_at hy]; exact p2
      have hGb : G ≠ xb := by omega
      have hGg : G ≠ g := by omega
      have hGw : G ≠ w.heap.size := by omega
      have hGe : w.heap.size ≤ G := by omega
      have HSs := Lib.hid hs
      clear hx hy hbr hw0r hxk e1 e2 e3 hs p1 p2 hG
      go_wp2_with fail
      have h1 := heap_set_at (o := k * 2 + 1) (u := Value.int .i64 (s : Int)) (heap_set_at (o := k * 2) (u := ptr xb) HX.out.2.1)
      have h2 := mkZ_set hkl hlt x
      rw [hxb, HT.out.2] at h2
      rw [h2, take_snoc HT.out.1] at h1
      have h3 := (heap_set_other (w := wr.setCell ⟨G, k * 2, none⟩ (ptr xb)) (o := k * 2 + 1) (u := Value.int .i64 (s : Int)) (show w.heap.size ≠ G by omega)).trans ((heap_set_other (w := wr) (o := k * 2) (u := ptr xb) (show w.heap.size ≠ G by omega)).trans HX.out.1)
      have h4 := (HX.out.2.2.setCell (p := ⟨G, k * 2, none⟩) (show w.heap.size ≤ G by omega) (ptr xb)).setCell (p := ⟨G, k * 2 + 1, none⟩) (show w.heap.size ≤ G by omega) (Value.int .i64 (s : Int))
      have h5 : ((wr.setCell ⟨G, k * 2, none⟩ (ptr xb)).setCell ⟨G, k * 2 + 1, none⟩ (Value.int .i64 (s : Int))).cell? ⟨xb, 2, none⟩ = some (.int .i64 xn) := by
        rw [World.cell?_setCell_other (h := by intro e; injection e with e1 e2; exact hGb e1), World.cell?_setCell_other (h := by intro e; injection e with e1 e2; exact hGb e1)]; exact q2
      have e5 : ((s + xn : Nat) : Int) = (s : Int) + (xn : Int) := by omega
      obtain ⟨w4, hw4⟩ : ∃ w4, (wr.setCell ⟨G, k * 2, none⟩ (ptr xb)).setCell ⟨G, k * 2 + 1, none⟩ (Value.int .i64 (s : Int)) = w4 := ⟨_, rfl⟩
      rw [hw4] at h1 h3 h4 h5 ⊢
      have b0 : w4.cell? ⟨w.heap.size, 0, none⟩ = some (ptr b) := (cell_at h3 0).trans rfl
      have b1 : w4.cell? ⟨w.heap.size, 1, none⟩ = some (.int .i64 (s : Int)) := (cell_at h3 1).trans rfl
      have zz3 := fun i => unfrozen h3 i
      have H4 := Lib.hid (And.intro h1 (And.intro h3 h4))
      clear h1 h2 h3 h4 hw4 HX
      have e6 : f + sumN (es.take (k + 1)) = s + xn := by rw [sumN_succ HT.out.1, hxn]; have := HSs.out; omega
      have E6 := Lib.hid (And.intro e6 e5)
      clear e6 e5 hkl hsum hle hxb hxn hkm q2 g1 g2
      go_region
      all_goals
        go_wp2_with fail
        go_roundw
        case rel =>
          refine ⟨k + 1, by go_num, by omega, ?_, (heap_set_other (w := w4) (o := 1) (u := Value.int .i64 ((s : Int) + (xn : Int))) (show G ≠ w.heap.size by omega)).trans H4.out.1, (H4.out.2.2.setCell (p := ⟨w.heap.size, 1, none⟩) (Nat.le_refl _) _).drew⟩
          rw [E6.out.1, E6.out.2]
          exact heap_set_at (w := w4) (o := 1) (u := Value.int .i64 ((s : Int) + (xn : Int))) H4.out.2.1
        case measure => simp [intOf]; omega
    · have d0 : decide (k < m) = false := decide_eq_false hlt
      have hkm' : k = m := by omega
      subst hkm'
      rw [List.take_of_length_le (by rw [HM.out]; omega), mkZ_full HM.out] at hy
      have HY := Lib.hid (And.intro hy hbr)
      clear hx hy hbr hw0r
      go_wp2_with fail
      go_ret
      exact ⟨G, rfl, by omega, HY.out.1, HY.out.2⟩

end Go.Proofs.YtkgakgceamafcaaGreat

namespace Go.Proofs.YtkgakgceamafcaaGreat
open Go Go.RowKit
set_option linter.unusedVariables false

theorem spQ_set {es : List Ent} {k : Nat} (hk : k < es.length) (x : Ent) : ((spQ es).toArray.setIfInBounds (k * 2) (ptr x.b)).setIfInBounds (k * 2 + 1) (.int .i64 (x.f : Int)) = (spQ (es.set k x)).toArray := by
  have e : es = es.take k ++ es[k] :: es.drop (k + 1) := by rw [List.getElem_cons_drop, List.take_append_drop]
  have hl : (es.take k).length = k := by rw [List.length_take]; omega
  have hs : es.set k x = es.take k ++ x :: es.drop (k + 1) := by
    conv => lhs; rw [e]
    rw [List.set_append_right _ _ (by omega), hl, Nat.sub_self]; rfl
  have h1 : spQ es = spQ (es.take k) ++ ptr es[k].b :: Value.int .i64 (es[k].f : Int) :: spQ (es.drop (k + 1)) := by
    conv => lhs; rw [e]
    rw [spQ_app]; rfl
  rw [h1, set2_app (by rw [spQ_len, hl]), hs, spQ_app]
  rfl
/-- Half turned over. -/
def Half (es es' : List Ent) (k : Nat) : Prop := es'.length = es.length ∧ ∀ x, x < es.length → es'[x]? = if x < k ∨ es.length - k ≤ x then es[es.length - 1 - x]? else es[x]?
theorem Half.zero (es : List Ent) : Half es es 0 := ⟨rfl, fun x hx => by rw [if_neg (by omega)]⟩
theorem Half.done {es es' : List Ent} {k : Nat} (h : Half es es' k) (hk : es.length ≤ 2 * k + 1) : es' = es.reverse := by
  apply List.ext_getElem?
  intro x
  by_cases hx : x < es.length
  · rw [h.2 x hx, List.getElem?_reverse hx]
    by_cases hc : x < k ∨ es.length - k ≤ x
    · rw [if_pos hc]
    · rw [if_neg hc, show es.length - 1 - x = x by omega]
  · rw [List.getElem?_eq_none (by rw [h.1]; omega), List.getElem?_eq_none (by rw [List.length_reverse]; omega)]
theorem Half.step {es es' : List Ent} {k q : Nat} {u v : Ent} (h : Half es es' k) (hq : q = es.length - 1 - k) (hk : 2 * k + 1 < es.length) (hu : es'[k]? = some u) (hv : es'[q]? = some v) : Half es ((es'.set k v).set q u) (k + 1) := by
  subst hq
  refine ⟨by simp [h.1], fun x hx => ?_⟩
  have hkk := h.2 k (by omega)
  have hqq := h.2 (es.length - 1 - k) (by omega)
  rw [if_neg (by omega)] at hkk hqq
  by_cases h1 : x = es.length - 1 - k
  · rw [if_pos (by omega), h1, List.getElem?_set_self (by simp [h.1]; omega), ← hu, hkk, show es.length - 1 - (es.length - 1 - k) = k by omega]
  · rw [List.getElem?_set_ne (fun e => h1 e.symm)]
    by_cases h2 : x = k
    · rw [if_pos (by omega), h2, List.getElem?_set_self (by rw [h.1]; omega), ← hv, hqq]
    · rw [List.getElem?_set_ne (fun e => h2 e.symm), h.2 x hx]
      by_cases h3 : x < k ∨ es.length - k ≤ x
      · rw [if_pos h3, if_pos (by omega)]
      · rw [if_neg h3, if_neg (by omega)]
theorem Moves.set {D : Bls} {W W' : World} {g o : Nat} {u : Value} (h : Moves D W W') (hg : D g) : Moves D W (W'.setCell ⟨g, o, none⟩ u) :=
  ⟨h.os, h.tape, h.output, by rw [World.size_setCell]; exact h.size, fun k hk hd => (heap_set_other (fun e => hd (by rw [e]; exact hg))).trans (h.block k hk hd)⟩
theorem Moves.drew {D : Bls} {W W' : World} (h : Moves D W W') : Moves D W W'.drew := ⟨h.os, h.tape, h.output, h.size, h.block⟩
theorem Moves.refl (D : Bls) (W : World) : Moves D W W := Moves.below (Below.refl _ _)
theorem Moves.trans {D : Bls} {W W' W'' : World} (h : Moves D W W') (h' : Moves D W' W'') : Moves D W W'' :=
  ⟨h'.os.trans h.os, h'.tape.trans h.tape, h'.output.trans h.output, Nat.le_trans h.size h'.size, fun k hk hd => (h'.block k (Nat.lt_of_lt_of_le hk h.size) hd).trans (h.block k hk hd)⟩

set_option maxRecDepth 100000 in
set_option maxHeartbeats 4000000 in
theorem rev_i {w : World} {g m c : Nat} {es : List Ent} (hg : w.heap[g]? = some (.cells (spQ es).toArray 211 (0, 0))) (hm : es.length = m) (hl : m ≤ 1000000) :
    Calls Tryz.prog 122 #[.slice (some ⟨g, 0, none⟩) m c] w fun e w' => (∃ v, e = .returned v) ∧ w'.heap[g]? = some (.cells (spQ es.reverse).toArray 211 (0, 0)) ∧ Moves (fun k => k = g) w w' := by
  have HM := Lib.hid hm
  have HG := Lib.hid hg
  clear hm hg
  have hw0 : IntKind.i64.wrap ((m : Int) - 1) = (m : Int) - 1 := by rw [IntKind.wrap_i64]; omega
  go_enter Tryz.func122, Tryz.ntmps122
  go_wp2_with fail
  go_loopw [2, 3] (fun v2 v3 wr => ∃ (k : Nat) (es' : List Ent), v2 = .int .i64 k ∧ v3 = .int .i64 ((m : Int) - 1 - k) ∧ k ≤ m ∧ Half es es' k ∧ wr.heap[g]? = some (.cells (spQ es').toArray 211 (0, 0)) ∧ Moves (fun k => k = g) w wr) (fun v2 _ _ => m - (intOf v2).toNat)
  case atStart => exact ⟨0, es, rfl, by simp, Nat.zero_le _, Half.zero _, HG.out, Moves.refl _ _⟩
  case round =>
    obtain ⟨k, es', rfl, rfl, hkm, hh, hc, hmv⟩ := hrel
    have HH := Lib.hid (And.intro hh (And.intro hc hmv))
    by_cases hlt : 2 * k + 1 < m
    · have d0 : decide ((k : Int) < (m : Int) - 1 - (k : Int)) = true := decide_eq_true (by omega)
      obtain ⟨q, hq⟩ : ∃ q : Nat, (m : Int) - 1 - (k : Int) = q := ⟨m - 1 - k, by omega⟩
      have HQ := Lib.hid hq
      have hqm : q < m := by omega
      have hkq : k < q := by omega
      have hes : es'.length = m := by rw [hh.1, HM.out]
      obtain ⟨u, hu⟩ : ∃ u, es'[k]? = some u := ⟨_, List.getElem?_eq_getElem (by omega)⟩
      obtain ⟨v, hv⟩ : ∃ v, es'[q]? = some v := ⟨_, List.getElem?_eq_getElem (by omega)⟩
      obtain ⟨a1, a2⟩ := spQ_at hu
      obtain ⟨b1, b2⟩ := spQ_at hv
      have c1 : wr.cell? ⟨g, k * 2, none⟩ = some (ptr u.b) := by rw [cell_at hc]; simpa using a1
      have c2 : wr.cell? ⟨g, k * 2 + 1, none⟩ = some (.int .i64 u.f) := by rw [cell_at hc]; simpa using a2
      have c3 : wr.cell? ⟨g, q * 2, none⟩ = some (ptr v.b) := by rw [cell_at hc]; simpa using b1
      have c4 : wr.cell? ⟨g, q * 2 + 1, none⟩ = some (.int .i64 v.f) := by rw [cell_at hc]; simpa using b2
      have zz := fun i => unfrozen hc i
      have HU := Lib.hid (And.intro hu (And.intro hv hes))
      rw [hq] at d0 ⊢
      clear hh hc hmv hq a1 a2 b1 b2 hu hv hes
      have e0 : (0 : Int) ≤ (k : Int) := by omega
      have e1 : (k : Int) < (m : Int) := by omega
      have e2 : (0 : Int) ≤ (q : Int) := by omega
      have e3 : (q : Int) < (m : Int) := by omega
      go_wp2_with fail
      go_region
      all_goals
        have s1 := heap_set_at (o := k * 2 + 1) (u := Value.int .i64 (v.f : Int)) (heap_set_at (o := k * 2) (u := ptr v.b) HH.out.2.1)
        rw [spQ_set (by rw [HU.out.2.2]; omega) v] at s1
        have s2 := heap_set_at (o := q * 2 + 1) (u := Value.int .i64 (u.f : Int)) (heap_set_at (o := q * 2) (u := ptr u.b) s1)
        rw [spQ_set (by rw [List.length_set, HU.out.2.2]; omega) u] at s2
        have s3 := (((HH.out.2.2.set (o := k * 2) (u := ptr v.b) rfl).set (o := k * 2 + 1) (u := Value.int .i64 (v.f : Int)) rfl).set (o := q * 2) (u := ptr u.b) rfl).set (o := q * 2 + 1) (u := Value.int .i64 (u.f : Int)) rfl
        have s4 := HH.out.1.step (q := q) (by rw [HM.out]; have := HQ.out; omega) (by rw [HM.out]; exact hlt) HU.out.1 HU.out.2.1
        have S := Lib.hid (And.intro s2 (And.intro s3.drew s4))
        have e4 : (q : Int) - 1 = (m : Int) - 1 - ((k + 1 : Nat) : Int) := by have := HQ.out; omega
        have E4 := Lib.hid e4
        clear s1 s2 s3 s4 HH HU HG c1 c2 c3 c4 e4
        go_wp2_with fail
        go_roundw
        case rel => exact ⟨k + 1, _, by go_num, by rw [← E4.out], by omega, S.out.2.2, S.out.1, S.out.2.1⟩
        case measure => simp [intOf]; omega
    · have d0 : decide ((k : Int) < (m : Int) - 1 - (k : Int)) = false := decide_eq_false (by omega)
      have he := HH.out.1.done (by rw [HM.out]; omega)
      rw [he] at HH
      clear hh hc hmv he
      go_wp2_with fail
      go_end0
      exact ⟨⟨_, rfl⟩, HH.out.2.1, HH.out.2.2⟩

end Go.Proofs.YtkgakgceamafcaaGreat
