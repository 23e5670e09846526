/-
  The contract of layer 5's statements' own like, at this seat's numbers.
-/
import Derived.Test.YtphfhmabchfjjaaScT
import Derived.Test.YtphfhmabchfjjaaScU
namespace Go.Proofs.Ytphfhmabchfjjaa
open Go Go.RowKit
set_option linter.unusedVariables false

/-- A field whose places are small. -/
def FdOk (f : Fd) : Prop := (∀ x ∈ f.pl, 0 ≤ x ∧ x ≤ 1000000) ∧ f.pl.length ≤ 1000000

/-- The head of the loop over parts. -/
def LkJ (ps : List (Int × Int)) (B : Nat) (w : World) (v8 v41 : Value) (wr : World) : Prop := ∃ (k : Nat) (a : Option Addr) (c : Nat), v41 = .int .i64 k ∧ k ≤ ps.length ∧ v8 = .slice a (ps.take k).length c ∧ wr.ownsRow B 80 2 (.slice a (ps.take k).length c) (ps.take k).length (spC (ps.take k)) ∧ Below B w wr
/-- The head of the loop over fields. -/
def LoJ (n : Nat) (w : World) (v28 : Value) (wr : World) : Prop := ∃ j : Nat, v28 = .int .i64 j ∧ j ≤ n ∧ Below w.heap.size w wr

set_option maxRecDepth 100000 in
set_option maxHeartbeats 8000000 in
theorem like5_of {w : World} {B B' : Nat} {R : Rw} {ps qs : List FdM} {pa qa : Option Addr} {pc qc : Nat} (hp : RowIn w B (R, ps, pa, pc)) (hq : RRowIn w B' (R, qs, qa, qc)) (hok : ∀ f ∈ R.fs, FdOk f) (hn : R.fs.length ≤ 1000000) :
    Calls Try.prog 37 #[.agg #[.slice pa ps.length pc, .int .i64 R.fin], .agg #[.slice qa qs.length qc, .int .i64 R.fin]] w fun e w' => e = .returned (.bool true) ∧ Below w.heap.size w w' := by
  obtain ⟨i0, hi0, hz0, hz1, hz2⟩ := info_parts info_rspan
  have hpl : ps.length = R.fs.length := by rw [← hp.fs]; simp
  have hql : qs.length = ps.length := by rw [hpl, ← hq.fs]; simp
  obtain ⟨b2, b3, hzb, hbb⟩ := two_fields w (Obj.cells #[Value.slice pa ps.length pc, Value.int IntKind.i64 R.fin] 72) (Obj.cells #[Value.slice qa qs.length qc, Value.int IntKind.i64 R.fin] 75)
  rw [hql] at b2 b3 hzb hbb ⊢
  have HPI := Lib.hid (hp.below hbb)
  have HQI := Lib.hid (hq.below hbb)
  have HB0 := Lib.hid hbb
  have HB2 := Lib.hid b2
  have HB3 := Lib.hid b3
  have HOK := Lib.hid hok
  have HPL := Lib.hid hpl
  have HQL := Lib.hid hql
  have hpn : ps.length ≤ 1000000 := by omega
  have hz0' := hbb.size
  clear hp hq hok hpl hql hn b2 b3 hbb
  go_enter Try.func37, Try.ntmps37
  go_upto_region 1 with fail
  generalize (w.alloc (Obj.cells #[Value.slice pa ps.length pc, Value.int IntKind.i64 R.fin] 72)).alloc (Obj.cells #[Value.slice qa ps.length qc, Value.int IntKind.i64 R.fin] 75) = w1 at *
  have c20 : w1.cell? ⟨w.heap.size, 0, none⟩ = some (.slice pa ps.length pc) := by rw [cell_at HB2.out]; rfl
  have c21 : w1.cell? ⟨w.heap.size, 1, none⟩ = some (.int .i64 R.fin) := by rw [cell_at HB2.out]; rfl
  have c30 : w1.cell? ⟨w.heap.size + 1, 0, none⟩ = some (.slice qa ps.length qc) := by rw [cell_at HB3.out]; rfl
  have c31 : w1.cell? ⟨w.heap.size + 1, 1, none⟩ = some (.int .i64 R.fin) := by rw [cell_at HB3.out]; rfl
  go_wp2_with fail
  clear c20 c21 c30 c31
  go_loopw [28] (fun v28 wr => LoJ ps.length w1 v28 wr) (fun v28 _ => ps.length - (intOf v28).toNat)
  case atStart => exact ⟨0, rfl, by omega, Below.refl _ _⟩
  case round =>
    obtain ⟨wq, rfl⟩ : ∃ wq : World, wq = wr := ⟨_, rfl⟩
    obtain ⟨j, rfl, hj, hb⟩ := hrel
    have HB := Lib.hid hb
    have hzr := hb.size
    clear hb
    by_cases hlt : j < ps.length
    · have dj : decide (j < ps.length) = true := decide_eq_true hlt
      have hlt2 : j < qs.length := by rw [HQL.out]; exact hlt
      rcases own_form HPI.out.own with ⟨_, h0⟩ | ⟨g, hg1, _, hg⟩
      · simp only at h0; omega
      rcases own_form HQI.out.own with ⟨_, h0⟩ | ⟨g2, hg2, _, hg2'⟩
      · simp only at h0; omega
      simp only at hg1 hg2
      subst hg1 hg2
      have hFP : ps[j].1 = R.fs[j]'(by rw [← HPL.out]; exact hlt) := by
        have h := HPI.out.fs; simp only at h
        simp only [← h, List.getElem_map]
      have hFQ : qs[j].1 = R.fs[j]'(by rw [← HPL.out]; exact hlt) := by
        have h := HQI.out.fs; simp only at h
        simp only [← h, List.getElem_map]
      have hF := HOK.out _ (List.getElem_mem (by rw [← HPL.out]; exact hlt : j < R.fs.length))
      have hpp := HPI.out.parts ps[j] (List.getElem_mem hlt)
      have hqp := HQI.out.parts qs[j] (List.getElem_mem hlt2)
      have hc := fun (o : Nat) (u : Value) (ho : o < 4) (hu : (fdC1 ps[j])[o]? = some u) => (HB.out.cell (p := ⟨g, j * 4 + o, none⟩) hg).trans (own_cells HPI.out.own ((fdC_at ps j ps[j] o (List.getElem?_eq_getElem hlt) ho).trans hu))
      have hd := fun (o : Nat) (u : Value) (ho : o < 4) (hu : (rfC1 qs[j])[o]? = some u) => (HB.out.cell (p := ⟨g2, j * 4 + o, none⟩) hg2').trans (own_cells HQI.out.own ((rfC_at qs j qs[j] o (List.getElem?_eq_getElem hlt2) ho).trans hu))
      have p0 := hc 0 _ (by omega) rfl
      have p1 := hc 1 _ (by omega) rfl
      have p2 := hc 2 _ (by omega) rfl
      have p3 := hc 3 _ (by omega) rfl
      have q0 := hd 0 _ (by omega) rfl
      have q1 := hd 1 _ (by omega) rfl
      have q2 := hd 2 _ (by omega) rfl
      have q3 := hd 3 _ (by omega) rfl
      rw [hFP] at p0 p1 p2 p3 hpp
      rw [hFQ] at q0 q1 q2 q3 hqp
      rw [Nat.add_zero] at p0 q0
      obtain ⟨a5, c5, h5⟩ : ∃ a5 c5, ps[j].2 = (a5, c5) := ⟨_, _, rfl⟩
      obtain ⟨a6, c6, h6⟩ : ∃ a6 c6, qs[j].2 = (a6, c6) := ⟨_, _, rfl⟩
      rw [h5] at p3 hpp
      rw [h6] at q3 hqp
      simp only at p3 hpp q3 hqp
      have HPP := Lib.hid (own_below hpp HB.out)
      have HQP := Lib.hid (own_below hqp HB.out)
      clear hc hd hFP hFQ hpp hqp h5 h6
      generalize R.fs[j]'(by rw [← HPL.out]; exact hlt) = F at *
      have HF := Lib.hid hF
      have hcc := canon_count F.pl
      have hfl := hF.2
      clear hF
      generalize (F.from_ : Int) = x0 at *
      generalize (F.to_ : Int) - x0 = x1 at *
      generalize F.kind = x2 at *
      generalize hpn' : canon F.pl = cn at *
      have HCN := Lib.hid hpn'
      clear hpn'
      have k30 : wq.cell? ⟨w.heap.size + 1, 0, none⟩ = some (.slice (some ⟨g2, 0, none⟩) ps.length qc) := (HB.out.cell (p := ⟨w.heap.size + 1, 0, none⟩) (by show w.heap.size + 1 < _; omega)).trans (by rw [cell_at HB3.out]; rfl)
      have hq1 : w.heap.size + 1 < wq.heap.size := by omega
      have hg2q : g2 < wq.heap.size := by omega
      obtain ⟨e6, e7, ez, eb⟩ := two_fields wq (Obj.cells #[Value.int IntKind.i64 x0, Value.int IntKind.i64 x1, Value.int IntKind.i64 x2, Value.slice a5 cn.length c5] 77) (Obj.cells #[Value.int IntKind.i64 x0, Value.int IntKind.i64 x1, Value.int IntKind.i64 x2, Value.slice a6 F.pl.length c6] 82)
      have HE6 := Lib.hid e6
      have HE7 := Lib.hid e7
      have HEB := Lib.hid eb
      clear e6 e7 eb
      go_upto_region 7 with fail
      clear p0 p1 p2 p3 q0 q1 q2 q3 k30
      generalize (wq.alloc (Obj.cells #[Value.int IntKind.i64 x0, Value.int IntKind.i64 x1, Value.int IntKind.i64 x2, Value.slice a5 cn.length c5] 77)).alloc (Obj.cells #[Value.int IntKind.i64 x0, Value.int IntKind.i64 x1, Value.int IntKind.i64 x2, Value.slice a6 F.pl.length c6] 82) = wo at *
      have h6o : wq.heap.size < wo.heap.size := by omega
      have h7o : wq.heap.size + 1 < wo.heap.size := by omega
      have HEZ := Lib.hid ez
      clear ez
      have HPP2 := Lib.hid (own_below HPP.out HEB.out)
      have HQP2 := Lib.hid (own_below HQP.out HEB.out)
      have t3 : wo.cell? ⟨wq.heap.size, 3, none⟩ = some (.slice a5 cn.length c5) := by rw [cell_at HE6.out]; rfl
      clear HPP HQP
      go_wp2_with fail
      clear t3
      go_loopw [8, 41] (fun v8 v41 wr => LkJ cn wo.heap.size wo v8 v41 wr) (fun _ v41 _ => cn.length - (intOf v41).toNat)
      case atStart => exact ⟨0, none, 0, rfl, by omega, rfl, own_nil _ _ _ _, Below.refl _ _⟩
      case round =>
        obtain ⟨k, a8, c8, rfl, hk, rfl, ho, hbi⟩ := hrel
        have HO := Lib.hid ho
        have HBi := Lib.hid hbi
        have hzi := hbi.size
        have hkn : (cn.take k).length ≤ 1000000 := by simp; omega
        clear ho hbi
        by_cases hkl : k < cn.length
        · have dk : decide (k < cn.length) = true := decide_eq_true hkl
          rcases own_form HPP2.out with ⟨_, h00⟩ | ⟨gp, rfl, _, hgp⟩
          · omega
          have hsp := spC_at cn k cn[k] (List.getElem?_eq_getElem hkl)
          have f1 := (HBi.out.cell (p := ⟨gp, k * 2, none⟩) hgp).trans (own_cells HPP2.out hsp.1)
          have f2 := (HBi.out.cell (p := ⟨gp, k * 2 + 1, none⟩) hgp).trans (own_cells HPP2.out hsp.2)
          have HT := Lib.hid (spC_take hkl)
          have HTN := Lib.hid (show (cn.take (k + 1)).length = (cn.take k).length + 1 by simp; omega)
          clear hsp
          generalize cn[k].1 = x at *
          generalize cn[k].2 = y at *
          generalize hcp : cn.take k = cp at *
          clear hcp
          have C1 : Hid (∀ j u, ([.int .i64 x, .int .i64 y] : List Value)[j]? = some u → ((wr.alloc (Obj.cells #[Value.int IntKind.i64 x, Value.int IntKind.i64 y] 51)).alloc (Obj.cells #[Value.int IntKind.i64 x, Value.int IntKind.i64 y] 80)).cell? (Addr.add ⟨wr.heap.size + 1, 0, none⟩ j) = some u) := by
            intro j u hj
            rw [Addr.add_lit, Nat.zero_add]
            have hn := heap_alloc_new (wr.alloc (Obj.cells #[Value.int IntKind.i64 x, Value.int IntKind.i64 y] 51)) (Obj.cells #[Value.int IntKind.i64 x, Value.int IntKind.i64 y] 80)
            rw [World.size_alloc] at hn
            rw [cell_at hn]
            simpa using hj
          have C2 : Hid (∀ u ∈ ([.int .i64 x, .int .i64 y] : List Value), u.oneCell' = true) := by
            intro u hu
            simp only [List.mem_cons, List.not_mem_nil, or_false] at hu
            rcases hu with rfl | rfl <;> rfl
          have C3 : Hid (cp.length + 1 ≤ maxLen) := by show _ ≤ _; unfold maxLen; omega
          have C4 : Hid ((cp.length + 1) * 16 ≤ 140737488355328) := by show _ ≤ _; omega
          have C5 : Hid (wo.heap.size ≤ ((wr.alloc (Obj.cells #[Value.int IntKind.i64 x, Value.int IntKind.i64 y] 51)).alloc (Obj.cells #[Value.int IntKind.i64 x, Value.int IntKind.i64 y] 80)).heap.size) := by show _ ≤ _; simp only [World.size_alloc]; omega
          have HOA := Lib.hid ((HO.out.alloc (Obj.cells #[Value.int IntKind.i64 x, Value.int IntKind.i64 y] 51)).alloc (Obj.cells #[Value.int IntKind.i64 x, Value.int IntKind.i64 y] 80))
          go_wp2_with (first
            | (at_builtin; refine wpList_append_own _ rfl (.tmp 45) (.tmp 51) 23 rfl wo.heap.size 80 i0 (.agg #[.int .i64 0, .int .i64 0]) 2 16 Try.underlying23 hi0 hz0 hz1 hz2 rfl (by decide) (.slice a8 cp.length c8) cp.length (spC cp) rfl HOA.out ⟨wr.heap.size + 1, 0, none⟩ 1 1 [.int .i64 x, .int .i64 y] rfl rfl C1.out C2.out C3.out C4.out C5.out ?_)
            | fail)
          intro v7 wB ho7 hg7 _
          obtain ⟨a9, c9, rfl⟩ := own_slice ho7
          have HO7 := Lib.hid ho7
          have HBB := Lib.hid (((HBi.out.alloc hzi _).alloc (by simp only [World.size_alloc]; omega) _).grown hg7 (by simp only [World.size_alloc]; omega) (fun q hq => (HO.out.lt q hq).1))
          clear ho7 hg7 C1 C2 C3 C4 C5 HOA
          go_wp2_with fail
          go_roundw
          case rel => exact ⟨k + 1, a9, c9, by go_num, hkl, by rw [HTN.out], by rw [HTN.out, HT.out]; exact HO7.out, HBB.out⟩
          case measure => simp [intOf]; omega
        · have dk : decide (k < cn.length) = false := decide_eq_false hkl
          obtain rfl : k = cn.length := by omega
          rw [List.take_length] at HO ⊢
          have s0 : wr.cell? ⟨wq.heap.size, 0, none⟩ = some (.int .i64 x0) := (HBi.out.cell (p := ⟨wq.heap.size, 0, none⟩) h6o).trans (by rw [cell_at HE6.out]; rfl)
          have s1 : wr.cell? ⟨wq.heap.size, 1, none⟩ = some (.int .i64 x1) := (HBi.out.cell (p := ⟨wq.heap.size, 1, none⟩) h6o).trans (by rw [cell_at HE6.out]; rfl)
          have s2 : wr.cell? ⟨wq.heap.size, 2, none⟩ = some (.int .i64 x2) := (HBi.out.cell (p := ⟨wq.heap.size, 2, none⟩) h6o).trans (by rw [cell_at HE6.out]; rfl)
          have t0 : wr.cell? ⟨wq.heap.size + 1, 0, none⟩ = some (.int .i64 x0) := (HBi.out.cell (p := ⟨wq.heap.size + 1, 0, none⟩) h7o).trans (by rw [cell_at HE7.out]; rfl)
          have t1 : wr.cell? ⟨wq.heap.size + 1, 1, none⟩ = some (.int .i64 x1) := (HBi.out.cell (p := ⟨wq.heap.size + 1, 1, none⟩) h7o).trans (by rw [cell_at HE7.out]; rfl)
          have t2 : wr.cell? ⟨wq.heap.size + 1, 2, none⟩ = some (.int .i64 x2) := (HBi.out.cell (p := ⟨wq.heap.size + 1, 2, none⟩) h7o).trans (by rw [cell_at HE7.out]; rfl)
          have t3 : wr.cell? ⟨wq.heap.size + 1, 3, none⟩ = some (.slice a6 F.pl.length c6) := (HBi.out.cell (p := ⟨wq.heap.size + 1, 3, none⟩) h7o).trans (by rw [cell_at HE7.out]; rfl)
          have HSP := Lib.hid (spans4_of (c := c6) (rd_own (own_below HQP2.out HBi.out)) hfl (fun x hx => by have := HF.out.1 x hx; omega))
          rw [HCN.out] at HSP
          go_wp2_with fail
          refine HSP.out.mono ?_; rintro e w5 ⟨a9, c9, rfl, ho9, hb9⟩
          have HSM := Lib.hid (rsame_of (c := c8) (d := c9) (rd_own (own_below HO.out hb9)) (rd_own ho9) (by omega) (by omega))
          rw [decide_eq_true (rfl : cn = cn)] at HSM
          have HB9 := Lib.hid (HB.out.trans ((HEB.out.trans ((HBi.out.trans (hb9.mono hzi)).mono (by omega))).mono hzr))
          clear ho9 hb9 HSP
          go_wp2_with fail
          refine HSM.out.mono ?_; rintro e w6 ⟨rfl, hb6⟩
          have HB6 := Lib.hid (HB9.out.trans (hb6.mono HB9.out.size))
          clear hb6 HSM
          go_wp2_with fail
          go_roundw
          case rel => exact ⟨j + 1, by go_num, hlt, HB6.out⟩
          case measure => simp [intOf]; omega
    · have dj : decide (j < ps.length) = false := decide_eq_false hlt
      have HBw := Lib.hid (HB0.out.trans (HB.out.mono hz0'))
      clear HPI HQI
      go_wp2_with fail
      go_ret
      exact ⟨rfl, HBw.out⟩

end Go.Proofs.Ytphfhmabchfjjaa
