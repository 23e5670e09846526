/-
  Texts of this seat, put together (a claim holds few texts): RwJ, GeA.
-/
import Derived.Test.YtkgakgceamafcaaGreatMk26

namespace Go.Proofs.YtkgakgceamafcaaGreat
open Go Go.RowKit
set_option linter.unusedVariables false

theorem ext_sub8 {s : ByteArray} {l : List UInt8} (hs : s.data.toList = l) {i j : Nat} (hi : i ≤ j) (hj : j ≤ l.length) : s.extract i j = strOf (subL l i ((j : Int) - i)) := by
  have e : s.extract i j = strOf ((s.data.toList.drop i).take (j - i)) := by
    apply ByteArray.ext
    simp [strOf, ByteArray.data_extract]
    rw [← Array.toList_inj]
    simp [List.extract_eq_take_drop]
  rw [e, hs]
  unfold subL rightB
  rw [if_pos (by simp only [decide_eq_true_eq]; omega)]
  congr 2
  omega
/-- A field as the document's cell. -/
def rcF (l : List UInt8) (F : Fd) : RCM := (strOf (atL l F.pl), strOf (subL l F.from_ ((F.to_ : Int) - F.from_)), true)
/-- A row as the document has it. -/
abbrev rrV (a : Option Addr) (n c : Nat) (e : Int) : Value := .agg #[.slice a n c, .int .i64 e, .bool false]
/-- What the document's Load tells. -/
def RLdPost (l : List UInt8) (R : Rw) (w : World) (e : Ending) (w' : World) : Prop :=
  Below w.heap.size w w' ∧
  ((40 < R.fs.length ∧ e = .returned (.tuple #[rrV none 0 0 0, .int .i64 6])) ∨
   (R.fs.length ≤ 40 ∧ (∃ f ∈ R.fs, longF f) ∧ e = .returned (.tuple #[rrV none 0 0 0, .int .i64 7])) ∨
   (R.fs.length ≤ 40 ∧ (∀ f ∈ R.fs, ¬ longF f) ∧ ∃ (a : Option Addr) (c : Nat), e = .returned (.tuple #[rrV a R.fs.length c R.fin, .int .i64 0]) ∧ w'.ownsRow w.heap.size 51 3 (.slice a R.fs.length c) R.fs.length (rcC (R.fs.map (rcF l)))))
/-- A row whose block stands. -/
theorem rd_stays {w w' : World} {B n c z gp s : Nat} {a aa : Option Addr} {xs : List Value} {e e2 : TypeId} {B2 n2 c2 s2 : Nat} {xs2 : List Value} {csg : Array Value} {tg : TypeId} {fg : Nat × Nat} (h : w.ownsRow B e s (.slice a n c) n xs) (hz : w.heap.size = z) (h2 : w.ownsRow B2 e2 s2 (.slice aa n2 c2) n2 xs2) (he : e2 ≠ e) (hg : w.heap[gp]? = some (.cells csg tg fg)) (hge : tg ≠ e)
    (hsz : z ≤ w'.heap.size) (hk : ∀ k, k < z → k ≠ gp → (Value.slice aa n2 c2).ownBlock ≠ some k → w'.heap[k]? = w.heap[k]?) : Rd w' s a n xs := by
  refine ⟨h.1, fun hn => ?_⟩
  obtain ⟨g, o, rfl, hgs, hc⟩ := (own_rd h).2 hn
  obtain ⟨cs, hcs⟩ := own_cellsAt h
  simp only at hcs
  have hb := hk g (by omega) (fun e' => by subst e'; rw [hg] at hcs; injection hcs with hcs; injection hcs with _ h3; exact hge h3) (own_ne h2 hcs he)
  refine ⟨g, o, rfl, by omega, fun k u hu => ?_⟩
  have := hc k u hu
  unfold World.cell? at this ⊢
  rw [hb]
  exact this
/-- What holds at the head of its loop. -/
def RLJ (l : List UInt8) (R : Rw) (w w1 : World) (n : Nat) (v20 : Value) (wr : World) : Prop := ∃ (k : Nat) (ak : Option Addr) (ck : Nat), v20 = .int .i64 k ∧ k ≤ n ∧ (∀ f ∈ R.fs.take k, ¬ longF f) ∧
  wr.heap[w.heap.size + 2]? = some (.cells #[.slice ak k ck, .int .i64 R.fin, .bool false] 116 (0, 0)) ∧ wr.ownsRow (w.heap.size + 3) 51 3 (.slice ak k ck) k (rcC ((R.fs.take k).map (rcF l))) ∧ Below (w.heap.size + 2) w1 wr

set_option maxRecDepth 100000 in
set_option maxHeartbeats 4000000 in
theorem rrload_of {s : ByteArray} {w : World} {B : Nat} {l : List UInt8} {R : Rw} {ps : List FdM} {pa : Option Addr} {pc : Nat} (hs : s.data.toList = l) (hri : RRowIn w B (R, ps, pa, pc)) (hok : ∀ f ∈ R.fs, InL l f.pl ∧ f.pl.length ≤ l.length) (hok2 : ∀ f ∈ R.fs, f.from_ ≤ f.to_ ∧ f.to_ ≤ l.length) (hl : l.length ≤ 16384) (hn : R.fs.length ≤ 1000000) :
    Calls Tryz.prog 50 #[.string s, .agg #[.slice pa R.fs.length pc, .int .i64 R.fin]] w (RLdPost l R w) := by
  obtain ⟨i0, hi0, hz0, hz1, hz2⟩ := info_parts info_rc
  obtain ⟨n, hnn⟩ : ∃ n, R.fs.length = n := ⟨_, rfl⟩
  have hpn : ps.length = n := by rw [← hnn, ← hri.fs]; simp
  have hsz := sz_of hs
  have HS := Lib.hid hs
  obtain ⟨w1, hw1⟩ : ∃ w1, w1 = allocs w [Obj.cells #[Value.slice pa n pc, Value.int .i64 R.fin] 113, Obj.cells #[Value.slice none 0 0, Value.int .i64 0, Value.bool false] 116, Obj.cells #[Value.slice none 0 0, Value.int .i64 R.fin, Value.bool false] 116] := ⟨_, rfl⟩
  have HB1 : Hid (Below w.heap.size w w1) := by rw [hw1]; exact Lib.hid (allocs_below _ w)
  have hzw : w1.heap.size > w.heap.size + 2 := by rw [hw1, allocs_size]; simp
  have h0 : w1.heap[w.heap.size]? = some (Obj.cells #[Value.slice pa n pc, Value.int .i64 R.fin] 113) := by rw [hw1]; exact allocs_at _ w 0 _ rfl
  have HH1 : Hid (w1.heap[w.heap.size + 1]? = some (.cells #[Value.slice none 0 0, Value.int .i64 0, Value.bool false] 116 (0, 0))) := by rw [hw1]; exact Lib.hid (allocs_at _ w 1 _ rfl)
  have HH2 : Hid (w1.heap[w.heap.size + 2]? = some (.cells #[Value.slice none 0 0, Value.int .i64 R.fin, Value.bool false] 116 (0, 0))) := by rw [hw1]; exact Lib.hid (allocs_at _ w 2 _ rfl)
  have HRI := Lib.hid hri
  have HOK := Lib.hid hok
  have HOK2 := Lib.hid hok2
  have HNN := Lib.hid hnn
  have HPN := Lib.hid hpn
  have k0 : w1.cell? ⟨w.heap.size, 0, none⟩ = some (.slice pa n pc) := by rw [cell_at h0]; rfl
  have k1 : w1.cell? ⟨w.heap.size, 1, none⟩ = some (.int .i64 R.fin) := by rw [cell_at h0]; rfl
  have hh1 := HH1.out
  have zz := fun i => unfrozen hh1 i
  have r0 : w1.cell? ⟨w.heap.size + 1, 0, none⟩ = some (.slice none 0 0) := by rw [cell_at hh1]; rfl
  have r1 : w1.cell? ⟨w.heap.size + 1, 1, none⟩ = some (.int .i64 0) := by rw [cell_at hh1]; rfl
  have r2 : w1.cell? ⟨w.heap.size + 1, 2, none⟩ = some (.bool false) := by rw [cell_at hh1]; rfl
  rw [hnn] at hn
  rw [hnn]
  clear h0 hh1 hri hok hok2 hpn hs
  unfold RLdPost
  go_enter Tryz.func50, Tryz.ntmps50
  go_upto_region 2 with fail
  rw [show ((w.alloc (Obj.cells #[Value.slice pa n pc, Value.int .i64 R.fin] 113)).alloc (Obj.cells #[Value.slice none 0 0, Value.int .i64 0, Value.bool false] 116)).alloc (Obj.cells #[Value.slice none 0 0, Value.int .i64 R.fin, Value.bool false] 116) = w1 from hw1.symm]
  clear hw1
  by_cases h40 : 40 < n
  · have d : decide ((40 : Int) < (n : Int)) = true := decide_eq_true (by omega)
    have d' : decide (40 < n) = true := decide_eq_true h40
    go_wp2_with fail
    have hs := set3_at HH1.out (.slice none 0 0) (.int .i64 0) (.bool false)
    have hB := set3_below HB1.out (show w.heap.size ≤ w.heap.size + 1 by omega) (.slice none 0 0) (.int .i64 0) (.bool false)
    have q0 : (set3 w1 (w.heap.size + 1) (.slice none 0 0) (.int .i64 0) (.bool false)).cell? ⟨w.heap.size + 1, 0, none⟩ = some (.slice none 0 0) := by rw [cell_at hs]; rfl
    have q1 : (set3 w1 (w.heap.size + 1) (.slice none 0 0) (.int .i64 0) (.bool false)).cell? ⟨w.heap.size + 1, 1, none⟩ = some (.int .i64 0) := by rw [cell_at hs]; rfl
    have q2 : (set3 w1 (w.heap.size + 1) (.slice none 0 0) (.int .i64 0) (.bool false)).cell? ⟨w.heap.size + 1, 2, none⟩ = some (.bool false) := by rw [cell_at hs]; rfl
    unfold set3 at hB q0 q1 q2
    exact bodyPost_ret (v := .tuple #[rrV none 0 0 0, .int .i64 6]) (by simp [results, Tryz.results50, go_sem, q0, q1, q2]) rfl ⟨hB, .inl ⟨by rw [HNN.out]; exact h40, rfl⟩⟩
  · have d : decide ((40 : Int) < (n : Int)) = false := decide_eq_false (by omega)
    have d' : decide (40 < n) = false := decide_eq_false h40
    go_wp2_with fail
    clear k0 k1 r0 r1 r2 zz
    go_loopw [20] (fun v20 wr => RLJ l R w w1 n v20 wr) (fun v20 _ => n - (intOf v20).toNat)
    case atStart => exact ⟨0, none, 0, rfl, by omega, fun f hf => by simp at hf, HH2.out, by simpa [rcC] using own_nil _ _ _ _, Below.refl _ _⟩
    case round =>
      obtain ⟨k, ak, ck, rfl, hk, hsh, hh, ho, hb⟩ := hrel
      have HH := Lib.hid hh
      have HO := Lib.hid ho
      have HB := Lib.hid hb
      have HSH := Lib.hid hsh
      have hzr := hb.size
      have hg2r : w.heap.size + 2 < wr.heap.size := by omega
      clear hh ho hb hsh
      by_cases hlt : k < n
      · have dk : decide (k < n) = true := decide_eq_true hlt
        have hkp : k < ps.length := by rw [HPN.out]; exact hlt
        have hFk : k < R.fs.length := by rw [HNN.out]; exact hlt
        rcases own_form HRI.out.own with ⟨_, h0⟩ | ⟨gf, hgf, _, hgf2⟩
        · simp only at h0; omega
        simp only at hgf
        subst hgf
        have hFP : ps[k].1 = R.fs[k] := by
          have h := HRI.out.fs; simp only at h
          simp only [← h, List.getElem_map]
        have hF := HOK.out _ (List.getElem_mem hFk)
        have hG := HOK2.out _ (List.getElem_mem hFk)
        have hBw : Below w.heap.size w wr := HB1.out.trans (HB.out.mono (show w.heap.size ≤ w.heap.size + 2 by omega))
        have hqp := own_below (HRI.out.parts ps[k] (List.getElem_mem hkp)) hBw
        have hd := fun (o : Nat) (u : Value) (ho : o < 4) (hu : (rfC1 ps[k])[o]? = some u) => (hBw.cell (p := ⟨gf, k * 4 + o, none⟩) hgf2).trans (own_cells HRI.out.own ((rfC_at ps k ps[k] o (List.getElem?_eq_getElem hkp) ho).trans hu))
        have q0 := hd 0 _ (by omega) rfl
        have q1 := hd 1 _ (by omega) rfl
        have q2 := hd 2 _ (by omega) rfl
        have q3 := hd 3 _ (by omega) rfl
        rw [hFP] at q0 q1 q2 q3 hqp
        rw [Nat.add_zero] at q0
        obtain ⟨a7, c7, h7⟩ : ∃ a7 c7, ps[k].2 = (a7, c7) := ⟨_, _, rfl⟩
        rw [h7] at q3 hqp
        simp only at q3 hqp
        have HST := Lib.hid (List.take_succ_eq_append_getElem hFk)
        have HMEM := Lib.hid (List.getElem_mem hFk)
        clear hd hFP h7 hBw
        generalize R.fs[k] = F at *
        have HXS := Lib.hid (ext_sub8 HS.out hG.1 hG.2)
        have HRC : Hid (rcF l F = (strOf (atL l F.pl), strOf (subL l F.from_ ((F.to_ : Int) - F.from_)), true)) := Lib.hid rfl
        have HLG : Hid (longF F ↔ 400 < F.pl.length) := Lib.hid Iff.rfl
        have hw1 : IntKind.i64.wrap ((F.from_ : Int) + ((F.to_ : Int) - F.from_)) = (F.to_ : Int) := by rw [IntKind.wrap_i64]; omega
        obtain ⟨hG1, hG2⟩ := hG
        generalize hx2 : (F.to_ : Int) - (F.from_ : Int) = x2 at *
        generalize F.kind = x3 at *
        generalize F.pl = Q at *
        generalize F.from_ = f at *
        generalize F.to_ = tt at *
        clear hx2
        have hs1 : tt ≤ s.size := by omega
        obtain ⟨nq, hnq⟩ : ∃ nq, Q.length = nq := ⟨_, rfl⟩
        have HNQ := Lib.hid hnq
        rw [hnq] at q3
        have al := below_al wr (Obj.cells #[Value.int IntKind.i64 f, Value.int IntKind.i64 x2, Value.int IntKind.i64 x3, Value.slice a7 nq c7] 190)
        have hfn := heap_alloc_new wr (Obj.cells #[Value.int IntKind.i64 f, Value.int IntKind.i64 x2, Value.int IntKind.i64 x3, Value.slice a7 nq c7] 190)
        have hzA : wr.heap.size < (wr.alloc (Obj.cells #[Value.int IntKind.i64 f, Value.int IntKind.i64 x2, Value.int IntKind.i64 x3, Value.slice a7 nq c7] 190)).heap.size := by simp
        have e2 : (0 : Int) ≤ (k : Int) := by omega
        have e3 : (k : Int) < (n : Int) := by omega
        have hz0r : w.heap.size < wr.heap.size := by omega
        have HF := Lib.hid hF
        have HQP := Lib.hid (own_below hqp al)
        have HO2 := Lib.hid (own_below HO.out al)
        have HH2' := Lib.hid ((al.block _ (lt_of_heap HH.out)).trans HH.out)
        have HB2 := Lib.hid (HB.out.trans (al.mono (by omega)))
        clear hnq hF hqp
        go_upto_region 7 with fail
        generalize wr.alloc (Obj.cells #[Value.int IntKind.i64 f, Value.int IntKind.i64 x2, Value.int IntKind.i64 x3, Value.slice a7 nq c7] 190) = w4 at *
        have b3 : w4.cell? ⟨wr.heap.size, 3, none⟩ = some (.slice a7 nq c7) := by rw [cell_at hfn]; rfl
        have HFN := Lib.hid hfn
        clear al hfn q0 q1 q2 q3
        by_cases hbig : 400 < nq
        · have dq : decide ((400 : Int) < (nq : Int)) = true := decide_eq_true (by omega)
          have dq' : decide (400 < nq) = true := decide_eq_true hbig
          have hh7 := (HB2.out.block (w.heap.size + 1) (by omega)).trans HH1.out
          have HH7 := Lib.hid hh7
          have zz := fun i => unfrozen hh7 i
          have r0 : w4.cell? ⟨w.heap.size + 1, 0, none⟩ = some (.slice none 0 0) := by rw [cell_at hh7]; rfl
          have r1 : w4.cell? ⟨w.heap.size + 1, 1, none⟩ = some (.int .i64 0) := by rw [cell_at hh7]; rfl
          have r2 : w4.cell? ⟨w.heap.size + 1, 2, none⟩ = some (.bool false) := by rw [cell_at hh7]; rfl
          clear hh7
          go_wp2_with fail
          have hs := set3_at HH7.out (.slice none 0 0) (.int .i64 0) (.bool false)
          have hB := set3_below (HB1.out.trans (HB2.out.mono (show w.heap.size ≤ w.heap.size + 2 by omega))) (show w.heap.size ≤ w.heap.size + 1 by omega) (.slice none 0 0) (.int .i64 0) (.bool false)
          have q0 : (set3 w4 (w.heap.size + 1) (.slice none 0 0) (.int .i64 0) (.bool false)).cell? ⟨w.heap.size + 1, 0, none⟩ = some (.slice none 0 0) := by rw [cell_at hs]; rfl
          have q1 : (set3 w4 (w.heap.size + 1) (.slice none 0 0) (.int .i64 0) (.bool false)).cell? ⟨w.heap.size + 1, 1, none⟩ = some (.int .i64 0) := by rw [cell_at hs]; rfl
          have q2 : (set3 w4 (w.heap.size + 1) (.slice none 0 0) (.int .i64 0) (.bool false)).cell? ⟨w.heap.size + 1, 2, none⟩ = some (.bool false) := by rw [cell_at hs]; rfl
          unfold set3 at hB q0 q1 q2
          exact bodyPost_ret (v := .tuple #[rrV none 0 0 0, .int .i64 7]) (by simp [results, Tryz.results50, go_sem, q0, q1, q2]) rfl ⟨hB, .inr (.inl ⟨by rw [HNN.out]; omega, ⟨F, HMEM.out, HLG.out.2 (by rw [HNQ.out]; exact hbig)⟩, rfl⟩)⟩
        · have dq : decide ((400 : Int) < (nq : Int)) = false := decide_eq_false (by omega)
          have dq' : decide (400 < nq) = false := decide_eq_false hbig
          go_upto_region 9 with fail
          clear b3
          generalize hL0 : (R.fs.take k).map (rcF l) = L0 at *
          have HI := Lib.hid (show Inv9 (w.heap.size + 2) wr.heap.size k ck w4.heap.size f nq c7 ak a7 x2 x3 R.fin (strOf (atL l Q)) (s.extract f tt) (rcC L0) w4 (Array.replicate ops9.size false) w4.drew from
            ⟨(Below.refl _ _).drew, Nat.le_refl _, HFN.out, fun _ => HH2'.out, fun _ => own_below HO2.out ((Below.refl _ _).drew), fun e => (by rw [mark_none] at e; cases e), fun e => (by rw [mark_none] at e; cases e), fun _ _ _ _ => rfl⟩)
          have HKb := Lib.hid (fun k' hk' => (HO.out.lt k' hk').2)
          have HTx := Lib.hid (fun (w' : World) hz hkp => text_of (w := w') (c := c7) HS.out (by omega) (rd_stays (HQP.out) rfl HO2.out (by decide) HH2'.out (by decide) hz hkp) HF.out.1 (by have := HF.out.2; omega))
          rw [HNQ.out] at HTx
          refine (congrArg (fun c => Code.wp Tryz.prog c _ _ _) (?_ : _ = Code.region 9 ops9 true)).mpr ?_
          · kernel_rfl
          refine reg9 (w.heap.size + 1 + 1) wr.heap.size k ck w4.heap.size f tt nq c7 ak a7 x2 x3 R.fin s (strOf (atL l Q)) (rcC L0) rfl rfl rfl rfl HI.out (by omega) hzA HKb.out (by omega) hw1 hs1 (by omega) (by omega) (by omega) (by omega) i0 hi0 hz0 hz1 hz2 HTx.out ?_
          rintro a' w' hd hs hfr h0x ⟨hb, hz, hkp, a9, c9, hfin, hown⟩
          have ha := frame_of hd hs hfr [29, 30, 31, 32, 33, 34, 35, 36, 37, 38, 39, 40, 41, 42, 43, 44, 45, 46, 47, 48, 49, 50] (by kernel_rfl)
          simp only [List.foldl_cons, List.foldl_nil] at ha
          clear hd hs hfr h0x
          generalize a'.tmps.getD 29 undef = v29 at ha
          generalize a'.tmps.getD 30 undef = v30 at ha
          generalize a'.tmps.getD 31 undef = v31 at ha
          generalize a'.tmps.getD 32 undef = v32 at ha
          generalize a'.tmps.getD 33 undef = v33 at ha
          generalize a'.tmps.getD 34 undef = v34 at ha
          generalize a'.tmps.getD 35 undef = v35 at ha
          generalize a'.tmps.getD 36 undef = v36 at ha
          generalize a'.tmps.getD 37 undef = v37 at ha
          generalize a'.tmps.getD 38 undef = v38 at ha
          generalize a'.tmps.getD 39 undef = v39 at ha
          generalize a'.tmps.getD 40 undef = v40 at ha
          generalize a'.tmps.getD 41 undef = v41 at ha
          generalize a'.tmps.getD 42 undef = v42 at ha
          generalize a'.tmps.getD 43 undef = v43 at ha
          generalize a'.tmps.getD 44 undef = v44 at ha
          generalize a'.tmps.getD 45 undef = v45 at ha
          generalize a'.tmps.getD 46 undef = v46 at ha
          generalize a'.tmps.getD 47 undef = v47 at ha
          generalize a'.tmps.getD 48 undef = v48 at ha
          generalize a'.tmps.getD 49 undef = v49 at ha
          generalize a'.tmps.getD 50 undef = v50 at ha
          subst ha
          have HF9 := Lib.hid hfin
          have HO9 := Lib.hid hown
          have HB9 := Lib.hid (HB2.out.trans (hb.mono (show w.heap.size + 2 ≤ w.heap.size + 1 + 1 by omega)))
          clear hfin hown hb hz hkp HI HKb HTx
          rename_i Kx hKx
          simp only [List.setIfInBounds_toArray, List.set_cons_succ, List.set_cons_zero]
          show Kx _ _
          go_wp2_with fail
          go_roundw
          case rel => exact ⟨k + 1, a9, c9, by simp, by omega, (by intro f' hf'; rw [HST.out] at hf'; exact (List.mem_append.mp hf').elim (fun h => HSH.out f' h) (fun h => by rw [List.mem_singleton.mp h, HLG.out, HNQ.out]; exact hbig)), HF9.out, (by rw [HST.out, List.map_append, hL0, List.map_singleton, rcC_snoc, HRC.out, ← HXS.out]; exact HO9.out), HB9.out⟩
          case measure => simp [intOf]; omega
      · have dk : decide (k < n) = false := decide_eq_false hlt
        obtain rfl : k = n := by omega
        have hh2 := HH.out
        have hh1 := (HB.out.block (w.heap.size + 1) (by omega)).trans HH1.out
        have zz := fun i => unfrozen hh1 i
        have x0 : wr.cell? ⟨w.heap.size + 1 + 1, 0, none⟩ = some (.slice ak k ck) := by rw [cell_at hh2]; rfl
        have x1 : wr.cell? ⟨w.heap.size + 1 + 1, 1, none⟩ = some (.int .i64 R.fin) := by rw [cell_at hh2]; rfl
        have x2 : wr.cell? ⟨w.heap.size + 1 + 1, 2, none⟩ = some (.bool false) := by rw [cell_at hh2]; rfl
        have r0 : wr.cell? ⟨w.heap.size + 1, 0, none⟩ = some (.slice none 0 0) := by rw [cell_at hh1]; rfl
        have r1 : wr.cell? ⟨w.heap.size + 1, 1, none⟩ = some (.int .i64 0) := by rw [cell_at hh1]; rfl
        have r2 : wr.cell? ⟨w.heap.size + 1, 2, none⟩ = some (.bool false) := by rw [cell_at hh1]; rfl
        have HHr := Lib.hid hh1
        have HBr := Lib.hid (HB1.out.trans (HB.out.mono (show w.heap.size ≤ w.heap.size + 2 by omega)))
        clear hh1 hh2
        go_wp2_with fail
        have htk : R.fs.take k = R.fs := by rw [← HNN.out]; exact List.take_length
        have hos : (set3 wr (w.heap.size + 1) (.slice ak k ck) (.int .i64 R.fin) (.bool false)).ownsRow w.heap.size 51 3 (.slice ak k ck) k (rcC (R.fs.map (rcF l))) := by
          have h1 := HO.out
          rw [htk] at h1
          have n0 := own_ne h1 HHr.out (by decide)
          unfold set3
          exact own_mono (own_set (own_set (own_set h1 n0) n0) n0) (by omega)
        have hs := set3_at HHr.out (.slice ak k ck) (.int .i64 R.fin) (.bool false)
        have hB := set3_below HBr.out (show w.heap.size ≤ w.heap.size + 1 by omega) (.slice ak k ck) (.int .i64 R.fin) (.bool false)
        have q0 : (set3 wr (w.heap.size + 1) (.slice ak k ck) (.int .i64 R.fin) (.bool false)).cell? ⟨w.heap.size + 1, 0, none⟩ = some (.slice ak k ck) := by rw [cell_at hs]; rfl
        have q1 : (set3 wr (w.heap.size + 1) (.slice ak k ck) (.int .i64 R.fin) (.bool false)).cell? ⟨w.heap.size + 1, 1, none⟩ = some (.int .i64 R.fin) := by rw [cell_at hs]; rfl
        have q2 : (set3 wr (w.heap.size + 1) (.slice ak k ck) (.int .i64 R.fin) (.bool false)).cell? ⟨w.heap.size + 1, 2, none⟩ = some (.bool false) := by rw [cell_at hs]; rfl
        unfold set3 at hos hB q0 q1 q2
        exact bodyPost_ret (v := .tuple #[rrV ak k ck R.fin, .int .i64 0]) (by simp [results, Tryz.results50, go_sem, q0, q1, q2]) rfl ⟨hB, .inr (.inr ⟨by rw [HNN.out]; omega, (by intro f' hf'; exact HSH.out f' (by rw [htk]; exact hf')), ak, ck, (by rw [HNN.out]), (by rw [HNN.out]; exact hos)⟩)⟩

end Go.Proofs.YtkgakgceamafcaaGreat

namespace Go.Proofs.YtkgakgceamafcaaGreat
open Go Go.RowKit Go.Shelf
set_option linter.unusedVariables false

/-- Only one block changes, of those that stood. -/
theorem kx_below {w w1 w2 : World} {b : Nat} (h : w.grownBy w1 (some b)) (hb : Below w1.heap.size w1 w2) : w.grownBy w2 (some b) :=
  ⟨hb.os.trans h.os, hb.tape.trans h.tape, hb.output.trans h.output, Nat.le_trans h.size hb.size, fun k hk hn => (hb.block k (Nat.lt_of_lt_of_le hk h.size)).trans (h.block k hk hn)⟩
theorem kx_set {w w1 : World} {b o : Nat} {u : Value} (h : w.grownBy w1 (some b)) : w.grownBy (w1.setCell ⟨b, o, none⟩ u) (some b) :=
  ⟨h.os, h.tape, h.output, by rw [size_set]; exact h.size, fun k hk hn => (heap_set_other (fun e => hn (by rw [e]))).trans (h.block k hk hn)⟩
theorem kx_own {w w1 w2 : World} {b : Nat} {r : Option Nat} (h : w.grownBy w1 (some b)) (hg : w1.grownBy w2 r) (hr : ∀ k, r = some k → w.heap.size ≤ k) : w.grownBy w2 (some b) :=
  ⟨hg.os.trans h.os, hg.tape.trans h.tape, hg.output.trans h.output, Nat.le_trans h.size hg.size, fun k hk hn => (hg.block k (Nat.lt_of_lt_of_le hk h.size) (fun e => by have := hr k e.symm; omega)).trans (h.block k hk hn)⟩
theorem kx_refl (w : World) (b : Nat) : w.grownBy w (some b) := ⟨rfl, rfl, rfl, Nat.le_refl _, fun _ _ _ => rfl⟩
theorem kx_to {w0 w w1 : World} {b : Nat} (h0 : Below w0.heap.size w0 w) (h : w.grownBy w1 (some b)) (hb : w0.heap.size ≤ b) : Below w0.heap.size w0 w1 :=
  ⟨h.os.trans h0.os, h.tape.trans h0.tape, h.output.trans h0.output, Nat.le_trans h0.size h.size, fun k hk => (h.block k (Nat.lt_of_lt_of_le hk h0.size) (fun e => by cases e; omega)).trans (h0.block k hk)⟩
theorem own_kx {w w1 : World} {B b s n : Nat} {e T : TypeId} {v : Value} {xs : List Value} {cs : Array Value} {fr : Nat × Nat} (h : w.ownsRow B e s v n xs) (hg : w.grownBy w1 (some b)) (hb : w.heap[b]? = some (.cells cs T fr)) (hne : e ≠ T) : w1.ownsRow B e s v n xs :=
  h.kept hg (.inr (own_ne h hb hne))
theorem RRowIn.kx {w w1 : World} {B b : Nat} {p : RowM} {T : TypeId} {cs : Array Value} {fr : Nat × Nat} (h : RRowIn w B p) (hg : w.grownBy w1 (some b)) (hb : w.heap[b]? = some (.cells cs T fr)) (h1 : T ≠ 3) (h2 : T ≠ 190) : RRowIn w1 B p :=
  ⟨h.fs, own_kx h.own hg hb (fun e => h2 e.symm), fun q hq => own_kx (h.parts q hq) hg hb (fun e => h1 e.symm)⟩

/-- The document's rows in memory. -/
structure DgIn (w : World) (B : Nat) (Ls : List R3) (Ms : List (List RCM)) : Prop where
  len : Ms.length = Ls.length
  row : ∀ (k : Nat) (r : R3) (L : List RCM), Ls[k]? = some r → Ms[k]? = some L → r.n = L.length ∧ w.ownsRow B 51 3 (.slice r.a r.n r.c) r.n (rcC L)
theorem DgIn.nil (w : World) (B : Nat) : DgIn w B [] [] := ⟨rfl, fun k r L h => by simp at h⟩
theorem DgIn.below {w w' : World} {B : Nat} {Ls : List R3} {Ms : List (List RCM)} (h : DgIn w B Ls Ms) (hb : Below w.heap.size w w') : DgIn w' B Ls Ms := ⟨h.len, fun k r L h1 h2 => ⟨(h.row k r L h1 h2).1, own_below (h.row k r L h1 h2).2 hb⟩⟩
theorem DgIn.setT {w : World} {B b o : Nat} {u : Value} {cs : Array Value} {T : TypeId} {fr : Nat × Nat} {Ls : List R3} {Ms : List (List RCM)} (h : DgIn w B Ls Ms) (hb : w.heap[b]? = some (.cells cs T fr)) (hT : T ≠ 51) : DgIn (w.setCell ⟨b, o, none⟩ u) B Ls Ms :=
  ⟨h.len, fun k r L h1 h2 => ⟨(h.row k r L h1 h2).1, own_set (h.row k r L h1 h2).2 (own_ne (h.row k r L h1 h2).2 hb (fun e => hT e.symm))⟩⟩
theorem DgIn.grown {w w' : World} {B B' s n : Nat} {e : TypeId} {v : Value} {xs : List Value} {Ls : List R3} {Ms : List (List RCM)} (h : DgIn w B Ls Ms) (ho : w.ownsRow B' e s v n xs) (he : e ≠ 51) (hg : w.grownBy w' v.ownBlock) : DgIn w' B Ls Ms :=
  ⟨h.len, fun k r L h1 h2 => ⟨(h.row k r L h1 h2).1, own_grown (h.row k r L h1 h2).2 ho (fun e' => he e'.symm) hg⟩⟩
theorem DgIn.mono {w : World} {B B' : Nat} {Ls : List R3} {Ms : List (List RCM)} (h : DgIn w B' Ls Ms) (hB : B ≤ B') : DgIn w B Ls Ms := ⟨h.len, fun k r L h1 h2 => ⟨(h.row k r L h1 h2).1, own_mono (h.row k r L h1 h2).2 hB⟩⟩
theorem DgIn.snoc {w : World} {B : Nat} {Ls : List R3} {Ms : List (List RCM)} {r : R3} {L : List RCM} (h : DgIn w B Ls Ms) (h1 : r.n = L.length) (h2 : w.ownsRow B 51 3 (.slice r.a r.n r.c) r.n (rcC L)) : DgIn w B (Ls ++ [r]) (Ms ++ [L]) := by
  refine ⟨by rw [List.length_append, List.length_append, h.len]; rfl, fun k r' L' e1 e2 => ?_⟩
  rcases Nat.lt_or_ge k Ls.length with hk | hk
  · rw [List.getElem?_append_left hk] at e1
    rw [List.getElem?_append_left (by rw [h.len]; exact hk)] at e2
    exact h.row k r' L' e1 e2
  · have hk0 : k = Ls.length := by
      have := (List.getElem?_eq_some_iff.1 e1).1
      rw [List.length_append, List.length_singleton] at this
      omega
    rw [List.getElem?_append_right hk, hk0, Nat.sub_self] at e1
    rw [List.getElem?_append_right (by rw [h.len]; exact hk), hk0, h.len, Nat.sub_self] at e2
    simp at e1 e2
    subst e1 e2
    exact ⟨h1, h2⟩
/-- How rows end, and that none is hidden. -/
def EndsAs (Ls : List R3) (R : List Rw) : Prop := ∀ (k : Nat) (r : R3) (q : Rw), Ls[k]? = some r → R[k]? = some q → r.e = q.fin ∧ r.b = false
theorem EndsAs.snoc {Ls : List R3} {R : List Rw} {r : R3} {q : Rw} (h : EndsAs Ls R) (hq : R[Ls.length]? = some q) (h1 : r.e = q.fin) (h2 : r.b = false) : EndsAs (Ls ++ [r]) R := by
  intro k r' q' e1 e2
  rcases Nat.lt_or_ge k Ls.length with hk | hk
  · rw [List.getElem?_append_left hk] at e1
    exact h k r' q' e1 e2
  · have hk0 : k = Ls.length := by
      have := (List.getElem?_eq_some_iff.1 e1).1
      rw [List.length_append, List.length_singleton] at this
      omega
    rw [List.getElem?_append_right hk, hk0, Nat.sub_self] at e1
    rw [hk0, hq] at e2
    simp at e1 e2
    subst e1 e2
    exact ⟨h1, h2⟩
/-- The cells of a file's rows. -/
def cellsG (l : List UInt8) (R : List Rw) : List (List RCM) := R.map fun r => r.fs.map (rcF l)
/-- What the document's Load tells. -/
def RGlPost (l : List UInt8) (w : World) (e : Ending) (w' : World) : Prop :=
  Below w.heap.size w w' ∧ ((glEr l ≠ 0 ∧ e = .returned (.tuple #[.agg #[.slice none 0 0, .bool false, .int .i64 2], .int .i64 (glEr l)])) ∨
    (glEr l = 0 ∧ ∃ (a : Option Addr) (c n : Nat) (Ls : List R3), n = (allP l 0).length ∧ Ls.length = n ∧ e = .returned (.tuple #[.agg #[.slice a n c, .bool (tailP (allP l 0)), .int .i64 (frsP (allP l 0))], .int .i64 0]) ∧
      w'.ownsRow w.heap.size 116 3 (.slice a n c) n (cs3 (rws Ls)) ∧ DgIn w' w.heap.size Ls (cellsG l (allP l 0)) ∧ EndsAs Ls (allP l 0)))
theorem info_drow : (Tryz.prog.info? 116).map (fun i => (i.zero, i.size, i.bytes)) = some (some (.agg #[.slice none 0 0, .int .i64 0, .bool false]), 3, 40) := by kernel_rfl
/-- What the first loop keeps; b: the box of the grid. -/
def RgJ (l : List UInt8) (R : List Rw) (w3 : World) (b n : Nat) (v24 : Value) (wr : World) : Prop :=
  ∃ (k : Nat) (a : Option Addr) (c : Nat) (Ls : List R3), v24 = .int .i64 (k : Int) ∧ k ≤ n ∧ Ls.length = k ∧ wr.heap[b]? = some (.cells #[.slice a k c, .bool (tailP (R.take k)), .int .i64 2] 35 (0, 0)) ∧
    wr.ownsRow w3.heap.size 116 3 (.slice a k c) k (cs3 (rws Ls)) ∧ DgIn wr w3.heap.size Ls (cellsG l (R.take k)) ∧ EndsAs Ls R ∧ w3.grownBy wr (some b) ∧ ∀ r ∈ R.take k, rEr r = 0
/-- What the second loop keeps. -/
def RgK (R : List Rw) (a : Option Addr) (c : Nat) (w5 : World) (b n : Nat) (v10 : Value) (wr : World) : Prop :=
  ∃ k : Nat, v10 = .int .i64 ((k : Int) - 1) ∧ k ≤ n ∧ wr.heap[b]? = some (.cells #[.slice a n c, .bool (tailP R), .int .i64 (frsP (R.drop k))] 35 (0, 0)) ∧ w5.grownBy wr (some b)
theorem tail_snoc (R : List Rw) (q : Rw) : tailP (R ++ [q]) = (q.fin != 0) := by unfold tailP; rw [List.getLast?_concat]
theorem cellsG_snoc (l : List UInt8) (R : List Rw) (q : Rw) : cellsG l (R ++ [q]) = cellsG l R ++ [q.fs.map (rcF l)] := by simp [cellsG]
end Go.Proofs.YtkgakgceamafcaaGreat
