/-
  Texts of this seat, put together (a claim holds few texts): RwH, GdA.
-/
import Derived.Test.YtkgakgceamafcaaGreatMk17

namespace Go.Proofs.YtkgakgceamafcaaGreat
open Go Go.RowKit
set_option linter.unusedVariables false

/-- What a loaded cell is of its field. -/
def keyC (m : CelM) : Int × Int × Bool × List Int := (m.x, m.y, m.k, m.t)
def keyF (f : Fd) : Int × Int × Bool × List Int := ((f.from_ : Int), (f.to_ : Int) - f.from_, true, f.pl)
/-- Is a field too long? -/
def longF (f : Fd) : Prop := 400 < f.pl.length
/-- What Load tells. -/
def LdPost (l : List UInt8) (R : Rw) (w : World) (e : Ending) (w' : World) : Prop :=
  Below w.heap.size w w' ∧
  ((40 < R.fs.length ∧ e = .returned (.tuple #[rowV none 0 0 0 false, .int .i64 6])) ∨
   (R.fs.length ≤ 40 ∧ (∃ f ∈ R.fs, longF f) ∧ e = .returned (.tuple #[rowV none 0 0 0 false, .int .i64 7])) ∨
   (R.fs.length ≤ 40 ∧ (∀ f ∈ R.fs, ¬ longF f) ∧ ∃ (a : Option Addr) (c : Nat) (Ms : List CelM), e = .returned (.tuple #[rowV a Ms.length c R.fin false, .int .i64 0]) ∧ Ms.map keyC = R.fs.map keyF ∧ RoIn w' l a Ms ∧ Ms.length = c ∧ (a = none → c = 0)))
/-- What holds at the head of Load's loop. -/
def LdJ (l : List UInt8) (R : Rw) (w w1 : World) (n g : Nat) (v19 : Value) (wr : World) : Prop := ∃ (k : Nat) (Ms : List CelM), v19 = .int .i64 k ∧ k ≤ n ∧ Ms.length = k ∧ Ms.map keyC = (R.fs.take k).map keyF ∧ (∀ f ∈ R.fs.take k, ¬ longF f) ∧
  wr.ownsRow w1.heap.size 61 4 (.slice (some ⟨g, 0, none⟩) n n) n (ceC (Ms ++ List.replicate (n - k) noneM)) ∧ CesIn wr 0 l Ms ∧ Below w1.heap.size w1 wr

set_option maxRecDepth 100000 in
set_option maxHeartbeats 4000000 in
theorem rload_of {w : World} {B : Nat} {l : List UInt8} {R : Rw} {ps : List FdM} {pa : Option Addr} {pc : Nat} (hri : RowIn w B (R, ps, pa, pc)) (hok : ∀ f ∈ R.fs, InL l f.pl ∧ f.pl.length ≤ l.length) (hl : l.length ≤ 16384) (hn : R.fs.length ≤ 1000000) :
    Calls Tryz.prog 45 #[.agg #[.slice pa R.fs.length pc, .int .i64 R.fin]] w (LdPost l R w) := by
  obtain ⟨i0, hi0, hz0, hz1, hz2⟩ := info_parts info_cell
  obtain ⟨n, hnn⟩ : ∃ n, R.fs.length = n := ⟨_, rfl⟩
  have hpn : ps.length = n := by rw [← hnn, ← hri.fs]; simp
  obtain ⟨w1, hw1⟩ : ∃ w1, w1 = allocs w [Obj.cells #[Value.slice pa n pc, Value.int .i64 R.fin] 101, Obj.cells #[Value.slice none 0 0, Value.int .i64 0, Value.bool false] 103] := ⟨_, rfl⟩
  have HB1 : Hid (Below w.heap.size w w1) := by rw [hw1]; exact Lib.hid (allocs_below _ w)
  have hzw : w1.heap.size > w.heap.size + 1 := by rw [hw1, allocs_size]; simp
  have h0 : w1.heap[w.heap.size]? = some (Obj.cells #[Value.slice pa n pc, Value.int .i64 R.fin] 101) := by rw [hw1]; exact allocs_at _ w 0 _ rfl
  have HH1 : Hid (w1.heap[w.heap.size + 1]? = some (.cells #[Value.slice none 0 0, Value.int .i64 0, Value.bool false] 103 (0, 0))) := by rw [hw1]; exact Lib.hid (allocs_at _ w 1 _ rfl)
  have HRI := Lib.hid (hri.below HB1.out)
  have HOK := Lib.hid hok
  have HNN := Lib.hid hnn
  have HPN := Lib.hid hpn
  have k0 : w1.cell? ⟨w.heap.size, 0, none⟩ = some (.slice pa n pc) := by rw [cell_at h0]; rfl
  have k1 : w1.cell? ⟨w.heap.size, 1, none⟩ = some (.int .i64 R.fin) := by rw [cell_at h0]; rfl
  have hh1 := HH1.out
  have zz := fun i => unfrozen hh1 i
  have r0 : w1.cell? ⟨w.heap.size + 1, 0, none⟩ = some (.slice none 0 0) := by rw [cell_at hh1]; rfl
  have r1 : w1.cell? ⟨w.heap.size + 1, 1, none⟩ = some (.int .i64 0) := by rw [cell_at hh1]; rfl
  have r2 : w1.cell? ⟨w.heap.size + 1, 2, none⟩ = some (.bool false) := by rw [cell_at hh1]; rfl
  have H0 := Lib.hid h0
  rw [hnn] at hn
  rw [hnn]
  clear h0 hh1 hri hok hpn
  unfold LdPost
  go_enter Tryz.func45, Tryz.ntmps45
  go_upto_region 1 with fail
  rw [show (w.alloc (Obj.cells #[Value.slice pa n pc, Value.int .i64 R.fin] 101)).alloc (Obj.cells #[Value.slice none 0 0, Value.int .i64 0, Value.bool false] 103) = w1 from hw1.symm]
  clear hw1
  by_cases h40 : 40 < n
  · have d : decide ((40 : Int) < (n : Int)) = true := decide_eq_true (by omega)
    have d' : decide (40 < n) = true := decide_eq_true h40
    go_wp2_with fail
    have hs := set3_at HH1.out (.slice none 0 0) (.int .i64 0) (.bool false)
    have hB := set3_below HB1.out (show w.heap.size ≤ w.heap.size + 1 by omega) (.slice none 0 0) (.int .i64 0) (.bool false)
    have q0 : (set3 w1 (w.heap.size + 1) (.slice none 0 0) (.int .i64 0) (.bool false)).cell? ⟨w.heap.size + 1, 0, none⟩ = some (.slice none 0 0) := by rw [cell_at hs]; rfl
    have q1 : (set3 w1 (w.heap.size + 1) (.slice none 0 0) (.int .i64 0) (.bool false)).cell? ⟨w.heap.size + 1, 1, none⟩ = some (.int .i64 0) := by rw [cell_at hs]; rfl
    have q2 : (set3 w1 (w.heap.size + 1) (.slice none 0 0) (.int .i64 0) (.bool false)).cell? ⟨w.heap.size + 1, 2, none⟩ = some (.bool false) := by rw [cell_at hs]; rfl
    unfold set3 at hB q0 q1 q2
    exact bodyPost_ret (v := .tuple #[rowV none 0 0 0 false, .int .i64 6]) (by simp [results, Tryz.results45, go_sem, q0, q1, q2]) rfl ⟨hB, .inl ⟨by rw [HNN.out]; exact h40, rfl⟩⟩
  · have d : decide ((40 : Int) < (n : Int)) = false := decide_eq_false (by omega)
    have d' : decide (40 < n) = false := decide_eq_false h40
    go_wp2_with (at_make; refine wpList_make_full _ rfl _ _ 46 rfl w1.heap.size 61 i0 (.agg #[.slice none 0 0, .int .i64 0, .int .i64 0, .bool false]) 4 Tryz.underlying46 hi0 hz0 hz1 .i64 .i64 _ _ n rfl rfl rfl rfl ?b2 ?b3 ?b4 ?_)
    case b2 => first | omega | (rw [hz2]; omega)
    case b3 => unfold maxLen; omega
    case b4 => omega
    intro w3 hown hgrow
    rw [show (madeCells #[Value.slice none 0 0, .int .i64 0, .int .i64 0, .bool false] (n * 4)).toList = ceC (List.replicate n noneM) from made_cells n] at hown
    have hb3 := (Below.refl w1.heap.size w1).grown hgrow (Nat.le_refl _) (by simp)
    have j0 := (hb3.cell (p := ⟨w.heap.size, 0, none⟩) (by simp only; omega)).trans k0
    have HO3 := Lib.hid hown
    have HB3 := Lib.hid hb3
    clear hown hgrow hb3 k0 k1 r0 r1 r2 zz
    go_upto_region 4 with fail
    go_wp2_with fail
    clear j0
    go_loopw [19] (fun v19 wr => LdJ l R w w1 n w1.heap.size v19 wr) (fun v19 _ => n - (intOf v19).toNat)
    case atStart => exact ⟨0, [], rfl, by omega, rfl, by simp, fun f hf => by simp at hf, by simpa using HO3.out, fun q hq => by simp at hq, HB3.out⟩
    case round =>
      obtain ⟨k, Ms, rfl, hk, hmk, hkey, hshort, ho, hces, hb⟩ := hrel
      have HO := Lib.hid ho
      have HB := Lib.hid hb
      have HCE := Lib.hid hces
      have HKY := Lib.hid hkey
      have HSH := Lib.hid hshort
      have HMK := Lib.hid hmk
      have hzr := hb.size
      have hgr : w1.heap.size < wr.heap.size := by
        rcases own_form ho with ⟨h0, _⟩ | ⟨g, hg, _, hg2⟩
        · cases h0
        · injection hg with hg; injection hg with hg; omega
      clear ho hces hb hkey hshort hmk
      by_cases hlt : k < n
      · have dk : decide (k < n) = true := decide_eq_true hlt
        have hkp : k < ps.length := by rw [HPN.out]; exact hlt
        have hFk : k < R.fs.length := by rw [HNN.out]; exact hlt
        rcases own_form HRI.out.own with ⟨_, h0⟩ | ⟨gf, hgf, _, hgf2⟩
        · simp only at h0; omega
        simp only at hgf
        subst hgf
        have hFP : ps[k].1 = R.fs[k] := by
          have h := HRI.out.fs; simp only at h
          simp only [← h, List.getElem_map]
        have hF := HOK.out _ (List.getElem_mem hFk)
        have hpp := own_below (HRI.out.parts ps[k] (List.getElem_mem hkp)) HB.out
        have hc := fun (o : Nat) (u : Value) (ho : o < 4) (hu : (fdC1 ps[k])[o]? = some u) => (HB.out.cell (p := ⟨gf, k * 4 + o, none⟩) hgf2).trans (own_cells HRI.out.own ((fdC_at ps k ps[k] o (List.getElem?_eq_getElem hkp) ho).trans hu))
        have p0 := hc 0 _ (by omega) rfl
        have p1 := hc 1 _ (by omega) rfl
        have p2 := hc 2 _ (by omega) rfl
        have p3 := hc 3 _ (by omega) rfl
        rw [hFP] at p0 p1 p2 p3 hpp
        rw [Nat.add_zero] at p0
        obtain ⟨a5, c5, h5⟩ : ∃ a5 c5, ps[k].2 = (a5, c5) := ⟨_, _, rfl⟩
        rw [h5] at p3 hpp
        simp only at p3 hpp
        have hst : R.fs.take (k + 1) = R.fs.take k ++ [R.fs[k]] := List.take_succ_eq_append_getElem hFk
        have HST := Lib.hid hst
        have HMEM := Lib.hid (List.getElem_mem hFk)
        clear hc hFP h5 hst
        generalize R.fs[k] = F at *
        have HKF : Hid (keyF F = ((F.from_ : Int), (F.to_ : Int) - F.from_, true, F.pl)) := Lib.hid rfl
        generalize (F.from_ : Int) = x0 at *
        generalize (F.to_ : Int) - x0 = x2 at *
        generalize F.kind = x3 at *
        generalize hQ : F.pl = Q at *
        have HQ := Lib.hid hQ
        clear hQ
        have al := below_al wr (Obj.cells #[Value.int IntKind.i64 x0, Value.int IntKind.i64 x2, Value.int IntKind.i64 x3, Value.slice a5 (canon Q).length c5] 180)
        have hfn := heap_alloc_new wr (Obj.cells #[Value.int IntKind.i64 x0, Value.int IntKind.i64 x2, Value.int IntKind.i64 x3, Value.slice a5 (canon Q).length c5] 180)
        have hzf2 : (wr.alloc (Obj.cells #[Value.int IntKind.i64 x0, Value.int IntKind.i64 x2, Value.int IntKind.i64 x3, Value.slice a5 (canon Q).length c5] 180)).heap.size > wr.heap.size := by simp
        have hcl' : (canon Q).length ≤ 100000 := by have := canon_count Q; omega
        have HLD := Lib.hid (cload_of (x := x0) (y := x2) (k := x3) (c := c5) (own_rd (own_below hpp al)) hcl' (fun sp hsp => by have := canon_in (l := l) hF.1 sp hsp; unfold In40; omega) (by rw [ex_canon]; exact ⟨by omega, fun x hx => by have := hF.1 x hx; omega⟩))
        have e2 : (0 : Int) ≤ (k : Int) := by omega
        have e3 : (k : Int) < (n : Int) := by omega
        have hz0r : w.heap.size < wr.heap.size := by omega
        have HF := Lib.hid hF
        go_upto_region 7 with fail
        generalize wr.alloc (Obj.cells #[Value.int IntKind.i64 x0, Value.int IntKind.i64 x2, Value.int IntKind.i64 x3, Value.slice a5 (canon Q).length c5] 180) = w4 at *
        have q0 : w4.cell? ⟨wr.heap.size, 0, none⟩ = some (.int .i64 x0) := by rw [cell_at hfn]; rfl
        have q1 : w4.cell? ⟨wr.heap.size, 1, none⟩ = some (.int .i64 x2) := by rw [cell_at hfn]; rfl
        have q2 : w4.cell? ⟨wr.heap.size, 2, none⟩ = some (.int .i64 x3) := by rw [cell_at hfn]; rfl
        have q3 : w4.cell? ⟨wr.heap.size, 3, none⟩ = some (.slice a5 (canon Q).length c5) := by rw [cell_at hfn]; rfl
        have HB4 := Lib.hid (HB.out.trans (al.mono hzr))
        have HO4 := Lib.hid (own_below HO.out al)
        have HC4 := Lib.hid (HCE.out.below al)
        clear al hfn hpp hF p0 p1 p2 p3 HO HCE
        obtain ⟨L, hL⟩ : ∃ L, L = Ms ++ List.replicate (n - k) noneM := ⟨_, rfl⟩
        have hLl : L.length = n := by rw [hL, List.length_append, HMK.out, List.length_replicate]; omega
        have hkL : k < L.length := by omega
        rw [← hL] at HO4
        have HLL := Lib.hid hLl
        have HLE := Lib.hid hL
        have HKL := Lib.hid hkL
        clear hL hLl hkL
        go_wp2_with fail
        refine HLD.out.mono ?_; rintro e w5 ⟨a6, n6, c6, rfl, hx6, hb6⟩
        rw [ex_canon] at hx6
        have ho5 : w5.ownsRow w1.heap.size 61 4 (.slice (some ⟨w1.heap.size, 0, none⟩) L.length n) L.length (ceC L) := by rw [HLL.out]; exact own_below HO4.out hb6
        have hkL := HKL.out
        obtain ⟨cs5, hcs5⟩ := own_cellsAt ho5
        have zz := fun i => unfrozen hcs5 i
        have x0' := own_cells ho5 ((ceC_at L k L[k] 0 (List.getElem?_eq_getElem hkL) (by omega)).trans rfl)
        have x1' := own_cells ho5 ((ceC_at L k L[k] 1 (List.getElem?_eq_getElem hkL) (by omega)).trans rfl)
        have x2' := own_cells ho5 ((ceC_at L k L[k] 2 (List.getElem?_eq_getElem hkL) (by omega)).trans rfl)
        have x3' := own_cells ho5 ((ceC_at L k L[k] 3 (List.getElem?_eq_getElem hkL) (by omega)).trans rfl)
        rw [Nat.add_zero] at x0'
        obtain ⟨M, hM⟩ : ∃ M : CelM, M = ⟨a6, n6, c6, x0, x2, true, Q⟩ := ⟨_, rfl⟩
        obtain ⟨w6, hw6⟩ : ∃ w6, w6 = put4 w5 w1.heap.size (k * 4) (Value.slice a6 n6 c6) (Value.int .i64 x0) (Value.int .i64 x2) (Value.bool true) := ⟨_, rfl⟩
        have HO6 : Hid (w6.ownsRow w1.heap.size 61 4 (.slice (some ⟨w1.heap.size, 0, none⟩) (L.set k M).length n) (L.set k M).length (ceC (L.set k M))) := by
          have := put4_own (M := M) ho5 hkL
          rw [hM] at this
          rw [hw6, hM]; exact Lib.hid this
        have hset : ∀ (P : CelM), CeIn w5 0 l P → CeIn w6 0 l P := fun P hP => by
          rw [hw6]
          exact ⟨(((hP.tx.setT hcs5 (by decide)).setT (heap_set_at hcs5) (by decide)).setT (heap_set_at (heap_set_at hcs5)) (by decide)).setT (heap_set_at (heap_set_at (heap_set_at hcs5))) (by decide), hP.inl⟩
        have HM6 : Hid (CeIn w6 0 l M) := Lib.hid (hset M (by rw [hM]; exact ⟨hx6.mono (Nat.zero_le _), HF.out.1⟩))
        have HC6 : Hid (CesIn w6 0 l Ms) := Lib.hid (fun q hq => hset q ((HC4.out.below hb6) q hq))
        have HB6 : Hid (Below w1.heap.size w1 w6) := by rw [hw6]; exact Lib.hid (put4_below (HB4.out.trans (hb6.mono (by omega))) (Nat.le_refl _))
        have h60 := own_cells HO6.out ((ceC_at (L.set k M) k M 0 (by rw [List.getElem?_set_self hkL]) (by omega)).trans rfl)
        rw [Nat.add_zero, hM] at h60
        simp only at h60
        have HTx : Hid (Tx w6 (.slice a6 n6 c6) Q) := by have := HM6.out.tx; rw [hM] at this; exact Lib.hid this.tx
        have HLS : Hid (L.set k M = (Ms ++ [M]) ++ List.replicate (n - (k + 1)) noneM) := by
          show _ = _
          rw [HLE.out, List.set_append, if_neg (by rw [HMK.out]; omega), HMK.out, Nat.sub_self, show n - k = (n - (k + 1)) + 1 by omega, List.replicate_succ, List.set_cons_zero]
          simp
        have HKM : Hid (keyC M = keyF F) := by show _ = _; rw [hM, HKF.out]; rfl
        have hzw6 := HB6.out.size
        go_upto_region 8 with fail
        rw [show (((w5.setCell ⟨w1.heap.size, k * 4, none⟩ (Value.slice a6 n6 c6)).setCell ⟨w1.heap.size, k * 4 + 1, none⟩ (Value.int .i64 x0)).setCell ⟨w1.heap.size, k * 4 + 2, none⟩ (Value.int .i64 x2)).setCell ⟨w1.heap.size, k * 4 + 3, none⟩ (Value.bool true) = w6 from hw6.symm]
        clear hw6 hM ho5 hcs5 zz x0' x1' x2' x3' hx6 hb6 hset HO4 HC4 HB4 HLD q0 q1 q2 q3
        have HTL := Lib.hid (tlen_of HTx.out)
        generalize hql : Q.length = nq at *
        have HQL := Lib.hid hql
        clear hql
        have hh6 := (HB6.out.block (w.heap.size + 1) (by omega)).trans HH1.out
        have HH6 := Lib.hid hh6
        clear hh6
        go_wp2_with fail
        refine HTL.out.mono ?_; rintro e w7 ⟨rfl, hb7⟩
        have HO7 := Lib.hid (own_below HO6.out hb7)
        have HC7 := Lib.hid (HC6.out.below hb7)
        have HM7 := Lib.hid (HM6.out.below hb7)
        have HB7 := Lib.hid (HB6.out.trans (hb7.mono hzw6))
        have hh7 := (hb7.block (w.heap.size + 1) (by omega)).trans HH6.out
        have hzw7 := HB7.out.size
        have HH7 := Lib.hid hh7
        clear hb7 HO6 HC6 HM6 HB6 HTL HTx h60
        by_cases hbig : 400 < nq
        · have dq : decide ((400 : Int) < (nq : Int)) = true := decide_eq_true (by omega)
          have dq' : decide (400 < nq) = true := decide_eq_true hbig
          have zz := fun i => unfrozen hh7 i
          have r0 : w7.cell? ⟨w.heap.size + 1, 0, none⟩ = some (.slice none 0 0) := by rw [cell_at hh7]; rfl
          have r1 : w7.cell? ⟨w.heap.size + 1, 1, none⟩ = some (.int .i64 0) := by rw [cell_at hh7]; rfl
          have r2 : w7.cell? ⟨w.heap.size + 1, 2, none⟩ = some (.bool false) := by rw [cell_at hh7]; rfl
          clear hh7
          go_wp2_with fail
          have hs := set3_at HH7.out (.slice none 0 0) (.int .i64 0) (.bool false)
          have hB := set3_below (HB1.out.trans (HB7.out.mono (show w.heap.size ≤ w1.heap.size by omega))) (show w.heap.size ≤ w.heap.size + 1 by omega) (.slice none 0 0) (.int .i64 0) (.bool false)
          have q0 : (set3 w7 (w.heap.size + 1) (.slice none 0 0) (.int .i64 0) (.bool false)).cell? ⟨w.heap.size + 1, 0, none⟩ = some (.slice none 0 0) := by rw [cell_at hs]; rfl
          have q1 : (set3 w7 (w.heap.size + 1) (.slice none 0 0) (.int .i64 0) (.bool false)).cell? ⟨w.heap.size + 1, 1, none⟩ = some (.int .i64 0) := by rw [cell_at hs]; rfl
          have q2 : (set3 w7 (w.heap.size + 1) (.slice none 0 0) (.int .i64 0) (.bool false)).cell? ⟨w.heap.size + 1, 2, none⟩ = some (.bool false) := by rw [cell_at hs]; rfl
          unfold set3 at hB q0 q1 q2
          exact bodyPost_ret (v := .tuple #[rowV none 0 0 0 false, .int .i64 7]) (by simp [results, Tryz.results45, go_sem, q0, q1, q2]) rfl ⟨hB, .inr (.inl ⟨by rw [HNN.out]; omega, ⟨F, HMEM.out, by unfold longF; rw [HQ.out, HQL.out]; exact hbig⟩, rfl⟩)⟩
        · have dq : decide ((400 : Int) < (nq : Int)) = false := decide_eq_false (by omega)
          have dq' : decide (400 < nq) = false := decide_eq_false hbig
          clear hh7
          go_wp2_with fail
          go_roundw <;> first | exact ⟨k + 1, Ms ++ [M], rfl, by omega, by rw [List.length_append, HMK.out]; rfl, by rw [List.map_append, HKY.out, HST.out, List.map_append, List.map_singleton, List.map_singleton, HKM.out], (by intro f hf; rw [HST.out] at hf; exact (List.mem_append.mp hf).elim (fun h => HSH.out f h) (fun h => by rw [List.mem_singleton.mp h]; unfold longF; rw [HQ.out, HQL.out]; exact hbig)), (by have := HO7.out; rw [List.length_set, HLL.out, HLS.out] at this; exact this), (fun q hq => (List.mem_append.mp hq).elim (fun h => HC7.out q h) (fun h => by rw [List.mem_singleton.mp h]; exact HM7.out)), HB7.out⟩ | omega | (simp [intOf]; omega) | fail
      · have hkn : k = n := by omega
        subst hkn
        have dk : decide (k < k) = false := decide_eq_false (by omega)
        have hh6 := (HB.out.block (w.heap.size + 1) (by omega)).trans HH1.out
        have hp6 := (HB.out.block (w.heap.size) (by omega)).trans H0.out
        have HH6 := Lib.hid hh6
        have zz := fun i => unfrozen hh6 i
        have r0 : wr.cell? ⟨w.heap.size + 1, 0, none⟩ = some (.slice none 0 0) := by rw [cell_at hh6]; rfl
        have r1 : wr.cell? ⟨w.heap.size + 1, 1, none⟩ = some (.int .i64 0) := by rw [cell_at hh6]; rfl
        have r2 : wr.cell? ⟨w.heap.size + 1, 2, none⟩ = some (.bool false) := by rw [cell_at hh6]; rfl
        have k1 : wr.cell? ⟨w.heap.size, 1, none⟩ = some (.int .i64 R.fin) := by rw [cell_at hp6]; rfl
        clear hh6 hp6
        go_wp2_with fail
        have hown : wr.ownsRow w1.heap.size 61 4 (.slice (some ⟨w1.heap.size, 0, none⟩) Ms.length k) Ms.length (ceC Ms) := by
          have := HO.out; rw [Nat.sub_self, List.replicate_zero, List.append_nil] at this; rw [HMK.out]; exact this
        have hro := (own_ro hown HCE.out).set3 (u0 := .slice (some ⟨w1.heap.size, 0, none⟩) k k) (u1 := .int .i64 R.fin) (u2 := .bool false) HH6.out (by decide) (by decide)
        have hs := set3_at HH6.out (.slice (some ⟨w1.heap.size, 0, none⟩) k k) (.int .i64 R.fin) (.bool false)
        have hB := set3_below (HB1.out.trans (HB.out.mono (show w.heap.size ≤ w1.heap.size by omega))) (show w.heap.size ≤ w.heap.size + 1 by omega) (.slice (some ⟨w1.heap.size, 0, none⟩) k k) (.int .i64 R.fin) (.bool false)
        have q0 : (set3 wr (w.heap.size + 1) (.slice (some ⟨w1.heap.size, 0, none⟩) k k) (.int .i64 R.fin) (.bool false)).cell? ⟨w.heap.size + 1, 0, none⟩ = some (.slice (some ⟨w1.heap.size, 0, none⟩) k k) := by rw [cell_at hs]; rfl
        have q1 : (set3 wr (w.heap.size + 1) (.slice (some ⟨w1.heap.size, 0, none⟩) k k) (.int .i64 R.fin) (.bool false)).cell? ⟨w.heap.size + 1, 1, none⟩ = some (.int .i64 R.fin) := by rw [cell_at hs]; rfl
        have q2 : (set3 wr (w.heap.size + 1) (.slice (some ⟨w1.heap.size, 0, none⟩) k k) (.int .i64 R.fin) (.bool false)).cell? ⟨w.heap.size + 1, 2, none⟩ = some (.bool false) := by rw [cell_at hs]; rfl
        unfold set3 at hro hB q0 q1 q2
        exact bodyPost_ret (v := .tuple #[rowV (some ⟨w1.heap.size, 0, none⟩) k k R.fin false, .int .i64 0]) (by simp [results, Tryz.results45, go_sem, q0, q1, q2]) rfl ⟨hB, .inr (.inr ⟨by rw [HNN.out]; omega, (by intro f hf; exact HSH.out f (by rw [← HNN.out, List.take_length]; exact hf)), some ⟨w1.heap.size, 0, none⟩, k, Ms, (by rw [HMK.out]), (by rw [HKY.out, ← HNN.out, List.take_length]), hro, HMK.out, (fun h => by cases h)⟩)⟩

end Go.Proofs.YtkgakgceamafcaaGreat

namespace Go.Proofs.YtkgakgceamafcaaGreat
open Go Go.RowKit
set_option linter.unusedVariables false

theorem TyAt.ne {w : World} {b p : Nat} {cs : Array Value} {TT : TypeId} {fr : Nat × Nat} (h : TyAt w b) (hp : w.heap[p]? = some (.cells cs TT fr)) (hT : ¬ okT TT) : b ≠ p := by
  rintro rfl
  obtain ⟨cs', t, fr', h1, h2⟩ := h
  rw [hp] at h1
  injection h1 with h1
  injection h1 with _ h1
  subst h1
  exact hT h2
/-- A block of another type is turned: the tree stands. -/
theorem InE.setT {w : World} {T p TT o : Nat} {u : Value} {cs : Array Value} {fr : Nat × Nat} (hp : w.heap[p]? = some (.cells cs TT fr)) (hT : TT ≠ T) (hT2 : ¬ okT TT) : ∀ {h : Nat} {t : El h} {y : Value}, InE w T h t y → InE (w.setCell ⟨p, o, none⟩ u) T h t y
  | 0, t, y, H => H
  | h + 1, t, y, H => by
    obtain ⟨b, a, c, us, rfl, h1, ht, h2, h3, h4⟩ := H
    have hb : b ≠ p := by
      rintro rfl
      rw [h1] at hp
      injection hp with hp
      injection hp with _ hp
      exact hT hp.symm
    exact ⟨b, a, c, us, rfl, (heap_set_other hb).trans h1, fun d hd => (ht d hd).set, h2.set (fun d hd => (ht d hd).ne hp hT2), h3, fun i x z hx hz => InE.setT hp hT hT2 (h4 i x z hx hz)⟩
theorem In.setT {w : World} {T p TT o h b : Nat} {u : Value} {cs : Array Value} {fr : Nat × Nat} {t : List (El h)} (H : In w T h t b) (hp : w.heap[p]? = some (.cells cs TT fr)) (hT : TT ≠ T) (hT2 : ¬ okT TT) : In (w.setCell ⟨p, o, none⟩ u) T h t b := by
  have h1 := InE.setT (u := u) (o := o) hp hT hT2 (h := h + 1) (t := mk1 t) (in_of H)
  obtain ⟨b', hb, h2⟩ := of_in h1
  have : b' = b := by injection hb with hb; injection hb with hb; injection hb with hb; exact hb.symm
  subst this
  exact h2
theorem Tin.setT {w : World} {T p TT o : Nat} {u pv : Value} {cs : Array Value} {fr : Nat × Nat} {L : List Value} (H : Tin w T pv L) (hp : w.heap[p]? = some (.cells cs TT fr)) (hT : TT ≠ T) (hT2 : ¬ okT TT) : Tin (w.setCell ⟨p, o, none⟩ u) T pv L := by
  rcases H with h | ⟨b, h, t, h1, h2, h3, h4⟩
  · exact .inl h
  · exact .inr ⟨b, h, t, h1, h2.setT hp hT hT2, h3, h4⟩
theorem okT_grid : ¬ okT 27 := by unfold okT; decide

/-- A row of nothing. -/
def zR : R3 := ⟨none, 0, 0, 0, false⟩
theorem set3_app {A B : List Value} {u v t u' v' t' : Value} {k : Nat} (h : A.length = k) : (((A ++ u :: v :: t :: B).toArray.setIfInBounds k u').setIfInBounds (k + 1) v').setIfInBounds (k + 2) t' = (A ++ u' :: v' :: t' :: B).toArray := by
  subst h
  rw [List.setIfInBounds_toArray, List.setIfInBounds_toArray, List.setIfInBounds_toArray, List.set_append_right _ _ (Nat.le_refl _), Nat.sub_self, List.set_cons_zero, List.set_append_right _ _ (by omega), show A.length + 1 - A.length = 1 by omega, List.set_append_right _ _ (by omega), show A.length + 2 - A.length = 2 by omega]
  rfl
theorem cs3_rws_len (l : List R3) : (cs3 (rws l)).length = l.length * 3 := by rw [cs3_len (rws_is l), rws_len]
theorem cs3_set {L : List R3} {k : Nat} (hk : k < L.length) (M : R3) : (((cs3 (rws L)).toArray.setIfInBounds (k * 3) (.slice M.a M.n M.c)).setIfInBounds (k * 3 + 1) (.int .i64 M.e)).setIfInBounds (k * 3 + 2) (.bool M.b) = (cs3 (rws (L.set k M))).toArray := by
  have e : L = L.take k ++ L[k] :: L.drop (k + 1) := by rw [List.getElem_cons_drop, List.take_append_drop]
  have hl : (L.take k).length = k := by rw [List.length_take]; omega
  have hs : L.set k M = L.take k ++ M :: L.drop (k + 1) := by
    conv => lhs; rw [e]
    rw [List.set_append_right _ _ (by omega), hl, Nat.sub_self]; rfl
  have h1 : cs3 (rws L) = cs3 (rws (L.take k)) ++ Value.slice L[k].a L[k].n L[k].c :: Value.int .i64 L[k].e :: Value.bool L[k].b :: cs3 (rws (L.drop (k + 1))) := by
    conv => lhs; rw [e]
    rw [rws_app, cs3_app]; rfl
  rw [h1, set3_app (by rw [cs3_rws_len, hl]), hs, rws_app, cs3_app]
  rfl
theorem rws_rep (m : Nat) : cs3 (rws (List.replicate (m + 1) zR)) = Value.slice none 0 0 :: Value.int .i64 0 :: Value.bool false :: cs3 (rws (List.replicate m zR)) := by
  rw [List.replicate_succ]; rfl
theorem made_rows (m : Nat) : (madeCells #[.slice none 0 0, .int .i64 0, .bool false] (m * 3)).toList = cs3 (rws (List.replicate m zR)) := by
  apply List.ext_getElem?
  intro j
  by_cases hj : j < m * 3
  · have e : (madeCells #[Value.slice none 0 0, .int .i64 0, .bool false] (m * 3)).toList[j]? = some (#[Value.slice none 0 0, .int .i64 0, .bool false][j % 3]!) := by simp [madeCells, hj]
    have e2 : ∀ m j, j < m * 3 → (cs3 (rws (List.replicate m zR)))[j]? = some (#[Value.slice none 0 0, .int .i64 0, .bool false][j % 3]!) := fun m => by
      induction m with
      | zero => intro j h; omega
      | succ m ih =>
        intro j h
        rw [rws_rep]
        match j, h with
        | 0, _ => rfl
        | 1, _ => rfl
        | 2, _ => rfl
        | j + 3, h => rw [List.getElem?_cons_succ, List.getElem?_cons_succ, List.getElem?_cons_succ, ih j (by omega), Nat.add_mod_right]
    rw [e, e2 m j hj]
  · rw [List.getElem?_eq_none (by simp [size_madeCells]; omega), List.getElem?_eq_none (by rw [cs3_rws_len, List.length_replicate]; omega)]
theorem info_rw : (Tryz.prog.info? 103).map (fun i => (i.zero, i.size, i.bytes)) = some (some (.agg #[.slice none 0 0, .int .i64 0, .bool false]), 3, 40) := by kernel_rfl

/-- Is the last row ended? How does the first one end that is? -/
def tailP (R : List Rw) : Bool := match R.getLast? with
  | some r => r.fin != 0
  | none => false
def frsP : List Rw → Int
  | [] => 2
  | r :: l => if r.fin = 0 then frsP l else r.fin

/-- Rows of a file in memory, to be read. -/
def RsRd (w : World) (a : Option Addr) (n : Nat) (R : List Rw) : Prop := R.length = n ∧ ∃ rs : List RowM, rs.map (·.1) = R ∧ Rd w 2 a n (rwC rs)
theorem RsRd.below {w w' : World} {a : Option Addr} {n : Nat} {R : List Rw} (h : RsRd w a n R) (hb : Below w.heap.size w w') : RsRd w' a n R := ⟨h.1, by obtain ⟨rs, h1, h2⟩ := h.2; exact ⟨rs, h1, h2.below hb⟩⟩
theorem RsRd.at {w : World} {a : Option Addr} {n k : Nat} {R : List Rw} {r : Rw} (h : RsRd w a n R) (hr : R[k]? = some r) : ∃ g o v, a = some ⟨g, o, none⟩ ∧ g < w.heap.size ∧ w.cell? ⟨g, o + k * 2, none⟩ = some v ∧ (∃ pa pn pc, v = .slice pa pn pc) ∧ w.cell? ⟨g, o + k * 2 + 1, none⟩ = some (.int .i64 r.fin) := by
  obtain ⟨hn, rs, h1, h2⟩ := h
  have hk := (List.getElem?_eq_some_iff.1 hr).1
  have hkr : k < rs.length := by have := congrArg List.length h1; rw [List.length_map] at this; omega
  obtain ⟨g, o, rfl, hg, hc⟩ := h2.2 (by omega)
  have hrk : rs[k]? = some rs[k] := List.getElem?_eq_getElem hkr
  have hfin : rs[k].1 = r := by
    have h3 : (rs.map (·.1))[k]? = some r := by rw [h1]; exact hr
    rw [List.getElem?_map, hrk] at h3
    simpa using h3
  have c0 := hc (k * 2 + 0) _ ((rwC_at rs k rs[k] 0 hrk (by omega)).trans rfl)
  have c1 := hc (k * 2 + 1) _ ((rwC_at rs k rs[k] 1 hrk (by omega)).trans rfl)
  refine ⟨g, o, _, rfl, hg, by rw [Nat.add_zero] at c0; exact c0, ⟨_, _, _, rfl⟩, ?_⟩
  rw [← hfin, Nat.add_assoc]
  exact c1

set_option maxRecDepth 100000 in
set_option maxHeartbeats 2000000 in
theorem gended_of {w : World} {a : Option Addr} {n c : Nat} {R : List Rw} (h : RsRd w a n R) (hl : n ≤ 1000000) :
    Calls Tryz.prog 47 #[.slice a n c] w fun e w' => e = .returned (.bool (tailP R)) ∧ w = w' := by
  have HN := Lib.hid h.1
  by_cases h0 : 0 < n
  · have d0 : decide ((0 : Int) < (n : Int)) = true := decide_eq_true (by omega)
    have d0' : decide (0 < n) = true := decide_eq_true h0
    have hk : n - 1 < R.length := by rw [HN.out]; omega
    obtain ⟨r, hr⟩ : ∃ r, R[n - 1]? = some r := ⟨_, List.getElem?_eq_getElem hk⟩
    have hT : tailP R = (r.fin != 0) := by unfold tailP; rw [List.getLast?_eq_getElem?, HN.out, hr]
    obtain ⟨g, o, v, rfl, hg, c0, hv, c1⟩ := h.at hr
    obtain ⟨q, hq⟩ : ∃ q, n - 1 = q := ⟨_, rfl⟩
    rw [hq] at c0 c1
    have hqi : (n : Int) - 1 = (q : Int) := by omega
    have i0 : (0 : Int) ≤ (q : Int) := by omega
    have i1 : (q : Int) < (n : Int) := by omega
    rw [hT]
    generalize r.fin = f at *
    clear hT hr hk h hq hg
    go_enter Tryz.func47, Tryz.ntmps47
    go_wp2_with fail
    go_ret
    exact ⟨rfl, rfl⟩
  · have d0 : decide ((0 : Int) < (n : Int)) = false := decide_eq_false (by omega)
    have d0' : decide (0 < n) = false := decide_eq_false h0
    have hR : R = [] := List.eq_nil_of_length_eq_zero (by rw [HN.out]; omega)
    have hT : tailP R = false := by rw [hR]; rfl
    rw [hT]
    clear h hR hT
    go_enter Tryz.func47, Tryz.ntmps47
    go_wp2_with fail
    go_ret
    exact ⟨rfl, rfl⟩

theorem frs_step {R : List Rw} : ∀ {k : Nat} {r : Rw}, R[k]? = some r → r.fin = 0 → frsP (R.drop k) = frsP (R.drop (k + 1)) := fun {k r} hr h0 => by
  have hk := List.getElem?_eq_some_iff.1 hr
  rw [List.drop_eq_getElem_cons hk.1, hk.2]
  show (if r.fin = 0 then _ else _) = _
  rw [if_pos h0]
theorem frs_hit {R : List Rw} {k : Nat} {r : Rw} (hr : R[k]? = some r) (h0 : r.fin ≠ 0) : frsP (R.drop k) = r.fin := by
  have hk := List.getElem?_eq_some_iff.1 hr
  rw [List.drop_eq_getElem_cons hk.1, hk.2]
  show (if r.fin = 0 then _ else _) = _
  rw [if_neg h0]

set_option maxRecDepth 100000 in
set_option maxHeartbeats 2000000 in
theorem gfirst_of {w : World} {a : Option Addr} {n c : Nat} {R : List Rw} (h : RsRd w a n R) (hl : n ≤ 1000000) :
    Calls Tryz.prog 48 #[.slice a n c] w fun e w' => e = .returned (.int .i64 (frsP R)) ∧ Below w.heap.size w w' := by
  have HN := Lib.hid h.1
  have H := Lib.hid h
  clear h
  go_enter Tryz.func48, Tryz.ntmps48
  go_wp2_with fail
  go_loopw [7] (fun v7 wr => ∃ k : Nat, v7 = .int .i64 (k : Int) ∧ k ≤ n ∧ frsP (R.drop k) = frsP R ∧ Below w.heap.size w wr) (fun v7 _ => n - (intOf v7).toNat)
  case atStart => exact ⟨0, rfl, Nat.zero_le _, rfl, Below.refl _ _⟩
  case round =>
    obtain ⟨k, rfl, hk, hf, hb⟩ := hrel
    have HF := Lib.hid hf
    have HBl := Lib.hid hb
    by_cases hlt : k < n
    · have dk : decide (k < n) = true := decide_eq_true hlt
      obtain ⟨r, hr⟩ : ∃ r, R[k]? = some r := ⟨_, List.getElem?_eq_getElem (by rw [HN.out]; exact hlt)⟩
      obtain ⟨g, o, v, rfl, hg, c0, ⟨pa, pn, pc, rfl⟩, c1⟩ := (H.out.below hb).at hr
      have i0 : (0 : Int) ≤ (k : Int) := by omega
      have i1 : (k : Int) < (n : Int) := by omega
      obtain ⟨f, hff⟩ : ∃ f, r.fin = f := ⟨_, rfl⟩
      have HFF := Lib.hid hff
      have HR := Lib.hid hr
      rw [hff] at c1
      have hh := heap_alloc_new wr (Obj.cells #[.slice pa pn pc, .int .i64 f] 101)
      have q1 : (wr.alloc (Obj.cells #[.slice pa pn pc, .int .i64 f] 101)).cell? ⟨wr.heap.size, 1, none⟩ = some (.int .i64 f) := (cell_at hh 1).trans rfl
      have HA := Lib.hid (HBl.out.trans ((t_al wr (Obj.cells #[.slice pa pn pc, .int .i64 f] 101)).mono HBl.out.size))
      clear hf hb hr hff hh
      by_cases h0 : f = 0
      · have d0 : (f != 0) = false := by simpa using h0
        have HS := Lib.hid (frs_step HR.out (by rw [HFF.out]; exact h0))
        clear h0
        go_wp2_with fail
        go_roundw
        case rel => exact ⟨k + 1, by go_num, by omega, by rw [← HS.out]; exact HF.out, HA.out⟩
        case measure => simp [intOf]; omega
      · have d0 : (f != 0) = true := by simpa using h0
        have HS := Lib.hid (frs_hit HR.out (by rw [HFF.out]; exact h0))
        clear h0
        go_wp2_with fail
        go_ret
        exact ⟨by rw [← HF.out, HS.out, HFF.out]; rfl, HA.out⟩
    · have dk : decide (k < n) = false := decide_eq_false hlt
      obtain rfl : k = n := by omega
      have HE : Hid (frsP R = 2) := by show _ = _; rw [← HF.out, List.drop_of_length_le (by rw [HN.out]; exact Nat.le_refl _)]; rfl
      clear hf hb
      go_wp2_with fail
      go_ret
      exact ⟨by rw [HE.out]; rfl, HBl.out⟩

end Go.Proofs.YtkgakgceamafcaaGreat
