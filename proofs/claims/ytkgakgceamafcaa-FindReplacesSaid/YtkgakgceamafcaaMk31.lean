/-
  Texts of this seat, put together (a claim holds few texts): RwH.
-/
import Derived.Test.YtkgakgceamafcaaMk30

namespace Go.Proofs.Ytkgakgceamafcaa
open Go Go.RowKit
set_option linter.unusedVariables false

/-- What a loaded cell is of its field. -/
def keyC (m : CelM) : Int × Int × Bool × List Int := (m.x, m.y, m.k, m.t)
def keyF (f : Fd) : Int × Int × Bool × List Int := ((f.from_ : Int), (f.to_ : Int) - f.from_, true, f.pl)
/-- Is a field too long? -/
def longF (f : Fd) : Prop := 400 < f.pl.length
/-- What Load tells. -/
def LdPost (l : List UInt8) (R : Rw) (w : World) (e : Ending) (w' : World) : Prop :=
  Below w.heap.size w w' ∧
  ((40 < R.fs.length ∧ e = .returned (.tuple #[rowV none 0 0 0 false, .int .i64 6])) ∨
   (R.fs.length ≤ 40 ∧ (∃ f ∈ R.fs, longF f) ∧ e = .returned (.tuple #[rowV none 0 0 0 false, .int .i64 7])) ∨
   (R.fs.length ≤ 40 ∧ (∀ f ∈ R.fs, ¬ longF f) ∧ ∃ (a : Option Addr) (c : Nat) (Ms : List CelM), e = .returned (.tuple #[rowV a Ms.length c R.fin false, .int .i64 0]) ∧ Ms.map keyC = R.fs.map keyF ∧ RoIn w' l a Ms ∧ Ms.length = c ∧ (a = none → c = 0)))
/-- What holds at the head of Load's loop. -/
def LdJ (l : List UInt8) (R : Rw) (w w1 : World) (n g : Nat) (v19 : Value) (wr : World) : Prop := ∃ (k : Nat) (Ms : List CelM), v19 = .int .i64 k ∧ k ≤ n ∧ Ms.length = k ∧ Ms.map keyC = (R.fs.take k).map keyF ∧ (∀ f ∈ R.fs.take k, ¬ longF f) ∧
  wr.ownsRow w1.heap.size 98 4 (.slice (some ⟨g, 0, none⟩) n n) n (ceC (Ms ++ List.replicate (n - k) noneM)) ∧ CesIn wr 0 l Ms ∧ Below w1.heap.size w1 wr

set_option maxRecDepth 100000 in
set_option maxHeartbeats 4000000 in
theorem rload_of {w : World} {B : Nat} {l : List UInt8} {R : Rw} {ps : List FdM} {pa : Option Addr} {pc : Nat} (hri : RowIn w B (R, ps, pa, pc)) (hok : ∀ f ∈ R.fs, InL l f.pl ∧ f.pl.length ≤ l.length) (hl : l.length ≤ 16384) (hn : R.fs.length ≤ 1000000) :
    Calls Try.prog 32 #[.agg #[.slice pa R.fs.length pc, .int .i64 R.fin]] w (LdPost l R w) := by
  obtain ⟨i0, hi0, hz0, hz1, hz2⟩ := info_parts info_cell
  obtain ⟨n, hnn⟩ : ∃ n, R.fs.length = n := ⟨_, rfl⟩
  have hpn : ps.length = n := by rw [← hnn, ← hri.fs]; simp
  obtain ⟨w1, hw1⟩ : ∃ w1, w1 = allocs w [Obj.cells #[Value.slice pa n pc, Value.int .i64 R.fin] 68, Obj.cells #[Value.slice none 0 0, Value.int .i64 0, Value.bool false] 71] := ⟨_, rfl⟩
  have HB1 : Hid (Below w.heap.size w w1) := by rw [hw1]; exact Lib.hid (allocs_below _ w)
  have hzw : w1.heap.size > w.heap.size + 1 := by rw [hw1, allocs_size]; simp
  have h0 : w1.heap[w.heap.size]? = some (Obj.cells #[Value.slice pa n pc, Value.int .i64 R.fin] 68) := by rw [hw1]; exact allocs_at _ w 0 _ rfl
  have HH1 : Hid (w1.heap[w.heap.size + 1]? = some (.cells #[Value.slice none 0 0, Value.int .i64 0, Value.bool false] 71 (0, 0))) := by rw [hw1]; exact Lib.hid (allocs_at _ w 1 _ rfl)
  have HRI := Lib.hid (hri.below HB1.out)
  have HOK := Lib.hid hok
  have HNN := Lib.hid hnn
  have HPN := Lib.hid hpn
  have k0 : w1.cell? ⟨w.heap.size, 0, none⟩ = some (.slice pa n pc) := by rw [cell_at h0]; rfl
  have k1 : w1.cell? ⟨w.heap.size, 1, none⟩ = some (.int .i64 R.fin) := by rw [cell_at h0]; rfl
  have hh1 := HH1.out
  have zz := fun i => unfrozen hh1 i
  have r0 : w1.cell? ⟨w.heap.size + 1, 0, none⟩ = some (.slice none 0 0) := by rw [cell_at hh1]; rfl
  have r1 : w1.cell? ⟨w.heap.size + 1, 1, none⟩ = some (.int .i64 0) := by rw [cell_at hh1]; rfl
  have r2 : w1.cell? ⟨w.heap.size + 1, 2, none⟩ = some (.bool false) := by rw [cell_at hh1]; rfl
  have H0 := Lib.hid h0
  rw [hnn] at hn
  rw [hnn]
  clear h0 hh1 hri hok hpn
  unfold LdPost
  go_enter Try.func32, Try.ntmps32
  go_upto_region 1 with fail
  rw [show (w.alloc (Obj.cells #[Value.slice pa n pc, Value.int .i64 R.fin] 68)).alloc (Obj.cells #[Value.slice none 0 0, Value.int .i64 0, Value.bool false] 71) = w1 from hw1.symm]
  clear hw1
  by_cases h40 : 40 < n
  · have d : decide ((40 : Int) < (n : Int)) = true := decide_eq_true (by omega)
    have d' : decide (40 < n) = true := decide_eq_true h40
    go_wp2_with fail
    have hs := set3_at HH1.out (.slice none 0 0) (.int .i64 0) (.bool false)
    have hB := set3_below HB1.out (show w.heap.size ≤ w.heap.size + 1 by omega) (.slice none 0 0) (.int .i64 0) (.bool false)
    have q0 : (set3 w1 (w.heap.size + 1) (.slice none 0 0) (.int .i64 0) (.bool false)).cell? ⟨w.heap.size + 1, 0, none⟩ = some (.slice none 0 0) := by rw [cell_at hs]; rfl
    have q1 : (set3 w1 (w.heap.size + 1) (.slice none 0 0) (.int .i64 0) (.bool false)).cell? ⟨w.heap.size + 1, 1, none⟩ = some (.int .i64 0) := by rw [cell_at hs]; rfl
    have q2 : (set3 w1 (w.heap.size + 1) (.slice none 0 0) (.int .i64 0) (.bool false)).cell? ⟨w.heap.size + 1, 2, none⟩ = some (.bool false) := by rw [cell_at hs]; rfl
    unfold set3 at hB q0 q1 q2
    exact bodyPost_ret (v := .tuple #[rowV none 0 0 0 false, .int .i64 6]) (by simp [results, Try.results32, go_sem, q0, q1, q2]) rfl ⟨hB, .inl ⟨by rw [HNN.out]; exact h40, rfl⟩⟩
  · have d : decide ((40 : Int) < (n : Int)) = false := decide_eq_false (by omega)
    have d' : decide (40 < n) = false := decide_eq_false h40
    go_wp2_with (at_make; refine wpList_make_full _ rfl _ _ 69 rfl w1.heap.size 98 i0 (.agg #[.slice none 0 0, .int .i64 0, .int .i64 0, .bool false]) 4 Try.underlying69 hi0 hz0 hz1 .i64 .i64 _ _ n rfl rfl rfl rfl ?b2 ?b3 ?b4 ?_)
    case b2 => first | omega | (rw [hz2]; omega)
    case b3 => unfold maxLen; omega
    case b4 => omega
    intro w3 hown hgrow
    rw [show (madeCells #[Value.slice none 0 0, .int .i64 0, .int .i64 0, .bool false] (n * 4)).toList = ceC (List.replicate n noneM) from made_cells n] at hown
    have hb3 := (Below.refl w1.heap.size w1).grown hgrow (Nat.le_refl _) (by simp)
    have j0 := (hb3.cell (p := ⟨w.heap.size, 0, none⟩) (by simp only; omega)).trans k0
    have HO3 := Lib.hid hown
    have HB3 := Lib.hid hb3
    clear hown hgrow hb3 k0 k1 r0 r1 r2 zz
    go_upto_region 4 with fail
    go_wp2_with fail
    clear j0
    go_loopw [19] (fun v19 wr => LdJ l R w w1 n w1.heap.size v19 wr) (fun v19 _ => n - (intOf v19).toNat)
    case atStart => exact ⟨0, [], rfl, by omega, rfl, by simp, fun f hf => by simp at hf, by simpa using HO3.out, fun q hq => by simp at hq, HB3.out⟩
    case round =>
      obtain ⟨k, Ms, rfl, hk, hmk, hkey, hshort, ho, hces, hb⟩ := hrel
      have HO := Lib.hid ho
      have HB := Lib.hid hb
      have HCE := Lib.hid hces
      have HKY := Lib.hid hkey
      have HSH := Lib.hid hshort
      have HMK := Lib.hid hmk
      have hzr := hb.size
      have hgr : w1.heap.size < wr.heap.size := by
        rcases own_form ho with ⟨h0, _⟩ | ⟨g, hg, _, hg2⟩
        · cases h0
        · injection hg with hg; injection hg with hg; omega
      clear ho hces hb hkey hshort hmk
      by_cases hlt : k < n
      · have dk : decide (k < n) = true := decide_eq_true hlt
        have hkp : k < ps.length := by rw [HPN.out]; exact hlt
        have hFk : k < R.fs.length := by rw [HNN.out]; exact hlt
        rcases own_form HRI.out.own with ⟨_, h0⟩ | ⟨gf, hgf, _, hgf2⟩
        · simp only at h0; omega
        simp only at hgf
        subst hgf
        have hFP : ps[k].1 = R.fs[k] := by
          have h := HRI.out.fs; simp only at h
          simp only [← h, List.getElem_map]
        have hF := HOK.out _ (List.getElem_mem hFk)
        have hpp := own_below (HRI.out.parts ps[k] (List.getElem_mem hkp)) HB.out
        have hc := fun (o : Nat) (u : Value) (ho : o < 4) (hu : (fdC1 ps[k])[o]? = some u) => (HB.out.cell (p := ⟨gf, k * 4 + o, none⟩) hgf2).trans (own_cells HRI.out.own ((fdC_at ps k ps[k] o (List.getElem?_eq_getElem hkp) ho).trans hu))
        have p0 := hc 0 _ (by omega) rfl
        have p1 := hc 1 _ (by omega) rfl
        have p2 := hc 2 _ (by omega) rfl
        have p3 := hc 3 _ (by omega) rfl
        rw [hFP] at p0 p1 p2 p3 hpp
        rw [Nat.add_zero] at p0
        obtain ⟨a5, c5, h5⟩ : ∃ a5 c5, ps[k].2 = (a5, c5) := ⟨_, _, rfl⟩
        rw [h5] at p3 hpp
        simp only at p3 hpp
        have hst : R.fs.take (k + 1) = R.fs.take k ++ [R.fs[k]] := List.take_succ_eq_append_getElem hFk
        have HST := Lib.hid hst
        have HMEM := Lib.hid (List.getElem_mem hFk)
        clear hc hFP h5 hst
        generalize R.fs[k] = F at *
        have HKF : Hid (keyF F = ((F.from_ : Int), (F.to_ : Int) - F.from_, true, F.pl)) := Lib.hid rfl
        generalize (F.from_ : Int) = x0 at *
        generalize (F.to_ : Int) - x0 = x2 at *
        generalize F.kind = x3 at *
        generalize hQ : F.pl = Q at *
        have HQ := Lib.hid hQ
        clear hQ
        have al := below_al wr (Obj.cells #[Value.int IntKind.i64 x0, Value.int IntKind.i64 x2, Value.int IntKind.i64 x3, Value.slice a5 (canon Q).length c5] 94)
        have hfn := heap_alloc_new wr (Obj.cells #[Value.int IntKind.i64 x0, Value.int IntKind.i64 x2, Value.int IntKind.i64 x3, Value.slice a5 (canon Q).length c5] 94)
        have hzf2 : (wr.alloc (Obj.cells #[Value.int IntKind.i64 x0, Value.int IntKind.i64 x2, Value.int IntKind.i64 x3, Value.slice a5 (canon Q).length c5] 94)).heap.size > wr.heap.size := by simp
        have hcl' : (canon Q).length ≤ 100000 := by have := canon_count Q; omega
        have HLD := Lib.hid (cload_of (x := x0) (y := x2) (k := x3) (c := c5) (own_rd (own_below hpp al)) hcl' (fun sp hsp => by have := canon_in (l := l) hF.1 sp hsp; unfold In40; omega) (by rw [ex_canon]; exact ⟨by omega, fun x hx => by have := hF.1 x hx; omega⟩))
        have e2 : (0 : Int) ≤ (k : Int) := by omega
        have e3 : (k : Int) < (n : Int) := by omega
        have hz0r : w.heap.size < wr.heap.size := by omega
        have HF := Lib.hid hF
        go_upto_region 7 with fail
        generalize wr.alloc (Obj.cells #[Value.int IntKind.i64 x0, Value.int IntKind.i64 x2, Value.int IntKind.i64 x3, Value.slice a5 (canon Q).length c5] 94) = w4 at *
        have q0 : w4.cell? ⟨wr.heap.size, 0, none⟩ = some (.int .i64 x0) := by rw [cell_at hfn]; rfl
        have q1 : w4.cell? ⟨wr.heap.size, 1, none⟩ = some (.int .i64 x2) := by rw [cell_at hfn]; rfl
        have q2 : w4.cell? ⟨wr.heap.size, 2, none⟩ = some (.int .i64 x3) := by rw [cell_at hfn]; rfl
        have q3 : w4.cell? ⟨wr.heap.size, 3, none⟩ = some (.slice a5 (canon Q).length c5) := by rw [cell_at hfn]; rfl
        have HB4 := Lib.hid (HB.out.trans (al.mono hzr))
        have HO4 := Lib.hid (own_below HO.out al)
        have HC4 := Lib.hid (HCE.out.below al)
        clear al hfn hpp hF p0 p1 p2 p3 HO HCE
        obtain ⟨L, hL⟩ : ∃ L, L = Ms ++ List.replicate (n - k) noneM := ⟨_, rfl⟩
        have hLl : L.length = n := by rw [hL, List.length_append, HMK.out, List.length_replicate]; omega
        have hkL : k < L.length := by omega
        rw [← hL] at HO4
        have HLL := Lib.hid hLl
        have HLE := Lib.hid hL
        have HKL := Lib.hid hkL
        clear hL hLl hkL
        go_wp2_with fail
        refine HLD.out.mono ?_; rintro e w5 ⟨a6, n6, c6, rfl, hx6, hb6⟩
        rw [ex_canon] at hx6
        have ho5 : w5.ownsRow w1.heap.size 98 4 (.slice (some ⟨w1.heap.size, 0, none⟩) L.length n) L.length (ceC L) := by rw [HLL.out]; exact own_below HO4.out hb6
        have hkL := HKL.out
        obtain ⟨cs5, hcs5⟩ := own_cellsAt ho5
        have zz := fun i => unfrozen hcs5 i
        have x0' := own_cells ho5 ((ceC_at L k L[k] 0 (List.getElem?_eq_getElem hkL) (by omega)).trans rfl)
        have x1' := own_cells ho5 ((ceC_at L k L[k] 1 (List.getElem?_eq_getElem hkL) (by omega)).trans rfl)
        have x2' := own_cells ho5 ((ceC_at L k L[k] 2 (List.getElem?_eq_getElem hkL) (by omega)).trans rfl)
        have x3' := own_cells ho5 ((ceC_at L k L[k] 3 (List.getElem?_eq_getElem hkL) (by omega)).trans rfl)
        rw [Nat.add_zero] at x0'
        obtain ⟨M, hM⟩ : ∃ M : CelM, M = ⟨a6, n6, c6, x0, x2, true, Q⟩ := ⟨_, rfl⟩
        obtain ⟨w6, hw6⟩ : ∃ w6, w6 = put4 w5 w1.heap.size (k * 4) (Value.slice a6 n6 c6) (Value.int .i64 x0) (Value.int .i64 x2) (Value.bool true) := ⟨_, rfl⟩
        have HO6 : Hid (w6.ownsRow w1.heap.size 98 4 (.slice (some ⟨w1.heap.size, 0, none⟩) (L.set k M).length n) (L.set k M).length (ceC (L.set k M))) := by
          have := put4_own (M := M) ho5 hkL
          rw [hM] at this
          rw [hw6, hM]; exact Lib.hid this
        have hset : ∀ (P : CelM), CeIn w5 0 l P → CeIn w6 0 l P := fun P hP => by
          rw [hw6]
          exact ⟨(((hP.tx.setT hcs5 (by decide)).setT (heap_set_at hcs5) (by decide)).setT (heap_set_at (heap_set_at hcs5)) (by decide)).setT (heap_set_at (heap_set_at (heap_set_at hcs5))) (by decide), hP.inl⟩
        have HM6 : Hid (CeIn w6 0 l M) := Lib.hid (hset M (by rw [hM]; exact ⟨hx6.mono (Nat.zero_le _), HF.out.1⟩))
        have HC6 : Hid (CesIn w6 0 l Ms) := Lib.hid (fun q hq => hset q ((HC4.out.below hb6) q hq))
        have HB6 : Hid (Below w1.heap.size w1 w6) := by rw [hw6]; exact Lib.hid (put4_below (HB4.out.trans (hb6.mono (by omega))) (Nat.le_refl _))
        have h60 := own_cells HO6.out ((ceC_at (L.set k M) k M 0 (by rw [List.getElem?_set_self hkL]) (by omega)).trans rfl)
        rw [Nat.add_zero, hM] at h60
        simp only at h60
        have HTx : Hid (Tx w6 (.slice a6 n6 c6) Q) := by have := HM6.out.tx; rw [hM] at this; exact Lib.hid this.tx
        have HLS : Hid (L.set k M = (Ms ++ [M]) ++ List.replicate (n - (k + 1)) noneM) := by
          show _ = _
          rw [HLE.out, List.set_append, if_neg (by rw [HMK.out]; omega), HMK.out, Nat.sub_self, show n - k = (n - (k + 1)) + 1 by omega, List.replicate_succ, List.set_cons_zero]
          simp
        have HKM : Hid (keyC M = keyF F) := by show _ = _; rw [hM, HKF.out]; rfl
        have hzw6 := HB6.out.size
        go_upto_region 8 with fail
        rw [show (((w5.setCell ⟨w1.heap.size, k * 4, none⟩ (Value.slice a6 n6 c6)).setCell ⟨w1.heap.size, k * 4 + 1, none⟩ (Value.int .i64 x0)).setCell ⟨w1.heap.size, k * 4 + 2, none⟩ (Value.int .i64 x2)).setCell ⟨w1.heap.size, k * 4 + 3, none⟩ (Value.bool true) = w6 from hw6.symm]
        clear hw6 hM ho5 hcs5 zz x0' x1' x2' x3' hx6 hb6 hset HO4 HC4 HB4 HLD q0 q1 q2 q3
        have HTL := Lib.hid (tlen_of HTx.out)
        generalize hql : Q.length = nq at *
        have HQL := Lib.hid hql
        clear hql
        have hh6 := (HB6.out.block (w.heap.size + 1) (by omega)).trans HH1.out
        have HH6 := Lib.hid hh6
        clear hh6
        go_wp2_with fail
        refine HTL.out.mono ?_; rintro e w7 ⟨rfl, hb7⟩
        have HO7 := Lib.hid (own_below HO6.out hb7)
        have HC7 := Lib.hid (HC6.out.below hb7)
        have HM7 := Lib.hid (HM6.out.below hb7)
        have HB7 := Lib.hid (HB6.out.trans (hb7.mono hzw6))
        have hh7 := (hb7.block (w.heap.size + 1) (by omega)).trans HH6.out
        have hzw7 := HB7.out.size
        have HH7 := Lib.hid hh7
        clear hb7 HO6 HC6 HM6 HB6 HTL HTx h60
        by_cases hbig : 400 < nq
        · have dq : decide ((400 : Int) < (nq : Int)) = true := decide_eq_true (by omega)
          have dq' : decide (400 < nq) = true := decide_eq_true hbig
          have zz := fun i => unfrozen hh7 i
          have r0 : w7.cell? ⟨w.heap.size + 1, 0, none⟩ = some (.slice none 0 0) := by rw [cell_at hh7]; rfl
          have r1 : w7.cell? ⟨w.heap.size + 1, 1, none⟩ = some (.int .i64 0) := by rw [cell_at hh7]; rfl
          have r2 : w7.cell? ⟨w.heap.size + 1, 2, none⟩ = some (.bool false) := by rw [cell_at hh7]; rfl
          clear hh7
          go_wp2_with fail
          have hs := set3_at HH7.out (.slice none 0 0) (.int .i64 0) (.bool false)
          have hB := set3_below (HB1.out.trans (HB7.out.mono (show w.heap.size ≤ w1.heap.size by omega))) (show w.heap.size ≤ w.heap.size + 1 by omega) (.slice none 0 0) (.int .i64 0) (.bool false)
          have q0 : (set3 w7 (w.heap.size + 1) (.slice none 0 0) (.int .i64 0) (.bool false)).cell? ⟨w.heap.size + 1, 0, none⟩ = some (.slice none 0 0) := by rw [cell_at hs]; rfl
          have q1 : (set3 w7 (w.heap.size + 1) (.slice none 0 0) (.int .i64 0) (.bool false)).cell? ⟨w.heap.size + 1, 1, none⟩ = some (.int .i64 0) := by rw [cell_at hs]; rfl
          have q2 : (set3 w7 (w.heap.size + 1) (.slice none 0 0) (.int .i64 0) (.bool false)).cell? ⟨w.heap.size + 1, 2, none⟩ = some (.bool false) := by rw [cell_at hs]; rfl
          unfold set3 at hB q0 q1 q2
          exact bodyPost_ret (v := .tuple #[rowV none 0 0 0 false, .int .i64 7]) (by simp [results, Try.results32, go_sem, q0, q1, q2]) rfl ⟨hB, .inr (.inl ⟨by rw [HNN.out]; omega, ⟨F, HMEM.out, by unfold longF; rw [HQ.out, HQL.out]; exact hbig⟩, rfl⟩)⟩
        · have dq : decide ((400 : Int) < (nq : Int)) = false := decide_eq_false (by omega)
          have dq' : decide (400 < nq) = false := decide_eq_false hbig
          clear hh7
          go_wp2_with fail
          go_roundw <;> first | exact ⟨k + 1, Ms ++ [M], rfl, by omega, by rw [List.length_append, HMK.out]; rfl, by rw [List.map_append, HKY.out, HST.out, List.map_append, List.map_singleton, List.map_singleton, HKM.out], (by intro f hf; rw [HST.out] at hf; exact (List.mem_append.mp hf).elim (fun h => HSH.out f h) (fun h => by rw [List.mem_singleton.mp h]; unfold longF; rw [HQ.out, HQL.out]; exact hbig)), (by have := HO7.out; rw [List.length_set, HLL.out, HLS.out] at this; exact this), (fun q hq => (List.mem_append.mp hq).elim (fun h => HC7.out q h) (fun h => by rw [List.mem_singleton.mp h]; exact HM7.out)), HB7.out⟩ | omega | (simp [intOf]; omega) | fail
      · have hkn : k = n := by omega
        subst hkn
        have dk : decide (k < k) = false := decide_eq_false (by omega)
        have hh6 := (HB.out.block (w.heap.size + 1) (by omega)).trans HH1.out
        have hp6 := (HB.out.block (w.heap.size) (by omega)).trans H0.out
        have HH6 := Lib.hid hh6
        have zz := fun i => unfrozen hh6 i
        have r0 : wr.cell? ⟨w.heap.size + 1, 0, none⟩ = some (.slice none 0 0) := by rw [cell_at hh6]; rfl
        have r1 : wr.cell? ⟨w.heap.size + 1, 1, none⟩ = some (.int .i64 0) := by rw [cell_at hh6]; rfl
        have r2 : wr.cell? ⟨w.heap.size + 1, 2, none⟩ = some (.bool false) := by rw [cell_at hh6]; rfl
        have k1 : wr.cell? ⟨w.heap.size, 1, none⟩ = some (.int .i64 R.fin) := by rw [cell_at hp6]; rfl
        clear hh6 hp6
        go_wp2_with fail
        have hown : wr.ownsRow w1.heap.size 98 4 (.slice (some ⟨w1.heap.size, 0, none⟩) Ms.length k) Ms.length (ceC Ms) := by
          have := HO.out; rw [Nat.sub_self, List.replicate_zero, List.append_nil] at this; rw [HMK.out]; exact this
        have hro := (own_ro hown HCE.out).set3 (u0 := .slice (some ⟨w1.heap.size, 0, none⟩) k k) (u1 := .int .i64 R.fin) (u2 := .bool false) HH6.out (by decide) (by decide)
        have hs := set3_at HH6.out (.slice (some ⟨w1.heap.size, 0, none⟩) k k) (.int .i64 R.fin) (.bool false)
        have hB := set3_below (HB1.out.trans (HB.out.mono (show w.heap.size ≤ w1.heap.size by omega))) (show w.heap.size ≤ w.heap.size + 1 by omega) (.slice (some ⟨w1.heap.size, 0, none⟩) k k) (.int .i64 R.fin) (.bool false)
        have q0 : (set3 wr (w.heap.size + 1) (.slice (some ⟨w1.heap.size, 0, none⟩) k k) (.int .i64 R.fin) (.bool false)).cell? ⟨w.heap.size + 1, 0, none⟩ = some (.slice (some ⟨w1.heap.size, 0, none⟩) k k) := by rw [cell_at hs]; rfl
        have q1 : (set3 wr (w.heap.size + 1) (.slice (some ⟨w1.heap.size, 0, none⟩) k k) (.int .i64 R.fin) (.bool false)).cell? ⟨w.heap.size + 1, 1, none⟩ = some (.int .i64 R.fin) := by rw [cell_at hs]; rfl
        have q2 : (set3 wr (w.heap.size + 1) (.slice (some ⟨w1.heap.size, 0, none⟩) k k) (.int .i64 R.fin) (.bool false)).cell? ⟨w.heap.size + 1, 2, none⟩ = some (.bool false) := by rw [cell_at hs]; rfl
        unfold set3 at hro hB q0 q1 q2
        exact bodyPost_ret (v := .tuple #[rowV (some ⟨w1.heap.size, 0, none⟩) k k R.fin false, .int .i64 0]) (by simp [results, Try.results32, go_sem, q0, q1, q2]) rfl ⟨hB, .inr (.inr ⟨by rw [HNN.out]; omega, (by intro f hf; exact HSH.out f (by rw [← HNN.out, List.take_length]; exact hf)), some ⟨w1.heap.size, 0, none⟩, k, Ms, (by rw [HMK.out]), (by rw [HKY.out, ← HNN.out, List.take_length]), hro, HMK.out, (fun h => by cases h)⟩)⟩

end Go.Proofs.Ytkgakgceamafcaa
