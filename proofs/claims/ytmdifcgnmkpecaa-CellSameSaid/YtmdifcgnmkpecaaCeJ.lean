/-
  The walk of CellSame, at this seat's numbers.
-/
import Derived.Test.YtmdifcgnmkpecaaCeI
namespace Go.Proofs.Ytmdifcgnmkpecaa
open Go Go.RowKit
set_option linter.unusedVariables false

/-- The head of the loop over rows. -/
def CsJ (n : Nat) (l : List UInt8) (w : World) (v9 v29 : Value) (wr : World) : Prop := ∃ (r : Nat) (ps : List CelM) (a : Option Addr) (c : Nat), v29 = .int .i64 r ∧ r ≤ n ∧ v9 = .slice a ps.length c ∧ ps.length ≤ r * 1000 ∧ wr.ownsRow w.heap.size 50 4 (.slice a ps.length c) ps.length (ceC ps) ∧ CesIn wr w.heap.size l ps ∧ Below w.heap.size w wr
/-- The head of the loop over fields. -/
def CtJ (n r : Nat) (B : Nat) (l : List UInt8) (w : World) (v9 v36 : Value) (wr : World) : Prop := ∃ (k : Nat) (ps : List CelM) (a : Option Addr) (c : Nat), v36 = .int .i64 k ∧ k ≤ n ∧ v9 = .slice a ps.length c ∧ ps.length ≤ r * 1000 + k ∧ wr.ownsRow B 50 4 (.slice a ps.length c) ps.length (ceC ps) ∧ CesIn wr B l ps ∧ Below B w wr

/-- The head of the loop over both. -/
def CuJ (l : List UInt8) (w : World) (v16 : Value) (wr : World) : Prop := ∃ (k : Nat) (P : Nat → CelM), v16 = .int .i64 k ∧ k ≤ 2 ∧
  wr.heap[w.heap.size]? = some (.cells (ceC1 (P 0) ++ ceC1 (P 1)).toArray 75 (0, 0)) ∧ wr.heap[w.heap.size + 1]? = some (.cells (plC l (P 0) ++ plC l (P 1)).toArray 76 (0, 0)) ∧
  CeIn w 0 l (P 0) ∧ CeIn w 0 l (P 1) ∧ Below w.heap.size w wr
def zeroM : CelM := ⟨none, 0, 0, 0, 0, false, []⟩
theorem zeroM_in (w : World) (l : List UInt8) : CeIn w 0 l zeroM := by
  have hc : canon zeroM.t = [] := by simp [zeroM, canon]
  refine ⟨⟨none, 0, by rw [hc]; rfl, by rw [hc]; exact ⟨rfl, fun hn => absurd hn (by simp)⟩, ⟨by simp [zeroM], fun x hx => by simp [zeroM] at hx⟩, (fun d hd => by simp at hd), fun _ => rfl, (fun d hd => by simp at hd)⟩, fun x hx => by simp [zeroM] at hx⟩
/-- One of two is another one. -/
def put2 (P : Nat → CelM) (k : Nat) (M : CelM) : Nat → CelM := fun j => if j = k then M else P j

theorem put2_two (P : Nat → CelM) (k : Nat) (M N : CelM) : put2 (put2 P k M) k N = put2 P k N := by
  funext j; unfold put2; split <;> rfl
theorem put2_in {Q : CelM → Prop} {P : Nat → CelM} {M : CelM} {k j : Nat} (hP : Q (P j)) (hM : Q M) : Q (put2 P k M j) := by
  unfold put2; split
  · exact hM
  · exact hP
/-- Four cells of a block are written; three. -/
def set4k (w : World) (b o : Nat) (u0 u1 u2 u3 : Value) : World := (((w.setCell ⟨b, o, none⟩ u0).setCell ⟨b, o + 1, none⟩ u1).setCell ⟨b, o + 2, none⟩ u2).setCell ⟨b, o + 3, none⟩ u3
def set3k (w : World) (b o : Nat) (u0 u1 u2 : Value) : World := ((w.setCell ⟨b, o, none⟩ u0).setCell ⟨b, o + 1, none⟩ u1).setCell ⟨b, o + 2, none⟩ u2
theorem set4k_at {w : World} {b k : Nat} {P : Nat → CelM} {T : TypeId} (hk : k < 2) (h : w.heap[b]? = some (.cells (ceC1 (P 0) ++ ceC1 (P 1)).toArray T (0, 0))) (M : CelM) :
    (set4k w b (k * 4) (.slice M.a M.n M.c) (.int .i64 M.x) (.int .i64 M.y) (.bool M.k)).heap[b]? = some (.cells (ceC1 (put2 P k M 0) ++ ceC1 (put2 P k M 1)).toArray T (0, 0)) := by
  unfold set4k
  rw [heap_set_at (heap_set_at (heap_set_at (heap_set_at h)))]
  rcases (show k = 0 ∨ k = 1 by omega) with rfl | rfl <;> rfl
theorem set3k_at {w : World} {b k : Nat} {P : Nat → CelM} {T : TypeId} {l : List UInt8} (hk : k < 2) (h : w.heap[b]? = some (.cells (plC l (P 0) ++ plC l (P 1)).toArray T (0, 0))) (M : CelM) :
    (set3k w b (k * 3) (.string (strOf (atL l M.t))) (.string (rawP l M)) (.bool M.k)).heap[b]? = some (.cells (plC l (put2 P k M 0) ++ plC l (put2 P k M 1)).toArray T (0, 0)) := by
  unfold set3k
  rw [heap_set_at (heap_set_at (heap_set_at h))]
  rcases (show k = 0 ∨ k = 1 by omega) with rfl | rfl <;> rfl
theorem set4k_below {B b o : Nat} {a w : World} {u0 u1 u2 u3 : Value} (h : Below B a w) (hb : B ≤ b) : Below B a (set4k w b o u0 u1 u2 u3) :=
  (((h.setCell (p := ⟨b, o, none⟩) hb _).setCell (p := ⟨b, o + 1, none⟩) hb _).setCell (p := ⟨b, o + 2, none⟩) hb _).setCell (p := ⟨b, o + 3, none⟩) hb _
theorem set3k_below {B b o : Nat} {a w : World} {u0 u1 u2 : Value} (h : Below B a w) (hb : B ≤ b) : Below B a (set3k w b o u0 u1 u2) :=
  ((h.setCell (p := ⟨b, o, none⟩) hb _).setCell (p := ⟨b, o + 1, none⟩) hb _).setCell (p := ⟨b, o + 2, none⟩) hb _
theorem set4k_other {w : World} {b o b' : Nat} {u0 u1 u2 u3 : Value} (hn : b' ≠ b) : (set4k w b o u0 u1 u2 u3).heap[b']? = w.heap[b']? := by
  unfold set4k
  rw [heap_set_other hn, heap_set_other hn, heap_set_other hn, heap_set_other hn]
theorem set3k_other {w : World} {b o b' : Nat} {u0 u1 u2 : Value} (hn : b' ≠ b) : (set3k w b o u0 u1 u2).heap[b']? = w.heap[b']? := by
  unfold set3k
  rw [heap_set_other hn, heap_set_other hn, heap_set_other hn]
theorem pair_cells {w : World} {b k : Nat} {P : Nat → CelM} {M : CelM} {T : TypeId} (hk : k < 2) (h : w.heap[b]? = some (.cells (ceC1 (put2 P k M 0) ++ ceC1 (put2 P k M 1)).toArray T (0, 0))) :
    w.cell? ⟨b, k * 4, none⟩ = some (.slice M.a M.n M.c) ∧ w.cell? ⟨b, k * 4 + 1, none⟩ = some (.int .i64 M.x) ∧ w.cell? ⟨b, k * 4 + 2, none⟩ = some (.int .i64 M.y) ∧ w.cell? ⟨b, k * 4 + 3, none⟩ = some (.bool M.k) := by
  rcases (show k = 0 ∨ k = 1 by omega) with rfl | rfl <;> exact ⟨by rw [cell_at h]; rfl, by rw [cell_at h]; rfl, by rw [cell_at h]; rfl, by rw [cell_at h]; rfl⟩
theorem plain_cells {w : World} {b k : Nat} {P : Nat → CelM} {T : TypeId} {l : List UInt8} (hk : k < 2) (h : w.heap[b]? = some (.cells (plC l (P 0) ++ plC l (P 1)).toArray T (0, 0))) :
    (∃ u, w.cell? ⟨b, k * 3, none⟩ = some u) ∧ (∃ u, w.cell? ⟨b, k * 3 + 1, none⟩ = some u) ∧ (∃ u, w.cell? ⟨b, k * 3 + 2, none⟩ = some u) := by
  rcases (show k = 0 ∨ k = 1 by omega) with rfl | rfl <;> exact ⟨⟨_, by rw [cell_at h]; rfl⟩, ⟨_, by rw [cell_at h]; rfl⟩, ⟨_, by rw [cell_at h]; rfl⟩⟩

set_option maxRecDepth 100000 in
set_option maxHeartbeats 8000000 in
theorem cellSame_walk (s : ByteArray) (x1 y1 : Int) (b0 b1 : Bool) (w : World) (hs : s.size ≤ maxLen) (hx1 : 0 ≤ x1 ∧ x1 ≤ 255) (hy1 : 0 ≤ y1 ∧ y1 ≤ 255) (_ : ML w) :
    Calls Try.prog 5 #[.string s, .agg #[.int .u8 x1, .int .u8 y1], .agg #[.bool b0, .bool b1]] w fun e w' => e = .returned (.bool true) ∧ Below w.heap.size w w' := by
  obtain ⟨i0, hi0, hz0, hz1, hz2⟩ := info_parts info_cell
  have HC := Lib.hid (fun w' => cut7_of s 300 w' hs (by decide))
  have hcl := cutS_le s 300
  clear hs
  generalize cutS s 300 = t at *
  obtain ⟨l, hl⟩ : ∃ l, t.data.toList = l := ⟨_, rfl⟩
  have hsz := sz_of hl
  rw [hsz] at hcl
  have HL := Lib.hid hl
  have HX := Lib.hid hx1
  have HY := Lib.hid hy1
  obtain ⟨w1, hw1⟩ : ∃ w1, w1 = allocs w [Obj.cells #[.int .u8 x1, .int .u8 y1] 72, Obj.cells #[.bool b0, .bool b1] 73] := ⟨_, rfl⟩
  have HB1 : Hid (Below w.heap.size w w1) := by rw [hw1]; exact Lib.hid (allocs_below _ w)
  have H4 : Hid (w1.heap[w.heap.size]? = some (.cells #[.int .u8 x1, .int .u8 y1] 72 (0, 0))) := by rw [hw1]; exact Lib.hid (allocs_at _ w 0 _ rfl)
  have H5 : Hid (w1.heap[w.heap.size + 1]? = some (.cells #[.bool b0, .bool b1] 73 (0, 0))) := by rw [hw1]; exact Lib.hid (allocs_at _ w 1 _ rfl)
  have hzw : w.heap.size + 1 < w1.heap.size := by rw [hw1, allocs_size]; simp
  clear hl hx1 hy1
  go_enter Try.func5, Try.ntmps5
  go_upto_region 1 with fail
  rw [show (w.alloc (Obj.cells #[.int .u8 x1, .int .u8 y1] 72)).alloc (Obj.cells #[.bool b0, .bool b1] 73) = w1 from hw1.symm]
  clear hw1
  go_wp2_with fail
  refine (HC.out _).mono ?_; rintro e wx ⟨rfl, rfl⟩
  obtain ⟨cap, W1, hcv, hH, hb1⟩ := held_of t w1 (by rw [hsz]; unfold maxLen; omega)
  have hrd : Rd W1 1 (some ⟨w1.heap.size, 0, none⟩) l.length (bc l) := by have := rd_held hH; rw [HL.out] at this; exact this
  have HN := Lib.hid (new_of _ cap hrd (by omega))
  have HB2 := Lib.hid (HB1.out.trans (hb1.mono HB1.out.size))
  have HB12 := Lib.hid hb1
  rw [hsz] at hcv
  clear hH hb1 HC hrd
  go_wp2_with fail
  refine HN.out.mono ?_; rintro e w2 ⟨p, rfl, hA, hb2⟩
  have HA := Lib.hid hA
  have HB3 := Lib.hid (HB12.out.trans (hb2.mono HB12.out.size))
  clear hA hb2 HN hcv HB12 HB2
  obtain ⟨cap, W2, hcv, hH, hb2⟩ := held_of t w2 (by rw [hsz]; unfold maxLen; omega)
  have hrd : Rd W2 1 (some ⟨w2.heap.size, 0, none⟩) l.length (bc l) := by have := rd_held hH; rw [HL.out] at this; exact this
  have HALL := Lib.hid (all_of (c := cap) hrd (by omega) (by rw [← hsz]; exact hH.fits) hH.cap)
  have HB4 := Lib.hid (HB3.out.trans (hb2.mono HB3.out.size))
  have HA2 := Lib.hid (HA.out.below hb2)
  rw [hsz] at hcv
  clear hH hb2 hrd HA HB3
  go_wp2_with fail
  refine HALL.out.mono ?_; rintro e w3 ⟨rs, a4, c4, rfl, hm, ho, hi, hb⟩
  have HB5 := Lib.hid (HB4.out.trans (hb.mono HB4.out.size))
  have HA3 := Lib.hid (HA2.out.below hb)
  have HM := Lib.hid hm
  have HO := Lib.hid ho
  have HI := Lib.hid hi
  have hrl : rs.length ≤ 300 := by
    have h1 := congrArg List.length hm
    have h2 := allP_cnt l _ 0 rfl
    rw [List.length_map] at h1
    omega
  clear hm ho hi hb HALL HB4 hcv HA2
  go_wp2_with fail
  go_loopw [9, 29] (fun v9 v29 wr => CsJ rs.length l w3 v9 v29 wr) (fun _ v29 _ => rs.length - (intOf v29).toNat)
  case atStart => exact ⟨0, [], none, 0, rfl, by omega, rfl, by simp, own_nil _ _ _ _, fun p hp => by simp at hp, Below.refl _ _⟩
  case round =>
    obtain ⟨wq, rfl⟩ : ∃ wq : World, wq = wr := ⟨_, rfl⟩
    obtain ⟨r, ps, a9, c9, rfl, hr, rfl, hpl, hop, hip, hb⟩ := hrel
    have HB := Lib.hid hb
    have HOP := Lib.hid hop
    have HIP := Lib.hid hip
    have hzr := hb.size
    clear hb hop hip
    by_cases hlt : r < rs.length
    · have dr : decide (r < rs.length) = true := decide_eq_true hlt
      rcases own_form HO.out with ⟨_, h0⟩ | ⟨g, rfl, _, hg⟩
      · omega
      have hmem : rs[r].1 ∈ allP l 0 := by rw [← HM.out]; exact List.mem_map.2 ⟨rs[r], List.getElem_mem hlt, rfl⟩
      have hrf := row_fields hmem
      have hri := HI.out rs[r] (List.getElem_mem hlt)
      have p0 := (HB.out.cell (p := ⟨g, r * 2 + 0, none⟩) hg).trans (own_cells HO.out ((rwC_at rs r rs[r] 0 (List.getElem?_eq_getElem hlt) (by omega)).trans rfl))
      have p1 := (HB.out.cell (p := ⟨g, r * 2 + 1, none⟩) hg).trans (own_cells HO.out ((rwC_at rs r rs[r] 1 (List.getElem?_eq_getElem hlt) (by omega)).trans rfl))
      rw [Nat.add_zero] at p0
      generalize hP : rs[r] = P at *
      clear hP
      obtain ⟨R, qs, pa, pc⟩ := P
      simp only at p0 p1 hrf hmem
      have hql : qs.length = R.fs.length := by rw [← hri.fs]; simp
      have hqn : qs.length ≤ 301 := by have := hrf.1; omega
      have HRI := Lib.hid hri
      have HRF := Lib.hid hrf
      have HQL := Lib.hid hql
      have e0 : (0 : Int) ≤ (r : Int) := by omega
      have e1 : (r : Int) < (rs.length : Int) := by omega
      have al := below_al wq (Obj.cells #[Value.slice pa qs.length pc, Value.int .i64 R.fin] 34)
      have HBr := Lib.hid al
      have hzf : (wq.alloc (Obj.cells #[Value.slice pa qs.length pc, Value.int .i64 R.fin] 34)).heap.size = wq.heap.size + 1 := by simp
      clear hri hrf hmem hql al
      go_wp2_with fail
      go_loopw [9, 36] (fun v9 v36 wr => CtJ qs.length r w3.heap.size l (wq.alloc (Obj.cells #[Value.slice pa qs.length pc, Value.int .i64 R.fin] 34)) v9 v36 wr) (fun _ v36 _ => qs.length - (intOf v36).toNat)
      case atStart => exact ⟨0, ps, a9, c9, rfl, by omega, rfl, by omega, own_below HOP.out HBr.out, HIP.out.below HBr.out, Below.refl _ _⟩
      case round =>
        obtain ⟨k, zs, az, cz, rfl, hk, rfl, hzl, hoz, hiz, hbi⟩ := hrel
        have HOZ := Lib.hid hoz
        have HIZ := Lib.hid hiz
        have HBi := Lib.hid hbi
        have hzi := hbi.size
        clear hoz hiz hbi
        by_cases hkl : k < qs.length
        · have dk : decide (k < qs.length) = true := decide_eq_true hkl
          rcases own_form HRI.out.own with ⟨_, h0⟩ | ⟨gf, hgf, _, hgf2⟩
          · simp only at h0; omega
          simp only at hgf
          subst hgf
          have hFk : k < R.fs.length := by rw [← HQL.out]; exact hkl
          have hFP : qs[k].1 = R.fs[k] := by
            have h := HRI.out.fs; simp only at h
            simp only [← h, List.getElem_map]
          have hF := HRF.out.2 _ (List.getElem_mem hFk)
          have hbb : Below w3.heap.size w3 wr := HB.out.trans ((HBr.out.mono hzr).trans HBi.out)
          have hpp := own_below (HRI.out.parts qs[k] (List.getElem_mem hkl)) hbb
          have hc := fun (o : Nat) (u : Value) (ho : o < 4) (hu : (fdC1 qs[k])[o]? = some u) => (hbb.cell (p := ⟨gf, k * 4 + o, none⟩) hgf2).trans (own_cells HRI.out.own ((fdC_at qs k qs[k] o (List.getElem?_eq_getElem hkl) ho).trans hu))
          have p0 := hc 0 _ (by omega) rfl
          have p1 := hc 1 _ (by omega) rfl
          have p2 := hc 2 _ (by omega) rfl
          have p3 := hc 3 _ (by omega) rfl
          rw [hFP] at p0 p1 p2 p3 hpp
          rw [Nat.add_zero] at p0
          obtain ⟨a5, c5, h5⟩ : ∃ a5 c5, qs[k].2 = (a5, c5) := ⟨_, _, rfl⟩
          rw [h5] at p3 hpp
          simp only at p3 hpp
          have HBB := Lib.hid hbb
          clear hc hFP h5 hbb
          generalize R.fs[k] = F at *
          generalize (F.from_ : Int) = x0 at *
          generalize (F.to_ : Int) - x0 = x2 at *
          generalize F.kind = x3 at *
          generalize hQ : F.pl = Q at *
          clear hQ
          have al := below_al wr (Obj.cells #[Value.int IntKind.i64 x0, Value.int IntKind.i64 x2, Value.int IntKind.i64 x3, Value.slice a5 (canon Q).length c5] 42)
          have hfn := heap_alloc_new wr (Obj.cells #[Value.int IntKind.i64 x0, Value.int IntKind.i64 x2, Value.int IntKind.i64 x3, Value.slice a5 (canon Q).length c5] 42)
          have hzf2 : (wr.alloc (Obj.cells #[Value.int IntKind.i64 x0, Value.int IntKind.i64 x2, Value.int IntKind.i64 x3, Value.slice a5 (canon Q).length c5] 42)).heap.size = wr.heap.size + 1 := by simp
          have hcl' : (canon Q).length ≤ 100000 := by have := canon_count Q; omega
          have HLD := Lib.hid (cload_of (x := x0) (y := x2) (k := x3) (c := c5) (own_rd (own_below hpp al)) hcl' (fun sp hsp => by have := canon_in (l := l) hF.1 sp hsp; unfold In40; omega) (by rw [ex_canon]; exact ⟨by omega, fun x hx => by have := hF.1 x hx; omega⟩))
          have HAl := Lib.hid al
          have e2 : (0 : Int) ≤ (k : Int) := by omega
          have e3 : (k : Int) < (qs.length : Int) := by omega
          have h00 : (wr.alloc (Obj.cells #[Value.int IntKind.i64 x0, Value.int IntKind.i64 x2, Value.int IntKind.i64 x3, Value.slice a5 (canon Q).length c5] 42)).cell? ⟨wr.heap.size, 0, none⟩ = some (.int .i64 x0) := by rw [cell_at hfn]; rfl
          have h01 : (wr.alloc (Obj.cells #[Value.int IntKind.i64 x0, Value.int IntKind.i64 x2, Value.int IntKind.i64 x3, Value.slice a5 (canon Q).length c5] 42)).cell? ⟨wr.heap.size, 1, none⟩ = some (.int .i64 x2) := by rw [cell_at hfn]; rfl
          have h02 : (wr.alloc (Obj.cells #[Value.int IntKind.i64 x0, Value.int IntKind.i64 x2, Value.int IntKind.i64 x3, Value.slice a5 (canon Q).length c5] 42)).cell? ⟨wr.heap.size, 2, none⟩ = some (.int .i64 x3) := by rw [cell_at hfn]; rfl
          have h03 : (wr.alloc (Obj.cells #[Value.int IntKind.i64 x0, Value.int IntKind.i64 x2, Value.int IntKind.i64 x3, Value.slice a5 (canon Q).length c5] 42)).cell? ⟨wr.heap.size, 3, none⟩ = some (.slice a5 (canon Q).length c5) := by rw [cell_at hfn]; rfl
          have HF := Lib.hid hF
          clear al hfn hpp hF
          go_wp2_with fail
          refine HLD.out.mono ?_; rintro e w5 ⟨a6, n6, c6, rfl, hx6, hb6⟩
          generalize hw4 : wr.alloc (Obj.cells #[Value.int IntKind.i64 x0, Value.int IntKind.i64 x2, Value.int IntKind.i64 x3, Value.slice a5 (canon Q).length c5] 42) = w4 at *
          clear hw4
          rw [ex_canon] at hx6
          have hz5 := hb6.size
          have HX6 := Lib.hid hx6
          have HAB := Lib.hid (HAl.out.trans (hb6.mono (by omega)))
          have HOr := Lib.hid (own_below HOZ.out HAB.out)
          have HIr := Lib.hid (HIZ.out.below HAB.out)
          have HBr2 := Lib.hid (HBi.out.trans (HAB.out.mono (by omega)))
          have hb6' : w3.heap.size ≤ w4.heap.size := by omega
          have HLN := Lib.hid (ceC_len zs)
          obtain ⟨M, hM⟩ : ∃ M : CelM, M = ⟨a6, n6, c6, x0, x2, true, Q⟩ := ⟨_, rfl⟩
          have hM1 : ceC1 M = [.slice a6 n6 c6, .int .i64 x0, .int .i64 x2, .bool true] := by rw [hM]; rfl
          have HMI : Hid (CeIn w5 w3.heap.size l M) := by rw [hM]; exact Lib.hid ⟨hx6.mono hb6', HF.out.1⟩
          clear hx6 hb6 HLD HM hM p0 p1 p2 p3 h00 h01 h02 h03
          go_wp2_with (first
            | (at_builtin; go_loud (refine wpList_append_own _ rfl (.tmp 40) (.tmp 43) 74 rfl w3.heap.size 50 i0 (.agg #[.slice none 0 0, .int .i64 0, .int .i64 0, .bool false]) 4 48 Try.underlying74 hi0 hz0 hz1 (by assumption) rfl (by decide) (.slice az zs.length cz) zs.length (ceC zs) rfl (HOr.out.alloc _) ⟨w5.heap.size, 0, none⟩ 1 1 (ceC1 M) rfl (by rw [hM1]; rfl) ?c1 ?c2 ?c3 ?c4 ?c5 ?_))
            | fail)
          case c1 =>
            intro j u hj
            rw [Addr.add_lit, Nat.zero_add]
            have hn := heap_alloc_new w5 (Obj.cells #[Value.slice a6 n6 c6, Value.int IntKind.i64 x0, Value.int IntKind.i64 x2, Value.bool true] 50)
            rw [cell_at hn]
            rw [hM1] at hj
            simpa using hj
          case c2 =>
            intro u hu
            rw [hM1] at hu
            simp only [List.mem_cons, List.not_mem_nil, or_false] at hu
            rcases hu with rfl | rfl | rfl | rfl <;> rfl
          case c3 => unfold maxLen; omega
          case c4 => omega
          case c5 => simp only [World.size_alloc]; omega
          intro v7 wB ho7 hg7 _
          obtain ⟨a8, c8, rfl⟩ := own_slice ho7
          have al := below_al w5 (Obj.cells #[Value.slice a6 n6 c6, Value.int IntKind.i64 x0, Value.int IntKind.i64 x2, Value.bool true] 50)
          have HOa := own_below HOr.out al
          have HIB := Lib.hid (((HIr.out.below al).grown HOa (by decide) hg7).snoc (p := M) ((HMI.out.below al).grown HOa (by decide) hg7))
          have HOB := Lib.hid ho7
          have HBB := Lib.hid ((HBr2.out.trans (al.mono (by omega))).grown hg7 (by simp only [World.size_alloc]; omega) (fun q hq => (HOa.lt q hq).1))
          clear ho7 hg7 al HOa
          go_wp2_with fail
          go_roundw
          case rel => exact ⟨k + 1, zs ++ [M], a8, c8, by simp, by omega, by simp, by simp; omega, by rw [ceC_snoc, hM1, List.length_append]; exact HOB.out, HIB.out, HBB.out⟩
          case measure => simp [intOf]; omega
        · have dk : decide (k < qs.length) = false := decide_eq_false hkl
          have hkq : k = qs.length := by omega
          go_wp2_with fail
          go_roundw
          case rel => exact ⟨r + 1, zs, az, cz, by simp, by omega, rfl, by omega, HOZ.out, HIZ.out, HB.out.trans ((HBr.out.mono hzr).trans HBi.out)⟩
          case measure => simp [intOf]; omega
    · have dr : decide (r < rs.length) = false := decide_eq_false hlt
      have hzn : ps.length ≤ 1000000 := by omega
      have HA4 := Lib.hid (HA3.out.below HB.out)
      have HB6 := Lib.hid (HB5.out.trans (HB.out.mono HB5.out.size))
      clear hpl hr hlt HA3 HI HM
      by_cases hne : ps = []
      · subst hne
        have HAw : Hid (∀ w' : World, Calls Try.prog 19 #[] w' fun e w2 => e = .returned (.bool true) ∧ Below w'.heap.size w' w2) := Lib.hid (fun w' => awake7_of w')
        go_wp2_with fail
        refine (HAw.out _).mono ?_; rintro e wz ⟨rfl, hbz⟩
        have HBZ := Lib.hid (HB1.out.trans ((HB6.out.trans (hbz.mono HB6.out.size)).mono (by omega)))
        clear hbz
        go_wp2_with fail
        go_ret
        exact ⟨rfl, HBZ.out⟩
      · have hpos : 0 < ps.length := List.length_pos_iff.2 hne
        have d0 : ((ps.length : Int) == 0) = false := by simp; omega
        go_upto_region 18 with fail
        have hc1 := (below_al wq (Obj.cells #[Value.slice none 0 0, Value.int IntKind.i64 0, Value.int IntKind.i64 0, Value.bool false, Value.slice none 0 0, Value.int IntKind.i64 0, Value.int IntKind.i64 0, Value.bool false] 75))
        have hc2 := hc1.trans ((below_al (wq.alloc (Obj.cells #[Value.slice none 0 0, Value.int IntKind.i64 0, Value.int IntKind.i64 0, Value.bool false, Value.slice none 0 0, Value.int IntKind.i64 0, Value.int IntKind.i64 0, Value.bool false] 75)) (Obj.cells #[Value.string ⟨#[]⟩, Value.string ⟨#[]⟩, Value.bool false, Value.string ⟨#[]⟩, Value.string ⟨#[]⟩, Value.bool false] 76)).mono hc1.size)
        have hh1 := heap_mid wq (Obj.cells #[Value.slice none 0 0, Value.int IntKind.i64 0, Value.int IntKind.i64 0, Value.bool false, Value.slice none 0 0, Value.int IntKind.i64 0, Value.int IntKind.i64 0, Value.bool false] 75) (Obj.cells #[Value.string ⟨#[]⟩, Value.string ⟨#[]⟩, Value.bool false, Value.string ⟨#[]⟩, Value.string ⟨#[]⟩, Value.bool false] 76)
        have hh2 := heap_alloc_new (wq.alloc (Obj.cells #[Value.slice none 0 0, Value.int IntKind.i64 0, Value.int IntKind.i64 0, Value.bool false, Value.slice none 0 0, Value.int IntKind.i64 0, Value.int IntKind.i64 0, Value.bool false] 75)) (Obj.cells #[Value.string ⟨#[]⟩, Value.string ⟨#[]⟩, Value.bool false, Value.string ⟨#[]⟩, Value.string ⟨#[]⟩, Value.bool false] 76)
        rw [World.size_alloc] at hh2
        generalize (wq.alloc (Obj.cells #[Value.slice none 0 0, Value.int IntKind.i64 0, Value.int IntKind.i64 0, Value.bool false, Value.slice none 0 0, Value.int IntKind.i64 0, Value.int IntKind.i64 0, Value.bool false] 75)).alloc (Obj.cells #[Value.string ⟨#[]⟩, Value.string ⟨#[]⟩, Value.bool false, Value.string ⟨#[]⟩, Value.string ⟨#[]⟩, Value.bool false] 76) = wl at *
        have HH1 := Lib.hid hh1
        have HH2 := Lib.hid hh2
        have HC2 := Lib.hid hc2
        clear hc1 hc2 hh1 hh2
        go_loopw [16] (fun v16 wr => CuJ l wq v16 wr) (fun v16 _ => 2 - (intOf v16).toNat)
        case atStart => exact ⟨0, fun _ => zeroM, rfl, by omega, HH1.out, HH2.out, zeroM_in _ _, zeroM_in _ _, HC2.out⟩
        case round =>
          obtain ⟨k, P, rfl, hk, hp1, hp2, hi1, hi2, hbl⟩ := hrel
          have HP1 := Lib.hid hp1
          have HP2 := Lib.hid hp2
          have HI1 := Lib.hid hi1
          have HI2 := Lib.hid hi2
          have HBL := Lib.hid hbl
          have hbs := hbl.size
          clear hp1 hp2 hi1 hi2 hbl HH1 HH2 HC2
          by_cases hk2 : k < 2
          · have dk : decide (k < 2) = true := decide_eq_true hk2
            have dk' : decide ((k : Int) < 2) = true := decide_eq_true (by omega)
            have e0 : (0 : Int) ≤ (k : Int) := by omega
            have e1 : (k : Int) < 2 := by omega
            have hbw : Below w1.heap.size w1 wr := HB6.out.trans (HBL.out.mono HB6.out.size)
            obtain ⟨z, hz, hz8⟩ : ∃ z : Nat, wr.cell? ⟨w.heap.size, k, none⟩ = some (.int .u8 (z : Int)) ∧ z ≤ 255 := by
              have hx := HX.out
              have hy := HY.out
              rcases (show k = 0 ∨ k = 1 by omega) with rfl | rfl
              · exact ⟨x1.toNat, by rw [cell_at ((hbw.block _ (by omega)).trans H4.out)]; simp; omega, by omega⟩
              · exact ⟨y1.toNat, by rw [cell_at ((hbw.block _ (by omega)).trans H4.out)]; simp; omega, by omega⟩
            obtain ⟨b, hbk⟩ : ∃ b : Bool, wr.cell? ⟨w.heap.size + 1, k, none⟩ = some (.bool b) := by
              rcases (show k = 0 ∨ k = 1 by omega) with rfl | rfl
              · exact ⟨b0, by rw [cell_at ((hbw.block _ (by omega)).trans H5.out)]; rfl⟩
              · exact ⟨b1, by rw [cell_at ((hbw.block _ (by omega)).trans H5.out)]; rfl⟩
            obtain ⟨m, hm, hml⟩ : ∃ m : Nat, ((z : Int) % (ps.length : Int)) = (m : Int) ∧ m < ps.length := ⟨z % ps.length, by simp, Nat.mod_lt _ hpos⟩
            have e2 : (0 : Int) ≤ (m : Int) := by omega
            have e3 : (m : Int) < (ps.length : Int) := by omega
            rcases own_form HOP.out with ⟨_, h0⟩ | ⟨g, rfl, _, hg⟩
            · omega
            have hld := fun (j : Nat) (u : Value) (hj : j < 4) (hu : (ceC1 ps[m])[j]? = some u) => (HBL.out.cell (p := ⟨g, m * 4 + j, none⟩) hg).trans (own_cells HOP.out ((ceC_at ps m ps[m] j (List.getElem?_eq_getElem hml) hj).trans hu))
            have l0 := hld 0 _ (by omega) rfl
            have l1 := hld 1 _ (by omega) rfl
            have l2 := hld 2 _ (by omega) rfl
            have l3 := hld 3 _ (by omega) rfl
            rw [Nat.add_zero] at l0
            have HMi := Lib.hid ((HIP.out ps[m] (List.getElem_mem hml)).mono (Nat.zero_le _))
            generalize ps[m] = M at *
            obtain ⟨o0, q0⟩ : ∃ u, wr.cell? ⟨wq.heap.size, k * 4, none⟩ = some u := by
              rcases (show k = 0 ∨ k = 1 by omega) with rfl | rfl <;> exact ⟨_, by rw [cell_at HP1.out]; rfl⟩
            obtain ⟨o1, q1⟩ : ∃ u, wr.cell? ⟨wq.heap.size, k * 4 + 1, none⟩ = some u := by
              rcases (show k = 0 ∨ k = 1 by omega) with rfl | rfl <;> exact ⟨_, by rw [cell_at HP1.out]; rfl⟩
            obtain ⟨o2, q2⟩ : ∃ u, wr.cell? ⟨wq.heap.size, k * 4 + 2, none⟩ = some u := by
              rcases (show k = 0 ∨ k = 1 by omega) with rfl | rfl <;> exact ⟨_, by rw [cell_at HP1.out]; rfl⟩
            obtain ⟨o3, q3⟩ : ∃ u, wr.cell? ⟨wq.heap.size, k * 4 + 3, none⟩ = some u := by
              rcases (show k = 0 ∨ k = 1 by omega) with rfl | rfl <;> exact ⟨_, by rw [cell_at HP1.out]; rfl⟩
            have zz := fun i => unfrozen HP1.out i
            clear hbw hld
            go_upto_region 21 with fail
            obtain ⟨w5, hw5⟩ : ∃ w5, w5 = set4k wr wq.heap.size (k * 4) (Value.slice M.a M.n M.c) (Value.int IntKind.i64 M.x) (Value.int IntKind.i64 M.y) (Value.bool M.k) := ⟨_, rfl⟩
            have HS1 : Hid (w5.heap[wq.heap.size]? = some (.cells (ceC1 (put2 P k M 0) ++ ceC1 (put2 P k M 1)).toArray 75 (0, 0))) := by rw [hw5]; exact Lib.hid (set4k_at hk2 HP1.out M)
            have HS2 : Hid (w5.heap[wq.heap.size + 1]? = some (.cells (plC l (P 0) ++ plC l (P 1)).toArray 76 (0, 0))) := by rw [hw5, set4k_other (by omega)]; exact HP2
            have HSB : Hid (Below wq.heap.size wq w5) := by rw [hw5]; exact Lib.hid (set4k_below HBL.out (Nat.le_refl _))
            have hbk5 : w5.cell? ⟨w.heap.size + 1, k, none⟩ = some (.bool b) := by
              rw [World.cell?_of_block (w := wr) (w' := w5) (a := ⟨w.heap.size + 1, k, none⟩) (by rw [hw5]; exact set4k_other (show w.heap.size + 1 ≠ wq.heap.size by have := HB6.out.size; omega))]; exact hbk
            rw [show (((wr.setCell ⟨wq.heap.size, k * 4, none⟩ (Value.slice M.a M.n M.c)).setCell ⟨wq.heap.size, k * 4 + 1, none⟩ (Value.int IntKind.i64 M.x)).setCell ⟨wq.heap.size, k * 4 + 2, none⟩ (Value.int IntKind.i64 M.y)).setCell ⟨wq.heap.size, k * 4 + 3, none⟩ (Value.bool M.k) = w5 from hw5.symm]
            clear hw5 l0 l1 l2 l3 q0 q1 q2 q3 zz hbk hz
            obtain ⟨k0, k1, k2, k3⟩ := pair_cells hk2 HS1.out
            have hz5 := HSB.out.size
            cases b with
            | false =>
              go_upto_region 23 with fail
              have HPl := Lib.hid (cplain_of (HA4.out.below HSB.out) (by omega) (HMi.out.below HSB.out))
              obtain ⟨⟨o0, q0⟩, ⟨o1, q1⟩, ⟨o2, q2⟩⟩ := plain_cells hk2 HS2.out
              clear HP1 HP2 HBL q0 q1 q2
              go_wp2_with fail
              refine HPl.out.mono ?_; rintro e w6 ⟨rfl, hb6⟩
              have hs1 := (hb6.block _ (lt_of_heap HS1.out)).trans HS1.out
              have hs2 := (hb6.block _ (lt_of_heap HS2.out)).trans HS2.out
              obtain ⟨⟨o0, q0⟩, ⟨o1, q1⟩, ⟨o2, q2⟩⟩ := plain_cells hk2 hs2
              have zz := fun i => unfrozen hs2 i
              have HF1 := Lib.hid ((set3k_other (o := k * 3) (u0 := .string (strOf (atL l M.t))) (u1 := .string (rawP l M)) (u2 := .bool M.k) (show wq.heap.size ≠ wq.heap.size + 1 by omega)).trans hs1)
              have HF2 := Lib.hid (set3k_at hk2 hs2 M)
              have HFB := Lib.hid (set3k_below (u0 := .string (strOf (atL l M.t))) (u1 := .string (rawP l M)) (u2 := .bool M.k) (o := k * 3) (HSB.out.trans (hb6.mono hz5)) (show wq.heap.size ≤ wq.heap.size + 1 by omega))
              clear hb6 hs1 hs2 HPl k0 k1 k2 k3 hbk5
              generalize strOf (atL l M.t) = f0 at *
              generalize rawP l M = f1 at *
              go_wp2_with fail
              go_roundw
              case rel => exact ⟨k + 1, put2 P k M, by simp, by omega, HF1.out, HF2.out, put2_in HI1.out HMi.out, put2_in HI2.out HMi.out, HFB.out⟩
              case measure => simp [intOf]; omega
            | true =>
              have HO := Lib.hid (ceof_of (w := w5) M.a M.n M.c)
              go_wp2_with fail
              refine HO.out.mono ?_; rintro e w7 ⟨rfl, hb7⟩
              have ht1 := (hb7.block _ (lt_of_heap HS1.out)).trans HS1.out
              have ht2 := (hb7.block _ (lt_of_heap HS2.out)).trans HS2.out
              obtain ⟨t0, t1, t2, t3⟩ := pair_cells hk2 ht1
              have zz := fun i => unfrozen ht1 i
              obtain ⟨N, hN⟩ : ∃ N : CelM, N = ⟨M.a, M.n, M.c, 0, 0, false, M.t⟩ := ⟨_, rfl⟩
              obtain ⟨w8, hw8⟩ : ∃ w8, w8 = set4k w7 wq.heap.size (k * 4) (Value.slice M.a M.n M.c) (Value.int IntKind.i64 0) (Value.int IntKind.i64 0) (Value.bool false) := ⟨_, rfl⟩
              have HT1 : Hid (w8.heap[wq.heap.size]? = some (.cells (ceC1 (put2 P k N 0) ++ ceC1 (put2 P k N 1)).toArray 75 (0, 0))) := by rw [← put2_two P k M N, hw8, hN]; exact Lib.hid (set4k_at hk2 ht1 ⟨M.a, M.n, M.c, 0, 0, false, M.t⟩)
              have HT2 : Hid (w8.heap[wq.heap.size + 1]? = some (.cells (plC l (P 0) ++ plC l (P 1)).toArray 76 (0, 0))) := by rw [hw8]; exact Lib.hid ((set4k_other (by omega)).trans ht2)
              have HTB : Hid (Below wq.heap.size wq w8) := by rw [hw8]; exact Lib.hid (set4k_below (HSB.out.trans (hb7.mono hz5)) (Nat.le_refl _))
              have HNi : Hid (CeIn wq 0 l N) := by rw [hN]; exact Lib.hid ⟨HMi.out.tx, HMi.out.inl⟩
              have hz8 := HTB.out.size
              go_upto_region 23 with fail
              rw [show (((w7.setCell ⟨wq.heap.size, k * 4, none⟩ (Value.slice M.a M.n M.c)).setCell ⟨wq.heap.size, k * 4 + 1, none⟩ (Value.int IntKind.i64 0)).setCell ⟨wq.heap.size, k * 4 + 2, none⟩ (Value.int IntKind.i64 0)).setCell ⟨wq.heap.size, k * 4 + 3, none⟩ (Value.bool false) = w8 from hw8.symm]
              clear hw8 hN t0 t1 t2 t3 ht1 ht2 zz hb7 HO k0 k1 k2 k3 hbk5
              obtain ⟨k0, k1, k2, k3⟩ := pair_cells hk2 HT1.out
              have HPl := Lib.hid (cplain_of (HA4.out.below HTB.out) (by omega) (HNi.out.below HTB.out))
              obtain ⟨⟨o0, q0⟩, ⟨o1, q1⟩, ⟨o2, q2⟩⟩ := plain_cells hk2 HT2.out
              clear HP1 HP2 HBL q0 q1 q2
              go_wp2_with fail
              refine HPl.out.mono ?_; rintro e w6 ⟨rfl, hb6⟩
              have hs1 := (hb6.block _ (lt_of_heap HT1.out)).trans HT1.out
              have hs2 := (hb6.block _ (lt_of_heap HT2.out)).trans HT2.out
              obtain ⟨⟨o0, q0⟩, ⟨o1, q1⟩, ⟨o2, q2⟩⟩ := plain_cells hk2 hs2
              have zz := fun i => unfrozen hs2 i
              have HF1 := Lib.hid ((set3k_other (o := k * 3) (u0 := .string (strOf (atL l N.t))) (u1 := .string (rawP l N)) (u2 := .bool N.k) (show wq.heap.size ≠ wq.heap.size + 1 by omega)).trans hs1)
              have HF2 := Lib.hid (set3k_at hk2 hs2 N)
              have HFB := Lib.hid (set3k_below (u0 := .string (strOf (atL l N.t))) (u1 := .string (rawP l N)) (u2 := .bool N.k) (o := k * 3) (HTB.out.trans (hb6.mono hz8)) (show wq.heap.size ≤ wq.heap.size + 1 by omega))
              clear hb6 hs1 hs2 HPl k0 k1 k2 k3
              generalize strOf (atL l N.t) = f0 at *
              generalize rawP l N = f1 at *
              go_wp2_with fail
              go_roundw
              case rel => exact ⟨k + 1, put2 P k N, by simp, by omega, HF1.out, HF2.out, put2_in HI1.out HNi.out, put2_in HI2.out HNi.out, HFB.out⟩
              case measure => simp [intOf]; omega
          · have hk3 : k = 2 := by omega
            have dk : decide (k < 2) = false := decide_eq_false hk2
            have dk' : decide ((k : Int) < 2) = false := decide_eq_false (by omega)
            have HJ1 := Lib.hid (HI1.out.below HBL.out)
            have HJ2 := Lib.hid (HI2.out.below HBL.out)
            have HAr := Lib.hid (HA4.out.below HBL.out)
            have hlt1 := lt_of_heap HP1.out
            have hlt2 := lt_of_heap HP2.out
            have HBZ := Lib.hid (HB6.out.trans (HBL.out.mono HB6.out.size))
            have hp1 := HP1.out
            have hp2 := HP2.out
            clear HP1 HP2 HI1 HI2 HBL HOP HIP HA4 HB6
            generalize P 0 = A at *
            generalize P 1 = B at *
            have ld0 := fun w' (h : Below wr.heap.size wr w') => (h.cell (p := ⟨wq.heap.size, 0, none⟩) hlt1).trans (show wr.cell? ⟨wq.heap.size, 0, none⟩ = some (.slice A.a A.n A.c) by rw [cell_at hp1]; rfl)
            have ld1 := fun w' (h : Below wr.heap.size wr w') => (h.cell (p := ⟨wq.heap.size, 1, none⟩) hlt1).trans (show wr.cell? ⟨wq.heap.size, 1, none⟩ = some (.int .i64 A.x) by rw [cell_at hp1]; rfl)
            have ld2 := fun w' (h : Below wr.heap.size wr w') => (h.cell (p := ⟨wq.heap.size, 2, none⟩) hlt1).trans (show wr.cell? ⟨wq.heap.size, 2, none⟩ = some (.int .i64 A.y) by rw [cell_at hp1]; rfl)
            have ld3 := fun w' (h : Below wr.heap.size wr w') => (h.cell (p := ⟨wq.heap.size, 3, none⟩) hlt1).trans (show wr.cell? ⟨wq.heap.size, 3, none⟩ = some (.bool A.k) by rw [cell_at hp1]; rfl)
            have ld4 := fun w' (h : Below wr.heap.size wr w') => (h.cell (p := ⟨wq.heap.size, 4, none⟩) hlt1).trans (show wr.cell? ⟨wq.heap.size, 4, none⟩ = some (.slice B.a B.n B.c) by rw [cell_at hp1]; rfl)
            have ld5 := fun w' (h : Below wr.heap.size wr w') => (h.cell (p := ⟨wq.heap.size, 5, none⟩) hlt1).trans (show wr.cell? ⟨wq.heap.size, 5, none⟩ = some (.int .i64 B.x) by rw [cell_at hp1]; rfl)
            have ld6 := fun w' (h : Below wr.heap.size wr w') => (h.cell (p := ⟨wq.heap.size, 6, none⟩) hlt1).trans (show wr.cell? ⟨wq.heap.size, 6, none⟩ = some (.int .i64 B.y) by rw [cell_at hp1]; rfl)
            have ld7 := fun w' (h : Below wr.heap.size wr w') => (h.cell (p := ⟨wq.heap.size, 7, none⟩) hlt1).trans (show wr.cell? ⟨wq.heap.size, 7, none⟩ = some (.bool B.k) by rw [cell_at hp1]; rfl)
            have ldA := fun w' (h : Below wr.heap.size wr w') => (h.cell (p := ⟨wq.heap.size + 1, 0, none⟩) hlt2).trans (show wr.cell? ⟨wq.heap.size + 1, 0, none⟩ = some (.string (strOf (atL l A.t))) by rw [cell_at hp2]; rfl)
            have ldB := fun w' (h : Below wr.heap.size wr w') => (h.cell (p := ⟨wq.heap.size + 1, 1, none⟩) hlt2).trans (show wr.cell? ⟨wq.heap.size + 1, 1, none⟩ = some (.string (rawP l A)) by rw [cell_at hp2]; rfl)
            have ldC := fun w' (h : Below wr.heap.size wr w') => (h.cell (p := ⟨wq.heap.size + 1, 2, none⟩) hlt2).trans (show wr.cell? ⟨wq.heap.size + 1, 2, none⟩ = some (.bool A.k) by rw [cell_at hp2]; rfl)
            have ldD := fun w' (h : Below wr.heap.size wr w') => (h.cell (p := ⟨wq.heap.size + 1, 3, none⟩) hlt2).trans (show wr.cell? ⟨wq.heap.size + 1, 3, none⟩ = some (.string (strOf (atL l B.t))) by rw [cell_at hp2]; rfl)
            have ldE := fun w' (h : Below wr.heap.size wr w') => (h.cell (p := ⟨wq.heap.size + 1, 4, none⟩) hlt2).trans (show wr.cell? ⟨wq.heap.size + 1, 4, none⟩ = some (.string (rawP l B)) by rw [cell_at hp2]; rfl)
            have ldF := fun w' (h : Below wr.heap.size wr w') => (h.cell (p := ⟨wq.heap.size + 1, 5, none⟩) hlt2).trans (show wr.cell? ⟨wq.heap.size + 1, 5, none⟩ = some (.bool B.k) by rw [cell_at hp2]; rfl)
            have hb0 : Below wr.heap.size wr wr.drew := (Below.refl _ _).drew
            have HS1 := Lib.hid (fun w' (h : Below wr.heap.size wr w') => csame_of (HAr.out.below h) (by omega) (HJ1.out.below h) (HJ2.out.below h))
            have HS2 := Lib.hid (fun w' (h : Below wr.heap.size wr w') => csame_of (HAr.out.below h) (by omega) (HJ1.out.below h) (HJ1.out.below h))
            have HAw : Hid (∀ w' : World, Calls Try.prog 19 #[] w' fun e w2 => e = .returned (.bool true) ∧ Below w'.heap.size w' w2) := Lib.hid (fun w' => awake7_of w')
            rw [sameP_self] at HS2
            clear hp1 hp2
            clear HJ1 HJ2 HAr
            generalize hq : sameP l A B = q at *
            unfold sameP at hq
            generalize strOf (atL l A.t) = f0 at *
            generalize strOf (atL l B.t) = f1 at *
            generalize rawP l A = r0 at *
            generalize rawP l B = r1 at *
            have heq := fun w' => eq_plain w' f0 r0 f1 r1 A.k B.k
            rw [hq] at heq
            have hqq : (q == q) = true := beq_self_eq_true q
            clear hq
            go_upto_region 24 with fail
            go_region_held3 (fun w' => Below wr.heap.size wr w')
              (first | assumption)
              ((first
                | (go_at_call 29; have y := hsa; clear y; refine (HS2.out wa hsa).mono ?_; rintro e wb ⟨rfl, hbb⟩; have hsb := hsa.trans (hbb.mono hsa.size); clear hbb)
                | (go_at_call 29; refine (HS1.out _ hb0).mono ?_; rintro e wa ⟨rfl, hba⟩; have hsa := hb0.trans (hba.mono hb0.size); clear hba)
                | (go_at_call 19; refine (HAw.out wb).mono ?_; rintro e wd ⟨rfl, hbd⟩; have hsd := hsb.trans (hbd.mono hsb.size); clear hbd)))
            all_goals
              go_wp2_with fail
              go_ret
              exact ⟨rfl, HB1.out.trans ((HBZ.out.trans (hsd.mono HBZ.out.size)).mono HB1.out.size)⟩

end Go.Proofs.Ytmdifcgnmkpecaa
