/-
  The walk of the statement PieceOf, at this seat's numbers.
-/
import Derived.Test.YtelnehjmkjpjhaaPcQ
namespace Go.Proofs.Ytelnehjmkjpjhaa
open Go Go.RowKit
set_option linter.unusedVariables false

theorem like_ch {W w : World} {v : Value} {t : List Int} {a : Option Addr} {c : Nat} (h : Tx w v t) (hr : Rd w 1 a t.length (inC t)) (hW : Below W.heap.size W w) :
    Calls Try.prog 18 #[.agg #[v], .slice a t.length c] w fun e w' => e = .returned (.bool true) ∧ Below W.heap.size W w' :=
  (like_of h hr).mono fun e w' ⟨he, hb⟩ => ⟨he, hW.trans (hb.mono hW.size)⟩
theorem rof_ch {W w : World} {a : Option Addr} {c : Nat} {L : List Sp} {t : List Int} {m : Nat} (k : Nat) (hr : Rd W 2 a m (spC (fewK L k))) (hm : (fewK L k).length = m) (ht : ex (fewK L k) = t) (hW : Below W.heap.size W w) :
    Calls Try.prog 19 #[.slice a m c] w fun e w' => ∃ a' c', e = .returned (.slice a' t.length c') ∧ Rd w' 1 a' t.length (inC t) ∧ Below W.heap.size W w' ∧ Below w.heap.size w w' := by
  subst hm ht
  have h1 := fewK_len L k
  have h2 := sm_few L k
  refine (rof_of (c := c) (hr.below hW) (by omega) fewK_mem (by omega)).mono ?_
  rintro e w' ⟨a', c', rfl, ho, hb⟩
  exact ⟨a', c', rfl, own_rd ho, hW.trans (hb.mono hW.size), hb⟩
theorem spans4_ch {W w : World} {a : Option Addr} {c : Nat} {t : List Int} (hr : Rd w 1 a t.length (inC t)) (hs : Sm t) (hW : Below W.heap.size W w) :
    Calls Try.prog 22 #[.slice a t.length c] w fun e w' => ∃ a' c', e = .returned (.slice a' (canon t).length c') ∧ Rd w' 2 a' (canon t).length (spC (canon t)) ∧ Below W.heap.size W w' ∧ Below w.heap.size w w' := by
  refine (spans4_of (c := c) hr (by have := hs.1; omega) (fun x hx => by have := hs.2 x hx; omega)).mono ?_
  rintro e w' ⟨a', c', rfl, ho, hb⟩
  exact ⟨a', c', rfl, own_rd ho, hW.trans (hb.mono hW.size), hb⟩
theorem rsame_ch {W w : World} {a b : Option Addr} {c d : Nat} {t u : List Int} {B : Bool} (hB : decide (t = u) = B) (hr : Rd w 2 a (canon t).length (spC (canon t))) (hr2 : Rd w 2 b (canon u).length (spC (canon u))) (hs : Sm t) (hs2 : Sm u) (hW : Below W.heap.size W w) :
    Calls Try.prog 21 #[.slice a (canon t).length c, .slice b (canon u).length d] w fun e w' => e = .returned (.bool B) ∧ Below W.heap.size W w' := by
  have h1 := canon_count t
  have h2 := canon_count u
  have h3 := hs.1
  have h4 := hs2.1
  refine (rsame_of (c := c) (d := d) hr hr2 (by omega) (by omega)).mono ?_
  rintro e w' ⟨rfl, hb⟩
  exact ⟨by rw [canon_eq, hB], hW.trans (hb.mono hW.size)⟩
theorem psame_ch {W w : World} {v x : Value} {t u : List Int} {B : Bool} (hB : decide (t = u) = B) (h : Tx w v t) (hx : Tx w x u) (hW : Below W.heap.size W w) :
    Calls Try.prog 20 #[.agg #[v], .agg #[x]] w fun e w' => e = .returned (.bool B) ∧ Below W.heap.size W w' := by
  subst hB
  exact (psame_of h hx).mono fun e w' ⟨he, hb⟩ => ⟨he, hW.trans (hb.mono hW.size)⟩

set_option maxRecDepth 100000 in
set_option maxHeartbeats 8000000 in
theorem pieceOf_walk (a1 : Option Addr) (c1 : Nat) (L1 : List (Int × Int)) (a2 : Option Addr) (c2 : Nat) (L2 : List (Int × Int)) (w : World) (h1 : SpArg w a1 c1 L1) (h2 : SpArg w a2 c2 L2) :
    Calls Try.prog 3 #[.slice a1 L1.length c1, .slice a2 L2.length c2] w fun e w' => e = .returned (.bool true) ∧ Below w.heap.size w w' := by
  have HF1 := Lib.hid (few_of (c := c1) h1.rd h1.len)
  have HF2 := Lib.hid (fun w' (hb : Below w.heap.size w w') => few_of (c := c2) (h2.rd.below hb) h2.len)
  have hs1 := Lib.hid (sm_few L1 L1.length).1
  have hs2 := Lib.hid (sm_few L2 L2.length).1
  clear h1 h2
  go_enter Try.func3, Try.ntmps3
  go_wp2_with fail
  refine HF1.out.mono ?_; rintro e w1 ⟨v1, x1, rfl, ho1, hp1, hb1⟩
  obtain ⟨b1, d1, rfl⟩ := own_slice ho1
  obtain ⟨f1, g1, rfl⟩ := own_slice hp1
  have HO1 := Lib.hid ho1
  have HP1 := Lib.hid hp1
  have HB1 := Lib.hid hb1
  clear ho1 hb1 HF1 hp1
  go_wp2_with fail
  refine (HF2.out _ HB1.out).mono ?_; rintro e w2 ⟨v2, x2, rfl, ho2, hp2, hb2⟩
  obtain ⟨b2, d2, rfl⟩ := own_slice ho2
  obtain ⟨f2, g2, rfl⟩ := own_slice hp2
  have HOF1 := Lib.hid (of_few (c := d1) (own_below HO1.out hb2))
  have HOF2 := Lib.hid (fun w' (hb : Below w2.heap.size w2 w') => of_few (c := d2) (own_below ho2 hb))
  have HB2 := Lib.hid (HB1.out.trans (hb2.mono HB1.out.size))
  have HX1 := Lib.hid ((own_rd HP1.out).below hb2)
  have HX2 := Lib.hid (own_rd hp2)
  clear ho2 hb2 HF2 HO1 HB1 HP1 hp2
  generalize hm1 : (fewK L1 L1.length).length = m1 at *
  generalize hm2 : (fewK L2 L2.length).length = m2 at *
  generalize ht : ex (fewK L1 L1.length) = t at *
  generalize hu : ex (fewK L2 L2.length) = u at *
  have HM1 := Lib.hid hm1
  have HM2 := Lib.hid hm2
  have HT0 := Lib.hid ht
  have HU0 := Lib.hid hu
  clear hm1 hm2 ht hu
  go_wp2_with fail
  refine HOF1.out.mono ?_; rintro e w3 ⟨a3, n3, c3, rfl, hx3, hb3⟩
  have HX3 := Lib.hid hx3.tx
  have HB3 := Lib.hid hb3
  clear hx3 hb3 HOF1
  go_upto_region 4 with (go_at_call 17; refine (HOF2.out _ HB3.out).mono ?_; rintro e w4 ⟨a4, n4, c4, rfl, hx4, hb4⟩)
  have HX4 := Lib.hid hx4.tx
  have HX3b := Lib.hid (HX3.out.below hb4)
  have HB34 := Lib.hid (HB3.out.trans (hb4.mono HB3.out.size))
  clear hx4 hb4 HOF2 HX3 HB3
  obtain ⟨w9, hw9⟩ : ∃ w9, w9 = allocs w4 [Obj.cells #[Value.slice a3 n3 c3] 27, Obj.cells #[Value.slice a4 n4 c4] 27] := ⟨_, rfl⟩
  have hz9 : w9.heap.size = w4.heap.size + 2 := by rw [hw9]; exact allocs_size _ w4
  have HB9 : Hid (Below w4.heap.size w4 w9) := by rw [hw9]; exact Lib.hid (allocs_below _ w4)
  have k0 : w9.cell? ⟨w4.heap.size, 0, none⟩ = some (.slice a3 n3 c3) := by rw [cell_at (show w9.heap[w4.heap.size]? = some (.cells #[Value.slice a3 n3 c3] 27 (0, 0)) by rw [hw9]; exact allocs_at _ w4 0 _ rfl)]; rfl
  have k1 : w9.cell? ⟨w4.heap.size + 1, 0, none⟩ = some (.slice a4 n4 c4) := by rw [cell_at (show w9.heap[w4.heap.size + 1]? = some (.cells #[Value.slice a4 n4 c4] 27 (0, 0)) by rw [hw9]; exact allocs_at _ w4 1 _ rfl)]; rfl
  rw [show (w4.alloc (Obj.cells #[Value.slice a3 n3 c3] 27)).alloc (Obj.cells #[Value.slice a4 n4 c4] 27) = w9 from hw9.symm]
  clear hw9
  have HB29 := Lib.hid (HB34.out.trans (HB9.out.mono HB34.out.size))
  have HBF := Lib.hid (HB2.out.trans (HB29.out.mono HB2.out.size))
  have HT := Lib.hid (fun w' (h : Below w9.heap.size w9 w') => (HX3b.out.below HB9.out).below h)
  have HU := Lib.hid (fun w' (h : Below w9.heap.size w9 w') => (HX4.out.below HB9.out).below h)
  have ld0 := fun w' (h : Below w9.heap.size w9 w') => (h.cell (p := ⟨w4.heap.size, 0, none⟩) (by show w4.heap.size < _; omega)).trans k0
  have ld1 := fun w' (h : Below w9.heap.size w9 w') => (h.cell (p := ⟨w4.heap.size + 1, 0, none⟩) (by show w4.heap.size + 1 < _; omega)).trans k1
  have OX := Lib.hid (fun w' (h : Below w9.heap.size w9 w') => rof_ch (c := g1) L1.length (HX1.out.below HB29.out) HM1.out HT0.out h)
  have OY := Lib.hid (fun w' (h : Below w9.heap.size w9 w') => rof_ch (c := g2) L2.length (HX2.out.below HB29.out) HM2.out HU0.out h)
  have hb0 : Below w9.heap.size w9 w9.drew := (Below.refl _ _).drew
  have AW := Lib.hid (fun w' (h : Below w9.heap.size w9 w') => chain_of (awake4_of w') h)
  generalize hbb : decide (t = u) = bb
  have HBB := Lib.hid hbb
  have hbt : (bb == bb) = true := beq_self_eq_true _
  clear hbb hz9 k0 k1 HB9 HX3b HX4 HB34 HB29 HX1 HX2 HM1 HM2 HT0 HU0 HB2
  go_region_held3 (fun w' => Below w9.heap.size w9 w')
    (first | assumption | exact Below.alloc (by assumption) (Below.size (by assumption)) _)
    ((first
      | (go_at_call 19; have y := mk4; clear y; refine (OY.out _ (by assumption)).mono ?_; rintro e wa ⟨aa, ca, rfl, hra, hba, hqa⟩; have hst2 := hst.below hqa; have mk5 := trivial)
      | (go_at_call 19; have y := mk3; clear y; refine (OX.out _ (by assumption)).mono ?_; rintro e wb ⟨ab, cb, rfl, hrb, hbb, hqb⟩)
      | (go_at_call 19; have y := mk1; clear y; refine (OY.out _ (by assumption)).mono ?_; rintro e wc ⟨ac, cc, rfl, hrc, hbc, hqc⟩)
      | (go_at_call 19; refine (OX.out _ (by assumption)).mono ?_; rintro e wd ⟨ad, cd, rfl, hrd, hbd, hqd⟩)
      | (go_at_call 18; have y := mk1; clear y; refine (like_ch (W := w9) (HU.out _ (by assumption)) hrc (by assumption)).mono ?_; rintro e we ⟨rfl, hbe⟩; have mk2 := trivial)
      | (go_at_call 18; refine (like_ch (W := w9) (HT.out _ (by assumption)) hrd (by assumption)).mono ?_; rintro e wf ⟨rfl, hbf⟩; have mk1 := trivial)
      | (go_at_call 20; have y := mk6; clear y; refine (same_ch (W := w9) (HT.out _ (by assumption)) (HT.out _ (by assumption)) (by assumption)).mono ?_; rintro e wg ⟨rfl, hbg⟩)
      | (go_at_call 20; refine (psame_ch (W := w9) HBB.out (HT.out _ (by assumption)) (HU.out _ (by assumption)) (by assumption)).mono ?_; rintro e wh ⟨rfl, hbh⟩; have mk3 := trivial)
      | (go_at_call 22; have y := mk5; clear y; refine (spans4_ch (W := w9) hra hs2.out (by assumption)).mono ?_; rintro e wi ⟨ai, ci, rfl, hsu, hbi, hqi⟩; have hst3 := hst2.below hqi)
      | (go_at_call 22; refine (spans4_ch (W := w9) hrb hs1.out (by assumption)).mono ?_; rintro e wj ⟨aj, cj, rfl, hst, hbj, hqj⟩; have mk4 := trivial)
      | (go_at_call 21; refine (rsame_ch (W := w9) HBB.out hst3 hsu hs1.out hs2.out (by assumption)).mono ?_; rintro e wk ⟨rfl, hbk⟩; have mk6 := trivial)
      | (go_at_call 23; refine (AW.out _ (by assumption)).mono ?_; rintro e wz ⟨rfl, hbz, -⟩)))
  all_goals
    go_wp2_with fail
    go_ret
    exact ⟨rfl, HBF.out.trans (hbz.mono HBF.out.size)⟩

end Go.Proofs.Ytelnehjmkjpjhaa
