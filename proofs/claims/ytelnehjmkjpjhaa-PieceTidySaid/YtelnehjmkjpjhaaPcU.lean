/-
  The walk of the statement PieceCuts, at this seat's numbers.
-/
import Derived.Test.YtelnehjmkjpjhaaPcT
namespace Go.Proofs.Ytelnehjmkjpjhaa
open Go Go.RowKit
set_option linter.unusedVariables false

theorem rof_ix {W w : World} {a : Option Addr} {c : Nat} {L : List Sp} {t : List Int} {m : Nat} (k : Nat) (hr : Rd W 2 a m (spC (fewK L k))) (hm : (fewK L k).length = m) (ht : ex (fewK L k) = t) (hW : Below W.heap.size W w) :
    Calls Try.prog 19 #[.slice a m c] w fun e w' => ∃ a' c', e = .returned (.slice a' t.length c') ∧ Ix w' (.slice a' t.length c') t ∧ Below W.heap.size W w' ∧ Below w.heap.size w w' := by
  subst hm ht
  have h1 := fewK_len L k
  have h2 := sm_few L k
  refine (rof_of (c := c) (hr.below hW) (by omega) fewK_mem (by omega)).mono ?_
  rintro e w' ⟨a', c', rfl, ho, hb⟩
  exact ⟨a', c', rfl, ix_own ho, hW.trans (hb.mono hW.size), hb⟩
/-- What the document's calls tell. -/
def RTold (W w0 : World) (r : List Int) (e : Ending) (w' : World) : Prop := ∃ a c, e = .returned (.slice a r.length c) ∧ Rd w' 1 a r.length (inC r) ∧ Below W.heap.size W w' ∧ Below w0.heap.size w0 w'
theorem rtold {W w : World} {f : FuncId} {args : Array Value} {r : List Int} (hW : Below W.heap.size W w) (h : Calls Try.prog f args w fun e w' => ∃ v', e = .returned v' ∧ Ix w' v' r ∧ Below w.heap.size w w') : Calls Try.prog f args w (RTold W w r) := by
  refine h.mono ?_
  rintro e w' ⟨v', rfl, hx, hb⟩
  obtain ⟨a, c, rfl, hr, -⟩ := hx
  exact ⟨a, c, rfl, hr, hW.trans (hb.mono hW.size), hb⟩
theorem Ix.rd2 {w : World} {a : Option Addr} {c n : Nat} {t : List Int} (h : Ix w (.slice a n c) t) : Rd w 1 a t.length (inC t) := by
  obtain ⟨a', c', h1, h2, -⟩ := h
  simp only [Value.slice.injEq] at h1
  obtain ⟨rfl, _, _⟩ := h1
  exact h2
theorem rslice_ch {W w : World} {v : Value} {t : List Int} (i j : Int) (h : Ix w v t) (hi : I64 i) (hj : I64 j) (hl : t.length ≤ 20000) (hW : Below W.heap.size W w) :
    Calls Try.prog 25 #[v, .int .i64 i, .int .i64 j] w (RTold W w (slI t i j)) :=
  rtold hW ((rslice_of i j h hi hj hl).mono fun e w' ⟨v', he, hx, hw⟩ => ⟨v', he, hx, hw ▸ Below.refl _ _⟩)
theorem rinsert_ch {W w : World} {v x : Value} {t u : List Int} (i : Int) (h : Ix w v t) (hx : Ix w x u) (hi : I64 i) (hl : t.length + u.length ≤ 20000) (hW : Below W.heap.size W w) :
    Calls Try.prog 27 #[v, .int .i64 i, x] w (RTold W w (insI t i u)) := rtold hW (rinsert_of i h hx hi hl)
theorem rconcat_told {W w : World} (vs : List TxV) (r : List Int) (hr : plsOf vs = r) (hs : Below W.heap.size W w) (hv : ∀ p ∈ vs, Ix w p.1 p.2) (hm : r.length ≤ 20000) (hn : vs.length ≤ 1000) (ty : TypeId) (c : Nat) (n : Nat) (hvn : vs.length = n) :
    Calls Try.prog 31 #[.slice (some ⟨w.heap.size, 0, none⟩) n c] (w.alloc (.cells (vs.map (·.1)).toArray ty)) (RTold W w r) := by
  refine (rconcat_ch (W := w) vs r hr (Below.refl _ _) hv hm hn ty c n hvn).mono ?_
  rintro e w' ⟨v', rfl, hx, hb⟩
  obtain ⟨a, c, rfl, hr, -⟩ := hx
  exact ⟨a, c, rfl, hr, hs.trans (hb.mono hs.size), hb⟩
theorem rdelete_ch {W w : World} {v : Value} {t : List Int} (i j : Int) (h : Ix w v t) (hi : I64 i) (hj : I64 j) (hl : t.length ≤ 10000) (hW : Below W.heap.size W w) :
    Calls Try.prog 29 #[v, .int .i64 i, .int .i64 j] w (RTold W w (delI t i j)) := rtold hW (rdelete_of i j h hi hj hl)

set_option maxRecDepth 100000 in
set_option maxHeartbeats 16000000 in
theorem pieceCuts_walk (a1 : Option Addr) (c1 : Nat) (L1 : List (Int × Int)) (a2 : Option Addr) (c2 : Nat) (L2 : List (Int × Int)) (i j : Int) (w : World) (h1 : SpArg w a1 c1 L1) (h2 : SpArg w a2 c2 L2) (hi : -9223372036854775808 ≤ i ∧ i ≤ 9223372036854775807) (hj : -9223372036854775808 ≤ j ∧ j ≤ 9223372036854775807) :
    Calls Try.prog 4 #[.slice a1 L1.length c1, .slice a2 L2.length c2, .agg #[.int .i64 i, .int .i64 j]] w fun e w' => e = .returned (.bool true) ∧ Below w.heap.size w w' := by
  have HF1 := Lib.hid (fun w' (hb : Below w.heap.size w w') => few_of (c := c1) (h1.rd.below hb) h1.len)
  have alb := below_al w (Obj.cells #[Value.int .i64 i, Value.int .i64 j] 38)
  have kk0 : (w.alloc (Obj.cells #[Value.int .i64 i, Value.int .i64 j] 38)).cell? ⟨w.heap.size, 0, none⟩ = some (.int .i64 i) := by rw [cell_at (heap_alloc_new w _)]; rfl
  have kk1 : (w.alloc (Obj.cells #[Value.int .i64 i, Value.int .i64 j] 38)).cell? ⟨w.heap.size, 1, none⟩ = some (.int .i64 j) := by rw [cell_at (heap_alloc_new w _)]; rfl
  have HF2 := Lib.hid (fun w' (hb : Below w.heap.size w w') => few_of (c := c2) (h2.rd.below hb) h2.len)
  have hs1 := sm_few L1 L1.length
  have hs2 := sm_few L2 L2.length
  clear h1 h2
  go_enter Try.func4, Try.ntmps4
  go_wp2_with fail
  generalize w.alloc (Obj.cells #[Value.int .i64 i, Value.int .i64 j] 38) = w0 at *
  go_quiet (fail)
  go_wp2_with fail
  have hb0 := below_draw1 alb nq
  clear alb kk0 kk1
  refine (HF1.out _ hb0).mono ?_; rintro e w1 ⟨v1, x1, rfl, ho1, hp1, hb1⟩
  obtain ⟨b1, d1, rfl⟩ := own_slice ho1
  obtain ⟨f1, g1, rfl⟩ := own_slice hp1
  have HO1 := Lib.hid ho1
  have HP1 := Lib.hid hp1
  have HB1 := Lib.hid (hb0.trans (hb1.mono hb0.size))
  clear ho1 hb1 HF1 hp1 hb0
  go_wp2_with fail
  refine (HF2.out _ HB1.out).mono ?_; rintro e w2 ⟨v2, x2, rfl, ho2, hp2, hb2⟩
  obtain ⟨b2, d2, rfl⟩ := own_slice ho2
  obtain ⟨f2, g2, rfl⟩ := own_slice hp2
  have HOF1 := Lib.hid (of_few (c := d1) (own_below HO1.out hb2))
  have HOF2 := Lib.hid (fun w' (hb : Below w2.heap.size w2 w') => of_few (c := d2) (own_below ho2 hb))
  have HB2 := Lib.hid (HB1.out.trans (hb2.mono HB1.out.size))
  have HX1 := Lib.hid ((own_rd HP1.out).below hb2)
  have HX2 := Lib.hid (own_rd hp2)
  clear ho2 hb2 HF2 HO1 HB1 HP1 hp2
  generalize hm1 : (fewK L1 L1.length).length = m1 at *
  generalize hm2 : (fewK L2 L2.length).length = m2 at *
  generalize ht : ex (fewK L1 L1.length) = t at *
  generalize hu : ex (fewK L2 L2.length) = u at *
  have HM1 := Lib.hid hm1
  have HM2 := Lib.hid hm2
  have HT0 := Lib.hid ht
  have HU0 := Lib.hid hu
  clear hm1 hm2 ht hu
  go_wp2_with fail
  refine HOF1.out.mono ?_; rintro e w3 ⟨a3, n3, c3, rfl, hx3, hb3⟩
  have HX3 := Lib.hid hx3.tx
  have HB3 := Lib.hid hb3
  clear hx3 hb3 HOF1
  go_wp2_with (go_at_call 17; refine (HOF2.out _ HB3.out).mono ?_; rintro e w4 ⟨a4, n4, c4, rfl, hx4, hb4⟩)
  have HX4 := Lib.hid hx4.tx
  have HX3b := Lib.hid (HX3.out.below hb4)
  have HB34 := Lib.hid (HB3.out.trans (hb4.mono HB3.out.size))
  clear hx4 hb4 HOF2 HX3 HB3
  obtain ⟨w9, hw9⟩ : ∃ w9, w9 = allocs w4 [Obj.cells #[Value.slice a3 n3 c3] 27, Obj.cells #[Value.slice a4 n4 c4] 27] := ⟨_, rfl⟩
  have hz9 : w9.heap.size = w4.heap.size + 2 := by rw [hw9]; exact allocs_size _ w4
  have HB9 : Hid (Below w4.heap.size w4 w9) := by rw [hw9]; exact Lib.hid (allocs_below _ w4)
  have k0 : w9.cell? ⟨w4.heap.size, 0, none⟩ = some (.slice a3 n3 c3) := by rw [cell_at (show w9.heap[w4.heap.size]? = some (.cells #[Value.slice a3 n3 c3] 27 (0, 0)) by rw [hw9]; exact allocs_at _ w4 0 _ rfl)]; rfl
  have k1 : w9.cell? ⟨w4.heap.size + 1, 0, none⟩ = some (.slice a4 n4 c4) := by rw [cell_at (show w9.heap[w4.heap.size + 1]? = some (.cells #[Value.slice a4 n4 c4] 27 (0, 0)) by rw [hw9]; exact allocs_at _ w4 1 _ rfl)]; rfl
  rw [show (w4.alloc (Obj.cells #[Value.slice a3 n3 c3] 27)).alloc (Obj.cells #[Value.slice a4 n4 c4] 27) = w9 from hw9.symm]
  clear hw9
  have HB29 := Lib.hid (HB34.out.trans (HB9.out.mono HB34.out.size))
  have HBF := Lib.hid (HB2.out.trans (HB29.out.mono HB2.out.size))
  have HT := Lib.hid (fun w' (h : Below w9.heap.size w9 w') => (HX3b.out.below HB9.out).below h)
  have HU := Lib.hid (fun w' (h : Below w9.heap.size w9 w') => (HX4.out.below HB9.out).below h)
  have ld0 := fun w' (h : Below w9.heap.size w9 w') => (h.cell (p := ⟨w4.heap.size, 0, none⟩) (by show w4.heap.size < _; omega)).trans k0
  have ld1 := fun w' (h : Below w9.heap.size w9 w') => (h.cell (p := ⟨w4.heap.size + 1, 0, none⟩) (by show w4.heap.size + 1 < _; omega)).trans k1
  have OX := Lib.hid (rof_ix (W := w9) (c := g1) L1.length (HX1.out.below HB29.out) HM1.out HT0.out (Below.refl _ _))
  have OY := Lib.hid (fun w' (h : Below w9.heap.size w9 w') => rof_ix (c := g2) L2.length (HX2.out.below HB29.out) HM2.out HU0.out h)
  have AW := Lib.hid (fun w' (h : Below w9.heap.size w9 w') => chain_of (awake4_of w') h)
  have hsT := hs1.1
  have hsU := hs2.1
  have htl := hs1.2
  have hul := hs2.2
  have hC3 : Sm (t ++ u ++ t) := (hsT.append hsU (by omega)).append hsT (by rw [List.length_append]; omega)
  clear hz9 k0 k1 HB9 HX3b HX4 HB34 HB29 HX1 HX2 HM1 HM2 HT0 HU0 HB2
  refine OX.out.mono ?_; rintro e wr ⟨ar, cr, rfl, hxr, hbr, -⟩
  have HXR := Lib.hid hxr
  have hxr' := hxr
  clear hxr
  go_wp2_with fail
  refine (OY.out _ hbr).mono ?_; rintro e wq ⟨aq, cq, rfl, hxq, hbq, hqq⟩
  have HQ := Lib.hid (fun w' (h : Below wq.heap.size wq w') => hxq.below h)
  have HR := Lib.hid (fun w' (h : Below wq.heap.size wq w') => (HXR.out.below hqq).below h)
  have HTq := Lib.hid (fun w' (h : Below wq.heap.size wq w') => HT.out w' (hbq.trans (h.mono hbq.size)))
  have HUq := Lib.hid (fun w' (h : Below wq.heap.size wq w') => HU.out w' (hbq.trans (h.mono hbq.size)))
  have ld0q := fun w' (h : Below wq.heap.size wq w') => ld0 w' (hbq.trans (h.mono hbq.size))
  have ld1q := fun w' (h : Below wq.heap.size wq w') => ld1 w' (hbq.trans (h.mono hbq.size))
  have HBq := Lib.hid (HBF.out.trans (hbq.mono HBF.out.size))
  have AWq := Lib.hid (fun w' (h : Below wq.heap.size wq w') => chain_of (awake4_of w') h)
  have CC := Lib.hid (fun (w' : World) (h : Below wq.heap.size wq w') => concat_ch [(.slice a3 n3 c3, t), (.slice a4 n4 c4, u), (.slice a3 n3 c3, t)] (t ++ u ++ t) (by unfold plsOf; simp) h (by intro p hp; simp only [List.mem_cons, List.not_mem_nil, or_false] at hp; rcases hp with rfl | rfl | rfl; exact HTq.out _ h; exact HUq.out _ h; exact HTq.out _ h) hC3 (by simp) 27 3 3 rfl)
  have DC := Lib.hid (fun (w' : World) (h : Below wq.heap.size wq w') => rconcat_told (W := wq) [(.slice ar t.length cr, t), (.slice aq u.length cq, u), (.slice ar t.length cr, t)] (t ++ u ++ t) (by unfold plsOf; simp) h (by intro p hp; simp only [List.mem_cons, List.not_mem_nil, or_false] at hp; rcases hp with rfl | rfl | rfl; exact HR.out _ h; exact HQ.out _ h; exact HR.out _ h) hC3.1 (by simp) 31 3 3 rfl)
  have hb9 : Below wq.heap.size wq wq := Below.refl _ _
  clear hbq hxq hbr HT HU ld0 ld1 HBF AW OY OX hxr' HXR hqq
  generalize t ++ u ++ t = tut at *
  go_wp2_with fail
  refine (slice_ch (W := wq) (r := slI t i j) i j (HTq.out _ hb9) hi hj hb9 rfl).mono ?_; rintro e wa ⟨xa, ya, za, rfl, hxA, hbA, hqA⟩
  go_wp2_with fail
  refine (rslice_ch (W := wq) i j (HR.out _ hbA) hi hj (by omega) hbA).mono ?_; rintro e wb ⟨xb, yb, rfl, hrB, hbB, hqB⟩
  have hxA' := hxA.below hqB
  go_wp2_with fail
  refine (like_ch (W := wq) hxA' hrB hbB).mono ?_; rintro e wl ⟨rfl, hbl⟩
  clear hxA' hxA hqA hqB hrB hbA hbB
  go_wp2_with fail
  refine (insert_ch (W := wq) (r := insI t i u) i (HTq.out _ hbl) (HUq.out _ hbl) hi (by omega) hbl rfl).mono ?_; rintro e wa2 ⟨xa2, ya2, za2, rfl, hxA, hbA, hqA⟩
  go_wp2_with fail
  refine (rinsert_ch (W := wq) i (HR.out _ hbA) (HQ.out _ hbA) hi (by omega) hbA).mono ?_; rintro e wb2 ⟨xb2, yb2, rfl, hrB, hbB, hqB⟩
  have hxA' := hxA.below hqB
  go_wp2_with fail
  refine (like_ch (W := wq) hxA' hrB hbB).mono ?_; rintro e wl2 ⟨rfl, hbl2⟩
  clear hxA' hxA hqA hqB hrB hbA hbB hbl
  go_wp2_with fail
  refine (delete_ch (W := wq) (r := delI t i j) i j (HTq.out _ hbl2) hi hj (by omega) hbl2 rfl).mono ?_; rintro e wa3 ⟨xa3, ya3, za3, rfl, hxA, hbA, hqA⟩
  go_wp2_with fail
  refine (rdelete_ch (W := wq) i j (HR.out _ hbA) hi hj (by omega) hbA).mono ?_; rintro e wb3 ⟨xb3, yb3, rfl, hrB, hbB, hqB⟩
  have hxA' := hxA.below hqB
  go_wp2_with fail
  refine (like_ch (W := wq) hxA' hrB hbB).mono ?_; rintro e wl3 ⟨rfl, hbl3⟩
  clear hxA' hxA hqA hqB hrB hbA hbB hbl2
  go_wp2_with fail
  refine (CC.out wl3 hbl3).mono ?_; rintro e wa4 ⟨xa4, ya4, za4, rfl, hxA, hbA⟩
  go_wp2_with fail
  refine (DC.out wa4 hbA).mono ?_; rintro e wb4 ⟨xb4, yb4, rfl, hrB, hbB, hqB⟩
  have hxA' := hxA.below hqB
  go_wp2_with fail
  refine (like_ch (W := wq) hxA' hrB hbB).mono ?_; rintro e wl4 ⟨rfl, hbl4⟩
  clear hxA' hxA hqB hrB hbA hbB hbl3
  have hrT := (HR.out _ hbl4).rd2
  go_wp2_with fail
  refine (like_ch (W := wq) (HTq.out _ hbl4) hrT hbl4).mono ?_; rintro e wl5 ⟨rfl, hbl5⟩
  go_wp2_with fail
  refine (AWq.out _ hbl5).mono ?_; rintro e wz ⟨rfl, hbz, -⟩
  go_wp2_with fail
  go_ret
  exact ⟨rfl, HBq.out.trans (hbz.mono HBq.out.size)⟩

end Go.Proofs.Ytelnehjmkjpjhaa
