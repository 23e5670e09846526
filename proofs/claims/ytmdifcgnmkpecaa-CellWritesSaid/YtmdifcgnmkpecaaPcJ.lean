/-
  The contract of piece's Slice, at this seat's numbers.
-/
import Derived.Test.YtmdifcgnmkpecaaPcI
namespace Go.Proofs.Ytmdifcgnmkpecaa
open Go Go.RowKit
set_option linter.unusedVariables false

theorem sm_parts {t : List Int} (h : Sm t) {i j : Int} (hi : 0 ≤ i ∧ i ≤ t.length) (hj : 0 ≤ j ∧ j ≤ t.length) : ∀ s ∈ parts (canon t) 0 i j, In40 s.1 ∧ (1 ≤ s.2 → In40 s.2) := by
  have hb := canon_at_bounds h
  have hl := h.1
  have : ∀ (l : List Sp) (f : Int), (∀ q ∈ l, 0 ≤ q.1 ∧ q.1 ≤ 1073741824 ∧ 1 ≤ q.2 ∧ q.2 ≤ 20000) → ∀ s ∈ parts l f i j, In40 s.1 ∧ (1 ≤ s.2 → In40 s.2) := by
    intro l
    induction l with
    | nil => intro f _ s hs; simp [parts] at hs
    | cons q l ih =>
      intro f hq s hs
      rw [parts] at hs
      rcases List.mem_cons.1 hs with rfl | hs
      · have := hq q (by simp)
        unfold subS In40; simp only; omega
      · exact ih _ (fun p hp => hq p (by simp [hp])) s hs
  exact this _ 0 hb

set_option maxRecDepth 100000 in
set_option maxHeartbeats 4000000 in
theorem slice_of {w : World} {v : Value} {t : List Int} (i j : Int) (h : Tx w v t) (hi : I64 i) (hj : I64 j) :
    Calls Try.prog 22 #[.agg #[v], .int .i64 i, .int .i64 j] w fun e w' => ∃ v', e = .returned (.agg #[v']) ∧ TxB w.heap.size w' v' (slI t i j) ∧ Below w.heap.size w w' := by
  have hpi := plc_in t.length i
  have hpj := plc_in t.length j
  have HX := Lib.hid h
  obtain ⟨a, c, rfl, hr, hs, _, _⟩ := h
  have hsl := hs.1
  have HR := Lib.hid hr
  have HS := Lib.hid hs
  clear hr hs
  go_enter Try.func22, Try.ntmps22
  go_upto_region 1 with fail
  obtain ⟨w1, hw1⟩ : ∃ w1, w1 = allocs w [Obj.cells #[Value.slice a (canon t).length c] 48, Obj.cells #[Value.int .i64 i] 3, Obj.cells #[Value.int .i64 j] 3, Obj.cells #[Value.slice none 0 0] 48] := ⟨_, rfl⟩
  rw [show (((w.alloc (Obj.cells #[Value.slice a (canon t).length c] 48)).alloc (Obj.cells #[Value.int .i64 i] 3)).alloc (Obj.cells #[Value.int .i64 j] 3)).alloc (Obj.cells #[Value.slice none 0 0] 48) = w1 from hw1.symm]
  have hz1 : w1.heap.size = w.heap.size + 4 := by rw [hw1]; exact allocs_size _ w
  have HB1 : Hid (Below w.heap.size w w1) := by rw [hw1]; exact Lib.hid (allocs_below _ w)
  have k0 : w1.heap[w.heap.size]? = some (.cells #[Value.slice a (canon t).length c] 48 (0, 0)) := by rw [hw1]; exact allocs_at _ w 0 _ rfl
  have k1 : w1.heap[w.heap.size + 1]? = some (.cells #[Value.int .i64 i] 3 (0, 0)) := by rw [hw1]; exact allocs_at _ w 1 _ rfl
  have k2 : w1.heap[w.heap.size + 2]? = some (.cells #[Value.int .i64 j] 3 (0, 0)) := by rw [hw1]; exact allocs_at _ w 2 _ rfl
  have k3 : w1.heap[w.heap.size + 3]? = some (.cells #[Value.slice none 0 0] 48 (0, 0)) := by rw [hw1]; exact allocs_at _ w 3 _ rfl
  clear hw1
  have HI : Inv24 (w.heap.size + 1) (w.heap.size + 2) (w.heap.size + 4) i j (plc t.length i) (plc t.length j) w1 (Array.replicate ops24.size false) w1.drew :=
    ⟨(Below.refl _ _).drew, by show _ ≤ w1.heap.size; omega, fun _ => k1, fun _ => k2, fun e => (by rw [mark_none] at e; cases e), fun e => (by rw [mark_none] at e; cases e), fun e => (by rw [mark_none] at e; cases e), fun e => (by rw [mark_none] at e; cases e), fun _ _ _ _ => rfl⟩
  refine (congrArg (fun c => Code.wp Try.prog c _ _ _) (?_ : _ = Code.region 1 ops24 true)).mpr ?_
  · kernel_rfl
  refine reg24 w.heap.size (w.heap.size + 1) (w.heap.size + 2) (w.heap.size + 4) (.slice a (canon t).length c) i j (plc t.length i) (plc t.length j) rfl rfl rfl rfl HI (by omega) (by omega) (by rw [cell_at k0]; rfl)
    (fun w' hb => place_of i (HX.out.below (HB1.out.trans (hb.mono (by omega)))) hi) (fun w' hb => place_of j (HX.out.below (HB1.out.trans (hb.mono (by omega)))) hj) ?_
  rintro a' w2 hd hs' hfr _ ⟨hb2, hz2, q1, q2, hk2⟩
  have ha := frame_of hd hs' hfr [8, 9, 10, 11, 12, 13] (by kernel_rfl)
  simp only [List.foldl_cons, List.foldl_nil] at ha
  clear hd hs' hfr HI
  generalize a'.tmps.getD 8 undef = v8 at ha
  generalize a'.tmps.getD 9 undef = v9 at ha
  generalize a'.tmps.getD 10 undef = v10 at ha
  generalize a'.tmps.getD 11 undef = v11 at ha
  generalize a'.tmps.getD 12 undef = v12 at ha
  generalize a'.tmps.getD 13 undef = v13 at ha
  subst ha
  have HB2 := Lib.hid (HB1.out.trans (hb2.mono (by omega)))
  have c0 : w2.cell? ⟨w.heap.size, 0, none⟩ = some (.slice a (canon t).length c) := by rw [cell_at ((hb2.block _ (by omega)).trans k0)]; rfl
  have q3 := (hk2 (w.heap.size + 3) (by omega) (by omega) (by omega)).trans k3
  clear hk2 k0 k1 k2 k3
  have al2 := below_al w2 (Obj.cells #[Value.slice none 0 0] 40)
  have HEach := Lib.hid (each_of (W := w2) (w := w2.alloc (Obj.cells #[Value.slice none 0 0] 40)) (c := c) (gi := w.heap.size + 1) (gj := w.heap.size + 2) (I := plc t.length i) (J := plc t.length j) (HR.out.below HB2.out) HS.out
    al2 (by simp) (heap_alloc_new w2 _) (by rw [cell_at q1]; rfl) (by rw [cell_at q2]; rfl) (by omega) (by omega))
  have c0' := (al2.cell (p := ⟨w.heap.size, 0, none⟩) (by show w.heap.size < _; omega)).trans c0
  have HQ3 := Lib.hid q3
  clear q1 q2 q3 c0 hb2 HR
  simp (config := { decide := true }) only [List.setIfInBounds_toArray, List.set_cons_zero, List.set_cons_succ]
  go_wp2_with (go_at_call 61; refine HEach.out.mono ?_; rintro e w3 ⟨rfl, hb3, hz3, a3, c3, p3, o3⟩; have l3 : w3.cell? ⟨w2.heap.size, 0, none⟩ = some (.slice a3 (canon t).length c3) := (by rw [cell_at p3]; rfl); have HO3 := Lib.hid o3; have HB3 := Lib.hid (HB2.out.trans (hb3.mono (by omega))); have r3 := Lib.hid ((hb3.block (w.heap.size + 3) (by omega)).trans HQ3.out); clear o3 hb3 p3 c0')
  have hpl : (parts (canon t) 0 (plc t.length i) (plc t.length j)).length = (canon t).length := parts_len _ _ _ _
  have hce := canon_count t
  have hex := slI_parts t i j
  have HOf := Lib.hid (tof_of (w := w3) (a := a3) (c := c3) (l := parts (canon t) 0 (plc t.length i) (plc t.length j)) (by rw [hpl]; exact own_rd HO3.out) (by omega) (sm_parts HS.out (by omega) (by omega)) (by rw [hex]; exact HS.out.slice i j))
  rw [hpl, hex] at HOf
  clear hpl hex HO3 HEach
  refine HOf.out.mono ?_; rintro e w4 ⟨v', rfl, hx4, hb4⟩
  have hx5 := hx4
  obtain ⟨a4, c4, rfl, -, -, -, -⟩ := hx5
  have HX4 := Lib.hid hx4
  have HB4 := Lib.hid (HB3.out.trans (hb4.mono (by omega)))
  have p3 := (hb4.block (w.heap.size + 3) (by omega)).trans r3.out
  clear hx4 hb4 HOf r3
  have z3 : w4.frozen? ⟨w.heap.size + 1 + 1 + 1, 0, none⟩ = false := unfrozen p3 0
  have l4 : w4.cell? ⟨w.heap.size + 1 + 1 + 1, 0, none⟩ = some (.slice none 0 0) := by rw [cell_at p3]; rfl
  go_wp2_with fail
  have c5 : (w4.setCell ⟨w.heap.size + 1 + 1 + 1, 0, none⟩ (.slice a4 (canon (slI t i j)).length c4)).cell? ⟨w.heap.size + 1 + 1 + 1, 0, none⟩ = some (.slice a4 (canon (slI t i j)).length c4) := cell_set_same l4
  try simp only [Exit.inBlock, Exit.then]
  refine bodyPost_ret (v := .agg #[.slice a4 (canon (slI t i j)).length c4]) (by simp [results, Try.results22, go_sem, c5]) rfl ⟨_, rfl, (HX4.out.set (by omega)).mono (by omega), HB4.out.setCell (p := ⟨w.heap.size + 3, 0, none⟩) (by show w.heap.size ≤ w.heap.size + 3; omega) _⟩

end Go.Proofs.Ytmdifcgnmkpecaa
