/-
  The walk of ScanMarks, at this seat's numbers.
-/
import Derived.Test.YtphfhmabchfjjaaScI
import Derived.Test.YtphfhmabchfjjaaPieD
namespace Go.Proofs.Ytphfhmabchfjjaa
open Go Go.RowKit
set_option linter.unusedVariables false

theorem ext_strOf (s : ByteArray) (i j : Nat) : s.extract i j = strOf ((s.data.toList.drop i).take (j - i)) := by
  apply ByteArray.ext
  apply Array.ext'
  simp [strOf, ByteArray.data_extract, List.extract_eq_take_drop]
theorem strOf_data (s : ByteArray) : strOf s.data.toList = s := by
  apply ByteArray.ext; simp [strOf]
theorem cutS_le2 (s : ByteArray) (n : Nat) (hn : n ≤ 1000000) : (cutS s n).size ≤ 1000000 := Nat.le_trans (cutS_le s n) hn

/-- What holds at the head of ScanMarks' loop. -/
def MarksJ (t : ByteArray) (L : List (Int × Int)) (w : World) (v9 v19 : Value) (wr : World) : Prop := ∃ (k : Nat) (a8 : Option Addr) (c8 : Nat), k ≤ 20 ∧ k ≤ L.length ∧ v19 = .int .i64 k ∧ v9 = .string (strOf (valL t.data.toList (L.take k))) ∧
  wr.heap[w.heap.size + 1]? = some (.cells #[.int .i64 0, .int .i64 0, .int .i64 0, .slice a8 (L.take k).length c8] 77 (0, 0)) ∧
  wr.ownsRow (w.heap.size + 2) 51 2 (.slice a8 (L.take k).length c8) (L.take k).length (spC (L.take k)) ∧ Below w.heap.size w wr ∧ w.heap.size + 2 ≤ wr.heap.size

set_option maxRecDepth 100000 in
set_option maxHeartbeats 8000000 in
theorem scanMarks_walk (en kd : Int) (s : ByteArray) (a : Option Addr) (c : Nat) (L : List (Int × Int)) (w : World) (hs : s.size ≤ maxLen) (hL : Rd w 2 a L.length (spC L)) (hLl : (L.length : Int) ≤ 9223372036854775807) :
    Calls Try.prog 9 #[.int .i64 en, .int .i64 kd, .agg #[.string s, .slice a L.length c]] w fun e w' => e = .returned (.bool true) ∧ Below w.heap.size w w' := by
  obtain ⟨i0, hi0, hz0, hz1, hz2⟩ := info_parts info_span
  have HC := Lib.hid (fun w' => cut5_of s 100 w' hs (by decide))
  have hcl := cutS_le s 100
  have al := below_al w (Obj.cells #[Value.string s, Value.slice a L.length c] 86)
  have HB0 := Lib.hid al
  have HR := Lib.hid hL
  have hzb : (w.alloc (Obj.cells #[Value.string s, Value.slice a L.length c] 86)).heap.size = w.heap.size + 1 := by simp
  have hx0 : (w.alloc (Obj.cells #[Value.string s, Value.slice a L.length c] 86)).cell? ⟨w.heap.size, 0, none⟩ = some (.string s) := by rw [cell_at (heap_alloc_new w _)]; rfl
  have hx1 : (w.alloc (Obj.cells #[Value.string s, Value.slice a L.length c] 86)).cell? ⟨w.heap.size, 1, none⟩ = some (.slice a L.length c) := by rw [cell_at (heap_alloc_new w _)]; rfl
  clear al hL hs
  generalize cutS s 100 = t at *
  go_enter Try.func9, Try.ntmps9
  go_upto_region 1 with fail
  generalize w.alloc (Obj.cells #[Value.string s, Value.slice a L.length c] 86) = w1 at *
  go_wp2_with fail
  refine (HC.out _).mono ?_; rintro e wx ⟨rfl, rfl⟩
  go_upto_region 4 with fail
  have H8i := Lib.hid (heap_alloc_new w1 (Obj.cells #[Value.int IntKind.i64 0, Value.int IntKind.i64 0, Value.int IntKind.i64 0, Value.slice none 0 0] 77))
  have al := below_al w1 (Obj.cells #[Value.int IntKind.i64 0, Value.int IntKind.i64 0, Value.int IntKind.i64 0, Value.slice none 0 0] 77)
  have hz2' : (w1.alloc (Obj.cells #[Value.int IntKind.i64 0, Value.int IntKind.i64 0, Value.int IntKind.i64 0, Value.slice none 0 0] 77)).heap.size = w.heap.size + 2 := by simp; omega
  have HB2 := Lib.hid (HB0.out.trans (al.mono (by omega)))
  have HRR := Lib.hid (HR.out.below (HB2.out))
  have hy1 : (w1.alloc (Obj.cells #[Value.int IntKind.i64 0, Value.int IntKind.i64 0, Value.int IntKind.i64 0, Value.slice none 0 0] 77)).cell? ⟨w.heap.size, 1, none⟩ = some (.slice a L.length c) := by rw [World.cell?_alloc_lt _ _ ⟨w.heap.size, 1, none⟩ (by show w.heap.size < _; omega)]; exact hx1
  rw [hzb] at H8i
  have hzx := hzb
  clear al hx0 hx1
  generalize (w1.alloc (Obj.cells #[Value.int IntKind.i64 0, Value.int IntKind.i64 0, Value.int IntKind.i64 0, Value.slice none 0 0] 77)) = w2 at *
  have hzy : w.heap.size + 2 ≤ w2.heap.size := by omega
  have HZ2 := Lib.hid hz2'
  clear hz2' hzb hzx
  go_wp2_with fail
  clear hy1
  go_loopw [9, 19] (fun v9 v19 wr => MarksJ t L w v9 v19 wr) (fun _ v19 _ => L.length - (intOf v19).toNat)
  case atStart => exact ⟨0, none, 0, by omega, by omega, rfl, by simp [valL]; rfl, H8i.out, by simp; exact own_nil _ _ _ _, HB2.out, hzy⟩
  case round =>
    obtain ⟨k, a8, c8, hk20, hkL, rfl, rfl, h8, ho, hb, hzr⟩ := hrel
    have H8 := Lib.hid h8
    have HO := Lib.hid ho
    have HB := Lib.hid hb
    have hkl1 : (L.take k).length ≤ 1000000 := by simp; omega
    clear h8 ho hb
    by_cases hlt : k < L.length
    · have dk : decide (k < L.length) = true := decide_eq_true hlt
      obtain ⟨b, off, rfl, hbl, hcel⟩ := HR.out.2 (by omega)
      have hsp := spC_at L k L[k] (List.getElem?_eq_getElem hlt)
      have f1 : wr.cell? ⟨b, off + k * 2, none⟩ = some (.int .i64 L[k].1) := (HB.out.cell (p := ⟨b, off + k * 2, none⟩) hbl).trans (hcel _ _ hsp.1)
      have f2 : wr.cell? ⟨b, off + k * 2 + 1, none⟩ = some (.int .i64 L[k].2) := (HB.out.cell (p := ⟨b, off + k * 2 + 1, none⟩) hbl).trans (hcel _ _ hsp.2)
      by_cases h20 : k < 20
      · have d20 : decide ((20 : Int) ≤ (k : Int)) = false := decide_eq_false (by omega)
        have HT := Lib.hid (valL_take (l := t.data.toList) hlt)
        have HTK := Lib.hid (spC_take hlt)
        have HTN := Lib.hid (show (L.take (k + 1)).length = (L.take k).length + 1 by simp; omega)
        have hlen := valL_len t.data.toList (L.take k)
        have hlen2 : (L.take k).length * t.data.toList.length ≤ 20 * 100 := Nat.mul_le_mul (by simp; omega) hcl
        have hle := Nat.le_trans hlen hlen2
        clear hbl hcel hsp hlen hlen2
        generalize hx : L[k].1 = x at *
        generalize hy : L[k].2 = y at *
        clear hx hy
        have y3 : wr.cell? ⟨w.heap.size + 1, 3, none⟩ = some (.slice a8 (L.take k).length c8) := by rw [cell_at H8.out]; rfl
        have hzp : w.heap.size + 1 < wr.heap.size := lt_of_heap H8.out
        have S0 := SpB.new wr x y
        have al2 := below_al wr (Obj.cells #[Value.int IntKind.i64 x, Value.int IntKind.i64 y] 51)
        have al3 := al2.alloc (by simp) (Obj.cells #[Value.int IntKind.i64 x, Value.int IntKind.i64 y] 51)
        have AL3 := Lib.hid al3
        have HOa := Lib.hid (own_below HO.out al3)
        have HSL := Lib.hid (spC_len (L.take k))
        have hne : ∀ q, (Value.slice a8 (L.take k).length c8).ownBlock = some q → q < wr.heap.size := fun q hq => (HO.out.lt q hq).2
        have HNE := Lib.hid hne
        clear al2 al3 hne
        generalize hps : L.take k = ps at *
        have HPS := Lib.hid hps
        clear hps
        generalize hpn : ps.length = pn at *
        have HPN := Lib.hid hpn
        clear hpn
        go_wp2_with (first
          | (at_builtin; refine wpList_append_own _ rfl (.tmp 27) (.tmp 29) 22 rfl (w.heap.size + 2) 51 i0 (.agg #[.int .i64 0, .int .i64 0]) 2 16 Try.underlying22 hi0 hz0 hz1 hz2 rfl (by decide) (.slice a8 pn c8) pn (spC ps) rfl HOa.out ⟨wr.heap.size + 1, 0, none⟩ 1 1 [.int .i64 x, .int .i64 y] rfl rfl ?c1 ?c2 ?c3 ?c4 ?c5 ?_)
          | fail)
        case c1 =>
          intro j u hj
          rw [Addr.add_lit, Nat.zero_add]
          have hn := heap_alloc_new (wr.alloc (Obj.cells #[Value.int IntKind.i64 x, Value.int IntKind.i64 y] 51)) (Obj.cells #[Value.int IntKind.i64 x, Value.int IntKind.i64 y] 51)
          rw [World.size_alloc] at hn
          rw [cell_at hn]
          simpa using hj
        case c2 =>
          intro u hu
          simp only [List.mem_cons, List.not_mem_nil, or_false] at hu
          rcases hu with rfl | rfl <;> rfl
        case c3 => unfold maxLen; omega
        case c4 => omega
        case c5 => simp only [World.size_alloc]; omega
        intro v7 wB ho7 hg7 _
        obtain ⟨a9, c9, rfl⟩ := own_slice ho7
        have H8B := Lib.hid ((hg7.block (w.heap.size + 1) (by simp only [World.size_alloc]; omega) (fun e => own_ne HOa.out ((AL3.out.block _ hzp).trans H8.out) (by decide) e.symm)).trans ((AL3.out.block _ hzp).trans H8.out))
        have HSB := Lib.hid ((hg7.block wr.heap.size (by simp only [World.size_alloc]; omega) (fun e => by have := HNE.out _ e.symm; omega)).trans ((((below_al (wr.alloc (Obj.cells #[Value.int IntKind.i64 x, Value.int IntKind.i64 y] 51)) (Obj.cells #[Value.int IntKind.i64 x, Value.int IntKind.i64 y] 51)).block wr.heap.size (by simp)).trans (heap_alloc_new wr (Obj.cells #[Value.int IntKind.i64 x, Value.int IntKind.i64 y] 51)))))
        have HOB := Lib.hid ho7
        have HBB := Lib.hid ((HB.out.trans (AL3.out.mono (by omega))).grown hg7 (by simp only [World.size_alloc]; omega) (fun q hq => by have := (HOa.out.lt q hq).1; omega))
        have hzB : wr.heap.size < wB.heap.size := lt_of_heap HSB.out
        clear ho7 hg7 y3 S0 HOa HO H8 HNE AL3
        have y3 : wB.cell? ⟨w.heap.size + 1, 3, none⟩ = some (.slice a8 pn c8) := by rw [cell_at H8B.out]; rfl
        have z3 := unfrozen H8B.out 3
        go_upto_region 9 with fail
        have H8z : Hid ((wB.setCell ⟨w.heap.size + 1, 3, none⟩ (.slice a9 (pn + 1) c9)).heap[w.heap.size + 1]? = some (.cells #[.int .i64 0, .int .i64 0, .int .i64 0, .slice a9 (pn + 1) c9] 77 (0, 0))) := (heap_set_at H8B.out).trans rfl
        have HSz : Hid ((wB.setCell ⟨w.heap.size + 1, 3, none⟩ (.slice a9 (pn + 1) c9)).heap[wr.heap.size]? = some (.cells #[.int .i64 x, .int .i64 y] 51 (0, 0))) := (heap_set_other (by omega)).trans HSB.out
        have HOz := Lib.hid (own_set (o := 3) (u := .slice a9 (pn + 1) c9) HOB.out (own_ne HOB.out H8B.out (by decide)))
        have HBz := Lib.hid (HBB.out.setCell (p := ⟨w.heap.size + 1, 3, none⟩) (by show w.heap.size ≤ w.heap.size + 1; omega) (.slice a9 (pn + 1) c9))
        have hzz : w.heap.size + 2 ≤ (wB.setCell ⟨w.heap.size + 1, 3, none⟩ (.slice a9 (pn + 1) c9)).heap.size := by rw [size_set]; omega
        clear y3 z3 H8B HSB HOB HBB hzB
        generalize wB.setCell ⟨w.heap.size + 1, 3, none⟩ (.slice a9 (pn + 1) c9) = wz at *
        have s0 : wz.cell? ⟨wr.heap.size, 0, none⟩ = some (.int .i64 x) := by rw [cell_at HSz.out]; rfl
        have s1 : wz.cell? ⟨wr.heap.size, 1, none⟩ = some (.int .i64 y) := by rw [cell_at HSz.out]; rfl
        have hk : (x < 0 ∧ rightB t.data.toList.length x y = false) ∨ (0 ≤ x ∧ y < 0 ∧ rightB t.data.toList.length x y = false) ∨ (0 ≤ x ∧ 0 ≤ y ∧ t.size < x ∧ rightB t.data.toList.length x y = false) ∨ (0 ≤ x ∧ 0 ≤ y ∧ x ≤ t.size ∧ t.size - x < y ∧ rightB t.data.toList.length x y = false) ∨ (0 ≤ x ∧ 0 ≤ y ∧ x ≤ t.size ∧ y ≤ t.size - x ∧ rightB t.data.toList.length x y = true) := by
          have e : t.data.toList.length = t.size := rfl
          rw [e]
          unfold rightB; simp only [decide_eq_false_iff_not, decide_eq_true_eq]; omega
        rcases hk with ⟨k1, kr⟩ | ⟨k1, k2, kr⟩ | ⟨k1, k2, k3, kr⟩ | ⟨k1, k2, k3, k4, kr⟩ | ⟨k1, k2, k3, k4, kr⟩
        · have d1 : decide ((0 : Int) ≤ x) = false := decide_eq_false (by omega)
          have HE := Lib.hid (show subL t.data.toList x y = [] by unfold subL; rw [if_neg (by rw [kr]; simp)])
          clear kr
          go_wp2_with fail
          go_roundw
          case rel => exact ⟨k + 1, a9, c9, by omega, hlt, by go_num, by rw [HT.out, HE.out, List.append_nil], by rw [HTN.out]; exact H8z.out, by rw [HTN.out, HTK.out]; exact HOz.out, HBz.out, hzz⟩
          case measure => simp [intOf]; omega
        · have d1 : decide ((0 : Int) ≤ x) = true := decide_eq_true k1
          have d2 : decide ((0 : Int) ≤ y) = false := decide_eq_false (by omega)
          have HE := Lib.hid (show subL t.data.toList x y = [] by unfold subL; rw [if_neg (by rw [kr]; simp)])
          clear kr
          go_wp2_with fail
          go_roundw
          case rel => exact ⟨k + 1, a9, c9, by omega, hlt, by go_num, by rw [HT.out, HE.out, List.append_nil], by rw [HTN.out]; exact H8z.out, by rw [HTN.out, HTK.out]; exact HOz.out, HBz.out, hzz⟩
          case measure => simp [intOf]; omega
        · have d1 : decide ((0 : Int) ≤ x) = true := decide_eq_true k1
          have d2 : decide ((0 : Int) ≤ y) = true := decide_eq_true k2
          have d3 : decide (x ≤ (t.size : Int)) = false := decide_eq_false (by omega)
          have HE := Lib.hid (show subL t.data.toList x y = [] by unfold subL; rw [if_neg (by rw [kr]; simp)])
          clear kr
          go_wp2_with fail
          go_roundw
          case rel => exact ⟨k + 1, a9, c9, by omega, hlt, by go_num, by rw [HT.out, HE.out, List.append_nil], by rw [HTN.out]; exact H8z.out, by rw [HTN.out, HTK.out]; exact HOz.out, HBz.out, hzz⟩
          case measure => simp [intOf]; omega
        · have d1 : decide ((0 : Int) ≤ x) = true := decide_eq_true k1
          have d2 : decide ((0 : Int) ≤ y) = true := decide_eq_true k2
          have d3 : decide (x ≤ (t.size : Int)) = true := decide_eq_true k3
          have d4 : decide (y ≤ (t.size : Int) - x) = false := decide_eq_false (by omega)
          have HE := Lib.hid (show subL t.data.toList x y = [] by unfold subL; rw [if_neg (by rw [kr]; simp)])
          clear kr
          go_wp2_with fail
          go_roundw
          case rel => exact ⟨k + 1, a9, c9, by omega, hlt, by go_num, by rw [HT.out, HE.out, List.append_nil], by rw [HTN.out]; exact H8z.out, by rw [HTN.out, HTK.out]; exact HOz.out, HBz.out, hzz⟩
          case measure => simp [intOf]; omega
        · have HE := Lib.hid (show subL t.data.toList x y = (t.data.toList.drop x.toNat).take y.toNat by unfold subL; rw [if_pos kr])
          clear kr
          obtain ⟨i, rfl⟩ := Int.eq_ofNat_of_zero_le k1
          obtain ⟨n, rfl⟩ := Int.eq_ofNat_of_zero_le k2
          have d1 : decide ((0 : Int) ≤ (i : Int)) = true := decide_eq_true k1
          have d2 : decide ((0 : Int) ≤ (n : Int)) = true := decide_eq_true k2
          have d3 : decide (i ≤ t.size) = true := decide_eq_true (by omega)
          have d4 : decide ((n : Int) ≤ (t.size : Int) - (i : Int)) = true := decide_eq_true (by omega)
          have hw : (strOf (valL t.data.toList ps)).size ≤ 2000 := by rw [strOf_size]; omega
          have HX := Lib.hid (ext_strOf t i (i + n))
          have g1 : (i : Int) + (n : Int) ≤ (t.size : Int) := by omega
          go_wp2_with fail
          go_roundw
          case rel =>
            refine ⟨k + 1, a9, c9, by omega, hlt, by go_num, ?_, by rw [HTN.out]; exact H8z.out, by rw [HTN.out, HTK.out]; exact HOz.out, HBz.out, hzz⟩
            rw [HT.out, HE.out, ← strOf_app, HX.out]
            simp
          case measure => simp [intOf]; omega
      · have d20 : decide ((20 : Int) ≤ (k : Int)) = true := decide_eq_true (by omega)
        clear hbl hcel hsp
        generalize L[k].1 = x at *
        generalize L[k].2 = y at *
        have al2 := below_al wr (Obj.cells #[Value.int IntKind.i64 x, Value.int IntKind.i64 y] 51)
        replace HO := Lib.hid (own_below HO.out al2)
        replace H8 := Lib.hid ((al2.block _ (lt_of_heap H8.out)).trans H8.out)
        replace HB := Lib.hid (HB.out.trans (al2.mono HB.out.size))
        clear al2
        go_upto_region 7 with fail
        generalize wr.alloc (Obj.cells #[Value.int IntKind.i64 x, Value.int IntKind.i64 y] 51) = wq at *
        have HPS := Lib.hid (own_below HO.out (below_al wq (Obj.cells #[] 5)))
        obtain ⟨cap, W2, hcv, hH, hbW⟩ := held_of t wq (by unfold maxLen; omega)
        have hrd := rd_held hH
        have hF2 := (hbW.block (w.heap.size + 1) (lt_of_heap H8.out)).trans H8.out
        have HV := Lib.hid (value_of (c := cap) hrd hH.lies (by show t.size ≤ _; omega) hH.fits hH.cap (pc := c8) (rd_own (own_below HO.out hbW)) hkl1 0 0 0)
        have HBW := Lib.hid (HB.out.trans (hbW.mono HB.out.size))
        have e0 : W2.cell? ⟨w.heap.size + 1, 0, none⟩ = some (.int .i64 0) := by rw [cell_at hF2]; rfl
        have e1 : W2.cell? ⟨w.heap.size + 1, 1, none⟩ = some (.int .i64 0) := by rw [cell_at hF2]; rfl
        have e2 : W2.cell? ⟨w.heap.size + 1, 2, none⟩ = some (.int .i64 0) := by rw [cell_at hF2]; rfl
        have e3 : W2.cell? ⟨w.heap.size + 1, 3, none⟩ = some (.slice a8 (L.take k).length c8) := by rw [cell_at hF2]; rfl
        have HFI := Lib.hid (fun w => fine_of kd w)
        clear hrd hF2 hH hbW HPS H8 HO HB HR
        generalize L.take k = ps at *
        have hkd : (kd = 0 ∧ fineB kd = true) ∨ (kd = 1 ∧ fineB kd = true) ∨ (kd ≠ 0 ∧ kd ≠ 1 ∧ fineB kd = false) := by
          unfold fineB
          by_cases h0 : kd = 0
          · exact .inl ⟨h0, by simp [h0]⟩
          · by_cases h1 : kd = 1
            · exact .inr (.inl ⟨h1, by simp [h1]⟩)
            · exact .inr (.inr ⟨h0, h1, by simp [h0, h1]⟩)
        rcases hkd with ⟨rfl, hfi⟩ | ⟨rfl, hfi⟩ | ⟨h0, h1, hfi⟩
        · rw [hfi] at HFI
          clear hfi
          go_wp2_with (first
            | (go_at_call 41; refine (mark_of en _).mono ?_; rintro e w' ⟨rfl, rfl⟩)
            | (go_at_call 42; refine (rmark_of en _).mono ?_; rintro e w' ⟨rfl, rfl⟩)
            | (go_at_call 43; refine (HFI.out _).mono ?_; rintro e w' ⟨rfl, rfl⟩)
            | fail)
          refine HV.out.mono ?_; rintro e w3 ⟨a9, c9, rfl, ho9, hb9⟩
          have hstr := string_own ho9
          have HB9 := Lib.hid (HBW.out.trans (hb9.mono HBW.out.size))
          clear ho9 hb9 HV hcv
          generalize strOf (valL t.data.toList ps) = sv at *
          generalize (valL t.data.toList ps).length = nv at *
          go_wp2_with fail
          refine (awake5_of _).mono ?_; rintro e w4 ⟨rfl, hb4⟩
          have HB4 := Lib.hid (HB9.out.trans (hb4.mono HB9.out.size))
          clear hb4
          go_wp2_with fail
          go_ret
          exact ⟨rfl, HB4.out⟩
        · rw [hfi] at HFI
          clear hfi
          go_wp2_with (first
            | (go_at_call 41; refine (mark_of en _).mono ?_; rintro e w' ⟨rfl, rfl⟩)
            | (go_at_call 42; refine (rmark_of en _).mono ?_; rintro e w' ⟨rfl, rfl⟩)
            | (go_at_call 43; refine (HFI.out _).mono ?_; rintro e w' ⟨rfl, rfl⟩)
            | fail)
          refine HV.out.mono ?_; rintro e w3 ⟨a9, c9, rfl, ho9, hb9⟩
          have hstr := string_own ho9
          have HB9 := Lib.hid (HBW.out.trans (hb9.mono HBW.out.size))
          clear ho9 hb9 HV hcv
          generalize strOf (valL t.data.toList ps) = sv at *
          generalize (valL t.data.toList ps).length = nv at *
          go_wp2_with fail
          refine (awake5_of _).mono ?_; rintro e w4 ⟨rfl, hb4⟩
          have HB4 := Lib.hid (HB9.out.trans (hb4.mono HB9.out.size))
          clear hb4
          go_wp2_with fail
          go_ret
          exact ⟨rfl, HB4.out⟩
        · rw [hfi] at HFI
          have q0 : (kd == 0) = false := by simpa using h0
          have q1 : (kd == 1) = false := by simpa using h1
          clear hfi h0 h1
          go_wp2_with (first
            | (go_at_call 41; refine (mark_of en _).mono ?_; rintro e w' ⟨rfl, rfl⟩)
            | (go_at_call 42; refine (rmark_of en _).mono ?_; rintro e w' ⟨rfl, rfl⟩)
            | (go_at_call 43; refine (HFI.out _).mono ?_; rintro e w' ⟨rfl, rfl⟩)
            | fail)
          refine HV.out.mono ?_; rintro e w3 ⟨a9, c9, rfl, ho9, hb9⟩
          have hstr := string_own ho9
          have HB9 := Lib.hid (HBW.out.trans (hb9.mono HBW.out.size))
          clear ho9 hb9 HV hcv
          generalize strOf (valL t.data.toList ps) = sv at *
          generalize (valL t.data.toList ps).length = nv at *
          go_wp2_with fail
          refine (awake5_of _).mono ?_; rintro e w4 ⟨rfl, hb4⟩
          have HB4 := Lib.hid (HB9.out.trans (hb4.mono HB9.out.size))
          clear hb4
          go_wp2_with fail
          go_ret
          exact ⟨rfl, HB4.out⟩
    · have dk : decide (k < L.length) = false := decide_eq_false hlt
      have HPS := Lib.hid (own_below HO.out (below_al wr (Obj.cells #[] 5)))
      obtain ⟨cap, W2, hcv, hH, hbW⟩ := held_of t wr (by unfold maxLen; omega)
      have hrd := rd_held hH
      have hF2 := (hbW.block (w.heap.size + 1) (lt_of_heap H8.out)).trans H8.out
      have HV := Lib.hid (value_of (c := cap) hrd hH.lies (by show t.size ≤ _; omega) hH.fits hH.cap (pc := c8) (rd_own (own_below HO.out hbW)) hkl1 0 0 0)
      have HBW := Lib.hid (HB.out.trans (hbW.mono HB.out.size))
      have e0 : W2.cell? ⟨w.heap.size + 1, 0, none⟩ = some (.int .i64 0) := by rw [cell_at hF2]; rfl
      have e1 : W2.cell? ⟨w.heap.size + 1, 1, none⟩ = some (.int .i64 0) := by rw [cell_at hF2]; rfl
      have e2 : W2.cell? ⟨w.heap.size + 1, 2, none⟩ = some (.int .i64 0) := by rw [cell_at hF2]; rfl
      have e3 : W2.cell? ⟨w.heap.size + 1, 3, none⟩ = some (.slice a8 (L.take k).length c8) := by rw [cell_at hF2]; rfl
      have HFI := Lib.hid (fun w => fine_of kd w)
      clear hrd hF2 hH hbW HPS H8 HO HB HR
      generalize L.take k = ps at *
      have hkd : (kd = 0 ∧ fineB kd = true) ∨ (kd = 1 ∧ fineB kd = true) ∨ (kd ≠ 0 ∧ kd ≠ 1 ∧ fineB kd = false) := by
        unfold fineB
        by_cases h0 : kd = 0
        · exact .inl ⟨h0, by simp [h0]⟩
        · by_cases h1 : kd = 1
          · exact .inr (.inl ⟨h1, by simp [h1]⟩)
          · exact .inr (.inr ⟨h0, h1, by simp [h0, h1]⟩)
      rcases hkd with ⟨rfl, hfi⟩ | ⟨rfl, hfi⟩ | ⟨h0, h1, hfi⟩
      · rw [hfi] at HFI
        clear hfi
        go_wp2_with (first
          | (go_at_call 41; refine (mark_of en _).mono ?_; rintro e w' ⟨rfl, rfl⟩)
          | (go_at_call 42; refine (rmark_of en _).mono ?_; rintro e w' ⟨rfl, rfl⟩)
          | (go_at_call 43; refine (HFI.out _).mono ?_; rintro e w' ⟨rfl, rfl⟩)
          | fail)
        refine HV.out.mono ?_; rintro e w3 ⟨a9, c9, rfl, ho9, hb9⟩
        have hstr := string_own ho9
        have HB9 := Lib.hid (HBW.out.trans (hb9.mono HBW.out.size))
        clear ho9 hb9 HV hcv
        generalize strOf (valL t.data.toList ps) = sv at *
        generalize (valL t.data.toList ps).length = nv at *
        go_wp2_with fail
        refine (awake5_of _).mono ?_; rintro e w4 ⟨rfl, hb4⟩
        have HB4 := Lib.hid (HB9.out.trans (hb4.mono HB9.out.size))
        clear hb4
        go_wp2_with fail
        go_ret
        exact ⟨rfl, HB4.out⟩
      · rw [hfi] at HFI
        clear hfi
        go_wp2_with (first
          | (go_at_call 41; refine (mark_of en _).mono ?_; rintro e w' ⟨rfl, rfl⟩)
          | (go_at_call 42; refine (rmark_of en _).mono ?_; rintro e w' ⟨rfl, rfl⟩)
          | (go_at_call 43; refine (HFI.out _).mono ?_; rintro e w' ⟨rfl, rfl⟩)
          | fail)
        refine HV.out.mono ?_; rintro e w3 ⟨a9, c9, rfl, ho9, hb9⟩
        have hstr := string_own ho9
        have HB9 := Lib.hid (HBW.out.trans (hb9.mono HBW.out.size))
        clear ho9 hb9 HV hcv
        generalize strOf (valL t.data.toList ps) = sv at *
        generalize (valL t.data.toList ps).length = nv at *
        go_wp2_with fail
        refine (awake5_of _).mono ?_; rintro e w4 ⟨rfl, hb4⟩
        have HB4 := Lib.hid (HB9.out.trans (hb4.mono HB9.out.size))
        clear hb4
        go_wp2_with fail
        go_ret
        exact ⟨rfl, HB4.out⟩
      · rw [hfi] at HFI
        have q0 : (kd == 0) = false := by simpa using h0
        have q1 : (kd == 1) = false := by simpa using h1
        clear hfi h0 h1
        go_wp2_with (first
          | (go_at_call 41; refine (mark_of en _).mono ?_; rintro e w' ⟨rfl, rfl⟩)
          | (go_at_call 42; refine (rmark_of en _).mono ?_; rintro e w' ⟨rfl, rfl⟩)
          | (go_at_call 43; refine (HFI.out _).mono ?_; rintro e w' ⟨rfl, rfl⟩)
          | fail)
        refine HV.out.mono ?_; rintro e w3 ⟨a9, c9, rfl, ho9, hb9⟩
        have hstr := string_own ho9
        have HB9 := Lib.hid (HBW.out.trans (hb9.mono HBW.out.size))
        clear ho9 hb9 HV hcv
        generalize strOf (valL t.data.toList ps) = sv at *
        generalize (valL t.data.toList ps).length = nv at *
        go_wp2_with fail
        refine (awake5_of _).mono ?_; rintro e w4 ⟨rfl, hb4⟩
        have HB4 := Lib.hid (HB9.out.trans (hb4.mono HB9.out.size))
        clear hb4
        go_wp2_with fail
        go_ret
        exact ⟨rfl, HB4.out⟩

end Go.Proofs.Ytphfhmabchfjjaa
