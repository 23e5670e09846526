/-
  Texts of this seat, put together (a claim holds few texts): ScR.
-/
import Derived.Test.YtkgakgceamafcaaGreatMk24

namespace Go.Proofs.YtkgakgceamafcaaGreat
open Go Go.RowKit
set_option linter.unusedVariables false

set_option maxRecDepth 100000 in
set_option maxHeartbeats 8000000 in
theorem rfield_quoted {s : ByteArray} {l : List UInt8} (hs : s.data.toList = l) (hl : l.length ≤ 1000000) (i : Nat) (hq : quAt l i = true) (w : World) :
    Calls Tryz.prog 150 #[.string s, .int .i64 i] w (RfPost (fieldP l i) w) := by
  obtain ⟨i0, hi0, hz0, hz1, hz2⟩ := info_parts info_int
  have hi : i < l.length := (quAt_yes hq).1
  have HS := Lib.hid hs
  have HQ := Lib.hid (fun w => rquote_yes hs hl i hq w)
  have HQQ := Lib.hid hq
  have hsz := sz_of hs
  obtain ⟨b4, b5, hz, hb⟩ := two_fields w (Obj.cells #[Value.int IntKind.i64 0, Value.int IntKind.i64 0, Value.int IntKind.i64 0, Value.slice none 0 0] 190) (Obj.cells #[Value.int IntKind.i64 0, Value.int IntKind.i64 0, Value.int IntKind.i64 0, Value.slice none 0 0] 190)
  have HJ : Hid (RqJ l i w (.int .i64 ((i : Int) + 1)) ((w.alloc (Obj.cells #[Value.int IntKind.i64 0, Value.int IntKind.i64 0, Value.int IntKind.i64 0, Value.slice none 0 0] 190)).alloc (Obj.cells #[Value.int IntKind.i64 0, Value.int IntKind.i64 0, Value.int IntKind.i64 0, Value.slice none 0 0] 190))) :=
    ⟨i + 1, [], none, 0, by omega, by omega, by go_num, rfl, rfl, by simp, b4, b5, own_nil _ _ _ _, hb, by omega⟩
  clear hs hq b4 b5 hb hz
  go_enter Tryz.func150, Tryz.ntmps150
  go_upto_region 2 with fail
  generalize (w.alloc (Obj.cells #[Value.int IntKind.i64 0, Value.int IntKind.i64 0, Value.int IntKind.i64 0, Value.slice none 0 0] 190)).alloc (Obj.cells #[Value.int IntKind.i64 0, Value.int IntKind.i64 0, Value.int IntKind.i64 0, Value.slice none 0 0] 190) = w1 at *
  go_wp2_with fail
  refine (HQ.out _).mono ?_; rintro e wx ⟨rfl, rfl⟩
  clear HQ
  go_wp2_with fail
  go_loopw [8] (fun v8 wr => RqJ l i w v8 wr) (fun v8 _ => l.length + 2 - (intOf v8).toNat)
  case atStart => exact HJ.out
  case round =>
    obtain ⟨k, t, a, c, hik, hkl, rfl, hj1, hj2, htl, h4, h5, ho, hb, hzr⟩ := hrel
    have H4 := Lib.hid h4
    have H5 := Lib.hid h5
    have HO := Lib.hid ho
    have HB := Lib.hid hb
    have HJ1 := Lib.hid hj1
    have HJ2 := Lib.hid hj2
    clear h4 h5 ho hb hj1 hj2 HJ
    by_cases hlt : k < l.length
    · have dk : decide (k < l.length) = true := decide_eq_true hlt
      by_cases hqk : quAt l k = true
      · have HQ0 := Lib.hid (fun w => rquote_yes HS.out hl k hqk w)
        by_cases hq2 : quAt l (k + 1) = true
        · have HQ1 : Hid (∀ w, Calls Tryz.prog 175 #[.string s, .int .i64 ((k : Int) + 1)] w fun e w' => e = .returned (.bool true) ∧ w = w') := fun w => rquote_yes HS.out hl (k + 1) hq2 w
          have hin := Lib.hid (inQ_two hqk hq2)
          have hk2 := (quAt_yes hq2).1
          have HJ1' : Hid ((inQ l (i + 1)).1 = (t ++ [(k : Int)]) ++ (inQ l (k + 2)).1) := by show _ = _; rw [HJ1.out, hin.out]; simp
          have HJ2' : Hid ((inQ l (i + 1)).2 = (inQ l (k + 2)).2) := by show _ = _; rw [HJ2.out, hin.out]
          clear hqk hq2
          have i0c : wr.cell? ⟨w.heap.size + 1, 3, none⟩ = some (.slice a t.length c) := by rw [cell_at H5.out]; rfl
          have HLN := Lib.hid (inC_len t)
          have HSN := Lib.hid (inC_snoc t (k : Int))
          go_wp2_with (first
            | (go_at_call 175; (with_reducible refine (HQ0.out _).mono ?_); rintro e w' ⟨rfl, rfl⟩)
            | (go_at_call 175; (with_reducible refine (HQ1.out _).mono ?_); rintro e w' ⟨rfl, rfl⟩)
            | (at_builtin; refine wpList_append_own _ rfl (.tmp 58) (.tmp 60) 157 rfl (w.heap.size + 2) 3 i0 (.int .i64 0) 1 8 Tryz.underlying157 hi0 hz0 hz1 hz2 rfl (by decide) (.slice a t.length c) t.length (inC t) rfl (HO.out.alloc _) ⟨wr.heap.size, 0, none⟩ 1 1 [.int .i64 k] rfl rfl ?c1 ?c2 ?c3 ?c4 ?c5 ?_)
            | fail)
          case c1 =>
            intro q u hq
            rw [Addr.add_lit, Nat.zero_add]
            rw [cell_at (heap_alloc_new wr _)]
            simpa using hq
          case c2 =>
            intro u hu
            obtain rfl := List.mem_singleton.1 hu; rfl
          case c3 => unfold maxLen; omega
          case c4 => omega
          case c5 => simp only [World.size_alloc]; omega
          intro v7 wB ho7 hg7 _
          obtain ⟨a8, c8, rfl⟩ := own_slice ho7
          have al := below_al wr (Obj.cells #[Value.int IntKind.i64 k] 3)
          have HOa := own_below HO.out al
          have H4B := Lib.hid ((hg7.block w.heap.size (by simp only [World.size_alloc]; omega) (fun e => by have := (HOa.lt _ e.symm).1; omega)).trans ((al.block w.heap.size (by omega)).trans H4.out))
          have H5B := Lib.hid ((hg7.block (w.heap.size + 1) (by simp only [World.size_alloc]; omega) (fun e => by have := (HOa.lt _ e.symm).1; omega)).trans ((al.block (w.heap.size + 1) (by omega)).trans H5.out))
          have HOB := Lib.hid ho7
          have HBB := Lib.hid ((HB.out.trans (al.mono HB.out.size)).grown hg7 (by simp only [World.size_alloc]; omega) (fun q hq => by have := (HOa.lt q hq).1; omega))
          have hzB : w.heap.size + 2 ≤ wB.heap.size := by have := hg7.size; simp only [World.size_alloc] at this; omega
          clear ho7 hg7 al HOa i0c H4 H5 HO HB
          have j3 : wB.cell? ⟨w.heap.size + 1, 3, none⟩ = some (.slice a t.length c) := by rw [cell_at H5B.out]; rfl
          have z3 := unfrozen H5B.out 3
          go_wp2_with (go_at_call 175; refine (HQ0.out _).mono ?_; rintro e w' ⟨rfl, rfl⟩)
          go_roundw
          case rel => exact ⟨k + 2, t ++ [(k : Int)], a8, c8, by omega, by omega, by go_num, HJ1'.out, HJ2'.out, by simp; omega, (heap_set_other (by omega)).trans H4B.out, by rw [heap_set_at H5B.out]; simp, by rw [HSN.out, List.length_append]; exact own_set HOB.out (own_ne HOB.out H5B.out (by decide)), HBB.out.setCell (p := ⟨w.heap.size + 1, 3, none⟩) (by show w.heap.size ≤ w.heap.size + 1; omega) _, by rw [size_set]; exact hzB⟩
          case measure => simp [intOf]; omega
        · have hq2 := Bool.eq_false_iff.2 hq2
          have HQ1 : Hid (∀ w, Calls Tryz.prog 175 #[.string s, .int .i64 ((k : Int) + 1)] w fun e w' => e = .returned (.bool false) ∧ w = w') := fun w => rquote_no HS.out hl (k + 1) hq2 w
          have hin : inQ l k = (pls k k, k, true) := by rw [inQ_stop hqk hq2, pls_nil]
          have HF := Lib.hid (qd_shut HQQ.out HJ1.out HJ2.out hin)
          have HTL : Hid (∀ w, Calls Tryz.prog 176 #[.string s, .int .i64 ((k : Int) + 1)] w fun e w' => e = .returned (.int .i64 (till l (k + 1))) ∧ w = w') := fun w => rtill_of HS.out hl (k + 1) (by omega) w
          have ht1 := till_ge l (k + 1)
          have ht2 := till_le (l := l) (i := k + 1) (by omega)
          have dg : decide (l.length ≤ k) = false := decide_eq_false (by omega)
          clear hqk hq2 hin
          generalize till l (k + 1) = en at *
          rw [pls_nil, List.append_nil] at HF
          generalize fieldP l i = F at *
          go_wp2_with (first
            | (go_at_call 175; (with_reducible refine (HQ0.out _).mono ?_); rintro e w' ⟨rfl, rfl⟩)
            | (go_at_call 175; (with_reducible refine (HQ1.out _).mono ?_); rintro e w' ⟨rfl, rfl⟩)
            | fail)
          refine (HTL.out _).mono ?_; rintro e w' ⟨rfl, rfl⟩
          clear HQ0 HQ1 HTL
          have y0 : wr.cell? ⟨w.heap.size + 1, 0, none⟩ = some (.int .i64 0) := by rw [cell_at H5.out]; rfl
          have y1 : wr.cell? ⟨w.heap.size + 1, 1, none⟩ = some (.int .i64 0) := by rw [cell_at H5.out]; rfl
          have y2 : wr.cell? ⟨w.heap.size + 1, 2, none⟩ = some (.int .i64 0) := by rw [cell_at H5.out]; rfl
          have y3 : wr.cell? ⟨w.heap.size + 1, 3, none⟩ = some (.slice a t.length c) := by rw [cell_at H5.out]; rfl
          have z0 := unfrozen H5.out 0
          have z1 := unfrozen H5.out 1
          have z2 := unfrozen H5.out 2
          have z3 := unfrozen H5.out 3
          by_cases hT : k + 1 < en
          · have dT : decide (k + 1 < en) = true := decide_eq_true hT
            have dT' : decide ((k : Int) + 1 < (en : Int)) = true := decide_eq_true (by omega)
            have HKD := Lib.hid (show F.kind = 3 by rw [HF.out.2.2.1, if_pos hT])
            have H5K : Hid (((wr.setCell ⟨w.heap.size + 1, 2, none⟩ (.int .i64 1)).setCell ⟨w.heap.size + 1, 2, none⟩ (.int .i64 3)).heap[w.heap.size + 1]? = some (.cells #[.int .i64 0, .int .i64 0, .int .i64 3, .slice a t.length c] 190 (0, 0))) := heap_set_at (heap_set_at H5.out)
            have H4K : Hid (((wr.setCell ⟨w.heap.size + 1, 2, none⟩ (.int .i64 1)).setCell ⟨w.heap.size + 1, 2, none⟩ (.int .i64 3)).heap[w.heap.size]? = some (.cells #[.int .i64 0, .int .i64 0, .int .i64 0, .slice none 0 0] 190 (0, 0))) := (heap_set_other (by omega)).trans ((heap_set_other (by omega)).trans H4.out)
            have hne := own_ne HO.out H5.out (by decide)
            have HOK := Lib.hid (own_set (o := 2) (u := .int .i64 3) (own_set (o := 2) (u := .int .i64 1) HO.out hne) hne)
            have HBK := Lib.hid ((HB.out.setCell (p := ⟨w.heap.size + 1, 2, none⟩) (by show w.heap.size ≤ w.heap.size + 1; omega) (.int .i64 1)).setCell (p := ⟨w.heap.size + 1, 2, none⟩) (by show w.heap.size ≤ w.heap.size + 1; omega) (.int .i64 3))
            have hzK : w.heap.size + 2 ≤ ((wr.setCell ⟨w.heap.size + 1, 2, none⟩ (.int .i64 1)).setCell ⟨w.heap.size + 1, 2, none⟩ (.int .i64 3)).heap.size := by simp only [size_set]; exact hzr
            clear hne
            go_upto_region 26 with fail
            clear y0 y1 y2 y3 z0 z1 z2 z3 H4 H5 HO HB hzr
            generalize (wr.setCell ⟨w.heap.size + 1, 2, none⟩ (.int .i64 1)).setCell ⟨w.heap.size + 1, 2, none⟩ (.int .i64 3) = wK at *
            have HPL : Hid (Calls Tryz.prog 177 #[.slice a t.length c, .int .i64 ((k : Int) + 1), .int .i64 en] wK fun e w' => ∃ a' c', e = .returned (.slice a' (t ++ pls (k + 1) en).length c') ∧ w'.ownsRow (w.heap.size + 2) 3 1 (.slice a' (t ++ pls (k + 1) en).length c') (t ++ pls (k + 1) en).length (inC (t ++ pls (k + 1) en)) ∧ Below (w.heap.size + 2) wK w' ∧ wK.heap.size ≤ w'.heap.size) := places_of HOK.out hzK (k + 1) en ht1 (by omega) (by omega)
            have k3 : wK.cell? ⟨w.heap.size + 1, 3, none⟩ = some (.slice a t.length c) := by rw [cell_at H5K.out]; rfl
            go_wp2_with fail
            refine HPL.out.mono ?_; rintro e wB ⟨a', c', rfl, hoB, hbB, hzB⟩
            generalize hp : t ++ pls (k + 1) en = tt at *
            have HTT := Lib.hid hp
            clear hp
            have HOB := Lib.hid hoB
            have H5B := Lib.hid ((hbB.block (w.heap.size + 1) (by omega)).trans H5K.out)
            have H4B := Lib.hid ((hbB.block w.heap.size (by omega)).trans H4K.out)
            have HBB := Lib.hid (HBK.out.trans (hbB.mono (by omega)))
            clear hoB hbB HPL k3 H5K H4K HOK HBK
            have y0 : wB.cell? ⟨w.heap.size + 1, 0, none⟩ = some (.int .i64 0) := by rw [cell_at H5B.out]; rfl
            have y1 : wB.cell? ⟨w.heap.size + 1, 1, none⟩ = some (.int .i64 0) := by rw [cell_at H5B.out]; rfl
            have y2 : wB.cell? ⟨w.heap.size + 1, 2, none⟩ = some (.int .i64 3) := by rw [cell_at H5B.out]; rfl
            have y3 : wB.cell? ⟨w.heap.size + 1, 3, none⟩ = some (.slice a t.length c) := by rw [cell_at H5B.out]; rfl
            have z0 := unfrozen H5B.out 0
            have z1 := unfrozen H5B.out 1
            have z2 := unfrozen H5B.out 2
            have z3 := unfrozen H5B.out 3
            have H5z : Hid ((((wB.setCell ⟨w.heap.size + 1, 3, none⟩ (.slice a' tt.length c')).setCell ⟨w.heap.size + 1, 0, none⟩ (.int .i64 i)).setCell ⟨w.heap.size + 1, 1, none⟩ (.int .i64 ((en : Int) - i))).heap[w.heap.size + 1]? = some (.cells #[.int .i64 i, .int .i64 ((en : Int) - i), .int .i64 3, .slice a' tt.length c'] 190 (0, 0))) := heap_set_at (heap_set_at (heap_set_at H5B.out))
            have H4z : Hid ((((wB.setCell ⟨w.heap.size + 1, 3, none⟩ (.slice a' tt.length c')).setCell ⟨w.heap.size + 1, 0, none⟩ (.int .i64 i)).setCell ⟨w.heap.size + 1, 1, none⟩ (.int .i64 ((en : Int) - i))).heap[w.heap.size]? = some (.cells #[.int .i64 0, .int .i64 0, .int .i64 0, .slice none 0 0] 190 (0, 0))) := (heap_set_other (by omega)).trans ((heap_set_other (by omega)).trans ((heap_set_other (by omega)).trans H4B.out))
            have hne := own_ne HOB.out H5B.out (by decide)
            have HOz := Lib.hid (own_set (o := 1) (u := .int .i64 ((en : Int) - i)) (own_set (o := 0) (u := .int .i64 i) (own_set (o := 3) (u := .slice a' tt.length c') HOB.out hne) hne) hne)
            have HBz := Lib.hid (((HBB.out.setCell (p := ⟨w.heap.size + 1, 3, none⟩) (by show w.heap.size ≤ w.heap.size + 1; omega) (.slice a' tt.length c')).setCell (p := ⟨w.heap.size + 1, 0, none⟩) (by show w.heap.size ≤ w.heap.size + 1; omega) (.int .i64 i)).setCell (p := ⟨w.heap.size + 1, 1, none⟩) (by show w.heap.size ≤ w.heap.size + 1; omega) (.int .i64 ((en : Int) - i)))
            clear hne
            go_upto_region 28 with fail
            clear y0 y1 y2 y3 z0 z1 z2 z3 H5B H4B HOB HBB
            generalize ((wB.setCell ⟨w.heap.size + 1, 3, none⟩ (.slice a' tt.length c')).setCell ⟨w.heap.size + 1, 0, none⟩ (.int .i64 i)).setCell ⟨w.heap.size + 1, 1, none⟩ (.int .i64 ((en : Int) - i)) = wz at *
            have x0 : wz.cell? ⟨w.heap.size, 0, none⟩ = some (.int .i64 0) := by rw [cell_at H4z.out]; rfl
            have x1 : wz.cell? ⟨w.heap.size, 1, none⟩ = some (.int .i64 0) := by rw [cell_at H4z.out]; rfl
            have x2 : wz.cell? ⟨w.heap.size, 2, none⟩ = some (.int .i64 0) := by rw [cell_at H4z.out]; rfl
            have x3 : wz.cell? ⟨w.heap.size, 3, none⟩ = some (.slice none 0 0) := by rw [cell_at H4z.out]; rfl
            have o0 := unfrozen H4z.out 0
            have o1 := unfrozen H4z.out 1
            have o2 := unfrozen H4z.out 2
            have o3 := unfrozen H4z.out 3
            have y0 : wz.cell? ⟨w.heap.size + 1, 0, none⟩ = some (.int .i64 i) := by rw [cell_at H5z.out]; rfl
            have y1 : wz.cell? ⟨w.heap.size + 1, 1, none⟩ = some (.int .i64 ((en : Int) - i)) := by rw [cell_at H5z.out]; rfl
            have y2 : wz.cell? ⟨w.heap.size + 1, 2, none⟩ = some (.int .i64 3) := by rw [cell_at H5z.out]; rfl
            have y3 : wz.cell? ⟨w.heap.size + 1, 3, none⟩ = some (.slice a' tt.length c') := by rw [cell_at H5z.out]; rfl
            have Q4 := Lib.hid (four_cells H4z.out (.int .i64 i) (.int .i64 ((en : Int) - i)) (.int .i64 3) (.slice a' tt.length c'))
            go_wp2_with fail
            have q0 := Q4.out 0 (.int .i64 i) rfl
            have q1 := Q4.out 1 (.int .i64 ((en : Int) - i)) rfl
            have q2 := Q4.out 2 (.int .i64 3) rfl
            have q3 := Q4.out 3 (.slice a' tt.length c') rfl
            refine bodyPost_ret (v := .agg #[.int .i64 i, .int .i64 ((en : Int) - i), .int .i64 3, .slice a' tt.length c']) (by simp [results, Tryz.results150, go_sem, q0, q1, q2, q3]) rfl ?_
            obtain ⟨f1, f2, f3, f4⟩ := HF.out
            have f4' : F.pl = tt := f4
            refine ⟨a', c', ?_, ?_, four_below HBz.out (Nat.le_refl _) _ _ _ _⟩
            · rw [fdV_eq (i := (i : Int)) (j := (en : Int) - i) (k := 3) (by rw [f1]) (by rw [f2]) HKD.out, f4']
            · rw [f4']
              exact own_mono (four_own H4z.out HOz.out (by decide) _ _ _ _) (by omega)
          · have dT : decide (k + 1 < en) = false := decide_eq_false hT
            have dT' : decide ((k : Int) + 1 < (en : Int)) = false := decide_eq_false (by omega)
            have HKD := Lib.hid (show F.kind = 1 by rw [HF.out.2.2.1, if_neg hT])
            have H5K : Hid ((wr.setCell ⟨w.heap.size + 1, 2, none⟩ (.int .i64 1)).heap[w.heap.size + 1]? = some (.cells #[.int .i64 0, .int .i64 0, .int .i64 1, .slice a t.length c] 190 (0, 0))) := heap_set_at H5.out
            have H4K : Hid ((wr.setCell ⟨w.heap.size + 1, 2, none⟩ (.int .i64 1)).heap[w.heap.size]? = some (.cells #[.int .i64 0, .int .i64 0, .int .i64 0, .slice none 0 0] 190 (0, 0))) := (heap_set_other (by omega)).trans H4.out
            have hne := own_ne HO.out H5.out (by decide)
            have HOK := Lib.hid (own_set (o := 2) (u := .int .i64 1) HO.out hne)
            have HBK := Lib.hid (HB.out.setCell (p := ⟨w.heap.size + 1, 2, none⟩) (by show w.heap.size ≤ w.heap.size + 1; omega) (.int .i64 1))
            have hzK : w.heap.size + 2 ≤ (wr.setCell ⟨w.heap.size + 1, 2, none⟩ (.int .i64 1)).heap.size := by simp only [size_set]; exact hzr
            clear hne
            go_upto_region 26 with fail
            clear y0 y1 y2 y3 z0 z1 z2 z3 H4 H5 HO HB hzr
            generalize wr.setCell ⟨w.heap.size + 1, 2, none⟩ (.int .i64 1) = wK at *
            have HPL : Hid (Calls Tryz.prog 177 #[.slice a t.length c, .int .i64 ((k : Int) + 1), .int .i64 en] wK fun e w' => ∃ a' c', e = .returned (.slice a' (t ++ pls (k + 1) en).length c') ∧ w'.ownsRow (w.heap.size + 2) 3 1 (.slice a' (t ++ pls (k + 1) en).length c') (t ++ pls (k + 1) en).length (inC (t ++ pls (k + 1) en)) ∧ Below (w.heap.size + 2) wK w' ∧ wK.heap.size ≤ w'.heap.size) := places_of HOK.out hzK (k + 1) en ht1 (by omega) (by omega)
            have k3 : wK.cell? ⟨w.heap.size + 1, 3, none⟩ = some (.slice a t.length c) := by rw [cell_at H5K.out]; rfl
            go_wp2_with fail
            refine HPL.out.mono ?_; rintro e wB ⟨a', c', rfl, hoB, hbB, hzB⟩
            generalize hp : t ++ pls (k + 1) en = tt at *
            have HTT := Lib.hid hp
            clear hp
            have HOB := Lib.hid hoB
            have H5B := Lib.hid ((hbB.block (w.heap.size + 1) (by omega)).trans H5K.out)
            have H4B := Lib.hid ((hbB.block w.heap.size (by omega)).trans H4K.out)
            have HBB := Lib.hid (HBK.out.trans (hbB.mono (by omega)))
            clear hoB hbB HPL k3 H5K H4K HOK HBK
            have y0 : wB.cell? ⟨w.heap.size + 1, 0, none⟩ = some (.int .i64 0) := by rw [cell_at H5B.out]; rfl
            have y1 : wB.cell? ⟨w.heap.size + 1, 1, none⟩ = some (.int .i64 0) := by rw [cell_at H5B.out]; rfl
            have y2 : wB.cell? ⟨w.heap.size + 1, 2, none⟩ = some (.int .i64 1) := by rw [cell_at H5B.out]; rfl
            have y3 : wB.cell? ⟨w.heap.size + 1, 3, none⟩ = some (.slice a t.length c) := by rw [cell_at H5B.out]; rfl
            have z0 := unfrozen H5B.out 0
            have z1 := unfrozen H5B.out 1
            have z2 := unfrozen H5B.out 2
            have z3 := unfrozen H5B.out 3
            have H5z : Hid ((((wB.setCell ⟨w.heap.size + 1, 3, none⟩ (.slice a' tt.length c')).setCell ⟨w.heap.size + 1, 0, none⟩ (.int .i64 i)).setCell ⟨w.heap.size + 1, 1, none⟩ (.int .i64 ((en : Int) - i))).heap[w.heap.size + 1]? = some (.cells #[.int .i64 i, .int .i64 ((en : Int) - i), .int .i64 1, .slice a' tt.length c'] 190 (0, 0))) := heap_set_at (heap_set_at (heap_set_at H5B.out))
            have H4z : Hid ((((wB.setCell ⟨w.heap.size + 1, 3, none⟩ (.slice a' tt.length c')).setCell ⟨w.heap.size + 1, 0, none⟩ (.int .i64 i)).setCell ⟨w.heap.size + 1, 1, none⟩ (.int .i64 ((en : Int) - i))).heap[w.heap.size]? = some (.cells #[.int .i64 0, .int .i64 0, .int .i64 0, .slice none 0 0] 190 (0, 0))) := (heap_set_other (by omega)).trans ((heap_set_other (by omega)).trans ((heap_set_other (by omega)).trans H4B.out))
            have hne := own_ne HOB.out H5B.out (by decide)
            have HOz := Lib.hid (own_set (o := 1) (u := .int .i64 ((en : Int) - i)) (own_set (o := 0) (u := .int .i64 i) (own_set (o := 3) (u := .slice a' tt.length c') HOB.out hne) hne) hne)
            have HBz := Lib.hid (((HBB.out.setCell (p := ⟨w.heap.size + 1, 3, none⟩) (by show w.heap.size ≤ w.heap.size + 1; omega) (.slice a' tt.length c')).setCell (p := ⟨w.heap.size + 1, 0, none⟩) (by show w.heap.size ≤ w.heap.size + 1; omega) (.int .i64 i)).setCell (p := ⟨w.heap.size + 1, 1, none⟩) (by show w.heap.size ≤ w.heap.size + 1; omega) (.int .i64 ((en : Int) - i)))
            clear hne
            go_upto_region 28 with fail
            clear y0 y1 y2 y3 z0 z1 z2 z3 H5B H4B HOB HBB
            generalize ((wB.setCell ⟨w.heap.size + 1, 3, none⟩ (.slice a' tt.length c')).setCell ⟨w.heap.size + 1, 0, none⟩ (.int .i64 i)).setCell ⟨w.heap.size + 1, 1, none⟩ (.int .i64 ((en : Int) - i)) = wz at *
            have x0 : wz.cell? ⟨w.heap.size, 0, none⟩ = some (.int .i64 0) := by rw [cell_at H4z.out]; rfl
            have x1 : wz.cell? ⟨w.heap.size, 1, none⟩ = some (.int .i64 0) := by rw [cell_at H4z.out]; rfl
            have x2 : wz.cell? ⟨w.heap.size, 2, none⟩ = some (.int .i64 0) := by rw [cell_at H4z.out]; rfl
            have x3 : wz.cell? ⟨w.heap.size, 3, none⟩ = some (.slice none 0 0) := by rw [cell_at H4z.out]; rfl
            have o0 := unfrozen H4z.out 0
            have o1 := unfrozen H4z.out 1
            have o2 := unfrozen H4z.out 2
            have o3 := unfrozen H4z.out 3
            have y0 : wz.cell? ⟨w.heap.size + 1, 0, none⟩ = some (.int .i64 i) := by rw [cell_at H5z.out]; rfl
            have y1 : wz.cell? ⟨w.heap.size + 1, 1, none⟩ = some (.int .i64 ((en : Int) - i)) := by rw [cell_at H5z.out]; rfl
            have y2 : wz.cell? ⟨w.heap.size + 1, 2, none⟩ = some (.int .i64 1) := by rw [cell_at H5z.out]; rfl
            have y3 : wz.cell? ⟨w.heap.size + 1, 3, none⟩ = some (.slice a' tt.length c') := by rw [cell_at H5z.out]; rfl
            have Q4 := Lib.hid (four_cells H4z.out (.int .i64 i) (.int .i64 ((en : Int) - i)) (.int .i64 1) (.slice a' tt.length c'))
            go_wp2_with fail
            have q0 := Q4.out 0 (.int .i64 i) rfl
            have q1 := Q4.out 1 (.int .i64 ((en : Int) - i)) rfl
            have q2 := Q4.out 2 (.int .i64 1) rfl
            have q3 := Q4.out 3 (.slice a' tt.length c') rfl
            refine bodyPost_ret (v := .agg #[.int .i64 i, .int .i64 ((en : Int) - i), .int .i64 1, .slice a' tt.length c']) (by simp [results, Tryz.results150, go_sem, q0, q1, q2, q3]) rfl ?_
            obtain ⟨f1, f2, f3, f4⟩ := HF.out
            have f4' : F.pl = tt := f4
            refine ⟨a', c', ?_, ?_, four_below HBz.out (Nat.le_refl _) _ _ _ _⟩
            · rw [fdV_eq (i := (i : Int)) (j := (en : Int) - i) (k := 1) (by rw [f1]) (by rw [f2]) HKD.out, f4']
            · rw [f4']
              exact own_mono (four_own H4z.out HOz.out (by decide) _ _ _ _) (by omega)
      · have hqk := Bool.eq_false_iff.2 hqk
        have HQ0 := Lib.hid (fun w => rquote_no HS.out hl k hqk w)
        have HQ1 := HQ0
        have hin := Lib.hid (inQ_byte hlt hqk)
        have HJ1' : Hid ((inQ l (i + 1)).1 = (t ++ [(k : Int)]) ++ (inQ l (k + 1)).1) := by show _ = _; rw [HJ1.out, hin.out]; simp
        have HJ2' : Hid ((inQ l (i + 1)).2 = (inQ l (k + 1)).2) := by show _ = _; rw [HJ2.out, hin.out]
        clear hqk
        have i0c : wr.cell? ⟨w.heap.size + 1, 3, none⟩ = some (.slice a t.length c) := by rw [cell_at H5.out]; rfl
        have HLN := Lib.hid (inC_len t)
        have HSN := Lib.hid (inC_snoc t (k : Int))
        go_wp2_with (first
          | (go_at_call 175; (with_reducible refine (HQ0.out _).mono ?_); rintro e w' ⟨rfl, rfl⟩)
          | (go_at_call 175; (with_reducible refine (HQ1.out _).mono ?_); rintro e w' ⟨rfl, rfl⟩)
          | (at_builtin; refine wpList_append_own _ rfl (.tmp 58) (.tmp 60) 157 rfl (w.heap.size + 2) 3 i0 (.int .i64 0) 1 8 Tryz.underlying157 hi0 hz0 hz1 hz2 rfl (by decide) (.slice a t.length c) t.length (inC t) rfl (HO.out.alloc _) ⟨wr.heap.size, 0, none⟩ 1 1 [.int .i64 k] rfl rfl ?c1 ?c2 ?c3 ?c4 ?c5 ?_)
          | fail)
        case c1 =>
          intro q u hq
          rw [Addr.add_lit, Nat.zero_add]
          rw [cell_at (heap_alloc_new wr _)]
          simpa using hq
        case c2 =>
          intro u hu
          obtain rfl := List.mem_singleton.1 hu; rfl
        case c3 => unfold maxLen; omega
        case c4 => omega
        case c5 => simp only [World.size_alloc]; omega
        intro v7 wB ho7 hg7 _
        obtain ⟨a8, c8, rfl⟩ := own_slice ho7
        have al := below_al wr (Obj.cells #[Value.int IntKind.i64 k] 3)
        have HOa := own_below HO.out al
        have H4B := Lib.hid ((hg7.block w.heap.size (by simp only [World.size_alloc]; omega) (fun e => by have := (HOa.lt _ e.symm).1; omega)).trans ((al.block w.heap.size (by omega)).trans H4.out))
        have H5B := Lib.hid ((hg7.block (w.heap.size + 1) (by simp only [World.size_alloc]; omega) (fun e => by have := (HOa.lt _ e.symm).1; omega)).trans ((al.block (w.heap.size + 1) (by omega)).trans H5.out))
        have HOB := Lib.hid ho7
        have HBB := Lib.hid ((HB.out.trans (al.mono HB.out.size)).grown hg7 (by simp only [World.size_alloc]; omega) (fun q hq => by have := (HOa.lt q hq).1; omega))
        have hzB : w.heap.size + 2 ≤ wB.heap.size := by have := hg7.size; simp only [World.size_alloc] at this; omega
        clear ho7 hg7 al HOa i0c H4 H5 HO HB
        have j3 : wB.cell? ⟨w.heap.size + 1, 3, none⟩ = some (.slice a t.length c) := by rw [cell_at H5B.out]; rfl
        have z3 := unfrozen H5B.out 3
        go_wp2_with (go_at_call 175; refine (HQ0.out _).mono ?_; rintro e w' ⟨rfl, rfl⟩)
        go_roundw
        case rel => exact ⟨k + 1, t ++ [(k : Int)], a8, c8, by omega, by omega, by go_num, HJ1'.out, HJ2'.out, by simp; omega, (heap_set_other (by omega)).trans H4B.out, by rw [heap_set_at H5B.out]; simp, by rw [HSN.out, List.length_append]; exact own_set HOB.out (own_ne HOB.out H5B.out (by decide)), HBB.out.setCell (p := ⟨w.heap.size + 1, 3, none⟩) (by show w.heap.size ≤ w.heap.size + 1; omega) _, by rw [size_set]; exact hzB⟩
        case measure => simp [intOf]; omega
    · have dk : decide (k < l.length) = false := decide_eq_false hlt
      have dg : decide (l.length ≤ k) = true := decide_eq_true (by omega)
      have hkn : k = l.length := by omega
      have hin : inQ l k = (pls k l.length, l.length, false) := by rw [inQ_end (by omega), hkn, pls_nil]
      have HF := Lib.hid (qd_open HQQ.out HJ1.out HJ2.out hin hkn)
      rw [pls_nil, List.append_nil] at HF
      clear hin hkn
      generalize fieldP l i = F at *
      have y0 : wr.cell? ⟨w.heap.size + 1, 0, none⟩ = some (.int .i64 0) := by rw [cell_at H5.out]; rfl
      have y1 : wr.cell? ⟨w.heap.size + 1, 1, none⟩ = some (.int .i64 0) := by rw [cell_at H5.out]; rfl
      have y2 : wr.cell? ⟨w.heap.size + 1, 2, none⟩ = some (.int .i64 0) := by rw [cell_at H5.out]; rfl
      have y3 : wr.cell? ⟨w.heap.size + 1, 3, none⟩ = some (.slice a t.length c) := by rw [cell_at H5.out]; rfl
      have z0 := unfrozen H5.out 0
      have z1 := unfrozen H5.out 1
      have z2 := unfrozen H5.out 2
      have z3 := unfrozen H5.out 3
      have H5z : Hid ((((wr.setCell ⟨w.heap.size + 1, 2, none⟩ (.int .i64 4)).setCell ⟨w.heap.size + 1, 0, none⟩ (.int .i64 i)).setCell ⟨w.heap.size + 1, 1, none⟩ (.int .i64 ((l.length : Int) - i))).heap[w.heap.size + 1]? = some (.cells #[.int .i64 i, .int .i64 ((l.length : Int) - i), .int .i64 4, .slice a t.length c] 190 (0, 0))) := heap_set_at (heap_set_at (heap_set_at H5.out))
      have H4z : Hid ((((wr.setCell ⟨w.heap.size + 1, 2, none⟩ (.int .i64 4)).setCell ⟨w.heap.size + 1, 0, none⟩ (.int .i64 i)).setCell ⟨w.heap.size + 1, 1, none⟩ (.int .i64 ((l.length : Int) - i))).heap[w.heap.size]? = some (.cells #[.int .i64 0, .int .i64 0, .int .i64 0, .slice none 0 0] 190 (0, 0))) := (heap_set_other (by omega)).trans ((heap_set_other (by omega)).trans ((heap_set_other (by omega)).trans H4.out))
      have hne := own_ne HO.out H5.out (by decide)
      have HOz := Lib.hid (own_set (o := 1) (u := .int .i64 ((l.length : Int) - i)) (own_set (o := 0) (u := .int .i64 i) (own_set (o := 2) (u := .int .i64 4) HO.out hne) hne) hne)
      have HBz := Lib.hid (((HB.out.setCell (p := ⟨w.heap.size + 1, 2, none⟩) (by show w.heap.size ≤ w.heap.size + 1; omega) (.int .i64 4)).setCell (p := ⟨w.heap.size + 1, 0, none⟩) (by show w.heap.size ≤ w.heap.size + 1; omega) (.int .i64 i)).setCell (p := ⟨w.heap.size + 1, 1, none⟩) (by show w.heap.size ≤ w.heap.size + 1; omega) (.int .i64 ((l.length : Int) - i)))
      clear hne
      go_upto_region 21 with fail
      clear y0 y1 y2 y3 z0 z1 z2 z3 H5 H4 HO HB
      generalize ((wr.setCell ⟨w.heap.size + 1, 2, none⟩ (.int .i64 4)).setCell ⟨w.heap.size + 1, 0, none⟩ (.int .i64 i)).setCell ⟨w.heap.size + 1, 1, none⟩ (.int .i64 ((l.length : Int) - i)) = wz at *
      have x0 : wz.cell? ⟨w.heap.size, 0, none⟩ = some (.int .i64 0) := by rw [cell_at H4z.out]; rfl
      have x1 : wz.cell? ⟨w.heap.size, 1, none⟩ = some (.int .i64 0) := by rw [cell_at H4z.out]; rfl
      have x2 : wz.cell? ⟨w.heap.size, 2, none⟩ = some (.int .i64 0) := by rw [cell_at H4z.out]; rfl
      have x3 : wz.cell? ⟨w.heap.size, 3, none⟩ = some (.slice none 0 0) := by rw [cell_at H4z.out]; rfl
      have o0 := unfrozen H4z.out 0
      have o1 := unfrozen H4z.out 1
      have o2 := unfrozen H4z.out 2
      have o3 := unfrozen H4z.out 3
      have y0 : wz.cell? ⟨w.heap.size + 1, 0, none⟩ = some (.int .i64 i) := by rw [cell_at H5z.out]; rfl
      have y1 : wz.cell? ⟨w.heap.size + 1, 1, none⟩ = some (.int .i64 ((l.length : Int) - i)) := by rw [cell_at H5z.out]; rfl
      have y2 : wz.cell? ⟨w.heap.size + 1, 2, none⟩ = some (.int .i64 4) := by rw [cell_at H5z.out]; rfl
      have y3 : wz.cell? ⟨w.heap.size + 1, 3, none⟩ = some (.slice a t.length c) := by rw [cell_at H5z.out]; rfl
      have Q4 := Lib.hid (four_cells H4z.out (.int .i64 i) (.int .i64 ((l.length : Int) - i)) (.int .i64 4) (.slice a t.length c))
      go_wp2_with fail
      have q0 := Q4.out 0 (.int .i64 i) rfl
      have q1 := Q4.out 1 (.int .i64 ((l.length : Int) - i)) rfl
      have q2 := Q4.out 2 (.int .i64 4) rfl
      have q3 := Q4.out 3 (.slice a t.length c) rfl
      refine bodyPost_ret (v := .agg #[.int .i64 i, .int .i64 ((l.length : Int) - i), .int .i64 4, .slice a t.length c]) (by simp [results, Tryz.results150, go_sem, q0, q1, q2, q3]) rfl ?_
      obtain ⟨f1, f2, f3, f4⟩ := HF.out
      refine ⟨a, c, ?_, ?_, four_below HBz.out (Nat.le_refl _) _ _ _ _⟩
      · rw [fdV_eq (i := (i : Int)) (j := (l.length : Int) - i) (k := 4) (by rw [f1]) (by rw [f2]) f3, f4]
      · rw [f4]
        exact own_mono (four_own H4z.out HOz.out (by decide) _ _ _ _) (by omega)

theorem rfield_of {s : ByteArray} {l : List UInt8} (hs : s.data.toList = l) (hl : l.length ≤ 1000000) (i : Nat) (hi : i ≤ l.length) (w : World) :
    Calls Tryz.prog 150 #[.string s, .int .i64 i] w (RfPost (fieldP l i) w) := by
  by_cases hq : quAt l i = true
  · exact rfield_quoted hs hl i hq w
  · exact rfield_plain hs hl i hi (Bool.eq_false_iff.2 hq) w

end Go.Proofs.YtkgakgceamafcaaGreat
