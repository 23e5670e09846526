/-
  The walk of the statement PieceTidy, at this seat's numbers.
-/
import Derived.Test.YtelnehjmkjpjhaaPcX
namespace Go.Proofs.Ytelnehjmkjpjhaa
open Go Go.RowKit
set_option linter.unusedVariables false

set_option maxHeartbeats 1600000 in
theorem rflat2_of {s : ByteArray} {l : List UInt8} (hs : s.data.toList = l) (hl : l.length ≤ maxLen) {w : World} {a : Option Addr} {c : Nat} {t : List Int} (hr : Rd w 1 a t.length (inC t)) (ht : InL l t) (ht2 : ∀ x ∈ t, x < 1000000) (htl : t.length ≤ 1000000) :
    Calls Try.prog 39 #[.slice a t.length c, .string s] w fun e w' => e = .returned (.string (strOf (atL l t))) ∧ w = w' := by
  have HS := Lib.hid hs
  have hsz := sz_of hs
  have HR := Lib.hid hr
  have HT := Lib.hid ht
  have HT2 := Lib.hid ht2
  unfold maxLen at hl
  clear hs hr ht ht2
  go_enter Try.func39, Try.ntmps39
  go_wp2_with fail
  go_loop [5, 10] (fun v5 v10 => ∃ k : Nat, k ≤ t.length ∧ v10 = .int .i64 k ∧ v5 = .string (strOf (atL l (t.take k)))) (fun _ v10 => t.length - (intOf v10).toNat)
  case atStart => exact ⟨0, by omega, rfl, rfl⟩
  case round =>
    obtain ⟨k, hk, rfl, rfl⟩ := hrel
    have hsk : (strOf (atL l (t.take k))).size ≤ 1000000 := by rw [strOf_size]; simp [atL]; omega
    by_cases hlt : k < t.length
    · have dk : decide (k < t.length) = true := decide_eq_true hlt
      obtain ⟨b, off, rfl, hb, hcl⟩ := HR.out.2 (by omega)
      have hx := HT.out t[k] (List.getElem_mem hlt)
      have hx2 := HT2.out t[k] (List.getElem_mem hlt)
      obtain ⟨x, hxe⟩ := Int.eq_ofNat_of_zero_le hx.1
      have hc := hcl k (.int .i64 t[k]) (by unfold inC; rw [List.getElem?_map, List.getElem?_eq_getElem hlt]; rfl)
      rw [hxe] at hc
      have hxl : x < l.length := by omega
      have hxm : x < 1000000 := by omega
      have d1 : decide ((x : Int) < (l.length : Int)) = true := decide_eq_true (by omega)
      have d2 : decide (x < l.length) = true := decide_eq_true hxl
      have d3 : decide ((0 : Int) ≤ (x : Int)) = true := decide_eq_true (by omega)
      have HX := Lib.hid (ext_one HS.out x hxl)
      have HTK := Lib.hid (show atL l (t.take (k + 1)) = atL l (t.take k) ++ [l.getD x 0] by rw [List.take_succ_eq_append_getElem hlt, atL_snoc, hxe]; rfl)
      clear hcl hx hxe hx2
      generalize atL l (t.take k) = A at *
      go_wp2_with fail
      go_round
      case rel => exact ⟨k + 1, hlt, by go_num, by rw [HTK.out, ← strOf_app, ← HX.out]⟩
      case measure => simp [intOf]; omega
    · have dk : decide (k < t.length) = false := decide_eq_false hlt
      obtain rfl : k = t.length := by omega
      rw [List.take_length]
      go_wp2_with fail
      go_ret
      exact ⟨rfl, rfl⟩

theorem atL_pre {l m : List UInt8} {t : List Int} (h : InL l t) (hm : ∃ r, m = l ++ r) : atL m t = atL l t ∧ InL m t := by
  obtain ⟨r, rfl⟩ := hm
  refine ⟨List.map_congr_left (fun x hx => ?_), fun x hx => ?_⟩
  · have := h x hx
    rw [List.getD_eq_getElem?_getD, List.getD_eq_getElem?_getD, List.getElem?_append_left (by omega)]
  · have := h x hx
    rw [List.length_append]; omega
theorem cutS_pre (s : ByteArray) (n : Nat) : ∃ r, s.data.toList = (cutS s n).data.toList ++ r := by
  unfold cutS
  split
  · refine ⟨s.data.toList.drop n, ?_⟩
    rw [ByteArray.data_extract, Array.toList_extract, List.extract_eq_take_drop]
    simp
  · exact ⟨[], by simp⟩
theorem addL_pre (l z : List UInt8) : ∃ r, addL l z = l ++ r := by
  unfold addL
  split
  · exact ⟨[], by simp⟩
  · exact ⟨z, rfl⟩
theorem addL_le {l z : List UInt8} (h : l.length ≤ 16384) : (addL l z).length ≤ 16384 := by
  unfold addL
  split
  · exact h
  · rw [List.length_append]; omega
theorem canon_span {i n : Nat} (h : 1 ≤ n) : canon (ex [((i : Int), (n : Int))]) = [((i : Int), (n : Int))] := by
  rw [← ofS_canon]
  unfold ofS joinS
  rw [List.foldl_cons, if_neg (by simp only; omega)]
  rfl
theorem atL_span {l : List UInt8} {i n : Nat} (h : i + n ≤ l.length) : atL l (ex [((i : Int), (n : Int))]) = (l.drop i).take n := by
  rw [ex_one, atL_ex1 l _ (by simp) (by simp) (by simp only; omega)]
  unfold subL rightB
  rw [if_pos (by simp only [decide_eq_true_eq]; omega)]
  simp

theorem tx_nil (w : World) : Tx w (.slice none 0 0) [] := ⟨none, 0, rfl, ⟨rfl, fun h => by simp [canon] at h⟩, Sm.nil, fun d hd => (by cases hd), fun _ => rfl, fun d hd => (by cases hd)⟩
theorem made_zero (m : Nat) : (madeCells #[Value.int .u8 0] m).toList = bc (List.replicate m 0) := by
  unfold bc
  rw [List.map_replicate]
  simp [madeCells, Nat.mod_one]
  rw [List.map_const', List.length_range]
set_option maxRecDepth 100000 in
set_option maxHeartbeats 2000000 in
theorem pieceTidy_walk (s : ByteArray) (a1 : Option Addr) (c1 : Nat) (L : List (Int × Int)) (k : Int) (w : World) (hs : s.size ≤ maxLen) (hL : SpArg w a1 c1 L) (hk0 : 0 ≤ k) (hk1 : k ≤ 65535) (hm : ML w) :
    Calls Try.prog 5 #[.string s, .slice a1 L.length c1, .int .u16 k] w fun e w' => e = .returned (.bool true) ∧ Below w.heap.size w w' := by
  obtain ⟨i0, hi0, hz0, hz1, hz2⟩ := info_parts info_u8
  have hw0 := hm.1
  have HM := Lib.hid hm
  have HWi := Lib.hid (within_of (c := c1) hs hL)
  have hin := Lib.hid (fit_in (l := (cutS s 200).data.toList) (L := L) (q := L.length) (k := (fewK L L.length).length))
  rw [← sz_of (s := cutS s 200) rfl] at hin
  have hsm := fit_sm (cutS s 200).size L L.length (fewK L L.length).length
  have hpre := Lib.hid (cutS_pre s 200)
  have hcl := cutS_le s 200
  have hlen := Lib.hid (sz_of (s := cutS s 200) rfl)
  have hslen := Lib.hid (sz_of (s := s) rfl)
  generalize ex (fitK (cutS s 200).size (fewK L L.length) (fewK L L.length).length) = T at *
  generalize hgl : (cutS s 200).data.toList = l at *
  have hll : l.length ≤ 200 := by have := hlen.out; omega
  clear hlen hcl hgl hm hL
  obtain ⟨q, rfl⟩ := Int.eq_ofNat_of_zero_le hk0
  go_enter Try.func5, Try.ntmps5
  go_wp2_with fail
  refine HWi.out.mono ?_; rintro e w1 ⟨p, a, n, c, a2, c2, rfl, hA, hX, hI, hb⟩
  have HA := Lib.hid hA
  have HX := Lib.hid hX
  have HI := Lib.hid hI
  have HB := Lib.hid hb
  clear hA hX hI hb HWi
  obtain ⟨m, hqm⟩ : ∃ m : Nat, (q : Int) % 16500 = m := ⟨q % 16500, rfl⟩
  have hm16 : m < 16500 := by omega
  have al := below_al w1 (Obj.cells #[Value.slice a n c] 27)
  have HA2 := Lib.hid (HA.out.below al)
  have HX2 := Lib.hid (HX.out.below al)
  have HI2 := Lib.hid (HI.out.below al)
  have HB2 := Lib.hid (HB.out.trans (al.mono HB.out.size))
  have HK2 := Lib.hid (heap_alloc_new w1 (Obj.cells #[Value.slice a n c] 27))
  have hz12 : (w1.alloc (Obj.cells #[Value.slice a n c] 27)).heap.size > w1.heap.size := by simp
  have hzw1 := HB.out.size
  clear al HA HX HI HB
  go_wp2_with (at_make; refine wpList_make_full _ rfl _ _ 55 rfl w.heap.size 5 i0 (.int .u8 0) 1 Try.underlying55 hi0 hz0 hz1 .i64 .i64 _ _ m rfl rfl (by first | rfl | exact hqm) (by first | rfl | exact hqm) ?b2 ?b3 ?b4 ?_)
  case b2 => rw [hz2]; omega
  case b3 => unfold maxLen; omega
  case b4 => have := HB2.out.size; omega
  intro w3 hown hgrow
  rw [show (madeCells #[Value.int .u8 0] m).toList = bc (List.replicate m 0) from made_zero m] at hown
  have hzl : (List.replicate m (0 : UInt8)).length = m := List.length_replicate
  have HB3 := Lib.hid (HB2.out.trans ((Below.refl _ _).grown hgrow HB2.out.size (by simp)))
  have hbw := (Below.refl ((w1.alloc (Obj.cells #[Value.slice a n c] 27)).heap.size) (w1.alloc (Obj.cells #[Value.slice a n c] 27))).grown hgrow (Nat.le_refl _) (by simp)
  have HA3 := Lib.hid (HA2.out.below hbw)
  have HX3 := Lib.hid (HX2.out.below hbw)
  have HI3 := Lib.hid (HI2.out.below hbw)
  have HK3 := Lib.hid ((hbw.block w1.heap.size (by simp)).trans HK2.out)
  have HAdd := Lib.hid (add_of (c := m) HA3.out (by omega) (some ⟨w1.heap.size + 1, 0, none⟩) HB3.out.size (t := List.replicate m 0) (by rw [hzl]; exact own_rd hown) (by rw [hzl]; unfold maxLen; omega))
  rw [hzl] at HAdd
  have hpl := Lib.hid (addL_pre l (List.replicate m 0))
  have hl2 := addL_le (l := l) (z := List.replicate m 0) (by omega)
  have hz13 := hbw.size
  clear hown hgrow hbw HA2 HX2 HI2 HK2 HB2
  unfold ArPost at HAdd
  generalize addR l (List.replicate m 0) = ra at *
  generalize addL l (List.replicate m 0) = l2 at *
  obtain ⟨ra1, ra2, ra3⟩ := ra
  unfold ret3 at HAdd
  simp only at HAdd
  clear hqm hzl
  go_wp2_with fail
  refine HAdd.out.mono ?_; rintro e w4 ⟨rfl, hA4, hT4⟩
  have HA4 := Lib.hid hA4
  have HX4 := Lib.hid (HX3.out.turned hT4)
  have HI4 := Lib.hid (HI3.out.turned hT4)
  have HK4 := Lib.hid (heap_turned HK3.out hT4 (by decide) (by decide))
  have HB4 := Lib.hid (HB3.out.trans hT4.low)
  have hz4 := hT4.size
  clear hA4 hT4 HA3 HX3 HI3 HK3 HB3 HAdd
  have HLn := Lib.hid (len_of HA4.out)
  have k4 : w4.cell? ⟨w1.heap.size, 0, none⟩ = some (.slice a n c) := by rw [cell_at HK4.out]; rfl
  go_wp2_with (go_at_call 34; refine HLn.out.mono ?_; rintro e w5 ⟨rfl, rfl⟩)
  have hncX : n = (canon T).length := by
    obtain ⟨a', c', hv, -⟩ := HX4.out
    simp only [Value.slice.injEq] at hv
    exact hv.2.1
  have HNC := Lib.hid hncX
  clear hncX k4
  have hsmT := hsm.1
  have hTl := hsm.2
  have AWc := Lib.hid (fun (W w' : World) (h : Below W.heap.size W w') => chain_of (awake4_of w') h)
  have HSp := Lib.hid (fun (W w' : World) (h : Below W.heap.size W w') (hr : Rd w' 1 a2 T.length (inC T)) => spans4_ch (W := W) (c := c2) hr hsmT h)
  by_cases hle : (canon T).length ≤ 32
  · have d1 : decide (((canon T).length : Int) ≤ 32) = true := decide_eq_true (by omega)
    have d1' : decide ((canon T).length ≤ 32) = true := decide_eq_true hle
    have HTd := Lib.hid (tidy_few (.pointer (some ⟨p, 0, none⟩)) HX4.out hle)
    refine HTd.out.mono ?_; rintro e w5 ⟨rfl, hb5⟩
    have al5 := below_al w5 (Obj.cells #[Value.slice a n c] 27)
    have hb6 := hb5.trans (al5.mono hb5.size)
    have k6 : (w5.alloc (Obj.cells #[Value.slice a n c] 27)).cell? ⟨w1.heap.size, 0, none⟩ = some (.slice a n c) := by rw [cell_at ((hb6.block _ (lt_of_heap HK4.out)).trans HK4.out)]; rfl
    have u6 : (w5.alloc (Obj.cells #[Value.slice a n c] 27)).cell? ⟨w5.heap.size, 0, none⟩ = some (.slice a n c) := by rw [cell_at (heap_alloc_new w5 _)]; rfl
    have HX6 := Lib.hid (HX4.out.below hb6)
    have HI6 := Lib.hid (HI4.out.below hb6).rd2
    have HA6 := Lib.hid (HA4.out.below hb6)
    have HB6 := Lib.hid (HB4.out.trans (hb6.mono HB4.out.size))
    have hlt1 := World.block_lt_of_cell? _ _ k6
    have hlt2 := World.block_lt_of_cell? _ _ u6
    clear hb5 al5 hb6 HTd HX4 HI4 HA4 HK4 HB4 HLn
    go_upto_region 7 with fail
    generalize w5.alloc (Obj.cells #[Value.slice a n c] 27) = w6 at *
    have ld1 := fun w' (h : Below w6.heap.size w6 w') => (h.cell (p := ⟨w1.heap.size, 0, none⟩) hlt1).trans k6
    have ld2 := fun w' (h : Below w6.heap.size w6 w') => (h.cell (p := ⟨w5.heap.size, 0, none⟩) hlt2).trans u6
    clear k6 u6 hlt1 hlt2
    go_wp2_with fail
    refine (HSp.out w6 w6 (Below.refl _ _) HI6.out).mono ?_; rintro e w7 ⟨a7, c7, rfl, -, hb7, -⟩
    have kk1 := ld1 w7 hb7
    have kk2 := ld2 w7 hb7
    go_wp2_with fail
    refine (same_ch (W := w6) (HX6.out.below hb7) (HX6.out.below hb7) hb7).mono ?_; rintro e w8 ⟨rfl, hb8⟩
    have HL8 := Lib.hid (len_of (HA6.out.below hb8))
    clear kk1 kk2
    have hbq : ((l2.length : Int) == (l2.length : Int)) = true := beq_self_eq_true _
    go_wp2_with fail
    refine HL8.out.mono ?_; rintro e w9 ⟨rfl, rfl⟩
    go_wp2_with fail
    refine (AWc.out w6 w8 hb8).mono ?_; rintro e w9 ⟨rfl, hb9, -⟩
    go_wp2_with fail
    go_ret
    exact ⟨rfl, HB6.out.trans (hb9.mono HB6.out.size)⟩
  · have d1 : decide (((canon T).length : Int) ≤ 32) = false := decide_eq_false (by omega)
    have d1' : decide ((canon T).length ≤ 32) = false := decide_eq_false hle
    obtain ⟨hat, hin2⟩ := atL_pre hin.out hpl.out
    have HAT := Lib.hid hat
    have HTd := Lib.hid (tidy_many HA4.out hl2 HB4.out.size hw0 (HM.out.below HB4.out hw0) HX4.out hin2 (by omega))
    have hfl : (atL l2 T).length = T.length := atL_len _ _
    have hcc := canon_count T
    have HKE := Lib.hid (keepR_err l2 (atL l2 T))
    have HKO := Lib.hid (keepR_ok l2 (atL l2 T) hl2)
    unfold TidyPost at HTd
    clear hat
    generalize hff : atL l2 T = f at *
    clear hff
    have hf33 : 33 ≤ f.length := by omega
    have HFL := Lib.hid hfl
    have hfl2 : f.length ≤ 2400 := by omega
    clear hfl hcc
    generalize keepR l2 f = r at *
    generalize keepL l2 f = l3 at *
    obtain ⟨r1, r2, r3⟩ := r
    simp only at HTd HKE HKO
    refine HTd.out.mono ?_; rintro e w5 ⟨hA5, hT5, hor⟩
    have HA5 := Lib.hid hA5
    have HI5 := Lib.hid (HI4.out.turned hT5)
    have HB5 := Lib.hid (HB4.out.trans hT5.low)
    have hz5 := hT5.size
    clear hA5 hT5 HTd HX4 HI4 HA4 HK4 HB4 HLn
    rcases hor with ⟨he, rfl⟩ | ⟨he, a5, n5, c5, rfl, hx5⟩
    · obtain ⟨rfl, rfl, hfull⟩ := HKE.out he
      clear HKE HKO he
      have al5 := below_al w5 (Obj.cells #[Value.slice none 0 0] 27)
      have u6 : (w5.alloc (Obj.cells #[Value.slice none 0 0] 27)).cell? ⟨w5.heap.size, 0, none⟩ = some (.slice none 0 0) := by rw [cell_at (heap_alloc_new w5 _)]; rfl
      have HI6 := Lib.hid (HI5.out.below al5).rd2
      have HA6 := Lib.hid (HA5.out.below al5)
      have HB6 := Lib.hid (HB5.out.trans (al5.mono HB5.out.size))
      have hlt2 := World.block_lt_of_cell? _ _ u6
      clear al5 HA5 HI5 HB5
      go_upto_region 7 with fail
      generalize w5.alloc (Obj.cells #[Value.slice none 0 0] 27) = w6 at *
      have ld2 := fun w' (h : Below w6.heap.size w6 w') => (h.cell (p := ⟨w5.heap.size, 0, none⟩) hlt2).trans u6
      clear u6 hlt2
      have hfl3 := HFL.out
      have e1 : IntKind.i64.wrap ((l3.length : Int) + (T.length : Int)) = (l3.length : Int) + T.length := by rw [IntKind.wrap_i64]; omega
      have e2 : decide ((16384 : Int) < (l3.length : Int) + (T.length : Int)) = true := decide_eq_true (by omega)
      have hbq : ((l3.length : Int) == (l3.length : Int)) = true := beq_self_eq_true _
      clear hfl3
      go_wp2_with fail
      refine (HSp.out w6 w6 (Below.refl _ _) HI6.out).mono ?_; rintro e w7 ⟨a7, c7, rfl, -, hb7, -⟩
      have kk2 := ld2 w7 hb7
      go_wp2_with fail
      refine (len_ch (W := w6) (tx_nil w7) hb7 0 rfl).mono ?_; rintro e w8 ⟨rfl, hb8, -⟩
      have HL8 := Lib.hid (len_of (HA6.out.below hb8))
      clear kk2
      go_wp2_with fail
      refine HL8.out.mono ?_; rintro e w9 ⟨rfl, rfl⟩
      go_wp2_with fail
      refine (AWc.out w6 w8 hb8).mono ?_; rintro e w9 ⟨rfl, hb9, -⟩
      go_wp2_with fail
      go_ret
      exact ⟨rfl, HB6.out.trans (hb9.mono HB6.out.size)⟩
    · obtain ⟨i, rfl, rfl, hi1, hi2, hi3⟩ := HKO.out he
      subst he
      clear HKE HKO
      have hn5 : n5 = 1 := by
        obtain ⟨a', c', hv, -⟩ := hx5
        simp only [Value.slice.injEq] at hv
        rw [hv.2.1, canon_span (by omega)]; rfl
      have hU : ∀ (w' : World), Tx w' (.slice a5 n5 c5) (ex [((i : Int), (f.length : Int))]) → Rd w' 2 a5 1 (spC [((i : Int), (f.length : Int))]) := fun w' h => by
        obtain ⟨a', c', hv, hr, -⟩ := h
        simp only [Value.slice.injEq] at hv
        rw [canon_span (by omega)] at hr
        rw [hv.1]; exact hr
      have HN5 := Lib.hid hn5
      have al5 := below_al w5 (Obj.cells #[Value.slice a5 n5 c5] 27)
      have u6 : (w5.alloc (Obj.cells #[Value.slice a5 n5 c5] 27)).cell? ⟨w5.heap.size, 0, none⟩ = some (.slice a5 n5 c5) := by rw [cell_at (heap_alloc_new w5 _)]; rfl
      have HI6 := Lib.hid (HI5.out.below al5).rd2
      have HA6 := Lib.hid (HA5.out.below al5)
      have HX6 := Lib.hid ((hx5.tx).below al5)
      have HB6 := Lib.hid (HB5.out.trans (al5.mono HB5.out.size))
      have hlt2 := World.block_lt_of_cell? _ _ u6
      have HU := Lib.hid hU
      obtain ⟨hat, hinS⟩ := atL_pre hin.out hpre.out
      have HST : Hid (strOf (atL s.data.toList T) = strOf f) := by show _ = _; rw [hat, ← HAT.out]
      have HRF := Lib.hid (fun (w' : World) (hr : Rd w' 1 a2 T.length (inC T)) => rflat2_of (c := c2) (s := s) rfl (by rw [← hslen.out]; exact hs) hr hinS (fun x hx => by have := hin.out x hx; omega) (by omega))
      rw [HST.out] at HRF
      have hiu : InL l3 (ex [((i : Int), (f.length : Int))]) := fun x hx => by
        obtain ⟨q, hq, h1, h2⟩ := mem_ex hx
        obtain rfl := List.mem_singleton.1 hq
        simp only at h1 h2
        omega
      have HFA := Lib.hid (fun w' (hA : Ar w' w.heap.size p l3) (hX : Tx w' (.slice a5 n5 c5) (ex [((i : Int), (f.length : Int))])) => pflat_of hA hi2 hX hiu)
      rw [atL_span hi1, hi3] at HFA
      clear al5 HA5 HI5 HB5 hx5 hn5 hU hat hinS HST hiu
      go_upto_region 7 with fail
      generalize w5.alloc (Obj.cells #[Value.slice a5 n5 c5] 27) = w6 at *
      have ld2 := fun w' (h : Below w6.heap.size w6 w') => (h.cell (p := ⟨w5.heap.size, 0, none⟩) hlt2).trans u6
      clear u6 hlt2
      go_wp2_with fail
      refine (HSp.out w6 w6 (Below.refl _ _) HI6.out).mono ?_; rintro e w7 ⟨a7, c7, rfl, -, hb7, -⟩
      go_upto_region 11 with fail
      have hb70 := hb7.drew
      have HSpn : Hid (∀ w', Below w6.heap.size w6 w' → Calls Try.prog 37 #[.agg #[.slice a5 n5 c5]] w' fun e w2 => ∃ a c, e = .returned (.slice a 1 c) ∧ Below w6.heap.size w6 w2) := fun w' h => by
        rw [HN5.out]
        refine (pspans_rd (c := c5) (l := [((i : Int), (f.length : Int))]) (HU.out w' (HX6.out.below h)) (by simp)).mono ?_
        rintro e w2 ⟨v, rfl, ho, hb⟩
        obtain ⟨a, c, rfl⟩ := own_slice ho
        exact ⟨a, c, rfl, h.trans (hb.mono h.size)⟩
      go_region_held_law (fun w' => Below w6.heap.size w6 w')
        (first | assumption | exact Below.alloc (by assumption) (Below.size (by assumption)) _)
        ((first
          | (go_at_call 37; refine (HSpn.out _ (by assumption)).mono ?_; rintro e wa ⟨xa, ya, rfl, hba⟩)
          | (go_at_call 38; refine (HFA.out wa (HA6.out.below hba) (HX6.out.below hba)).mono ?_; rintro e wb ⟨xb, yb, rfl, hob, hbb⟩; have hst := string_own hob; have hbc := hba.trans (hbb.mono hba.size); clear hob hbb)
          | (go_at_call 39; refine (HRF.out _ (HI6.out.below hbc)).mono ?_; rintro e wc ⟨rfl, rfl⟩)
          | (go_at_call 23; refine (AWc.out w6 _ (by assumption)).mono ?_; rintro e wd ⟨rfl, hbd, -⟩)))
      all_goals
        go_wp2_with fail
        go_ret
        exact ⟨rfl, HB6.out.trans (hbd.mono HB6.out.size)⟩

end Go.Proofs.Ytelnehjmkjpjhaa
