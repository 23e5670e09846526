/-
  The walk of CellPuts, at this seat's numbers.
-/
import Derived.Test.YtelnehjmkjpjhaaCeE
import Derived.Test.YtelnehjmkjpjhaaQuH
import Derived.Laws.AppendOwnNone
namespace Go.Proofs.Ytelnehjmkjpjhaa
open Go Go.RowKit
set_option linter.unusedVariables false

set_option maxRecDepth 100000 in
set_option maxHeartbeats 1000000 in
theorem cput_long {w : World} {z : Value} {a : Option Addr} {n c : Nat} (hn : 400 < n) :
    Calls Try.prog 50 #[z, .slice a n c] w fun e w' => e = .returned (.tuple #[cellV none 0 0 0 0 false, .int .i64 7]) ∧ Below w.heap.size w w' := by
  have HH1 := Lib.hid (heap_alloc_new w (Obj.cells #[Value.slice none 0 0, Value.int .i64 0, Value.int .i64 0, Value.bool false] 83))
  have HB1 := Lib.hid (below_al w (Obj.cells #[Value.slice none 0 0, Value.int .i64 0, Value.int .i64 0, Value.bool false] 83))
  have hh := HH1.out
  have z7 := fun i => unfrozen hh i
  have p0 : (w.alloc (Obj.cells #[Value.slice none 0 0, Value.int .i64 0, Value.int .i64 0, Value.bool false] 83)).cell? ⟨w.heap.size, 0, none⟩ = some (.slice none 0 0) := by rw [cell_at hh]; rfl
  have p1 : (w.alloc (Obj.cells #[Value.slice none 0 0, Value.int .i64 0, Value.int .i64 0, Value.bool false] 83)).cell? ⟨w.heap.size, 1, none⟩ = some (.int .i64 0) := by rw [cell_at hh]; rfl
  have p2 : (w.alloc (Obj.cells #[Value.slice none 0 0, Value.int .i64 0, Value.int .i64 0, Value.bool false] 83)).cell? ⟨w.heap.size, 2, none⟩ = some (.int .i64 0) := by rw [cell_at hh]; rfl
  have p3 : (w.alloc (Obj.cells #[Value.slice none 0 0, Value.int .i64 0, Value.int .i64 0, Value.bool false] 83)).cell? ⟨w.heap.size, 3, none⟩ = some (.bool false) := by rw [cell_at hh]; rfl
  have d : decide ((400 : Int) < (n : Int)) = true := decide_eq_true (by omega)
  have d' : decide (400 < n) = true := decide_eq_true hn
  clear hh
  go_enter Try.func50, Try.ntmps50
  go_upto_region 2 with fail
  generalize w.alloc (Obj.cells #[Value.slice none 0 0, Value.int .i64 0, Value.int .i64 0, Value.bool false] 83) = w4 at *
  go_wp2_with fail
  have hs := set4_at HH1.out (.slice none 0 0) (.int .i64 0) (.int .i64 0) (.bool false)
  have hB := set4_below HB1.out (Nat.le_refl _) (.slice none 0 0) (.int .i64 0) (.int .i64 0) (.bool false)
  have q0 : (set4 w4 w.heap.size (.slice none 0 0) (.int .i64 0) (.int .i64 0) (.bool false)).cell? ⟨w.heap.size, 0, none⟩ = some (.slice none 0 0) := by rw [cell_at hs]; rfl
  have q1 : (set4 w4 w.heap.size (.slice none 0 0) (.int .i64 0) (.int .i64 0) (.bool false)).cell? ⟨w.heap.size, 1, none⟩ = some (.int .i64 0) := by rw [cell_at hs]; rfl
  have q2 : (set4 w4 w.heap.size (.slice none 0 0) (.int .i64 0) (.int .i64 0) (.bool false)).cell? ⟨w.heap.size, 2, none⟩ = some (.int .i64 0) := by rw [cell_at hs]; rfl
  have q3 : (set4 w4 w.heap.size (.slice none 0 0) (.int .i64 0) (.int .i64 0) (.bool false)).cell? ⟨w.heap.size, 3, none⟩ = some (.bool false) := by rw [cell_at hs]; rfl
  unfold set4 at hB q0 q1 q2 q3
  exact bodyPost_ret (v := .tuple #[cellV none 0 0 0 0 false, .int .i64 7]) (by simp [results, Try.results50, go_sem, q0, q1, q2, q3]) rfl ⟨rfl, hB⟩

theorem tx_nil7 (w : World) : Tx w (.slice none 0 0) [] := ⟨none, 0, rfl, ⟨rfl, fun h => by simp [canon] at h⟩, Sm.nil, fun d hd => (by cases hd), fun _ => rfl, fun d hd => (by cases hd)⟩
theorem made_zero7 (m : Nat) : (madeCells #[Value.int .u8 0] m).toList = bc (List.replicate m 0) := by
  unfold bc
  rw [List.map_replicate]
  simp [madeCells, Nat.mod_one]
  rw [List.map_const', List.length_range]
theorem addL_le7 {l z : List UInt8} (h : l.length ≤ 16384) : (addL l z).length ≤ 16384 := by
  unfold addL
  split
  · exact h
  · rw [List.length_append]; omega

set_option maxRecDepth 100000 in
set_option maxHeartbeats 4000000 in
theorem cellPuts_walk (s1 s : ByteArray) (k : Int) (w : World) (hs1 : s1.size ≤ maxLen) (hs : s.size ≤ maxLen) (hk0 : 0 ≤ k) (hk1 : k ≤ 65535) (hm : ML w) :
    Calls Try.prog 8 #[.string s1, .string s, .int .u16 k] w fun e w' => e = .returned (.bool true) ∧ Below w.heap.size w w' := by
  obtain ⟨i0, hi0, hz0, hz1, hz2⟩ := info_parts info_u8
  have HC1 := Lib.hid (fun w' => cut7_of s1 300 w' hs1 (by decide))
  have HC2 := Lib.hid (fun w' => cut7_of s 600 w' hs (by decide))
  have hcl1 := cutS_le s1 300
  have hcl2 := cutS_le s 600
  have HM := Lib.hid hm
  have h0 := hm.1
  clear hs hs1 hm
  obtain ⟨q, rfl⟩ := Int.eq_ofNat_of_zero_le hk0
  generalize cutS s1 300 = t1 at *
  generalize cutS s 600 = t at *
  obtain ⟨l1, hl1⟩ : ∃ l, t1.data.toList = l := ⟨_, rfl⟩
  obtain ⟨l, hl⟩ : ∃ l, t.data.toList = l := ⟨_, rfl⟩
  have hsz1 := sz_of hl1
  have hsz := sz_of hl
  rw [hsz1] at hcl1
  rw [hsz] at hcl2
  have HL1 := Lib.hid hl1
  have HL := Lib.hid hl
  have HT : Hid (strOf l = t) := by show _ = _; rw [← hl]; exact strOf_data t
  have HRP := Lib.hid (fun w' => rput_of hl (by omega) w')
  clear hl hl1
  go_enter Try.func8, Try.ntmps8
  go_wp2_with fail
  refine (HC1.out _).mono ?_; rintro e wx ⟨rfl, rfl⟩
  go_wp2_with fail
  refine (HC2.out _).mono ?_; rintro e wx ⟨rfl, rfl⟩
  obtain ⟨cap1, W1, hcv1, hH1, hb1⟩ := held_of t1 w (by rw [hsz1]; unfold maxLen; omega)
  have hrd1 : Rd W1 1 (some ⟨w.heap.size, 0, none⟩) l1.length (bc l1) := by have := rd_held hH1; rw [HL1.out] at this; exact this
  have HN := Lib.hid (new_of (c := cap1) (some ⟨w.heap.size, 0, none⟩) hrd1 (by omega))
  have HB1 := Lib.hid hb1
  have hzW1 := hb1.size
  rw [hsz1] at hcv1
  clear hH1 hb1 hrd1 HC1 HC2
  go_wp2_with fail
  refine HN.out.mono ?_; rintro e w2 ⟨p, rfl, hA2, hb2⟩
  have HA2 := Lib.hid hA2
  have HB2 := Lib.hid (HB1.out.trans (hb2.mono HB1.out.size))
  have hz2' := hb2.size
  obtain ⟨m, hqm⟩ : ∃ m : Nat, (q : Int) % 16400 = m := ⟨q % 16400, rfl⟩
  have hm16 : m < 16400 := by omega
  clear hA2 hb2 hcv1 HN
  generalize W1.heap.size = B at *
  clear HB1 W1
  go_wp2_with (at_make; refine wpList_make_full _ rfl _ _ 55 rfl w.heap.size 5 i0 (.int .u8 0) 1 Try.underlying55 hi0 hz0 hz1 .i64 .i64 _ _ m rfl rfl (by first | rfl | exact hqm) (by first | rfl | exact hqm) ?b2 ?b3 ?b4 ?_)
  case b2 => rw [hz2]; omega
  case b3 => unfold maxLen; omega
  case b4 => have := HB2.out.size; omega
  intro w3 hown hgrow
  rw [show (madeCells #[Value.int .u8 0] m).toList = bc (List.replicate m 0) from made_zero7 m] at hown
  have hzl : (List.replicate m (0 : UInt8)).length = m := List.length_replicate
  have HB3 := Lib.hid (HB2.out.trans ((Below.refl _ _).grown hgrow HB2.out.size (by simp)))
  have hbw := (Below.refl w2.heap.size w2).grown hgrow (Nat.le_refl _) (by simp)
  have HAdd := Lib.hid (add_of (c := m) (HA2.out.below hbw) (by omega) (some ⟨w2.heap.size, 0, none⟩) (Nat.le_trans hz2' hbw.size) (t := List.replicate m 0) (by rw [hzl]; exact own_rd hown) (by rw [hzl]; unfold maxLen; omega))
  rw [hzl] at HAdd
  have hl2 := addL_le7 (l := l1) (z := List.replicate m 0) (by omega)
  have hz3 := hbw.size
  clear hown hgrow hbw HA2 HB2
  unfold ArPost at HAdd
  generalize addR l1 (List.replicate m 0) = ra at *
  generalize addL l1 (List.replicate m 0) = l2 at *
  obtain ⟨ra1, ra2, ra3⟩ := ra
  unfold ret3 at HAdd
  simp only at HAdd
  clear hqm hzl hi0 hz0 hz1 hz2
  go_wp2_with fail
  refine HAdd.out.mono ?_; rintro e w4 ⟨rfl, hA4, hT4⟩
  have HLn := Lib.hid (len_of hA4)
  have HA4 := Lib.hid hA4
  have HB4 := Lib.hid (HB3.out.trans (hT4.low.mono hzW1))
  have hz4 := hT4.size
  clear hA4 hT4 HAdd HB3
  go_wp2_with fail
  refine HLn.out.mono ?_; rintro e wx ⟨rfl, rfl⟩
  obtain ⟨cap5, W5, hcv5, hH5, hb5⟩ := held_of t w4 (by rw [hsz]; unfold maxLen; omega)
  have HR5 : Hid (Rd W5 1 (some ⟨w4.heap.size, 0, none⟩) l.length (bc l)) := by have := rd_held hH5; rw [HL.out] at this; exact Lib.hid this
  have HA5 := Lib.hid (HA4.out.below hb5)
  have HB5 := Lib.hid (HB4.out.trans (hb5.mono HB4.out.size))
  have hz5 := hb5.size
  rw [hsz] at hcv5
  clear hH5 hb5 HA4 HB4 HLn
  have hlq : ((l2.length : Int) == (l2.length : Int)) = true := beq_self_eq_true _
  by_cases hlong : 400 < l.length
  · have HP := Lib.hid (cput_long (w := W5) (z := .pointer (some ⟨p, 0, none⟩)) (a := some ⟨w4.heap.size, 0, none⟩) (c := cap5) hlong)
    have d : decide ((400 : Int) < (l.length : Int)) = true := decide_eq_true (by omega)
    have d' : decide (400 < l.length) = true := decide_eq_true hlong
    rw [← hsz] at d'
    go_wp2_with fail
    refine HP.out.mono ?_; rintro e w6 ⟨rfl, hb6⟩
    have al := below_al w6 (Obj.cells #[Value.slice none 0 0, Value.int .i64 0, Value.int .i64 0, Value.bool false] 83)
    have hb7 := hb6.trans (al.mono hb6.size)
    have HA7 := Lib.hid (HA5.out.below hb7)
    have HB7 := Lib.hid (HB5.out.trans (hb7.mono HB5.out.size))
    have HE := Lib.hid (cempty_of (w := w6.alloc (Obj.cells #[Value.slice none 0 0, Value.int .i64 0, Value.int .i64 0, Value.bool false] 83)) 0 0 false (tx_nil7 _))
    have c0 : (w6.alloc (Obj.cells #[Value.slice none 0 0, Value.int .i64 0, Value.int .i64 0, Value.bool false] 83)).cell? ⟨w6.heap.size, 0, none⟩ = some (.slice none 0 0) := by rw [cell_at (heap_alloc_new w6 _)]; rfl
    have c1 : (w6.alloc (Obj.cells #[Value.slice none 0 0, Value.int .i64 0, Value.int .i64 0, Value.bool false] 83)).cell? ⟨w6.heap.size, 1, none⟩ = some (.int .i64 0) := by rw [cell_at (heap_alloc_new w6 _)]; rfl
    have c2 : (w6.alloc (Obj.cells #[Value.slice none 0 0, Value.int .i64 0, Value.int .i64 0, Value.bool false] 83)).cell? ⟨w6.heap.size, 2, none⟩ = some (.int .i64 0) := by rw [cell_at (heap_alloc_new w6 _)]; rfl
    have c3 : (w6.alloc (Obj.cells #[Value.slice none 0 0, Value.int .i64 0, Value.int .i64 0, Value.bool false] 83)).cell? ⟨w6.heap.size, 3, none⟩ = some (.bool false) := by rw [cell_at (heap_alloc_new w6 _)]; rfl
    clear hb6 al hb7 HP hcv5
    rw [← hsz] at d
    go_wp2_with fail
    refine HE.out.mono ?_; rintro e w8 ⟨rfl, hb8⟩
    have HL8 := Lib.hid (len_of (HA7.out.below hb8))
    have HB8 := Lib.hid (HB7.out.trans (hb8.mono HB7.out.size))
    clear hb8 HE HA7 HB7 c0 c1 c2 c3
    go_wp2_with fail
    refine HL8.out.mono ?_; rintro e wx ⟨rfl, rfl⟩
    go_wp2_with fail
    refine (awake7_of _).mono ?_; rintro e wz ⟨rfl, hbz⟩
    have HBZ := Lib.hid (HB8.out.trans (hbz.mono HB8.out.size))
    clear hbz
    go_wp2_with fail
    go_ret
    exact ⟨rfl, HBZ.out⟩
  · have HP := Lib.hid (cput_of (c := cap5) HA5.out hl2 (by omega) (by omega) (HM.out.below HB5.out h0) HR5.out (by omega))
    have d : decide ((400 : Int) < (l.length : Int)) = false := decide_eq_false (by omega)
    have d' : decide (400 < l.length) = false := decide_eq_false hlong
    have HKE := Lib.hid (keepR_err l2 l)
    have HKO := Lib.hid (keepR_ok l2 l hl2)
    unfold CPutPost at HP
    generalize keepR l2 l = r at *
    generalize keepL l2 l = l3 at *
    obtain ⟨r1, r2, r3⟩ := r
    simp only at HP HKE HKO
    rw [← hsz] at d'
    go_wp2_with fail
    refine HP.out.mono ?_; rintro e w6 ⟨hA6, hT6, hor⟩
    have HA6 := Lib.hid hA6
    have HB6 := Lib.hid (HB5.out.trans (hT6.low.mono hzW1))
    have hz6 := hT6.size
    clear hA6 hT6 HP hcv5 HA5 HB5 HR5
    rcases hor with ⟨he, rfl⟩ | ⟨he, a, n, c, rfl, hx6⟩
    · obtain ⟨rfl, rfl, hfull⟩ := HKE.out he
      have e1 : IntKind.i64.wrap ((l3.length : Int) + (l.length : Int)) = (l3.length : Int) + l.length := by rw [IntKind.wrap_i64]; omega
      have e2 : decide ((16384 : Int) < (l3.length : Int) + (l.length : Int)) = true := decide_eq_true (by omega)
      have al := below_al w6 (Obj.cells #[Value.slice none 0 0, Value.int .i64 0, Value.int .i64 0, Value.bool false] 83)
      have HL7 := Lib.hid (len_of (HA6.out.below al))
      have HB7 := Lib.hid (HB6.out.trans (al.mono HB6.out.size))
      clear al HA6 HB6 HKE HKO he
      go_wp2_with fail
      refine HL7.out.mono ?_; rintro e wx ⟨rfl, rfl⟩
      go_wp2_with fail
      refine (awake7_of _).mono ?_; rintro e wz ⟨rfl, hbz⟩
      have HBZ := Lib.hid (HB7.out.trans (hbz.mono HB7.out.size))
      clear hbz
      go_wp2_with fail
      go_ret
      exact ⟨rfl, HBZ.out⟩
    · obtain ⟨i, rfl, rfl, hi1, hi2, hi3⟩ := HKO.out he
      subst he
      have al := below_al w6 (Obj.cells #[Value.slice a n c, Value.int .i64 0, Value.int .i64 0, Value.bool false] 83)
      have hin : InL l3 (ex [((i : Int), (l.length : Int))]) := fun x hx => by
        obtain ⟨z, hz, h1, h2⟩ := mem_ex hx
        obtain rfl := List.mem_singleton.1 hz
        simp only at h1 h2
        omega
      have HA7 := Lib.hid (HA6.out.below al)
      have HX7 := Lib.hid ((hx6.tx).below al)
      have HB7 := Lib.hid (HB6.out.trans (al.mono HB6.out.size))
      have c0 : (w6.alloc (Obj.cells #[Value.slice a n c, Value.int .i64 0, Value.int .i64 0, Value.bool false] 83)).cell? ⟨w6.heap.size, 0, none⟩ = some (.slice a n c) := by rw [cell_at (heap_alloc_new w6 _)]; rfl
      have c1 : (w6.alloc (Obj.cells #[Value.slice a n c, Value.int .i64 0, Value.int .i64 0, Value.bool false] 83)).cell? ⟨w6.heap.size, 1, none⟩ = some (.int .i64 0) := by rw [cell_at (heap_alloc_new w6 _)]; rfl
      have c2 : (w6.alloc (Obj.cells #[Value.slice a n c, Value.int .i64 0, Value.int .i64 0, Value.bool false] 83)).cell? ⟨w6.heap.size, 2, none⟩ = some (.int .i64 0) := by rw [cell_at (heap_alloc_new w6 _)]; rfl
      have c3 : (w6.alloc (Obj.cells #[Value.slice a n c, Value.int .i64 0, Value.int .i64 0, Value.bool false] 83)).cell? ⟨w6.heap.size, 3, none⟩ = some (.bool false) := by rw [cell_at (heap_alloc_new w6 _)]; rfl
      have hlt := World.block_lt_of_cell? _ _ c0
      clear hx6 al HA6 HB6 HKE HKO
      go_upto_region 12 with fail
      generalize w6.alloc (Obj.cells #[Value.slice a n c, Value.int .i64 0, Value.int .i64 0, Value.bool false] 83) = w7 at *
      have ld0 := fun w' (h : Below w7.heap.size w7 w') => (h.cell (p := ⟨w6.heap.size, 0, none⟩) hlt).trans c0
      have ld1 := fun w' (h : Below w7.heap.size w7 w') => (h.cell (p := ⟨w6.heap.size, 1, none⟩) hlt).trans c1
      have ld2 := fun w' (h : Below w7.heap.size w7 w') => (h.cell (p := ⟨w6.heap.size, 2, none⟩) hlt).trans c2
      have ld3 := fun w' (h : Below w7.heap.size w7 w') => (h.cell (p := ⟨w6.heap.size, 3, none⟩) hlt).trans c3
      have HPl : Hid (∀ w', Below w7.heap.size w7 w' → Calls Try.prog 45 #[.pointer (some ⟨p, 0, none⟩), cellV a n c 0 0 false] w' fun e w2 => e = .returned (.agg #[.string t, .string ⟨#[]⟩, .bool false]) ∧ Below w'.heap.size w' w2) := fun w' h => by
        have := cplain_text 0 0 (HA7.out.below h) hi2 (HX7.out.below h) hin
        rw [atL_span hi1, hi3, HT.out] at this
        exact this
      have HPr : Hid (∀ w', Below w7.heap.size w7 w' → Calls Try.prog 47 #[cellV a n c 0 0 false, .pointer (some ⟨p, 0, none⟩)] w' (BytesPost (putP l) w')) := fun w' h => by
        have := cprint_text 0 0 (HA7.out.below h) hi2 (HX7.out.below h) hin
        rw [atL_span hi1, hi3] at this
        exact this
      have HAw : Hid (∀ w' : World, Calls Try.prog 49 #[] w' fun e w2 => e = .returned (.bool true) ∧ Below w'.heap.size w' w2) := Lib.hid (fun w' => awake7_of w')
      have hb0 : Below w7.heap.size w7 w7.drew := (Below.refl _ _).drew
      clear c0 c1 c2 c3 hlt HA7 HX7 hin hi3 hi1 hi2
      go_region_held_law (fun w' => Below w7.heap.size w7 w')
        (first | assumption)
        ((first
          | (go_at_call 45; refine (HPl.out _ (by assumption)).mono ?_; rintro e wa ⟨rfl, hba⟩; have hsa := Below.trans (by assumption : Below w7.heap.size w7 w7.drew) (hba.mono (Below.size (by assumption : Below w7.heap.size w7 w7.drew))); clear hba)
          | (go_at_call 47; refine (HPr.out wa hsa).mono ?_; rintro e wb ⟨ab, cb, rfl, hob, hbb⟩; have hst := string_own hob; have hsb := hsa.trans (hbb.mono hsa.size); clear hob hbb)
          | (go_at_call 51; refine (HRP.out _).mono ?_; rintro e wq ⟨rfl, rfl⟩)
          | (go_at_call 49; refine (HAw.out wb).mono ?_; rintro e wd ⟨rfl, hbd⟩; have hsd := hsb.trans (hbd.mono hsb.size); clear hbd)))
      all_goals
        go_wp2_with fail
        go_ret
        exact ⟨rfl, HB7.out.trans (hsd.mono HB7.out.size)⟩

end Go.Proofs.Ytelnehjmkjpjhaa
