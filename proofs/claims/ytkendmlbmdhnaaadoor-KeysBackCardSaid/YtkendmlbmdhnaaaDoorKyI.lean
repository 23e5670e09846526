/-
  The walk of KeysBack, at this seat's numbers.
-/
import Derived.Test.YtkendmlbmdhnaaaDoorKyH
import Derived.Test.YtkendmlbmdhnaaaDoorLiftK
namespace Go.Proofs.YtkendmlbmdhnaaaDoor
open Go Go.RowKit
set_option linter.unusedVariables false

set_option maxRecDepth 100000 in
set_option maxHeartbeats 2000000 in
theorem keysBack_few {a : Option Addr} {c : Nat} (l : List Int) (w : World) (Hl : Sl w a c (nums l)) (hn : l.length ≤ 200) (hT : Tabs w) (hN : NmT w) :
    Calls Tryd.prog 5 #[.slice a l.length c] w fun e w' => e = .returned (.bool true) ∧ Below w.heap.size w w' := by
  obtain ⟨i0, hi, hz0, hz1, hz2⟩ := info_parts info_int
  have HL := Lib.hid Hl
  have HN := Lib.hid hN
  have HT := Lib.hid hT
  obtain ⟨n, hnn⟩ : ∃ n, l.length = n := ⟨_, rfl⟩
  have HNN := Lib.hid hnn
  rw [hnn] at hn ⊢
  clear Hl hN hT hnn
  go_enter Tryd.func5, Tryd.ntmps5
  go_wp2_with fail
  go_loopw [3, 16] (fun v3 v16 wr => ∃ k : Nat, v16 = .int .i64 k ∧ k ≤ n ∧ wr.ownsRow w.heap.size 3 1 v3 ((l.take k).filter isK).length (nums ((l.take k).filter isK)) ∧ Below w.heap.size w wr) (fun _ v16 _ => n - (intOf v16).toNat)
  case atStart => exact ⟨0, rfl, by omega, ⟨rfl, .inl ⟨rfl, rfl⟩⟩, Below.refl _ w⟩
  case round =>
    obtain ⟨k, rfl, hk, hown, hb⟩ := hrel
    have HB := Lib.hid hb
    have HO := Lib.hid hown
    clear hb hown
    have hfl : ((l.take k).filter isK).length ≤ 200 := by
      have h1 := List.length_filter_le isK (l.take k)
      rw [List.length_take] at h1
      omega
    by_cases hlt : k < n
    · have hkl : k < l.length := by rw [HNN.out]; exact hlt
      obtain ⟨x, hx⟩ : ∃ x, l[k]? = some x := ⟨_, List.getElem?_eq_getElem hkl⟩
      obtain ⟨g, o, ha⟩ := HL.out.numsome (by omega)
      subst ha
      have hcell : wr.cell? ⟨g, o + k, none⟩ = some (.int .i64 x) := by
        have h1 := HL.out.num hx
        rw [HB.out.cell (p := ⟨g, o + k, none⟩) h1.2]
        exact h1.1
      have HIS := Lib.hid fun (v : World) => ris_of x v
      have htk : l.take (k + 1) = l.take k ++ [x] := by rw [List.take_add_one, hx]; rfl
      have HTK := Lib.hid htk
      obtain ⟨b, hbx⟩ : ∃ b, isK x = b := ⟨_, rfl⟩
      rw [hbx] at HIS
      have HBX := Lib.hid hbx
      clear hx htk hbx
      cases b with
      | false =>
        go_wp2_with fail
        refine (HIS.out _).mono ?_
        rintro e w1 ⟨rfl, hb1⟩
        have HB1 := Lib.hid hb1
        clear hb1
        go_wp2_with fail
        go_roundw
        case rel =>
          refine ⟨k + 1, rfl, by omega, ?_, HB.out.trans (HB1.out.mono HB.out.size)⟩
          rw [HTK.out, List.filter_append, List.filter_cons_of_neg (by rw [HBX.out]; decide), List.filter_nil, List.append_nil]
          exact own_below HO.out HB1.out
        case measure => simp [intOf]; omega
      | true =>
        go_wp2_with fail
        refine (HIS.out _).mono ?_
        rintro e w1 ⟨rfl, hb1⟩
        have HB1 := Lib.hid (HB.out.trans (hb1.mono HB.out.size))
        have HO1 := Lib.hid (own_below HO.out hb1)
        clear hb1
        go_wp2_with (first
          | (at_builtin; refine wpList_append_own _ rfl _ _ 28 rfl w.heap.size 3 i0 (.int .i64 0) 1 8 Tryd.underlying28 hi hz0 hz1 hz2 rfl (by decide) _ _ _ rfl (HO1.out.alloc _) ⟨w1.heap.size, 0, none⟩ 1 1 [.int .i64 x] rfl rfl ?c1 ?c2 ?c3 ?c4 ?c5 ?_)
          | fail)
        case c1 =>
          intro j u hj
          match j, hj with
          | 0, hj => simp at hj; subst hj; simp [Addr.add]
        case c2 => intro u hu; simp at hu; subst hu; rfl
        case c3 => unfold maxLen; omega
        case c4 => omega
        case c5 => have := HB1.out.size; simp; omega
        intro v' w2 hown' hgrow _
        have HO2 := Lib.hid hown'
        have HB2 := Lib.hid ((HB1.out.alloc (HB1.out.size) _).grown hgrow (by have := HB1.out.size; simp; omega) (fun j hj => (HO1.out.lt j hj).1))
        clear hown' hgrow
        go_wp2_with fail
        go_roundw
        case rel =>
          refine ⟨k + 1, rfl, by omega, ?_, HB2.out⟩
          rw [HTK.out, List.filter_append, List.filter_cons_of_pos HBX.out, List.filter_nil, List.length_append]
          have := HO2.out
          rw [show nums ((l.take k).filter isK) ++ [Value.int .i64 x] = nums ((l.take k).filter isK ++ [x]) from by unfold nums; rw [List.map_append]; rfl] at this
          exact this
        case measure => simp [intOf]; omega
    · have e : l.take k = l := by
        rw [List.take_of_length_le]
        rw [HNN.out]; omega
      rw [e] at HO hfl
      clear e
      obtain ⟨aw, cw, hv, hslw⟩ := sl_own HO.out
      subst hv
      have HSW := Lib.hid hslw
      have hlr := HL.out.below HB.out
      have HPR := Lib.hid (print_of l hlr (by rw [HNN.out]; omega) (HN.out.below HB.out))
      rw [HNN.out] at HPR
      have hpl := prt_len l
      rw [HNN.out, ← strOf_size] at hpl
      have HPP := Lib.hid (prt_parse l)
      have HRP := Lib.hid fun (v : World) (hv : Below wr.heap.size wr v) => rprint_of l (hlr.below hv) (by rw [HNN.out]; omega)
      rw [HNN.out] at HRP
      have HPA := Lib.hid fun (v : World) (hv : NmT v) (ht : Tabs v) => parse_of (strOf (prt l)) v (by omega) hv ht
      clear hslw HO hlr
      generalize hS : strOf (prt l) = S at *
      clear hS
      have e3 : (S.toList == S.toList) = true := by simp
      go_wp2_with fail
      refine HPR.out.mono ?_
      rintro e w1 ⟨rfl, hb1⟩
      have HB1 := Lib.hid hb1
      have HBB1 := Lib.hid (HB.out.trans (hb1.mono HB.out.size))
      clear hb1
      go_wp2_with fail
      refine (HPA.out w1 (HN.out.below HBB1.out) (HT.out.below HBB1.out)).mono ?_
      rintro e w2 ⟨hb2, he⟩
      rw [HPP.out] at he
      obtain ⟨ag, cg, rfl, hslg⟩ := he
      have HSG := Lib.hid hslg
      have HB2 := Lib.hid (HB1.out.trans (hb2.mono HB1.out.size))
      have HBB2 := Lib.hid (HBB1.out.trans (hb2.mono HBB1.out.size))
      clear hb2 hslg
      go_wp2_with fail
      refine (HRP.out w2 HB2.out).mono ?_
      rintro e w3 ⟨rfl, hb3⟩
      have HB3 := Lib.hid (HB2.out.trans (hb3.mono HB2.out.size))
      have HBB3 := Lib.hid (HBB2.out.trans (hb3.mono HBB2.out.size))
      have HSG3 := Lib.hid (HSG.out.below hb3)
      clear hb3
      go_wp2_with fail
      refine (nsame _ _ HSG3.out (HSW.out.below HB3.out) (by omega)).mono ?_
      rintro e w4 ⟨rfl, hb4⟩
      have HBB4 := Lib.hid (HBB3.out.trans (hb4.mono HBB3.out.size))
      clear hb4
      rw [show decide (l.filter isK = l.filter isK) = true from decide_eq_true rfl]
      go_wp2_with fail
      refine (awake22_of w4 (HN.out.below HBB4.out) (HT.out.below HBB4.out)).mono ?_
      rintro e w5 ⟨rfl, hb5⟩
      have HBB5 := Lib.hid (HBB4.out.trans (hb5.mono HBB4.out.size))
      clear hb5
      go_wp2_with fail
      go_ret
      exact ⟨by simp, HBB5.out⟩

set_option maxRecDepth 100000 in
set_option maxHeartbeats 2000000 in
theorem keysBack_many {g o c : Nat} (l : List Int) (N : Nat) (w : World) (Hl : Sl w (some ⟨g, o, none⟩) c (nums l)) (hn : l.length = 200) (h200 : 200 < N) (hNc : N ≤ c) (hcm : c ≤ maxLen) (hT : Tabs w) (hN : NmT w) :
    Calls Tryd.prog 5 #[.slice (some ⟨g, o, none⟩) N c] w fun e w' => e = .returned (.bool true) ∧ Below w.heap.size w w' := by
  obtain ⟨i0, hi, hz0, hz1, hz2⟩ := info_parts info_int
  have HL := Lib.hid Hl
  have HN := Lib.hid hN
  have HT := Lib.hid hT
  have HNN := Lib.hid hn
  unfold maxLen at hcm
  clear Hl hN hT hn
  have d2 : decide ((200 : Int) < (N : Int)) = true := decide_eq_true (by omega)
  go_enter Tryd.func5, Tryd.ntmps5
  go_wp2_with fail
  go_loopw [3, 16] (fun v3 v16 wr => ∃ k : Nat, v16 = .int .i64 k ∧ k ≤ 200 ∧ wr.ownsRow w.heap.size 3 1 v3 ((l.take k).filter isK).length (nums ((l.take k).filter isK)) ∧ Below w.heap.size w wr) (fun _ v16 _ => 200 - (intOf v16).toNat)
  case atStart => exact ⟨0, rfl, by omega, ⟨rfl, .inl ⟨rfl, rfl⟩⟩, Below.refl _ w⟩
  case round =>
    obtain ⟨k, rfl, hk, hown, hb⟩ := hrel
    have HB := Lib.hid hb
    have HO := Lib.hid hown
    clear hb hown
    have hfl : ((l.take k).filter isK).length ≤ 200 := by
      have h1 := List.length_filter_le isK (l.take k)
      rw [List.length_take] at h1
      omega
    by_cases hlt : k < 200
    · have hkl : k < l.length := by rw [HNN.out]; exact hlt
      obtain ⟨x, hx⟩ : ∃ x, l[k]? = some x := ⟨_, List.getElem?_eq_getElem hkl⟩
      have hcell : wr.cell? ⟨g, o + k, none⟩ = some (.int .i64 x) := by
        have h1 := HL.out.num hx
        rw [HB.out.cell (p := ⟨g, o + k, none⟩) h1.2]
        exact h1.1
      have HIS := Lib.hid fun (v : World) => ris_of x v
      have htk : l.take (k + 1) = l.take k ++ [x] := by rw [List.take_add_one, hx]; rfl
      have HTK := Lib.hid htk
      obtain ⟨b, hbx⟩ : ∃ b, isK x = b := ⟨_, rfl⟩
      rw [hbx] at HIS
      have HBX := Lib.hid hbx
      clear hx htk hbx
      cases b with
      | false =>
        go_wp2_with fail
        refine (HIS.out _).mono ?_
        rintro e w1 ⟨rfl, hb1⟩
        have HB1 := Lib.hid hb1
        clear hb1
        go_wp2_with fail
        go_roundw
        case rel =>
          refine ⟨k + 1, rfl, by omega, ?_, HB.out.trans (HB1.out.mono HB.out.size)⟩
          rw [HTK.out, List.filter_append, List.filter_cons_of_neg (by rw [HBX.out]; decide), List.filter_nil, List.append_nil]
          exact own_below HO.out HB1.out
        case measure => simp [intOf]; omega
      | true =>
        go_wp2_with fail
        refine (HIS.out _).mono ?_
        rintro e w1 ⟨rfl, hb1⟩
        have HB1 := Lib.hid (HB.out.trans (hb1.mono HB.out.size))
        have HO1 := Lib.hid (own_below HO.out hb1)
        clear hb1
        go_wp2_with (first
          | (at_builtin; refine wpList_append_own _ rfl _ _ 28 rfl w.heap.size 3 i0 (.int .i64 0) 1 8 Tryd.underlying28 hi hz0 hz1 hz2 rfl (by decide) _ _ _ rfl (HO1.out.alloc _) ⟨w1.heap.size, 0, none⟩ 1 1 [.int .i64 x] rfl rfl ?c1 ?c2 ?c3 ?c4 ?c5 ?_)
          | fail)
        case c1 =>
          intro j u hj
          match j, hj with
          | 0, hj => simp at hj; subst hj; simp [Addr.add]
        case c2 => intro u hu; simp at hu; subst hu; rfl
        case c3 => unfold maxLen; omega
        case c4 => omega
        case c5 => have := HB1.out.size; simp; omega
        intro v' w2 hown' hgrow _
        have HO2 := Lib.hid hown'
        have HB2 := Lib.hid ((HB1.out.alloc (HB1.out.size) _).grown hgrow (by have := HB1.out.size; simp; omega) (fun j hj => (HO1.out.lt j hj).1))
        clear hown' hgrow
        go_wp2_with fail
        go_roundw
        case rel =>
          refine ⟨k + 1, rfl, by omega, ?_, HB2.out⟩
          rw [HTK.out, List.filter_append, List.filter_cons_of_pos HBX.out, List.filter_nil, List.length_append]
          have := HO2.out
          rw [show nums ((l.take k).filter isK) ++ [Value.int .i64 x] = nums ((l.take k).filter isK ++ [x]) from by unfold nums; rw [List.map_append]; rfl] at this
          exact this
        case measure => simp [intOf]; omega
    · have e : l.take k = l := by
        rw [List.take_of_length_le]
        rw [HNN.out]; omega
      rw [e] at HO hfl
      clear e
      obtain ⟨aw, cw, hv, hslw⟩ := sl_own HO.out
      subst hv
      have HSW := Lib.hid hslw
      have hlr := HL.out.below HB.out
      have HPR := Lib.hid (print_of l hlr (by rw [HNN.out]; omega) (HN.out.below HB.out))
      rw [HNN.out] at HPR
      have hpl := prt_len l
      rw [HNN.out, ← strOf_size] at hpl
      have HPP := Lib.hid (prt_parse l)
      have HRP := Lib.hid fun (v : World) (hv : Below wr.heap.size wr v) => rprint_of l (hlr.below hv) (by rw [HNN.out]; omega)
      rw [HNN.out] at HRP
      have HPA := Lib.hid fun (v : World) (hv : NmT v) (ht : Tabs v) => parse_of (strOf (prt l)) v (by omega) hv ht
      clear hslw HO hlr
      generalize hS : strOf (prt l) = S at *
      clear hS
      have e3 : (S.toList == S.toList) = true := by simp
      go_wp2_with fail
      refine HPR.out.mono ?_
      rintro e w1 ⟨rfl, hb1⟩
      have HB1 := Lib.hid hb1
      have HBB1 := Lib.hid (HB.out.trans (hb1.mono HB.out.size))
      clear hb1
      go_wp2_with fail
      refine (HPA.out w1 (HN.out.below HBB1.out) (HT.out.below HBB1.out)).mono ?_
      rintro e w2 ⟨hb2, he⟩
      rw [HPP.out] at he
      obtain ⟨ag, cg, rfl, hslg⟩ := he
      have HSG := Lib.hid hslg
      have HB2 := Lib.hid (HB1.out.trans (hb2.mono HB1.out.size))
      have HBB2 := Lib.hid (HBB1.out.trans (hb2.mono HBB1.out.size))
      clear hb2 hslg
      go_wp2_with fail
      refine (HRP.out w2 HB2.out).mono ?_
      rintro e w3 ⟨rfl, hb3⟩
      have HB3 := Lib.hid (HB2.out.trans (hb3.mono HB2.out.size))
      have HBB3 := Lib.hid (HBB2.out.trans (hb3.mono HBB2.out.size))
      have HSG3 := Lib.hid (HSG.out.below hb3)
      clear hb3
      go_wp2_with fail
      refine (nsame _ _ HSG3.out (HSW.out.below HB3.out) (by omega)).mono ?_
      rintro e w4 ⟨rfl, hb4⟩
      have HBB4 := Lib.hid (HBB3.out.trans (hb4.mono HBB3.out.size))
      clear hb4
      rw [show decide (l.filter isK = l.filter isK) = true from decide_eq_true rfl]
      go_wp2_with fail
      refine (awake22_of w4 (HN.out.below HBB4.out) (HT.out.below HBB4.out)).mono ?_
      rintro e w5 ⟨rfl, hb5⟩
      have HBB5 := Lib.hid (HBB4.out.trans (hb5.mono HBB4.out.size))
      clear hb5
      go_wp2_with fail
      go_ret
      exact ⟨by simp, HBB5.out⟩


theorem keysBack_walk (a : Option Addr) (c : Nat) (l : List Int) (w : World) (h : Sl w a c (l.map (Value.int .i64)) ∧ ∀ x ∈ l, I64 x) (hT : Tabs w) (hN : NmT w) :
    Calls Tryd.prog 5 #[.slice a l.length c] w fun e w' => e = .returned (.bool true) ∧ Below w.heap.size w w' := by
  have Hl : Sl w a c (nums l) := h.1
  by_cases hn : l.length ≤ 200
  · exact keysBack_few l w Hl hn hT hN
  · obtain ⟨g, o, ha⟩ := Hl.numsome (by omega)
    subst ha
    have hc := Hl.cap
    rw [nums_len] at hc
    have ht := Hl.take 200
    rw [nums_take] at ht
    exact keysBack_many (l.take 200) l.length w ht (by rw [List.length_take]; omega) (by omega) hc Hl.capm hT hN

end Go.Proofs.YtkendmlbmdhnaaaDoor
