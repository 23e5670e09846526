/-
  The law LeafPlays, at this seat's numbers.
-/
import Derived.Test.YtnjkobljcgjadaaLfL
namespace Go.Proofs.Ytnjkobljcgjadaa
open Go Go.RowKit
set_option linter.unusedVariables false

set_option maxRecDepth 100000 in
set_option maxHeartbeats 16000000 in
theorem leafPlays_law (a : Option Addr) (c : Nat) (l : List Int) (ao : Option Addr) (co : Nat) (O : List (Int × Int)) (W : World) (h : Sl W a c (nums l) ∧ ∀ x ∈ l, I64 x) (hO : Rd W 2 ao O.length (opC O) ∧ co ≤ maxLen ∧ O.length ≤ co ∧ ∀ o ∈ O, I64 o.1 ∧ I64 o.2) :
    Calls Try.prog 3 #[.slice a l.length c, .slice ao O.length co] W fun e w' => e = .returned (.bool true) ∧ Below W.heap.size W w' := by
  obtain ⟨h, hi⟩ := h
  obtain ⟨hrd, hco, hOl, hOi⟩ := hO
  have hcap := h.cap
  rw [nums_len] at hcap
  have HCUT : Hid (∃ (F : List Int), F.length ≤ 60 ∧ Sl W a c (nums F) ∧ (∀ x ∈ F, Wf x) ∧ ((l.length ≤ 60 ∧ F.length = l.length) ∨ (60 < l.length ∧ F.length = 60))) := Lib.hid (by
    refine ⟨l.take 60, by rw [List.length_take]; omega, by rw [← nums_take]; exact h.take 60, fun x hx => wf_of (hi x (List.mem_of_mem_take hx)), ?_⟩
    rw [List.length_take]
    rcases Nat.lt_or_ge 60 l.length with h1 | h1
    · exact .inr ⟨h1, by omega⟩
    · exact .inl ⟨h1, by omega⟩)
  obtain ⟨F, hF, hs, hw, hcase⟩ := HCUT.out
  obtain ⟨n, hn⟩ : ∃ n, l.length = n := ⟨_, rfl⟩
  obtain ⟨nF, hnF⟩ : ∃ nF, F.length = nF := ⟨_, rfl⟩
  obtain ⟨nO, hnO⟩ : ∃ nO, O.length = nO := ⟨_, rfl⟩
  rw [hn] at hcap hcase ⊢
  rw [hnF] at hcase
  rw [hnO] at hOl ⊢
  have HS := Lib.hid hs
  have HW := Lib.hid hw
  have HF := Lib.hid (And.intro hF hnF)
  have HO := Lib.hid (And.intro hrd (And.intro hnO hOi))
  have h100 : (60 : Int) ≤ (c : Int) ∨ n ≤ 60 := by omega
  have hnF1 : nF ≤ 60 := by omega
  have hnO1 : nO ≤ maxLen := by omega
  have hnO2 : (nO : Int) ≤ 9223372036854775807 := by unfold maxLen at hnO1; omega
  clear h hi hs hw hF hnF hn HCUT hrd hOi hnO hco hOl hnO1
  go_enter Try.func3, Try.ntmps3
  go_upto_if 14 with fail
  go_cut [0] (fun s0 wx => s0 = .slice a nF c ∧ wx = W)
  case first =>
    rcases hcase with ⟨hle, h2⟩ | ⟨hgt, h2⟩
    · have d0 : decide ((n : Int) > 60) = false := decide_eq_false (by omega)
      have d1 : decide ((60 : Int) < (n : Int)) = false := decide_eq_false (by omega)
      have d2 : decide (60 < n) = false := decide_eq_false (by omega)
      go_wp2_with fail
      go_meet
      exact ⟨by rw [h2], rfl⟩
    · have d0 : decide ((n : Int) > 60) = true := decide_eq_true (by omega)
      have d1 : decide ((60 : Int) < (n : Int)) = true := decide_eq_true (by omega)
      have d2 : decide (60 < n) = true := decide_eq_true (by omega)
      have e2 : (60 : Int) ≤ (c : Int) := by omega
      go_wp2_with fail
      go_meet
      exact ⟨by rw [h2], rfl⟩
  case rest =>
    obtain ⟨rfl, hwe⟩ := hcut
    rw [hwe]
    clear hwe wc hcase h100 hcap
    go_wp2_with fail
    go_loopw [5, 19] (fun v5 v19 wr => ∃ (k : Nat) (a5 : Option Addr) (c5 m5 : Nat), v5 = .slice a5 m5 c5 ∧ v19 = .int .i64 k ∧ k ≤ nF ∧ (setL (F.take k)).length = m5 ∧ Sl wr a5 c5 (nums (setL (F.take k))) ∧ Lt wr a5 ∧ Below W.heap.size W wr) (fun _ v19 _ => nF - (intOf v19).toNat)
    case atStart => exact ⟨0, none, 0, 0, rfl, rfl, by omega, rfl, Sl.none _, (fun d e => by cases e), Below.refl _ _⟩
    case round =>
      obtain ⟨wq, rfl⟩ : ∃ wq : World, wq = wr := ⟨_, rfl⟩
      obtain ⟨k, a5, c5, m5, rfl, rfl, hk, hm, h1, h2, h3⟩ := hrel
      have HB := Lib.hid h3
      have H1 := Lib.hid h1
      have H2 := Lib.hid h2
      have HM := Lib.hid hm
      have hmk : m5 ≤ nF := by
        rw [← hm]
        have := setL_len (F.take k)
        rw [List.length_take] at this; omega
      clear h1 h2 h3 hm
      by_cases hlt : k < nF
      · have dk : decide (k < nF) = true := decide_eq_true hlt
        obtain ⟨g, o, rfl⟩ := HS.out.numsome (by have := HF.out.2; omega)
        obtain ⟨y, hy⟩ : ∃ y, F[k]? = some y := ⟨_, List.getElem?_eq_getElem (by have := HF.out.2; omega)⟩
        have c0 := ((HS.out.below HB.out).num hy).1
        have e0 : (0 : Int) ≤ (k : Int) := by omega
        have e1 : (k : Int) < (nF : Int) := by omega
        have HP := rput_of H1.out H2.out (by rw [HM.out]; omega) y
        rw [← setL_snoc, take_snoc hy, HM.out] at HP
        have HP := Lib.hid HP
        clear hy
        go_wp2_with fail
        refine HP.out.mono ?_; rintro e w1 ⟨a', c', rfl, hr, hb⟩
        obtain ⟨m', hm'⟩ : ∃ m', (setL (F.take (k + 1))).length = m' := ⟨_, rfl⟩
        rw [hm']
        have HR := Lib.hid (And.intro hr (And.intro hm' (HB.out.trans (hb.mono HB.out.size))))
        clear hr hb hm' HP
        go_wp2_with fail
        go_roundw
        case rel => exact ⟨k + 1, a', c', m', rfl, by go_num, by omega, HR.out.2.1, HR.out.1.sl, HR.out.1.lt, HR.out.2.2⟩
        case measure => simp [intOf]; omega
      · obtain rfl : k = nF := by omega
        have dk : decide (k < k) = false := by simp
        have HT : Hid (F.take k = F) := Lib.hid (List.take_of_length_le (by have := HF.out.2; omega))
        rw [HT.out] at H1 HM
        have HN := new_of (HS.out.below HB.out) (by have := HF.out.1; omega) HW.out
        rw [HF.out.2] at HN
        have HN := Lib.hid HN
        go_wp2_with fail
        refine HN.out.mono ?_; rintro e w1 ⟨q, t, R, rfl, hq, hp, hba, hb⟩
        have hst : St W.heap.size w1 q t R (setL F) a5 c5 := ⟨hq, hp, setL_rise F, fun b hi => Nat.le_trans HB.out.size (hba b hi), H1.out.below hb, H2.out.mono hb.size, fun d e hi => by have := hba _ hi; have := H2.out d e; omega⟩
        have HL := like_of hst.qi hst.pm hst.rs hst.sl (by rw [HM.out]; omega) (x := 0) (by unfold Wf; decide)
        rw [HM.out] at HL
        have HL := Lib.hid HL
        have HST := Lib.hid hst
        have HB1 := Lib.hid (HB.out.trans (hb.mono HB.out.size))
        clear hq hp hba hb hst HN H1 H2
        go_wp2_with fail
        refine HL.out.mono ?_; rintro e w2 ⟨rfl, hb⟩
        have HST2 := Lib.hid (HST.out.below hb)
        have HB2 := Lib.hid (HB1.out.trans (hb.mono HB1.out.size))
        clear hb HL HST HB1
        go_wp2_with fail
        go_loopw [5, 39] (fun v5 v39 wr => ∃ (j : Nat) (t : Qt) (R L : List Int) (a6 : Option Addr) (c6 m6 : Nat), v5 = .slice a6 m6 c6 ∧ v39 = .int .i64 j ∧ j ≤ nO ∧ j ≤ 100 ∧ L.length = m6 ∧ m6 ≤ 60 + j ∧ St W.heap.size wr q t R L a6 c6 ∧ Below W.heap.size W wr) (fun _ v39 _ => nO - (intOf v39).toNat)
        case atStart => exact ⟨0, t, R, setL F, a5, c5, m5, rfl, rfl, by omega, by omega, HM.out, by omega, HST2.out, HB2.out⟩
        case round =>
          obtain ⟨wp, rfl⟩ : ∃ wp : World, wp = wr := ⟨_, rfl⟩
          obtain ⟨j, t, R, L, a6, c6, m6, rfl, rfl, hj, hj1, hm6, hm60, hst, hb⟩ := hrel
          have HST := Lib.hid hst
          have HBW := Lib.hid hb
          have HM6 := Lib.hid hm6
          clear hst hb hm6 HST2 HB2
          have AW : Hid (∀ wz, Below W.heap.size W wz → Calls Try.prog 10 #[] wz fun e w' => e = .returned (.bool true) ∧ Below W.heap.size W w') := Lib.hid (fun wz hb => (awake_of wz).mono (fun e w' ⟨h1, h2⟩ => ⟨h1, hb.trans (h2.mono hb.size)⟩))
          by_cases hlt2 : j < nO
          · have dj : decide (j < nO) = true := decide_eq_true hlt2
            obtain ⟨⟨kd, x⟩, hox⟩ : ∃ o, O[j]? = some o := ⟨_, List.getElem?_eq_getElem (by have := HO.out.2.1; omega)⟩
            obtain ⟨g, o, e, hg, hc⟩ := HO.out.1.2 (by have := HO.out.2.1; omega)
            subst e
            obtain ⟨hc1, hc2⟩ := opC_at hox
            have k0 := (HBW.out.cell (p := ⟨g, o + j * 2, none⟩) hg).trans (hc _ _ hc1)
            have k1 := (HBW.out.cell (p := ⟨g, o + (j * 2 + 1), none⟩) hg).trans (hc _ _ hc2)
            have k1' : wp.cell? ⟨g, o + j * 2 + 1, none⟩ = some (.int .i64 x) := by rw [Nat.add_assoc]; exact k1
            have wx : Wf x := wf_of (HO.out.2.2 _ (List.mem_of_getElem? hox)).2
            have HWX := Lib.hid wx
            have e0 : (0 : Int) ≤ (j : Int) := by omega
            have e1 : (j : Int) < (nO : Int) := by omega
            clear hc hc1 hc2 hox wx
            by_cases h99 : 100 ≤ j
            · have z0 : decide ((j : Int) ≥ 100) = true := decide_eq_true (by omega)
              have z1 : decide ((100 : Int) ≤ (j : Int)) = true := decide_eq_true (by omega)
              have z2 : decide (100 ≤ j) = true := decide_eq_true h99
              have HA := Lib.hid (AW.out (wp.alloc (.cells #[.int .i64 kd, .int .i64 x] 29)) (HBW.out.alloc HBW.out.size _))
              go_wp2_with fail
              refine HA.out.mono ?_; rintro e w9 ⟨rfl, hb9⟩
              have HB9 := Lib.hid hb9
              clear hb9
              go_wp2_with fail
              go_ret
              exact ⟨rfl, HB9.out⟩
            · have z0 : decide ((j : Int) ≥ 100) = false := decide_eq_false (by omega)
              have z1 : decide ((100 : Int) ≤ (j : Int)) = false := decide_eq_false (by omega)
              have z2 : decide (100 ≤ j) = false := decide_eq_false h99
              have hbox := heap_alloc_new wp (.cells #[.int .i64 kd, .int .i64 x] 29)
              have hal := t_al wp (.cells #[.int .i64 kd, .int .i64 x] 29)
              have hsz : (wp.alloc (.cells #[.int .i64 kd, .int .i64 x] 29)).heap.size = wp.heap.size + 1 := by simp
              obtain ⟨wb, hwb⟩ : ∃ wb, wp.alloc (.cells #[.int .i64 kd, .int .i64 x] 29) = wb := ⟨_, rfl⟩
              rw [hwb] at hbox hal hsz
              have hnq : ¬ inQ q t wp.heap.size := fun e => by have := HST.out.qi.lt _ e; omega
              have HStep := step_of (HST.out.below hal) (by have := HBW.out.size; omega) (by have := HM6.out; omega) HWX.out kd
              rw [HM6.out] at HStep
              have HStep := Lib.hid HStep
              have b0 : wb.cell? ⟨wp.heap.size, 0, none⟩ = some (.int .i64 kd) := by rw [cell_at hbox]; rfl
              have b1 : wb.cell? ⟨wp.heap.size, 1, none⟩ = some (.int .i64 x) := by rw [cell_at hbox]; rfl
              have HBox := Lib.hid (And.intro hbox (And.intro hnq (HBW.out.trans (hal.mono HBW.out.size))))
              clear hbox hal hnq hsz
              go_wp2_with fail
              refine HStep.out.mono ?_; rintro e w3 ⟨t3, R3, L3, a3, c3, rfl, hst3, hln3, hmq⟩
              obtain ⟨m3, hm3⟩ : ∃ m3, L3.length = m3 := ⟨_, rfl⟩
              rw [hm3] at hln3 ⊢
              have hbx3 := (hmq.rest _ (lt_of_heap HBox.out.1) HBox.out.2.1).trans HBox.out.1
              have d1 : w3.cell? ⟨wp.heap.size, 1, none⟩ = some (.int .i64 x) := by rw [cell_at hbx3]; rfl
              have HB3 := Lib.hid (HBox.out.2.2.trans (hmq.below HST.out.bs HBox.out.2.2.size))
              have HM3 := Lib.hid hm3
              have HST3 := Lib.hid hst3
              have HLk := like_of hst3.qi hst3.pm hst3.rs hst3.sl (by omega) HWX.out
              rw [hm3] at HLk
              have HLk := Lib.hid HLk
              clear hmq hbx3 hst3 hm3 HStep b0 b1
              go_wp2_with fail
              refine HLk.out.mono ?_; rintro e w4 ⟨rfl, hb4⟩
              have HB4 := Lib.hid (HB3.out.trans (hb4.mono HB3.out.size))
              have HST4 := Lib.hid (HST3.out.below hb4)
              clear hb4 HLk HST3 HB3 d1
              have hhd : m3 = 0 ∨ (0 < m3 ∧ ∃ g o y, a3 = some ⟨g, o, none⟩ ∧ w4.cell? ⟨g, o, none⟩ = some (.int .i64 y) ∧ Wf y) := by
                rcases Nat.eq_zero_or_pos m3 with h0 | h0
                · exact .inl h0
                · have hL0 : 0 < L3.length := by rw [HM3.out]; exact h0
                  obtain ⟨g, o, e⟩ := HST4.out.sl.numsome hL0
                  have hsl := HST4.out.sl
                  rw [e] at hsl
                  exact .inr ⟨h0, g, o, gN L3 0, e, (hsl.num (k := 0) (gN_at hL0)).1, HST4.out.qi.heap.2.2 _ (HST4.out.pm.mem_iff.2 (gN_mem hL0))⟩
              rcases hhd with h0 | ⟨h0, g3, o3, y3, rfl, c3', wy3⟩
              · have y0 : decide ((m3 : Int) > 0) = false := decide_eq_false (by omega)
                have y1 : decide ((0 : Int) < (m3 : Int)) = false := decide_eq_false (by omega)
                have y2 : decide (0 < m3) = false := decide_eq_false (by omega)
                clear h0
                go_wp2_with fail
                go_roundw
                case rel => exact ⟨j + 1, t3, R3, L3, a3, c3, m3, rfl, by go_num, by omega, by omega, HM3.out, by omega, HST4.out, HB4.out⟩
                case measure => simp [intOf]; omega
              · have y0 : decide ((m3 : Int) > 0) = true := decide_eq_true (by omega)
                have y1 : decide ((0 : Int) < (m3 : Int)) = true := decide_eq_true (by omega)
                have y2 : decide (0 < m3) = true := decide_eq_true (by omega)
                have y3' : (0 : Int) < (m3 : Int) := by omega
                have HL2 := like_of HST4.out.qi HST4.out.pm HST4.out.rs HST4.out.sl (by rw [HM3.out]; omega) wy3
                rw [HM3.out] at HL2
                have HL2 := Lib.hid HL2
                clear wy3
                go_wp2_with fail
                refine HL2.out.mono ?_; rintro e w5 ⟨rfl, hb5⟩
                have HB5 := Lib.hid (HB4.out.trans (hb5.mono HB4.out.size))
                have HST5 := Lib.hid (HST4.out.below hb5)
                clear hb5 HL2 HST4 HB4 c3'
                go_wp2_with fail
                go_roundw
                case rel => exact ⟨j + 1, t3, R3, L3, _, c3, m3, rfl, by go_num, by omega, by omega, HM3.out, by omega, HST5.out, HB5.out⟩
                case measure => simp [intOf]; omega
          · obtain rfl : j = nO := by omega
            have dj : decide (j < j) = false := by simp
            have HA := Lib.hid (AW.out wp HBW.out)
            go_wp2_with fail
            refine HA.out.mono ?_; rintro e w9 ⟨rfl, hb9⟩
            have HB9 := Lib.hid hb9
            clear hb9
            go_wp2_with fail
            go_ret
            exact ⟨rfl, HB9.out⟩
end Go.Proofs.Ytnjkobljcgjadaa
