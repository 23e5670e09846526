/-
  Slices of texts: Clone; rows of texts: Grow, Concat; at this seat's numbers.
-/
import Derived.Test.YteipnllefifgiaaRgA
import Derived.Lib.SliceRun
import Derived.Laws.AppendOwnNone
namespace Go.Proofs.Yteipnllefifgiaa
open Go Go.RowKit
set_option linter.unusedVariables false

theorem info_str : (Try.prog.info? 9).map (fun i => (i.zero, i.size, i.bytes)) = some (some (.string ByteArray.empty), 1, 16) := by kernel_rfl
theorem info_txs : (Try.prog.info? 61).map (fun i => (i.zero, i.size, i.bytes)) = some (some (.slice none 0 0), 1, 24) := by kernel_rfl

set_option maxRecDepth 100000 in
theorem clone_str {w : World} {a : Option Addr} {c : Nat} {xs : List Value} (h : Sl w a c xs) (hl : xs.length ≤ 1000000) :
    Calls Try.prog 41 #[.slice a xs.length c] w fun e w' => ∃ a' c', e = .returned (.slice a' xs.length c') ∧ Sl w' a' c' xs ∧ (∀ d, a' = some d → w.heap.size ≤ d.block ∧ d.block < w'.heap.size ∧ ∃ cs, w'.heap[d.block]? = some (.cells cs 9 (0, 0))) ∧ Below w.heap.size w w' := by
  obtain ⟨i0, hi0, hz0, hz1, hz2⟩ := info_parts info_str
  have H := Lib.hid h
  rcases a with _ | d
  · obtain ⟨rfl, rfl⟩ := h.empty
    clear h
    have hq : ∀ w, (binOp .eql 61 (.slice none 0 0) (.slice none 0 0)).run Try.prog w = .ok (.bool true) w := fun w => Go.Lib.run_eql_slice_nil w _ _ _ _ _ _ _ Try.underlying61
    rw [List.length_nil]
    go_enter Try.func41, Try.ntmps41
    go_wp2_with fail
    go_ret
    exact ⟨none, 0, rfl, Sl.none _, fun d hd => (by cases hd), Below.refl _ _⟩
  · obtain ⟨g, off, rfl⟩ := h.form d rfl
    have al := t_al w (Obj.cells #[] 9)
    have HE := Lib.hid (t_empty (B := w.heap.size) 1 (Nat.le_refl _) (heap_alloc_new w (Obj.cells #[] 9)))
    have HB := Lib.hid al
    have HL := Lib.hid hl
    obtain ⟨n, hn⟩ : ∃ n, xs.length = n := ⟨_, rfl⟩
    have HN := Lib.hid hn
    have hq : ∀ w, (binOp .eql 61 (.slice (some ⟨g, off, none⟩) n c) (.slice none 0 0)).run Try.prog w = .ok (.bool false) w := fun w => Go.Lib.run_eql_slice_nil w _ _ _ _ _ _ _ Try.underlying61
    rw [hn] at hl ⊢
    clear h al hn
    go_enter Try.func41, Try.ntmps41
    go_wp2_with (first
      | (at_builtin; refine wpList_append_own _ rfl (.tmp 5) (.tmp 6) 61 rfl w.heap.size 9 i0 (.string ByteArray.empty) 1 16 Try.underlying61 hi0 hz0 hz1 hz2 rfl (by decide) (.slice (some ⟨w.heap.size, 0, none⟩) 0 0) 0 [] rfl HE.out ⟨g, off, none⟩ n c xs rfl ?c0 ?c1 H.out.one ?c3 ?c4 ?c5 ?_)
      | fail)
    case c0 => rw [HN.out, Nat.mul_one]
    case c1 =>
      intro j u hj
      have hp := (List.getElem?_eq_some_iff.1 hj).1
      obtain ⟨g', o', e', hg, hc⟩ := H.out.rd.2 (by omega)
      cases e'
      rw [Addr.add_lit]
      exact (HB.out.cell (p := ⟨g, off + j, none⟩) hg).trans (hc j u hj)
    case c3 => unfold maxLen; omega
    case c4 => omega
    case c5 => simp only [World.size_alloc]; omega
    intro v7 wB ho7 hg7 _
    have hbb := HB.out.grown hg7 (by simp only [World.size_alloc]; omega) (fun q hq => (HE.out.lt q hq).1)
    obtain ⟨a7, c7, rfl⟩ : ∃ a7 c7, v7 = .slice a7 n c7 := by
      rcases ho7.2 with ⟨h1, h2⟩ | ⟨g, cap, cur, h1, _⟩
      · exact ⟨none, 0, by rw [h1, h2]⟩
      · exact ⟨_, _, h1⟩
    have HO7 := Lib.hid ho7
    have HBB := Lib.hid hbb
    clear ho7 hg7 hbb
    go_wp2_with fail
    go_ret
    have hq7 := HO7.out
    rw [← HN.out] at hq7
    refine ⟨a7, c7, rfl, Sl.own hq7 H.out.one, fun d hd => ?_, HBB.out⟩
    rcases t_form hq7 with ⟨h1, _⟩ | ⟨g7, h1, h2, h3, _⟩
    · rw [h1] at hd; cases hd
    · rw [h1] at hd; cases hd; exact ⟨h2, h3, own_ty (by rw [h1] at hq7; exact hq7) _ rfl⟩

/-- Grow of nil: a row of one's own with room. -/
theorem grow_mat (w : World) (n : Nat) (hn : n ≤ 1000000) :
    Calls Try.prog 40 #[.slice none 0 0, .int .i64 n] w fun e w' => ∃ a c, e = .returned (.slice a 0 c) ∧ w'.ownsRow w.heap.size 61 1 (.slice a 0 c) 0 [] ∧ Below w.heap.size w w' := by
  obtain ⟨i0, hi0, hz0, hz1, hz2⟩ := info_parts info_txs
  have d0 : decide ((n : Int) < 0) = false := decide_eq_false (by omega)
  have hw0 : IntKind.i64.wrap ((n : Int) - 0) = (n : Int) := by rw [IntKind.wrap_i64]; omega
  go_enter Try.func40, Try.ntmps40
  by_cases h : 0 < n
  · have d1 : decide ((0 : Int) < (n : Int)) = true := decide_eq_true (by omega)
    have d1' : decide (0 < n) = true := decide_eq_true h
    have HRUN := Lib.hid (fun ty => Lib.run_append_nil_zeros (P := Try.prog) w 26 3 ty 61 i0 (.slice none 0 0) .i64 .i64 Try.underlying26 Try.underlying3 hi0 hz0 n h (by rw [hz1]; omega) (by omega) (by rw [hz2]; omega))
    have hge := grownCap_ge w n 0 61
    have hle := grownCap_le_maxLen w n 0 61 (by unfold maxLen; omega)
    go_wp2_with (first
      | (at_builtin; refine Lib.wpList_append_run _ rfl (.tmp 20) (.tmp 21) _ _ rfl (.slice none 0 0) (.int .i64 n) rfl rfl _ _ (HRUN.out _) ?_)
      | fail)
    generalize grownCap w n 0 61 = cap at *
    have hown : ∀ Z : Array Value, Z.size = cap * 1 → ((w.alloc (.cells Z 61)).drew).ownsRow w.heap.size 61 1 (.slice (some ⟨w.heap.size, 0, none⟩) 0 cap) 0 [] :=
      fun Z hZs => ⟨rfl, .inr ⟨w.heap.size, cap, Z, rfl, Nat.le_refl _, heap_alloc_new w _, Nat.zero_le _, hle, hZs, by simp⟩⟩
    go_ret
    exact ⟨_, _, rfl, hown _ (by simp [Builtin.zeroCells]; omega), ((Below.refl _ w).alloc (Nat.le_refl _) _).drew⟩
  · obtain rfl : n = 0 := by omega
    go_wp2_with fail
    go_ret
    exact ⟨none, 0, rfl, t_nil _ _ _ _, Below.refl _ _⟩

set_option maxRecDepth 100000 in
set_option maxHeartbeats 4000000 in
theorem concat_mat {w : World} {b cc : Nat} {ps : List PtM} (hb : b < w.heap.size) (hc : ∀ k (h : k < ps.length), w.cell? ⟨b, k, none⟩ = some (ptV ps[k])) (hr : ∀ p ∈ ps, Sl w p.1 p.2.1 p.2.2) (hn : (catP ps).length ≤ 1000000) (hl : ps.length ≤ 10) :
    Calls Try.prog 32 #[.slice (some ⟨b, 0, none⟩) ps.length cc] w fun e w' => ∃ a c, e = .returned (.slice a (catP ps).length c) ∧ Sl w' a c (catP ps) ∧ (∀ d, a = some d → w.heap.size ≤ d.block ∧ d.block < w'.heap.size) ∧ Below w.heap.size w w' := by
  obtain ⟨i0, hi0, hz0, hz1, hz2⟩ := info_parts info_txs
  have HC := Lib.hid hc
  have HR := Lib.hid hr
  have HLN := Lib.hid (fun k => Nat.le_trans (catP_len (ps := ps) k) hn)
  have HG := Lib.hid (fun w' => grow_mat w' (catP ps).length hn)
  clear hc hr
  obtain ⟨m, hm⟩ : ∃ m, ps.length = m := ⟨_, rfl⟩
  have HM := Lib.hid hm
  rw [hm] at hl ⊢
  clear hm
  go_enter Try.func32, Try.ntmps32
  go_wp2_with fail
  go_loopw [3, 11] (fun v3 v11 wr => ∃ k : Nat, k ≤ m ∧ v11 = .int .i64 k ∧ v3 = .int .i64 (catP (ps.take k)).length ∧ wr = w) (fun _ i _ => m - (intOf i).toNat)
  case atStart => exact ⟨0, by omega, rfl, by simp [catP], rfl⟩
  case round =>
    obtain ⟨k, hk, rfl, rfl, hww⟩ := hrel
    have hww2 := hww.symm
    subst hww2
    clear hww
    have hln := HLN.out k
    by_cases hlt : k < m
    · have dk : decide (k < m) = true := decide_eq_true hlt
      have hkp : k < ps.length := by rw [HM.out]; exact hlt
      have c0 := HC.out k hkp
      unfold ptV at c0
      have hst : (catP (ps.take k)).length + ps[k].2.2.length = (catP (ps.take (k + 1))).length := by rw [catP_take hkp, List.length_append]
      have HST := Lib.hid hst
      have hln2 := HLN.out (k + 1)
      rw [← hst] at hln2
      clear hst
      generalize ps[k].2.2.length = q at *
      generalize hN0 : (catP (ps.take k)).length = N0 at *
      have hw0 : IntKind.i64.wrap ((N0 : Int) + (q : Int)) = ((N0 + q : Nat) : Int) := by rw [IntKind.wrap_i64]; omega
      have d0 : decide ((N0 : Int) + (q : Int) < 0) = false := decide_eq_false (by omega)
      have d0' : decide (((N0 + q : Nat) : Int) < 0) = false := decide_eq_false (by omega)
      have e0 : (0 : Int) ≤ (k : Int) := by omega
      have e1 : (k : Int) < (m : Int) := by omega
      go_wp2_with fail
      go_roundw
      case rel => exact ⟨k + 1, hlt, by go_num, by rw [← HST.out]; go_num, by simp⟩
      case measure => simp [intOf]; omega
    · have dk : decide (k < m) = false := decide_eq_false hlt
      have hkm : k = m := by omega
      have htk : ps.take k = ps := by rw [hkm, ← HM.out]; exact List.take_length
      rw [htk]
      generalize hNN : (catP ps).length = N at *
      go_wp2_with fail
      refine (HG.out _).mono ?_; rintro e w1 ⟨a6, c6, rfl, ho6, hb6⟩
      have HO6 := Lib.hid ho6
      have HB6 := Lib.hid hb6
      have HNN := Lib.hid hNN
      clear ho6 hb6 HG hNN htk
      go_wp2_with fail
      go_loopw [6, 27] (fun v6 v27 wz => ∃ (k2 n2 : Nat) (a2 : Option Addr) (c2 : Nat) (xs : List Value), k2 ≤ m ∧ v27 = .int .i64 k2 ∧ v6 = .slice a2 n2 c2 ∧ n2 = (catP (ps.take k2)).length ∧ xs = catP (ps.take k2) ∧ wz.ownsRow w.heap.size 61 1 (.slice a2 n2 c2) n2 xs ∧ Below w.heap.size w wz) (fun _ i _ => m - (intOf i).toNat)
      case atStart => exact ⟨0, 0, a6, c6, [], by omega, rfl, rfl, by simp [catP], by simp [catP], HO6.out, HB6.out⟩
      case round =>
        obtain ⟨k2, n2, a2, c2, xs, hk2, rfl, rfl, hn2, hxs, ho, hbb⟩ := hrel
        have HO := Lib.hid ho
        have HB := Lib.hid hbb
        have hzz := hbb.size
        have HN2 := Lib.hid hn2
        have HXS := Lib.hid hxs
        have hln2 := HLN.out k2
        rw [← hn2] at hln2
        by_cases hlt2 : k2 < m
        · have dk2 : decide (k2 < m) = true := decide_eq_true hlt2
          have hkp : k2 < ps.length := by rw [HM.out]; exact hlt2
          have c0 := (hbb.cell (p := ⟨b, k2, none⟩) hb).trans (HC.out k2 hkp)
          unfold ptV at c0
          have hrd := (HR.out ps[k2] (List.getElem_mem hkp)).below hbb
          have hsn : n2 + ps[k2].2.2.length = (catP (ps.take (k2 + 1))).length := by rw [catP_take hkp, List.length_append, ← hn2]
          have hsx : xs ++ ps[k2].2.2 = catP (ps.take (k2 + 1)) := by rw [catP_take hkp, ← hxs]
          have hln3 := HLN.out (k2 + 1)
          rw [← hsn] at hln3
          have HSN := Lib.hid hsn
          have HSX := Lib.hid hsx
          have HRD := Lib.hid hrd
          clear hsn hsx ho hbb hn2 hxs hrd
          generalize ps[k2].1 = ap at *
          generalize ps[k2].2.1 = cp at *
          generalize ps[k2].2.2 = Mp at *
          have e0 : (0 : Int) ≤ (k2 : Int) := by omega
          have e1 : (k2 : Int) < (m : Int) := by omega
          rcases ap with _ | ad
          · obtain ⟨hm0, hcp⟩ := HRD.out.empty
            subst hcp hm0
            have HSX2 : Hid (xs = catP (ps.take (k2 + 1))) := by have := HSX.out; rw [List.append_nil] at this; exact Lib.hid this
            have HSN2 : Hid (n2 = (catP (ps.take (k2 + 1))).length) := by have := HSN.out; rw [List.length_nil, Nat.add_zero] at this; exact Lib.hid this
            clear HSX HSN
            rw [List.length_nil] at c0
            go_wp2_with (first
              | (at_builtin; refine wpList_append_own_none rfl (.tmp 31) (.tmp 32) 26 rfl w.heap.size 61 i0 1 Try.underlying26 hi0 (.slice a2 n2 c2) n2 xs rfl HO.out rfl ?_)
              | fail)
            go_wp2_with fail
            go_roundw
            case rel => exact ⟨k2 + 1, n2, a2, c2, xs, hlt2, by go_num, rfl, HSN2.out, HSX2.out, HO.out, HB.out⟩
            case measure => simp [intOf]; omega
          · have C1 : Hid (∀ j u, Mp[j]? = some u → wr.cell? (ad.add j) = some u) := by
              refine Lib.hid (fun j u hj => ?_)
              have hpos : 0 < Mp.length := by
                have h1 := (List.getElem?_eq_some_iff.1 hj).1
                omega
              obtain ⟨g, o, h, _, h2⟩ := HRD.out.rd.2 hpos
              cases h
              rw [Addr.add_lit]
              exact h2 j u hj
            generalize hMl : Mp.length = q at *
            have HML := Lib.hid hMl
            clear hMl
            go_wp2_with (first
              | (at_builtin; refine wpList_append_own _ rfl (.tmp 31) (.tmp 32) 26 rfl w.heap.size 61 i0 (.slice none 0 0) 1 24 Try.underlying26 hi0 hz0 hz1 hz2 rfl (by decide) (.slice a2 n2 c2) n2 xs rfl HO.out ad q cp Mp rfl ?c0 C1.out HRD.out.one ?c3 ?c4 ?c5 ?_)
              | fail)
            case c0 => rw [HML.out, Nat.mul_one]
            case c3 => unfold maxLen; omega
            case c4 => omega
            case c5 => omega
            intro v7 wB ho7 hg7 _
            have hb7 := HB.out.grown hg7 hzz (fun q hq => (HO.out.lt q hq).1)
            obtain ⟨a7, c7, rfl⟩ : ∃ a7 c7, v7 = .slice a7 (n2 + q) c7 := by
              rcases ho7.2 with ⟨h1, h2⟩ | ⟨g, cap, cur, h1, _⟩
              · exact ⟨none, 0, by rw [h1, h2]⟩
              · exact ⟨_, _, h1⟩
            have HO7 := Lib.hid ho7
            have HB7 := Lib.hid hb7
            clear ho7 hg7 hb7
            go_wp2_with fail
            go_roundw
            case rel => exact ⟨k2 + 1, n2 + q, a7, c7, xs ++ Mp, hlt2, by go_num, rfl, HSN.out, HSX.out, HO7.out, HB7.out⟩
            case measure => simp [intOf]; omega
        · have dk2 : decide (k2 < m) = false := decide_eq_false hlt2
          have hkm2 : k2 = m := by omega
          have htk : ps.take k2 = ps := by rw [hkm2, ← HM.out]; exact List.take_length
          rw [htk] at hn2 hxs
          have HF : Hid (wr.ownsRow w.heap.size 61 1 (.slice a2 N c2) N (catP ps)) := by rw [← HNN.out, ← hn2, ← hxs]; exact Lib.hid ho
          have hnN : n2 = N := by rw [hn2]; exact HNN.out
          subst hnN
          clear ho hbb hxs hn2
          go_wp2_with fail
          go_ret
          have hcl := HF.out
          rw [← HNN.out] at hcl
          have hsl := Sl.own hcl (fun u hu => by
            unfold catP at hu
            obtain ⟨p, hp, hu⟩ := List.mem_flatMap.1 hu
            exact (HR.out p hp).one u hu)
          have hcl2 := HNN.out
          rw [hcl2]
          refine ⟨a2, c2, rfl, hsl, fun d hd => ?_, HB.out⟩
          rcases t_form hcl with ⟨h1, _⟩ | ⟨g7, h1, h2, h3, _⟩
          · rw [h1] at hd; cases hd
          · rw [h1] at hd; cases hd; exact ⟨h2, h3⟩


end Go.Proofs.Yteipnllefifgiaa
