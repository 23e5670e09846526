/-
  Texts of this seat, put together (a claim holds few texts): TgC, TgD.
-/
import Derived.Test.YtkgakgceamafcaaGreatMk2
import Derived.Lib.SliceRun
import Derived.Laws.AppendOwnNone

namespace Go.Proofs.YtkgakgceamafcaaGreat
open Go Go.RowKit
set_option linter.unusedVariables false

theorem info_ni : (Tryz.prog.info? 23).map (fun i => (i.zero, i.size, i.bytes)) = some (some (.pointer none), 1, 8) := by kernel_rfl

set_option maxRecDepth 100000 in
theorem clone_ni {w : World} {a : Option Addr} {c : Nat} {xs : List Value} (h : Sl w a c xs) (hl : xs.length ≤ 1000000) :
    Calls Tryz.prog 174 #[.slice a xs.length c] w fun e w' => ∃ a' c', e = .returned (.slice a' xs.length c') ∧ Sl w' a' c' xs ∧ (∀ d, a' = some d → w.heap.size ≤ d.block ∧ TyAt w' d.block) ∧ Below w.heap.size w w' := by
  obtain ⟨i0, hi0, hz0, hz1, hz2⟩ := info_parts info_ni
  have H := Lib.hid h
  rcases a with _ | d
  · obtain ⟨rfl, rfl⟩ := h.empty
    clear h
    have hq : ∀ w, (binOp .eql 183 (.slice none 0 0) (.slice none 0 0)).run Tryz.prog w = .ok (.bool true) w := fun w => Go.Lib.run_eql_slice_nil w _ _ _ _ _ _ _ Tryz.underlying183
    rw [List.length_nil]
    go_enter Tryz.func174, Tryz.ntmps174
    go_wp2_with fail
    go_ret
    exact ⟨none, 0, rfl, Sl.none _, fun d hd => (by cases hd), Below.refl _ _⟩
  · obtain ⟨g, off, rfl⟩ := h.form d rfl
    have al := t_al w (Obj.cells #[] 23)
    have HE := Lib.hid (t_empty (B := w.heap.size) 1 (Nat.le_refl _) (heap_alloc_new w (Obj.cells #[] 23)))
    have HB := Lib.hid al
    have HL := Lib.hid hl
    obtain ⟨n, hn⟩ : ∃ n, xs.length = n := ⟨_, rfl⟩
    have HN := Lib.hid hn
    have hq : ∀ w, (binOp .eql 183 (.slice (some ⟨g, off, none⟩) n c) (.slice none 0 0)).run Tryz.prog w = .ok (.bool false) w := fun w => Go.Lib.run_eql_slice_nil w _ _ _ _ _ _ _ Tryz.underlying183
    rw [hn] at hl ⊢
    clear h al hn
    go_enter Tryz.func174, Tryz.ntmps174
    go_wp2_with (first
      | (at_builtin; refine wpList_append_own _ rfl (.tmp 5) (.tmp 6) 183 rfl w.heap.size 23 i0 (.pointer none) 1 8 Tryz.underlying183 hi0 hz0 hz1 hz2 rfl (by decide) (.slice (some ⟨w.heap.size, 0, none⟩) 0 0) 0 [] rfl HE.out ⟨g, off, none⟩ n c xs rfl ?c0 ?c1 H.out.one ?c3 ?c4 ?c5 ?_)
      | fail)
    case c0 => rw [HN.out, Nat.mul_one]
    case c1 =>
      intro j u hj
      have hp := (List.getElem?_eq_some_iff.1 hj).1
      obtain ⟨g', o', e', hg, hc⟩ := H.out.rd.2 (by omega)
      cases e'
      rw [Addr.add_lit]
      exact (HB.out.cell (p := ⟨g, off + j, none⟩) hg).trans (hc j u hj)
    case c3 => unfold maxLen; omega
    case c4 => omega
    case c5 => simp only [World.size_alloc]; omega
    intro v7 wB ho7 hg7 _
    have hbb := HB.out.grown hg7 (by simp only [World.size_alloc]; omega) (fun q hq => (HE.out.lt q hq).1)
    obtain ⟨a7, c7, rfl⟩ : ∃ a7 c7, v7 = .slice a7 n c7 := by
      rcases ho7.2 with ⟨h1, h2⟩ | ⟨g, cap, cur, h1, _⟩
      · exact ⟨none, 0, by rw [h1, h2]⟩
      · exact ⟨_, _, h1⟩
    have HO7 := Lib.hid ho7
    have HBB := Lib.hid hbb
    clear ho7 hg7 hbb
    go_wp2_with fail
    go_ret
    have hq7 := HO7.out
    rw [← HN.out] at hq7
    refine ⟨a7, c7, rfl, Sl.own hq7 H.out.one, fun d hd => ?_, HBB.out⟩
    rcases t_form hq7 with ⟨h1, _⟩ | ⟨g7, h1, h2, _⟩
    · rw [h1] at hd; cases hd
    · rw [h1] at hd; cases hd; exact ⟨h2, by rw [h1] at hq7; exact TyAt.own hq7 (by unfold okT; simp)⟩

/-- Grow of nil: a row of one's own with room. -/
theorem grow_ni (w : World) (n : Nat) (hn : n ≤ 1000000) :
    Calls Tryz.prog 212 #[.slice none 0 0, .int .i64 n] w fun e w' => ∃ a c, e = .returned (.slice a 0 c) ∧ w'.ownsRow w.heap.size 23 1 (.slice a 0 c) 0 [] ∧ Below w.heap.size w w' := by
  obtain ⟨i0, hi0, hz0, hz1, hz2⟩ := info_parts info_ni
  have d0 : decide ((n : Int) < 0) = false := decide_eq_false (by omega)
  have hw0 : IntKind.i64.wrap ((n : Int) - 0) = (n : Int) := by rw [IntKind.wrap_i64]; omega
  go_enter Tryz.func212, Tryz.ntmps212
  by_cases h : 0 < n
  · have d1 : decide ((0 : Int) < (n : Int)) = true := decide_eq_true (by omega)
    have d1' : decide (0 < n) = true := decide_eq_true h
    have HRUN := Lib.hid (fun ty => Lib.run_append_nil_zeros (P := Tryz.prog) w 183 3 ty 23 i0 (.pointer none) .i64 .i64 Tryz.underlying183 Tryz.underlying3 hi0 hz0 n h (by rw [hz1]; omega) (by omega) (by rw [hz2]; omega))
    have hge := grownCap_ge w n 0 23
    have hle := grownCap_le_maxLen w n 0 23 (by unfold maxLen; omega)
    go_wp2_with (first
      | (at_builtin; refine Lib.wpList_append_run _ rfl (.tmp 20) (.tmp 21) _ _ rfl (.slice none 0 0) (.int .i64 n) rfl rfl _ _ (HRUN.out _) ?_)
      | fail)
    generalize grownCap w n 0 23 = cap at *
    have hown : ∀ Z : Array Value, Z.size = cap * 1 → ((w.alloc (.cells Z 23)).drew).ownsRow w.heap.size 23 1 (.slice (some ⟨w.heap.size, 0, none⟩) 0 cap) 0 [] :=
      fun Z hZs => ⟨rfl, .inr ⟨w.heap.size, cap, Z, rfl, Nat.le_refl _, heap_alloc_new w _, Nat.zero_le _, hle, hZs, by simp⟩⟩
    go_ret
    exact ⟨_, _, rfl, hown _ (by simp [Builtin.zeroCells]; omega), ((Below.refl _ w).alloc (Nat.le_refl _) _).drew⟩
  · obtain rfl : n = 0 := by omega
    go_wp2_with fail
    go_ret
    exact ⟨none, 0, rfl, t_nil _ _ _ _, Below.refl _ _⟩

set_option maxRecDepth 100000 in
set_option maxHeartbeats 4000000 in
theorem concat_ni {w : World} {b cc : Nat} {ps : List PtM} (hb : b < w.heap.size) (hc : ∀ k (h : k < ps.length), w.cell? ⟨b, k, none⟩ = some (ptV ps[k])) (hr : ∀ p ∈ ps, Sl w p.1 p.2.1 p.2.2) (hn : (catP ps).length ≤ 1000000) (hl : ps.length ≤ 10) :
    Calls Tryz.prog 203 #[.slice (some ⟨b, 0, none⟩) ps.length cc] w fun e w' => ∃ a c, e = .returned (.slice a (catP ps).length c) ∧ Sl w' a c (catP ps) ∧ Below w.heap.size w w' := by
  obtain ⟨i0, hi0, hz0, hz1, hz2⟩ := info_parts info_ni
  have HC := Lib.hid hc
  have HR := Lib.hid hr
  have HLN := Lib.hid (fun k => Nat.le_trans (catP_len (ps := ps) k) hn)
  have HG := Lib.hid (fun w' => grow_ni w' (catP ps).length hn)
  clear hc hr
  obtain ⟨m, hm⟩ : ∃ m, ps.length = m := ⟨_, rfl⟩
  have HM := Lib.hid hm
  rw [hm] at hl ⊢
  clear hm
  go_enter Tryz.func203, Tryz.ntmps203
  go_wp2_with fail
  go_loopw [3, 11] (fun v3 v11 wr => ∃ k : Nat, k ≤ m ∧ v11 = .int .i64 k ∧ v3 = .int .i64 (catP (ps.take k)).length ∧ wr = w) (fun _ i _ => m - (intOf i).toNat)
  case atStart => exact ⟨0, by omega, rfl, by simp [catP], rfl⟩
  case round =>
    obtain ⟨k, hk, rfl, rfl, hww⟩ := hrel
    have hww2 := hww.symm
    subst hww2
    clear hww
    have hln := HLN.out k
    by_cases hlt : k < m
    · have dk : decide (k < m) = true := decide_eq_true hlt
      have hkp : k < ps.length := by rw [HM.out]; exact hlt
      have c0 := HC.out k hkp
      unfold ptV at c0
      have hst : (catP (ps.take k)).length + ps[k].2.2.length = (catP (ps.take (k + 1))).length := by rw [catP_take hkp, List.length_append]
      have HST := Lib.hid hst
      have hln2 := HLN.out (k + 1)
      rw [← hst] at hln2
      clear hst
      generalize ps[k].2.2.length = q at *
      generalize hN0 : (catP (ps.take k)).length = N0 at *
      have hw0 : IntKind.i64.wrap ((N0 : Int) + (q : Int)) = ((N0 + q : Nat) : Int) := by rw [IntKind.wrap_i64]; omega
      have d0 : decide ((N0 : Int) + (q : Int) < 0) = false := decide_eq_false (by omega)
      have d0' : decide (((N0 + q : Nat) : Int) < 0) = false := decide_eq_false (by omega)
      have e0 : (0 : Int) ≤ (k : Int) := by omega
      have e1 : (k : Int) < (m : Int) := by omega
      go_wp2_with fail
      go_roundw
      case rel => exact ⟨k + 1, hlt, by go_num, by rw [← HST.out]; go_num, by simp⟩
      case measure => simp [intOf]; omega
    · have dk : decide (k < m) = false := decide_eq_false hlt
      have hkm : k = m := by omega
      have htk : ps.take k = ps := by rw [hkm, ← HM.out]; exact List.take_length
      rw [htk]
      generalize hNN : (catP ps).length = N at *
      go_wp2_with fail
      refine (HG.out _).mono ?_; rintro e w1 ⟨a6, c6, rfl, ho6, hb6⟩
      have HO6 := Lib.hid ho6
      have HB6 := Lib.hid hb6
      have HNN := Lib.hid hNN
      clear ho6 hb6 HG hNN htk
      go_wp2_with fail
      go_loopw [6, 27] (fun v6 v27 wz => ∃ (k2 n2 : Nat) (a2 : Option Addr) (c2 : Nat) (xs : List Value), k2 ≤ m ∧ v27 = .int .i64 k2 ∧ v6 = .slice a2 n2 c2 ∧ n2 = (catP (ps.take k2)).length ∧ xs = catP (ps.take k2) ∧ wz.ownsRow w.heap.size 23 1 (.slice a2 n2 c2) n2 xs ∧ Below w.heap.size w wz) (fun _ i _ => m - (intOf i).toNat)
      case atStart => exact ⟨0, 0, a6, c6, [], by omega, rfl, rfl, by simp [catP], by simp [catP], HO6.out, HB6.out⟩
      case round =>
        obtain ⟨k2, n2, a2, c2, xs, hk2, rfl, rfl, hn2, hxs, ho, hbb⟩ := hrel
        have HO := Lib.hid ho
        have HB := Lib.hid hbb
        have hzz := hbb.size
        have HN2 := Lib.hid hn2
        have HXS := Lib.hid hxs
        have hln2 := HLN.out k2
        rw [← hn2] at hln2
        by_cases hlt2 : k2 < m
        · have dk2 : decide (k2 < m) = true := decide_eq_true hlt2
          have hkp : k2 < ps.length := by rw [HM.out]; exact hlt2
          have c0 := (hbb.cell (p := ⟨b, k2, none⟩) hb).trans (HC.out k2 hkp)
          unfold ptV at c0
          have hrd := (HR.out ps[k2] (List.getElem_mem hkp)).below hbb
          have hsn : n2 + ps[k2].2.2.length = (catP (ps.take (k2 + 1))).length := by rw [catP_take hkp, List.length_append, ← hn2]
          have hsx : xs ++ ps[k2].2.2 = catP (ps.take (k2 + 1)) := by rw [catP_take hkp, ← hxs]
          have hln3 := HLN.out (k2 + 1)
          rw [← hsn] at hln3
          have HSN := Lib.hid hsn
          have HSX := Lib.hid hsx
          have HRD := Lib.hid hrd
          clear hsn hsx ho hbb hn2 hxs hrd
          generalize ps[k2].1 = ap at *
          generalize ps[k2].2.1 = cp at *
          generalize ps[k2].2.2 = Mp at *
          have e0 : (0 : Int) ≤ (k2 : Int) := by omega
          have e1 : (k2 : Int) < (m : Int) := by omega
          rcases ap with _ | ad
          · obtain ⟨hm0, hcp⟩ := HRD.out.empty
            subst hcp hm0
            have HSX2 : Hid (xs = catP (ps.take (k2 + 1))) := by have := HSX.out; rw [List.append_nil] at this; exact Lib.hid this
            have HSN2 : Hid (n2 = (catP (ps.take (k2 + 1))).length) := by have := HSN.out; rw [List.length_nil, Nat.add_zero] at this; exact Lib.hid this
            clear HSX HSN
            rw [List.length_nil] at c0
            go_wp2_with (first
              | (at_builtin; refine wpList_append_own_none rfl (.tmp 31) (.tmp 32) 183 rfl w.heap.size 23 i0 1 Tryz.underlying183 hi0 (.slice a2 n2 c2) n2 xs rfl HO.out rfl ?_)
              | fail)
            go_wp2_with fail
            go_roundw
            case rel => exact ⟨k2 + 1, n2, a2, c2, xs, hlt2, by go_num, rfl, HSN2.out, HSX2.out, HO.out, HB.out⟩
            case measure => simp [intOf]; omega
          · have C1 : Hid (∀ j u, Mp[j]? = some u → wr.cell? (ad.add j) = some u) := by
              refine Lib.hid (fun j u hj => ?_)
              have hpos : 0 < Mp.length := by
                have h1 := (List.getElem?_eq_some_iff.1 hj).1
                omega
              obtain ⟨g, o, h, _, h2⟩ := HRD.out.rd.2 hpos
              cases h
              rw [Addr.add_lit]
              exact h2 j u hj
            generalize hMl : Mp.length = q at *
            have HML := Lib.hid hMl
            clear hMl
            go_wp2_with (first
              | (at_builtin; refine wpList_append_own _ rfl (.tmp 31) (.tmp 32) 183 rfl w.heap.size 23 i0 (.pointer none) 1 8 Tryz.underlying183 hi0 hz0 hz1 hz2 rfl (by decide) (.slice a2 n2 c2) n2 xs rfl HO.out ad q cp Mp rfl ?c0 C1.out HRD.out.one ?c3 ?c4 ?c5 ?_)
              | fail)
            case c0 => rw [HML.out, Nat.mul_one]
            case c3 => unfold maxLen; omega
            case c4 => omega
            case c5 => omega
            intro v7 wB ho7 hg7 _
            have hb7 := HB.out.grown hg7 hzz (fun q hq => (HO.out.lt q hq).1)
            obtain ⟨a7, c7, rfl⟩ : ∃ a7 c7, v7 = .slice a7 (n2 + q) c7 := by
              rcases ho7.2 with ⟨h1, h2⟩ | ⟨g, cap, cur, h1, _⟩
              · exact ⟨none, 0, by rw [h1, h2]⟩
              · exact ⟨_, _, h1⟩
            have HO7 := Lib.hid ho7
            have HB7 := Lib.hid hb7
            clear ho7 hg7 hb7
            go_wp2_with fail
            go_roundw
            case rel => exact ⟨k2 + 1, n2 + q, a7, c7, xs ++ Mp, hlt2, by go_num, rfl, HSN.out, HSX.out, HO7.out, HB7.out⟩
            case measure => simp [intOf]; omega
        · have dk2 : decide (k2 < m) = false := decide_eq_false hlt2
          have hkm2 : k2 = m := by omega
          have htk : ps.take k2 = ps := by rw [hkm2, ← HM.out]; exact List.take_length
          rw [htk] at hn2 hxs
          have HF : Hid (wr.ownsRow w.heap.size 23 1 (.slice a2 N c2) N (catP ps)) := by rw [← HNN.out, ← hn2, ← hxs]; exact Lib.hid ho
          have hnN : n2 = N := by rw [hn2]; exact HNN.out
          subst hnN
          clear ho hbb hxs hn2
          go_wp2_with fail
          go_ret
          have hcl := HF.out
          rw [← HNN.out] at hcl
          have hsl := Sl.own hcl (fun u hu => by
            unfold catP at hu
            obtain ⟨p, hp, hu⟩ := List.mem_flatMap.1 hu
            exact (HR.out p hp).one u hu)
          have hcl2 := HNN.out
          rw [hcl2]
          exact ⟨a2, c2, rfl, hsl, HB.out⟩

/-- Three parts as one. -/
theorem three_ni {w1 : World} {z n1 n2 n3 N : Nat} {a1 a2 a3 : Option Addr} {c1 c2 c3 : Nat} {xs ys zs : List Value} (hz : w1.heap.size = z) (h1 : Sl w1 a1 c1 xs) (h2 : Sl w1 a2 c2 ys) (h3 : Sl w1 a3 c3 zs) (e1 : xs.length = n1) (e2 : ys.length = n2) (e3 : zs.length = n3) (eN : n1 + n2 + n3 = N) (hl : N ≤ 1000000) :
    Calls Tryz.prog 203 #[.slice (some ⟨z, 0, none⟩) 3 3] ((w1.alloc (Obj.cells #[.slice a1 n1 c1, .slice a2 n2 c2, .slice a3 n3 c3] 183)).drew) fun e w' => ∃ a c', e = .returned (.slice a N c') ∧ Sl w' a c' (xs ++ ys ++ zs) ∧ Below w1.heap.size w1 w' := by
  subst hz e1 e2 e3
  have hS := heap_alloc_new w1 (Obj.cells #[.slice a1 xs.length c1, .slice a2 ys.length c2, .slice a3 zs.length c3] 183)
  have hb2 := t_al w1 (Obj.cells #[.slice a1 xs.length c1, .slice a2 ys.length c2, .slice a3 zs.length c3] 183)
  have hs2 : (w1.alloc (Obj.cells #[.slice a1 xs.length c1, .slice a2 ys.length c2, .slice a3 zs.length c3] 183)).heap.size = w1.heap.size + 1 := by simp
  generalize w1.alloc (Obj.cells #[.slice a1 xs.length c1, .slice a2 ys.length c2, .slice a3 zs.length c3] 183) = w3 at *
  have hb4 : Below w1.heap.size w1 w3.drew := hb2.drew
  have hcat : catP [(a1, c1, xs), (a2, c2, ys), (a3, c3, zs)] = xs ++ ys ++ zs := by simp [catP]
  have hlen : (xs ++ ys ++ zs).length = N := by simp; omega
  have hc := concat_ni (w := w3.drew) (b := w1.heap.size) (cc := 3) (ps := [(a1, c1, xs), (a2, c2, ys), (a3, c3, zs)]) (by show _ < w3.heap.size; omega)
    (fun k hk => by
      have h3 : w3.drew.heap[w1.heap.size]? = _ := hS
      simp only [List.length_cons, List.length_nil] at hk
      rcases (show k = 0 ∨ k = 1 ∨ k = 2 by omega) with rfl | rfl | rfl
      · rw [cell_at h3]; simp [ptV]
      · rw [cell_at h3]; simp [ptV]
      · rw [cell_at h3]; simp [ptV])
    (fun p hp => by
      simp only [List.mem_cons, List.not_mem_nil, or_false] at hp
      rcases hp with rfl | rfl | rfl
      · exact h1.below hb4
      · exact h2.below hb4
      · exact h3.below hb4)
    (by rw [hcat, hlen]; exact hl) (by simp)
  rw [hcat, hlen] at hc
  refine hc.mono ?_
  rintro e w' ⟨a, c', rfl, ho, hb⟩
  exact ⟨a, c', rfl, ho, hb4.trans (hb.mono hb4.size)⟩

set_option maxRecDepth 100000 in
set_option maxHeartbeats 4000000 in
theorem replaced_ni {w : World} {g o c n i j m : Nat} {a2 : Option Addr} {c2 : Nat} {xs ys : List Value} (h : Sl w (some ⟨g, o, none⟩) c xs) (h2 : Sl w a2 c2 ys) (hn : xs.length = n) (hm : ys.length = m) (hij : i ≤ j) (hj : j ≤ n) (hl : n + m ≤ 1000000) :
    Calls Tryz.prog 180 #[.slice (some ⟨g, o, none⟩) n c, .int .i64 i, .int .i64 j, .slice a2 m c2] w fun e w' => ∃ a c', e = .returned (.slice a (i + m + (n - j)) c') ∧ Sl w' a c' (xs.take i ++ ys ++ xs.drop j) ∧ Below w.heap.size w w' := by
  have hcm := h.capm
  have hcn := h.cap
  rw [hn] at hcn
  unfold maxLen at hcm
  have e0 : (0 : Int) ≤ (i : Int) := by omega
  have e1 : (i : Int) ≤ (c : Int) := by omega
  have e2 : (0 : Int) ≤ (j : Int) := by omega
  have e3 : (j : Int) ≤ (n : Int) := by omega
  have e4 : (n : Int) ≤ (c : Int) := by omega
  have HT := Lib.hid (h.take i)
  by_cases hcj : c = j
  · have hcj' : (c : Int) - (j : Int) = 0 := by omega
    have HD : Hid (Sl w (some ⟨g, o, none⟩) 0 (xs.drop j)) := by
      have := h.drop (i := j) (by omega) ⟨g, o, none⟩ (fun hh => by omega) ⟨g, o, rfl⟩
      rw [show c - j = 0 by omega] at this
      exact Lib.hid this
    have HC3 := Lib.hid (three_ni (n1 := i) (n3 := 0) (N := i + m + (n - j)) rfl HT.out h2 HD.out (by rw [List.length_take]; omega) hm (by rw [List.length_drop, hn]; omega) (by omega) (by omega))
    have hnj : n = j := by omega
    clear h h2 HT HD
    subst hcj
    subst hnj
    go_enter Tryz.func180, Tryz.ntmps180
    go_upto_region 1 with fail
    go_region_law (go_simp; go_at_call 203; refine (HC3.out).mono ?_; rintro e w5 ⟨a5, c5, rfl, ho5, hb5⟩; have HO5 := Lib.hid ho5; have HB5 := Lib.hid hb5; clear ho5 hb5)
    all_goals
      go_wp2_with fail
      go_ret
      exact ⟨a5, c5, by rw [show i + m + (n - n) = i + m by omega]; rfl, HO5.out, HB5.out⟩
  · have hcj' : ¬ ((c : Int) - (j : Int) = 0) := by omega
    have hcj2 : c - j ≠ 0 := by omega
    have HD := Lib.hid (h.drop (i := j) (by omega) ⟨g, o + j, none⟩ (fun hh => rfl) ⟨g, o + j, rfl⟩)
    have HC3 := Lib.hid (three_ni (n1 := i) (N := i + m + (n - j)) rfl HT.out h2 HD.out (by rw [List.length_take]; omega) hm (by rw [List.length_drop, hn]) rfl (by omega))
    clear h h2 HT HD
    go_enter Tryz.func180, Tryz.ntmps180
    go_upto_region 1 with fail
    go_region_law (go_simp; go_at_call 203; refine (HC3.out).mono ?_; rintro e w5 ⟨a5, c5, rfl, ho5, hb5⟩; have HO5 := Lib.hid ho5; have HB5 := Lib.hid hb5; clear ho5 hb5)
    all_goals
      go_wp2_with fail
      go_ret
      exact ⟨a5, c5, rfl, HO5.out, HB5.out⟩

end Go.Proofs.YtkgakgceamafcaaGreat

namespace Go.Proofs.YtkgakgceamafcaaGreat
open Go Go.RowKit
set_option linter.unusedVariables false

/-- How many nodes hold so many things. -/
def fewN (n : Nat) : Nat := (n + 5) / 6
/-- Where the k-th node's things begin. -/
def cutAt (n k : Nat) : Nat := k * n / fewN n
def partOf {α : Type} (l : List α) (k : Nat) : List α := (l.take (cutAt l.length (k + 1))).drop (cutAt l.length k)
def partsOf {α : Type} (l : List α) : List (List α) := (List.range (fewN l.length)).map (partOf l)

theorem fewN_pos {n : Nat} (h : 0 < n) : 0 < fewN n := by unfold fewN; omega
theorem fewN_le (n : Nat) : fewN n ≤ n := by unfold fewN; omega
theorem fewN_lt {n : Nat} (h : 2 ≤ n) : fewN n < n := by unfold fewN; omega
theorem cutAt_mono (n k : Nat) : cutAt n k ≤ cutAt n (k + 1) := by
  unfold cutAt
  exact Nat.div_le_div_right (by rw [Nat.add_mul]; omega)
theorem cutAt_zero (n : Nat) : cutAt n 0 = 0 := by unfold cutAt; simp
theorem cutAt_last (n : Nat) : cutAt n (fewN n) = n := by
  rcases Nat.eq_zero_or_pos n with rfl | h
  · rfl
  · exact Nat.mul_div_cancel_left n (fewN_pos h)
theorem cutAt_le {n k : Nat} (h : k ≤ fewN n) : cutAt n k ≤ n := by
  have h1 : cutAt n k ≤ cutAt n (fewN n) := by
    unfold cutAt
    exact Nat.div_le_div_right (Nat.mul_le_mul_right n h)
  rwa [cutAt_last] at h1
theorem cutAt_lt {n k : Nat} (h : 0 < n) : cutAt n k < cutAt n (k + 1) := by
  have hp : 0 < fewN n := fewN_pos h
  have h1 : fewN n ≤ n := fewN_le n
  unfold cutAt
  rw [Nat.lt_iff_add_one_le, ← Nat.add_mul_div_right _ 1 hp]
  exact Nat.div_le_div_right (by rw [Nat.add_mul]; omega)
theorem cutAt_step {n k : Nat} (h : 3 ≤ n) : cutAt n k + 3 ≤ cutAt n (k + 1) ∧ cutAt n (k + 1) ≤ cutAt n k + 6 := by
  have hp : 0 < fewN n := fewN_pos (by omega)
  have h3 : 3 * fewN n ≤ n := by unfold fewN; omega
  have h6 : n ≤ 6 * fewN n := by unfold fewN; omega
  unfold cutAt
  constructor
  · rw [← Nat.add_mul_div_right _ 3 hp]
    exact Nat.div_le_div_right (by rw [Nat.add_mul]; omega)
  · rw [← Nat.add_mul_div_right _ 6 hp]
    exact Nat.div_le_div_right (by rw [Nat.add_mul]; omega)
theorem partOf_len {α : Type} (l : List α) {k : Nat} (h : k < fewN l.length) : (partOf l k).length = cutAt l.length (k + 1) - cutAt l.length k := by
  unfold partOf
  rw [List.length_drop, List.length_take, Nat.min_eq_left (cutAt_le h)]
theorem partOf_size {α : Type} {l : List α} {k : Nat} (h : k < fewN l.length) (h3 : 3 ≤ l.length) : 3 ≤ (partOf l k).length ∧ (partOf l k).length ≤ 6 := by
  rw [partOf_len l h]
  have := cutAt_step (k := k) h3
  omega
theorem parts_upto {α : Type} (l : List α) : ∀ k, k ≤ fewN l.length → ((List.range k).map (partOf l)).flatten = l.take (cutAt l.length k)
  | 0, _ => by rw [cutAt_zero]; simp
  | k + 1, h => by
    rw [List.range_succ, List.map_append, List.flatten_append, parts_upto l k (by omega)]
    simp only [List.map_cons, List.map_nil, List.flatten_cons, List.flatten_nil, List.append_nil]
    unfold partOf
    have hm := cutAt_mono l.length k
    conv => rhs; rw [← List.take_append_drop (cutAt l.length k) (l.take (cutAt l.length (k + 1)))]
    rw [List.take_take, Nat.min_eq_left hm]
theorem parts_flat {α : Type} (l : List α) : (partsOf l).flatten = l := by
  unfold partsOf
  rw [parts_upto l _ (Nat.le_refl _), cutAt_last, List.take_length]
theorem partsOf_len {α : Type} (l : List α) : (partsOf l).length = fewN l.length := by unfold partsOf; simp
theorem partsOf_at {α : Type} (l : List α) {k : Nat} (h : k < fewN l.length) : (partsOf l)[k]? = some (partOf l k) := by
  unfold partsOf; rw [List.getElem?_map, List.getElem?_range h]; rfl
theorem fewN_one {n : Nat} (h1 : 1 ≤ n) (h6 : n ≤ 6) : fewN n = 1 := by unfold fewN; omega
theorem fewN_two {n : Nat} (h1 : 7 ≤ n) (h6 : n ≤ 12) : fewN n = 2 := by unfold fewN; omega
theorem parts_one {α : Type} {l : List α} (h1 : 1 ≤ l.length) (h6 : l.length ≤ 6) : partsOf l = [l] := by
  have h := parts_flat l
  have hl := partsOf_len l
  rw [fewN_one h1 h6] at hl
  obtain ⟨x, hx⟩ := List.length_eq_one_iff.1 hl
  rw [hx] at h ⊢
  simp at h
  rw [h]
theorem parts_mem {α : Type} {l p : List α} (h : p ∈ partsOf l) : ∃ k, k < fewN l.length ∧ p = partOf l k := by
  unfold partsOf at h
  obtain ⟨k, hk, rfl⟩ := List.mem_map.1 h
  exact ⟨k, List.mem_range.1 hk, rfl⟩
theorem part_sub {α : Type} {l : List α} {k : Nat} {x : α} (h : x ∈ partOf l k) : x ∈ l := List.mem_of_mem_take (List.mem_of_mem_drop h)
/-- What stands in the place of some. -/
def replL {α : Type} (l : List α) (i j : Nat) (o : List α) : List α := l.take i ++ o ++ l.drop j

/-- Things by their height: values; nodes, each of which is the list of what lies right below it. -/
def El : Nat → Type
  | 0 => Value
  | h + 1 => List (El h)
/-- The values below a thing. -/
def flatE : (h : Nat) → El h → List Value
  | 0, v => [(v : Value)]
  | h + 1, t => (t : List (El h)).flatMap (flatE h)
/-- The values below some things. -/
def flatL (h : Nat) (t : List (El h)) : List Value := t.flatMap (flatE h)
theorem flatE_succ (h : Nat) (t : List (El h)) : flatE (h + 1) t = flatL h t := rfl
theorem flatL_app (h : Nat) (s t : List (El h)) : flatL h (s ++ t) = flatL h s ++ flatL h t := by unfold flatL; rw [List.flatMap_append]
theorem flatL_zero (t : List Value) : flatL 0 t = t := by
  unfold flatL
  show t.flatMap (fun v => [v]) = t
  induction t with
  | nil => rfl
  | cons x t ih => rw [List.flatMap_cons, ih]; rfl
theorem flatL_cons (h : Nat) (x : El h) (t : List (El h)) : flatL h (x :: t) = flatE h x ++ flatL h t := by unfold flatL; rw [List.flatMap_cons]
theorem flatL_nil (h : Nat) : flatL h [] = [] := rfl
theorem flatL_flatten (h : Nat) (l : List (List (El h))) : flatL (h + 1) l = flatL h l.flatten := by
  induction l with
  | nil => rfl
  | cons x l ih => rw [List.flatten_cons, flatL_app, ← ih]; exact flatL_cons (h + 1) x l
/-- Nodes of some things. -/
def pts {h : Nat} (l : List (El h)) : List (El (h + 1)) := partsOf l
theorem pts_len {h : Nat} (l : List (El h)) : (pts l).length = fewN l.length := partsOf_len l
theorem pts_at {h : Nat} (l : List (El h)) {k : Nat} (hk : k < fewN l.length) : (pts l)[k]? = some (partOf l k) := partsOf_at l hk
theorem flatL_pts (h : Nat) (l : List (El h)) : flatL (h + 1) (pts l) = flatL h l := by
  have h1 := flatL_flatten h (partsOf l)
  rw [parts_flat] at h1
  exact h1
theorem flatL_parts (h : Nat) (l : List (El h)) : flatL (h + 1) (partsOf l) = flatL h l := by rw [flatL_flatten, parts_flat]

/-- What lies right below a node. -/
def kidsOf {h : Nat} (t : El (h + 1)) : List (El h) := t
/-- A pointer to a node. -/
abbrev ptr (b : Nat) : Value := .pointer (some ⟨b, 0, none⟩)
/-- The cells of a node: a leaf's, another one's. -/
def nodeC : Nat → Option Addr → Nat → Nat → Int → Array Value
  | 0, a, n, c, N => #[.slice none 0 0, .slice a n c, .int .i64 N]
  | _ + 1, a, n, c, N => #[.slice a n c, .slice none 0 0, .int .i64 N]
/-- A slice of what lies on a height. -/
def Ss (w : World) : Nat → Option Addr → Nat → List Value → Prop
  | 0, a, c, us => S3 w a c us
  | _ + 1, a, c, us => Sl w a c us
/-- How many cells so many things of a height have. -/
def stp : Nat → Nat → Nat
  | 0, i => i * 3
  | _ + 1, i => i
theorem Ss.below {w w' : World} {h : Nat} {a : Option Addr} {c : Nat} {us : List Value} (H : Ss w h a c us) (hb : Below w.heap.size w w') : Ss w' h a c us := by
  cases h with
  | zero => exact S3.below H hb
  | succ h => exact Sl.below H hb
theorem Ss.cap {w : World} {h : Nat} {a : Option Addr} {c : Nat} {us : List Value} (H : Ss w h a c us) : us.length ≤ c := by
  cases h with
  | zero => exact S3.cap H
  | succ h => exact Sl.cap H
theorem Ss.capm {w : World} {h : Nat} {a : Option Addr} {c : Nat} {us : List Value} (H : Ss w h a c us) : c ≤ maxLen := by
  cases h with
  | zero => exact S3.capm H
  | succ h => exact Sl.capm H
theorem Ss.nil {w : World} {h : Nat} {a : Option Addr} {c : Nat} {us : List Value} (H : Ss w h a c us) : a = none → c = 0 := by
  cases h with
  | zero => exact S3.nil H
  | succ h => exact Sl.nil H
theorem Ss.form {w : World} {h : Nat} {a : Option Addr} {c : Nat} {us : List Value} (H : Ss w h a c us) : ∀ d, a = some d → ∃ g o, d = ⟨g, o, none⟩ := by
  cases h with
  | zero => exact S3.form H
  | succ h => exact Sl.form H
theorem Ss.has {w : World} {h : Nat} {a : Option Addr} {c : Nat} {us : List Value} (H : Ss w h a c us) (hn : 0 < us.length) : ∃ g o, a = some ⟨g, o, none⟩ ∧ g < w.heap.size := by
  cases h with
  | zero =>
    obtain ⟨g, o, e, hg, _⟩ := (S3.rd H).2 hn
    exact ⟨g, o, e, hg⟩
  | succ h =>
    obtain ⟨g, o, e, hg, _⟩ := (Sl.rd H).2 hn
    exact ⟨g, o, e, hg⟩
theorem Ss.empty {w : World} {h : Nat} {c : Nat} {us : List Value} (H : Ss w h Option.none c us) : us = [] ∧ c = 0 := by
  cases h with
  | zero => exact S3.empty H
  | succ h => exact Sl.empty H
theorem Ss.none (w : World) (h : Nat) : Ss w h none 0 [] := by
  cases h with
  | zero => exact S3.none w
  | succ h => exact Sl.none w
theorem Ss.take {w : World} {h : Nat} {a : Option Addr} {c : Nat} {us : List Value} (H : Ss w h a c us) (i : Nat) : Ss w h a c (us.take i) := by
  cases h with
  | zero => exact S3.take H i
  | succ h => exact Sl.take H i
theorem Ss.drop {w : World} {h g o c : Nat} {us : List Value} (H : Ss w h (some ⟨g, o, Option.none⟩) c us) {i : Nat} (hi : i ≤ us.length) (b : Addr) (hb : i < us.length → b = ⟨g, o + stp h i, Option.none⟩) (hbf : ∃ g o, b = ⟨g, o, Option.none⟩) : Ss w h (some b) (c - i) (us.drop i) := by
  cases h with
  | zero => exact S3.drop H hi b hb hbf
  | succ h => exact Sl.drop H hi b hb hbf

/-- A thing in memory, as a value. -/
def InE (w : World) (T : TypeId) : (h : Nat) → El h → Value → Prop
  | 0, v, u => u = (v : Value)
  | h + 1, t, u => ∃ (b : Nat) (a : Option Addr) (c : Nat) (us : List Value), u = ptr b ∧ w.heap[b]? = some (.cells (nodeC h a (kidsOf t).length c (flatE (h + 1) t).length) T (0, 0)) ∧ (∀ d, a = some d → TyAt w d.block) ∧ Ss w h a c us ∧ us.length = (kidsOf t).length ∧ ∀ (i : Nat) (x : El h) (y : Value), (kidsOf t)[i]? = some x → us[i]? = some y → InE w T h x y
/-- Some things in memory, as a slice. -/
def Es (w : World) (T : TypeId) (h : Nat) (ts : List (El h)) (a : Option Addr) (c : Nat) : Prop :=
  ∃ us : List Value, Ss w h a c us ∧ us.length = ts.length ∧ ∀ (i : Nat) (x : El h) (y : Value), ts[i]? = some x → us[i]? = some y → InE w T h x y
/-- A node in memory. -/
def In (w : World) (T : TypeId) (h : Nat) (t : List (El h)) (b : Nat) : Prop :=
  ∃ (a : Option Addr) (c : Nat), w.heap[b]? = some (.cells (nodeC h a t.length c (flatL h t).length) T (0, 0)) ∧ (∀ d, a = some d → TyAt w d.block) ∧ Es w T h t a c
theorem in_of {w : World} {T : TypeId} {h : Nat} {t : List (El h)} {b : Nat} (H : In w T h t b) : InE w T (h + 1) t (ptr b) := by
  obtain ⟨a, c, h1, ht, us, h2, h3, h4⟩ := H
  exact ⟨b, a, c, us, rfl, h1, ht, h2, h3, h4⟩
theorem of_in {w : World} {T : TypeId} {h : Nat} {t : List (El h)} {u : Value} (H : InE w T (h + 1) t u) : ∃ b, u = ptr b ∧ In w T h t b := by
  obtain ⟨b, a, c, us, rfl, h1, ht, h2, h3, h4⟩ := H
  exact ⟨b, rfl, a, c, h1, ht, us, h2, h3, h4⟩
theorem InE.below {w w' : World} {T : TypeId} (hb : Below w.heap.size w w') : ∀ {h : Nat} {t : El h} {u : Value}, InE w T h t u → InE w' T h t u
  | 0, t, u, H => H
  | h + 1, t, u, H => by
    obtain ⟨b, a, c, us, rfl, h1, ht, h2, h3, h4⟩ := H
    exact ⟨b, a, c, us, rfl, (hb.block b (lt_of_heap h1)).trans h1, fun d hd => (ht d hd).below hb, h2.below hb, h3, fun i x y hx hy => InE.below hb (h4 i x y hx hy)⟩
theorem Es.below {w w' : World} {T : TypeId} {h : Nat} {ts : List (El h)} {a : Option Addr} {c : Nat} (H : Es w T h ts a c) (hb : Below w.heap.size w w') : Es w' T h ts a c := by
  obtain ⟨us, h1, h2, h3⟩ := H
  exact ⟨us, h1.below hb, h2, fun i x y hx hy => (h3 i x y hx hy).below hb⟩
theorem In.below {w w' : World} {T : TypeId} {h : Nat} {t : List (El h)} {b : Nat} (H : In w T h t b) (hb : Below w.heap.size w w') : In w' T h t b := by
  obtain ⟨a, c, h1, ht, h2⟩ := H
  exact ⟨a, c, (hb.block b (lt_of_heap h1)).trans h1, fun d hd => (ht d hd).below hb, h2.below hb⟩
theorem Es.zero {w : World} {T : TypeId} {xs : List Value} {a : Option Addr} {c : Nat} (H : Es w T 0 xs a c) : S3 w a c xs := by
  obtain ⟨us, h1, h2, h3⟩ := H
  have : us = xs := by
    apply List.ext_getElem h2
    intro i hi1 hi2
    have := h3 i _ _ (List.getElem?_eq_getElem hi2) (List.getElem?_eq_getElem hi1)
    exact this
  subst this
  exact h1
theorem Es.ofSl {w : World} {T : TypeId} {xs : List Value} {a : Option Addr} {c : Nat} (H : S3 w a c xs) : Es w T 0 xs a c :=
  ⟨xs, H, rfl, fun i x y hx hy => (Option.some.inj (hx.symm.trans hy)).symm⟩
theorem Es.take {w : World} {T : TypeId} {h : Nat} {ts : List (El h)} {a : Option Addr} {c : Nat} (H : Es w T h ts a c) (i : Nat) : Es w T h (ts.take i) a c := by
  obtain ⟨us, h1, h2, h3⟩ := H
  refine ⟨us.take i, h1.take i, by rw [List.length_take, List.length_take, h2], fun j x y hx hy => ?_⟩
  rw [List.getElem?_take] at hx hy
  split at hx
  · rename_i hj; rw [if_pos hj] at hy; exact h3 j x y hx hy
  · cases hx
theorem Es.drop {w : World} {T : TypeId} {h : Nat} {ts : List (El h)} {g o c : Nat} (H : Es w T h ts (some ⟨g, o, none⟩) c) {i : Nat} (hi : i ≤ ts.length) (b : Addr) (hb : i < ts.length → b = ⟨g, o + stp h i, none⟩) (hbf : ∃ g o, b = ⟨g, o, none⟩) : Es w T h (ts.drop i) (some b) (c - i) := by
  obtain ⟨us, h1, h2, h3⟩ := H
  refine ⟨us.drop i, h1.drop (by omega) b (fun hh => hb (by omega)) hbf, by rw [List.length_drop, List.length_drop, h2], fun j x y hx hy => ?_⟩
  rw [List.getElem?_drop] at hx hy
  exact h3 _ x y hx hy
theorem Es.cap {w : World} {T : TypeId} {h : Nat} {ts : List (El h)} {a : Option Addr} {c : Nat} (H : Es w T h ts a c) : ts.length ≤ c ∧ c ≤ maxLen := by
  obtain ⟨us, h1, h2, h3⟩ := H
  exact ⟨by rw [← h2]; exact h1.cap, h1.capm⟩
theorem Es.has {w : World} {T : TypeId} {h : Nat} {ts : List (El h)} {a : Option Addr} {c : Nat} (H : Es w T h ts a c) (hn : 0 < ts.length) : ∃ g o, a = Option.some ⟨g, o, Option.none⟩ ∧ g < w.heap.size := by
  obtain ⟨us, h1, h2, h3⟩ := H
  exact h1.has (by omega)
theorem Es.none0 (w : World) (T : TypeId) (h : Nat) : Es w T h [] none 0 := ⟨[], Ss.none w h, rfl, fun i x y hx => by simp at hx⟩
/-- The i-th of some nodes. -/
theorem Es.at {w : World} {T : TypeId} {h : Nat} {ts : List (El (h + 1))} {g o c : Nat} (H : Es w T (h + 1) ts (Option.some ⟨g, o, Option.none⟩) c) {i : Nat} {x : List (El h)} (hx : ts[i]? = Option.some x) : ∃ b, w.cell? ⟨g, o + i, none⟩ = Option.some (ptr b) ∧ In w T h x b := by
  obtain ⟨us, h1, h2, h3⟩ := H
  have hi := (List.getElem?_eq_some_iff.1 hx).1
  have hu : us[i]? = Option.some (us[i]'(by omega)) := List.getElem?_eq_getElem (by omega)
  obtain ⟨b, hb, hin⟩ := of_in (h3 i x _ hx hu)
  rw [hb] at hu
  obtain ⟨g', o', e, hg, hc⟩ := (Sl.rd h1).2 (by omega)
  cases e
  exact ⟨b, hc i _ hu, hin⟩
/-- The count of a node. -/
theorem In.num {w : World} {T : TypeId} {h : Nat} {t : List (El h)} {b : Nat} (H : In w T h t b) : w.cell? ⟨b, 2, none⟩ = some (.int .i64 (flatL h t).length) := by
  obtain ⟨a, c, h1, _⟩ := H
  rw [cell_at h1]
  cases h <;> rfl
theorem In.lt {w : World} {T : TypeId} {h : Nat} {t : List (El h)} {b : Nat} (H : In w T h t b) : b < w.heap.size := by
  obtain ⟨a, c, h1, _⟩ := H
  exact lt_of_heap h1
theorem In.kids {w : World} {T : TypeId} {h : Nat} {t : List (El (h + 1))} {b : Nat} (H : In w T (h + 1) t b) : ∃ a c, w.cell? ⟨b, 0, none⟩ = some (.slice a t.length c) ∧ w.cell? ⟨b, 1, none⟩ = some (.slice none 0 0) ∧ Es w T (h + 1) t a c := by
  obtain ⟨a, c, h1, _, h2⟩ := H
  exact ⟨a, c, by rw [cell_at h1]; rfl, by rw [cell_at h1]; rfl, h2⟩
theorem In.items {w : World} {T : TypeId} {t : List Value} {b : Nat} (H : In w T 0 t b) : ∃ a c, w.cell? ⟨b, 0, none⟩ = some (.slice none 0 0) ∧ w.cell? ⟨b, 1, none⟩ = some (.slice a t.length c) ∧ S3 w a c t := by
  obtain ⟨a, c, h1, _, h2⟩ := H
  exact ⟨a, c, by rw [cell_at h1]; rfl, by rw [cell_at h1]; rfl, h2.zero⟩

end Go.Proofs.YtkgakgceamafcaaGreat
