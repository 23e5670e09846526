/-
  Texts of layer 8, put together (a claim holds few texts): RwP, RwQ, RwR, RwS, RwU, RwV, RwW, RwT.
-/
import Derived.Test.YtmdifcgnmkpecaaRwM
import Derived.Lib.AppendZeros
import Derived.Deep.QuietTactic
namespace Go.Proofs.Ytmdifcgnmkpecaa
open Go Go.RowKit
set_option linter.unusedVariables false

/-- Grow of nil: a row of one's own with room. -/
theorem grow_cells (w : World) (n : Nat) (hn : n ≤ 100000) :
    Calls Try.prog 110 #[.slice none 0 0, .int .i64 n] w fun e w' => ∃ a c, e = .returned (.slice a 0 c) ∧ w'.ownsRow w.heap.size 50 4 (.slice a 0 c) 0 [] ∧ Below w.heap.size w w' := by
  obtain ⟨i0, hi0, hz0, hz1, hz2⟩ := info_parts info_cell
  have d0 : decide ((n : Int) < 0) = false := decide_eq_false (by omega)
  have hw0 : IntKind.i64.wrap ((n : Int) - 0) = (n : Int) := by rw [IntKind.wrap_i64]; omega
  go_enter Try.func110, Try.ntmps110
  by_cases h : 0 < n
  · have d1 : decide ((0 : Int) < (n : Int)) = true := decide_eq_true (by omega)
    have d1' : decide (0 < n) = true := decide_eq_true h
    have HRUN := Lib.hid (fun ty => Lib.run_append_nil_zeros (P := Try.prog) w 74 3 ty 50 i0 (.agg #[.slice none 0 0, .int .i64 0, .int .i64 0, .bool false]) .i64 .i64 Try.underlying74 Try.underlying3 hi0 hz0 n h (by rw [hz1]; omega) (by omega) (by rw [hz2]; omega))
    have hge := grownCap_ge w n 0 50
    have hle := grownCap_le_maxLen w n 0 50 (by unfold maxLen; omega)
    have HW : Hid (∀ o, w.drew.alloc o = w.drew.alloc o) := Lib.hid (fun _ => rfl)
    clear HW
    go_wp2_with (first
      | (at_builtin; refine Lib.wpList_append_run _ rfl (.tmp 20) (.tmp 21) _ _ rfl (.slice none 0 0) (.int .i64 n) rfl rfl _ _ (HRUN.out _) ?_)
      | fail)
    generalize grownCap w n 0 50 = cap at *
    have hown : ∀ Z : Array Value, Z.size = cap * 4 → ((w.alloc (.cells Z 50)).drew).ownsRow w.heap.size 50 4 (.slice (some ⟨w.heap.size, 0, none⟩) 0 cap) 0 [] :=
      fun Z hZs => ⟨rfl, .inr ⟨w.heap.size, cap, Z, rfl, Nat.le_refl _, heap_alloc_new w _, Nat.zero_le _, hle, hZs, by simp⟩⟩
    go_ret
    exact ⟨_, _, rfl, hown _ (by simp [Builtin.zeroCells]; omega), ((Below.refl _ w).alloc (Nat.le_refl _) _).drew⟩
  · obtain rfl : n = 0 := by omega
    go_wp2_with fail
    go_ret
    exact ⟨none, 0, rfl, own_nil _ _ _ _, Below.refl _ _⟩

/-- A slice of cells that is a part: where, room, cells. -/
abbrev SlM := Option Addr × Nat × List CelM
def slV (p : SlM) : Value := .slice p.1 p.2.2.length p.2.1
def catM (ps : List SlM) : List CelM := ps.flatMap fun p => p.2.2
theorem catM_take {ps : List SlM} {k : Nat} (h : k < ps.length) : catM (ps.take (k + 1)) = catM (ps.take k) ++ ps[k].2.2 := by
  unfold catM
  rw [List.take_succ_eq_append_getElem h, List.flatMap_append]; simp
theorem catM_len {ps : List SlM} (k : Nat) : (catM (ps.take k)).length ≤ (catM ps).length := by
  have : catM ps = catM (ps.take k) ++ catM (ps.drop k) := by unfold catM; rw [← List.flatMap_append, List.take_append_drop]
  rw [this, List.length_append]; omega

set_option maxRecDepth 100000 in
set_option maxHeartbeats 4000000 in
theorem concat_cells {w : World} {b cc : Nat} {ps : List SlM} (hb : b < w.heap.size) (hc : ∀ k (h : k < ps.length), w.cell? ⟨b, k, none⟩ = some (slV ps[k])) (hr : ∀ p ∈ ps, Rd w 4 p.1 p.2.2.length (ceC p.2.2) ∧ (p.1 = none → p.2.1 = 0)) (hn : (catM ps).length ≤ 100000) (hl : ps.length ≤ 10) :
    Calls Try.prog 98 #[.slice (some ⟨b, 0, none⟩) ps.length cc] w fun e w' => ∃ a c, e = .returned (.slice a (catM ps).length c) ∧ w'.ownsRow w.heap.size 50 4 (.slice a (catM ps).length c) (catM ps).length (ceC (catM ps)) ∧ Below w.heap.size w w' := by
  obtain ⟨i0, hi0, hz0, hz1, hz2⟩ := info_parts info_cell
  have HC := Lib.hid hc
  have HR := Lib.hid hr
  have HLN := Lib.hid (fun k => Nat.le_trans (catM_len (ps := ps) k) hn)
  have HG := Lib.hid (fun w' => grow_cells w' (catM ps).length hn)
  clear hc hr
  obtain ⟨m, hm⟩ : ∃ m, ps.length = m := ⟨_, rfl⟩
  have HM := Lib.hid hm
  rw [hm] at hl ⊢
  clear hm
  go_enter Try.func98, Try.ntmps98
  go_wp2_with fail
  go_loopw [3, 11] (fun v3 v11 wr => ∃ k : Nat, k ≤ m ∧ v11 = .int .i64 k ∧ v3 = .int .i64 (catM (ps.take k)).length ∧ wr = w) (fun _ i _ => m - (intOf i).toNat)
  case atStart => exact ⟨0, by omega, rfl, by simp [catM], rfl⟩
  case round =>
    obtain ⟨k, hk, rfl, rfl, hww⟩ := hrel
    have hww2 := hww.symm
    subst hww2
    clear hww
    have hln := HLN.out k
    by_cases hlt : k < m
    · have dk : decide (k < m) = true := decide_eq_true hlt
      have hkp : k < ps.length := by rw [HM.out]; exact hlt
      have c0 := HC.out k hkp
      unfold slV at c0
      have hst : (catM (ps.take k)).length + ps[k].2.2.length = (catM (ps.take (k + 1))).length := by rw [catM_take hkp, List.length_append]
      have HST := Lib.hid hst
      have hln2 := HLN.out (k + 1)
      rw [← hst] at hln2
      clear hst
      generalize ps[k].2.2.length = q at *
      generalize hN0 : (catM (ps.take k)).length = N0 at *
      have hw0 : IntKind.i64.wrap ((N0 : Int) + (q : Int)) = ((N0 + q : Nat) : Int) := by rw [IntKind.wrap_i64]; omega
      have d0 : decide ((N0 : Int) + (q : Int) < 0) = false := decide_eq_false (by omega)
      have d0' : decide (((N0 + q : Nat) : Int) < 0) = false := decide_eq_false (by omega)
      have e0 : (0 : Int) ≤ (k : Int) := by omega
      have e1 : (k : Int) < (m : Int) := by omega
      go_wp2_with fail
      go_roundw
      case rel => exact ⟨k + 1, hlt, by go_num, by rw [← HST.out]; go_num, by simp⟩
      case measure => simp [intOf]; omega
    · have dk : decide (k < m) = false := decide_eq_false hlt
      have hkm : k = m := by omega
      have htk : ps.take k = ps := by rw [hkm, ← HM.out]; exact List.take_length
      rw [htk]
      generalize hNN : (catM ps).length = N at *
      go_wp2_with fail
      refine (HG.out _).mono ?_; rintro e w1 ⟨a6, c6, rfl, ho6, hb6⟩
      have HO6 := Lib.hid ho6
      have HB6 := Lib.hid hb6
      have HNN := Lib.hid hNN
      clear ho6 hb6 HG hNN htk
      go_wp2_with fail
      go_loopw [6, 27] (fun v6 v27 wz => ∃ (k2 n2 : Nat) (a2 : Option Addr) (c2 : Nat) (xs : List Value), k2 ≤ m ∧ v27 = .int .i64 k2 ∧ v6 = .slice a2 n2 c2 ∧ n2 = (catM (ps.take k2)).length ∧ xs = ceC (catM (ps.take k2)) ∧ wz.ownsRow w.heap.size 50 4 (.slice a2 n2 c2) n2 xs ∧ Below w.heap.size w wz) (fun _ i _ => m - (intOf i).toNat)
      case atStart => exact ⟨0, 0, a6, c6, [], by omega, rfl, rfl, by simp [catM], by simp [catM, ceC], HO6.out, HB6.out⟩
      case round =>
        obtain ⟨k2, n2, a2, c2, xs, hk2, rfl, rfl, hn2, hxs, ho, hbb⟩ := hrel
        have HO := Lib.hid ho
        have HB := Lib.hid hbb
        have hzz := hbb.size
        have HN2 := Lib.hid hn2
        have HXS := Lib.hid hxs
        have hln2 := HLN.out k2
        rw [← hn2] at hln2
        by_cases hlt2 : k2 < m
        · have dk2 : decide (k2 < m) = true := decide_eq_true hlt2
          have hkp : k2 < ps.length := by rw [HM.out]; exact hlt2
          have c0 := (hbb.cell (p := ⟨b, k2, none⟩) hb).trans (HC.out k2 hkp)
          unfold slV at c0
          have hrd := (HR.out ps[k2] (List.getElem_mem hkp)).1.below hbb
          have hnn := (HR.out ps[k2] (List.getElem_mem hkp)).2
          have hsn : n2 + ps[k2].2.2.length = (catM (ps.take (k2 + 1))).length := by rw [catM_take hkp, List.length_append, ← hn2]
          have hsx : xs ++ ceC ps[k2].2.2 = ceC (catM (ps.take (k2 + 1))) := by rw [catM_take hkp, ceC_app, ← hxs]
          have hln3 := HLN.out (k2 + 1)
          rw [← hsn] at hln3
          have HSN := Lib.hid hsn
          have HSX := Lib.hid hsx
          have HRD := Lib.hid hrd
          have HNO := Lib.hid hnn
          clear hsn hsx ho hbb hn2 hxs hrd hnn
          generalize ps[k2].1 = ap at *
          generalize ps[k2].2.1 = cp at *
          generalize ps[k2].2.2 = Mp at *
          have e0 : (0 : Int) ≤ (k2 : Int) := by omega
          have e1 : (k2 : Int) < (m : Int) := by omega
          rcases ap with _ | ad
          · have hcp := HNO.out rfl
            subst hcp
            have hm0 : Mp = [] := by
              cases Mp with
              | nil => rfl
              | cons x xs => obtain ⟨g, o, h, _⟩ := HRD.out.2 (by simp); cases h
            subst hm0
            have HSX2 : Hid (xs = ceC (catM (ps.take (k2 + 1)))) := by have := HSX.out; rw [show ceC [] = ([] : List Value) from rfl, List.append_nil] at this; exact Lib.hid this
            have HSN2 : Hid (n2 = (catM (ps.take (k2 + 1))).length) := by have := HSN.out; rw [List.length_nil, Nat.add_zero] at this; exact Lib.hid this
            clear HSX HSN
            rw [List.length_nil] at c0
            go_wp2_with (first
              | (at_builtin; refine wpList_append_own_none rfl (.tmp 31) (.tmp 32) 74 rfl w.heap.size 50 i0 4 Try.underlying74 hi0 (.slice a2 n2 c2) n2 xs rfl HO.out rfl ?_)
              | fail)
            go_wp2_with fail
            go_roundw
            case rel => exact ⟨k2 + 1, n2, a2, c2, xs, hlt2, by go_num, rfl, HSN2.out, HSX2.out, HO.out, HB.out⟩
            case measure => simp [intOf]; omega
          · have C0 := Lib.hid (ceC_len Mp)
            have C1 : Hid (∀ j u, (ceC Mp)[j]? = some u → wr.cell? (ad.add j) = some u) := by
              refine Lib.hid (fun j u hj => ?_)
              have hpos : 0 < Mp.length := by
                have h1 := (List.getElem?_eq_some_iff.1 hj).1
                rw [ceC_len] at h1; omega
              obtain ⟨g, o, h, _, h2⟩ := HRD.out.2 hpos
              cases h
              rw [Addr.add_lit]
              exact h2 j u hj
            generalize hMl : Mp.length = q at *
            have HML := Lib.hid hMl
            clear hMl
            go_wp2_with (first
              | (at_builtin; refine wpList_append_own _ rfl (.tmp 31) (.tmp 32) 74 rfl w.heap.size 50 i0 (.agg #[.slice none 0 0, .int .i64 0, .int .i64 0, .bool false]) 4 48 Try.underlying74 hi0 hz0 hz1 hz2 rfl (by decide) (.slice a2 n2 c2) n2 xs rfl HO.out ad q cp (ceC Mp) rfl C0.out C1.out (ceC_one Mp) ?c3 ?c4 ?c5 ?_)
              | fail)
            case c3 => unfold maxLen; omega
            case c4 => omega
            case c5 => omega
            intro v7 wB ho7 hg7 _
            have hb7 := HB.out.grown hg7 hzz (fun q hq => (HO.out.lt q hq).1)
            obtain ⟨a7, c7, rfl⟩ : ∃ a7 c7, v7 = .slice a7 (n2 + q) c7 := by
              rcases ho7.2 with ⟨h1, h2⟩ | ⟨g, cap, cur, h1, _⟩
              · exact ⟨none, 0, by rw [h1, h2]⟩
              · exact ⟨_, _, h1⟩
            have HO7 := Lib.hid ho7
            have HB7 := Lib.hid hb7
            clear ho7 hg7 hb7
            go_wp2_with fail
            go_roundw
            case rel => exact ⟨k2 + 1, n2 + q, a7, c7, xs ++ ceC Mp, hlt2, by go_num, rfl, HSN.out, HSX.out, HO7.out, HB7.out⟩
            case measure => simp [intOf]; omega
        · have dk2 : decide (k2 < m) = false := decide_eq_false hlt2
          have hkm2 : k2 = m := by omega
          have htk : ps.take k2 = ps := by rw [hkm2, ← HM.out]; exact List.take_length
          rw [htk] at hn2 hxs
          have HF : Hid (wr.ownsRow w.heap.size 50 4 (.slice a2 N c2) N (ceC (catM ps))) := by rw [← HNN.out, ← hn2, ← hxs]; exact Lib.hid ho
          have hnN : n2 = N := by rw [hn2]; exact HNN.out
          subst hnN
          clear ho hbb hxs hn2
          go_wp2_with fail
          go_ret
          have hcl := HNN.out
          rw [hcl]
          exact ⟨a2, c2, rfl, HF.out, HB.out⟩

theorem ceC_take (ps : List CelM) (k : Nat) : ceC (ps.take k) = (ceC ps).take (k * 4) := by
  have h : ceC ps = ceC (ps.take k) ++ ceC (ps.drop k) := by rw [← ceC_app, List.take_append_drop]
  have hl := ceC_len (ps.take k)
  rw [List.length_take] at hl
  rcases Nat.le_total k ps.length with hk | hk
  · rw [h, List.take_append_of_le_length (by omega), List.take_of_length_le (l := ceC (ps.take k)) (by omega)]
  · rw [List.take_of_length_le hk, List.take_of_length_le (by rw [ceC_len]; omega)]
theorem ceC_drop (ps : List CelM) (k : Nat) : ceC (ps.drop k) = (ceC ps).drop (k * 4) := by
  have h : ceC ps = ceC (ps.take k) ++ ceC (ps.drop k) := by rw [← ceC_app, List.take_append_drop]
  have hl := ceC_len (ps.take k)
  rw [List.length_take] at hl
  rcases Nat.le_total k ps.length with hk | hk
  · generalize ceC (ps.drop k) = D at *
    rw [h, List.drop_append_of_le_length (by omega), List.drop_eq_nil_of_le (by omega), List.nil_append]
  · rw [List.drop_eq_nil_of_le hk, List.drop_eq_nil_of_le (by rw [ceC_len]; omega)]; rfl
/-- The head of a row that can be read. -/
theorem rd_head {w : World} {a : Option Addr} {ps : List CelM} (h : Rd w 4 a ps.length (ceC ps)) {i : Nat} (hi : i ≤ ps.length) : Rd w 4 a (ps.take i).length (ceC (ps.take i)) := by
  refine ⟨ceC_len _, fun hn => ?_⟩
  rw [List.length_take] at hn
  obtain ⟨g, o, e, hg, hc⟩ := h.2 (by omega)
  refine ⟨g, o, e, hg, fun j u hj => hc j u ?_⟩
  rw [ceC_take, List.getElem?_take] at hj
  split at hj
  · exact hj
  · cases hj
/-- Its tail. -/
theorem rd_tail {w : World} {g o : Nat} {ps : List CelM} (h : Rd w 4 (some ⟨g, o, none⟩) ps.length (ceC ps)) {i : Nat} (b : Option Addr) (hb : i < ps.length → b = some ⟨g, o + i * 4, none⟩) : Rd w 4 b (ps.drop i).length (ceC (ps.drop i)) := by
  refine ⟨ceC_len _, fun hn => ?_⟩
  rw [List.length_drop] at hn
  obtain ⟨g', o', e, hg, hc⟩ := h.2 (by omega)
  cases e
  refine ⟨g, o + i * 4, hb (by omega), hg, fun j u hj => ?_⟩
  rw [ceC_drop, List.getElem?_drop] at hj
  rw [Nat.add_assoc]
  exact hc _ u hj

theorem cat3 {w1 : World} {z g o i n tl tc : Nat} {tp : Addr} {ps : List CelM} {M : CelM} (hz : w1.heap.size = z) (hr : Rd w1 4 (some ⟨g, o, none⟩) ps.length (ceC ps)) (hn : ps.length = n) (hl : n ≤ 1000) (hi : i ≤ n) (htl : tl = n - i) (htp : i < n → tp = ⟨g, o + i * 4, none⟩) :
    Calls Try.prog 98 #[.slice (some ⟨z + 1, 0, none⟩) 3 3] (((w1.alloc (Obj.cells #[.slice M.a M.n M.c, .int .i64 M.x, .int .i64 M.y, .bool M.k] 50)).alloc (Obj.cells #[.slice (some ⟨g, o, none⟩) i i, .slice (some ⟨z, 0, none⟩) 1 1, .slice (some tp) tl tc] 74)).drew) fun e w' => ∃ a c', e = .returned (.slice a (n + 1) c') ∧ w'.ownsRow w1.heap.size 50 4 (.slice a (n + 1) c') (n + 1) (ceC (ps.take i ++ M :: ps.drop i)) ∧ Below w1.heap.size w1 w' := by
  subst hz hn htl
  have hM := heap_alloc_new w1 (Obj.cells #[.slice M.a M.n M.c, .int .i64 M.x, .int .i64 M.y, .bool M.k] 50)
  have hb1 := below_al w1 (Obj.cells #[.slice M.a M.n M.c, .int .i64 M.x, .int .i64 M.y, .bool M.k] 50)
  have hs1 : (w1.alloc (Obj.cells #[.slice M.a M.n M.c, .int .i64 M.x, .int .i64 M.y, .bool M.k] 50)).heap.size = w1.heap.size + 1 := by simp
  generalize w1.alloc (Obj.cells #[.slice M.a M.n M.c, .int .i64 M.x, .int .i64 M.y, .bool M.k] 50) = w2 at *
  have hS := heap_alloc_new w2 (Obj.cells #[.slice (some ⟨g, o, none⟩) i i, .slice (some ⟨w1.heap.size, 0, none⟩) 1 1, .slice (some tp) (ps.length - i) tc] 74)
  have hb2 := below_al w2 (Obj.cells #[.slice (some ⟨g, o, none⟩) i i, .slice (some ⟨w1.heap.size, 0, none⟩) 1 1, .slice (some tp) (ps.length - i) tc] 74)
  have hs2 : (w2.alloc (Obj.cells #[.slice (some ⟨g, o, none⟩) i i, .slice (some ⟨w1.heap.size, 0, none⟩) 1 1, .slice (some tp) (ps.length - i) tc] 74)).heap.size = w2.heap.size + 1 := by simp
  generalize w2.alloc (Obj.cells #[.slice (some ⟨g, o, none⟩) i i, .slice (some ⟨w1.heap.size, 0, none⟩) 1 1, .slice (some tp) (ps.length - i) tc] 74) = w3 at *
  rw [hs1] at hS
  have hM3 := (hb2.block w1.heap.size (by omega)).trans hM
  have hb3 := hb1.trans (hb2.mono (by omega))
  have hd : Below w3.heap.size w3 w3.drew := (Below.refl _ _).drew
  have hb4 := hb3.trans (hd.mono (by omega))
  have hr4 := hr.below hb4
  have ht : (ps.take i).length = i := by rw [List.length_take]; omega
  have hdl : (ps.drop i).length = ps.length - i := by rw [List.length_drop]
  have hlen : (catM [(some ⟨g, o, none⟩, i, ps.take i), (some ⟨w1.heap.size, 0, none⟩, 1, [M]), (some tp, tc, ps.drop i)]).length = ps.length + 1 := by
    simp [catM]; omega
  have hcat : catM [((some ⟨g, o, none⟩ : Option Addr), i, ps.take i), (some ⟨w1.heap.size, 0, none⟩, 1, [M]), (some tp, tc, ps.drop i)] = ps.take i ++ M :: ps.drop i := by simp [catM]
  have hc := concat_cells (w := w3.drew) (b := w1.heap.size + 1) (cc := 3) (ps := [(some ⟨g, o, none⟩, i, ps.take i), (some ⟨w1.heap.size, 0, none⟩, 1, [M]), (some tp, tc, ps.drop i)]) (by show _ < w3.heap.size; omega)
    (fun k hk => by
      have h3 : w3.drew.heap[w1.heap.size + 1]? = _ := hS
      simp only [List.length_cons, List.length_nil] at hk
      rcases (show k = 0 ∨ k = 1 ∨ k = 2 by omega) with rfl | rfl | rfl
      · rw [cell_at h3]; simp [slV, ht]
      · rw [cell_at h3]; simp [slV]
      · rw [cell_at h3]; simp [slV])
    (fun p hp => by
      simp only [List.mem_cons, List.not_mem_nil, or_false] at hp
      rcases hp with rfl | rfl | rfl
      · exact ⟨rd_head hr4 hi, fun h => by cases h⟩
      · refine ⟨⟨by rw [ceC_len], fun _ => ⟨w1.heap.size, 0, rfl, by show _ < w3.heap.size; omega, fun j u hj => ?_⟩⟩, fun h => by cases h⟩
        have h3 : w3.drew.heap[w1.heap.size]? = _ := hM3
        rw [cell_at h3, Nat.zero_add]
        simpa [ceC, ceC1] using hj
      · exact ⟨rd_tail hr4 (some tp) (fun h => by rw [htp h]), fun h => by cases h⟩)
    (by rw [hlen]; omega) (by simp)
  rw [hlen, hcat] at hc
  refine hc.mono ?_
  rintro e w' ⟨a, c', rfl, ho, hb⟩
  exact ⟨a, c', rfl, own_mono ho (by show _ ≤ w3.heap.size; omega), hb4.trans (hb.mono (by show _ ≤ w3.heap.size; omega))⟩

set_option maxRecDepth 100000 in
set_option maxHeartbeats 4000000 in
theorem putIn_of {w : World} {g o c : Nat} {ps : List CelM} (M : CelM) (i : Nat) (hr : Rd w 4 (some ⟨g, o, none⟩) ps.length (ceC ps)) (hn : ps.length ≤ 1000) (hc : ps.length ≤ c) (hcm : c ≤ maxLen) (hi : i ≤ ps.length) :
    Calls Try.prog 81 #[.slice (some ⟨g, o, none⟩) ps.length c, .int .i64 i, .agg #[.slice M.a M.n M.c, .int .i64 M.x, .int .i64 M.y, .bool M.k]] w fun e w' => ∃ a c', e = .returned (.slice a (ps.length + 1) c') ∧ w'.ownsRow w.heap.size 50 4 (.slice a (ps.length + 1) c') (ps.length + 1) (ceC (ps.take i ++ M :: ps.drop i)) ∧ Below w.heap.size w w' := by
  have al := below_al w (Obj.cells #[Value.slice M.a M.n M.c, Value.int .i64 M.x, Value.int .i64 M.y, Value.bool M.k] 50)
  have hfn := heap_alloc_new w (Obj.cells #[Value.slice M.a M.n M.c, Value.int .i64 M.x, Value.int .i64 M.y, Value.bool M.k] 50)
  have hz1 : (w.alloc (Obj.cells #[Value.slice M.a M.n M.c, Value.int .i64 M.x, Value.int .i64 M.y, Value.bool M.k] 50)).heap.size = w.heap.size + 1 := by simp
  have HR := Lib.hid hr
  obtain ⟨n, hnn⟩ : ∃ n, ps.length = n := ⟨_, rfl⟩
  have HN := Lib.hid hnn
  rw [hnn] at hn hc hi ⊢
  unfold maxLen at hcm
  clear hr hnn
  go_enter Try.func81, Try.ntmps81
  go_upto_region 1 with fail
  generalize w.alloc (Obj.cells #[Value.slice M.a M.n M.c, Value.int .i64 M.x, Value.int .i64 M.y, Value.bool M.k] 50) = w1 at *
  have k0 : w1.drew.cell? ⟨w.heap.size, 0, none⟩ = some (.slice M.a M.n M.c) := show w1.cell? ⟨w.heap.size, 0, none⟩ = some (.slice M.a M.n M.c) by rw [cell_at hfn]; rfl
  have k1 : w1.drew.cell? ⟨w.heap.size, 1, none⟩ = some (.int .i64 M.x) := show w1.cell? ⟨w.heap.size, 1, none⟩ = some (.int .i64 M.x) by rw [cell_at hfn]; rfl
  have k2 : w1.drew.cell? ⟨w.heap.size, 2, none⟩ = some (.int .i64 M.y) := show w1.cell? ⟨w.heap.size, 2, none⟩ = some (.int .i64 M.y) by rw [cell_at hfn]; rfl
  have k3 : w1.drew.cell? ⟨w.heap.size, 3, none⟩ = some (.bool M.k) := show w1.cell? ⟨w.heap.size, 3, none⟩ = some (.bool M.k) by rw [cell_at hfn]; rfl
  have e0 : (0 : Int) ≤ (i : Int) := by omega
  have e1 : (i : Int) ≤ (n : Int) := by omega
  have e2 : (i : Int) ≤ (c : Int) := by omega
  have e3 : (n : Int) ≤ (c : Int) := by omega
  have HAL := Lib.hid al
  have hr1 := HR.out.below al
  by_cases hci : c = i
  · have hni : n = c := by omega
    subst hci
    subst hni
    have HC3 := Lib.hid (cat3 (z := w.heap.size + 1) (tl := 0) (tc := 0) (tp := ⟨g, o, none⟩) (M := M) hz1 hr1 HN.out hn hi (by omega) (fun h => by omega))
    clear hr1 al hfn
    go_region_law (go_simp; go_at_call 98; refine (HC3.out).mono ?_; rintro e w5 ⟨a5, c5, rfl, ho5, hb5⟩; have HO5 := Lib.hid ho5; have HB5 := Lib.hid hb5; clear ho5 hb5)
    all_goals
      go_wp2_with fail
      go_ret
      exact ⟨a5, c5, rfl, own_mono HO5.out (by omega), HAL.out.trans (HB5.out.mono (by omega))⟩
  · have hci' : ¬ ((c : Int) - (i : Int) = 0) := by omega
    have hci2 : c - i ≠ 0 := by omega
    have HC3 := Lib.hid (cat3 (z := w.heap.size + 1) (tl := n - i) (tc := c - i) (tp := ⟨g, o + i * 4, none⟩) (M := M) hz1 hr1 HN.out hn hi rfl (fun h => rfl))
    clear hr1 al hfn
    go_region_law (go_simp; go_at_call 98; refine (HC3.out).mono ?_; rintro e w5 ⟨a5, c5, rfl, ho5, hb5⟩; have HO5 := Lib.hid ho5; have HB5 := Lib.hid hb5; clear ho5 hb5)
    all_goals
      go_wp2_with fail
      go_ret
      exact ⟨a5, c5, rfl, own_mono HO5.out (by omega), HAL.out.trans (HB5.out.mono (by omega))⟩

theorem cat2 {w1 : World} {z g o i n tl tc : Nat} {tp : Addr} {ps : List CelM} (hz : w1.heap.size = z) (hr : Rd w1 4 (some ⟨g, o, none⟩) ps.length (ceC ps)) (hn : ps.length = n) (hl : n ≤ 1000) (hi : i < n) (htl : tl = n - (i + 1)) (htp : i + 1 < n → tp = ⟨g, o + (i + 1) * 4, none⟩) :
    Calls Try.prog 98 #[.slice (some ⟨z, 0, none⟩) 2 2] ((w1.alloc (Obj.cells #[.slice (some ⟨g, o, none⟩) i i, .slice (some tp) tl tc] 74)).drew) fun e w' => ∃ a c', e = .returned (.slice a (n - 1) c') ∧ w'.ownsRow w1.heap.size 50 4 (.slice a (n - 1) c') (n - 1) (ceC (ps.take i ++ ps.drop (i + 1))) ∧ Below w1.heap.size w1 w' := by
  subst hz hn htl
  have hS := heap_alloc_new w1 (Obj.cells #[.slice (some ⟨g, o, none⟩) i i, .slice (some tp) (ps.length - (i + 1)) tc] 74)
  have hb2 := below_al w1 (Obj.cells #[.slice (some ⟨g, o, none⟩) i i, .slice (some tp) (ps.length - (i + 1)) tc] 74)
  have hs2 : (w1.alloc (Obj.cells #[.slice (some ⟨g, o, none⟩) i i, .slice (some tp) (ps.length - (i + 1)) tc] 74)).heap.size = w1.heap.size + 1 := by simp
  generalize w1.alloc (Obj.cells #[.slice (some ⟨g, o, none⟩) i i, .slice (some tp) (ps.length - (i + 1)) tc] 74) = w3 at *
  have hd : Below w3.heap.size w3 w3.drew := (Below.refl _ _).drew
  have hb4 := hb2.trans (hd.mono (by omega))
  have hr4 := hr.below hb4
  have ht : (ps.take i).length = i := by rw [List.length_take]; omega
  have hlen : (catM [(some ⟨g, o, none⟩, i, ps.take i), (some tp, tc, ps.drop (i + 1))]).length = ps.length - 1 := by
    simp [catM]; omega
  have hcat : catM [((some ⟨g, o, none⟩ : Option Addr), i, ps.take i), (some tp, tc, ps.drop (i + 1))] = ps.take i ++ ps.drop (i + 1) := by simp [catM]
  have hc := concat_cells (w := w3.drew) (b := w1.heap.size) (cc := 2) (ps := [(some ⟨g, o, none⟩, i, ps.take i), (some tp, tc, ps.drop (i + 1))]) (by show _ < w3.heap.size; omega)
    (fun k hk => by
      have h3 : w3.drew.heap[w1.heap.size]? = _ := hS
      simp only [List.length_cons, List.length_nil] at hk
      rcases (show k = 0 ∨ k = 1 by omega) with rfl | rfl
      · rw [cell_at h3]; simp [slV, ht]
      · rw [cell_at h3]; simp [slV])
    (fun p hp => by
      simp only [List.mem_cons, List.not_mem_nil, or_false] at hp
      rcases hp with rfl | rfl
      · exact ⟨rd_head hr4 (by omega), fun h => by cases h⟩
      · exact ⟨rd_tail hr4 (some tp) (fun h => by rw [htp h]), fun h => by cases h⟩)
    (by rw [hlen]; omega) (by simp)
  rw [hlen, hcat] at hc
  refine hc.mono ?_
  rintro e w' ⟨a, c', rfl, ho, hb⟩
  exact ⟨a, c', rfl, own_mono ho (by show _ ≤ w3.heap.size; omega), hb4.trans (hb.mono (by show _ ≤ w3.heap.size; omega))⟩

set_option maxRecDepth 100000 in
set_option maxHeartbeats 4000000 in
theorem takenOut_of {w : World} {g o c : Nat} {ps : List CelM} (i : Nat) (hr : Rd w 4 (some ⟨g, o, none⟩) ps.length (ceC ps)) (hn : ps.length ≤ 1000) (hc : ps.length ≤ c) (hcm : c ≤ maxLen) (hi : i < ps.length) :
    Calls Try.prog 82 #[.slice (some ⟨g, o, none⟩) ps.length c, .int .i64 i] w fun e w' => ∃ a c', e = .returned (.slice a (ps.length - 1) c') ∧ w'.ownsRow w.heap.size 50 4 (.slice a (ps.length - 1) c') (ps.length - 1) (ceC (ps.take i ++ ps.drop (i + 1))) ∧ Below w.heap.size w w' := by
  have HR := Lib.hid hr
  obtain ⟨n, hnn⟩ : ∃ n, ps.length = n := ⟨_, rfl⟩
  have HN := Lib.hid hnn
  rw [hnn] at hn hc hi ⊢
  unfold maxLen at hcm
  clear hr hnn
  have e0 : (0 : Int) ≤ (i : Int) := by omega
  have e1 : (i : Int) ≤ (n : Int) := by omega
  have e2 : (i : Int) ≤ (c : Int) := by omega
  have e3 : (n : Int) ≤ (c : Int) := by omega
  obtain ⟨j, hj⟩ : ∃ j, i + 1 = j := ⟨_, rfl⟩
  have HJ := Lib.hid hj
  have hw0 : IntKind.i64.wrap ((i : Int) + 1) = (j : Int) := by rw [IntKind.wrap_i64]; omega
  have e4 : (0 : Int) ≤ (j : Int) := by omega
  have e5 : (j : Int) ≤ (n : Int) := by omega
  have e6 : j ≤ n := by omega
  have e7 : (j : Int) ≤ (c : Int) := by omega
  by_cases hci : n = j
  · subst hci
    have HC3 := Lib.hid (cat2 (w1 := w) (z := w.heap.size) (i := i) (tl := 0) (tc := 0) (tp := ⟨g, o, none⟩) rfl HR.out HN.out hn hi (by omega) (fun h => by omega))
    clear hj
    go_enter Try.func82, Try.ntmps82
    go_upto_region 1 with fail
    go_region_law (go_simp; go_at_call 98; refine (HC3.out).mono ?_; rintro e w5 ⟨a5, c5, rfl, ho5, hb5⟩; have HO5 := Lib.hid ho5; have HB5 := Lib.hid hb5; clear ho5 hb5)
    all_goals
      go_wp2_with fail
      go_ret
      exact ⟨a5, c5, rfl, HO5.out, HB5.out⟩
  · have hci' : ¬ ((n : Int) - (j : Int) = 0) := by omega
    have hci2 : n - j ≠ 0 := by omega
    have HC3 := Lib.hid (cat2 (w1 := w) (z := w.heap.size) (i := i) (tl := n - j) (tc := n - j) (tp := ⟨g, o + j * 4, none⟩) rfl HR.out HN.out hn hi (by omega) (fun h => by rw [hj]))
    clear hj
    go_enter Try.func82, Try.ntmps82
    go_upto_region 1 with fail
    go_region_law (go_simp; go_at_call 98; refine (HC3.out).mono ?_; rintro e w5 ⟨a5, c5, rfl, ho5, hb5⟩; have HO5 := Lib.hid ho5; have HB5 := Lib.hid hb5; clear ho5 hb5)
    all_goals
      go_wp2_with fail
      go_ret
      exact ⟨a5, c5, rfl, HO5.out, HB5.out⟩

/-- Cells with one put in. -/
def insL (ps : List CelM) (i : Nat) (M : CelM) : List CelM := ps.take i ++ M :: ps.drop i
theorem insL_mem {ps : List CelM} {i : Nat} {M q : CelM} (h : q ∈ insL ps i M) : q ∈ ps ∨ q = M := by
  unfold insL at h
  rcases List.mem_append.mp h with h | h
  · exact .inl (List.mem_of_mem_take h)
  · rcases List.mem_cons.mp h with h | h
    · exact .inr h
    · exact .inl (List.mem_of_mem_drop h)
theorem insL_len {ps : List CelM} {i : Nat} (hi : i ≤ ps.length) (M : CelM) : (insL ps i M).length = ps.length + 1 := by
  unfold insL; rw [List.length_append, List.length_take, List.length_cons, List.length_drop]; omega
/-- What Insert tells. -/
def InsPost (l : List UInt8) (n : Nat) (I : Int) (e : Int) (h : Bool) (ps : List CelM) (M : CelM) (w : World) (e' : Ending) (w' : World) : Prop :=
  Below w.heap.size w w' ∧
  ((¬ (0 ≤ I ∧ I ≤ n) ∧ e' = .returned (.tuple #[rowV none 0 0 0 false, .int .i64 5])) ∨
   ((0 ≤ I ∧ I ≤ n) ∧ 40 ≤ n ∧ e' = .returned (.tuple #[rowV none 0 0 0 false, .int .i64 6])) ∨
   ((0 ≤ I ∧ I ≤ n) ∧ n < 40 ∧ ∃ (g' : Nat) (c' : Nat), e' = .returned (.tuple #[rowV (some ⟨g', 0, none⟩) (n + 1) c' e h, .int .i64 0]) ∧ RoIn w' l (some ⟨g', 0, none⟩) (insL ps I.toNat M) ∧ n + 1 ≤ c' ∧ c' ≤ maxLen))

set_option maxRecDepth 100000 in
set_option maxHeartbeats 4000000 in
theorem rins_of {w : World} {l : List UInt8} {g o c n : Nat} {e : Int} {h : Bool} {ps : List CelM} {M : CelM} (I : Int) (hr : RoIn w l (some ⟨g, o, none⟩) ps) (hM : CeIn w 0 l M) (hnn : ps.length = n) (hn : n ≤ 100) (hc : n ≤ c) (hcm : c ≤ maxLen) :
    Calls Try.prog 44 #[rowV (some ⟨g, o, none⟩) n c e h, .int .i64 I, .agg #[.slice M.a M.n M.c, .int .i64 M.x, .int .i64 M.y, .bool M.k]] w (InsPost l n I e h ps M w) := by
  obtain ⟨w1, hw1⟩ : ∃ w1, w1 = allocs w [Obj.cells #[Value.slice (some ⟨g, o, none⟩) n c, Value.int .i64 e, Value.bool h] 81, Obj.cells #[Value.slice M.a M.n M.c, Value.int .i64 M.x, Value.int .i64 M.y, Value.bool M.k] 50, Obj.cells #[Value.slice none 0 0, Value.int .i64 0, Value.bool false] 81] := ⟨_, rfl⟩
  have HB1 : Hid (Below w.heap.size w w1) := by rw [hw1]; exact Lib.hid (allocs_below _ w)
  have hzw : w1.heap.size > w.heap.size + 2 := by rw [hw1, allocs_size]; simp
  have h0 : w1.heap[w.heap.size]? = some (.cells #[Value.slice (some ⟨g, o, none⟩) n c, Value.int .i64 e, Value.bool h] 81 (0, 0)) := by rw [hw1]; exact allocs_at _ w 0 _ rfl
  have h1 : w1.heap[w.heap.size + 1]? = some (Obj.cells #[Value.slice M.a M.n M.c, Value.int .i64 M.x, Value.int .i64 M.y, Value.bool M.k] 50) := by rw [hw1]; exact allocs_at _ w 1 _ rfl
  have HH1 : Hid (w1.heap[w.heap.size + 2]? = some (.cells #[Value.slice none 0 0, Value.int .i64 0, Value.bool false] 81 (0, 0))) := by rw [hw1]; exact Lib.hid (allocs_at _ w 2 _ rfl)
  have hr1 := hr.below HB1.out
  have HRO := Lib.hid hr1
  have HMc := Lib.hid (hM.below HB1.out)
  have HNN := Lib.hid hnn
  have k0 : w1.cell? ⟨w.heap.size, 0, none⟩ = some (Value.slice (some ⟨g, o, none⟩) n c) := by rw [cell_at h0]; rfl
  have k1 : w1.cell? ⟨w.heap.size, 1, none⟩ = some (.int .i64 e) := by rw [cell_at h0]; rfl
  have k2 : w1.cell? ⟨w.heap.size, 2, none⟩ = some (.bool h) := by rw [cell_at h0]; rfl
  have H0 := Lib.hid h0
  have H1 := Lib.hid h1
  have hh1 := HH1.out
  have zz := fun i => unfrozen hh1 i
  have r0 : w1.cell? ⟨w.heap.size + 1 + 1, 0, none⟩ = some (.slice none 0 0) := by rw [cell_at hh1]; rfl
  have r1 : w1.cell? ⟨w.heap.size + 1 + 1, 1, none⟩ = some (.int .i64 0) := by rw [cell_at hh1]; rfl
  have r2 : w1.cell? ⟨w.heap.size + 1 + 1, 2, none⟩ = some (.bool false) := by rw [cell_at hh1]; rfl
  clear h0 h1 hr hM hr1 hh1
  unfold InsPost
  go_enter Try.func44, Try.ntmps44
  go_upto_region 1 with fail
  rw [show ((w.alloc (Obj.cells #[Value.slice (some ⟨g, o, none⟩) n c, Value.int .i64 e, Value.bool h] 81)).alloc (Obj.cells #[Value.slice M.a M.n M.c, Value.int .i64 M.x, Value.int .i64 M.y, Value.bool M.k] 50)).alloc (Obj.cells #[Value.slice none 0 0, Value.int .i64 0, Value.bool false] 81) = w1 from hw1.symm]
  clear hw1
  by_cases hI : 0 ≤ I ∧ I ≤ n
  · obtain ⟨hI1, hI2⟩ := hI
    obtain ⟨i, rfl⟩ : ∃ i : Nat, I = i := ⟨I.toNat, by omega⟩
    have d1 : decide ((i : Int) < 0) = false := decide_eq_false (by omega)
    have d2 : decide ((n : Int) < (i : Int)) = false := decide_eq_false (by omega)
    have d2' : decide (n < i) = false := decide_eq_false (by omega)
    by_cases h40 : 40 ≤ n
    · have d3 : decide ((40 : Int) ≤ (n : Int)) = true := decide_eq_true (by omega)
      have d3' : decide (40 ≤ n) = true := decide_eq_true h40
      go_wp2_with fail
      have hs := set3_at HH1.out (.slice none 0 0) (.int .i64 0) (.bool false)
      have hB := set3_below HB1.out (show w.heap.size ≤ w.heap.size + 1 + 1 by omega) (.slice none 0 0) (.int .i64 0) (.bool false)
      have q0 : (set3 w1 (w.heap.size + 1 + 1) (.slice none 0 0) (.int .i64 0) (.bool false)).cell? ⟨w.heap.size + 1 + 1, 0, none⟩ = some (.slice none 0 0) := by rw [cell_at hs]; rfl
      have q1 : (set3 w1 (w.heap.size + 1 + 1) (.slice none 0 0) (.int .i64 0) (.bool false)).cell? ⟨w.heap.size + 1 + 1, 1, none⟩ = some (.int .i64 0) := by rw [cell_at hs]; rfl
      have q2 : (set3 w1 (w.heap.size + 1 + 1) (.slice none 0 0) (.int .i64 0) (.bool false)).cell? ⟨w.heap.size + 1 + 1, 2, none⟩ = some (.bool false) := by rw [cell_at hs]; rfl
      unfold set3 at hB q0 q1 q2
      exact bodyPost_ret (v := .tuple #[rowV none 0 0 0 false, .int .i64 6]) (by simp [results, Try.results44, go_sem, q0, q1, q2]) rfl ⟨hB, .inr (.inl ⟨⟨hI1, hI2⟩, h40, rfl⟩)⟩
    · have d3 : decide ((40 : Int) ≤ (n : Int)) = false := decide_eq_false (by omega)
      have d3' : decide (40 ≤ n) = false := decide_eq_false h40
      have HPI : Hid (∀ w', Below w1.heap.size w1 w' → Calls Try.prog 81 #[.slice (some ⟨g, o, none⟩) n c, .int .i64 i, .agg #[.slice M.a M.n M.c, .int .i64 M.x, .int .i64 M.y, .bool M.k]] w' fun e w'' => ∃ a c', e = .returned (.slice a (n + 1) c') ∧ w''.ownsRow w'.heap.size 50 4 (.slice a (n + 1) c') (n + 1) (ceC (insL ps i M)) ∧ Below w'.heap.size w' w'') := by
        refine Lib.hid (fun w' hb => ?_)
        have := putIn_of (c := c) M i ((HRO.out.below hb).rd) (by rw [HNN.out]; omega) (by rw [HNN.out]; exact hc) hcm (by rw [HNN.out]; omega)
        rw [HNN.out] at this
        exact this
      go_upto_region 5 with fail
      have hb0 : Below w1.heap.size w1 w1.drew := (Below.refl _ _).drew
      have m0 : w1.drew.cell? ⟨w.heap.size, 0, none⟩ = some (Value.slice (some ⟨g, o, none⟩) n c) := k0
      have m1 : w1.drew.cell? ⟨w.heap.size, 1, none⟩ = some (.int .i64 e) := k1
      have m2 : w1.drew.cell? ⟨w.heap.size, 2, none⟩ = some (.bool h) := k2
      have c0 : w1.drew.cell? ⟨w.heap.size + 1, 0, none⟩ = some (.slice M.a M.n M.c) := show w1.cell? ⟨w.heap.size + 1, 0, none⟩ = some (.slice M.a M.n M.c) by rw [cell_at H1.out]; rfl
      have c1 : w1.drew.cell? ⟨w.heap.size + 1, 1, none⟩ = some (.int .i64 M.x) := show w1.cell? ⟨w.heap.size + 1, 1, none⟩ = some (.int .i64 M.x) by rw [cell_at H1.out]; rfl
      have c2 : w1.drew.cell? ⟨w.heap.size + 1, 2, none⟩ = some (.int .i64 M.y) := show w1.cell? ⟨w.heap.size + 1, 2, none⟩ = some (.int .i64 M.y) by rw [cell_at H1.out]; rfl
      have c3 : w1.drew.cell? ⟨w.heap.size + 1, 3, none⟩ = some (.bool M.k) := show w1.cell? ⟨w.heap.size + 1, 3, none⟩ = some (.bool M.k) by rw [cell_at H1.out]; rfl
      clear r0 r1 r2 zz k0 k1 k2
      go_region_law (first
        | (go_simp; go_at_call 81; refine (HPI.out _ hb0).mono ?_; rintro e' w5 ⟨a5, c5, rfl, ho5, hb5⟩; have hs5 := hb0.trans (hb5.mono (Nat.le_refl _)); have h05 := (hs5.block _ (by omega)).trans H0.out; have n0 : w5.cell? ⟨w.heap.size, 0, none⟩ = some (Value.slice (some ⟨g, o, none⟩) n c) := (by rw [cell_at h05]; rfl); have n1 : w5.cell? ⟨w.heap.size, 1, none⟩ = some (.int .i64 e) := (by rw [cell_at h05]; rfl); have n2 : w5.cell? ⟨w.heap.size, 2, none⟩ = some (.bool h) := (by rw [cell_at h05]; rfl); have HO5 := Lib.hid ho5; have HS5 := Lib.hid hs5; clear ho5 hb5 h05)
        | (go_simp; go_at_call 80; refine (rwith_of _ _ _ _ _ _ _ _).mono ?_; rintro e' w6 ⟨rfl, hb6⟩; have hs6 := HS5.out.trans (hb6.mono HS5.out.size); have hh6 := (hs6.block _ (by omega)).trans HH1.out; have zz := (fun i => unfrozen hh6 i); have r0 : w6.cell? ⟨w.heap.size + 1 + 1, 0, none⟩ = some (.slice none 0 0) := (by rw [cell_at hh6]; rfl); have r1 : w6.cell? ⟨w.heap.size + 1 + 1, 1, none⟩ = some (.int .i64 0) := (by rw [cell_at hh6]; rfl); have r2 : w6.cell? ⟨w.heap.size + 1 + 1, 2, none⟩ = some (.bool false) := (by rw [cell_at hh6]; rfl); have HO6 := Lib.hid (own_below HO5.out hb6); have HS6 := Lib.hid hs6; have HH6 := Lib.hid hh6; clear hb6 hh6))
      all_goals
        have ho6 : w6.ownsRow w1.heap.size 50 4 (.slice a5 (n + 1) c5) (n + 1) (ceC (insL ps i M)) := own_mono HO6.out (by have := (hb0).size; omega)
        obtain ⟨g5, rfl, hc5, hc6⟩ : ∃ g5, a5 = some ⟨g5, 0, none⟩ ∧ n + 1 ≤ c5 ∧ c5 ≤ maxLen := by
          rcases ho6.2 with ⟨_, h2⟩ | ⟨g5, cap, cur, h1, _, _, h3, h4, _⟩
          · omega
          · simp only [Value.slice.injEq] at h1
            obtain ⟨rfl, _, rfl⟩ := h1
            exact ⟨g5, rfl, h3, h4⟩
        have hil : (insL ps i M).length = n + 1 := by rw [insL_len (by rw [HNN.out]; omega), HNN.out]
        have hro : RoIn w6 l (some ⟨g5, 0, none⟩) (insL ps i M) := own_ro (c := c5) (by rw [hil]; exact ho6) (fun q hq => by
          rcases insL_mem hq with hq | rfl
          · exact (HRO.out.below HS6.out).ces q hq
          · exact HMc.out.below HS6.out)
        have HR6 := Lib.hid hro
        clear ho6 hro
        go_wp2_with fail
        have hro := HR6.out.set3 (u0 := .slice (some ⟨g5, 0, none⟩) (n + 1) c5) (u1 := .int .i64 e) (u2 := .bool h) HH6.out (by decide) (by decide)
        have hs := set3_at HH6.out (.slice (some ⟨g5, 0, none⟩) (n + 1) c5) (.int .i64 e) (.bool h)
        have hB := set3_below (HB1.out.trans (HS6.out.mono (show w.heap.size ≤ w1.heap.size by omega))) (show w.heap.size ≤ w.heap.size + 1 + 1 by omega) (.slice (some ⟨g5, 0, none⟩) (n + 1) c5) (.int .i64 e) (.bool h)
        have q0 : (set3 w6 (w.heap.size + 1 + 1) (.slice (some ⟨g5, 0, none⟩) (n + 1) c5) (.int .i64 e) (.bool h)).cell? ⟨w.heap.size + 1 + 1, 0, none⟩ = some (.slice (some ⟨g5, 0, none⟩) (n + 1) c5) := by rw [cell_at hs]; rfl
        have q1 : (set3 w6 (w.heap.size + 1 + 1) (.slice (some ⟨g5, 0, none⟩) (n + 1) c5) (.int .i64 e) (.bool h)).cell? ⟨w.heap.size + 1 + 1, 1, none⟩ = some (.int .i64 e) := by rw [cell_at hs]; rfl
        have q2 : (set3 w6 (w.heap.size + 1 + 1) (.slice (some ⟨g5, 0, none⟩) (n + 1) c5) (.int .i64 e) (.bool h)).cell? ⟨w.heap.size + 1 + 1, 2, none⟩ = some (.bool h) := by rw [cell_at hs]; rfl
        unfold set3 at hro hB q0 q1 q2
        exact bodyPost_ret (v := .tuple #[rowV (some ⟨g5, 0, none⟩) (n + 1) c5 e h, .int .i64 0]) (by simp [results, Try.results44, go_sem, q0, q1, q2]) rfl ⟨hB, .inr (.inr ⟨⟨hI1, hI2⟩, by omega, g5, c5, rfl, hro, hc5, hc6⟩)⟩
  · have HIN := Lib.hid hI
    by_cases hI0 : I < 0
    · have d1 : decide (I < 0) = true := decide_eq_true hI0
      go_wp2_with fail
      have hs := set3_at HH1.out (.slice none 0 0) (.int .i64 0) (.bool false)
      have hB := set3_below HB1.out (show w.heap.size ≤ w.heap.size + 1 + 1 by omega) (.slice none 0 0) (.int .i64 0) (.bool false)
      have q0 : (set3 w1 (w.heap.size + 1 + 1) (.slice none 0 0) (.int .i64 0) (.bool false)).cell? ⟨w.heap.size + 1 + 1, 0, none⟩ = some (.slice none 0 0) := by rw [cell_at hs]; rfl
      have q1 : (set3 w1 (w.heap.size + 1 + 1) (.slice none 0 0) (.int .i64 0) (.bool false)).cell? ⟨w.heap.size + 1 + 1, 1, none⟩ = some (.int .i64 0) := by rw [cell_at hs]; rfl
      have q2 : (set3 w1 (w.heap.size + 1 + 1) (.slice none 0 0) (.int .i64 0) (.bool false)).cell? ⟨w.heap.size + 1 + 1, 2, none⟩ = some (.bool false) := by rw [cell_at hs]; rfl
      unfold set3 at hB q0 q1 q2
      exact bodyPost_ret (v := .tuple #[rowV none 0 0 0 false, .int .i64 5]) (by simp [results, Try.results44, go_sem, q0, q1, q2]) rfl ⟨hB, .inl ⟨(by first | exact HIN.out | (have := HIN.out; omega)), rfl⟩⟩
    · have d1 : decide (I < 0) = false := decide_eq_false hI0
      have d2 : decide ((n : Int) < I) = true := decide_eq_true (by omega)
      go_wp2_with fail
      have hs := set3_at HH1.out (.slice none 0 0) (.int .i64 0) (.bool false)
      have hB := set3_below HB1.out (show w.heap.size ≤ w.heap.size + 1 + 1 by omega) (.slice none 0 0) (.int .i64 0) (.bool false)
      have q0 : (set3 w1 (w.heap.size + 1 + 1) (.slice none 0 0) (.int .i64 0) (.bool false)).cell? ⟨w.heap.size + 1 + 1, 0, none⟩ = some (.slice none 0 0) := by rw [cell_at hs]; rfl
      have q1 : (set3 w1 (w.heap.size + 1 + 1) (.slice none 0 0) (.int .i64 0) (.bool false)).cell? ⟨w.heap.size + 1 + 1, 1, none⟩ = some (.int .i64 0) := by rw [cell_at hs]; rfl
      have q2 : (set3 w1 (w.heap.size + 1 + 1) (.slice none 0 0) (.int .i64 0) (.bool false)).cell? ⟨w.heap.size + 1 + 1, 2, none⟩ = some (.bool false) := by rw [cell_at hs]; rfl
      unfold set3 at hB q0 q1 q2
      exact bodyPost_ret (v := .tuple #[rowV none 0 0 0 false, .int .i64 5]) (by simp [results, Try.results44, go_sem, q0, q1, q2]) rfl ⟨hB, .inl ⟨(by first | exact HIN.out | (have := HIN.out; omega)), rfl⟩⟩

/-- Cells with one taken out. -/
def delL (ps : List CelM) (i : Nat) : List CelM := ps.take i ++ ps.drop (i + 1)
theorem delL_mem {ps : List CelM} {i : Nat} {q : CelM} (h : q ∈ delL ps i) : q ∈ ps := by
  unfold delL at h
  rcases List.mem_append.mp h with h | h
  · exact List.mem_of_mem_take h
  · exact List.mem_of_mem_drop h
theorem delL_len {ps : List CelM} {i : Nat} (hi : i < ps.length) : (delL ps i).length = ps.length - 1 := by
  unfold delL; rw [List.length_append, List.length_take, List.length_drop]; omega
theorem del_ins {ps : List CelM} {i : Nat} (hi : i ≤ ps.length) (M : CelM) : delL (insL ps i M) i = ps := by
  have hl : (ps.take i).length = i := by rw [List.length_take]; omega
  unfold delL insL
  rw [List.take_append_of_le_length (by omega), List.take_of_length_le (by omega), List.drop_append, List.drop_eq_nil_of_le (by omega), hl, List.nil_append, show i + 1 - i = 1 by omega, List.drop_succ_cons, List.drop_zero, List.take_append_drop]
/-- What Delete tells. -/
def DelPost (l : List UInt8) (n : Nat) (I : Int) (e : Int) (h : Bool) (ps : List CelM) (w : World) (e' : Ending) (w' : World) : Prop :=
  Below w.heap.size w w' ∧
  ((¬ (0 ≤ I ∧ I < n) ∧ e' = .returned (.tuple #[rowV none 0 0 0 false, .int .i64 5])) ∨
   ((0 ≤ I ∧ I < n) ∧ n = 1 ∧ e' = .returned (.tuple #[rowV none 0 0 0 false, .int .i64 9])) ∨
   ((0 ≤ I ∧ I < n) ∧ n ≠ 1 ∧ ∃ (g' : Nat) (c' : Nat), e' = .returned (.tuple #[rowV (some ⟨g', 0, none⟩) (n - 1) c' e h, .int .i64 0]) ∧ RoIn w' l (some ⟨g', 0, none⟩) (delL ps I.toNat) ∧ n - 1 ≤ c' ∧ c' ≤ maxLen))

set_option maxRecDepth 100000 in
set_option maxHeartbeats 4000000 in
theorem rdel_of {w : World} {l : List UInt8} {g o c n : Nat} {e : Int} {h : Bool} {ps : List CelM} (I : Int) (hr : RoIn w l (some ⟨g, o, none⟩) ps) (hnn : ps.length = n) (hn : n ≤ 100) (hc : n ≤ c) (hcm : c ≤ maxLen) :
    Calls Try.prog 45 #[rowV (some ⟨g, o, none⟩) n c e h, .int .i64 I] w (DelPost l n I e h ps w) := by
  obtain ⟨w1, hw1⟩ : ∃ w1, w1 = allocs w [Obj.cells #[Value.slice (some ⟨g, o, none⟩) n c, Value.int .i64 e, Value.bool h] 81, Obj.cells #[Value.slice none 0 0, Value.int .i64 0, Value.bool false] 81] := ⟨_, rfl⟩
  have HB1 : Hid (Below w.heap.size w w1) := by rw [hw1]; exact Lib.hid (allocs_below _ w)
  have hzw : w1.heap.size > w.heap.size + 1 := by rw [hw1, allocs_size]; simp
  have h0 : w1.heap[w.heap.size]? = some (.cells #[Value.slice (some ⟨g, o, none⟩) n c, Value.int .i64 e, Value.bool h] 81 (0, 0)) := by rw [hw1]; exact allocs_at _ w 0 _ rfl
  have HH1 : Hid (w1.heap[w.heap.size + 1]? = some (.cells #[Value.slice none 0 0, Value.int .i64 0, Value.bool false] 81 (0, 0))) := by rw [hw1]; exact Lib.hid (allocs_at _ w 1 _ rfl)
  have hr1 := hr.below HB1.out
  have HRO := Lib.hid hr1
  have HNN := Lib.hid hnn
  have k0 : w1.cell? ⟨w.heap.size, 0, none⟩ = some (Value.slice (some ⟨g, o, none⟩) n c) := by rw [cell_at h0]; rfl
  have k1 : w1.cell? ⟨w.heap.size, 1, none⟩ = some (.int .i64 e) := by rw [cell_at h0]; rfl
  have k2 : w1.cell? ⟨w.heap.size, 2, none⟩ = some (.bool h) := by rw [cell_at h0]; rfl
  have H0 := Lib.hid h0
  clear h0 hr hr1
  unfold DelPost
  go_enter Try.func45, Try.ntmps45
  go_upto_region 1 with fail
  rw [show (w.alloc (Obj.cells #[Value.slice (some ⟨g, o, none⟩) n c, Value.int .i64 e, Value.bool h] 81)).alloc (Obj.cells #[Value.slice none 0 0, Value.int .i64 0, Value.bool false] 81) = w1 from hw1.symm]
  clear hw1
  go_wp2_with fail
  refine (rhas_of _ _ _ _ _ _).mono ?_; rintro e0 w2 ⟨rfl, hb2⟩
  have HB2 := Lib.hid (HB1.out.trans (hb2.mono (show w.heap.size ≤ w1.heap.size by omega)))
  have HRO2 := Lib.hid (HRO.out.below hb2)
  have h02 := (hb2.block _ (by omega)).trans H0.out
  have hh2 := (hb2.block _ (by omega)).trans HH1.out
  have H02 := Lib.hid h02
  have HH2 := Lib.hid hh2
  have hz2 := hb2.size
  clear k0 k1 k2 HRO H0 HH1 HB1
  have k0 : w2.cell? ⟨w.heap.size, 0, none⟩ = some (Value.slice (some ⟨g, o, none⟩) n c) := by rw [cell_at h02]; rfl
  have k1 : w2.cell? ⟨w.heap.size, 1, none⟩ = some (.int .i64 e) := by rw [cell_at h02]; rfl
  have k2 : w2.cell? ⟨w.heap.size, 2, none⟩ = some (.bool h) := by rw [cell_at h02]; rfl
  have zz := fun i => unfrozen hh2 i
  have r0 : w2.cell? ⟨w.heap.size + 1, 0, none⟩ = some (.slice none 0 0) := by rw [cell_at hh2]; rfl
  have r1 : w2.cell? ⟨w.heap.size + 1, 1, none⟩ = some (.int .i64 0) := by rw [cell_at hh2]; rfl
  have r2 : w2.cell? ⟨w.heap.size + 1, 2, none⟩ = some (.bool false) := by rw [cell_at hh2]; rfl
  clear h02 hh2 hb2
  by_cases hI : 0 ≤ I ∧ I < n
  · rw [decide_eq_true hI]
    obtain ⟨hI1, hI2⟩ := hI
    obtain ⟨i, rfl⟩ : ∃ i : Nat, I = i := ⟨I.toNat, by omega⟩
    by_cases h40 : n = 1
    · subst h40
      go_wp2_with fail
      have hs := set3_at HH2.out (.slice none 0 0) (.int .i64 0) (.bool false)
      have hB := set3_below HB2.out (show w.heap.size ≤ w.heap.size + 1 by omega) (.slice none 0 0) (.int .i64 0) (.bool false)
      have q0 : (set3 w2 (w.heap.size + 1) (.slice none 0 0) (.int .i64 0) (.bool false)).cell? ⟨w.heap.size + 1, 0, none⟩ = some (.slice none 0 0) := by rw [cell_at hs]; rfl
      have q1 : (set3 w2 (w.heap.size + 1) (.slice none 0 0) (.int .i64 0) (.bool false)).cell? ⟨w.heap.size + 1, 1, none⟩ = some (.int .i64 0) := by rw [cell_at hs]; rfl
      have q2 : (set3 w2 (w.heap.size + 1) (.slice none 0 0) (.int .i64 0) (.bool false)).cell? ⟨w.heap.size + 1, 2, none⟩ = some (.bool false) := by rw [cell_at hs]; rfl
      unfold set3 at hB q0 q1 q2
      exact bodyPost_ret (v := .tuple #[rowV none 0 0 0 false, .int .i64 9]) (by simp [results, Try.results45, go_sem, q0, q1, q2]) rfl ⟨hB, (by first | exact .inr (.inl ⟨⟨hI1, hI2⟩, rfl, rfl⟩) | exact ⟨by omega, rfl⟩ | exact .inr ⟨by omega, rfl⟩)⟩
    · have d3 : ((n : Int) == 1) = false := by simp; omega
      have d3' : decide (n = 1) = false := decide_eq_false h40
      have d4 : (n == 1) = false := by simp; omega
      have HPI : Hid (∀ w', Below w2.heap.size w2 w' → Calls Try.prog 82 #[.slice (some ⟨g, o, none⟩) n c, .int .i64 i] w' fun e w'' => ∃ a c', e = .returned (.slice a (n - 1) c') ∧ w''.ownsRow w'.heap.size 50 4 (.slice a (n - 1) c') (n - 1) (ceC (delL ps i)) ∧ Below w'.heap.size w' w'') := by
        refine Lib.hid (fun w' hb => ?_)
        have := takenOut_of (c := c) i ((HRO2.out.below hb).rd) (by rw [HNN.out]; omega) (by rw [HNN.out]; exact hc) hcm (by rw [HNN.out]; omega)
        rw [HNN.out] at this
        exact this
      go_upto_region 5 with fail
      have hb0 : Below w2.heap.size w2 w2.drew := (Below.refl _ _).drew
      have m0 : w2.drew.cell? ⟨w.heap.size, 0, none⟩ = some (Value.slice (some ⟨g, o, none⟩) n c) := k0
      have m1 : w2.drew.cell? ⟨w.heap.size, 1, none⟩ = some (.int .i64 e) := k1
      have m2 : w2.drew.cell? ⟨w.heap.size, 2, none⟩ = some (.bool h) := k2
      clear r0 r1 r2 zz k0 k1 k2
      go_region_law (first
        | (go_simp; go_at_call 82; refine (HPI.out _ hb0).mono ?_; rintro e' w5 ⟨a5, c5, rfl, ho5, hb5⟩; have hs5 := hb0.trans (hb5.mono (Nat.le_refl _)); have h05 := (hs5.block _ (by omega)).trans H02.out; have n0 : w5.cell? ⟨w.heap.size, 0, none⟩ = some (Value.slice (some ⟨g, o, none⟩) n c) := (by rw [cell_at h05]; rfl); have n1 : w5.cell? ⟨w.heap.size, 1, none⟩ = some (.int .i64 e) := (by rw [cell_at h05]; rfl); have n2 : w5.cell? ⟨w.heap.size, 2, none⟩ = some (.bool h) := (by rw [cell_at h05]; rfl); have HO5 := Lib.hid ho5; have HS5 := Lib.hid hs5; clear ho5 hb5 h05)
        | (go_simp; go_at_call 80; refine (rwith_of _ _ _ _ _ _ _ _).mono ?_; rintro e' w6 ⟨rfl, hb6⟩; have hs6 := HS5.out.trans (hb6.mono HS5.out.size); have hh6 := (hs6.block _ (by omega)).trans HH2.out; have zz := (fun i => unfrozen hh6 i); have r0 : w6.cell? ⟨w.heap.size + 1, 0, none⟩ = some (.slice none 0 0) := (by rw [cell_at hh6]; rfl); have r1 : w6.cell? ⟨w.heap.size + 1, 1, none⟩ = some (.int .i64 0) := (by rw [cell_at hh6]; rfl); have r2 : w6.cell? ⟨w.heap.size + 1, 2, none⟩ = some (.bool false) := (by rw [cell_at hh6]; rfl); have HO6 := Lib.hid (own_below HO5.out hb6); have HS6 := Lib.hid hs6; have HH6 := Lib.hid hh6; clear hb6 hh6))
      all_goals
        have ho6 : w6.ownsRow w2.heap.size 50 4 (.slice a5 (n - 1) c5) (n - 1) (ceC (delL ps i)) := own_mono HO6.out (by have := (hb0).size; omega)
        obtain ⟨g5, rfl, hc5, hc6⟩ : ∃ g5, a5 = some ⟨g5, 0, none⟩ ∧ n - 1 ≤ c5 ∧ c5 ≤ maxLen := by
          rcases ho6.2 with ⟨_, h2⟩ | ⟨g5, cap, cur, h1, _, _, h3, h4, _⟩
          · omega
          · simp only [Value.slice.injEq] at h1
            obtain ⟨rfl, _, rfl⟩ := h1
            exact ⟨g5, rfl, h3, h4⟩
        have hil : (delL ps i).length = n - 1 := by rw [delL_len (by rw [HNN.out]; omega), HNN.out]
        have hro : RoIn w6 l (some ⟨g5, 0, none⟩) (delL ps i) := own_ro (c := c5) (by rw [hil]; exact ho6) (fun q hq => (HRO2.out.below HS6.out).ces q (delL_mem hq))
        have HR6 := Lib.hid hro
        clear ho6 hro
        go_wp2_with fail
        have hro := HR6.out.set3 (u0 := .slice (some ⟨g5, 0, none⟩) (n - 1) c5) (u1 := .int .i64 e) (u2 := .bool h) HH6.out (by decide) (by decide)
        have hs := set3_at HH6.out (.slice (some ⟨g5, 0, none⟩) (n - 1) c5) (.int .i64 e) (.bool h)
        have hB := set3_below (HB2.out.trans (HS6.out.mono (show w.heap.size ≤ w2.heap.size by omega))) (show w.heap.size ≤ w.heap.size + 1 by omega) (.slice (some ⟨g5, 0, none⟩) (n - 1) c5) (.int .i64 e) (.bool h)
        have q0 : (set3 w6 (w.heap.size + 1) (.slice (some ⟨g5, 0, none⟩) (n - 1) c5) (.int .i64 e) (.bool h)).cell? ⟨w.heap.size + 1, 0, none⟩ = some (.slice (some ⟨g5, 0, none⟩) (n - 1) c5) := by rw [cell_at hs]; rfl
        have q1 : (set3 w6 (w.heap.size + 1) (.slice (some ⟨g5, 0, none⟩) (n - 1) c5) (.int .i64 e) (.bool h)).cell? ⟨w.heap.size + 1, 1, none⟩ = some (.int .i64 e) := by rw [cell_at hs]; rfl
        have q2 : (set3 w6 (w.heap.size + 1) (.slice (some ⟨g5, 0, none⟩) (n - 1) c5) (.int .i64 e) (.bool h)).cell? ⟨w.heap.size + 1, 2, none⟩ = some (.bool h) := by rw [cell_at hs]; rfl
        unfold set3 at hro hB q0 q1 q2
        exact bodyPost_ret (v := .tuple #[rowV (some ⟨g5, 0, none⟩) (n - 1) c5 e h, .int .i64 0]) (by simp [results, Try.results45, go_sem, q0, q1, q2]) rfl ⟨hB, .inr (.inr ⟨⟨hI1, hI2⟩, h40, g5, c5, rfl, hro, hc5, hc6⟩)⟩
  · have HIN := Lib.hid hI
    rw [decide_eq_false hI]
    go_wp2_with fail
    have hs := set3_at HH2.out (.slice none 0 0) (.int .i64 0) (.bool false)
    have hB := set3_below HB2.out (show w.heap.size ≤ w.heap.size + 1 by omega) (.slice none 0 0) (.int .i64 0) (.bool false)
    have q0 : (set3 w2 (w.heap.size + 1) (.slice none 0 0) (.int .i64 0) (.bool false)).cell? ⟨w.heap.size + 1, 0, none⟩ = some (.slice none 0 0) := by rw [cell_at hs]; rfl
    have q1 : (set3 w2 (w.heap.size + 1) (.slice none 0 0) (.int .i64 0) (.bool false)).cell? ⟨w.heap.size + 1, 1, none⟩ = some (.int .i64 0) := by rw [cell_at hs]; rfl
    have q2 : (set3 w2 (w.heap.size + 1) (.slice none 0 0) (.int .i64 0) (.bool false)).cell? ⟨w.heap.size + 1, 2, none⟩ = some (.bool false) := by rw [cell_at hs]; rfl
    unfold set3 at hB q0 q1 q2
    exact bodyPost_ret (v := .tuple #[rowV none 0 0 0 false, .int .i64 5]) (by simp [results, Try.results45, go_sem, q0, q1, q2]) rfl ⟨hB, .inl ⟨(by first | exact HIN.out | (have := HIN.out; omega)), rfl⟩⟩

theorem cat3n {w1 : World} {z : Nat} {M : CelM} (hz : w1.heap.size = z) :
    Calls Try.prog 98 #[.slice (some ⟨z + 1, 0, none⟩) 3 3] (((w1.alloc (Obj.cells #[.slice M.a M.n M.c, .int .i64 M.x, .int .i64 M.y, .bool M.k] 50)).alloc (Obj.cells #[.slice none 0 0, .slice (some ⟨z, 0, none⟩) 1 1, .slice none 0 0] 74)).drew) fun e w' => ∃ a c', e = .returned (.slice a 1 c') ∧ w'.ownsRow w1.heap.size 50 4 (.slice a 1 c') 1 (ceC [M]) ∧ Below w1.heap.size w1 w' := by
  subst hz
  have hM := heap_alloc_new w1 (Obj.cells #[.slice M.a M.n M.c, .int .i64 M.x, .int .i64 M.y, .bool M.k] 50)
  have hb1 := below_al w1 (Obj.cells #[.slice M.a M.n M.c, .int .i64 M.x, .int .i64 M.y, .bool M.k] 50)
  have hs1 : (w1.alloc (Obj.cells #[.slice M.a M.n M.c, .int .i64 M.x, .int .i64 M.y, .bool M.k] 50)).heap.size = w1.heap.size + 1 := by simp
  generalize w1.alloc (Obj.cells #[.slice M.a M.n M.c, .int .i64 M.x, .int .i64 M.y, .bool M.k] 50) = w2 at *
  have hS := heap_alloc_new w2 (Obj.cells #[.slice none 0 0, .slice (some ⟨w1.heap.size, 0, none⟩) 1 1, .slice none 0 0] 74)
  have hb2 := below_al w2 (Obj.cells #[.slice none 0 0, .slice (some ⟨w1.heap.size, 0, none⟩) 1 1, .slice none 0 0] 74)
  have hs2 : (w2.alloc (Obj.cells #[.slice none 0 0, .slice (some ⟨w1.heap.size, 0, none⟩) 1 1, .slice none 0 0] 74)).heap.size = w2.heap.size + 1 := by simp
  generalize w2.alloc (Obj.cells #[.slice none 0 0, .slice (some ⟨w1.heap.size, 0, none⟩) 1 1, .slice none 0 0] 74) = w3 at *
  rw [hs1] at hS
  have hM3 := (hb2.block w1.heap.size (by omega)).trans hM
  have hb3 := hb1.trans (hb2.mono (by omega))
  have hd : Below w3.heap.size w3 w3.drew := (Below.refl _ _).drew
  have hb4 := hb3.trans (hd.mono (by omega))
  have hlen : (catM [((none : Option Addr), 0, []), (some ⟨w1.heap.size, 0, none⟩, 1, [M]), (none, 0, [])]).length = 1 := by simp [catM]
  have hcat : catM [((none : Option Addr), 0, []), (some ⟨w1.heap.size, 0, none⟩, 1, [M]), (none, 0, [])] = [M] := by simp [catM]
  have hc := concat_cells (w := w3.drew) (b := w1.heap.size + 1) (cc := 3) (ps := [(none, 0, []), (some ⟨w1.heap.size, 0, none⟩, 1, [M]), (none, 0, [])]) (by show _ < w3.heap.size; omega)
    (fun k hk => by
      have h3 : w3.drew.heap[w1.heap.size + 1]? = _ := hS
      simp only [List.length_cons, List.length_nil] at hk
      rcases (show k = 0 ∨ k = 1 ∨ k = 2 by omega) with rfl | rfl | rfl
      · rw [cell_at h3]; simp [slV]
      · rw [cell_at h3]; simp [slV]
      · rw [cell_at h3]; simp [slV])
    (fun p hp => by
      simp only [List.mem_cons, List.not_mem_nil, or_false] at hp
      rcases hp with rfl | rfl | rfl
      · exact ⟨⟨rfl, fun hn => absurd hn (by simp)⟩, fun _ => rfl⟩
      · refine ⟨⟨by rw [ceC_len], fun _ => ⟨w1.heap.size, 0, rfl, by show _ < w3.heap.size; omega, fun j u hj => ?_⟩⟩, fun h => by cases h⟩
        have h3 : w3.drew.heap[w1.heap.size]? = _ := hM3
        rw [cell_at h3, Nat.zero_add]
        simpa [ceC, ceC1] using hj
      · exact ⟨⟨rfl, fun hn => absurd hn (by simp)⟩, fun _ => rfl⟩)
    (by rw [hlen]; omega) (by simp)
  rw [hlen, hcat] at hc
  refine hc.mono ?_
  rintro e w' ⟨a, c', rfl, ho, hb⟩
  exact ⟨a, c', rfl, own_mono ho (by show _ ≤ w3.heap.size; omega), hb4.trans (hb.mono (by show _ ≤ w3.heap.size; omega))⟩

set_option maxRecDepth 100000 in
set_option maxHeartbeats 4000000 in
theorem putIn_nil {w : World} (M : CelM) :
    Calls Try.prog 81 #[.slice none 0 0, .int .i64 0, .agg #[.slice M.a M.n M.c, .int .i64 M.x, .int .i64 M.y, .bool M.k]] w fun e w' => ∃ a c', e = .returned (.slice a 1 c') ∧ w'.ownsRow w.heap.size 50 4 (.slice a 1 c') 1 (ceC [M]) ∧ Below w.heap.size w w' := by
  have al := below_al w (Obj.cells #[Value.slice M.a M.n M.c, Value.int .i64 M.x, Value.int .i64 M.y, Value.bool M.k] 50)
  have hfn := heap_alloc_new w (Obj.cells #[Value.slice M.a M.n M.c, Value.int .i64 M.x, Value.int .i64 M.y, Value.bool M.k] 50)
  have hz1 : (w.alloc (Obj.cells #[Value.slice M.a M.n M.c, Value.int .i64 M.x, Value.int .i64 M.y, Value.bool M.k] 50)).heap.size = w.heap.size + 1 := by simp
  go_enter Try.func81, Try.ntmps81
  go_upto_region 1 with fail
  generalize w.alloc (Obj.cells #[Value.slice M.a M.n M.c, Value.int .i64 M.x, Value.int .i64 M.y, Value.bool M.k] 50) = w1 at *
  have k0 : w1.drew.cell? ⟨w.heap.size, 0, none⟩ = some (.slice M.a M.n M.c) := show w1.cell? ⟨w.heap.size, 0, none⟩ = some (.slice M.a M.n M.c) by rw [cell_at hfn]; rfl
  have k1 : w1.drew.cell? ⟨w.heap.size, 1, none⟩ = some (.int .i64 M.x) := show w1.cell? ⟨w.heap.size, 1, none⟩ = some (.int .i64 M.x) by rw [cell_at hfn]; rfl
  have k2 : w1.drew.cell? ⟨w.heap.size, 2, none⟩ = some (.int .i64 M.y) := show w1.cell? ⟨w.heap.size, 2, none⟩ = some (.int .i64 M.y) by rw [cell_at hfn]; rfl
  have k3 : w1.drew.cell? ⟨w.heap.size, 3, none⟩ = some (.bool M.k) := show w1.cell? ⟨w.heap.size, 3, none⟩ = some (.bool M.k) by rw [cell_at hfn]; rfl
  have HC3 := Lib.hid (cat3n (w1 := w1) (z := w.heap.size + 1) (M := M) hz1)
  have HAL := Lib.hid al
  clear al hfn
  go_region_law (go_simp; go_at_call 98; refine (HC3.out).mono ?_; rintro e w5 ⟨a5, c5, rfl, ho5, hb5⟩; have HO5 := Lib.hid ho5; have HB5 := Lib.hid hb5; clear ho5 hb5)
  all_goals
    go_wp2_with fail
    go_ret
    exact ⟨a5, c5, rfl, own_mono HO5.out (by omega), HAL.out.trans (HB5.out.mono (by omega))⟩

theorem putIn_own {w : World} {B m c5 : Nat} {a5 : Option Addr} {qs : List CelM} (M : CelM) (j : Nat) (ho : w.ownsRow B 50 4 (.slice a5 m c5) m (ceC qs)) (hm : qs.length = m) (hj : j ≤ m) (hl : m ≤ 1000) :
    Calls Try.prog 81 #[.slice a5 m c5, .int .i64 j, .agg #[.slice M.a M.n M.c, .int .i64 M.x, .int .i64 M.y, .bool M.k]] w fun e w' => ∃ a c', e = .returned (.slice a (m + 1) c') ∧ w'.ownsRow w.heap.size 50 4 (.slice a (m + 1) c') (m + 1) (ceC (insL qs j M)) ∧ Below w.heap.size w w' := by
  have hrd := own_rd ho
  rcases ho.2 with ⟨h1, h2⟩ | ⟨g, cap, cur, h1, _, _, h3, h4, _⟩
  · simp only [Value.slice.injEq] at h1
    obtain ⟨rfl, _, rfl⟩ := h1
    subst h2
    obtain rfl : j = 0 := by omega
    obtain rfl : qs = [] := List.eq_nil_of_length_eq_zero hm
    exact putIn_nil M
  · simp only [Value.slice.injEq] at h1
    obtain ⟨rfl, _, rfl⟩ := h1
    have := putIn_of (c := c5) (ps := qs) M j (by rw [hm]; exact hrd) (by omega) (by omega) h4 (by omega)
    rw [hm] at this
    exact this

/-- Cells with one at another place. -/
def movL (ps : List CelM) (i j : Nat) : List CelM := insL (delL ps i) j (ps.getD i noneM)
/-- What Move tells. -/
def MovPost (l : List UInt8) (n : Nat) (I J : Int) (e : Int) (h : Bool) (ps : List CelM) (w : World) (e' : Ending) (w' : World) : Prop :=
  Below w.heap.size w w' ∧
  ((¬ ((0 ≤ I ∧ I < n) ∧ (0 ≤ J ∧ J < n)) ∧ e' = .returned (.tuple #[rowV none 0 0 0 false, .int .i64 5])) ∨
   (((0 ≤ I ∧ I < n) ∧ (0 ≤ J ∧ J < n)) ∧ ∃ (g' : Nat) (c' : Nat), e' = .returned (.tuple #[rowV (some ⟨g', 0, none⟩) n c' e h, .int .i64 0]) ∧ RoIn w' l (some ⟨g', 0, none⟩) (movL ps I.toNat J.toNat) ∧ n ≤ c' ∧ c' ≤ maxLen))

set_option maxRecDepth 100000 in
set_option maxHeartbeats 4000000 in
theorem rmov_of {w : World} {l : List UInt8} {g o c n : Nat} {e : Int} {h : Bool} {ps : List CelM} (I J : Int) (hr : RoIn w l (some ⟨g, o, none⟩) ps) (hnn : ps.length = n) (hn : n ≤ 100) (hc : n ≤ c) (hcm : c ≤ maxLen) :
    Calls Try.prog 47 #[rowV (some ⟨g, o, none⟩) n c e h, .int .i64 I, .int .i64 J] w (MovPost l n I J e h ps w) := by
  obtain ⟨w1, hw1⟩ : ∃ w1, w1 = allocs w [Obj.cells #[Value.slice (some ⟨g, o, none⟩) n c, Value.int .i64 e, Value.bool h] 81, Obj.cells #[Value.slice none 0 0, Value.int .i64 0, Value.bool false] 81] := ⟨_, rfl⟩
  have HB1 : Hid (Below w.heap.size w w1) := by rw [hw1]; exact Lib.hid (allocs_below _ w)
  have hzw : w1.heap.size > w.heap.size + 1 := by rw [hw1, allocs_size]; simp
  have h0 : w1.heap[w.heap.size]? = some (.cells #[Value.slice (some ⟨g, o, none⟩) n c, Value.int .i64 e, Value.bool h] 81 (0, 0)) := by rw [hw1]; exact allocs_at _ w 0 _ rfl
  have HH1 : Hid (w1.heap[w.heap.size + 1]? = some (.cells #[Value.slice none 0 0, Value.int .i64 0, Value.bool false] 81 (0, 0))) := by rw [hw1]; exact Lib.hid (allocs_at _ w 1 _ rfl)
  have hr1 := hr.below HB1.out
  have HRO := Lib.hid hr1
  have HNN := Lib.hid hnn
  have k0 : w1.cell? ⟨w.heap.size, 0, none⟩ = some (Value.slice (some ⟨g, o, none⟩) n c) := by rw [cell_at h0]; rfl
  have k1 : w1.cell? ⟨w.heap.size, 1, none⟩ = some (.int .i64 e) := by rw [cell_at h0]; rfl
  have k2 : w1.cell? ⟨w.heap.size, 2, none⟩ = some (.bool h) := by rw [cell_at h0]; rfl
  have H0 := Lib.hid h0
  clear h0 hr hr1
  unfold MovPost
  go_enter Try.func47, Try.ntmps47
  go_upto_region 1 with fail
  rw [show (w.alloc (Obj.cells #[Value.slice (some ⟨g, o, none⟩) n c, Value.int .i64 e, Value.bool h] 81)).alloc (Obj.cells #[Value.slice none 0 0, Value.int .i64 0, Value.bool false] 81) = w1 from hw1.symm]
  clear hw1
  go_wp2_with fail
  refine (rhas_of _ _ _ _ _ _).mono ?_; rintro e0 w2 ⟨rfl, hb2⟩
  have HB2 := Lib.hid (HB1.out.trans (hb2.mono (show w.heap.size ≤ w1.heap.size by omega)))
  have HRO2 := Lib.hid (HRO.out.below hb2)
  have h02 := (hb2.block _ (by omega)).trans H0.out
  have hh2 := (hb2.block _ (by omega)).trans HH1.out
  have H02 := Lib.hid h02
  have HH2 := Lib.hid hh2
  have hz2 := hb2.size
  clear k0 k1 k2 HRO H0 HH1 HB1
  have k0 : w2.cell? ⟨w.heap.size, 0, none⟩ = some (Value.slice (some ⟨g, o, none⟩) n c) := by rw [cell_at h02]; rfl
  have k1 : w2.cell? ⟨w.heap.size, 1, none⟩ = some (.int .i64 e) := by rw [cell_at h02]; rfl
  have k2 : w2.cell? ⟨w.heap.size, 2, none⟩ = some (.bool h) := by rw [cell_at h02]; rfl
  by_cases hI : 0 ≤ I ∧ I < n
  · rw [decide_eq_true hI]
    obtain ⟨hI1, hI2⟩ := hI
    obtain ⟨i, rfl⟩ : ∃ i : Nat, I = i := ⟨I.toNat, by omega⟩
    clear h02 hh2 hb2
    go_wp2_with fail
    refine (rhas_of _ _ _ _ _ _).mono ?_; rintro e0 w3 ⟨rfl, hb3⟩
    have HB3 := Lib.hid (HB2.out.trans (hb3.mono (show w.heap.size ≤ w2.heap.size by omega)))
    have HRO3 := Lib.hid (HRO2.out.below hb3)
    have h03 := (hb3.block _ (by omega)).trans H02.out
    have hh3 := (hb3.block _ (by omega)).trans HH2.out
    have H03 := Lib.hid h03
    have HH3 := Lib.hid hh3
    have hz3 := hb3.size
    clear k0 k1 k2 HRO2 H02 HH2 HB2
    have k0 : w3.cell? ⟨w.heap.size, 0, none⟩ = some (Value.slice (some ⟨g, o, none⟩) n c) := by rw [cell_at h03]; rfl
    have k1 : w3.cell? ⟨w.heap.size, 1, none⟩ = some (.int .i64 e) := by rw [cell_at h03]; rfl
    have k2 : w3.cell? ⟨w.heap.size, 2, none⟩ = some (.bool h) := by rw [cell_at h03]; rfl
    by_cases hJ : 0 ≤ J ∧ J < n
    · rw [decide_eq_true hJ]
      obtain ⟨hJ1, hJ2⟩ := hJ
      obtain ⟨j, rfl⟩ : ∃ j : Nat, J = j := ⟨J.toNat, by omega⟩
      have hip : i < ps.length := by rw [HNN.out]; omega
      obtain ⟨g0, o0, hge, hg, x0, x1, x2, x3⟩ := rd_cell HRO3.out.rd hip
      simp only [Option.some.injEq, Addr.mk.injEq, and_true] at hge
      obtain ⟨rfl, rfl⟩ := hge
      have HME : Hid (ps.getD i noneM = ps[i]) := Lib.hid (by rw [List.getD_eq_getElem?_getD, List.getElem?_eq_getElem hip]; rfl)
      have HMI := Lib.hid (HRO3.out.ces ps[i] (List.getElem_mem hip))
      generalize ps[i] = M at *
      have HPI : Hid (∀ w', Below w3.heap.size w3 w' → Calls Try.prog 82 #[.slice (some ⟨g, o, none⟩) n c, .int .i64 i] w' fun e w'' => ∃ a c', e = .returned (.slice a (n - 1) c') ∧ w''.ownsRow w'.heap.size 50 4 (.slice a (n - 1) c') (n - 1) (ceC (delL ps i)) ∧ Below w'.heap.size w' w'') := by
        refine Lib.hid (fun w' hb => ?_)
        have := takenOut_of (c := c) i ((HRO3.out.below hb).rd) (by rw [HNN.out]; omega) (by rw [HNN.out]; exact hc) hcm hip
        rw [HNN.out] at this
        exact this
      have hil0 : (delL ps i).length = n - 1 := by rw [delL_len hip, HNN.out]
      have HIL0 := Lib.hid hil0
      clear hip hil0 h03 hh3 hb3
      go_upto_region 3 with fail
      have hb0 : Below w3.heap.size w3 w3.drew := (Below.refl _ _).drew
      have m0 : w3.drew.cell? ⟨w.heap.size, 0, none⟩ = some (Value.slice (some ⟨g, o, none⟩) n c) := k0
      have m1 : w3.drew.cell? ⟨w.heap.size, 1, none⟩ = some (.int .i64 e) := k1
      have m2 : w3.drew.cell? ⟨w.heap.size, 2, none⟩ = some (.bool h) := k2
      have t0 : w3.drew.cell? ⟨g, o + i * 4, none⟩ = some (.slice M.a M.n M.c) := x0
      have t1 : w3.drew.cell? ⟨g, o + i * 4 + 1, none⟩ = some (.int .i64 M.x) := x1
      have t2 : w3.drew.cell? ⟨g, o + i * 4 + 2, none⟩ = some (.int .i64 M.y) := x2
      have t3 : w3.drew.cell? ⟨g, o + i * 4 + 3, none⟩ = some (.bool M.k) := x3
      have hn1 : n - 1 + 1 = n := by omega
      have HN1 := Lib.hid hn1
      have hjn : j ≤ n - 1 := by omega
      have hnl : n - 1 ≤ 1000 := by omega
      clear k0 k1 k2 x0 x1 x2 x3 hn1
      go_region_law (first
        | (go_simp; go_at_call 82; refine (HPI.out _ hb0).mono ?_; rintro e' w5 ⟨a5, c5, rfl, ho5, hb5⟩; have hs5 := hb0.trans (hb5.mono (Nat.le_refl _)); have h05 := (hs5.block _ (by omega)).trans H03.out; have n0 : w5.cell? ⟨w.heap.size, 0, none⟩ = some (Value.slice (some ⟨g, o, none⟩) n c) := (by rw [cell_at h05]; rfl); have n1 : w5.cell? ⟨w.heap.size, 1, none⟩ = some (.int .i64 e) := (by rw [cell_at h05]; rfl); have n2 : w5.cell? ⟨w.heap.size, 2, none⟩ = some (.bool h) := (by rw [cell_at h05]; rfl); have v0 := (hb5.cell (p := ⟨g, o + i * 4, none⟩) hg).trans t0; have v1 := (hb5.cell (p := ⟨g, o + i * 4 + 1, none⟩) hg).trans t1; have v2 := (hb5.cell (p := ⟨g, o + i * 4 + 2, none⟩) hg).trans t2; have v3 := (hb5.cell (p := ⟨g, o + i * 4 + 3, none⟩) hg).trans t3; have HO5 := Lib.hid ho5; have HS5 := Lib.hid hs5; clear ho5 hb5 h05)
        | (go_simp; go_at_call 81; refine (putIn_own M j HO5.out HIL0.out hjn hnl).mono ?_; rintro e' w6 ⟨a6, c6, rfl, ho6, hb6⟩; rw [HN1.out] at ho6 ⊢; have hs6 := HS5.out.trans (hb6.mono HS5.out.size); have h06 := (hs6.block _ (by omega)).trans H03.out; have u0 : w6.cell? ⟨w.heap.size, 0, none⟩ = some (Value.slice (some ⟨g, o, none⟩) n c) := (by rw [cell_at h06]; rfl); have u1 : w6.cell? ⟨w.heap.size, 1, none⟩ = some (.int .i64 e) := (by rw [cell_at h06]; rfl); have u2 : w6.cell? ⟨w.heap.size, 2, none⟩ = some (.bool h) := (by rw [cell_at h06]; rfl); have HO6 := Lib.hid ho6; have HS6 := Lib.hid hs6; clear ho6 hb6 h06)
        | (go_simp; go_at_call 80; refine (rwith_of _ _ _ _ _ _ _ _).mono ?_; rintro e' w7 ⟨rfl, hb7⟩; have hs7 := HS6.out.trans (hb7.mono HS6.out.size); have hh7 := (hs7.block _ (by omega)).trans HH3.out; have zz := (fun i => unfrozen hh7 i); have r0 : w7.cell? ⟨w.heap.size + 1, 0, none⟩ = some (.slice none 0 0) := (by rw [cell_at hh7]; rfl); have r1 : w7.cell? ⟨w.heap.size + 1, 1, none⟩ = some (.int .i64 0) := (by rw [cell_at hh7]; rfl); have r2 : w7.cell? ⟨w.heap.size + 1, 2, none⟩ = some (.bool false) := (by rw [cell_at hh7]; rfl); have HO7 := Lib.hid (own_below HO6.out hb7); have HS7 := Lib.hid hs7; have HH7 := Lib.hid hh7; clear hb7 hh7))
      all_goals
        have ho7 : w7.ownsRow w3.heap.size 50 4 (.slice a6 n c6) n (ceC (movL ps i j)) := by
          unfold movL
          rw [HME.out]
          exact own_mono HO7.out HS5.out.size
        obtain ⟨g5, rfl, hc5, hc6⟩ : ∃ g5, a6 = some ⟨g5, 0, none⟩ ∧ n ≤ c6 ∧ c6 ≤ maxLen := by
          rcases ho7.2 with ⟨_, h2⟩ | ⟨g5, cap, cur, h1, _, _, h3, h4, _⟩
          · omega
          · simp only [Value.slice.injEq] at h1
            obtain ⟨rfl, _, rfl⟩ := h1
            exact ⟨g5, rfl, h3, h4⟩
        have hil : (movL ps i j).length = n := by unfold movL; rw [insL_len (by rw [HIL0.out]; omega), HIL0.out, HN1.out]
        have hro : RoIn w7 l (some ⟨g5, 0, none⟩) (movL ps i j) := own_ro (c := c6) (by rw [hil]; exact ho7) (fun q hq => by
          unfold movL at hq
          rw [HME.out] at hq
          rcases insL_mem hq with hq | rfl
          · exact (HRO3.out.below HS7.out).ces q (delL_mem hq)
          · exact HMI.out.below HS7.out)
        have HR7 := Lib.hid hro
        clear ho7 hro
        go_wp2_with fail
        have hro := HR7.out.set3 (u0 := .slice (some ⟨g5, 0, none⟩) n c6) (u1 := .int .i64 e) (u2 := .bool h) HH7.out (by decide) (by decide)
        have hs := set3_at HH7.out (.slice (some ⟨g5, 0, none⟩) n c6) (.int .i64 e) (.bool h)
        have hB := set3_below (HB3.out.trans (HS7.out.mono (show w.heap.size ≤ w3.heap.size by omega))) (show w.heap.size ≤ w.heap.size + 1 by omega) (.slice (some ⟨g5, 0, none⟩) n c6) (.int .i64 e) (.bool h)
        have q0 : (set3 w7 (w.heap.size + 1) (.slice (some ⟨g5, 0, none⟩) n c6) (.int .i64 e) (.bool h)).cell? ⟨w.heap.size + 1, 0, none⟩ = some (.slice (some ⟨g5, 0, none⟩) n c6) := by rw [cell_at hs]; rfl
        have q1 : (set3 w7 (w.heap.size + 1) (.slice (some ⟨g5, 0, none⟩) n c6) (.int .i64 e) (.bool h)).cell? ⟨w.heap.size + 1, 1, none⟩ = some (.int .i64 e) := by rw [cell_at hs]; rfl
        have q2 : (set3 w7 (w.heap.size + 1) (.slice (some ⟨g5, 0, none⟩) n c6) (.int .i64 e) (.bool h)).cell? ⟨w.heap.size + 1, 2, none⟩ = some (.bool h) := by rw [cell_at hs]; rfl
        unfold set3 at hro hB q0 q1 q2
        exact bodyPost_ret (v := .tuple #[rowV (some ⟨g5, 0, none⟩) n c6 e h, .int .i64 0]) (by simp [results, Try.results47, go_sem, q0, q1, q2]) rfl ⟨hB, .inr ⟨⟨⟨hI1, hI2⟩, ⟨hJ1, hJ2⟩⟩, g5, c6, rfl, hro, hc5, hc6⟩⟩
    · have HIN := Lib.hid hJ
      rw [decide_eq_false hJ]
      have zz := fun i => unfrozen hh3 i
      have r0 : w3.cell? ⟨w.heap.size + 1, 0, none⟩ = some (.slice none 0 0) := by rw [cell_at hh3]; rfl
      have r1 : w3.cell? ⟨w.heap.size + 1, 1, none⟩ = some (.int .i64 0) := by rw [cell_at hh3]; rfl
      have r2 : w3.cell? ⟨w.heap.size + 1, 2, none⟩ = some (.bool false) := by rw [cell_at hh3]; rfl
      clear h03 hh3 hb3
      go_wp2_with fail
      have hs := set3_at HH3.out (.slice none 0 0) (.int .i64 0) (.bool false)
      have hB := set3_below HB3.out (show w.heap.size ≤ w.heap.size + 1 by omega) (.slice none 0 0) (.int .i64 0) (.bool false)
      have q0 : (set3 w3 (w.heap.size + 1) (.slice none 0 0) (.int .i64 0) (.bool false)).cell? ⟨w.heap.size + 1, 0, none⟩ = some (.slice none 0 0) := by rw [cell_at hs]; rfl
      have q1 : (set3 w3 (w.heap.size + 1) (.slice none 0 0) (.int .i64 0) (.bool false)).cell? ⟨w.heap.size + 1, 1, none⟩ = some (.int .i64 0) := by rw [cell_at hs]; rfl
      have q2 : (set3 w3 (w.heap.size + 1) (.slice none 0 0) (.int .i64 0) (.bool false)).cell? ⟨w.heap.size + 1, 2, none⟩ = some (.bool false) := by rw [cell_at hs]; rfl
      unfold set3 at hB q0 q1 q2
      exact bodyPost_ret (v := .tuple #[rowV none 0 0 0 false, .int .i64 5]) (by simp [results, Try.results47, go_sem, q0, q1, q2]) rfl ⟨hB, (by first | exact .inl ⟨fun hh => HIN.out hh.2, rfl⟩ | (left; refine ⟨?_, rfl⟩; have := HIN.out; omega) | (have := HIN.out; omega))⟩
  · have HIN := Lib.hid hI
    rw [decide_eq_false hI]
    have zz := fun i => unfrozen hh2 i
    have r0 : w2.cell? ⟨w.heap.size + 1, 0, none⟩ = some (.slice none 0 0) := by rw [cell_at hh2]; rfl
    have r1 : w2.cell? ⟨w.heap.size + 1, 1, none⟩ = some (.int .i64 0) := by rw [cell_at hh2]; rfl
    have r2 : w2.cell? ⟨w.heap.size + 1, 2, none⟩ = some (.bool false) := by rw [cell_at hh2]; rfl
    clear h02 hh2 hb2
    go_wp2_with fail
    have hs := set3_at HH2.out (.slice none 0 0) (.int .i64 0) (.bool false)
    have hB := set3_below HB2.out (show w.heap.size ≤ w.heap.size + 1 by omega) (.slice none 0 0) (.int .i64 0) (.bool false)
    have q0 : (set3 w2 (w.heap.size + 1) (.slice none 0 0) (.int .i64 0) (.bool false)).cell? ⟨w.heap.size + 1, 0, none⟩ = some (.slice none 0 0) := by rw [cell_at hs]; rfl
    have q1 : (set3 w2 (w.heap.size + 1) (.slice none 0 0) (.int .i64 0) (.bool false)).cell? ⟨w.heap.size + 1, 1, none⟩ = some (.int .i64 0) := by rw [cell_at hs]; rfl
    have q2 : (set3 w2 (w.heap.size + 1) (.slice none 0 0) (.int .i64 0) (.bool false)).cell? ⟨w.heap.size + 1, 2, none⟩ = some (.bool false) := by rw [cell_at hs]; rfl
    unfold set3 at hB q0 q1 q2
    exact bodyPost_ret (v := .tuple #[rowV none 0 0 0 false, .int .i64 5]) (by simp [results, Try.results47, go_sem, q0, q1, q2]) rfl ⟨hB, (by first | exact .inl ⟨fun hh => HIN.out hh.1, rfl⟩ | (left; refine ⟨?_, rfl⟩; have := HIN.out; omega) | (have := HIN.out; omega))⟩

theorem insL_at {ps : List CelM} {i : Nat} (hi : i ≤ ps.length) (M : CelM) : (insL ps i M).getD i noneM = M := by
  have hl : (ps.take i).length = i := by rw [List.length_take]; omega
  unfold insL
  rw [List.getD_eq_getElem?_getD, List.getElem?_append_right (by omega), hl, Nat.sub_self]
  rfl
theorem insL_delL {ps : List CelM} {i : Nat} (hi : i < ps.length) : insL (delL ps i) i (ps.getD i noneM) = ps := by
  have hl : (ps.take i).length = i := by rw [List.length_take]; omega
  have hg : ps.getD i noneM = ps[i] := by rw [List.getD_eq_getElem?_getD, List.getElem?_eq_getElem hi]; rfl
  unfold insL delL
  rw [hg, List.take_append_of_le_length (by omega), List.take_of_length_le (l := ps.take i) (by omega), List.drop_append, List.drop_eq_nil_of_le (by omega), hl, List.nil_append, Nat.sub_self, List.drop_zero]
  rw [← List.drop_eq_getElem_cons hi, List.take_append_drop]
theorem mov_back {ps : List CelM} {i j : Nat} (hi : i < ps.length) (hj : j < ps.length) : movL (movL ps i j) j i = ps := by
  have hl := delL_len hi
  unfold movL
  rw [insL_at (by omega), del_ins (by omega), insL_delL hi]

/-- A cell as the program has it. -/
abbrev celV (M : CelM) : Value := .agg #[.slice M.a M.n M.c, .int .i64 M.x, .int .i64 M.y, .bool M.k]
set_option maxRecDepth 100000 in
set_option maxHeartbeats 2000000 in
theorem clos_same {w : World} {B B1 B2 p pb : Nat} {l : List UInt8} {m1 m2 : CelM} (hA : Ar w B p l) (hl : l.length ≤ 16384) (h1 : CeIn w B1 l m1) (h2 : CeIn w B2 l m2) (hp : w.cell? ⟨pb, 0, none⟩ = some (.pointer (some ⟨p, 0, none⟩))) :
    Calls Try.prog 84 #[.agg #[.slice m1.a m1.n m1.c, .int .i64 m1.x, .int .i64 m1.y, .bool m1.k], .agg #[.slice m2.a m2.n m2.c, .int .i64 m2.x, .int .i64 m2.y, .bool m2.k], .pointer (some ⟨pb, 0, none⟩)] w fun e w' => e = .returned (.bool (sameP l m1 m2)) ∧ Below w.heap.size w w' := by
  have hpb : pb < w.heap.size := World.block_lt_of_cell? _ _ hp
  obtain ⟨w1, hw1⟩ : ∃ w1, w1 = allocs w [Obj.cells #[Value.slice m1.a m1.n m1.c, Value.int .i64 m1.x, Value.int .i64 m1.y, Value.bool m1.k] 50, Obj.cells #[Value.slice m2.a m2.n m2.c, Value.int .i64 m2.x, Value.int .i64 m2.y, Value.bool m2.k] 50] := ⟨_, rfl⟩
  have HB1 : Hid (Below w.heap.size w w1) := by rw [hw1]; exact Lib.hid (allocs_below _ w)
  have h0 : w1.heap[w.heap.size]? = some (Obj.cells #[Value.slice m1.a m1.n m1.c, Value.int .i64 m1.x, Value.int .i64 m1.y, Value.bool m1.k] 50) := by rw [hw1]; exact allocs_at _ w 0 _ rfl
  have hh1 : w1.heap[w.heap.size + 1]? = some (Obj.cells #[Value.slice m2.a m2.n m2.c, Value.int .i64 m2.x, Value.int .i64 m2.y, Value.bool m2.k] 50) := by rw [hw1]; exact allocs_at _ w 1 _ rfl
  have kp := (HB1.out.cell (p := ⟨pb, 0, none⟩) hpb).trans hp
  have k0 : w1.cell? ⟨w.heap.size, 0, none⟩ = some (.slice m1.a m1.n m1.c) := by rw [cell_at h0]; rfl
  have k1 : w1.cell? ⟨w.heap.size, 1, none⟩ = some (.int .i64 m1.x) := by rw [cell_at h0]; rfl
  have k2 : w1.cell? ⟨w.heap.size, 2, none⟩ = some (.int .i64 m1.y) := by rw [cell_at h0]; rfl
  have k3 : w1.cell? ⟨w.heap.size, 3, none⟩ = some (.bool m1.k) := by rw [cell_at h0]; rfl
  have j0 : w1.cell? ⟨w.heap.size + 1, 0, none⟩ = some (.slice m2.a m2.n m2.c) := by rw [cell_at hh1]; rfl
  have j1 : w1.cell? ⟨w.heap.size + 1, 1, none⟩ = some (.int .i64 m2.x) := by rw [cell_at hh1]; rfl
  have j2 : w1.cell? ⟨w.heap.size + 1, 2, none⟩ = some (.int .i64 m2.y) := by rw [cell_at hh1]; rfl
  have j3 : w1.cell? ⟨w.heap.size + 1, 3, none⟩ = some (.bool m2.k) := by rw [cell_at hh1]; rfl
  have HS := Lib.hid (csame_of (hA.below HB1.out) hl (h1.below HB1.out) (h2.below HB1.out))
  have hz := HB1.out.size
  clear h0 hh1 hA h1 h2 hp
  go_enter Try.func84, Try.ntmps84
  go_upto_region 1 with fail
  rw [show (w.alloc (Obj.cells #[Value.slice m1.a m1.n m1.c, Value.int .i64 m1.x, Value.int .i64 m1.y, Value.bool m1.k] 50)).alloc (Obj.cells #[Value.slice m2.a m2.n m2.c, Value.int .i64 m2.x, Value.int .i64 m2.y, Value.bool m2.k] 50) = w1 from hw1.symm]
  clear hw1
  go_wp2_with fail
  refine HS.out.mono ?_; rintro e w2 ⟨rfl, hb2⟩
  have HB2 := Lib.hid (HB1.out.trans (hb2.mono hz))
  clear hb2
  go_wp2_with fail
  go_ret
  exact ⟨rfl, HB2.out⟩

/-- Are two rows' cells the same? -/
def eqR (l : List UInt8) (ps qs : List CelM) : Prop := ps.length = qs.length ∧ ∀ k (h1 : k < ps.length) (h2 : k < qs.length), sameP l ps[k] qs[k] = true
/-- What EqualFunc tells of two rows of cells. -/
def EqPost (l : List UInt8) (ps qs : List CelM) (w : World) (e : Ending) (w' : World) : Prop := ∃ b : Bool, e = .returned (.bool b) ∧ Hid (b = true ↔ eqR l ps qs) ∧ Below w.heap.size w w'
def EqJ (l : List UInt8) (ps qs : List CelM) (w : World) (v17 : Value) (wr : World) : Prop := ∃ k : Nat, v17 = .int .i64 k ∧ k ≤ ps.length ∧ (∀ j (h1 : j < ps.length) (h2 : j < qs.length), j < k → sameP l ps[j] qs[j] = true) ∧ Below w.heap.size w wr

set_option maxRecDepth 100000 in
set_option maxHeartbeats 4000000 in
theorem eqf_of {w : World} {B p pb : Nat} {l : List UInt8} {a1 a2 : Option Addr} {c1 c2 : Nat} {ps qs : List CelM} (hA : Ar w B p l) (hl : l.length ≤ 16384) (h1 : RoIn w l a1 ps) (h2 : RoIn w l a2 qs) (hn1 : ps.length ≤ 1000) (hn2 : qs.length ≤ 1000) (hp : w.cell? ⟨pb, 0, none⟩ = some (.pointer (some ⟨p, 0, none⟩))) :
    Calls Try.prog 83 #[.slice a1 ps.length c1, .slice a2 qs.length c2, .func (.func 84) #[] #[.pointer (some ⟨pb, 0, none⟩)]] w (EqPost l ps qs w) := by
  have hpb : pb < w.heap.size := World.block_lt_of_cell? _ _ hp
  have HAw := Lib.hid hA
  have HR1 := Lib.hid h1
  have HR2 := Lib.hid h2
  have HP := Lib.hid hp
  clear hA h1 h2 hp
  unfold EqPost
  by_cases hne : ps.length = qs.length
  · obtain ⟨n, hn⟩ : ∃ n, ps.length = n := ⟨_, rfl⟩
    have HN1 := Lib.hid hn
    have hn' : qs.length = n := by rw [← hne]; exact hn
    have HN2 := Lib.hid hn'
    have HNE := Lib.hid hne
    rw [hn, hn']
    rw [hn] at hn1
    clear hne hn hn' hn2
    have dn : ((n : Int) != (n : Int)) = false := by simp
    go_enter Try.func83, Try.ntmps83
    go_wp2_with fail
    go_loopw [17] (fun v17 wr => EqJ l ps qs w v17 wr) (fun v17 _ => n - (intOf v17).toNat)
    case atStart => exact ⟨0, rfl, by omega, fun j _ _ h => by omega, Below.refl _ _⟩
    case round =>
      obtain ⟨k, rfl, hk, hall, hb⟩ := hrel
      have HB := Lib.hid hb
      have HALL := Lib.hid hall
      have hzr := hb.size
      rw [HN1.out] at hk
      clear hall
      by_cases hlt : k < n
      · have dk : decide (k < n) = true := decide_eq_true hlt
        have hk1 : k < ps.length := by rw [HN1.out]; exact hlt
        have hk2 : k < qs.length := by rw [HN2.out]; exact hlt
        obtain ⟨g, o, rfl, hg, x0, x1, x2, x3⟩ := rd_cell HR1.out.rd hk1
        obtain ⟨g2, o2, rfl, hg2, y0, y1, y2, y3⟩ := rd_cell HR2.out.rd hk2
        have hM := (HR1.out.ces ps[k] (List.getElem_mem hk1)).below hb
        have hQ := (HR2.out.ces qs[k] (List.getElem_mem hk2)).below hb
        have HST : Hid (sameP l ps[k] qs[k] = true → ∀ j (h1 : j < ps.length) (h2 : j < qs.length), j < k + 1 → sameP l ps[j] qs[j] = true) := Lib.hid (fun hs j h1 h2 hj => by
          rcases Nat.lt_or_ge j k with h | h
          · exact HALL.out j h1 h2 h
          · obtain rfl : j = k := by omega
            exact hs)
        have HSF : Hid (sameP l ps[k] qs[k] = false → ¬ ∀ j (h1 : j < ps.length) (h2 : j < qs.length), sameP l ps[j] qs[j] = true) := Lib.hid (fun hs h => by rw [h k hk1 hk2] at hs; cases hs)
        generalize ps[k] = M at *
        generalize qs[k] = Q at *
        have z0 := (hb.cell (p := ⟨g, o + k * 4, none⟩) hg).trans x0
        have z1 := (hb.cell (p := ⟨g, o + k * 4 + 1, none⟩) hg).trans x1
        have z2 := (hb.cell (p := ⟨g, o + k * 4 + 2, none⟩) hg).trans x2
        have z3 := (hb.cell (p := ⟨g, o + k * 4 + 3, none⟩) hg).trans x3
        have u0 := (hb.cell (p := ⟨g2, o2 + k * 4, none⟩) hg2).trans y0
        have u1 := (hb.cell (p := ⟨g2, o2 + k * 4 + 1, none⟩) hg2).trans y1
        have u2 := (hb.cell (p := ⟨g2, o2 + k * 4 + 2, none⟩) hg2).trans y2
        have u3 := (hb.cell (p := ⟨g2, o2 + k * 4 + 3, none⟩) hg2).trans y3
        have e0 : (0 : Int) ≤ (k : Int) := by omega
        have e1 : (k : Int) < (n : Int) := by omega
        clear x0 x1 x2 x3 y0 y1 y2 y3
        have al := below_al wr (Obj.cells #[Value.slice M.a M.n M.c, Value.int .i64 M.x, Value.int .i64 M.y, Value.bool M.k] 50)
        have hf1 := heap_alloc_new wr (Obj.cells #[Value.slice M.a M.n M.c, Value.int .i64 M.x, Value.int .i64 M.y, Value.bool M.k] 50)
        have hzA : wr.heap.size < (wr.alloc (Obj.cells #[Value.slice M.a M.n M.c, Value.int .i64 M.x, Value.int .i64 M.y, Value.bool M.k] 50)).heap.size := by simp
        have hg2r : g2 < wr.heap.size := by omega
        go_upto_region 6 with fail
        generalize wr.alloc (Obj.cells #[Value.slice M.a M.n M.c, Value.int .i64 M.x, Value.int .i64 M.y, Value.bool M.k] 50) = wA at *
        have v0 := (al.cell (p := ⟨g2, o2 + k * 4, none⟩) hg2r).trans u0
        have v1 := (al.cell (p := ⟨g2, o2 + k * 4 + 1, none⟩) hg2r).trans u1
        have v2 := (al.cell (p := ⟨g2, o2 + k * 4 + 2, none⟩) hg2r).trans u2
        have v3 := (al.cell (p := ⟨g2, o2 + k * 4 + 3, none⟩) hg2r).trans u3
        clear z0 z1 z2 z3 u0 u1 u2 u3
        have al2 := below_al wA (Obj.cells #[Value.slice Q.a Q.n Q.c, Value.int .i64 Q.x, Value.int .i64 Q.y, Value.bool Q.k] 50)
        have hf2 := heap_alloc_new wA (Obj.cells #[Value.slice Q.a Q.n Q.c, Value.int .i64 Q.x, Value.int .i64 Q.y, Value.bool Q.k] 50)
        go_upto_region 7 with fail
        have hf1B := (al2.block wr.heap.size hzA).trans hf1
        generalize wA.alloc (Obj.cells #[Value.slice Q.a Q.n Q.c, Value.int .i64 Q.x, Value.int .i64 Q.y, Value.bool Q.k] 50) = wB at *
        have hbB := hb.trans ((al.trans (al2.mono (by omega))).mono hzr)
        have HBB := Lib.hid hbB
        have HCS := Lib.hid (clos_same (HAw.out.below hbB) hl (hM.below (al.trans (al2.mono (by omega)))) (hQ.below (al.trans (al2.mono (by omega)))) ((hbB.cell (p := ⟨pb, 0, none⟩) hpb).trans HP.out))
        have r0 : wB.cell? ⟨wr.heap.size, 0, none⟩ = some (.slice M.a M.n M.c) := by rw [cell_at hf1B]; rfl
        have r1 : wB.cell? ⟨wr.heap.size, 1, none⟩ = some (.int .i64 M.x) := by rw [cell_at hf1B]; rfl
        have r2 : wB.cell? ⟨wr.heap.size, 2, none⟩ = some (.int .i64 M.y) := by rw [cell_at hf1B]; rfl
        have r3 : wB.cell? ⟨wr.heap.size, 3, none⟩ = some (.bool M.k) := by rw [cell_at hf1B]; rfl
        have s0 : wB.cell? ⟨wA.heap.size, 0, none⟩ = some (.slice Q.a Q.n Q.c) := by rw [cell_at hf2]; rfl
        have s1 : wB.cell? ⟨wA.heap.size, 1, none⟩ = some (.int .i64 Q.x) := by rw [cell_at hf2]; rfl
        have s2 : wB.cell? ⟨wA.heap.size, 2, none⟩ = some (.int .i64 Q.y) := by rw [cell_at hf2]; rfl
        have s3 : wB.cell? ⟨wA.heap.size, 3, none⟩ = some (.bool Q.k) := by rw [cell_at hf2]; rfl
        clear al al2 hf1 hf2 hf1B hM hQ hb hbB v0 v1 v2 v3
        go_wp2_with fail
        refine HCS.out.mono ?_; rintro e w2 ⟨rfl, hb2⟩
        have HB2 := Lib.hid (HBB.out.trans (hb2.mono HBB.out.size))
        clear hb2 HCS r0 r1 r2 r3 s0 s1 s2 s3
        cases hsp : sameP l M Q with
        | true =>
          have HS1 := Lib.hid (HST.out hsp)
          go_wp2_with fail
          go_roundw
          case rel => exact ⟨k + 1, by simp, by rw [HN1.out]; omega, HS1.out, HB2.out⟩
          case measure => simp [intOf]; omega
        | false =>
          have HS1 := Lib.hid (HSF.out hsp)
          go_wp2_with fail
          go_ret
          exact ⟨false, rfl, (by first | exact Lib.hid ⟨fun h => (by cases h), fun h => absurd h.2 HS1.out⟩ | exact Lib.hid (fun h => absurd h.2 HS1.out)), HB2.out⟩
      · have dk : decide (k < n) = false := decide_eq_false hlt
        have hkn : k = n := by omega
        clear hb
        go_wp2_with fail
        go_ret
        exact ⟨true, rfl, Lib.hid ⟨fun _ => ⟨HNE.out, fun j h1 h2 => HALL.out j h1 h2 (by rw [hkn, ← HN1.out]; exact h1)⟩, fun _ => rfl⟩, HB.out⟩
  · have dn : ((ps.length : Int) != (qs.length : Int)) = true := by simp; omega
    have HNE := Lib.hid hne
    clear hne
    go_enter Try.func83, Try.ntmps83
    go_wp2_with fail
    go_ret
    exact ⟨false, rfl, (by first | exact Lib.hid ⟨fun h => (by cases h), fun h => absurd h.1 HNE.out⟩ | exact Lib.hid (fun h => absurd h.1 HNE.out)), Below.refl _ _⟩

theorem eqR_self (l : List UInt8) (ps : List CelM) : eqR l ps ps := ⟨rfl, fun k h1 h2 => sameP_self l _⟩
set_option maxRecDepth 100000 in
set_option maxHeartbeats 4000000 in
theorem rsame_of {w : World} {B p : Nat} {l : List UInt8} {a1 a2 : Option Addr} {c1 c2 : Nat} {e1 e2 : Int} {b1 b2 : Bool} {ps qs : List CelM} (hA : Ar w B p l) (hl : l.length ≤ 16384) (h1 : RoIn w l a1 ps) (h2 : RoIn w l a2 qs) (hn1 : ps.length ≤ 1000) (hn2 : qs.length ≤ 1000) (hee : e1 = e2) (hbb : b1 = b2) :
    Calls Try.prog 46 #[.pointer (some ⟨p, 0, none⟩), rowV a1 ps.length c1 e1 b1, rowV a2 qs.length c2 e2 b2] w (EqPost l ps qs w) := by
  subst hee hbb
  obtain ⟨w1, hw1⟩ : ∃ w1, w1 = allocs w [Obj.cells #[Value.pointer (some ⟨p, 0, none⟩)] 23, Obj.cells #[Value.slice a1 ps.length c1, Value.int .i64 e1, Value.bool b1] 81, Obj.cells #[Value.slice a2 qs.length c2, Value.int .i64 e1, Value.bool b1] 81] := ⟨_, rfl⟩
  have HB1 : Hid (Below w.heap.size w w1) := by rw [hw1]; exact Lib.hid (allocs_below _ w)
  have hq : w1.heap[w.heap.size]? = some (Obj.cells #[Value.pointer (some ⟨p, 0, none⟩)] 23) := by rw [hw1]; exact allocs_at _ w 0 _ rfl
  have h0 : w1.heap[w.heap.size + 1]? = some (Obj.cells #[Value.slice a1 ps.length c1, Value.int .i64 e1, Value.bool b1] 81) := by rw [hw1]; exact allocs_at _ w 1 _ rfl
  have hh1 : w1.heap[w.heap.size + 2]? = some (Obj.cells #[Value.slice a2 qs.length c2, Value.int .i64 e1, Value.bool b1] 81) := by rw [hw1]; exact allocs_at _ w 2 _ rfl
  have kp : w1.cell? ⟨w.heap.size, 0, none⟩ = some (.pointer (some ⟨p, 0, none⟩)) := by rw [cell_at hq]; rfl
  have k0 : w1.cell? ⟨w.heap.size + 1, 0, none⟩ = some (.slice a1 ps.length c1) := by rw [cell_at h0]; rfl
  have k1 : w1.cell? ⟨w.heap.size + 1, 1, none⟩ = some (.int .i64 e1) := by rw [cell_at h0]; rfl
  have k2 : w1.cell? ⟨w.heap.size + 1, 2, none⟩ = some (.bool b1) := by rw [cell_at h0]; rfl
  have j0 : w1.cell? ⟨w.heap.size + 1 + 1, 0, none⟩ = some (.slice a2 qs.length c2) := by rw [cell_at hh1]; rfl
  have j1 : w1.cell? ⟨w.heap.size + 1 + 1, 1, none⟩ = some (.int .i64 e1) := by rw [cell_at hh1]; rfl
  have j2 : w1.cell? ⟨w.heap.size + 1 + 1, 2, none⟩ = some (.bool b1) := by rw [cell_at hh1]; rfl
  have HS := Lib.hid (eqf_of (c1 := c1) (c2 := c2) (hA.below HB1.out) hl (h1.below HB1.out) (h2.below HB1.out) hn1 hn2 kp)
  have hz := HB1.out.size
  have de : (e1 != e1) = false := by simp
  have db : (b1 != b1) = false := by simp
  obtain ⟨n1, hx1⟩ : ∃ n1, ps.length = n1 := ⟨_, rfl⟩
  obtain ⟨n2, hx2⟩ : ∃ n2, qs.length = n2 := ⟨_, rfl⟩
  rw [hx1, hx2] at HS hw1
  rw [hx1] at k0
  rw [hx2] at j0
  rw [hx1, hx2]
  clear h0 hh1 hq hA h1 h2 hx1 hx2 hn1 hn2
  go_enter Try.func46, Try.ntmps46
  go_upto_region 1 with fail
  rw [show ((w.alloc (Obj.cells #[Value.pointer (some ⟨p, 0, none⟩)] 23)).alloc (Obj.cells #[Value.slice a1 n1 c1, Value.int .i64 e1, Value.bool b1] 81)).alloc (Obj.cells #[Value.slice a2 n2 c2, Value.int .i64 e1, Value.bool b1] 81) = w1 from hw1.symm]
  clear hw1
  go_wp2_with fail
  refine HS.out.mono ?_; rintro e w2 ⟨b, rfl, hbq, hb2⟩
  have HB2 := Lib.hid (HB1.out.trans (hb2.mono hz))
  clear hb2
  go_wp2_with fail
  go_ret
  exact ⟨b, rfl, hbq, HB2.out⟩

end Go.Proofs.Ytmdifcgnmkpecaa
