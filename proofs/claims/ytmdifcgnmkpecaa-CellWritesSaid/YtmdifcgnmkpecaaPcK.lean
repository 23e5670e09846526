/-
  The contract of piece's Concat, at this seat's numbers.
-/
import Derived.Test.YtmdifcgnmkpecaaPcJ
import Derived.Laws.AppendOwnNone
namespace Go.Proofs.Ytmdifcgnmkpecaa
open Go Go.RowKit
set_option linter.unusedVariables false

/-- Texts and their values. -/
abbrev TxV := Value × List Int
/-- The spans of all texts. -/
def spsOf (vs : List TxV) : List Sp := vs.flatMap fun p => canon p.2
def plsOf (vs : List TxV) : List Int := vs.flatMap fun p => p.2
theorem ex_sps : ∀ vs : List TxV, ex (spsOf vs) = plsOf vs
  | [] => rfl
  | p :: vs => by
    have := ex_sps vs
    unfold spsOf plsOf at *
    rw [List.flatMap_cons, List.flatMap_cons, ex_append, ex_canon, this]
theorem sps_len : ∀ vs : List TxV, (spsOf vs).length ≤ (plsOf vs).length
  | [] => by simp [spsOf]
  | p :: vs => by
    have := sps_len vs
    have := canon_count p.2
    unfold spsOf plsOf at *
    rw [List.flatMap_cons, List.flatMap_cons, List.length_append, List.length_append]
    omega
theorem sps_take {vs : List TxV} {k : Nat} (h : k < vs.length) : spsOf (vs.take (k + 1)) = spsOf (vs.take k) ++ canon (vs[k]).2 := by
  unfold spsOf
  rw [List.take_succ_eq_append_getElem h, List.flatMap_append]; simp
theorem pls_take_len {vs : List TxV} (k : Nat) : (plsOf (vs.take k)).length ≤ (plsOf vs).length := by
  have : plsOf vs = plsOf (vs.take k) ++ plsOf (vs.drop k) := by unfold plsOf; rw [← List.flatMap_append, List.take_append_drop]
  rw [this, List.length_append]; omega
theorem spC_app (a b : List Sp) : spC (a ++ b) = spC a ++ spC b := by unfold spC; rw [List.flatMap_append]
theorem sps_in {vs : List TxV} (h : ∀ p ∈ vs, Sm p.2) : ∀ s ∈ spsOf vs, In40 s.1 ∧ (1 ≤ s.2 → In40 s.2) := by
  intro s hs
  unfold spsOf at hs
  rw [List.mem_flatMap] at hs
  obtain ⟨p, hp, hs⟩ := hs
  have := canon_at_bounds (h p hp) s hs
  unfold In40; omega

set_option maxRecDepth 100000 in
set_option maxHeartbeats 4000000 in
theorem concat_of {w : World} {a : Option Addr} {c : Nat} {vs : List TxV} (hr : Rd w 1 a vs.length (vs.map (·.1))) (hv : ∀ p ∈ vs, Tx w p.1 p.2) (hs : Sm (plsOf vs)) (hn : vs.length ≤ 1000) :
    Calls Try.prog 23 #[.slice a vs.length c] w fun e w' => ∃ v', e = .returned (.agg #[v']) ∧ TxB w.heap.size w' v' (plsOf vs) ∧ Below w.heap.size w w' := by
  obtain ⟨i0, hi0, hz0, hz1, hz2⟩ := info_parts info_span
  have al := below_al w (Obj.cells #[Value.slice none 0 0] 48)
  have HR := Lib.hid (hr.below al)
  have HV := Lib.hid (fun p hp => (hv p hp).below al)
  have HSm := Lib.hid hs
  have hsl := hs.1
  have HIN := Lib.hid (sps_in (fun p hp => (by obtain ⟨_, _, _, _, h, _⟩ := hv p hp; exact h)))
  have HLn := Lib.hid (fun k => Nat.le_trans (Nat.le_trans (sps_len (vs.take k)) (pls_take_len k)) hsl)
  have HB0 := Lib.hid al
  have H2 := Lib.hid (heap_alloc_new w (Obj.cells #[Value.slice none 0 0] 48))
  have hzz1 : (w.alloc (Obj.cells #[Value.slice none 0 0] 48)).heap.size = w.heap.size + 1 := by simp
  clear hr hv hs al
  go_enter Try.func23, Try.ntmps23
  go_wp2_with fail
  generalize w.alloc (Obj.cells #[Value.slice none 0 0] 48) = w1 at *
  have HZ := Lib.hid hzz1
  clear hzz1
  go_loopw [3, 8] (fun v3 i wr => ∃ k n : Nat, ∃ a3 c3 xs, k ≤ vs.length ∧ i = .int .i64 k ∧ v3 = .slice a3 n c3 ∧ n = (spsOf (vs.take k)).length ∧ xs = spC (spsOf (vs.take k)) ∧ wr.ownsRow (w.heap.size + 1) 39 2 (.slice a3 n c3) n xs ∧ Below (w.heap.size + 1) w1 wr ∧ w.heap.size + 1 ≤ wr.heap.size) (fun _ i _ => vs.length - (intOf i).toNat)
  case atStart => exact ⟨0, 0, none, 0, [], by omega, rfl, rfl, by simp [spsOf], by simp [spsOf, spC], own_nil _ _ _ _, Below.refl _ _, by rw [HZ.out]; omega⟩
  case round =>
    obtain ⟨k, n, a3, c3, xs, hk, rfl, rfl, hnn, hxs, ho, hb, hzr⟩ := hrel
    have HB := Lib.hid hb
    have HO := Lib.hid ho
    have HNN := Lib.hid hnn
    have HXS := Lib.hid hxs
    have hn2 : n ≤ 20000 := by rw [hnn]; exact HLn.out k
    clear hb ho hnn hxs
    by_cases hlt : k < vs.length
    · have dk : decide (k < vs.length) = true := decide_eq_true hlt
      obtain ⟨b, off, rfl, hbl, hcl⟩ := HR.out.2 (by omega)
      have hln : n + (canon (vs[k]).2).length ≤ 20000 := by
        have := HLn.out (k + 1)
        rw [sps_take hlt, List.length_append, ← HNN.out] at this
        exact this
      have HST := Lib.hid (sps_take hlt)
      obtain ⟨ak, ck, hvk, hrk, hsk, _, hck, -⟩ := HV.out (vs[k]) (List.getElem_mem hlt)
      have hbw : b < w.heap.size + 1 := by rw [← HZ.out]; exact hbl
      have f1 : wr.cell? ⟨b, off + k, none⟩ = some (.slice ak (canon (vs[k]).2).length ck) := (HB.out.cell (p := ⟨b, off + k, none⟩) hbw).trans (hcl k _ (by rw [List.getElem?_map, List.getElem?_eq_getElem hlt, ← hvk]; rfl))
      have HRK := Lib.hid (hrk.below (HB.out.mono (by rw [HZ.out] <;> omega)))
      clear hbl hcl hrk hsk hvk HR HV HLn
      generalize (vs[k]).2 = tk at *
      have ho5 := Lib.hid (HO.out.alloc (Obj.cells #[Value.slice ak (canon tk).length ck] 48))
      have hb5 := Lib.hid (HB.out.alloc hzr (Obj.cells #[Value.slice ak (canon tk).length ck] 48))
      have al5 := below_al wr (Obj.cells #[Value.slice ak (canon tk).length ck] 48)
      have HRA := Lib.hid (HRK.out.below al5)
      have c5 : (wr.alloc (Obj.cells #[Value.slice ak (canon tk).length ck] 48)).cell? ⟨wr.heap.size, 0, none⟩ = some (.slice ak (canon tk).length ck) := by rw [cell_at (heap_alloc_new wr _)]; rfl
      have hz5 : (wr.alloc (Obj.cells #[Value.slice ak (canon tk).length ck] 48)).heap.size = wr.heap.size + 1 := by simp
      clear al5 HRK
      have HM : Hid (ak = none → (canon tk).length = 0) := fun h0 => by
        rcases Nat.eq_zero_or_pos (canon tk).length with h1 | h1
        · exact h1
        · obtain ⟨_, _, h2, _⟩ := HRA.out.2 h1
          rw [h0] at h2; cases h2
      have HSN : Hid (n + (canon tk).length = (spsOf (vs.take (k + 1))).length) := by show _ = _; rw [HST.out, List.length_append, HNN.out]
      have HSX : Hid (xs ++ spC (canon tk) = spC (spsOf (vs.take (k + 1)))) := by show _ = _; rw [HST.out, spC_app, HXS.out]
      clear HST HNN HXS
      rcases ak with _ | ad
      · obtain rfl := hck rfl
        have hm := HM.out rfl
        have hxs0 : Hid (spC (canon tk) = []) := by show _ = _; rw [List.eq_nil_of_length_eq_zero hm]; rfl
        rw [hxs0.out, List.append_nil] at HSX
        generalize (canon tk).length = m at *
        subst hm
        go_wp2_with (first
          | (at_builtin; refine wpList_append_own_none rfl (.tmp 12) (.tmp 14) 40 rfl (w.heap.size + 1) 39 i0 2 Try.underlying40 hi0 (.slice a3 n c3) n xs rfl ho5.out rfl ?_)
          | fail)
        go_wp2_with fail
        go_roundw
        case rel => exact ⟨k + 1, n, a3, c3, xs, hlt, by go_num, rfl, HSN.out, HSX.out, ho5.out, hb5.out, by omega⟩
        case measure => simp [intOf]; omega
      · have C0 : Hid ((spC (canon tk)).length = (canon tk).length * 2) := spC_len _
        have C1 : Hid (∀ j u, (spC (canon tk))[j]? = some u → (wr.alloc (Obj.cells #[Value.slice (some ad) (canon tk).length ck] 48)).cell? (ad.add j) = some u) := by
          intro j u hj
          have hpos : 0 < (canon tk).length := by
            have h2 := (List.getElem?_eq_some_iff.1 hj).1
            rw [spC_len] at h2; omega
          obtain ⟨g, off', h1, _, h3⟩ := HRA.out.2 hpos
          simp only [Option.some.injEq] at h1
          subst h1
          rw [Addr.add_lit]
          exact h3 j u hj
        have C2 := Lib.hid (spC_one (canon tk))
        have C3 : Hid (n + (canon tk).length ≤ maxLen) := by show _ ≤ _; unfold maxLen; omega
        have C4 : Hid ((n + (canon tk).length) * 16 ≤ 140737488355328) := by show _ ≤ _; omega
        have C5 : Hid (w.heap.size + 1 ≤ (wr.alloc (Obj.cells #[Value.slice (some ad) (canon tk).length ck] 48)).heap.size) := by show _ ≤ _; rw [hz5]; omega
        clear HRA HM hck
        generalize (canon tk).length = m at *
        generalize spC (canon tk) = ys at *
        go_wp2_with (first
          | (at_builtin; refine wpList_append_own _ rfl (.tmp 12) (.tmp 14) 40 rfl (w.heap.size + 1) 39 i0 (.agg #[.int .i64 0, .int .i64 0]) 2 16 Try.underlying40 hi0 hz0 hz1 hz2 rfl (by decide) (.slice a3 n c3) n xs rfl ho5.out ad m ck ys rfl C0.out C1.out C2.out C3.out C4.out C5.out ?_)
          | fail)
        intro v7 wB ho7 hg7 _
        obtain ⟨A9, C9, rfl⟩ := own_slice ho7
        have OF := Lib.hid ho7
        have BF := Lib.hid (hb5.out.grown hg7 (by rw [hz5]; omega) (fun q hq => (ho5.out.lt q hq).1))
        have hzB : w.heap.size + 1 ≤ wB.heap.size := by have := hg7.size; omega
        clear ho7 hg7 C0 C1 C2 C3 C4 C5
        go_wp2_with fail
        go_roundw
        case rel => exact ⟨k + 1, n + m, A9, C9, _, hlt, by go_num, rfl, HSN.out, HSX.out, OF.out, BF.out, hzB⟩
        case measure => simp [intOf]; omega
    · have dk : decide (k < vs.length) = false := decide_eq_false hlt
      obtain rfl : k = vs.length := by omega
      rw [List.take_length] at HNN HXS
      have hrd := own_rd HO.out
      rw [HNN.out, HXS.out] at hrd
      have HOf := Lib.hid (tof_of (w := wr) (a := a3) (c := c3) (l := spsOf vs) hrd (by rw [← HNN.out]; omega) HIN.out (by rw [ex_sps]; exact HSm.out))
      rw [ex_sps, ← HNN.out] at HOf
      have p2 := (HB.out.block w.heap.size (by omega)).trans H2.out
      have HP2 := Lib.hid p2
      have h2lt : w.heap.size < wr.heap.size := by omega
      clear hrd HR HV HIN HLn HXS p2 HO
      go_wp2_with fail
      refine HOf.out.mono ?_; rintro e w4 ⟨v', rfl, hx4, hb4⟩
      have hx5 := hx4
      obtain ⟨a4, c4, rfl, -, -, -, -⟩ := hx5
      have HX4 := Lib.hid hx4
      have HB4 := Lib.hid (HB0.out.trans ((HB.out.trans (hb4.mono hzr)).mono (by omega)))
      have p3 := (hb4.block w.heap.size h2lt).trans HP2.out
      clear hx4 hb4 HOf HP2
      have z3 : w4.frozen? ⟨w.heap.size, 0, none⟩ = false := unfrozen p3 0
      have l4 : w4.cell? ⟨w.heap.size, 0, none⟩ = some (.slice none 0 0) := by rw [cell_at p3]; rfl
      generalize (canon (plsOf vs)).length = nc at *
      go_wp2_with fail
      have c5 : (w4.setCell ⟨w.heap.size, 0, none⟩ (.slice a4 nc c4)).cell? ⟨w.heap.size, 0, none⟩ = some (.slice a4 nc c4) := cell_set_same l4
      refine bodyPost_ret (v := .agg #[.slice a4 nc c4]) (by simp [results, Try.results23, go_sem, c5]) rfl ⟨_, rfl, (HX4.out.set (by omega)).mono (by omega), HB4.out.setCell (p := ⟨w.heap.size, 0, none⟩) (Nat.le_refl _) _⟩

end Go.Proofs.Ytmdifcgnmkpecaa
