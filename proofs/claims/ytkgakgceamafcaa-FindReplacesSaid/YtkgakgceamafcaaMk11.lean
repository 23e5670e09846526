/-
  Texts of this seat, put together (a claim holds few texts): FdB, TgQ, WgA.
-/
import Derived.Test.YtkgakgceamafcaaMk10
import Derived.Deep.AppendLies
import Derived.Deep.RegionLaw
import Derived.RangeFuncNested
import Derived.RangeFuncBound
import Derived.RangeFuncCalls
import Derived.RangeFuncLeaves
import Derived.Shelf.Abstract
import Derived.Shelf.RegionOpen
import Derived.OwnWalkIn
import Derived.TacticsInMore
import Derived.LoopNIn
import Derived.LoopIn

namespace Go.Proofs.Ytkgakgceamafcaa
open Go Go.RowKit
set_option linter.unusedVariables false

theorem info_i : (Try.prog.info? 3).map (fun i => (i.zero, i.size, i.bytes)) = some (some (.int .i64 0), 1, 8) := by kernel_rfl
theorem c1_one (w : World) (x : Value) (t : TypeId) : ∀ q u, ([x] : List Value)[q]? = some u → (w.alloc (Obj.cells #[x] t)).cell? (Addr.add ⟨w.heap.size, 0, none⟩ q) = some u := by
  intro q u hq
  rw [Addr.add_lit, Nat.zero_add]
  rw [cell_at (heap_alloc_new w _)]
  simpa using hq
theorem c2_one (x : Value) (h : x.oneCell' = true) : ∀ u ∈ ([x] : List Value), u.oneCell' = true := by
  intro u hu
  obtain rfl := List.mem_singleton.1 hu; exact h
theorem own_rd_ib {w : World} {B n c : Nat} {a : Option Addr} {bs : List Nat} (h : w.ownsRow B 3 1 (.slice a n c) n (ib bs)) : Rd w 1 a n (ib bs) := t_rd h
/-- What seek's loop keeps. -/
def SkJ (p : List UInt8) (w w1 : World) (ta : Option Addr) (m tc : Nat) (v4 v11 : Value) (wr : World) : Prop :=
  ∃ (k n : Nat) (bs : List Nat) (ba : Option Addr) (bc' : Nat), v4 = .int .i64 (n : Int) ∧ v11 = .int .i64 (k : Int) ∧ k ≤ m ∧ bs.length = k ∧ Tab p bs ∧ (k = 0 → n = 0) ∧ (0 < k → bs[k - 1]? = some n) ∧
    wr.heap[w.heap.size + 1]? = some (.cells #[.slice ta m tc, .slice ba k bc'] 43 (0, 0)) ∧ wr.ownsRow w1.heap.size 3 1 (.slice ba k bc') k (ib bs) ∧ wr.heap[w.heap.size]? = some (.cells #[.slice none 0 0, .slice none 0 0] 43 (0, 0)) ∧ w1.heap.size ≤ wr.heap.size ∧ Below w.heap.size w wr

set_option maxRecDepth 100000 in
set_option maxHeartbeats 4000000 in
theorem seek_of {w : World} {ta : Option Addr} {tc m : Nat} {p : List UInt8} (hp : Rd w 1 ta p.length (bc p)) (hm : p.length = m) (hml : m ≤ 100000) :
    Calls Try.prog 19 #[.slice ta m tc] w fun e w' => ∃ (bs : List Nat) (ba : Option Addr) (bc' : Nat), e = .returned (.agg #[.slice ta m tc, .slice ba m bc']) ∧ bs.length = m ∧ Tab p bs ∧ Rd w' 1 ba m (ib bs) ∧ (∀ d, ba = some d → w.heap.size ≤ d.block ∧ d.block < w'.heap.size) ∧ Below w.heap.size w w' := by
  obtain ⟨i0, hi0, hz0, hz1, hz2⟩ := info_parts info_i
  obtain ⟨w1, hw1, hb1, hz, hA, hB⟩ := two_blocks w (Obj.cells #[.slice none 0 0, .slice none 0 0] 43) (Obj.cells #[.slice ta m tc, .slice none 0 0] 43)
  have HP := Lib.hid hp
  have HZ := Lib.hid hz
  have HM := Lib.hid hm
  have HB1 := Lib.hid hb1
  have HAA := Lib.hid hA
  have HBB := Lib.hid hB
  have HW1 := Lib.hid hw1
  clear hp hm hb1 hA hB hw1 hz
  go_enter Try.func19, Try.ntmps19
  go_wp2_with fail
  rw [HW1.out]
  go_loopw [4, 11] (fun v4 v11 wr => SkJ p w w1 ta m tc v4 v11 wr) (fun _ v11 _ => m - (intOf v11).toNat)
  case atStart => exact ⟨0, 0, [], none, 0, rfl, rfl, by omega, rfl, fun j b h => by simp at h, fun _ => rfl, fun h => by omega, HBB.out, ⟨rfl, .inl ⟨rfl, rfl⟩⟩, HAA.out, Nat.le_refl _, HB1.out⟩
  case round =>
    obtain ⟨k, n, bs, ba, bc', rfl, rfl, hk, hbl, hT, hk0, hk1, hbox, ho, hres, hws, hb⟩ := hrel
    have HRE := Lib.hid hres
    have HWS := Lib.hid hws
    have HT := Lib.hid hT
    have HBL := Lib.hid hbl
    have HK := Lib.hid (And.intro hk0 hk1)
    have HX := Lib.hid hbox
    have HO := Lib.hid ho
    have HB := Lib.hid hb
    have hzr := hb.size
    have b0 : wr.cell? ⟨w.heap.size + 1, 0, none⟩ = some (.slice ta m tc) := (cell_at hbox 0).trans rfl
    have b1 : wr.cell? ⟨w.heap.size + 1, 1, none⟩ = some (.slice ba k bc') := (cell_at hbox 1).trans rfl
    have zz := fun i => unfrozen hbox i
    by_cases hlt : k < m
    · have dk : decide (k < m) = true := decide_eq_true hlt
      have hkp : k < p.length := by rw [HM.out]; exact hlt
      obtain ⟨tg, toff, rfl, htg, htc⟩ := rd_at HP.out hkp
      have htc' := (hb.cell (p := ⟨tg, toff + k, none⟩) htg).trans htc
      obtain ⟨x, hx⟩ : ∃ x, lb p k = x := ⟨_, rfl⟩
      rw [hx] at htc'
      obtain ⟨ch, hpk⟩ : ∃ ch, p[k]? = some ch := ⟨_, List.getElem?_eq_getElem hkp⟩
      have hxc : (ch.toNat : Int) = x := by rw [← hx]; exact (lb_some hpk).symm
      by_cases hpos : 0 < k
      · have d0 : decide ((0 : Int) < (k : Int)) = true := decide_eq_true (by omega)
        have d0' : decide (0 < k) = true := decide_eq_true hpos
        have hbn := hk1 hpos
        have hLn := hT _ _ hbn
        rw [show k - 1 + 1 = k by omega] at hLn
        have hnk : n ≤ k := by
          have h1 := hLn.1.len
          have h2 := HM.out
          unfold tl at h1
          rw [List.length_drop, List.length_take] at h1
          omega
        have HFu := Lib.hid (further_of (c := ch) (tc := tc) (bc' := bc') (HP.out.below hb) (by rw [hbl]; exact own_rd_ib ho) HM.out hbl hxc (by omega) (by omega) (by omega) hT hnk hLn)
        have HTL := Lib.hid (tl_snoc hpos hpk)
        clear hT hbl hk0 hk1 hbox ho hres hws hb htc hx hbn hLn htg hkp hpk hxc
        go_wp2_with fail
        refine HFu.out.mono ?_; rintro e w2 ⟨n2, rfl, hL2, hb2⟩
        have HLn : Hid (Lg p (tl p (k + 1)) n2) := by show Lg _ _ _; rw [HTL.out]; exact hL2
        have HXx := Lib.hid ((hb2.block _ (lt_of_heap HX.out)).trans HX.out)
        have HOx := Lib.hid (own_below HO.out hb2)
        have HBx := Lib.hid (HB.out.trans (hb2.mono HB.out.size))
        have HREx := Lib.hid ((hb2.block _ (lt_of_heap HRE.out)).trans HRE.out)
        have HWx := Lib.hid (Nat.le_trans HWS.out hb2.size)
        clear hL2 hb2 b0 b1 zz HFu
        have hbx := HXx.out
        have q0 : w2.cell? ⟨w.heap.size + 1, 0, none⟩ = some (.slice (some ⟨tg, toff, none⟩) m tc) := (cell_at hbx 0).trans rfl
        have q1 : w2.cell? ⟨w.heap.size + 1, 1, none⟩ = some (.slice ba k bc') := (cell_at hbx 1).trans rfl
        have zx := fun i => unfrozen hbx i
        have C3 : Hid (k + 1 ≤ maxLen) := by show _ ≤ _; unfold maxLen; omega
        have C4 : Hid ((k + 1) * 8 ≤ 140737488355328) := by show _ ≤ _; omega
        have hzx := HWx.out
        have C5 : Hid (w1.heap.size ≤ (w2.alloc (Obj.cells #[.int .i64 (n2 : Int)] 3)).heap.size) := by show _ ≤ _; rw [World.size_alloc]; omega
        clear hbx
        go_wp2_with (at_builtin; refine wpList_append_lies _ rfl (.tmp 23) (.tmp 25) 25 rfl w1.heap.size 3 i0 (.int .i64 0) 1 8 Try.underlying25 hi0 hz0 hz1 hz2 rfl (by decide) (.slice ba k bc') k (ib bs) rfl (HOx.out.alloc _) ⟨w2.heap.size, 0, none⟩ 1 1 [.int .i64 (n2 : Int)] rfl rfl (c1_one w2 _ _) (c2_one _ rfl) (by decide) C3.out C4.out C5.out _ rfl ?_)
        intro g3 k3 w3 ho3 hg3 hat3 hlt3
        have hbx2 := ((t_al w2 (Obj.cells #[.int .i64 (n2 : Int)] 3)).block _ (lt_of_heap HXx.out)).trans HXx.out
        have hbx3 := (hg3.block _ (by rw [World.size_alloc]; have := lt_of_heap HXx.out; omega) (fun e => own_ne (HOx.out.alloc _) hbx2 (by decide) e.symm)).trans hbx2
        have hB3 : Below w.heap.size w w3 := (HBx.out.alloc HBx.out.size _).grown hg3 (by rw [World.size_alloc]; have := HBx.out.size; omega) (fun q hq => by have := ((HOx.out.alloc (Obj.cells #[.int .i64 (n2 : Int)] 3)).lt q hq).1; have := HZ.out; omega)
        have hre2 := ((t_al w2 (Obj.cells #[.int .i64 (n2 : Int)] 3)).block _ (lt_of_heap HREx.out)).trans HREx.out
        have hre3 := (hg3.block _ (by rw [World.size_alloc]; have := lt_of_heap HREx.out; omega) (fun e => own_ne (HOx.out.alloc _) hre2 (by decide) e.symm)).trans hre2
        have hsz3 := hg3.size
        rw [World.size_alloc] at hsz3
        have r0 : w3.cell? ⟨w.heap.size + 1, 0, none⟩ = some (.slice (some ⟨tg, toff, none⟩) m tc) := (cell_at hbx3 0).trans rfl
        have r1 : w3.cell? ⟨w.heap.size + 1, 1, none⟩ = some (.slice ba k bc') := (cell_at hbx3 1).trans rfl
        have zy := fun i => unfrozen hbx3 i
        have HF := Lib.hid (And.intro hbx3 (And.intro hB3 (And.intro ho3 (And.intro hre3 (show w1.heap.size ≤ w3.heap.size by omega)))))
        clear hbx2 hbx3 hB3 ho3 hg3 hat3 hlt3 q0 q1 zx hre2 hre3 hsz3
        go_wp2_with fail
        go_roundw
        case rel =>
          refine ⟨k + 1, n2, bs ++ [n2], some ⟨g3, 0, none⟩, k3, rfl, by go_num, by omega, by rw [List.length_append, HBL.out]; rfl, ?_, fun h => by omega, fun _ => by rw [Nat.add_sub_cancel, List.getElem?_append_right (by rw [HBL.out]; exact Nat.le_refl _), HBL.out, Nat.sub_self]; rfl, ?_, ?_, ?_, ?_, ?_⟩
          · intro j b hj
            rcases Nat.lt_or_ge j bs.length with h | h
            · rw [List.getElem?_append_left h] at hj; exact HT.out j b hj
            · rw [List.getElem?_append_right h] at hj
              have h0 : j - bs.length = 0 := by
                rcases Nat.eq_zero_or_pos (j - bs.length) with h0 | h0
                · exact h0
                · rw [List.getElem?_eq_none (by simp; omega)] at hj; cases hj
              rw [h0] at hj
              simp only [List.getElem?_cons_zero, Option.some.injEq] at hj
              rw [show j = k by rw [← HBL.out]; omega, ← hj]
              exact HLn.out
          · exact heap_set_at HF.out.1
          · rw [ib_app]; exact own_set HF.out.2.2.1 (own_ne HF.out.2.2.1 HF.out.1 (by decide))
          · exact (heap_set_other (by omega)).trans HF.out.2.2.2.1
          · rw [size_set]; exact HF.out.2.2.2.2
          · exact HF.out.2.1.setCell (p := ⟨w.heap.size + 1, 1, none⟩) (Nat.le_add_right _ _) _
        case measure => simp [intOf]; omega
      · have hk0' : k = 0 := by omega
        have d0 : decide ((0 : Int) < (k : Int)) = false := decide_eq_false (by omega)
        have d0' : decide (0 < k) = false := decide_eq_false hpos
        have hn0 := hk0 hk0'
        have HLn : Hid (Lg p (tl p (k + 1)) n) := by show Lg _ _ _; rw [hk0', tl_one, hn0]; exact lg_nil p
        have HXx := Lib.hid HX.out
        have HOx := Lib.hid HO.out
        have HBx := Lib.hid HB.out
        have HREx := Lib.hid HRE.out
        have HWx := Lib.hid HWS.out
        clear hT hbl hk0 hk1 hbox ho hres hws hb htc hx htg hkp hpk hxc hk0' hn0
        have hbx := HXx.out
        have q0 : wr.cell? ⟨w.heap.size + 1, 0, none⟩ = some (.slice (some ⟨tg, toff, none⟩) m tc) := (cell_at hbx 0).trans rfl
        have q1 : wr.cell? ⟨w.heap.size + 1, 1, none⟩ = some (.slice ba k bc') := (cell_at hbx 1).trans rfl
        have zx := fun i => unfrozen hbx i
        have C3 : Hid (k + 1 ≤ maxLen) := by show _ ≤ _; unfold maxLen; omega
        have C4 : Hid ((k + 1) * 8 ≤ 140737488355328) := by show _ ≤ _; omega
        have hzx := HWx.out
        have C5 : Hid (w1.heap.size ≤ (wr.alloc (Obj.cells #[.int .i64 (n : Int)] 3)).heap.size) := by show _ ≤ _; rw [World.size_alloc]; omega
        clear hbx
        go_wp2_with (at_builtin; refine wpList_append_lies _ rfl (.tmp 23) (.tmp 25) 25 rfl w1.heap.size 3 i0 (.int .i64 0) 1 8 Try.underlying25 hi0 hz0 hz1 hz2 rfl (by decide) (.slice ba k bc') k (ib bs) rfl (HOx.out.alloc _) ⟨wr.heap.size, 0, none⟩ 1 1 [.int .i64 (n : Int)] rfl rfl (c1_one wr _ _) (c2_one _ rfl) (by decide) C3.out C4.out C5.out _ rfl ?_)
        intro g3 k3 w3 ho3 hg3 hat3 hlt3
        have hbx2 := ((t_al wr (Obj.cells #[.int .i64 (n : Int)] 3)).block _ (lt_of_heap HXx.out)).trans HXx.out
        have hbx3 := (hg3.block _ (by rw [World.size_alloc]; have := lt_of_heap HXx.out; omega) (fun e => own_ne (HOx.out.alloc _) hbx2 (by decide) e.symm)).trans hbx2
        have hB3 : Below w.heap.size w w3 := (HBx.out.alloc HBx.out.size _).grown hg3 (by rw [World.size_alloc]; have := HBx.out.size; omega) (fun q hq => by have := ((HOx.out.alloc (Obj.cells #[.int .i64 (n : Int)] 3)).lt q hq).1; have := HZ.out; omega)
        have hre2 := ((t_al wr (Obj.cells #[.int .i64 (n : Int)] 3)).block _ (lt_of_heap HREx.out)).trans HREx.out
        have hre3 := (hg3.block _ (by rw [World.size_alloc]; have := lt_of_heap HREx.out; omega) (fun e => own_ne (HOx.out.alloc _) hre2 (by decide) e.symm)).trans hre2
        have hsz3 := hg3.size
        rw [World.size_alloc] at hsz3
        have r0 : w3.cell? ⟨w.heap.size + 1, 0, none⟩ = some (.slice (some ⟨tg, toff, none⟩) m tc) := (cell_at hbx3 0).trans rfl
        have r1 : w3.cell? ⟨w.heap.size + 1, 1, none⟩ = some (.slice ba k bc') := (cell_at hbx3 1).trans rfl
        have zy := fun i => unfrozen hbx3 i
        have HF := Lib.hid (And.intro hbx3 (And.intro hB3 (And.intro ho3 (And.intro hre3 (show w1.heap.size ≤ w3.heap.size by omega)))))
        clear hbx2 hbx3 hB3 ho3 hg3 hat3 hlt3 q0 q1 zx hre2 hre3 hsz3
        go_wp2_with fail
        go_roundw
        case rel =>
          refine ⟨k + 1, n, bs ++ [n], some ⟨g3, 0, none⟩, k3, rfl, by go_num, by omega, by rw [List.length_append, HBL.out]; rfl, ?_, fun h => by omega, fun _ => by rw [Nat.add_sub_cancel, List.getElem?_append_right (by rw [HBL.out]; exact Nat.le_refl _), HBL.out, Nat.sub_self]; rfl, ?_, ?_, ?_, ?_, ?_⟩
          · intro j b hj
            rcases Nat.lt_or_ge j bs.length with h | h
            · rw [List.getElem?_append_left h] at hj; exact HT.out j b hj
            · rw [List.getElem?_append_right h] at hj
              have h0 : j - bs.length = 0 := by
                rcases Nat.eq_zero_or_pos (j - bs.length) with h0 | h0
                · exact h0
                · rw [List.getElem?_eq_none (by simp; omega)] at hj; cases hj
              rw [h0] at hj
              simp only [List.getElem?_cons_zero, Option.some.injEq] at hj
              rw [show j = k by rw [← HBL.out]; omega, ← hj]
              exact HLn.out
          · exact heap_set_at HF.out.1
          · rw [ib_app]; exact own_set HF.out.2.2.1 (own_ne HF.out.2.2.1 HF.out.1 (by decide))
          · exact (heap_set_other (by omega)).trans HF.out.2.2.2.1
          · rw [size_set]; exact HF.out.2.2.2.2
          · exact HF.out.2.1.setCell (p := ⟨w.heap.size + 1, 1, none⟩) (Nat.le_add_right _ _) _
        case measure => simp [intOf]; omega
    · have dk : decide (k < m) = false := decide_eq_false hlt
      have hkm : k = m := by omega
      subst hkm
      have hr0 := HRE.out
      have zr := fun i => unfrozen hr0 i
      have s0 : wr.cell? ⟨w.heap.size, 0, none⟩ = some (.slice none 0 0) := (cell_at hr0 0).trans rfl
      have s1 : wr.cell? ⟨w.heap.size, 1, none⟩ = some (.slice none 0 0) := (cell_at hr0 1).trans rfl
      have HR0 := Lib.hid hr0
      clear hT hbl hk0 hk1 hbox ho hres hws hb hr0
      go_wp2_with fail
      have h1 := heap_set_at (o := 1) (u := Value.slice ba k bc') (heap_set_at (o := 0) (u := Value.slice ta k tc) HR0.out)
      have hBB := ((HB.out.setCell (p := ⟨w.heap.size, 0, none⟩) (Nat.le_refl _) (Value.slice ta k tc)).setCell (p := ⟨w.heap.size, 1, none⟩) (Nat.le_refl _) (Value.slice ba k bc'))
      have hOO := own_set (o := 1) (u := Value.slice ba k bc') (own_set (o := 0) (u := Value.slice ta k tc) HO.out (own_ne HO.out HR0.out (by decide))) (own_ne HO.out HR0.out (by decide))
      generalize (wr.setCell ⟨w.heap.size, 0, none⟩ (Value.slice ta k tc)).setCell ⟨w.heap.size, 1, none⟩ (Value.slice ba k bc') = w4 at *
      have t0 : w4.cell? ⟨w.heap.size, 0, none⟩ = some (.slice ta k tc) := (cell_at h1 0).trans rfl
      have t1 : w4.cell? ⟨w.heap.size, 1, none⟩ = some (.slice ba k bc') := (cell_at h1 1).trans rfl
      exact bodyPost_ret (v := .agg #[.slice ta k tc, .slice ba k bc']) (by simp [results, Try.results19, go_sem, t0, t1]) rfl ⟨bs, ba, bc', rfl, HBL.out, HT.out, own_rd_ib hOO, fun d hd => by subst hd; have := hOO.lt _ rfl; have := HZ.out; exact ⟨by omega, by omega⟩, hBB⟩

end Go.Proofs.Ytkgakgceamafcaa

namespace Go.Proofs.Ytkgakgceamafcaa
open Go Go.RowKit
set_option linter.unusedVariables false

theorem ok_pow : ∀ (h : Nat) {lo : Nat} {t : List (El h)}, Ok lo h t → lo * 3 ^ h ≤ (flatL h t).length
  | 0, lo, t, H => by have h1 := H.1; have h2 := flatLen0 t; simp; omega
  | h + 1, lo, ks, H => by
    have hk : ∀ n, n ≤ ks.length → n * (3 * 3 ^ h) ≤ (flatL (h + 1) (ks.take n)).length := by
      intro n
      induction n with
      | zero => intro _; simp
      | succ n ih =>
        intro hn
        have h1 := ih (by omega)
        have h2 := flat_take (nth_at (ks := ks) (k := n) (by omega))
        have h3 := ok_pow h (H.kid (k := n) (by omega))
        have h4 : (flatL h (mk1 (nth ks n))).length = (flatL h (nth ks n)).length := rfl
        rw [h2, h4, Nat.succ_mul]; omega
    have h5 := hk ks.length (Nat.le_refl _)
    rw [List.take_length] at h5
    have h6 : lo * (3 * 3 ^ h) ≤ ks.length * (3 * 3 ^ h) := Nat.mul_le_mul_right _ H.1
    rw [Nat.pow_succ, Nat.mul_comm (3 ^ h) 3]
    omega
theorem ok_pos {h lo : Nat} {t : List (El h)} (h1 : 1 ≤ lo) (H : Ok lo h t) : 1 ≤ (flatL h t).length := by
  have h2 := ok_pow h H
  have h3 : 0 < 3 ^ h := Nat.pow_pos (by omega)
  have h4 : 1 * 3 ^ h ≤ lo * 3 ^ h := Nat.mul_le_mul_right _ h1
  omega
theorem kid_lt {lo h : Nat} {ks : List (El (h + 1))} {k : Nat} (hlo : 2 ≤ lo) (H : Ok lo (h + 1) ks) (hk : k < ks.length) : (flatL h (nth ks k)).length < (flatL (h + 1) ks).length := by
  have hl := H.len
  rw [flat_split hk, List.length_append, List.length_append]
  rcases Nat.eq_zero_or_pos k with rfl | h0
  · have h1 : nth (ks.drop (0 + 1)) 0 = nth ks 1 := by unfold nth; rw [List.getElem?_drop]
    have h2 := nth_flat (ks := ks.drop (0 + 1)) (k := 0) (by rw [List.length_drop]; omega)
    rw [h1] at h2
    have h3 := ok_pos (by omega) (H.kid (k := 1) (by omega))
    omega
  · have h1 : nth (ks.take k) 0 = nth ks 0 := by unfold nth; rw [List.getElem?_take, if_pos h0]
    have h2 := nth_flat (ks := ks.take k) (k := 0) (by rw [List.length_take]; omega)
    rw [h1] at h2
    have h3 := ok_pos (by omega) (H.kid (k := 0) (by omega))
    omega
theorem ok_h : ∀ (h : Nat) {lo : Nat} {t : List (El h)}, 1 ≤ lo → Ok lo h t → h < (flatL h t).length := by
  intro h lo t h1 H
  have h2 := ok_pow h H
  have h3 : h < 3 ^ h := Nat.lt_pow_self (by omega)
  have h4 : 1 * 3 ^ h ≤ lo * 3 ^ h := Nat.mul_le_mul_right _ h1
  omega
/-- How many values lie below a node in memory. -/
def numV (v : Value) (w : World) : Nat := match v with
  | .pointer (some p) => (intOf ((w.cell? ⟨p.block, 2, none⟩).getD (.int .i64 0))).toNat
  | _ => 0
theorem numV_in {w : World} {T : TypeId} {h : Nat} {t : List (El h)} {b : Nat} (H : In w T h t b) : numV (ptr b) w = (flatL h t).length := by
  show (intOf ((w.cell? ⟨b, 2, none⟩).getD (.int .i64 0))).toNat = _
  rw [H.num]; simp [intOf]
theorem flat_idx {h : Nat} {ks : List (El (h + 1))} (hn : 1 ≤ ks.length) (i : Nat) (hi : i < (flatL (h + 1) ks).length) : (flatL (h + 1) ks)[i]? = (flatL h (nth ks (kidP (szs h ks) i).1))[(kidP (szs h ks) i).2]? := by
  obtain ⟨h1, h2, h3, _⟩ := kid_at hn i
  have h3 := h3 hi
  rw [flat_split h1]
  generalize (kidP (szs h ks) i).2 = j at *
  generalize (kidP (szs h ks) i).1 = k at *
  rw [List.append_assoc, List.getElem?_append_right (by omega), List.getElem?_append_left (by omega)]
  congr 1; omega

/-- A box of a row whose cells are set. -/
theorem row_set {w0 w : World} {p B T : Nat} {u0 u1 u2 v0 v1 v2 : Value} (h : w.heap[p]? = some (.cells #[u0, u1, u2] T (0, 0))) (hb : Below B w0 w) (hp : B ≤ p) :
    ∃ w', ((w.setCell ⟨p, 0, none⟩ v0).setCell ⟨p, 1, none⟩ v1).setCell ⟨p, 2, none⟩ v2 = w' ∧ w'.cell? ⟨p, 0, none⟩ = some v0 ∧ w'.cell? ⟨p, 1, none⟩ = some v1 ∧ w'.cell? ⟨p, 2, none⟩ = some v2 ∧ Below B w0 w' := by
  have h1 := heap_set_at (o := 0) (u := v0) h
  have h2 := heap_set_at (o := 1) (u := v1) h1
  have h3 := heap_set_at (o := 2) (u := v2) h2
  refine ⟨_, rfl, by rw [cell_at h3]; rfl, by rw [cell_at h3]; rfl, by rw [cell_at h3]; rfl, ?_⟩
  exact ((hb.setCell (p := ⟨p, 0, none⟩) hp v0).setCell (p := ⟨p, 1, none⟩) hp v1).setCell (p := ⟨p, 2, none⟩) hp v2

end Go.Proofs.Ytkgakgceamafcaa

namespace Go.Proofs.Ytkgakgceamafcaa
open Go Go.RowKit Go.Shelf
set_option linter.unusedVariables false

abbrev Bls := Nat → Prop
/-- Blocks of D have been turned, and new ones made, at most. -/
structure Moves (D : Bls) (W W' : World) : Prop where
  os : W'.os = W.os
  tape : W'.tape = W.tape
  output : W'.output = W.output
  size : W.heap.size ≤ W'.heap.size
  block : ∀ k, k < W.heap.size → ¬ D k → W'.heap[k]? = W.heap[k]?
theorem Moves.below {D : Bls} {W W' : World} (h : Below W.heap.size W W') : Moves D W W' := ⟨h.os, h.tape, h.output, h.size, fun k hk _ => h.block k hk⟩
theorem Moves.put {D : Bls} {W : World} {l : Nat} (o : Obj) (hl : D l) : Moves D W (W.putObj l o) :=
  ⟨(grownBy_putObj' W l o).os, (grownBy_putObj' W l o).tape, (grownBy_putObj' W l o).output, (grownBy_putObj' W l o).size, fun k hk hd => (grownBy_putObj' W l o).block k hk (fun e => by cases e; exact hd hl)⟩
theorem Moves.mono {D D' : Bls} {W W' : World} (h : Moves D W W') (hd : ∀ k, D k → D' k) : Moves D' W W' := ⟨h.os, h.tape, h.output, h.size, fun k hk hn => h.block k hk (fun e => hn (hd k e))⟩
theorem Moves.cell {D : Bls} {W W' : World} (h : Moves D W W') {b : Nat} {o : Nat} (hb : b < W.heap.size) (hd : ¬ D b) : W'.cell? ⟨b, o, none⟩ = W.cell? ⟨b, o, none⟩ := by
  have := h.block b hb hd
  simp only [World.cell?, this]
/-- What the blocks of D hold is as it was. -/
def Same (D : Bls) (W W' : World) : Prop := ∀ k, D k → W'.heap[k]? = W.heap[k]?
theorem Same.refl (D : Bls) (W : World) : Same D W W := fun _ _ => rfl
theorem Same.trans {D : Bls} {W W' W'' : World} (h : Same D W W') (h' : Same D W' W'') : Same D W W'' := fun k hk => (h' k hk).trans (h k hk)
theorem Same.mono {D D' : Bls} {W W' : World} (h : Same D W W') (hd : ∀ k, D' k → D k) : Same D' W W' := fun k hk => h k (hd k hk)
theorem Same.below {D : Bls} {W W' : World} (h : Below W.heap.size W W') (hd : ∀ k, D k → k < W.heap.size) : Same D W W' := fun k hk => h.block k (hd k hk)
theorem Same.cell {D : Bls} {W W' : World} (h : Same D W W') {b : Nat} {o : Nat} (hd : D b) : W'.cell? ⟨b, o, none⟩ = W.cell? ⟨b, o, none⟩ := by
  have := h b hd
  simp only [World.cell?, this]
/-- Those blocks are there. -/
def Have (D : Bls) (W : World) : Prop := ∀ k, D k → k < W.heap.size
/-- What stands whatever the blocks of D are turned into; and new blocks may come to them. -/
def Firm {β : Type} (J : β → Bls → World → Prop) : Prop := ∀ s D D' W W', J s D W → Moves D W W' → (∀ k, D' k → D k ∨ W.heap.size ≤ k) → J s D' W'
theorem Firm.go {β : Type} {J : β → Bls → World → Prop} (h : Firm J) {s : β} {D : Bls} {W W' : World} (hs : J s D W) (hm : Moves D W W') : J s D W' := h s D D W W' hs hm (fun _ hk => .inl hk)
theorem Firm.below {β : Type} {J : β → Bls → World → Prop} (h : Firm J) {s : β} {D : Bls} {W W' : World} (hs : J s D W) (hb : Below W.heap.size W W') : J s D W' := h.go hs (Moves.below hb)
/-- An iterator's contract: whatever the rounds' word is, if it stands firm. -/
def Iter {α : Type} (F : Fence) (n : Nat) (P : Program) (g : Nat) (lb : Array Value) (encs : α → Array Value) (n₀ : Nat) (S Sp : List α → Prop) (N : List α → α → Prop) (D0 : Bls) (w : World) : Prop :=
  ∀ (l : Nat) (J Jx : List α → Bls → World → Prop) (W : World), Below w.heap.size w W → Firm J → Firm Jx →
    (∀ pre x D W1, J pre D W1 → Have D W1 → N pre x → YieldAt F (n - 1) P l (encs x) W1 fun e W' => Same D W1 W' ∧
      ((e = .returned (.bool true) ∧ J (pre ++ [x]) D W' ∧ Below n₀ W1 W') ∨ (e = .returned (.bool false) ∧ Jx (pre ++ [x]) D W'))) →
    J [] D0 W →
    CallsIn F n P g (#[.func (.yield l) #[] #[]] ++ lb) W fun e W' => (∃ v, e = .returned v) ∧ ((∃ xs D, S xs ∧ J xs D W') ∨ (∃ pre D, Sp pre ∧ Jx pre D W'))

/-- What the body of a round owes. -/
def roundPost {α : Type} (n₀ : Nat) (E : Bls) (I : List α → Bls → World → Prop) (Ix : Code → List α → Bls → World → Prop) (s : List α) (U : World) : Exit → Act → World → Prop
  | .normal, _, Z => Same E U Z ∧ Below n₀ U Z ∧ I s E Z
  | .ret, _, Z => Same E U Z ∧ Ix .ret s E Z
  | .exit id, _, Z => Same E U Z ∧ Ix (.exit id) s E Z
  | .goto t, _, Z => Same E U Z ∧ Ix (.goto t) s E Z
  | .panic _, _, _ => False
  | .outgrown, _, _ => False

theorem round_of {α : Type} {F : Fence} {m : Nat} {P : Program} {l n₀ d : Nat} {N : List α → α → Prop} {fn : FuncId} {assign body : Code} {ps : Array Tmp} {tmps : Array Value} {encs : α → Array Value} {W : World} {D : Bls}
    {rec : LoopState → Option Code → Loop} (hrec : rec = fun st pe => { state := st, pending := pe, fn, tmps := tmps, params := ps, assign, body, defers := d })
    (hfn : F.fn fn) (hps : ∀ x, (encs x).size = ps.size) (hn : n₀ ≤ l) (hl : W.heap[l]? = some (.loop (rec .ready none))) (hD : D l) (hbd : Have D W)
    (I : List α → Bls → World → Prop) (Ix : Code → List α → Bls → World → Prop) (hI : Firm I) (hIx : ∀ c, Firm (Ix c)) (Ax : α → Act → Bls → World → Prop)
    (hAx : ∀ x a' E V r o, Ax x a' E V → V.heap[l]? = some (.loop r) → Ax x a' E (V.putObj l o))
    (hassign : ∀ (pre : List α) (x : α) (E : Bls) (W : World) (K : Act → World → Prop), I pre E W → Have E W → (∀ a' E' W', (∀ k, E k → E' k) → Have E' W' → Same E W W' → Below n₀ W W' → I pre E' W' → Ax x a' E' W' → K a' W') →
      assign.wpIn (F.inRound l) m P (Exit.then K (fun _ _ _ => False)) { tmps := (ps.zip (encs x)).foldl (fun t (p, v) => t.setIfInBounds p v) tmps, defers := [] } W)
    (hbody : ∀ (pre : List α) (x : α) (a' : Act) (E : Bls) (W : World), E l → (∃ r, W.heap[l]? = some (.loop r)) → Have E W → I pre E W → Ax x a' E W → N pre x → body.wpIn (F.inRound l) m P (roundPost n₀ E I Ix (pre ++ [x]) W) a' W)
    (pre : List α) (x : α) (hi : I pre D W) (hN : N pre x) :
    YieldAt F m P l (encs x) W fun e W' => (∀ k, D k → k ≠ l → W'.heap[k]? = W.heap[k]?) ∧
      ((e = .returned (.bool true) ∧ I (pre ++ [x]) D W' ∧ W'.heap[l]? = some (.loop (rec .ready none)) ∧ Below n₀ W W') ∨
      (e = .returned (.bool false) ∧ ∃ c, Ix c (pre ++ [x]) D W' ∧ W'.heap[l]? = some (.loop (rec .done (some c))))) := by
  have hy := run_yield (P := P) (args := encs x) hl (by rw [hrec]; exact hps x)
  rw [hrec] at hy
  refine ⟨fn, _, assign, body, hy, roundIn_of_wpIn hfn (hassign pre x D W _ hi hbd fun a' E V hsub hbE hsame hbel hiV hax => ?_)⟩
  have hlV := (hsame l hD).trans hl
  have hEl := hsub l hD
  refine ⟨_, run_beginRound hlV (by rw [hrec]), ?_⟩
  obtain ⟨U, hU⟩ : ∃ U, V.putObj l (.loop { rec .ready none with state := .busy }) = U := ⟨_, rfl⟩
  rw [hU]
  have hlU : U.heap[l]? = some (.loop { rec .ready none with state := .busy }) := by rw [← hU]; exact World.putObj_heap_same (Array.getElem?_eq_some_iff.1 hlV).1
  have hiU : I pre E U := by rw [← hU]; exact hI.go hiV (Moves.put _ hEl)
  have haU : Ax x a' E U := by rw [← hU]; exact hAx _ _ _ _ _ _ hax hlV
  have hbU : Have E U := fun k hk => by rw [← hU]; exact Nat.lt_of_lt_of_le (hbE k hk) (grownBy_putObj' V l _).size
  have put (w1 : World) (o : Obj) : Below n₀ w1 (w1.putObj l o) :=
    ⟨(grownBy_putObj' w1 l o).os, (grownBy_putObj' w1 l o).tape, (grownBy_putObj' w1 l o).output, (grownBy_putObj' w1 l o).size, fun k hk => World.putObj_heap_other (by omega)⟩
  have hbelU : Below n₀ W U := by rw [← hU]; exact hbel.trans (put _ _)
  have saU : ∀ k, D k → k ≠ l → U.heap[k]? = W.heap[k]? := fun k hk hkl => by rw [← hU]; exact (World.putObj_heap_other hkl).trans (hsame k hk)
  refine wpIn_mono (hbody pre x a' E U hEl ⟨_, hlU⟩ hbU hiU haU hN) ?_
  have ends (jump : Option Code) (Z : World) (hk : Same E U Z) :
      (Instr.endRound l jump).run P Z = .ok (.bool jump.isNone) (Z.putObj l (.loop (rec (if jump.isNone then .ready else .done) jump))) ∧
      (Z.putObj l (.loop (rec (if jump.isNone then .ready else .done) jump))).heap[l]? = some (.loop (rec (if jump.isNone then .ready else .done) jump)) ∧
      (∀ k, D k → k ≠ l → (Z.putObj l (.loop (rec (if jump.isNone then .ready else .done) jump))).heap[k]? = W.heap[k]?) := by
    have hlZ := (hk l hEl).trans hlU
    have he := run_endRound (P := P) jump hlZ
    rw [hrec] at he ⊢
    rw [hrec] at hlZ
    exact ⟨he, World.putObj_heap_same (Array.getElem?_eq_some_iff.1 hlZ).1, fun k h1 h2 => (World.putObj_heap_other h2).trans ((hk k (hsub k h1)).trans (saU k h1 h2))⟩
  have away (c : Code) (Z : World) (hk : Same E U Z) (hx : Ix c (pre ++ [x]) E Z) :
      ∃ v Z', (Instr.endRound l (some c)).run P Z = .ok v Z' ∧ ((∀ k, D k → k ≠ l → Z'.heap[k]? = W.heap[k]?) ∧
        ((Ending.returned v = .returned (.bool true) ∧ I (pre ++ [x]) D Z' ∧ Z'.heap[l]? = some (.loop (rec .ready none)) ∧ Below n₀ W Z') ∨
        (Ending.returned v = .returned (.bool false) ∧ ∃ c, Ix c (pre ++ [x]) D Z' ∧ Z'.heap[l]? = some (.loop (rec .done (some c)))))) := by
    obtain ⟨h1, h2, h3⟩ := ends (some c) Z hk
    exact ⟨_, _, h1, h3, .inr ⟨rfl, c, hIx c _ _ _ _ _ hx (Moves.put _ hEl) (fun k h => .inl (hsub k h)), h2⟩⟩
  rintro e a3 Z hp
  cases e with
  | normal =>
    obtain ⟨hk, hb, hx⟩ := hp
    obtain ⟨h1, h2, h3⟩ := ends none Z hk
    exact ⟨_, _, h1, h3, .inl ⟨rfl, hI _ _ _ _ _ hx (Moves.put _ hEl) (fun k h => .inl (hsub k h)), h2, hbelU.trans (hb.trans (put _ _))⟩⟩
  | ret => exact away .ret Z hp.1 hp.2
  | exit id => exact away (.exit id) Z hp.1 hp.2
  | goto t => exact away (.goto t) Z hp.1 hp.2
  | panic ch => exact hp.elim
  | outgrown => exact hp.elim

end Go.Proofs.Ytkgakgceamafcaa
