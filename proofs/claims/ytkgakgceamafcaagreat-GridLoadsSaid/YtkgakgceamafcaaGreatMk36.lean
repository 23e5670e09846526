/-
  Texts of this seat, put together (a claim holds few texts): FdB, FdC, FdD.
-/
import Derived.Test.YtkgakgceamafcaaGreatMk35
import Derived.Deep.AppendLies
import Derived.Deep.RegionLaw

namespace Go.Proofs.YtkgakgceamafcaaGreat
open Go Go.RowKit
set_option linter.unusedVariables false

theorem info_i : (Tryz.prog.info? 3).map (fun i => (i.zero, i.size, i.bytes)) = some (some (.int .i64 0), 1, 8) := by kernel_rfl
theorem c1_one (w : World) (x : Value) (t : TypeId) : ∀ q u, ([x] : List Value)[q]? = some u → (w.alloc (Obj.cells #[x] t)).cell? (Addr.add ⟨w.heap.size, 0, none⟩ q) = some u := by
  intro q u hq
  rw [Addr.add_lit, Nat.zero_add]
  rw [cell_at (heap_alloc_new w _)]
  simpa using hq
theorem c2_one (x : Value) (h : x.oneCell' = true) : ∀ u ∈ ([x] : List Value), u.oneCell' = true := by
  intro u hu
  obtain rfl := List.mem_singleton.1 hu; exact h
theorem own_rd_ib {w : World} {B n c : Nat} {a : Option Addr} {bs : List Nat} (h : w.ownsRow B 3 1 (.slice a n c) n (ib bs)) : Rd w 1 a n (ib bs) := t_rd h
/-- What seek's loop keeps. -/
def SkJ (p : List UInt8) (w w1 : World) (ta : Option Addr) (m tc : Nat) (v4 v11 : Value) (wr : World) : Prop :=
  ∃ (k n : Nat) (bs : List Nat) (ba : Option Addr) (bc' : Nat), v4 = .int .i64 (n : Int) ∧ v11 = .int .i64 (k : Int) ∧ k ≤ m ∧ bs.length = k ∧ Tab p bs ∧ (k = 0 → n = 0) ∧ (0 < k → bs[k - 1]? = some n) ∧
    wr.heap[w.heap.size + 1]? = some (.cells #[.slice ta m tc, .slice ba k bc'] 163 (0, 0)) ∧ wr.ownsRow w1.heap.size 3 1 (.slice ba k bc') k (ib bs) ∧ wr.heap[w.heap.size]? = some (.cells #[.slice none 0 0, .slice none 0 0] 163 (0, 0)) ∧ w1.heap.size ≤ wr.heap.size ∧ Below w.heap.size w wr

set_option maxRecDepth 100000 in
set_option maxHeartbeats 4000000 in
theorem seek_of {w : World} {ta : Option Addr} {tc m : Nat} {p : List UInt8} (hp : Rd w 1 ta p.length (bc p)) (hm : p.length = m) (hml : m ≤ 100000) :
    Calls Tryz.prog 87 #[.slice ta m tc] w fun e w' => ∃ (bs : List Nat) (ba : Option Addr) (bc' : Nat), e = .returned (.agg #[.slice ta m tc, .slice ba m bc']) ∧ bs.length = m ∧ Tab p bs ∧ Rd w' 1 ba m (ib bs) ∧ (∀ d, ba = some d → w.heap.size ≤ d.block ∧ d.block < w'.heap.size) ∧ Below w.heap.size w w' := by
  obtain ⟨i0, hi0, hz0, hz1, hz2⟩ := info_parts info_i
  obtain ⟨w1, hw1, hb1, hz, hA, hB⟩ := two_blocks w (Obj.cells #[.slice none 0 0, .slice none 0 0] 163) (Obj.cells #[.slice ta m tc, .slice none 0 0] 163)
  have HP := Lib.hid hp
  have HZ := Lib.hid hz
  have HM := Lib.hid hm
  have HB1 := Lib.hid hb1
  have HAA := Lib.hid hA
  have HBB := Lib.hid hB
  have HW1 := Lib.hid hw1
  clear hp hm hb1 hA hB hw1 hz
  go_enter Tryz.func87, Tryz.ntmps87
  go_wp2_with fail
  rw [HW1.out]
  go_loopw [4, 11] (fun v4 v11 wr => SkJ p w w1 ta m tc v4 v11 wr) (fun _ v11 _ => m - (intOf v11).toNat)
  case atStart => exact ⟨0, 0, [], none, 0, rfl, rfl, by omega, rfl, fun j b h => by simp at h, fun _ => rfl, fun h => by omega, HBB.out, ⟨rfl, .inl ⟨rfl, rfl⟩⟩, HAA.out, Nat.le_refl _, HB1.out⟩
  case round =>
    obtain ⟨k, n, bs, ba, bc', rfl, rfl, hk, hbl, hT, hk0, hk1, hbox, ho, hres, hws, hb⟩ := hrel
    have HRE := Lib.hid hres
    have HWS := Lib.hid hws
    have HT := Lib.hid hT
    have HBL := Lib.hid hbl
    have HK := Lib.hid (And.intro hk0 hk1)
    have HX := Lib.hid hbox
    have HO := Lib.hid ho
    have HB := Lib.hid hb
    have hzr := hb.size
    have b0 : wr.cell? ⟨w.heap.size + 1, 0, none⟩ = some (.slice ta m tc) := (cell_at hbox 0).trans rfl
    have b1 : wr.cell? ⟨w.heap.size + 1, 1, none⟩ = some (.slice ba k bc') := (cell_at hbox 1).trans rfl
    have zz := fun i => unfrozen hbox i
    by_cases hlt : k < m
    · have dk : decide (k < m) = true := decide_eq_true hlt
      have hkp : k < p.length := by rw [HM.out]; exact hlt
      obtain ⟨tg, toff, rfl, htg, htc⟩ := rd_at HP.out hkp
      have htc' := (hb.cell (p := ⟨tg, toff + k, none⟩) htg).trans htc
      obtain ⟨x, hx⟩ : ∃ x, lb p k = x := ⟨_, rfl⟩
      rw [hx] at htc'
      obtain ⟨ch, hpk⟩ : ∃ ch, p[k]? = some ch := ⟨_, List.getElem?_eq_getElem hkp⟩
      have hxc : (ch.toNat : Int) = x := by rw [← hx]; exact (lb_some hpk).symm
      by_cases hpos : 0 < k
      · have d0 : decide ((0 : Int) < (k : Int)) = true := decide_eq_true (by omega)
        have d0' : decide (0 < k) = true := decide_eq_true hpos
        have hbn := hk1 hpos
        have hLn := hT _ _ hbn
        rw [show k - 1 + 1 = k by omega] at hLn
        have hnk : n ≤ k := by
          have h1 := hLn.1.len
          have h2 := HM.out
          unfold tl at h1
          rw [List.length_drop, List.length_take] at h1
          omega
        have HFu := Lib.hid (further_of (c := ch) (tc := tc) (bc' := bc') (HP.out.below hb) (by rw [hbl]; exact own_rd_ib ho) HM.out hbl hxc (by omega) (by omega) (by omega) hT hnk hLn)
        have HTL := Lib.hid (tl_snoc hpos hpk)
        clear hT hbl hk0 hk1 hbox ho hres hws hb htc hx hbn hLn htg hkp hpk hxc
        go_wp2_with fail
        refine HFu.out.mono ?_; rintro e w2 ⟨n2, rfl, hL2, hb2⟩
        have HLn : Hid (Lg p (tl p (k + 1)) n2) := by show Lg _ _ _; rw [HTL.out]; exact hL2
        have HXx := Lib.hid ((hb2.block _ (lt_of_heap HX.out)).trans HX.out)
        have HOx := Lib.hid (own_below HO.out hb2)
        have HBx := Lib.hid (HB.out.trans (hb2.mono HB.out.size))
        have HREx := Lib.hid ((hb2.block _ (lt_of_heap HRE.out)).trans HRE.out)
        have HWx := Lib.hid (Nat.le_trans HWS.out hb2.size)
        clear hL2 hb2 b0 b1 zz HFu
        have hbx := HXx.out
        have q0 : w2.cell? ⟨w.heap.size + 1, 0, none⟩ = some (.slice (some ⟨tg, toff, none⟩) m tc) := (cell_at hbx 0).trans rfl
        have q1 : w2.cell? ⟨w.heap.size + 1, 1, none⟩ = some (.slice ba k bc') := (cell_at hbx 1).trans rfl
        have zx := fun i => unfrozen hbx i
        have C3 : Hid (k + 1 ≤ maxLen) := by show _ ≤ _; unfold maxLen; omega
        have C4 : Hid ((k + 1) * 8 ≤ 140737488355328) := by show _ ≤ _; omega
        have hzx := HWx.out
        have C5 : Hid (w1.heap.size ≤ (w2.alloc (Obj.cells #[.int .i64 (n2 : Int)] 3)).heap.size) := by show _ ≤ _; rw [World.size_alloc]; omega
        clear hbx
        go_wp2_with (at_builtin; refine wpList_append_lies _ rfl (.tmp 23) (.tmp 25) 157 rfl w1.heap.size 3 i0 (.int .i64 0) 1 8 Tryz.underlying157 hi0 hz0 hz1 hz2 rfl (by decide) (.slice ba k bc') k (ib bs) rfl (HOx.out.alloc _) ⟨w2.heap.size, 0, none⟩ 1 1 [.int .i64 (n2 : Int)] rfl rfl (c1_one w2 _ _) (c2_one _ rfl) (by decide) C3.out C4.out C5.out _ rfl ?_)
        intro g3 k3 w3 ho3 hg3 hat3 hlt3
        have hbx2 := ((t_al w2 (Obj.cells #[.int .i64 (n2 : Int)] 3)).block _ (lt_of_heap HXx.out)).trans HXx.out
        have hbx3 := (hg3.block _ (by rw [World.size_alloc]; have := lt_of_heap HXx.out; omega) (fun e => own_ne (HOx.out.alloc _) hbx2 (by decide) e.symm)).trans hbx2
        have hB3 : Below w.heap.size w w3 := (HBx.out.alloc HBx.out.size _).grown hg3 (by rw [World.size_alloc]; have := HBx.out.size; omega) (fun q hq => by have := ((HOx.out.alloc (Obj.cells #[.int .i64 (n2 : Int)] 3)).lt q hq).1; have := HZ.out; omega)
        have hre2 := ((t_al w2 (Obj.cells #[.int .i64 (n2 : Int)] 3)).block _ (lt_of_heap HREx.out)).trans HREx.out
        have hre3 := (hg3.block _ (by rw [World.size_alloc]; have := lt_of_heap HREx.out; omega) (fun e => own_ne (HOx.out.alloc _) hre2 (by decide) e.symm)).trans hre2
        have hsz3 := hg3.size
        rw [World.size_alloc] at hsz3
        have r0 : w3.cell? ⟨w.heap.size + 1, 0, none⟩ = some (.slice (some ⟨tg, toff, none⟩) m tc) := (cell_at hbx3 0).trans rfl
        have r1 : w3.cell? ⟨w.heap.size + 1, 1, none⟩ = some (.slice ba k bc') := (cell_at hbx3 1).trans rfl
        have zy := fun i => unfrozen hbx3 i
        have HF := Lib.hid (And.intro hbx3 (And.intro hB3 (And.intro ho3 (And.intro hre3 (show w1.heap.size ≤ w3.heap.size by omega)))))
        clear hbx2 hbx3 hB3 ho3 hg3 hat3 hlt3 q0 q1 zx hre2 hre3 hsz3
        go_wp2_with fail
        go_roundw
        case rel =>
          refine ⟨k + 1, n2, bs ++ [n2], some ⟨g3, 0, none⟩, k3, rfl, by go_num, by omega, by rw [List.length_append, HBL.out]; rfl, ?_, fun h => by omega, fun _ => by rw [Nat.add_sub_cancel, List.getElem?_append_right (by rw [HBL.out]; exact Nat.le_refl _), HBL.out, Nat.sub_self]; rfl, ?_, ?_, ?_, ?_, ?_⟩
          · intro j b hj
            rcases Nat.lt_or_ge j bs.length with h | h
            · rw [List.getElem?_append_left h] at hj; exact HT.out j b hj
            · rw [List.getElem?_append_right h] at hj
              have h0 : j - bs.length = 0 := by
                rcases Nat.eq_zero_or_pos (j - bs.length) with h0 | h0
                · exact h0
                · rw [List.getElem?_eq_none (by simp; omega)] at hj; cases hj
              rw [h0] at hj
              simp only [List.getElem?_cons_zero, Option.some.injEq] at hj
              rw [show j = k by rw [← HBL.out]; omega, ← hj]
              exact HLn.out
          · exact heap_set_at HF.out.1
          · rw [ib_app]; exact own_set HF.out.2.2.1 (own_ne HF.out.2.2.1 HF.out.1 (by decide))
          · exact (heap_set_other (by omega)).trans HF.out.2.2.2.1
          · rw [size_set]; exact HF.out.2.2.2.2
          · exact HF.out.2.1.setCell (p := ⟨w.heap.size + 1, 1, none⟩) (Nat.le_add_right _ _) _
        case measure => simp [intOf]; omega
      · have hk0' : k = 0 := by omega
        have d0 : decide ((0 : Int) < (k : Int)) = false := decide_eq_false (by omega)
        have d0' : decide (0 < k) = false := decide_eq_false hpos
        have hn0 := hk0 hk0'
        have HLn : Hid (Lg p (tl p (k + 1)) n) := by show Lg _ _ _; rw [hk0', tl_one, hn0]; exact lg_nil p
        have HXx := Lib.hid HX.out
        have HOx := Lib.hid HO.out
        have HBx := Lib.hid HB.out
        have HREx := Lib.hid HRE.out
        have HWx := Lib.hid HWS.out
        clear hT hbl hk0 hk1 hbox ho hres hws hb htc hx htg hkp hpk hxc hk0' hn0
        have hbx := HXx.out
        have q0 : wr.cell? ⟨w.heap.size + 1, 0, none⟩ = some (.slice (some ⟨tg, toff, none⟩) m tc) := (cell_at hbx 0).trans rfl
        have q1 : wr.cell? ⟨w.heap.size + 1, 1, none⟩ = some (.slice ba k bc') := (cell_at hbx 1).trans rfl
        have zx := fun i => unfrozen hbx i
        have C3 : Hid (k + 1 ≤ maxLen) := by show _ ≤ _; unfold maxLen; omega
        have C4 : Hid ((k + 1) * 8 ≤ 140737488355328) := by show _ ≤ _; omega
        have hzx := HWx.out
        have C5 : Hid (w1.heap.size ≤ (wr.alloc (Obj.cells #[.int .i64 (n : Int)] 3)).heap.size) := by show _ ≤ _; rw [World.size_alloc]; omega
        clear hbx
        go_wp2_with (at_builtin; refine wpList_append_lies _ rfl (.tmp 23) (.tmp 25) 157 rfl w1.heap.size 3 i0 (.int .i64 0) 1 8 Tryz.underlying157 hi0 hz0 hz1 hz2 rfl (by decide) (.slice ba k bc') k (ib bs) rfl (HOx.out.alloc _) ⟨wr.heap.size, 0, none⟩ 1 1 [.int .i64 (n : Int)] rfl rfl (c1_one wr _ _) (c2_one _ rfl) (by decide) C3.out C4.out C5.out _ rfl ?_)
        intro g3 k3 w3 ho3 hg3 hat3 hlt3
        have hbx2 := ((t_al wr (Obj.cells #[.int .i64 (n : Int)] 3)).block _ (lt_of_heap HXx.out)).trans HXx.out
        have hbx3 := (hg3.block _ (by rw [World.size_alloc]; have := lt_of_heap HXx.out; omega) (fun e => own_ne (HOx.out.alloc _) hbx2 (by decide) e.symm)).trans hbx2
        have hB3 : Below w.heap.size w w3 := (HBx.out.alloc HBx.out.size _).grown hg3 (by rw [World.size_alloc]; have := HBx.out.size; omega) (fun q hq => by have := ((HOx.out.alloc (Obj.cells #[.int .i64 (n : Int)] 3)).lt q hq).1; have := HZ.out; omega)
        have hre2 := ((t_al wr (Obj.cells #[.int .i64 (n : Int)] 3)).block _ (lt_of_heap HREx.out)).trans HREx.out
        have hre3 := (hg3.block _ (by rw [World.size_alloc]; have := lt_of_heap HREx.out; omega) (fun e => own_ne (HOx.out.alloc _) hre2 (by decide) e.symm)).trans hre2
        have hsz3 := hg3.size
        rw [World.size_alloc] at hsz3
        have r0 : w3.cell? ⟨w.heap.size + 1, 0, none⟩ = some (.slice (some ⟨tg, toff, none⟩) m tc) := (cell_at hbx3 0).trans rfl
        have r1 : w3.cell? ⟨w.heap.size + 1, 1, none⟩ = some (.slice ba k bc') := (cell_at hbx3 1).trans rfl
        have zy := fun i => unfrozen hbx3 i
        have HF := Lib.hid (And.intro hbx3 (And.intro hB3 (And.intro ho3 (And.intro hre3 (show w1.heap.size ≤ w3.heap.size by omega)))))
        clear hbx2 hbx3 hB3 ho3 hg3 hat3 hlt3 q0 q1 zx hre2 hre3 hsz3
        go_wp2_with fail
        go_roundw
        case rel =>
          refine ⟨k + 1, n, bs ++ [n], some ⟨g3, 0, none⟩, k3, rfl, by go_num, by omega, by rw [List.length_append, HBL.out]; rfl, ?_, fun h => by omega, fun _ => by rw [Nat.add_sub_cancel, List.getElem?_append_right (by rw [HBL.out]; exact Nat.le_refl _), HBL.out, Nat.sub_self]; rfl, ?_, ?_, ?_, ?_, ?_⟩
          · intro j b hj
            rcases Nat.lt_or_ge j bs.length with h | h
            · rw [List.getElem?_append_left h] at hj; exact HT.out j b hj
            · rw [List.getElem?_append_right h] at hj
              have h0 : j - bs.length = 0 := by
                rcases Nat.eq_zero_or_pos (j - bs.length) with h0 | h0
                · exact h0
                · rw [List.getElem?_eq_none (by simp; omega)] at hj; cases hj
              rw [h0] at hj
              simp only [List.getElem?_cons_zero, Option.some.injEq] at hj
              rw [show j = k by rw [← HBL.out]; omega, ← hj]
              exact HLn.out
          · exact heap_set_at HF.out.1
          · rw [ib_app]; exact own_set HF.out.2.2.1 (own_ne HF.out.2.2.1 HF.out.1 (by decide))
          · exact (heap_set_other (by omega)).trans HF.out.2.2.2.1
          · rw [size_set]; exact HF.out.2.2.2.2
          · exact HF.out.2.1.setCell (p := ⟨w.heap.size + 1, 1, none⟩) (Nat.le_add_right _ _) _
        case measure => simp [intOf]; omega
    · have dk : decide (k < m) = false := decide_eq_false hlt
      have hkm : k = m := by omega
      subst hkm
      have hr0 := HRE.out
      have zr := fun i => unfrozen hr0 i
      have s0 : wr.cell? ⟨w.heap.size, 0, none⟩ = some (.slice none 0 0) := (cell_at hr0 0).trans rfl
      have s1 : wr.cell? ⟨w.heap.size, 1, none⟩ = some (.slice none 0 0) := (cell_at hr0 1).trans rfl
      have HR0 := Lib.hid hr0
      clear hT hbl hk0 hk1 hbox ho hres hws hb hr0
      go_wp2_with fail
      have h1 := heap_set_at (o := 1) (u := Value.slice ba k bc') (heap_set_at (o := 0) (u := Value.slice ta k tc) HR0.out)
      have hBB := ((HB.out.setCell (p := ⟨w.heap.size, 0, none⟩) (Nat.le_refl _) (Value.slice ta k tc)).setCell (p := ⟨w.heap.size, 1, none⟩) (Nat.le_refl _) (Value.slice ba k bc'))
      have hOO := own_set (o := 1) (u := Value.slice ba k bc') (own_set (o := 0) (u := Value.slice ta k tc) HO.out (own_ne HO.out HR0.out (by decide))) (own_ne HO.out HR0.out (by decide))
      generalize (wr.setCell ⟨w.heap.size, 0, none⟩ (Value.slice ta k tc)).setCell ⟨w.heap.size, 1, none⟩ (Value.slice ba k bc') = w4 at *
      have t0 : w4.cell? ⟨w.heap.size, 0, none⟩ = some (.slice ta k tc) := (cell_at h1 0).trans rfl
      have t1 : w4.cell? ⟨w.heap.size, 1, none⟩ = some (.slice ba k bc') := (cell_at h1 1).trans rfl
      exact bodyPost_ret (v := .agg #[.slice ta k tc, .slice ba k bc']) (by simp [results, Tryz.results87, go_sem, t0, t1]) rfl ⟨bs, ba, bc', rfl, HBL.out, HT.out, own_rd_ib hOO, fun d hd => by subst hd; have := hOO.lt _ rfl; have := HZ.out; exact ⟨by omega, by omega⟩, hBB⟩

end Go.Proofs.YtkgakgceamafcaaGreat

namespace Go.Proofs.YtkgakgceamafcaaGreat
open Go Go.RowKit Go.Shelf
set_option linter.unusedVariables false
attribute [local go_sem] Oper.semAt_some

/-- What the iterator over places reads: its boxes, the text that is sought, its table, and the other text. -/
structure PlQ (B1 B2 : Nat) (p b : List UInt8) (ta ba sa : Option Addr) (tc m bc' L sc : Nat) (bs : List Nat) (W : World) : Prop where
  c0 : W.cell? ⟨B1, 0, none⟩ = some (.slice ta m tc)
  c1 : W.cell? ⟨B1, 1, none⟩ = some (.slice ba m bc')
  c2 : W.cell? ⟨B2, 0, none⟩ = some (.slice sa L sc)
  lt1 : B1 < W.heap.size
  lt2 : B2 < W.heap.size
  txt : Rd W 1 ta p.length (bc p)
  rd : Rd W 1 ba m (ib bs)
  byt : Rd W 1 sa b.length (bc b)
theorem PlQ.below {B1 B2 : Nat} {p b : List UInt8} {ta ba sa : Option Addr} {tc m bc' L sc : Nat} {bs : List Nat} {W W' : World} (h : PlQ B1 B2 p b ta ba sa tc m bc' L sc bs W) (hb : Below W.heap.size W W') : PlQ B1 B2 p b ta ba sa tc m bc' L sc bs W' :=
  ⟨(hb.cell (p := ⟨B1, 0, none⟩) h.lt1).trans h.c0, (hb.cell (p := ⟨B1, 1, none⟩) h.lt1).trans h.c1, (hb.cell (p := ⟨B2, 0, none⟩) h.lt2).trans h.c2, Nat.lt_of_lt_of_le h.lt1 hb.size, Nat.lt_of_lt_of_le h.lt2 hb.size, h.txt.below hb, h.rd.below hb, h.byt.below hb⟩
abbrev encN (x : Nat) : Array Value := #[.int .i64 (x : Int)]

set_option maxRecDepth 100000 in
set_option maxHeartbeats 4000000 in
theorem places_iter (n n₀ B1 B2 : Nat) {D0 : Bls} {w : World} {p b : List UInt8} {ta ba sa : Option Addr} {tc m bc' L sc : Nat} {bs : List Nat} (hD0 : Have D0 w) (hT : Tab p bs) (hpl : p.length = m) (hbs : bs.length = m) (hL : b.length = L) (hm : m ≤ 100000) (hbl : L ≤ 1000000) :
    IterQ (PlQ B1 B2 p b ta ba sa tc m bc' L sc bs) Fence.wide n Tryz.prog 169 #[.pointer (some ⟨B1, 0, none⟩), .pointer (some ⟨B2, 0, none⟩)] encN n₀ (fun ys => ys = allOf p b) (fun pre => pre <+: allOf p b) (fun pre x => (allOf p b)[pre.length]? = some x) D0 w := fun l J Jx W hW hJ hJx hQ hY h0 => by
  have hq0 := hQ _ _ _ h0
  have c0' := hq0.c0
  have c1' := hq0.c1
  have c2' := hq0.c2
  have hDW : Have D0 W := fun k h => Nat.lt_of_lt_of_le (hD0 k h) hW.size
  have HL := Lib.hid hL
  have HSK := Lib.hid (And.intro hT (And.intro hpl hbs))
  clear hq0 hT hpl hbs hL
  refine callsIn_of_wp Tryz.func169 rfl trivial ?_ rfl
  simp only [Tryz.ntmps169, List.size_toArray, List.length_cons, List.length_nil, Nat.reduceAdd, Nat.reduceSub, Array.replicate_succ, Array.replicate_zero, List.push_toArray, List.append_toArray, List.nil_append, List.cons_append]
  by_cases hm0 : m = 0
  · have dm : ((m : Int) == 0) = true := by simp; omega
    have dm' : (m == 0) = true := by simp; omega
    have hp0 : p = [] := List.eq_nil_of_length_eq_zero (by rw [HSK.out.2.1]; exact hm0)
    have HA : Hid (allOf p b = []) := by show _ = _; unfold allOf; rw [if_pos hp0]
    have HJ0 := Lib.hid h0
    subst hm0
    clear hp0 h0
    gi_wp2
    refine bodyPost_ret (results_none rfl _ _ _) rfl ?_
    exact ⟨⟨_, rfl⟩, .inl (by first | exact ⟨_, _, HA.out.symm, HJ0.out⟩ | exact ⟨_, by rw [HA.out]; exact HJ0.out⟩)⟩
  · have dm : ((m : Int) == 0) = false := by simp; omega
    have dm' : (m == 0) = false := by simp; omega
    have hpn : p ≠ [] := fun e => hm0 (by have := HSK.out.2.1; rw [e] at this; exact this.symm)
    have HA : Hid (allOf p b = upTo p b L) := by show _ = _; unfold allOf; rw [if_neg hpn, HL.out]
    have HU := Lib.hid (upTo_zero (b := b) hpn)
    have HJ0 := Lib.hid h0
    clear hpn h0
    gi_wp2
    gi_loopw [4, 13] (fun v4 v13 wr => ∃ k n : Nat, v4 = .int .i64 (n : Int) ∧ v13 = .int .i64 (k : Int) ∧ k ≤ L ∧ Lg p (b.take k) n ∧ J (upTo p b k) D0 wr ∧ W.heap.size ≤ wr.heap.size) (fun _ v13 _ => L - (intOf v13).toNat)
    case atStart => exact ⟨0, 0, rfl, rfl, Nat.zero_le _, by rw [List.take_zero]; exact lg_nil p, by rw [HU.out]; exact HJ0.out, Nat.le_refl _⟩
    case round =>
      obtain ⟨k, n1, rfl, rfl, hk, hLg, hJs, hsz⟩ := hrel
      have hqr := hQ _ _ _ hJs
      have r0 := hqr.c0
      have r1 := hqr.c1
      by_cases hlt2 : k < L
      · have dk : decide (k < L) = true := decide_eq_true hlt2
        have hkb : k < b.length := by rw [HL.out]; exact hlt2
        have hrd := hqr.byt
        obtain ⟨sg, soff, rfl, hsg, hsc⟩ := rd_at hrd hkb
        obtain ⟨x, hx⟩ : ∃ x, lb b k = x := ⟨_, rfl⟩
        rw [hx] at hsc
        obtain ⟨ch, hch⟩ : ∃ ch, b[k]? = some ch := ⟨_, List.getElem?_eq_getElem hkb⟩
        have hxc : (ch.toNat : Int) = x := by rw [← hx]; exact (lb_some hch).symm
        have hn1 : n1 ≤ m := by rw [← HSK.out.2.1]; exact hLg.le
        have HFu := Lib.hid ((callsIn_wide (n := n - 1)).2 (further_of (c := ch) (tc := tc) (bc' := bc') hqr.txt (by rw [HSK.out.2.2]; exact hqr.rd) HSK.out.2.1 HSK.out.2.2 hxc (by omega) (by omega) (Nat.le_refl _) HSK.out.1 hn1 hLg))
        have HTS : Hid (b.take k ++ [ch] = b.take (k + 1)) := by show _ = _; rw [List.take_add_one, hch]; rfl
        have HKB := Lib.hid hkb
        have HJS := Lib.hid hJs
        have hl1 := hqr.lt1
        clear hrd hx hch hxc hqr hLg hJs
        gi_wp2
        refine ⟨trivial, fun h => by simp [Fence.wide] at h, HFu.out.mono ?_⟩
        rintro e w2 ⟨n2, rfl, hL2, hb2⟩
        rw [HTS.out] at hL2
        have hocc := occ_bor HKB.out hL2
        rw [HSK.out.2.1] at hocc
        have hJ2 := hJ.below HJS.out hb2
        have hsz2 : W.heap.size ≤ w2.heap.size := Nat.le_trans hsz hb2.size
        have s0 := (hb2.cell (p := ⟨B1, 0, none⟩) hl1).trans r0
        have HL2 := Lib.hid hL2
        by_cases hnm : n2 = m
        · have hoc := hocc.1 hnm
          have dn : (n2 == m) = true := by simpa using hnm
          have dn' : ((n2 : Int) == (m : Int)) = true := by simp; omega
          obtain ⟨q, hq⟩ : ∃ q, k + 1 - m = q := ⟨_, rfl⟩
          have hqi : (k : Int) + 1 - (n2 : Int) = (q : Int) := by omega
          have hyes := upTo_yes (p := p) (b := b) (k := k) (by rw [HSK.out.2.1]; exact hoc.1) (by rw [HSK.out.2.1]; exact hoc.2)
          rw [HSK.out.2.1, hq] at hyes
          have hpre : upTo p b k ++ [q] <+: allOf p b := by rw [← hyes, HA.out]; exact upTo_pre (by omega)
          obtain ⟨fn, tmps, assign, body, hy, hR⟩ := hY _ q _ w2 hJ2 (fun k' h => Nat.lt_of_lt_of_le (hDW k' h) hsz2) (pre_at hpre)
          have HP := Lib.hid (And.intro hpre hyes)
          have hwq : IntKind.i64.wrap ((k : Int) + 1 - (n2 : Int)) = (q : Int) := by rw [hqi, IntKind.wrap_i64]; omega
          simp only [encN] at hy
          clear hocc hoc hyes hpre hJ2 hq hnm HFu hwq
          gi_wp2
          refine ⟨fun h => by simp [Fence.wide] at h, hR.mono ?_⟩
          rintro e W3 ⟨hs3, (⟨rfl, hJ3, hk3⟩ | ⟨rfl, hJx3⟩)⟩
          · gi_wp2
            go_roundw
            case rel => exact ⟨k + 1, n2, rfl, by go_num, by omega, HL2.out, by rw [HP.out.2]; exact hJ3, Nat.le_trans hsz2 hk3.size⟩
            case measure => simp [intOf]; omega
          · gi_wp2
            refine bodyPost_ret (results_none rfl _ _ _) rfl ?_
            exact ⟨⟨_, rfl⟩, .inr ⟨_, _, HP.out.1, hJx3⟩⟩
        · have hno := upTo_no (p := p) (b := b) (k := k) (fun h => hnm (hocc.2 (by rw [HSK.out.2.1] at h; exact h)))
          have dn : (n2 == m) = false := by simpa using hnm
          have dn' : ((n2 : Int) == (m : Int)) = false := by simp; omega
          have HJ2 := Lib.hid hJ2
          have HNO := Lib.hid hno
          clear hocc hnm HFu hJ2 hno
          gi_wp2
          refine ⟨(fun _ h => by cases h), ?_⟩
          gi_wp2
          go_roundw
          case rel => exact ⟨k + 1, n2, rfl, by go_num, by omega, HL2.out, by rw [HNO.out]; exact HJ2.out, hsz2⟩
          case measure => simp [intOf]; omega
      · obtain rfl : k = L := by omega
        have HJ := Lib.hid hJs
        clear hJs hqr
        have dk : decide (k < k) = false := by simp
        gi_wp2
        go_end0
        exact ⟨⟨_, rfl⟩, .inl ⟨_, _, HA.out.symm, HJ.out⟩⟩

end Go.Proofs.YtkgakgceamafcaaGreat

namespace Go.Proofs.YtkgakgceamafcaaGreat
open Go Go.RowKit Go.Shelf
set_option linter.unusedVariables false
attribute [local go_sem] Oper.semAt_some

set_option maxRecDepth 100000 in
set_option maxHeartbeats 2000000 in
theorem places_call {w : World} (ta ba sa : Option Addr) (m tc bc' L sc : Nat) :
    Calls Tryz.prog 137 #[.agg #[.slice ta m tc, .slice ba m bc'], .slice sa L sc] w fun e w' => e = .returned (.func (.func 169) #[] #[pbox w.heap.size, pbox (w.heap.size + 1)]) ∧ Below w.heap.size w w' ∧ w'.heap.size = w.heap.size + 2 ∧
      w'.cell? ⟨w.heap.size, 0, none⟩ = some (.slice ta m tc) ∧ w'.cell? ⟨w.heap.size, 1, none⟩ = some (.slice ba m bc') ∧ w'.cell? ⟨w.heap.size + 1, 0, none⟩ = some (.slice sa L sc) := by
  go_enter Tryz.func137, Tryz.ntmps137
  go_wp2_with fail
  go_ret
  obtain ⟨h1, h2, h3⟩ := allocs_w [Obj.cells #[.slice ta m tc, .slice ba m bc'] 163, Obj.cells #[.slice sa L sc] 32] w
  exact ⟨rfl, h1, h2, (cell_at (h3 0 (by simp)) 0).trans rfl, (cell_at (h3 0 (by simp)) 1).trans rfl, (cell_at (h3 1 (by simp)) 0).trans rfl⟩

set_option maxRecDepth 100000 in
set_option maxHeartbeats 2000000 in
theorem apart_call {w : World} (ta ba sa : Option Addr) (m tc bc' L sc : Nat) :
    Calls Tryz.prog 135 #[.agg #[.slice ta m tc, .slice ba m bc'], .slice sa L sc] w fun e w' => e = .returned (.func (.func 167) #[] #[pbox w.heap.size, pbox (w.heap.size + 1)]) ∧ Below w.heap.size w w' ∧ w'.heap.size = w.heap.size + 2 ∧
      w'.cell? ⟨w.heap.size, 0, none⟩ = some (.slice ta m tc) ∧ w'.cell? ⟨w.heap.size, 1, none⟩ = some (.slice ba m bc') ∧ w'.cell? ⟨w.heap.size + 1, 0, none⟩ = some (.slice sa L sc) := by
  go_enter Tryz.func135, Tryz.ntmps135
  go_wp2_with fail
  go_ret
  obtain ⟨h1, h2, h3⟩ := allocs_w [Obj.cells #[.slice ta m tc, .slice ba m bc'] 163, Obj.cells #[.slice sa L sc] 32] w
  exact ⟨rfl, h1, h2, (cell_at (h3 0 (by simp)) 0).trans rfl, (cell_at (h3 0 (by simp)) 1).trans rfl, (cell_at (h3 1 (by simp)) 0).trans rfl⟩

/-- What apart's loop keeps. -/
def ApI (J : List Nat → Bls → World → Prop) (A : List Nat) (m eb : Nat) (D1 : Bls) (w2 : World) (s : List Nat) (E : Bls) (W : World) : Prop :=
  s = A.take s.length ∧ (∀ k, E k → ¬ D1 k ∧ k ≠ eb) ∧ Same D1 w2 W ∧ W.heap[eb]? = some (.cells #[.int .i64 (endOf m 0 (apart m 0 s) : Int)] 3 (0, 0)) ∧ J (apart m 0 s) (fun k => E k ∨ (D1 k ∨ k = eb)) W
theorem ApI.firm {J : List Nat → Bls → World → Prop} (hJ : Firm J) {A : List Nat} {m eb : Nat} {D1 : Bls} {w2 : World} (hD : Have D1 w2) : Firm (ApI J A m eb D1 w2) := by
  rintro s D D' W W' ⟨h0, h1, h3, h5, h4⟩ hm hd
  have hel := lt_of_heap h5
  refine ⟨h0, fun k hk => (hd k hk).elim (h1 k) (fun h => ⟨fun h' => by have := h3.lt hD h'; omega, by omega⟩), fun k hk => (hm.block k (h3.lt hD hk) (fun h => (h1 k h).1 hk)).trans (h3 k hk), (hm.block eb hel (fun h => (h1 eb h).2 rfl)).trans h5, hJ _ _ _ _ _ h4 (hm.mono fun _ h => .inl h) (fun k hk => hk.elim (fun h => (hd k h).elim (fun h => .inl (.inl h)) .inr) (fun h => .inl (.inr h)))⟩
def ApX (Jx : List Nat → Bls → World → Prop) (Q : List Nat) (eb : Nat) (D1 : Bls) (w2 : World) (c : Code) (s : List Nat) (E : Bls) (W : World) : Prop :=
  c = .ret ∧ (∀ k, E k → ¬ D1 k ∧ k ≠ eb) ∧ eb < W.heap.size ∧ Same D1 w2 W ∧ ∃ q, q <+: Q ∧ Jx q (fun k => E k ∨ (D1 k ∨ k = eb)) W
theorem ApX.firm {Jx : List Nat → Bls → World → Prop} (hJ : Firm Jx) {Q : List Nat} {eb : Nat} {D1 : Bls} {w2 : World} (hD : Have D1 w2) (c : Code) : Firm (ApX Jx Q eb D1 w2 c) := by
  rintro s D D' W W' ⟨h0, h1, hel, h3, q, hq, h4⟩ hm hd
  refine ⟨h0, fun k hk => (hd k hk).elim (h1 k) (fun h => ⟨fun h' => by have := h3.lt hD h'; omega, by omega⟩), Nat.lt_of_lt_of_le hel hm.size, fun k hk => (hm.block k (h3.lt hD hk) (fun h => (h1 k h).1 hk)).trans (h3 k hk), q, hq, hJ _ _ _ _ _ h4 (hm.mono fun _ h => .inl h) (fun k hk => hk.elim (fun h => (hd k h).elim (fun h => .inl (.inl h)) .inr) (fun h => .inl (.inr h)))⟩

set_option maxRecDepth 100000 in
set_option maxHeartbeats 4000000 in
theorem apart_iter (n n₀ B1 B2 : Nat) {D0 : Bls} {w : World} {p b : List UInt8} {ta ba sa : Option Addr} {tc m bc' L sc : Nat} {bs : List Nat} (hD0 : Have D0 w) (hT : Tab p bs) (hpl : p.length = m) (hbs : bs.length = m) (hL : b.length = L) (hm : m ≤ 100000) (hbl : L ≤ 1000000) :
    IterQ (PlQ B1 B2 p b ta ba sa tc m bc' L sc bs) Fence.wide n Tryz.prog 167 #[pbox B1, pbox B2] encN n₀ (fun ys => ys = apart m 0 (allOf p b)) (fun pre => pre <+: apart m 0 (allOf p b)) (fun pre x => (apart m 0 (allOf p b))[pre.length]? = some x) D0 w := fun l J Jx W hW hJ hJx hQ hY h0 => by
  have hq0 := hQ _ _ _ h0
  have hDW : Have D0 W := fun k h => Nat.lt_of_lt_of_le (hD0 k h) hW.size
  obtain ⟨w1, hw1, hb1, hz1, hA, hB⟩ := two_blocks W (Obj.cells #[.func (.yield l) #[] #[]] 213) (Obj.cells #[.int .i64 0] 3)
  have HSK := Lib.hid (And.intro hT (And.intro hpl (And.intro hbs hL)))
  have HL := Lib.hid hL
  have HML := Lib.hid hpl
  have hq1 := hq0.below hb1
  have k0 := hq1.c0
  have k1 := hq1.c1
  have k2 := hq1.c2
  have HQ0 := Lib.hid hq0
  have HB1 := Lib.hid hb1
  have HA := Lib.hid hA
  have HB := Lib.hid hB
  have HZ := Lib.hid hz1
  have HPC := Lib.hid ((callsIn_wide (n := n - 1)).2 (places_call (w := w1) ta ba sa m tc bc' L sc))
  subst hw1
  clear hq0 hq1 hT hpl hbs hL hb1 hA hB hz1
  refine callsIn_of_wp_marks Tryz.func167 rfl trivial ?_ rfl
  simp only [Tryz.ntmps167, List.size_toArray, List.length_cons, List.length_nil, Nat.reduceAdd, Nat.reduceSub, Array.replicate_succ, Array.replicate_zero, List.push_toArray, List.append_toArray, List.nil_append, List.cons_append]
  gi_wp2
  refine ⟨trivial, fun h => by simp [Fence.wide] at h, HPC.out.mono ?_⟩
  rintro e w2 ⟨rfl, hb2, hz2, e0, e1, e2⟩
  generalize (W.alloc (Obj.cells #[.func (.yield l) #[] #[]] 213)).alloc (Obj.cells #[.int .i64 0] 3) = w1 at *
  gi_wp2
  obtain ⟨eb, heb⟩ : ∃ eb, W.heap.size + 1 = eb := ⟨_, rfl⟩
  have HEB := Lib.hid heb
  rw [heb] at HB ⊢
  obtain ⟨z, hz⟩ : ∃ z, w1.heap.size = z := ⟨_, rfl⟩
  have HZZ := Lib.hid hz
  rw [hz] at hz2 e0 e1 e2 ⊢
  obtain ⟨D1, hD1⟩ : ∃ D1 : Bls, D1 = fun k => k = W.heap.size ∨ k = z ∨ k = z + 1 := ⟨_, rfl⟩
  have y0 : D1 W.heap.size := by rw [hD1]; exact .inl rfl
  have y1 : D1 z := by rw [hD1]; exact .inr (.inl rfl)
  have y2 : D1 (z + 1) := by rw [hD1]; exact .inr (.inr rfl)
  have x1 (k : Nat) (h : D1 k) : k = W.heap.size ∨ k = z ∨ k = z + 1 := by rw [hD1] at h; exact h
  clear hD1
  have hzz : z = W.heap.size + 2 := by rw [← HZZ.out]; exact HZ.out
  have hb02 : Below W.heap.size W w2 := HB1.out.trans (hb2.mono HB1.out.size)
  have hD1h : Have D1 w2 := fun k h => by have := x1 k h; omega
  have hB2 : w2.heap[eb]? = some (.cells #[.int .i64 0] 3 (0, 0)) := (hb2.block eb (lt_of_at HB.out)).trans HB.out
  have hA2 : w2.heap[W.heap.size]? = some (.cells #[.func (.yield l) #[] #[]] 213 (0, 0)) := (hb2.block _ (lt_of_at HA.out)).trans HA.out
  refine range_outerQ (gf := 169) (lb := #[pbox z, pbox (z + 1)]) rfl (fun h => by simp [Fence.wide] at h) rfl trivial (enters_of Tryz.func169 (by kernel_rfl) rfl)
    (places_iter (n - 1) 0 z (z + 1) (D0 := fun _ => False) (w := w2) (fun k h => h.elim) HSK.out.1 HSK.out.2.1 HSK.out.2.2.1 HSK.out.2.2.2 hm hbl) (Nat.zero_le _) (Below.refl _ _) (fun k h => h.elim) (fun _ => rfl)
    (ApI J (allOf p b) m eb D1 w2) (ApX Jx (apart m 0 (allOf p b)) eb D1 w2) (ApI.firm hJ hD1h) (fun c => ApX.firm hJx hD1h c)
    (fun s E V ⟨_, _, m3, _, m4⟩ => ⟨(m3.cell (o := 0) y1).trans e0, (m3.cell (o := 1) y1).trans e1, (m3.cell (o := 0) y2).trans e2, m3.lt hD1h y1, m3.lt hD1h y2, (hQ _ _ _ m4).txt, (hQ _ _ _ m4).rd, (hQ _ _ _ m4).byt⟩)
    ⟨rfl, fun k h => h.elim, Same.refl _ _, hB2, hJ _ _ _ _ _ h0 (Moves.below hb02) (fun k h => h.elim (fun h => h.elim) (fun h => .inr (by rcases h with h | h; have := x1 k h; omega; omega)))⟩
    (fun x a' E W' => a' = { tmps := #[.func (.yield l) #[] #[], pbox B1, pbox B2, pbox W.heap.size, pbox eb, .int .i64 (x : Int), .agg #[.slice ta m tc, .slice ba m bc'], .slice sa L sc, .func (.func 169) #[] #[pbox z, pbox (z + 1)], .int .i64 (x : Int), undef, undef, undef, undef, undef, undef, undef, undef, undef, undef, undef, undef], defers := [] })
    (fun x a' E V l r o h _ => h) ?assign ?body ?done ?stop
  case assign =>
    intro l' pre x E V K hl' hi hE hK
    clear hzz
    simp only [encN]
    gi_wp2
    exact hK _ E _ (fun k h => h) hE (Same.refl _ _) (Below.refl _ _) hi rfl
  case body =>
    rintro lo pre x a' E V hEl ⟨r, hr⟩ hE ⟨hP, m1, m3, m5, m4⟩ rfl hN
    have hne (k : Nat) (h : D1 k) : k ≠ eb := by have := x1 k h; omega
    obtain ⟨hx1, hx2, _⟩ := all_lt (List.mem_of_getElem? hN)
    rw [HL.out] at hx1
    have hxm : x + m ≤ L := by rw [← HML.out]; exact hx1
    have hHD : Have (fun k => E k ∨ (D1 k ∨ k = eb)) V := fun k h => h.elim (hE k) (fun h => h.elim (m3.lt hD1h) (fun h => by rw [h]; exact lt_of_at m5))
    obtain ⟨e, he⟩ : ∃ e, endOf m 0 (apart m 0 pre) = e := ⟨_, rfl⟩
    rw [he] at m5
    have ce : V.cell? ⟨eb, 0, none⟩ = some (.int .i64 (e : Int)) := (cell_at m5 0).trans rfl
    have cy : V.cell? ⟨W.heap.size, 0, none⟩ = some (.func (.yield l) #[] #[]) := (m3.cell (o := 0) y0).trans ((cell_at hA2 0).trans rfl)
    have ct := (hQ _ _ _ m4).c0
    have HP := Lib.hid (And.intro hP hN)
    have HMM := Lib.hid (And.intro m1 (And.intro m3 (And.intro m4 m5)))
    have HHD := Lib.hid hHD
    have HNE := Lib.hid hne
    clear hzz hP hN m1 m3 m5 m4 hHD hx1 hx2 hne hB2 hA2 k0 k1 k2
    by_cases hxe : x < e
    · have dx : decide (x < e) = true := decide_eq_true hxe
      have dx' : decide ((x : Int) < (e : Int)) = true := decide_eq_true (by omega)
      have hsk := apart_skip (x := x) (l := pre) (by rw [he]; exact hxe)
      have HSKP := Lib.hid hsk
      have HE := Lib.hid he
      clear hsk he
      gi_wp2
      exact ⟨Same.refl _ _, Below.refl _ _, take_next HP.out.1 HP.out.2, HMM.out.1, HMM.out.2.1, by rw [HSKP.out, HE.out]; exact HMM.out.2.2.2, by rw [HSKP.out]; exact HMM.out.2.2.1⟩
    · have dx : decide (x < e) = false := decide_eq_false hxe
      have dx' : decide ((x : Int) < (e : Int)) = false := decide_eq_false (by omega)
      have htk := apart_take (x := x) (l := pre) (by rw [he]; exact hxe)
      have hpre : apart m 0 pre ++ [x] <+: apart m 0 (allOf p b) := by
        rw [← htk]
        have h1 := take_next HP.out.1 HP.out.2
        conv => rhs; rw [← List.take_append_drop (pre ++ [x]).length (allOf p b), ← h1]
        exact apart_pre m _ _ 0
      obtain ⟨fn, tmps, assign, body, hy, hR⟩ := hY _ x _ V HMM.out.2.2.1 HHD.out (pre_at hpre)
      have HTK := Lib.hid (And.intro htk hpre)
      simp only [encN] at hy
      clear htk hpre he
      gi_wp2
      refine ⟨fun h => by simp [Fence.wide] at h, RoundIn.mono (F := Fence.wide) ⟨hR.1, fun c cs _ => hR.2 c cs (room_wide _)⟩ ?_⟩
      rintro e' W3 ⟨hs, (⟨rfl, hJ3, hk3⟩ | ⟨rfl, hJx3⟩)⟩
      · have hb3 := (hs eb (.inr (.inr rfl))).trans HMM.out.2.2.2
        have ct3 := (hQ _ _ _ hJ3).c0
        have ce3 : W3.cell? ⟨eb, 0, none⟩ = some (.int .i64 (e : Int)) := (cell_at hb3 0).trans rfl
        have zz := unfrozen hb3 0
        have HB3 := Lib.hid hb3
        have HJ3 := Lib.hid (And.intro hs (And.intro hJ3 hk3))
        clear hb3 hs hJ3 hk3
        gi_wp2
        have hset : ∀ k, k ≠ eb → (W3.setCell ⟨eb, 0, none⟩ (Value.int .i64 ((x : Int) + (m : Int)))).heap[k]? = W3.heap[k]? := fun k hk => heap_set_other hk
        have hBel : Below 0 W3 (W3.setCell ⟨eb, 0, none⟩ (Value.int .i64 ((x : Int) + (m : Int)))) := (Below.refl _ _).setCell (p := ⟨eb, 0, none⟩) (Nat.zero_le _) _
        refine ⟨fun k hk => (hset k (HMM.out.1 k hk).2).trans (HJ3.out.1 k (.inl hk)), (HJ3.out.2.2.mono (Nat.zero_le _)).trans hBel, take_next HP.out.1 HP.out.2, HMM.out.1, fun k hk => (hset k (HNE.out k hk)).trans ((HJ3.out.1 k (.inr (.inl hk))).trans (HMM.out.2.1 k hk)), ?_, ?_⟩
        · rw [HTK.out.1, endOf_snoc, show ((x + m : Nat) : Int) = (x : Int) + (m : Int) by omega]; exact heap_set_at HB3.out
        · rw [HTK.out.1]
          exact hJ.go HJ3.out.2.1 ((Moves.refl _ _).set (.inr (.inr rfl)))
      · gi_wp2
        exact ⟨hs.mono fun _ h => .inl h, rfl, fun k h => HMM.out.1 k h, by have := hs eb (.inr (.inr rfl)); rw [HMM.out.2.2.2] at this; exact lt_of_at this, HMM.out.2.1.trans (hs.mono fun _ h => .inr (.inl h)), _, HTK.out.2, hJx3⟩
  case done =>
    rintro d ys E W3 hd hEd rfl ⟨_, m1, m3, m5, m4⟩ hK
    refine ⟨by simp, .inl ⟨_, _, rfl, run_takeDeferred hK, ?_⟩⟩
    refine ⟨_, results_none rfl _ _ _, ⟨_, rfl⟩, .inl ⟨_, _, rfl, hJ.go m4 (Moves.put _ (.inl hEd))⟩⟩
  case stop =>
    rintro d c pre E W3 hd hEd hSp ⟨rfl, m1, _, m3, q, hq, m4⟩ hK
    gi_wp2
    refine ⟨by simp, .inl ⟨_, _, rfl, run_takeDeferred hK, ?_⟩⟩
    exact ⟨_, results_none rfl _ _ _, ⟨_, rfl⟩, .inr ⟨_, _, hq, hJx.go m4 (Moves.put _ (.inl hEd))⟩⟩

end Go.Proofs.YtkgakgceamafcaaGreat
