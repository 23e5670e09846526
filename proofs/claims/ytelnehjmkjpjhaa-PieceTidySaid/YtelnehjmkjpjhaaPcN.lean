/-
  The example of layer 4, at this seat's numbers.
-/
import Derived.Test.YtelnehjmkjpjhaaPcM
import Derived.Test.YtelnehjmkjpjhaaPieD
import Derived.Deep.DeepCutAuto
namespace Go.Proofs.Ytelnehjmkjpjhaa
open Go Go.RowKit
set_option linter.unusedVariables false

theorem ex_five : ex [(0, 2), (2, 3)] = [0, 1, 2, 3, 4] := by decide
theorem ex_five1 : ex [(0, 5)] = [0, 1, 2, 3, 4] := by decide
theorem canon_five : canon [0, 1, 2, 3, 4] = [(0, 5)] := by decide
theorem del_five : delI [0, 1, 2, 3, 4] 1 3 = [0, 3, 4] := by decide
theorem sm_five : Sm [0, 1, 2, 3, 4] := by
  refine ⟨by decide, fun x hx => ?_⟩
  simp only [List.mem_cons, List.not_mem_nil, or_false] at hx
  omega
theorem of_five {w : World} {b c : Nat} {fr : Nat × Nat} {ty : TypeId} (h : w.heap[b]? = some (.cells #[.int .i64 0, .int .i64 2, .int .i64 2, .int .i64 3] ty fr)) :
    Calls Try.prog 17 #[.slice (some ⟨b, 0, none⟩) 2 c] w fun e w' => ∃ a n c', e = .returned (.agg #[.slice a n c']) ∧ Tx w' (.slice a n c') [0, 1, 2, 3, 4] ∧ n = 1 ∧ Below w.heap.size w w' := by
  have hr : Rd w 2 (some ⟨b, 0, none⟩) [((0 : Int), (2 : Int)), (2, 3)].length (spC [(0, 2), (2, 3)]) := ⟨by decide, fun _ => ⟨b, 0, rfl, lt_of_heap h, fun j u hj => by rw [Nat.zero_add, cell_at h]; simpa [spC] using hj⟩⟩
  refine (tof_of (c := c) hr (by decide) (by intro s hs; simp only [List.mem_cons, List.not_mem_nil, or_false] at hs; unfold In40; rcases hs with rfl | rfl <;> decide) (by rw [ex_five]; exact sm_five)).mono ?_
  rintro e w' ⟨v', rfl, hx, hb⟩
  rw [ex_five] at hx
  have hx2 := hx
  obtain ⟨a, c', rfl, -, -, -, -⟩ := hx2
  exact ⟨a, _, c', rfl, hx.tx, by rw [canon_five]; rfl, hb⟩
theorem of_five1 {w : World} {b c : Nat} {fr : Nat × Nat} {ty : TypeId} (h : w.heap[b]? = some (.cells #[.int .i64 0, .int .i64 5] ty fr)) :
    Calls Try.prog 17 #[.slice (some ⟨b, 0, none⟩) 1 c] w fun e w' => ∃ a n c', e = .returned (.agg #[.slice a n c']) ∧ Tx w' (.slice a n c') [0, 1, 2, 3, 4] ∧ Below w.heap.size w w' := by
  have hr : Rd w 2 (some ⟨b, 0, none⟩) [((0 : Int), (5 : Int))].length (spC [(0, 5)]) := ⟨by decide, fun _ => ⟨b, 0, rfl, lt_of_heap h, fun j u hj => by rw [Nat.zero_add, cell_at h]; simpa [spC] using hj⟩⟩
  refine (tof_of (c := c) hr (by decide) (by intro s hs; simp only [List.mem_cons, List.not_mem_nil, or_false] at hs; unfold In40; rcases hs with rfl; decide) (by rw [ex_five1]; exact sm_five)).mono ?_
  rintro e w' ⟨v', rfl, hx, hb⟩
  rw [ex_five1] at hx
  have hx2 := hx
  obtain ⟨a, c', rfl, -, -, -, -⟩ := hx2
  exact ⟨a, _, c', rfl, hx.tx, hb⟩
set_option maxRecDepth 100000 in
/-- The spans of a text, told. -/
theorem pspans_rd {w : World} {c : Nat} {a : Option Addr} {l : List (Int × Int)} (hr : Rd w 2 a l.length (spC l)) (hl : l.length ≤ 1000000) :
    Calls Try.prog 37 #[.agg #[.slice a l.length c]] w fun e w' => ∃ v', e = .returned v' ∧ w'.ownsRow w.heap.size 51 2 v' l.length (spC l) ∧ Below w.heap.size w w' := by
  have al := below_al w (Obj.cells #[Value.slice a l.length c] 27)
  have HB0 := Lib.hid al
  have hz0 := al.size
  have c0 : (w.alloc (Obj.cells #[Value.slice a l.length c] 27)).cell? ⟨w.heap.size, 0, none⟩ = some (.slice a l.length c) := by rw [cell_at (heap_alloc_new w _)]; rfl
  have HC : Hid (∀ w1, Below w.heap.size w w1 → Calls Try.prog 89 #[.slice a l.length c] w1 fun e w' => ∃ v', e = .returned v' ∧ w'.ownsRow w.heap.size 51 2 v' l.length (spC l) ∧ Below w.heap.size w w') := by
    intro w1 hb
    rcases a with _ | ad
    · refine (pclone_nil l.length c w1).mono ?_
      rintro e w' ⟨rfl, rfl⟩
      have h0 : l.length = 0 := by
        rcases Nat.eq_zero_or_pos l.length with h1 | h1
        · exact h1
        · obtain ⟨_, _, h2, _⟩ := hr.2 h1
          cases h2
      obtain rfl := List.eq_nil_of_length_eq_zero h0
      exact ⟨_, rfl, own_nil _ _ _ _, hb⟩
    · refine (pclone_some (w := w1) (ad := ad) (c := c) (fun j u hj => ?_) hl).mono ?_
      · have hpos : 0 < l.length := by
          have h2 := (List.getElem?_eq_some_iff.1 hj).1
          rw [spC_len] at h2; omega
        obtain ⟨g, off, h1, _, h3⟩ := (hr.below hb).2 hpos
        simp only [Option.some.injEq] at h1
        subst h1
        rw [Addr.add_lit]
        exact h3 j u hj
      · rintro e w' ⟨v', rfl, h1, h2⟩
        exact ⟨_, rfl, own_mono h1 hb.size, hb.trans (h2.mono hb.size)⟩
  clear hr hl al
  go_enter Try.func37, Try.ntmps37
  go_wp2_with fail
  refine (HC.out _ HB0.out).mono ?_; rintro e w2 ⟨v', rfl, ho2, hb2⟩
  have HO2 := Lib.hid ho2
  have HB2 := Lib.hid hb2
  clear ho2 hb2 c0
  go_wp2_with fail
  go_ret
  exact ⟨_, rfl, HO2.out, HB2.out⟩

set_option maxRecDepth 100000 in
set_option maxHeartbeats 4000000 in
theorem lspans_rd {w : World} {c : Nat} {a : Option Addr} {l : List (Int × Int)} (hr : Rd w 2 a l.length (spC l)) (hl : l.length ≤ 1000000) :
    Calls Try.prog 80 #[.agg #[.slice a l.length c]] w fun e w' => ∃ v', e = .returned v' ∧ w'.ownsRow w.heap.size 79 2 v' l.length (spC l) ∧ Below w.heap.size w w' := by
  obtain ⟨i0, hi0, hz0, hz1, hz2⟩ := info_parts info_rspan
  have al := below_al w (Obj.cells #[Value.slice a l.length c] 27)
  have HB0 := Lib.hid al
  have hz0' := al.size
  have c0 : (w.alloc (Obj.cells #[Value.slice a l.length c] 27)).cell? ⟨w.heap.size, 0, none⟩ = some (.slice a l.length c) := by rw [cell_at (heap_alloc_new w _)]; rfl
  have HC := Lib.hid (pspans_rd (c := c) (hr.below al) hl)
  have HL := Lib.hid hl
  clear hr hl al
  go_enter Try.func80, Try.ntmps80
  go_wp2_with fail
  refine HC.out.mono ?_; rintro e w2 ⟨v', rfl, ho2, hb2⟩
  obtain ⟨a2, c2, rfl⟩ := own_slice ho2
  have HO2 := Lib.hid ho2
  have HB2 := Lib.hid (HB0.out.trans (hb2.mono hz0'))
  have hz2' := hb2.size
  clear ho2 hb2 c0 HC HB0
  go_wp2_with fail
  have hzz : w.heap.size ≤ w2.heap.size := by omega
  clear hz0' hz2'
  go_loopw [3, 9] (fun v3 i wr => ∃ k : Nat, k ≤ l.length ∧ i = .int .i64 k ∧ wr.ownsRow w2.heap.size 79 2 v3 k (spC (l.take k)) ∧ Below w2.heap.size w2 wr) (fun _ i _ => l.length - (intOf i).toNat)
  case atStart => exact ⟨0, by omega, rfl, own_nil _ _ _ _, Below.refl _ _⟩
  case round =>
    obtain ⟨k, hk, rfl, ho, hb⟩ := hrel
    have HB := Lib.hid hb
    have HO := Lib.hid ho
    clear hb ho
    by_cases hlt : k < l.length
    · have dk : decide (k < l.length) = true := decide_eq_true hlt
      have hln := HL.out
      rcases own_form HO2.out with ⟨_, h00⟩ | ⟨g, rfl, hBg, hg⟩
      · omega
      have hsp := spC_at l k l[k] (List.getElem?_eq_getElem hlt)
      have f1 := HO2.out.cells (g := g) rfl _ _ hsp.1
      have f2 := HO2.out.cells (g := g) rfl _ _ hsp.2
      rw [Addr.add_lit] at f1 f2
      simp only [Nat.zero_add] at f1 f2
      replace f1 := (HB.out.cell (p := ⟨g, k * 2, none⟩) hg).trans f1
      replace f2 := (HB.out.cell (p := ⟨g, k * 2 + 1, none⟩) hg).trans f2
      have ht := spC_take hlt
      have HT := Lib.hid ht
      clear hsp ht
      generalize l[k].1 = x at *
      generalize l[k].2 = y at *
      have hzr := HB.out.size
      go_wp2_with (first
        | (at_builtin; refine wpList_append_own _ rfl (.tmp 13) (.tmp 19) 23 rfl w2.heap.size 79 i0 (.agg #[.int .i64 0, .int .i64 0]) 2 16 Try.underlying23 hi0 hz0 hz1 hz2 rfl (by decide) u3 k (spC (l.take k)) rfl ((HO.out.alloc _).alloc _) ⟨wr.heap.size + 1, 0, none⟩ 1 1 [.int .i64 x, .int .i64 y] rfl rfl ?c1 ?c2 ?c3 ?c4 ?c5 ?_)
        | fail)
      case c1 =>
        intro j u hj
        rw [Addr.add_lit, Nat.zero_add]
        have hn := heap_alloc_new (wr.alloc (Obj.cells #[Value.int IntKind.i64 x, Value.int IntKind.i64 y] 51)) (Obj.cells #[Value.int IntKind.i64 x, Value.int IntKind.i64 y] 79)
        rw [World.size_alloc] at hn
        rw [cell_at hn]
        simpa using hj
      case c2 =>
        intro u hu
        simp only [List.mem_cons, List.not_mem_nil, or_false] at hu
        rcases hu with rfl | rfl <;> rfl
      case c3 => unfold maxLen; omega
      case c4 => omega
      case c5 => simp only [World.size_alloc]; omega
      intro v7 wB ho7 hg7 _
      have HO7 := Lib.hid ho7
      have HBB := Lib.hid (((HB.out.alloc hzr _).alloc (by simp only [World.size_alloc]; omega) _).grown hg7 (by simp only [World.size_alloc]; omega) (fun q hq => (HO.out.lt q hq).1))
      clear ho7 hg7
      go_wp2_with fail
      go_roundw
      case rel => exact ⟨k + 1, hlt, by go_num, by rw [HT.out]; exact HO7.out, HBB.out⟩
      case measure => simp [intOf]; omega
    · have dk : decide (k < l.length) = false := decide_eq_false hlt
      obtain rfl : k = l.length := by omega
      rw [List.take_length] at HO
      have hB : Hid (Below w.heap.size w wr) := HB2.out.trans (HB.out.mono hzz)
      clear HO2 HB2 HB
      go_wp2_with fail
      go_ret
      exact ⟨_, rfl, own_mono HO.out hzz, hB.out⟩

theorem spans_five {w : World} {a : Option Addr} {n c : Nat} (h : Tx w (.slice a n c) [0, 1, 2, 3, 4]) :
    Calls Try.prog 37 #[.agg #[.slice a n c]] w fun e w' => ∃ g c', e = .returned (.slice (some ⟨g, 0, none⟩) 1 c') ∧ w'.cell? ⟨g, 0, none⟩ = some (.int .i64 0) ∧ w'.cell? ⟨g, 1, none⟩ = some (.int .i64 5) ∧ Below w.heap.size w w' := by
  obtain ⟨a', c', hv, hr, -, -, -⟩ := h
  simp only [Value.slice.injEq] at hv
  obtain ⟨rfl, rfl, rfl⟩ := hv
  refine (pspans_rd (c := c) hr (by rw [canon_five]; decide)).mono ?_
  rintro e w' ⟨v', rfl, ho, hb⟩
  rw [canon_five] at ho
  obtain ⟨g, c2, rfl, _, _⟩ := ho.form (by decide)
  exact ⟨g, c2, rfl, by have := ho.cells (g := g) rfl 0 (.int .i64 0) rfl; rwa [Addr.add_lit] at this, by have := ho.cells (g := g) rfl 1 (.int .i64 5) rfl; rwa [Addr.add_lit] at this, hb⟩

set_option maxRecDepth 100000 in
set_option maxHeartbeats 4000000 in
theorem awake4_of (w : World) : Calls Try.prog 23 #[] w fun e w' => e = .returned (.bool true) ∧ Below w.heap.size w w' := by
  have al := below_al w (Obj.cells #[Value.int .i64 0, Value.int .i64 2, Value.int .i64 2, Value.int .i64 3] 51)
  have HO1 := Lib.hid (of_five (c := 2) (heap_alloc_new w (Obj.cells #[Value.int .i64 0, Value.int .i64 2, Value.int .i64 2, Value.int .i64 3] 51)))
  have HB0 := Lib.hid al
  clear al
  go_enter Try.func23, Try.ntmps23
  go_wp2_with fail
  refine HO1.out.mono ?_; rintro e w1 ⟨a1, n1, c1, rfl, hx1, -, hb1⟩
  have HX1 := Lib.hid hx1
  have HB1 := Lib.hid (HB0.out.trans (hb1.mono (by simp)))
  clear hx1 hb1 HO1 HB0
  have al := below_al w1 (Obj.cells #[Value.slice a1 n1 c1] 27)
  have HXa := Lib.hid (HX1.out.below al)
  have HBa := Lib.hid (HB1.out.trans (al.mono HB1.out.size))
  have k1 : (w1.alloc (Obj.cells #[Value.slice a1 n1 c1] 27)).cell? ⟨w1.heap.size, 0, none⟩ = some (.slice a1 n1 c1) := by rw [cell_at (heap_alloc_new w1 _)]; rfl
  have HS1 := Lib.hid (spans_five HXa.out)
  have hzl : w1.heap.size < (w1.alloc (Obj.cells #[Value.slice a1 n1 c1] 27)).heap.size := by simp
  clear al HX1 HB1
  go_upto_region 3 with (go_at_call 37; go_loud (refine HS1.out.mono ?_; rintro e w2 ⟨g2, c2, rfl, q0, q1, hb2⟩; have HX2 := Lib.hid (HXa.out.below hb2); have HB2 := Lib.hid (HBa.out.trans (hb2.mono HBa.out.size)); have k2 := (hb2.cell (p := ⟨w1.heap.size, 0, none⟩) hzl).trans k1; have hz2 := Nat.lt_of_lt_of_le hzl hb2.size; clear hb2 k1 hzl))
  have hz2' : w2.heap.size ≤ w2.heap.size := Nat.le_refl _
  have ld1 := fun w' (h : Below w2.heap.size w2 w') => (h.cell (p := ⟨w1.heap.size, 0, none⟩) hz2).trans k2
  have ld2 := fun w' (h : Below w2.heap.size w2 w') => (h.cell (p := ⟨g2, 0, none⟩) (World.block_lt_of_cell? _ _ q0)).trans q0
  have ld3 := fun w' (h : Below w2.heap.size w2 w') => (h.cell (p := ⟨g2, 1, none⟩) (World.block_lt_of_cell? _ _ q1)).trans q1
  have C1 := Lib.hid (fun w' (h : Below w2.heap.size w2 w') => chain_of (tlen_of (HX2.out.below h)) h)
  have C2 := Lib.hid (fun w' (h : Below w2.heap.size w2 w') => of_five1 (c := 1) (heap_alloc_new w' (Obj.cells #[Value.int .i64 0, Value.int .i64 5] 51)))
  have C3 := Lib.hid (fun w' (h : Below w2.heap.size w2 w') v (hv : Tx w' v [0, 1, 2, 3, 4]) => chain_of (psame_of (HX2.out.below h) hv) h)
  have C4 := Lib.hid (fun w' (h : Below w2.heap.size w2 w') => delete_of 1 3 (HX2.out.below h) (by unfold I64; omega) (by unfold I64; omega) (by decide))
  rw [del_five] at C4
  have hb0 : Below w2.heap.size w2 w2.drew := (Below.refl _ _).drew
  clear k2 q0 q1
  have e5 : ((List.length [(0 : Int), 1, 2, 3, 4] : Nat) : Int) = 5 := rfl
  rw [e5] at C1
  go_region_held3 (fun w' => Below w2.heap.size w2 w')
    (first | assumption | exact Below.alloc (by assumption) (Below.size (by assumption)) _)
    ((first
      | (go_at_call 36; have Y4 := X4; clear Y4; refine (tlen_of X4.out).mono ?_; rintro e w7 ⟨rfl, hb7⟩; have hb8 := Below.trans (by assumption : Below w2.heap.size w2 w6) (hb7.mono (Below.size (by assumption))); clear hb7)
      | (go_at_call 36; refine (C1.out _ (by assumption)).mono ?_; rintro e w3 ⟨rfl, hb3, -⟩)
      | (go_at_call 17; refine (C2.out w3 (by assumption)).mono ?_; rintro e w4 ⟨a4, n4, c4, rfl, hx4, hb4⟩; have X3 := Lib.hid hx4; have hb4' := Below.trans (Below.alloc (by assumption : Below w2.heap.size w2 w3) (Below.size (by assumption)) _) (hb4.mono (by simp only [World.size_alloc]; have hzz := Below.size (by assumption : Below w2.heap.size w2 w3); omega)); clear hx4 hb4)
      | (go_at_call 20; refine (C3.out _ (by assumption) _ X3.out).mono ?_; rintro e w5 ⟨rfl, hb5, -⟩)
      | (go_at_call 28; refine (C4.out _ (by assumption)).mono ?_; rintro e w6 ⟨v6, rfl, hx6, hb6⟩; have X4 := Lib.hid hx6.tx; have hb6' := Below.trans (by assumption : Below w2.heap.size w2 w5) (hb6.mono (Below.size (by assumption))); clear hx6 hb6)))
  go_wp2_with fail
  go_ret
  exact ⟨rfl, HB2.out.trans (hb8.mono HB2.out.size)⟩

end Go.Proofs.Ytelnehjmkjpjhaa
