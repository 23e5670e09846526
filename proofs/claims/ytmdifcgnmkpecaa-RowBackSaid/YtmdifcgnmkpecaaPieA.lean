/-
  The contract of piece.join, at this seat's numbers.
-/
import Derived.Test.YtmdifcgnmkpecaaArI
import Derived.Test.YtmdifcgnmkpecaaArG
import Derived.Test.YtmdifcgnmkpecaaPieP
import Derived.Laws.OwnMore
namespace Go.Proofs.Ytmdifcgnmkpecaa
open Go Go.RowKit
set_option linter.unusedVariables false

theorem own_unfrozen {w : World} {B n c g s : Nat} {e : TypeId} {xs : List Value} (h : w.ownsRow B e s (.slice (some ⟨g, 0, none⟩) n c) n xs) (o : Nat) : w.frozen? ⟨g, o, none⟩ = false := by
  rcases h.2 with ⟨h', _⟩ | ⟨g', cap', cur, h', hb, hg, _⟩
  · simp at h'
  · simp only [Value.slice.injEq, Option.some.injEq, Addr.mk.injEq, and_true, true_and] at h'
    obtain ⟨rfl, rfl⟩ := h'
    exact unfrozen hg o
/-- The last span of a row grows. -/
theorem own_last {w : World} {B c g : Nat} (l : List (Int × Int)) (q : Int × Int) (a b : Int) (h : w.ownsRow B 39 2 (.slice (some ⟨g, 0, none⟩) (l.length + 1) c) (l.length + 1) (spC (l ++ [q]))) :
    ((w.setCell ⟨g, l.length * 2, none⟩ (.int .i64 a)).setCell ⟨g, l.length * 2 + 1, none⟩ (.int .i64 b)).ownsRow B 39 2 (.slice (some ⟨g, 0, none⟩) (l.length + 1) c) (l.length + 1) (spC (l ++ [(a, b)])) := by
  have h2 := ((h.stored (l.length * 2) (.int .i64 a)).1.stored (l.length * 2 + 1) (.int .i64 b)).1
  have e : ((spC (l ++ [q])).set (l.length * 2) (.int .i64 a)).set (l.length * 2 + 1) (.int .i64 b) = spC (l ++ [(a, b)]) := by
    rw [spC_snoc, spC_snoc, ← spC_len l, List.set_append_right _ _ (Nat.le_refl _), List.set_append_right _ _ (by omega)]
    simp
  rwa [e] at h2

theorem pjoin_skip {w : World} {a : Option Addr} {n c : Nat} (x y : Int) (hy : y < 1) :
    Calls Try.prog 64 #[.slice a n c, .agg #[.int .i64 x, .int .i64 y]] w fun e w' => e = .returned (.slice a n c) ∧ Below w.heap.size w w' := by
  have d1 : decide (y < 1) = true := decide_eq_true hy
  have HB := Lib.hid (below_al w (Obj.cells #[Value.int IntKind.i64 x, Value.int IntKind.i64 y] 39))
  go_enter Try.func64, Try.ntmps64
  go_wp2_with fail
  go_ret
  exact ⟨rfl, HB.out⟩

set_option maxRecDepth 100000 in
set_option maxHeartbeats 4000000 in
theorem pjoin_first {w : World} {B c : Nat} {a : Option Addr} (ho : w.ownsRow B 39 2 (.slice a 0 c) 0 (spC [])) (hB : B ≤ w.heap.size) (x y : Int) (hy : 1 ≤ y) :
    Calls Try.prog 64 #[.slice a 0 c, .agg #[.int .i64 x, .int .i64 y]] w fun e w' => ∃ v', e = .returned v' ∧ w'.ownsRow B 39 2 v' 1 (spC [(x, y)]) ∧ Below B w w' ∧ w.heap.size ≤ w'.heap.size := by
  have d1 : decide (y < 1) = false := decide_eq_false (by omega)
  obtain ⟨i0, hi0, hz0, hz1, hz2⟩ := info_parts info_span
  have HO := Lib.hid ho
  have HBB := Lib.hid hB
  clear ho hy
  have S0 := SpB.new w x y
  have s0 := S0.c0
  have s1 := S0.c1
  go_enter Try.func64, Try.ntmps64
  go_wp2_with (first
    | (at_builtin; refine wpList_append_own _ rfl (.tmp 32) (.tmp 34) 40 rfl B 39 i0 (.agg #[.int .i64 0, .int .i64 0]) 2 16 Try.underlying40 hi0 hz0 hz1 hz2 rfl (by decide) (.slice a 0 c) 0 (spC []) rfl ((HO.out.alloc _).alloc _) ⟨w.heap.size + 1, 0, none⟩ 1 1 [.int .i64 x, .int .i64 y] rfl rfl ?c1 ?c2 ?c3 ?c4 ?c5 ?_)
    | fail)
  case c1 =>
    intro j u hj
    rw [Addr.add_lit, Nat.zero_add]
    have hn := heap_alloc_new (w.alloc (Obj.cells #[Value.int IntKind.i64 x, Value.int IntKind.i64 y] 39)) (Obj.cells #[Value.int IntKind.i64 x, Value.int IntKind.i64 y] 39)
    rw [World.size_alloc] at hn
    rw [cell_at hn]
    simpa using hj
  case c2 =>
    intro u hu
    simp only [List.mem_cons, List.not_mem_nil, or_false] at hu
    rcases hu with rfl | rfl <;> rfl
  case c3 => unfold maxLen; omega
  case c4 => omega
  case c5 => have := HBB.out; simp only [World.size_alloc]; omega
  intro v7 wB ho7 hg7 _
  have HO7 := Lib.hid ho7
  have HG7 := Lib.hid hg7
  have HBelow : Hid (Below B w wB) := ((((Below.refl B w).alloc HBB.out _).alloc (by have := HBB.out; simp; omega) _).grown hg7 (by have := HBB.out; simp; omega) (fun q hq => (HO.out.lt q hq).1))
  clear ho7 hg7
  go_wp2_with fail
  go_ret
  exact ⟨v7, rfl, HO7.out, HBelow.out, by have := HG7.out.size; simp at this; omega⟩

set_option maxRecDepth 100000 in
set_option maxHeartbeats 4000000 in
theorem pjoin_more {w : World} {B c : Nat} {a : Option Addr} (l : List (Int × Int)) (q : Int × Int) (ho : w.ownsRow B 39 2 (.slice a (l.length + 1) c) (l.length + 1) (spC (l ++ [q]))) (hB : B ≤ w.heap.size) (x y : Int) (hy : 1 ≤ y)
    (hq1 : In40 q.1) (hq2 : In40 q.2) (hx : In40 x) (hy4 : In40 y) (hl : l.length ≤ 1000000) (hno : joinB q.1 q.2 x y = false) :
    Calls Try.prog 64 #[.slice a (l.length + 1) c, .agg #[.int .i64 x, .int .i64 y]] w fun e w' => ∃ v', e = .returned v' ∧ w'.ownsRow B 39 2 v' (l.length + 1 + 1) (spC (l ++ [q]) ++ [.int .i64 x, .int .i64 y]) ∧ Below B w w' ∧ w.heap.size ≤ w'.heap.size := by
  have d1 : decide (y < 1) = false := decide_eq_false (by omega)
  obtain ⟨i0, hi0, hz0, hz1, hz2⟩ := info_parts info_span
  rcases own_form ho with ⟨_, h00⟩ | ⟨g, rfl, hBg, hg⟩
  · omega
  have hsp := spC_at (l ++ [q]) l.length q (by simp)
  have f1 := ho.cells (g := g) rfl _ _ hsp.1
  have f2 := ho.cells (g := g) rfl _ _ hsp.2
  rw [Addr.add_lit] at f1 f2
  simp only [Nat.zero_add] at f1 f2
  have HO := Lib.hid ho
  have HBB := Lib.hid hB
  have HJ := Lib.hid (fun (W w' : World) (hw : Below W.heap.size W w') => chain_of (join_of q.1 q.2 x y w' hq1 hq2 hx hy4) hw)
  unfold joinR retJ at HJ
  rw [hno, if_neg (by simp)] at HJ
  generalize q.1 = q1 at *
  generalize q.2 = q2 at *
  generalize spC (l ++ [q]) = sl at *
  generalize l.length = n at *
  clear ho hy hsp hq1 hq2 hx hy4 hno hB
  have d2 : decide ((0 : Int) ≤ (n : Int)) = true := decide_eq_true (by omega)
  have S0 := SpB.new w x y
  have hwg : g < w.heap.size := hg
  go_enter Try.func64, Try.ntmps64
  go_upto_region 5 with fail
  have HB1 := Lib.hid (below_al w (Obj.cells #[Value.int IntKind.i64 x, Value.int IntKind.i64 y] 39))
  have HO1 := Lib.hid (HO.out.alloc (Obj.cells #[Value.int IntKind.i64 x, Value.int IntKind.i64 y] 39))
  have f1' := (HB1.out.cell (p := ⟨g, n * 2, none⟩) hwg).trans f1
  have f2' := (HB1.out.cell (p := ⟨g, n * 2 + 1, none⟩) hwg).trans f2
  have hgw : g < (w.alloc (Obj.cells #[Value.int IntKind.i64 x, Value.int IntKind.i64 y] 39)).heap.size := by simp only [World.size_alloc]; omega
  have hzw : w.heap.size < (w.alloc (Obj.cells #[Value.int IntKind.i64 x, Value.int IntKind.i64 y] 39)).heap.size := by simp
  clear f1 f2
  generalize w.alloc (Obj.cells #[Value.int IntKind.i64 x, Value.int IntKind.i64 y] 39) = wn at *
  go_cut [6, 7] (fun s6 s7 wx => ∃ gb : Nat, s6 = .pointer (some ⟨gb, 0, none⟩) ∧ s7 = .bool false ∧ Below wn.heap.size wn wx)
  case first =>
    have ld1 := fun w' (hb : Below wn.heap.size wn w') => (S0.below (w' := w') hb).c0
    have ld2 := fun w' (hb : Below wn.heap.size wn w') => (S0.below (w' := w') hb).c1
    have ld3 := fun w' (hb : Below wn.heap.size wn w') => (hb.cell (p := ⟨g, n * 2, none⟩) hgw).trans f1'
    have ld4 := fun w' (hb : Below wn.heap.size wn w') => (hb.cell (p := ⟨g, n * 2 + 1, none⟩) hgw).trans f2'
    have hb0 : Below wn.heap.size wn wn.drew := (Below.refl _ wn).drew
    clear f1' f2' HO1 HB1 HBB HO S0
    have hq0 : (0 : Int) ≤ (n : Int) := by omega
    have hq1 : (n : Int) < (n : Int) + 1 := by omega
    go_region_held3 (fun w' => Below wn.heap.size wn w')
      (first | assumption | exact Below.alloc (by assumption) (Below.size (by assumption)) _ | exact below_two (by assumption) (by first | assumption | omega) _ _)
      ((go_at_call 90; refine (HJ.out wn _ (by first | assumption | exact Below.alloc (by assumption) (Below.size (by assumption)) _)).mono ?_; rintro e w' ⟨rfl, hB, hb⟩; have hup := hB.size; have hul := (fun (b : Nat) h => Nat.lt_of_lt_of_le (n := b) h hb.size); (try have hal : wn.heap.size < w'.heap.size := by (have hzs := hb.size; simp only [World.size_drew, World.size_alloc] at hzs; omega)); (try have hal : wn.heap.size < w'.heap.size := by (have hzs := hb.size; omega)); obtain ⟨hcc, hff⟩ := bcell hb; clear hb))
    all_goals go_wp2_with fail
    all_goals go_meet
    all_goals (refine ⟨_, rfl, rfl, ?_⟩ <;> first | assumption | (go_simp; done) | (simp; done))
  case rest =>
    obtain ⟨gb, rfl, rfl, hbw⟩ := hcut
    have HOc := Lib.hid (own_below HO1.out hbw)
    have HBc := Lib.hid (HB1.out.trans (hbw.mono HB1.out.size))
    have Sc := S0.below hbw
    have s0 := Sc.c0
    have s1 := Sc.c1
    have hzc := HBc.out.size
    have hBw := HBB.out
    clear f1' f2' HO1 HB1 HBB HO S0 hbw Sc HJ hgw hzw
    go_wp2_with (first
      | (at_builtin; refine wpList_append_own _ rfl (.tmp 32) (.tmp 34) 40 rfl B 39 i0 (.agg #[.int .i64 0, .int .i64 0]) 2 16 Try.underlying40 hi0 hz0 hz1 hz2 rfl (by decide) (.slice (some ⟨g, 0, none⟩) (n + 1) c) (n + 1) sl rfl (HOc.out.alloc _) ⟨wc.heap.size, 0, none⟩ 1 1 [.int .i64 x, .int .i64 y] rfl rfl ?c1 ?c2 ?c3 ?c4 ?c5 ?_)
      | fail)
    case c1 =>
      intro j u hj
      rw [Addr.add_lit, Nat.zero_add]
      rw [cell_at (heap_alloc_new wc _)]
      simpa using hj
    case c2 =>
      intro u hu
      simp only [List.mem_cons, List.not_mem_nil, or_false] at hu
      rcases hu with rfl | rfl <;> rfl
    case c3 => unfold maxLen; omega
    case c4 => omega
    case c5 => simp only [World.size_alloc]; omega
    intro v7 wB ho7 hg7 _
    have HO7 := Lib.hid ho7
    have HG7 := Lib.hid hg7
    have HBelow : Hid (Below B w wB) := (((HBc.out.mono (by omega : B ≤ w.heap.size)).alloc (by omega) _).grown hg7 (by simp only [World.size_alloc]; omega) (fun q hq => (HOc.out.lt q hq).1))
    clear ho7 hg7
    go_wp2_with fail
    go_ret
    exact ⟨v7, rfl, HO7.out, HBelow.out, by have := HG7.out.size; simp only [World.size_alloc] at this; omega⟩

set_option maxRecDepth 100000 in
set_option maxHeartbeats 4000000 in
theorem pjoin_glue {w : World} {B c : Nat} {a : Option Addr} (l : List (Int × Int)) (q : Int × Int) (ho : w.ownsRow B 39 2 (.slice a (l.length + 1) c) (l.length + 1) (spC (l ++ [q]))) (hB : B ≤ w.heap.size) (x y : Int) (hy : 1 ≤ y)
    (hq1 : In40 q.1) (hq2 : In40 q.2) (hx : In40 x) (hy4 : In40 y) (hl : l.length ≤ 1000000) (hno : joinB q.1 q.2 x y = true) :
    Calls Try.prog 64 #[.slice a (l.length + 1) c, .agg #[.int .i64 x, .int .i64 y]] w fun e w' => ∃ v', e = .returned v' ∧ w'.ownsRow B 39 2 v' (l.length + 1) (spC (l ++ [(q.1, q.2 + y)])) ∧ Below B w w' ∧ w.heap.size ≤ w'.heap.size := by
  have d1 : decide (y < 1) = false := decide_eq_false (by omega)
  obtain ⟨i0, hi0, hz0, hz1, hz2⟩ := info_parts info_span
  rcases own_form ho with ⟨_, h00⟩ | ⟨g, rfl, hBg, hg⟩
  · omega
  have hsp := spC_at (l ++ [q]) l.length q (by simp)
  have f1 := ho.cells (g := g) rfl _ _ hsp.1
  have f2 := ho.cells (g := g) rfl _ _ hsp.2
  rw [Addr.add_lit] at f1 f2
  simp only [Nat.zero_add] at f1 f2
  have HO := Lib.hid ho
  have HBB := Lib.hid hB
  have HJ := Lib.hid (fun (W w' : World) (hw : Below W.heap.size W w') => chain_of (join_of q.1 q.2 x y w' hq1 hq2 hx hy4) hw)
  unfold joinR retJ at HJ
  rw [hno, if_pos rfl] at HJ
  have HLast := Lib.hid (fun (w : World) h => own_last (w := w) (B := B) (c := c) (g := g) l q q.1 (q.2 + y) h)
  generalize spC (l ++ [q]) = sl at *
  generalize spC (l ++ [(q.1, q.2 + y)]) = sm at *
  generalize l.length = n at *
  generalize q.1 = q1 at *
  generalize q.2 = q2 at *
  clear ho hy hsp hq1 hq2 hx hy4 hno hB
  have d2 : decide ((0 : Int) ≤ (n : Int)) = true := decide_eq_true (by omega)
  have S0 := SpB.new w x y
  have hwg : g < w.heap.size := hg
  go_enter Try.func64, Try.ntmps64
  go_upto_region 5 with fail
  have HB1 := Lib.hid (below_al w (Obj.cells #[Value.int IntKind.i64 x, Value.int IntKind.i64 y] 39))
  have HO1 := Lib.hid (HO.out.alloc (Obj.cells #[Value.int IntKind.i64 x, Value.int IntKind.i64 y] 39))
  have f1' := (HB1.out.cell (p := ⟨g, n * 2, none⟩) hwg).trans f1
  have f2' := (HB1.out.cell (p := ⟨g, n * 2 + 1, none⟩) hwg).trans f2
  have hgw : g < (w.alloc (Obj.cells #[Value.int IntKind.i64 x, Value.int IntKind.i64 y] 39)).heap.size := by simp only [World.size_alloc]; omega
  have hzw : w.heap.size < (w.alloc (Obj.cells #[Value.int IntKind.i64 x, Value.int IntKind.i64 y] 39)).heap.size := by simp
  clear f1 f2
  generalize w.alloc (Obj.cells #[Value.int IntKind.i64 x, Value.int IntKind.i64 y] 39) = wn at *
  go_cut [6, 7] (fun s6 s7 wx => ∃ gb : Nat, s6 = .pointer (some ⟨gb, 0, none⟩) ∧ s7 = .bool true ∧ Below wn.heap.size wn wx ∧ wx.cell? ⟨gb, 0, none⟩ = some (.int .i64 q1) ∧ wx.cell? ⟨gb, 1, none⟩ = some (.int .i64 (q2 + y)))
  case first =>
    have ld1 := fun w' (hb : Below wn.heap.size wn w') => (S0.below (w' := w') hb).c0
    have ld2 := fun w' (hb : Below wn.heap.size wn w') => (S0.below (w' := w') hb).c1
    have ld3 := fun w' (hb : Below wn.heap.size wn w') => (hb.cell (p := ⟨g, n * 2, none⟩) hgw).trans f1'
    have ld4 := fun w' (hb : Below wn.heap.size wn w') => (hb.cell (p := ⟨g, n * 2 + 1, none⟩) hgw).trans f2'
    have hb0 : Below wn.heap.size wn wn.drew := (Below.refl _ wn).drew
    clear f1' f2' HO1 HB1 HBB HO S0
    have hq0 : (0 : Int) ≤ (n : Int) := by omega
    have hq1 : (n : Int) < (n : Int) + 1 := by omega
    go_region_held3 (fun w' => Below wn.heap.size wn w')
      (first | assumption | exact Below.alloc (by assumption) (Below.size (by assumption)) _ | exact below_two (by assumption) (by first | assumption | omega) _ _)
      ((go_at_call 90; refine (HJ.out wn _ (by first | assumption | exact Below.alloc (by assumption) (Below.size (by assumption)) _)).mono ?_; rintro e w' ⟨rfl, hB, hb⟩; have hup := hB.size; have hul := (fun (b : Nat) h => Nat.lt_of_lt_of_le (n := b) h hb.size); (try have hal : wn.heap.size < w'.heap.size := by (have hzs := hb.size; simp only [World.size_drew, World.size_alloc] at hzs; omega)); (try have hal : wn.heap.size < w'.heap.size := by (have hzs := hb.size; omega)); obtain ⟨hcc, hff⟩ := bcell hb; clear hb))
    all_goals go_wp2_with fail
    all_goals go_meet
    all_goals (refine ⟨_, rfl, rfl, ?_, ?_, ?_⟩ <;> first | assumption | (go_simp; done) | (simp; done) | exact two_c0 (a := .int .i64 0) (by go_simp) _ _ | exact two_c1 (a := .int .i64 0) (by go_simp) _ _)
  case rest =>
    obtain ⟨gb, rfl, rfl, hbw, k1, k2⟩ := hcut
    have HOc := Lib.hid (own_below HO1.out hbw)
    have HBc := Lib.hid (HB1.out.trans (hbw.mono HB1.out.size))
    have hgc : g < wc.heap.size := Nat.lt_of_lt_of_le hgw hbw.size
    have e1 := (hbw.cell (p := ⟨g, n * 2, none⟩) hgw).trans f1'
    have e2 := (hbw.cell (p := ⟨g, n * 2 + 1, none⟩) hgw).trans f2'
    have hq0 : (0 : Int) ≤ (n : Int) := by omega
    have hq1 : (n : Int) < (n : Int) + 1 := by omega
    have hzc := HBc.out.size
    have hBw := HBB.out
    clear f1' f2' HO1 HB1 HBB HO S0 hbw HJ
    have z1 := own_unfrozen HOc.out (n * 2)
    have z2 := own_unfrozen HOc.out (n * 2 + 1)
    go_wp2_with fail
    go_ret
    exact ⟨_, rfl, HLast.out _ HOc.out, ((HBc.out.mono hBw).setCell (p := ⟨g, n * 2, none⟩) hBg _).setCell (p := ⟨g, n * 2 + 1, none⟩) hBg _, by simp only [size_set]; omega⟩

end Go.Proofs.Ytmdifcgnmkpecaa
