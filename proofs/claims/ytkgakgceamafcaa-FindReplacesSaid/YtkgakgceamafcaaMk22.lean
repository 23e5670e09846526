/-
  Texts of this seat, put together (a claim holds few texts): PieA, PieB, PieC.
-/
import Derived.Test.YtkgakgceamafcaaMk21
import Derived.Laws.OwnMore
import Derived.Lib.SliceRun

namespace Go.Proofs.Ytkgakgceamafcaa
open Go Go.RowKit
set_option linter.unusedVariables false

theorem own_unfrozen {w : World} {B n c g s : Nat} {e : TypeId} {xs : List Value} (h : w.ownsRow B e s (.slice (some ⟨g, 0, none⟩) n c) n xs) (o : Nat) : w.frozen? ⟨g, o, none⟩ = false := by
  rcases h.2 with ⟨h', _⟩ | ⟨g', cap', cur, h', hb, hg, _⟩
  · simp at h'
  · simp only [Value.slice.injEq, Option.some.injEq, Addr.mk.injEq, and_true, true_and] at h'
    obtain ⟨rfl, rfl⟩ := h'
    exact unfrozen hg o
/-- The last span of a row grows. -/
theorem own_last {w : World} {B c g : Nat} (l : List (Int × Int)) (q : Int × Int) (a b : Int) (h : w.ownsRow B 91 2 (.slice (some ⟨g, 0, none⟩) (l.length + 1) c) (l.length + 1) (spC (l ++ [q]))) :
    ((w.setCell ⟨g, l.length * 2, none⟩ (.int .i64 a)).setCell ⟨g, l.length * 2 + 1, none⟩ (.int .i64 b)).ownsRow B 91 2 (.slice (some ⟨g, 0, none⟩) (l.length + 1) c) (l.length + 1) (spC (l ++ [(a, b)])) := by
  have h2 := ((h.stored (l.length * 2) (.int .i64 a)).1.stored (l.length * 2 + 1) (.int .i64 b)).1
  have e : ((spC (l ++ [q])).set (l.length * 2) (.int .i64 a)).set (l.length * 2 + 1) (.int .i64 b) = spC (l ++ [(a, b)]) := by
    rw [spC_snoc, spC_snoc, ← spC_len l, List.set_append_right _ _ (Nat.le_refl _), List.set_append_right _ _ (by omega)]
    simp
  rwa [e] at h2

theorem pjoin_skip {w : World} {a : Option Addr} {n c : Nat} (x y : Int) (hy : y < 1) :
    Calls Try.prog 66 #[.slice a n c, .agg #[.int .i64 x, .int .i64 y]] w fun e w' => e = .returned (.slice a n c) ∧ Below w.heap.size w w' := by
  have d1 : decide (y < 1) = true := decide_eq_true hy
  have HB := Lib.hid (below_al w (Obj.cells #[Value.int IntKind.i64 x, Value.int IntKind.i64 y] 91))
  go_enter Try.func66, Try.ntmps66
  go_wp2_with fail
  go_ret
  exact ⟨rfl, HB.out⟩

set_option maxRecDepth 100000 in
set_option maxHeartbeats 4000000 in
theorem pjoin_first {w : World} {B c : Nat} {a : Option Addr} (ho : w.ownsRow B 91 2 (.slice a 0 c) 0 (spC [])) (hB : B ≤ w.heap.size) (x y : Int) (hy : 1 ≤ y) :
    Calls Try.prog 66 #[.slice a 0 c, .agg #[.int .i64 x, .int .i64 y]] w fun e w' => ∃ v', e = .returned v' ∧ w'.ownsRow B 91 2 v' 1 (spC [(x, y)]) ∧ Below B w w' ∧ w.heap.size ≤ w'.heap.size := by
  have d1 : decide (y < 1) = false := decide_eq_false (by omega)
  obtain ⟨i0, hi0, hz0, hz1, hz2⟩ := info_parts info_span
  have HO := Lib.hid ho
  have HBB := Lib.hid hB
  clear ho hy
  have S0 := SpB.new w x y
  have s0 := S0.c0
  have s1 := S0.c1
  go_enter Try.func66, Try.ntmps66
  go_wp2_with (first
    | (at_builtin; refine wpList_append_own _ rfl (.tmp 32) (.tmp 34) 92 rfl B 91 i0 (.agg #[.int .i64 0, .int .i64 0]) 2 16 Try.underlying92 hi0 hz0 hz1 hz2 rfl (by decide) (.slice a 0 c) 0 (spC []) rfl ((HO.out.alloc _).alloc _) ⟨w.heap.size + 1, 0, none⟩ 1 1 [.int .i64 x, .int .i64 y] rfl rfl ?c1 ?c2 ?c3 ?c4 ?c5 ?_)
    | fail)
  case c1 =>
    intro j u hj
    rw [Addr.add_lit, Nat.zero_add]
    have hn := heap_alloc_new (w.alloc (Obj.cells #[Value.int IntKind.i64 x, Value.int IntKind.i64 y] 91)) (Obj.cells #[Value.int IntKind.i64 x, Value.int IntKind.i64 y] 91)
    rw [World.size_alloc] at hn
    rw [cell_at hn]
    simpa using hj
  case c2 =>
    intro u hu
    simp only [List.mem_cons, List.not_mem_nil, or_false] at hu
    rcases hu with rfl | rfl <;> rfl
  case c3 => unfold maxLen; omega
  case c4 => omega
  case c5 => have := HBB.out; simp only [World.size_alloc]; omega
  intro v7 wB ho7 hg7 _
  have HO7 := Lib.hid ho7
  have HG7 := Lib.hid hg7
  have HBelow : Hid (Below B w wB) := ((((Below.refl B w).alloc HBB.out _).alloc (by have := HBB.out; simp; omega) _).grown hg7 (by have := HBB.out; simp; omega) (fun q hq => (HO.out.lt q hq).1))
  clear ho7 hg7
  go_wp2_with fail
  go_ret
  exact ⟨v7, rfl, HO7.out, HBelow.out, by have := HG7.out.size; simp at this; omega⟩

set_option maxRecDepth 100000 in
set_option maxHeartbeats 4000000 in
theorem pjoin_more {w : World} {B c : Nat} {a : Option Addr} (l : List (Int × Int)) (q : Int × Int) (ho : w.ownsRow B 91 2 (.slice a (l.length + 1) c) (l.length + 1) (spC (l ++ [q]))) (hB : B ≤ w.heap.size) (x y : Int) (hy : 1 ≤ y)
    (hq1 : In40 q.1) (hq2 : In40 q.2) (hx : In40 x) (hy4 : In40 y) (hl : l.length ≤ 1000000) (hno : joinB q.1 q.2 x y = false) :
    Calls Try.prog 66 #[.slice a (l.length + 1) c, .agg #[.int .i64 x, .int .i64 y]] w fun e w' => ∃ v', e = .returned v' ∧ w'.ownsRow B 91 2 v' (l.length + 1 + 1) (spC (l ++ [q]) ++ [.int .i64 x, .int .i64 y]) ∧ Below B w w' ∧ w.heap.size ≤ w'.heap.size := by
  have d1 : decide (y < 1) = false := decide_eq_false (by omega)
  obtain ⟨i0, hi0, hz0, hz1, hz2⟩ := info_parts info_span
  rcases own_form ho with ⟨_, h00⟩ | ⟨g, rfl, hBg, hg⟩
  · omega
  have hsp := spC_at (l ++ [q]) l.length q (by simp)
  have f1 := ho.cells (g := g) rfl _ _ hsp.1
  have f2 := ho.cells (g := g) rfl _ _ hsp.2
  rw [Addr.add_lit] at f1 f2
  simp only [Nat.zero_add] at f1 f2
  have HO := Lib.hid ho
  have HBB := Lib.hid hB
  have HJ := Lib.hid (fun (W w' : World) (hw : Below W.heap.size W w') => chain_of (join_of q.1 q.2 x y w' hq1 hq2 hx hy4) hw)
  unfold joinR retJ at HJ
  rw [hno, if_neg (by simp)] at HJ
  generalize q.1 = q1 at *
  generalize q.2 = q2 at *
  generalize spC (l ++ [q]) = sl at *
  generalize l.length = n at *
  clear ho hy hsp hq1 hq2 hx hy4 hno hB
  have d2 : decide ((0 : Int) ≤ (n : Int)) = true := decide_eq_true (by omega)
  have S0 := SpB.new w x y
  have hwg : g < w.heap.size := hg
  go_enter Try.func66, Try.ntmps66
  go_upto_region 5 with fail
  have HB1 := Lib.hid (below_al w (Obj.cells #[Value.int IntKind.i64 x, Value.int IntKind.i64 y] 91))
  have HO1 := Lib.hid (HO.out.alloc (Obj.cells #[Value.int IntKind.i64 x, Value.int IntKind.i64 y] 91))
  have f1' := (HB1.out.cell (p := ⟨g, n * 2, none⟩) hwg).trans f1
  have f2' := (HB1.out.cell (p := ⟨g, n * 2 + 1, none⟩) hwg).trans f2
  have hgw : g < (w.alloc (Obj.cells #[Value.int IntKind.i64 x, Value.int IntKind.i64 y] 91)).heap.size := by simp only [World.size_alloc]; omega
  have hzw : w.heap.size < (w.alloc (Obj.cells #[Value.int IntKind.i64 x, Value.int IntKind.i64 y] 91)).heap.size := by simp
  clear f1 f2
  generalize w.alloc (Obj.cells #[Value.int IntKind.i64 x, Value.int IntKind.i64 y] 91) = wn at *
  go_cut [6, 7] (fun s6 s7 wx => ∃ gb : Nat, s6 = .pointer (some ⟨gb, 0, none⟩) ∧ s7 = .bool false ∧ Below wn.heap.size wn wx)
  case first =>
    have ld1 := fun w' (hb : Below wn.heap.size wn w') => (S0.below (w' := w') hb).c0
    have ld2 := fun w' (hb : Below wn.heap.size wn w') => (S0.below (w' := w') hb).c1
    have ld3 := fun w' (hb : Below wn.heap.size wn w') => (hb.cell (p := ⟨g, n * 2, none⟩) hgw).trans f1'
    have ld4 := fun w' (hb : Below wn.heap.size wn w') => (hb.cell (p := ⟨g, n * 2 + 1, none⟩) hgw).trans f2'
    have hb0 : Below wn.heap.size wn wn.drew := (Below.refl _ wn).drew
    clear f1' f2' HO1 HB1 HBB HO S0
    have hq0 : (0 : Int) ≤ (n : Int) := by omega
    have hq1 : (n : Int) < (n : Int) + 1 := by omega
    go_region_held3 (fun w' => Below wn.heap.size wn w')
      (first | assumption | exact Below.alloc (by assumption) (Below.size (by assumption)) _ | exact below_two (by assumption) (by first | assumption | omega) _ _)
      ((go_at_call 78; refine (HJ.out wn _ (by first | assumption | exact Below.alloc (by assumption) (Below.size (by assumption)) _)).mono ?_; rintro e w' ⟨rfl, hB, hb⟩; have hup := hB.size; have hul := (fun (b : Nat) h => Nat.lt_of_lt_of_le (n := b) h hb.size); (try have hal : wn.heap.size < w'.heap.size := by (have hzs := hb.size; simp only [World.size_drew, World.size_alloc] at hzs; omega)); (try have hal : wn.heap.size < w'.heap.size := by (have hzs := hb.size; omega)); obtain ⟨hcc, hff⟩ := bcell hb; clear hb))
    all_goals go_wp2_with fail
    all_goals go_meet
    all_goals (refine ⟨_, rfl, rfl, ?_⟩ <;> first | assumption | (go_simp; done) | (simp; done))
  case rest =>
    obtain ⟨gb, rfl, rfl, hbw⟩ := hcut
    have HOc := Lib.hid (own_below HO1.out hbw)
    have HBc := Lib.hid (HB1.out.trans (hbw.mono HB1.out.size))
    have Sc := S0.below hbw
    have s0 := Sc.c0
    have s1 := Sc.c1
    have hzc := HBc.out.size
    have hBw := HBB.out
    clear f1' f2' HO1 HB1 HBB HO S0 hbw Sc HJ hgw hzw
    go_wp2_with (first
      | (at_builtin; refine wpList_append_own _ rfl (.tmp 32) (.tmp 34) 92 rfl B 91 i0 (.agg #[.int .i64 0, .int .i64 0]) 2 16 Try.underlying92 hi0 hz0 hz1 hz2 rfl (by decide) (.slice (some ⟨g, 0, none⟩) (n + 1) c) (n + 1) sl rfl (HOc.out.alloc _) ⟨wc.heap.size, 0, none⟩ 1 1 [.int .i64 x, .int .i64 y] rfl rfl ?c1 ?c2 ?c3 ?c4 ?c5 ?_)
      | fail)
    case c1 =>
      intro j u hj
      rw [Addr.add_lit, Nat.zero_add]
      rw [cell_at (heap_alloc_new wc _)]
      simpa using hj
    case c2 =>
      intro u hu
      simp only [List.mem_cons, List.not_mem_nil, or_false] at hu
      rcases hu with rfl | rfl <;> rfl
    case c3 => unfold maxLen; omega
    case c4 => omega
    case c5 => simp only [World.size_alloc]; omega
    intro v7 wB ho7 hg7 _
    have HO7 := Lib.hid ho7
    have HG7 := Lib.hid hg7
    have HBelow : Hid (Below B w wB) := (((HBc.out.mono (by omega : B ≤ w.heap.size)).alloc (by omega) _).grown hg7 (by simp only [World.size_alloc]; omega) (fun q hq => (HOc.out.lt q hq).1))
    clear ho7 hg7
    go_wp2_with fail
    go_ret
    exact ⟨v7, rfl, HO7.out, HBelow.out, by have := HG7.out.size; simp only [World.size_alloc] at this; omega⟩

set_option maxRecDepth 100000 in
set_option maxHeartbeats 4000000 in
theorem pjoin_glue {w : World} {B c : Nat} {a : Option Addr} (l : List (Int × Int)) (q : Int × Int) (ho : w.ownsRow B 91 2 (.slice a (l.length + 1) c) (l.length + 1) (spC (l ++ [q]))) (hB : B ≤ w.heap.size) (x y : Int) (hy : 1 ≤ y)
    (hq1 : In40 q.1) (hq2 : In40 q.2) (hx : In40 x) (hy4 : In40 y) (hl : l.length ≤ 1000000) (hno : joinB q.1 q.2 x y = true) :
    Calls Try.prog 66 #[.slice a (l.length + 1) c, .agg #[.int .i64 x, .int .i64 y]] w fun e w' => ∃ v', e = .returned v' ∧ w'.ownsRow B 91 2 v' (l.length + 1) (spC (l ++ [(q.1, q.2 + y)])) ∧ Below B w w' ∧ w.heap.size ≤ w'.heap.size := by
  have d1 : decide (y < 1) = false := decide_eq_false (by omega)
  obtain ⟨i0, hi0, hz0, hz1, hz2⟩ := info_parts info_span
  rcases own_form ho with ⟨_, h00⟩ | ⟨g, rfl, hBg, hg⟩
  · omega
  have hsp := spC_at (l ++ [q]) l.length q (by simp)
  have f1 := ho.cells (g := g) rfl _ _ hsp.1
  have f2 := ho.cells (g := g) rfl _ _ hsp.2
  rw [Addr.add_lit] at f1 f2
  simp only [Nat.zero_add] at f1 f2
  have HO := Lib.hid ho
  have HBB := Lib.hid hB
  have HJ := Lib.hid (fun (W w' : World) (hw : Below W.heap.size W w') => chain_of (join_of q.1 q.2 x y w' hq1 hq2 hx hy4) hw)
  unfold joinR retJ at HJ
  rw [hno, if_pos rfl] at HJ
  have HLast := Lib.hid (fun (w : World) h => own_last (w := w) (B := B) (c := c) (g := g) l q q.1 (q.2 + y) h)
  generalize spC (l ++ [q]) = sl at *
  generalize spC (l ++ [(q.1, q.2 + y)]) = sm at *
  generalize l.length = n at *
  generalize q.1 = q1 at *
  generalize q.2 = q2 at *
  clear ho hy hsp hq1 hq2 hx hy4 hno hB
  have d2 : decide ((0 : Int) ≤ (n : Int)) = true := decide_eq_true (by omega)
  have S0 := SpB.new w x y
  have hwg : g < w.heap.size := hg
  go_enter Try.func66, Try.ntmps66
  go_upto_region 5 with fail
  have HB1 := Lib.hid (below_al w (Obj.cells #[Value.int IntKind.i64 x, Value.int IntKind.i64 y] 91))
  have HO1 := Lib.hid (HO.out.alloc (Obj.cells #[Value.int IntKind.i64 x, Value.int IntKind.i64 y] 91))
  have f1' := (HB1.out.cell (p := ⟨g, n * 2, none⟩) hwg).trans f1
  have f2' := (HB1.out.cell (p := ⟨g, n * 2 + 1, none⟩) hwg).trans f2
  have hgw : g < (w.alloc (Obj.cells #[Value.int IntKind.i64 x, Value.int IntKind.i64 y] 91)).heap.size := by simp only [World.size_alloc]; omega
  have hzw : w.heap.size < (w.alloc (Obj.cells #[Value.int IntKind.i64 x, Value.int IntKind.i64 y] 91)).heap.size := by simp
  clear f1 f2
  generalize w.alloc (Obj.cells #[Value.int IntKind.i64 x, Value.int IntKind.i64 y] 91) = wn at *
  go_cut [6, 7] (fun s6 s7 wx => ∃ gb : Nat, s6 = .pointer (some ⟨gb, 0, none⟩) ∧ s7 = .bool true ∧ Below wn.heap.size wn wx ∧ wx.cell? ⟨gb, 0, none⟩ = some (.int .i64 q1) ∧ wx.cell? ⟨gb, 1, none⟩ = some (.int .i64 (q2 + y)))
  case first =>
    have ld1 := fun w' (hb : Below wn.heap.size wn w') => (S0.below (w' := w') hb).c0
    have ld2 := fun w' (hb : Below wn.heap.size wn w') => (S0.below (w' := w') hb).c1
    have ld3 := fun w' (hb : Below wn.heap.size wn w') => (hb.cell (p := ⟨g, n * 2, none⟩) hgw).trans f1'
    have ld4 := fun w' (hb : Below wn.heap.size wn w') => (hb.cell (p := ⟨g, n * 2 + 1, none⟩) hgw).trans f2'
    have hb0 : Below wn.heap.size wn wn.drew := (Below.refl _ wn).drew
    clear f1' f2' HO1 HB1 HBB HO S0
    have hq0 : (0 : Int) ≤ (n : Int) := by omega
    have hq1 : (n : Int) < (n : Int) + 1 := by omega
    go_region_held3 (fun w' => Below wn.heap.size wn w')
      (first | assumption | exact Below.alloc (by assumption) (Below.size (by assumption)) _ | exact below_two (by assumption) (by first | assumption | omega) _ _)
      ((go_at_call 78; refine (HJ.out wn _ (by first | assumption | exact Below.alloc (by assumption) (Below.size (by assumption)) _)).mono ?_; rintro e w' ⟨rfl, hB, hb⟩; have hup := hB.size; have hul := (fun (b : Nat) h => Nat.lt_of_lt_of_le (n := b) h hb.size); (try have hal : wn.heap.size < w'.heap.size := by (have hzs := hb.size; simp only [World.size_drew, World.size_alloc] at hzs; omega)); (try have hal : wn.heap.size < w'.heap.size := by (have hzs := hb.size; omega)); obtain ⟨hcc, hff⟩ := bcell hb; clear hb))
    all_goals go_wp2_with fail
    all_goals go_meet
    all_goals (refine ⟨_, rfl, rfl, ?_, ?_, ?_⟩ <;> first | assumption | (go_simp; done) | (simp; done) | exact two_c0 (a := .int .i64 0) (by go_simp) _ _ | exact two_c1 (a := .int .i64 0) (by go_simp) _ _)
  case rest =>
    obtain ⟨gb, rfl, rfl, hbw, k1, k2⟩ := hcut
    have HOc := Lib.hid (own_below HO1.out hbw)
    have HBc := Lib.hid (HB1.out.trans (hbw.mono HB1.out.size))
    have hgc : g < wc.heap.size := Nat.lt_of_lt_of_le hgw hbw.size
    have e1 := (hbw.cell (p := ⟨g, n * 2, none⟩) hgw).trans f1'
    have e2 := (hbw.cell (p := ⟨g, n * 2 + 1, none⟩) hgw).trans f2'
    have hq0 : (0 : Int) ≤ (n : Int) := by omega
    have hq1 : (n : Int) < (n : Int) + 1 := by omega
    have hzc := HBc.out.size
    have hBw := HBB.out
    clear f1' f2' HO1 HB1 HBB HO S0 hbw HJ
    have z1 := own_unfrozen HOc.out (n * 2)
    have z2 := own_unfrozen HOc.out (n * 2 + 1)
    go_wp2_with fail
    go_ret
    exact ⟨_, rfl, HLast.out _ HOc.out, ((HBc.out.mono hBw).setCell (p := ⟨g, n * 2, none⟩) hBg _).setCell (p := ⟨g, n * 2 + 1, none⟩) hBg _, by simp only [size_set]; omega⟩

end Go.Proofs.Ytkgakgceamafcaa

namespace Go.Proofs.Ytkgakgceamafcaa
open Go Go.RowKit
set_option linter.unusedVariables false

/-- A span of few bytes, not empty. -/
def Ok1 (q : Int × Int) : Prop := In40 q.1 ∧ In40 q.2 ∧ 1 ≤ q.2

theorem pjoin_of {w : World} {B c : Nat} {a : Option Addr} {l : List (Int × Int)} (ho : w.ownsRow B 91 2 (.slice a l.length c) l.length (spC l)) (hB : B ≤ w.heap.size) (x y : Int)
    (hok : ∀ q ∈ l, Ok1 q) (hx : In40 x) (hy : 1 ≤ y → In40 y) (hl : l.length ≤ 1000000) :
    Calls Try.prog 66 #[.slice a l.length c, .agg #[.int .i64 x, .int .i64 y]] w fun e w' => ∃ v', e = .returned v' ∧ w'.ownsRow B 91 2 v' (joinS l (x, y)).length (spC (joinS l (x, y))) ∧ Below B w w' ∧ w.heap.size ≤ w'.heap.size := by
  unfold joinS
  by_cases h : y < 1
  · rw [if_pos (show (x, y).2 < 1 from h)]
    refine (pjoin_skip x y h).mono ?_
    rintro e w' ⟨rfl, hb⟩
    exact ⟨_, rfl, own_below ho hb, hb.mono hB, hb.size⟩
  · rw [if_neg (show ¬ (x, y).2 < 1 from h)]
    rcases List.eq_nil_or_concat l with rfl | ⟨l0, q, rfl⟩
    · exact pjoin_first ho hB x y (by omega)
    · rw [List.concat_eq_append] at *
      have hq : Ok1 q := hok q (by simp)
      obtain ⟨q1, q2, q3⟩ := hq
      rw [List.length_append] at ho hl ⊢
      rw [glue_snoc]
      by_cases hg : x = q.1 + q.2
      · rw [if_pos (show (x, y).1 = q.1 + q.2 from hg), List.length_append]
        exact pjoin_glue l0 q ho hB x y (by omega) q1 q2 hx (hy (by omega)) (by simp at hl; omega) (by unfold joinB; simp only [decide_eq_true_eq]; omega)
      · rw [if_neg (show ¬ (x, y).1 = q.1 + q.2 from hg), List.length_append, List.length_append, spC_snoc (l0 ++ [q])]
        exact pjoin_more l0 q ho hB x y (by omega) q1 q2 hx (hy (by omega)) (by simp at hl; omega) (by unfold joinB; simp only [decide_eq_false_iff_not]; omega)

theorem joinS_len (l : List (Int × Int)) (s : Int × Int) : (joinS l s).length ≤ l.length + 1 := by
  unfold joinS
  split
  · omega
  · rcases glue_cases l s with ⟨rfl, h⟩ | ⟨l0, q, rfl, h⟩
    · rw [h]; simp
    · rw [h]; split <;> simp

theorem own_mono {w : World} {B B' n s : Nat} {e : TypeId} {v : Value} {xs : List Value} (h : w.ownsRow B' e s v n xs) (hB : B ≤ B') : w.ownsRow B e s v n xs :=
  ⟨h.1, h.2.imp id fun ⟨g, cap, cur, e1, e2, r⟩ => ⟨g, cap, cur, e1, Nat.le_trans hB e2, r⟩⟩
theorem ofS_take {l : List (Int × Int)} {k : Nat} (h : k < l.length) : ofS (l.take (k + 1)) = joinS (ofS (l.take k)) (l[k].1, l[k].2) := by
  rw [List.take_succ_eq_append_getElem h, ofS_snoc]

set_option maxRecDepth 100000 in
set_option maxHeartbeats 4000000 in
theorem pof_of {w : World} {a : Option Addr} {c : Nat} {l : List (Int × Int)} (hr : Rd w 2 a l.length (spC l)) (hl : l.length ≤ 100000)
    (h40 : ∀ s ∈ l, In40 s.1 ∧ (1 ≤ s.2 → In40 s.2)) (hok : ∀ k, ∀ q ∈ ofS (l.take k), Ok1 q) :
    Calls Try.prog 54 #[.slice a l.length c] w fun e w' => ∃ v', e = .returned (.agg #[v']) ∧ w'.ownsRow w.heap.size 91 2 v' (ofS l).length (spC (ofS l)) ∧ Below w.heap.size w w' := by
  have al := below_al w (Obj.cells #[Value.slice none 0 0] 96)
  have HR := Lib.hid (hr.below al)
  have H4 := Lib.hid h40
  have HK := Lib.hid hok
  have HL := Lib.hid hl
  have HB0 := Lib.hid al
  have H69 := Lib.hid (heap_alloc_new w (Obj.cells #[Value.slice none 0 0] 96))
  have hz1 : (w.alloc (Obj.cells #[Value.slice none 0 0] 96)).heap.size = w.heap.size + 1 := by simp
  clear hr h40 hok hl al
  go_enter Try.func54, Try.ntmps54
  go_wp2_with fail
  generalize w.alloc (Obj.cells #[Value.slice none 0 0] 96) = w1 at *
  have HZ := Lib.hid hz1
  clear hz1
  go_loopw [3, 8] (fun v3 i wr => ∃ k : Nat, k ≤ l.length ∧ i = .int .i64 k ∧ wr.ownsRow (w.heap.size + 1) 91 2 v3 (ofS (l.take k)).length (spC (ofS (l.take k))) ∧ (ofS (l.take k)).length ≤ k ∧ Below (w.heap.size + 1) w1 wr ∧ w.heap.size + 1 ≤ wr.heap.size) (fun _ i _ => l.length - (intOf i).toNat)
  case atStart => exact ⟨0, by omega, rfl, own_nil _ _ _ _, by simp [ofS], Below.refl _ _, by rw [HZ.out]; omega⟩
  case round =>
    obtain ⟨k, hk, rfl, ho, hlk, hb, hzr⟩ := hrel
    have HB := Lib.hid hb
    have HO := Lib.hid ho
    obtain ⟨a3, c3, rfl⟩ := own_slice ho
    clear hb ho
    have hk1 : (ofS (l.take (k + 1))).length ≤ (ofS (l.take k)).length + 1 := by
      by_cases h : k < l.length
      · rw [ofS_take h]; exact joinS_len _ _
      · rw [List.take_of_length_le (by omega), List.take_of_length_le (by omega)]; omega
    by_cases hlt : k < l.length
    · have dk : decide (k < l.length) = true := decide_eq_true hlt
      have hln := HL.out
      obtain ⟨b, off, rfl, hbl, hcl⟩ := HR.out.2 (by omega)
      have hsp := spC_at l k l[k] (List.getElem?_eq_getElem hlt)
      have hb1 : b < w.heap.size + 1 := by rw [← HZ.out]; exact hbl
      have f1 : wr.cell? ⟨b, off + k * 2, none⟩ = some (.int .i64 l[k].1) := (HB.out.cell (p := ⟨b, off + k * 2, none⟩) hb1).trans (hcl _ _ hsp.1)
      have f2 : wr.cell? ⟨b, off + k * 2 + 1, none⟩ = some (.int .i64 l[k].2) := (HB.out.cell (p := ⟨b, off + k * 2 + 1, none⟩) hb1).trans (hcl _ _ hsp.2)
      have hin := H4.out l[k] (List.getElem_mem hlt)
      have ht := ofS_take hlt
      have HJ := Lib.hid (pjoin_of (HO.out.alloc (Obj.cells #[Value.int IntKind.i64 l[k].1, Value.int IntKind.i64 l[k].2] 91)) (by simp only [World.size_alloc]; omega) l[k].1 l[k].2 (HK.out k) hin.1 hin.2 (by have := HL.out; omega))
      rw [← ht] at HJ
      clear hbl hcl hsp hin ht HR H4
      generalize l[k].1 = x at *
      generalize l[k].2 = y at *
      generalize (ofS (l.take k)).length = n3 at *
      go_wp2_with fail
      refine HJ.out.mono ?_; rintro e w2 ⟨v', rfl, ho2, hb2, hz2⟩
      have HO2 := Lib.hid ho2
      have HB2 := Lib.hid ((HB.out.alloc hzr (Obj.cells #[Value.int IntKind.i64 x, Value.int IntKind.i64 y] 91)).trans hb2)
      simp only [World.size_alloc] at hz2
      clear ho2 hb2 HJ
      go_wp2_with fail
      go_roundw
      case rel => exact ⟨k + 1, hlt, by go_num, HO2.out, by omega, HB2.out, by omega⟩
      case measure => simp [intOf]; omega
    · have dk : decide (k < l.length) = false := decide_eq_false hlt
      obtain rfl : k = l.length := by omega
      rw [List.take_length] at HO
      have h69 := (HB.out.block w.heap.size (by omega)).trans H69.out
      have c69 : wr.cell? ⟨w.heap.size, 0, none⟩ = some (.slice none 0 0) := by rw [cell_at h69]; rfl
      have z69 := unfrozen h69 0
      clear h69 HR H4 HK
      go_wp2_with fail
      rw [List.take_length] at *
      have hs69 := HO.out.kept (w' := wr.setCell ⟨w.heap.size, 0, none⟩ (.slice a3 (ofS l).length c3)) (row := some w.heap.size) ⟨rfl, rfl, rfl, by rw [size_set]; omega, fun i hi hn => heap_set_other (fun e => hn (by rw [e]))⟩ (.inr (fun e => by have := (HO.out.lt _ e).1; omega))
      have c70 : (wr.setCell ⟨w.heap.size, 0, none⟩ (.slice a3 (ofS l).length c3)).cell? ⟨w.heap.size, 0, none⟩ = some (.slice a3 (ofS l).length c3) := cell_set_same c69
      refine bodyPost_ret (v := .agg #[.slice a3 (ofS l).length c3]) (by simp [results, Try.results54, go_sem, c70]) rfl ⟨_, rfl, own_mono hs69 (by omega), ?_⟩
      exact (HB0.out.trans (HB.out.mono (by omega))).setCell (p := ⟨w.heap.size, 0, none⟩) (Nat.le_refl _) _

theorem lenS_take {l : List (Int × Int)} {k : Nat} (h : k < l.length) : lenS (l.take (k + 1)) = lenS (l.take k) + l[k].2 := by
  rw [List.take_succ_eq_append_getElem h, lenS_append, lenS_one]

set_option maxRecDepth 100000 in
set_option maxHeartbeats 4000000 in
theorem plen_of {w : World} {a : Option Addr} {c : Nat} {l : List (Int × Int)} (hr : Rd w 2 a l.length (spC l)) (hl : l.length ≤ 1000000)
    (hs : ∀ k, 0 ≤ lenS (l.take k) ∧ lenS (l.take k) ≤ 1099511627776) :
    Calls Try.prog 43 #[.agg #[.slice a l.length c]] w fun e w' => e = .returned (.int .i64 (lenS l)) ∧ Below w.heap.size w w' := by
  have al := below_al w (Obj.cells #[Value.slice a l.length c] 96)
  have HR := Lib.hid (hr.below al)
  have HS := Lib.hid hs
  have HL := Lib.hid hl
  have HB0 := Lib.hid al
  have hz0 := al.size
  have c0 : (w.alloc (Obj.cells #[Value.slice a l.length c] 96)).cell? ⟨w.heap.size, 0, none⟩ = some (.slice a l.length c) := by rw [cell_at (heap_alloc_new w _)]; rfl
  clear hr hs hl al
  go_enter Try.func43, Try.ntmps43
  go_wp2_with fail
  clear c0
  generalize w.alloc (Obj.cells #[Value.slice a l.length c] 96) = w1 at *
  go_loopw [3, 9] (fun v3 i wr => ∃ k : Nat, k ≤ l.length ∧ i = .int .i64 k ∧ v3 = .int .i64 (lenS (l.take k)) ∧ Below w1.heap.size w1 wr) (fun _ i _ => l.length - (intOf i).toNat)
  case atStart => exact ⟨0, by omega, rfl, by simp [lenS_nil], Below.refl _ _⟩
  case round =>
    obtain ⟨k, hk, rfl, rfl, hb⟩ := hrel
    have HB := Lib.hid hb
    clear hb
    by_cases hlt : k < l.length
    · have dk : decide (k < l.length) = true := decide_eq_true hlt
      have hln := HL.out
      obtain ⟨b, off, rfl, hbl, hcl⟩ := HR.out.2 (by omega)
      have hsp := spC_at l k l[k] (List.getElem?_eq_getElem hlt)
      have f1 : wr.cell? ⟨b, off + k * 2, none⟩ = some (.int .i64 l[k].1) := (HB.out.cell (p := ⟨b, off + k * 2, none⟩) hbl).trans (hcl _ _ hsp.1)
      have f2 : wr.cell? ⟨b, off + k * 2 + 1, none⟩ = some (.int .i64 l[k].2) := (HB.out.cell (p := ⟨b, off + k * 2 + 1, none⟩) hbl).trans (hcl _ _ hsp.2)
      have ht := lenS_take hlt
      have s1 := (HS.out k)
      have s2 := (HS.out (k + 1))
      rw [ht] at s2
      obtain ⟨s10, s11⟩ := s1
      obtain ⟨s20, s21⟩ := s2
      have HT := Lib.hid ht
      have HBo := Lib.hid (HB.out.alloc HB.out.size (Obj.cells #[Value.int IntKind.i64 l[k].1, Value.int IntKind.i64 l[k].2] 91))
      clear hbl hcl hsp ht HR HS HB
      generalize l[k].1 = x at *
      generalize l[k].2 = y at *
      generalize lenS (l.take k) = sk at *
      go_wp2_with fail
      go_roundw
      case rel => exact ⟨k + 1, hlt, by go_num, by rw [HT.out] <;> rfl, HBo.out⟩
      case measure => simp [intOf]; omega
    · have dk : decide (k < l.length) = false := decide_eq_false hlt
      obtain rfl : k = l.length := by omega
      have hB : Hid (Below w.heap.size w wr) := HB0.out.trans (HB.out.mono hz0)
      rw [List.take_length]
      clear HR HS
      go_wp2_with fail
      go_ret
      exact ⟨rfl, hB.out⟩

end Go.Proofs.Ytkgakgceamafcaa

namespace Go.Proofs.Ytkgakgceamafcaa
open Go Go.RowKit
set_option linter.unusedVariables false

theorem spC_one (l : List (Int × Int)) : ∀ u ∈ spC l, u.oneCell' = true := by
  intro u hu
  unfold spC at hu
  rw [List.mem_flatMap] at hu
  obtain ⟨s, _, hs⟩ := hu
  simp only [List.mem_cons, List.not_mem_nil, or_false] at hs
  rcases hs with rfl | rfl <;> rfl
theorem own_empty {w : World} {B g : Nat} {e : TypeId} (s : Nat) (hB : B ≤ g) (h : w.heap[g]? = some (.cells #[] e (0, 0))) : w.ownsRow B e s (.slice (some ⟨g, 0, none⟩) 0 0) 0 [] :=
  ⟨by simp, .inr ⟨g, 0, #[], rfl, hB, h, Nat.le_refl _, Nat.zero_le _, by simp, by simp⟩⟩

end Go.Proofs.Ytkgakgceamafcaa
