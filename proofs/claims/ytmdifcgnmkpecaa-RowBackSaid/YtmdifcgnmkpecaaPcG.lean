/-
  The region of the closure in piece's Slice that takes one part more, whatever order is drawn: written by program (wip/tools/mkreg.py).
-/
import Derived.Test.YtmdifcgnmkpecaaPcF
import Derived.Test.YtmdifcgnmkpecaaOrd2
namespace Go.Proofs.Ytmdifcgnmkpecaa
open Go Go.RowKit
set_option linter.unusedVariables false
theorem dep_listed {md : Region.Mode} {ops : Array Oper} {listed : Array Bool} {i : Nat} {o : Oper} (ho : ops[i]? = some o) (hr : i ∈ Region.ready md ops listed) (j : Nat) (hw : (o.after.any fun e => Region.binds md e && e.on == j) = true) : listed.getD j false = true := by
  obtain ⟨_, _, h⟩ := ready_spec hr
  rw [Array.any_eq_true'] at hw
  obtain ⟨e, he, hb⟩ := hw
  rw [Bool.and_eq_true, beq_iff_eq] at hb
  rw [← hb.2]
  exact h o ho e he hb.1
theorem mark_keep {L : Array Bool} {i j : Nat} (h : L.getD j false = true) : (L.setIfInBounds i true).getD j false = true := by
  by_cases e : j = i
  · subst e
    rw [Array.getD_eq_getD_getElem?] at h ⊢
    rw [Array.getElem?_setIfInBounds, if_pos rfl]
    split
    · rfl
    · rename_i hn
      rw [Array.getElem?_eq_none (by omega)] at h
      exact h
  · rw [mark_other e]; exact h
/-- What is to be appended, in a block of its own. -/
def P84 (z : Nat) (q1 q2 : Int) (v : Value) (w : World) : Prop := ∃ b : Nat, v = .slice (some ⟨b, 0, none⟩) 1 1 ∧ z ≤ b ∧ w.heap[b]? = some (.cells #[.int .i64 q1, .int .i64 q2] 39 (0, 0))
theorem P84.below {z : Nat} {q1 q2 : Int} {v : Value} {w w' : World} (h : P84 z q1 q2 v w) (hb : Below w.heap.size w w') : P84 z q1 q2 v w' := by
  obtain ⟨b, h1, h2, h3⟩ := h
  exact ⟨b, h1, h2, (hb.block b (lt_of_heap h3)).trans h3⟩
theorem P84.grown {z bz n c : Nat} {aa : Option Addr} {q1 q2 : Int} {v : Value} {w w' : World} (h : P84 z q1 q2 v w) (hg : w.grownBy w' (Value.slice aa n c).ownBlock) (hk : ∀ k, (Value.slice aa n c).ownBlock = some k → k < bz) (hbz : bz < z) : P84 z q1 q2 v w' := by
  obtain ⟨b, h1, h2, h3⟩ := h
  exact ⟨b, h1, h2, (hg.block b (lt_of_heap h3) (fun e => by have := hk b e.symm; omega)).trans h3⟩
theorem P84.set {z gp : Nat} {q1 q2 : Int} {v u : Value} {w : World} (h : P84 z q1 q2 v w) (hz : gp < z) : P84 z q1 q2 v (w.setCell ⟨gp, 0, none⟩ u) := by
  obtain ⟨b, h1, h2, h3⟩ := h
  exact ⟨b, h1, h2, (heap_set_other (by omega)).trans h3⟩
/-- The row behind it. -/
def O84 (gp n : Nat) (q1 q2 : Int) (xs : List Value) (v : Value) (w : World) : Prop := ∃ a' c', v = .slice a' (n + 1) c' ∧ w.ownsRow (gp + 1) 39 2 (.slice a' (n + 1) c') (n + 1) (xs ++ [.int .i64 q1, .int .i64 q2])
theorem O84.below {gp n : Nat} {q1 q2 : Int} {xs : List Value} {v : Value} {w w' : World} (h : O84 gp n q1 q2 xs v w) (hb : Below w.heap.size w w') : O84 gp n q1 q2 xs v w' := by
  obtain ⟨a, c, h1, h2⟩ := h
  exact ⟨a, c, h1, own_below h2 hb⟩
theorem own_set_var {w : World} {gp n s : Nat} {e : TypeId} {v u : Value} {xs : List Value} (h : w.ownsRow (gp + 1) e s v n xs) : (w.setCell ⟨gp, 0, none⟩ u).ownsRow (gp + 1) e s v n xs :=
  own_set h (fun hk => by have := h.lt gp hk; omega)
theorem O84.set {gp n : Nat} {q1 q2 : Int} {xs : List Value} {v u : Value} {w : World} (h : O84 gp n q1 q2 xs v w) : O84 gp n q1 q2 xs v (w.setCell ⟨gp, 0, none⟩ u) := by
  obtain ⟨a, c, h1, h2⟩ := h
  exact ⟨a, c, h1, own_set_var h2⟩
/-- At the end. -/
def Fin84 (gp n : Nat) (q1 q2 : Int) (xs : List Value) (w : World) : Prop := ∃ a' c', w.heap[gp]? = some (.cells #[.slice a' (n + 1) c'] 40 (0, 0)) ∧ w.ownsRow (gp + 1) 39 2 (.slice a' (n + 1) c') (n + 1) (xs ++ [.int .i64 q1, .int .i64 q2])
structure Inv84 (gp bz n c z : Nat) (aa : Option Addr) (x y q1 q2 : Int) (xs : List Value) (wF : World) (L : Array Bool) (w : World) : Prop where
  below : Below gp wF w
  size : z ≤ w.heap.size
  box : w.heap[bz]? = some (.cells #[.int .i64 x, .int .i64 y] 39 (0, 0))
  var : L.getD 11 false = false → w.heap[gp]? = some (.cells #[.slice aa n c] 40 (0, 0))
  owns : L.getD 10 false = false → w.ownsRow (gp + 1) 39 2 (.slice aa n c) n xs
  ord : L.getD 11 false = true → L.getD 0 false = true ∧ L.getD 10 false = true
  fin : L.getD 11 false = true → Fin84 gp n q1 q2 xs w
  kept : ∀ k, k < z → k ≠ gp → (Value.slice aa n c).ownBlock ≠ some k → w.heap[k]? = wF.heap[k]?
section
variable {gp bz n c z : Nat} {aa : Option Addr} {x y q1 q2 : Int} {xs : List Value} {wF : World} {L : Array Bool} {w w' : World} {i : Nat}
theorem Inv84.keep (h : Inv84 gp bz n c z aa x y q1 q2 xs wF L w) (h1 : 11 ≠ i) (h2 : 10 ≠ i) : Inv84 gp bz n c z aa x y q1 q2 xs wF (L.setIfInBounds i true) w :=
  ⟨h.below, h.size, h.box, fun e => h.var (by rwa [mark_other h1] at e), fun e => h.owns (by rwa [mark_other h2] at e), fun e => ⟨mark_keep (h.ord (by rwa [mark_other h1] at e)).1, mark_keep (h.ord (by rwa [mark_other h1] at e)).2⟩, fun e => h.fin (by rwa [mark_other h1] at e), h.kept⟩
theorem Inv84.under (h : Inv84 gp bz n c z aa x y q1 q2 xs wF L w) (hb : Below w.heap.size w w') (h1 : 11 ≠ i) (h2 : 10 ≠ i) (hgz : gp ≤ z) : Inv84 gp bz n c z aa x y q1 q2 xs wF (L.setIfInBounds i true) w' :=
  ⟨h.below.trans (hb.mono (by have := h.size; omega)), Nat.le_trans h.size hb.size, (hb.block bz (lt_of_heap h.box)).trans h.box, fun e => (hb.block gp (lt_of_heap (h.var (by rwa [mark_other h1] at e)))).trans (h.var (by rwa [mark_other h1] at e)),
    fun e => own_below (h.owns (by rwa [mark_other h2] at e)) hb, fun e => ⟨mark_keep (h.ord (by rwa [mark_other h1] at e)).1, mark_keep (h.ord (by rwa [mark_other h1] at e)).2⟩, fun e => by
      obtain ⟨a, c, h3, h4⟩ := h.fin (by rwa [mark_other h1] at e)
      exact ⟨a, c, (hb.block gp (lt_of_heap h3)).trans h3, own_below h4 hb⟩, fun k h1 h2 h3 => (hb.block k (by have := h.size; omega)).trans (h.kept k h1 h2 h3)⟩
theorem Inv84.early (h : Inv84 gp bz n c z aa x y q1 q2 xs wF L w) (h0 : L.getD 0 false = false) : L.getD 11 false = false := by
  cases e : L.getD 11 false with
  | false => rfl
  | true => rw [(h.ord e).1] at h0; cases h0
theorem Inv84.early2 (h : Inv84 gp bz n c z aa x y q1 q2 xs wF L w) (h0 : L.getD 10 false = false) : L.getD 11 false = false := by
  cases e : L.getD 11 false with
  | false => rfl
  | true => rw [(h.ord e).2] at h0; cases h0
theorem Inv84.load (h : Inv84 gp bz n c z aa x y q1 q2 xs wF L w) (h0 : L.getD 11 false = false) : w.cell? ⟨gp, 0, none⟩ = some (.slice aa n c) := by rw [cell_at (h.var h0)]; rfl
theorem Inv84.unfr (h : Inv84 gp bz n c z aa x y q1 q2 xs wF L w) (h0 : L.getD 11 false = false) : w.frozen? ⟨gp, 0, none⟩ = false := unfrozen (h.var h0) 0
theorem Inv84.box0 (h : Inv84 gp bz n c z aa x y q1 q2 xs wF L w) : w.cell? ⟨bz, 0, none⟩ = some (.int .i64 x) := by rw [cell_at h.box]; rfl
theorem Inv84.box1 (h : Inv84 gp bz n c z aa x y q1 q2 xs wF L w) : w.cell? ⟨bz, 1, none⟩ = some (.int .i64 y) := by rw [cell_at h.box]; rfl
theorem Inv84.appended (h : Inv84 gp bz n c z aa x y q1 q2 xs wF L w) (hg : w.grownBy w' (Value.slice aa n c).ownBlock) (hk : ∀ k, (Value.slice aa n c).ownBlock = some k → k < bz) (hl : L.getD 10 false = false) (ho : w.ownsRow (gp + 1) 39 2 (.slice aa n c) n xs)
    (hlen : 10 < L.size) (h11 : L.getD 11 false = false) (hbz : bz < z) (hgb : gp < bz) : Inv84 gp bz n c z aa x y q1 q2 xs wF (L.setIfInBounds 10 true) w' := by
  have hlt := ho.lt
  refine ⟨h.below.grown hg (by have := h.size; omega) (fun k hk' => by have := hlt k hk'; omega), Nat.le_trans h.size hg.size, (hg.block bz (lt_of_heap h.box) (fun e => by have := hk bz e.symm; omega)).trans h.box,
    fun e => (hg.block gp (lt_of_heap (h.var h11)) (fun e' => by have := hlt gp e'.symm; omega)).trans (h.var h11), fun e => ?_, fun e => ?_, fun e => ?_, fun k h1 h2 h3 => (hg.block k (by have := h.size; omega) (fun e => h3 e.symm)).trans (h.kept k h1 h2 h3)⟩
  · rw [Array.getD_eq_getD_getElem?, Array.getElem?_setIfInBounds, if_pos rfl, if_pos hlen] at e
    cases e
  · rw [mark_other (by decide), h11] at e; cases e
  · rw [mark_other (by decide), h11] at e; cases e
theorem Inv84.stored (h : Inv84 gp bz n c z aa x y q1 q2 xs wF L w) {a' : Option Addr} {c' : Nat} (ho : w.ownsRow (gp + 1) 39 2 (.slice a' (n + 1) c') (n + 1) (xs ++ [.int .i64 q1, .int .i64 q2])) (h0 : L.getD 0 false = true) (h10 : L.getD 10 false = true) (hlen : 11 < L.size)
    (h11 : L.getD 11 false = false) (hgb : gp < bz) : Inv84 gp bz n c z aa x y q1 q2 xs wF (L.setIfInBounds 11 true) (w.setCell ⟨gp, 0, none⟩ (.slice a' (n + 1) c')) := by
  refine ⟨h.below.setCell (p := ⟨gp, 0, none⟩) (Nat.le_refl _) _, by rw [size_set]; exact h.size, (heap_set_other (by omega)).trans h.box, fun e => ?_, fun e => own_set_var (h.owns (by rwa [mark_other (by decide)] at e)), fun _ => ⟨mark_keep h0, mark_keep h10⟩, fun _ => ⟨a', c', ?_, own_set_var ho⟩, fun k h1 h2 h3 => (heap_set_other h2).trans (h.kept k h1 h2 h3)⟩
  · rw [Array.getD_eq_getD_getElem?, Array.getElem?_setIfInBounds, if_pos rfl, if_pos hlen] at e
    cases e
  · rw [heap_set_at (h.var h11)]; rfl
end
noncomputable def ops84 : Array Oper := ((Try.f62.body.bind (regOps 1)).getD #[])
theorem ops84_0 : ops84[0]? = some { dst := some 7, op := Go.Op.load 40 (Go.Operand.tmp 2), type := 40, pos := "piece.go:71", after := #[], guard := none } := by kernel_rfl
theorem ops84_1 : ops84[1]? = some { dst := some 8, op := Go.Op.load 39 (Go.Operand.tmp 5), type := 39, pos := "piece.go:71", after := #[], guard := none } := by kernel_rfl
theorem ops84_2 : ops84[2]? = some { dst := some 9, op := Go.Op.load 3 (Go.Operand.tmp 3), type := 3, pos := "piece.go:71", after := #[], guard := none } := by kernel_rfl
theorem ops84_3 : ops84[3]? = some { dst := some 10, op := Go.Op.move (Go.Operand.tmp 1), type := 3, pos := "piece.go:71", after := #[], guard := none } := by kernel_rfl
theorem ops84_4 : ops84[4]? = some { dst := some 11, op := Go.Op.binOp Go.BinOp.sub 3 (Go.Operand.tmp 9) (Go.Operand.tmp 10) 3, type := 3, pos := "piece.go:71", after := #[{ on := 2, ground := Go.Ground.data }, { on := 3, ground := Go.Ground.data }], guard := none } := by kernel_rfl
theorem ops84_5 : ops84[5]? = some { dst := some 12, op := Go.Op.load 3 (Go.Operand.tmp 4), type := 3, pos := "piece.go:71", after := #[], guard := none } := by kernel_rfl
theorem ops84_6 : ops84[6]? = some { dst := some 13, op := Go.Op.move (Go.Operand.tmp 1), type := 3, pos := "piece.go:71", after := #[], guard := none } := by kernel_rfl
theorem ops84_7 : ops84[7]? = some { dst := some 14, op := Go.Op.binOp Go.BinOp.sub 3 (Go.Operand.tmp 12) (Go.Operand.tmp 13) 3, type := 3, pos := "piece.go:71", after := #[{ on := 5, ground := Go.Ground.data }, { on := 6, ground := Go.Ground.data }], guard := none } := by kernel_rfl
theorem ops84_8 : ops84[8]? = some { dst := some 15, op := Go.Op.call { callee := Go.Callee.value (Go.Operand.func 63), args := #[Go.Operand.tmp 8, Go.Operand.tmp 11, Go.Operand.tmp 14], argTypes := #[39, 3, 3] }, type := 39, pos := "piece.go:71", after := #[{ on := 1, ground := Go.Ground.data }, { on := 4, ground := Go.Ground.data }, { on := 7, ground := Go.Ground.data }], guard := none } := by kernel_rfl
theorem ops84_9 : ops84[9]? = some { dst := some 16, op := Go.Op.buildSlice 40 1 #[(0, Go.Operand.tmp 15)], type := 40, pos := "piece.go:71", after := #[{ on := 8, ground := Go.Ground.data }], guard := none } := by kernel_rfl
theorem ops84_10 : ops84[10]? = some { dst := some 17, op := Go.Op.call { callee := Go.Callee.builtin Go.Builtin.append, args := #[Go.Operand.tmp 7, Go.Operand.tmp 16], argTypes := #[40, 40] }, type := 40, pos := "piece.go:71", after := #[{ on := 0, ground := Go.Ground.data }, { on := 9, ground := Go.Ground.data }, { on := 8, ground := Go.Ground.chain }], guard := none } := by kernel_rfl
theorem ops84_11 : ops84[11]? = some { dst := none, op := Go.Op.store 40 (Go.Operand.tmp 2) (Go.Operand.tmp 17), type := 0, pos := "piece.go:71", after := #[{ on := 10, ground := Go.Ground.data }, { on := 10, ground := Go.Ground.chain }, { on := 0, ground := Go.Ground.phase }, { on := 1, ground := Go.Ground.phase }, { on := 2, ground := Go.Ground.phase }, { on := 3, ground := Go.Ground.phase }, { on := 4, ground := Go.Ground.phase }, { on := 5, ground := Go.Ground.phase }, { on := 6, ground := Go.Ground.phase }, { on := 7, ground := Go.Ground.phase }, { on := 8, ground := Go.Ground.phase }, { on := 9, ground := Go.Ground.phase }, { on := 10, ground := Go.Ground.phase }], guard := none } := by kernel_rfl
noncomputable def R84 (gp gi gj bz n c z : Nat) (aa : Option Addr) (x y f I J q1 q2 : Int) (xs : List Value) (i : Nat) (v : Value) (w : World) : Prop := if i = 9 then (P84 z q1 q2 v w) else if i = 10 then (O84 gp n q1 q2 xs v w) else v = ([.slice aa n c, .agg #[.int .i64 x, .int .i64 y], .int .i64 I, .int .i64 f, .int .i64 (I - f), .int .i64 J, .int .i64 f, .int .i64 (J - f), .agg #[.int .i64 q1, .int .i64 q2], undef, undef, undef] : List Value).getD i undef
theorem R84_mono (gp gi gj bz n c z : Nat) (aa : Option Addr) (x y f I J q1 q2 : Int) (xs : List Value) {w w' : World} {i : Nat} (v : Value) (hm16 : ∀ v, P84 z q1 q2 v w → P84 z q1 q2 v w') (hm17 : i = 10 → ∀ v, O84 gp n q1 q2 xs v w → O84 gp n q1 q2 xs v w') (h : R84 gp gi gj bz n c z aa x y f I J q1 q2 xs i v w) : R84 gp gi gj bz n c z aa x y f I J q1 q2 xs i v w' := by
  unfold R84 at *
  by_cases e16 : i = 9
  · rw [if_pos e16] at h ⊢
    exact hm16 v h
  rw [if_neg e16] at h ⊢
  by_cases e17 : i = 10
  · rw [if_pos e17] at h ⊢
    exact hm17 e17 v h
  rw [if_neg e17] at h ⊢
  exact h
set_option maxHeartbeats 8000000 in
set_option maxRecDepth 100000 in
theorem reg84 (gp gi gj bz n c z : Nat) (aa : Option Addr) (x y f I J q1 q2 : Int) (xs : List Value) {a0 : Act} {wF : World} {Q : Exit → Act → World → Prop} (hsize : a0.tmps.size = 18) (o1 : a0.tmps.getD 1 undef = .int .i64 f) (o2 : a0.tmps.getD 2 undef = .pointer (some ⟨gp, 0, none⟩)) (o3 : a0.tmps.getD 3 undef = .pointer (some ⟨gi, 0, none⟩)) (o4 : a0.tmps.getD 4 undef = .pointer (some ⟨gj, 0, none⟩)) (o5 : a0.tmps.getD 5 undef = .pointer (some ⟨bz, 0, none⟩))
    (start84 : Inv84 gp bz n c z aa x y q1 q2 xs wF (Array.replicate ops84.size false) wF.drew)
    (hci : wF.cell? ⟨gi, 0, none⟩ = some (.int .i64 I)) (hcj : wF.cell? ⟨gj, 0, none⟩ = some (.int .i64 J)) (hgi : gi < gp) (hgj : gj < gp) (hgb : gp < bz) (hbz : bz < z)
    (hk : ∀ k, (Value.slice aa n c).ownBlock = some k → k < bz) (hn : n ≤ 20000) (hIf : IntKind.i64.wrap (I - f) = I - f) (hJf : IntKind.i64.wrap (J - f) = J - f)
    (i0 : TypeInfo) (hi0 : Try.prog.info? 39 = some i0) (hz0 : i0.zero = some (.agg #[.int .i64 0, .int .i64 0])) (hz1 : i0.size = 2) (hz2 : i0.bytes = 16)
    (HSub : ∀ w', Calls Try.prog 63 #[.agg #[.int .i64 x, .int .i64 y], .int .i64 (I - f), .int .i64 (J - f)] w' fun e w2 => e = .returned (.agg #[.int .i64 q1, .int .i64 q2]) ∧ Below w'.heap.size w' w2)
    (hQ : ∀ a w', a.defers = a0.defers → a.tmps.size = a0.tmps.size → (∀ d : Nat, (ops84.all fun o => o.dst != some d) = true → a.tmps.getD d undef = a0.tmps.getD d undef) → True → (Below gp wF w' ∧ z ≤ (w').heap.size ∧ (∀ k, k < z → k ≠ gp → (Value.slice aa n c).ownBlock ≠ some k → (w').heap[k]? = wF.heap[k]?) ∧ Fin84 gp n q1 q2 xs w') → Q .normal a w') : (Code.region 1 ops84 true).wp Try.prog Q a0 wF := by
  have hf : opsFine .any ops84 a0.tmps.size = true := by rw [hsize]; kernel_rfl
  refine wp_region_good (by kernel_rfl) (R84 gp gi gj bz n c z aa x y f I J q1 q2 xs) (fun L w' => Inv84 gp bz n c z aa x y q1 q2 xs wF L w') hf (start84) ?_ ?_
  · intro i listed a w hg hi
    have hlt : i < 12 := (ready_spec hi).1
    have hB : Inv84 gp bz n c z aa x y q1 q2 xs wF listed w := hg.inv
    rcases (show i = 0 ∨ i = 1 ∨ i = 2 ∨ i = 3 ∨ i = 4 ∨ i = 5 ∨ i = 6 ∨ i = 7 ∨ i = 8 ∨ i = 9 ∨ i = 10 ∨ i = 11 by omega) with rfl | rfl | rfl | rfl | rfl | rfl | rfl | rfl | rfl | rfl | rfl | rfl
    · -- 0: slot 7
      have h2 : a.tmps.getD 2 undef = .pointer (some ⟨gp, 0, none⟩) := (hg.was 2 (by kernel_rfl)).trans o2
      have hl11 := hB.early (getD_of_ready (ready_spec hi).2.1)
      have l0 := hB.load hl11
      refine hg.op2 hf ops84_0 rfl (fun K' HK => ?_)
      go_simp
      exact HK.out _ _ (fun _ _ _ h => h) rfl (hB.keep (i := 0) (by decide) (by decide))
    · -- 1: slot 8
      have h5 : a.tmps.getD 5 undef = .pointer (some ⟨bz, 0, none⟩) := (hg.was 5 (by kernel_rfl)).trans o5
      have l3 := hB.box0
      have l4 := hB.box1
      refine hg.op2 hf ops84_1 rfl (fun K' HK => ?_)
      go_simp
      exact HK.out _ _ (fun _ _ _ h => h) rfl (hB.keep (i := 1) (by decide) (by decide))
    · -- 2: slot 9
      have h3 : a.tmps.getD 3 undef = .pointer (some ⟨gi, 0, none⟩) := (hg.was 3 (by kernel_rfl)).trans o3
      have l1 := (hB.below.cell (p := ⟨gi, 0, none⟩) hgi).trans hci
      refine hg.op2 hf ops84_2 rfl (fun K' HK => ?_)
      go_simp
      exact HK.out _ _ (fun _ _ _ h => h) rfl (hB.keep (i := 2) (by decide) (by decide))
    · -- 3: slot 10
      have h1 : a.tmps.getD 1 undef = .int .i64 f := (hg.was 1 (by kernel_rfl)).trans o1
      refine hg.op2 hf ops84_3 rfl (fun K' HK => ?_)
      go_simp
      exact HK.out _ _ (fun _ _ _ h => h) rfl (hB.keep (i := 3) (by decide) (by decide))
    · -- 4: slot 11
      have h9 : a.tmps.getD 9 undef = .int .i64 I := hg.dep ops84_4 hi 2 _ 9 ops84_2 rfl (by kernel_rfl)
      have h10 : a.tmps.getD 10 undef = .int .i64 f := hg.dep ops84_4 hi 3 _ 10 ops84_3 rfl (by kernel_rfl)
      refine hg.op2 hf ops84_4 rfl (fun K' HK => ?_)
      go_simp
      exact HK.out _ _ (fun _ _ _ h => h) rfl (hB.keep (i := 4) (by decide) (by decide))
    · -- 5: slot 12
      have h4 : a.tmps.getD 4 undef = .pointer (some ⟨gj, 0, none⟩) := (hg.was 4 (by kernel_rfl)).trans o4
      have l2 := (hB.below.cell (p := ⟨gj, 0, none⟩) hgj).trans hcj
      refine hg.op2 hf ops84_5 rfl (fun K' HK => ?_)
      go_simp
      exact HK.out _ _ (fun _ _ _ h => h) rfl (hB.keep (i := 5) (by decide) (by decide))
    · -- 6: slot 13
      have h1 : a.tmps.getD 1 undef = .int .i64 f := (hg.was 1 (by kernel_rfl)).trans o1
      refine hg.op2 hf ops84_6 rfl (fun K' HK => ?_)
      go_simp
      exact HK.out _ _ (fun _ _ _ h => h) rfl (hB.keep (i := 6) (by decide) (by decide))
    · -- 7: slot 14
      have h12 : a.tmps.getD 12 undef = .int .i64 J := hg.dep ops84_7 hi 5 _ 12 ops84_5 rfl (by kernel_rfl)
      have h13 : a.tmps.getD 13 undef = .int .i64 f := hg.dep ops84_7 hi 6 _ 13 ops84_6 rfl (by kernel_rfl)
      refine hg.op2 hf ops84_7 rfl (fun K' HK => ?_)
      go_simp
      exact HK.out _ _ (fun _ _ _ h => h) rfl (hB.keep (i := 7) (by decide) (by decide))
    · -- 8: slot 15
      have h8 : a.tmps.getD 8 undef = .agg #[.int .i64 x, .int .i64 y] := hg.dep ops84_8 hi 1 _ 8 ops84_1 rfl (by kernel_rfl)
      have h11 : a.tmps.getD 11 undef = .int .i64 (I - f) := hg.dep ops84_8 hi 4 _ 11 ops84_4 rfl (by kernel_rfl)
      have h14 : a.tmps.getD 14 undef = .int .i64 (J - f) := hg.dep ops84_8 hi 7 _ 14 ops84_7 rfl (by kernel_rfl)
      refine hg.op2 hf ops84_8 rfl (fun K' HK => ?_)
      go_simp
      refine (HSub _).mono ?_; rintro e w2 ⟨rfl, hb2⟩
      exact HK.out _ _ (fun j u _ h => R84_mono gp gi gj bz n c z aa x y f I J q1 q2 xs u (fun v h => h.below hb2) (fun _ v h => h.below hb2) h) rfl (hB.under (i := 8) hb2 (by decide) (by decide) (by omega))
    · -- 9: slot 16
      have h15 : a.tmps.getD 15 undef = .agg #[.int .i64 q1, .int .i64 q2] := hg.dep ops84_9 hi 8 _ 15 ops84_8 rfl (by kernel_rfl)
      have h15b : a.tmps[15]?.getD undef = .agg #[.int .i64 q1, .int .i64 q2] := by rw [← Array.getD_eq_getD_getElem?]; exact h15
      refine hg.op2 hf ops84_9 rfl (fun K' HK => ?_)
      go_simp
      have hb2 := below_al w (Obj.cells #[.int .i64 q1, .int .i64 q2] 39)
      exact HK.out _ _ (fun j u _ h => R84_mono gp gi gj bz n c z aa x y f I J q1 q2 xs u (fun v h => h.below hb2) (fun _ v h => h.below hb2) h) ⟨_, rfl, hB.size, heap_alloc_new _ _⟩ (hB.under (i := 9) hb2 (by decide) (by decide) (by omega))
    · -- 10: slot 17
      have h7 : a.tmps.getD 7 undef = .slice aa n c := hg.dep ops84_10 hi 0 _ 7 ops84_0 rfl (by kernel_rfl)
      have h16s := hg.dep ops84_10 hi 9 _ 16 ops84_9 rfl (by kernel_rfl)
      obtain ⟨b16, h16, hzb, hb16⟩ := h16s
      refine hg.op2 hf ops84_10 rfl (fun K' HK => ?_)
      have hlf := getD_of_ready (ready_spec hi).2.1
      have ho := hB.owns hlf
      have hl11 := hB.early2 hlf
      refine wp_append_lies w (.tmp 7) (.tmp 16) 40 rfl (gp + 1) 39 i0 (.agg #[.int .i64 0, .int .i64 0]) 2 16 Try.underlying40 hi0 hz0 hz1 hz2 rfl (by decide) (.slice aa n c) n xs h7 ho ⟨b16, 0, none⟩ 1 1 [.int .i64 q1, .int .i64 q2] h16 rfl (fun j u hj => ?_) (fun u hu => ?_) (by decide) (by unfold maxLen; omega) (by omega) (by have := hB.size; omega) _ rfl ?_
      · rw [Addr.add_lit, Nat.zero_add, cell_at hb16]; simpa using hj
      · simp only [List.mem_cons, List.not_mem_nil, or_false] at hu; rcases hu with rfl | rfl <;> rfl
      · intro g cap w1 hown hgrow hat hlt
        refine HK.out _ _ (fun j u hj h => R84_mono gp gi gj bz n c z aa x y f I J q1 q2 xs u (fun v h => h.grown hgrow hk hbz) (fun e => by subst e; rw [hlf] at hj; cases hj) h) ⟨_, _, rfl, hown⟩ (hB.appended hgrow hk hlf ho (by rw [hg.full]; exact (Array.getElem?_eq_some_iff.1 ops84_10).1) hl11 hbz hgb)
    · -- 11: slot None
      have h2 : a.tmps.getD 2 undef = .pointer (some ⟨gp, 0, none⟩) := (hg.was 2 (by kernel_rfl)).trans o2
      have h17s := hg.dep ops84_11 hi 10 _ 17 ops84_10 rfl (by kernel_rfl)
      obtain ⟨a17, c17, h17, ho17⟩ := h17s
      have hlen : 11 < listed.size := by rw [hg.full]; exact (Array.getElem?_eq_some_iff.1 ops84_11).1
      have hlf := getD_of_ready (ready_spec hi).2.1
      have hl0 := hB.load hlf
      have hfr := hB.unfr hlf
      refine hg.op2 hf ops84_11 rfl (fun K' HK => ?_)
      go_simp
      exact HK.out _ _ (fun j u _ h => R84_mono gp gi gj bz n c z aa x y f I J q1 q2 xs u (fun v h => h.set (by omega)) (fun _ v h => h.set) h) rfl (hB.stored ho17 (dep_listed ops84_11 hi 0 (by kernel_rfl)) (dep_listed ops84_11 hi 10 (by kernel_rfl)) hlen hlf hgb)
  · intro listed a w hg hall
    have hinv := hg.inv
    refine hQ a w hg.defers hg.size (fun d hd => hg.was d hd) ?_ ⟨hinv.below, hinv.size, hinv.kept, hinv.fin (hall 11 (of_decide_eq_true (by kernel_rfl)))⟩
    trivial

end Go.Proofs.Ytmdifcgnmkpecaa
