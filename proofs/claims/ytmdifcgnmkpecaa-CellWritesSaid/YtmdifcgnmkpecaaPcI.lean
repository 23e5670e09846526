/-
  The region of piece's Slice that makes places of both numbers, whatever order is drawn: written by program (wip/tools/mkreg.py).
-/
import Derived.Test.YtmdifcgnmkpecaaPcH
namespace Go.Proofs.Ytmdifcgnmkpecaa
open Go Go.RowKit
set_option linter.unusedVariables false
structure Inv24 (b4 b5 z : Nat) (i j p q : Int) (wF : World) (L : Array Bool) (w : World) : Prop where
  below : Below b4 wF w
  size : z ≤ w.heap.size
  oldi : L.getD 6 false = false → w.heap[b4]? = some (.cells #[.int .i64 i] 3 (0, 0))
  oldj : L.getD 7 false = false → w.heap[b5]? = some (.cells #[.int .i64 j] 3 (0, 0))
  newi : L.getD 6 false = true → w.heap[b4]? = some (.cells #[.int .i64 p] 3 (0, 0))
  newj : L.getD 7 false = true → w.heap[b5]? = some (.cells #[.int .i64 q] 3 (0, 0))
  ordi : L.getD 6 false = true → L.getD 1 false = true
  ordj : L.getD 7 false = true → L.getD 4 false = true
  kept : ∀ k, k < z → k ≠ b4 → k ≠ b5 → w.heap[k]? = wF.heap[k]?
section
variable {b4 b5 z : Nat} {i0 j0 p q : Int} {wF : World} {L : Array Bool} {w w' : World} {i : Nat}
theorem Inv24.keep (h : Inv24 b4 b5 z i0 j0 p q wF L w) (h1 : 6 ≠ i) (h2 : 7 ≠ i) : Inv24 b4 b5 z i0 j0 p q wF (L.setIfInBounds i true) w :=
  ⟨h.below, h.size, fun e => h.oldi (by rwa [mark_other h1] at e), fun e => h.oldj (by rwa [mark_other h2] at e), fun e => h.newi (by rwa [mark_other h1] at e), fun e => h.newj (by rwa [mark_other h2] at e),
    fun e => mark_keep (h.ordi (by rwa [mark_other h1] at e)), fun e => mark_keep (h.ordj (by rwa [mark_other h2] at e)), h.kept⟩
theorem Inv24.b4lt (h : Inv24 b4 b5 z i0 j0 p q wF L w) : b4 < w.heap.size := by
  cases e : L.getD 6 false with
  | false => exact lt_of_heap (h.oldi e)
  | true => exact lt_of_heap (h.newi e)
theorem Inv24.under (h : Inv24 b4 b5 z i0 j0 p q wF L w) (hb : Below w.heap.size w w') (h1 : 6 ≠ i) (h2 : 7 ≠ i) (h45 : b4 < b5) : Inv24 b4 b5 z i0 j0 p q wF (L.setIfInBounds i true) w' :=
  have g := h.keep h1 h2
  ⟨h.below.trans (hb.mono (Nat.le_of_lt h.b4lt)), Nat.le_trans h.size hb.size, fun e => (hb.block b4 (lt_of_heap (g.oldi e))).trans (g.oldi e), fun e => (hb.block b5 (lt_of_heap (g.oldj e))).trans (g.oldj e),
    fun e => (hb.block b4 (lt_of_heap (g.newi e))).trans (g.newi e), fun e => (hb.block b5 (lt_of_heap (g.newj e))).trans (g.newj e), g.ordi, g.ordj, fun k h1 h2 h3 => (hb.block k (by have := h.size; omega)).trans (h.kept k h1 h2 h3)⟩
theorem Inv24.earlyi (h : Inv24 b4 b5 z i0 j0 p q wF L w) (h0 : L.getD 1 false = false) : L.getD 6 false = false := by
  cases e : L.getD 6 false with
  | false => rfl
  | true => rw [h.ordi e] at h0; cases h0
theorem Inv24.earlyj (h : Inv24 b4 b5 z i0 j0 p q wF L w) (h0 : L.getD 4 false = false) : L.getD 7 false = false := by
  cases e : L.getD 7 false with
  | false => rfl
  | true => rw [h.ordj e] at h0; cases h0
theorem Inv24.loadi (h : Inv24 b4 b5 z i0 j0 p q wF L w) (h0 : L.getD 6 false = false) : w.cell? ⟨b4, 0, none⟩ = some (.int .i64 i0) := by rw [cell_at (h.oldi h0)]; rfl
theorem Inv24.loadj (h : Inv24 b4 b5 z i0 j0 p q wF L w) (h0 : L.getD 7 false = false) : w.cell? ⟨b5, 0, none⟩ = some (.int .i64 j0) := by rw [cell_at (h.oldj h0)]; rfl
theorem Inv24.unfri (h : Inv24 b4 b5 z i0 j0 p q wF L w) (h0 : L.getD 6 false = false) : w.frozen? ⟨b4, 0, none⟩ = false := unfrozen (h.oldi h0) 0
theorem Inv24.unfrj (h : Inv24 b4 b5 z i0 j0 p q wF L w) (h0 : L.getD 7 false = false) : w.frozen? ⟨b5, 0, none⟩ = false := unfrozen (h.oldj h0) 0
theorem mark_self {L : Array Bool} {i : Nat} (h : i < L.size) : (L.setIfInBounds i true).getD i false = true := by
  rw [Array.getD_eq_getD_getElem?, Array.getElem?_setIfInBounds, if_pos rfl, if_pos h]; rfl
theorem Inv24.storei (h : Inv24 b4 b5 z i0 j0 p q wF L w) (h0 : L.getD 1 false = true) (hlen : 6 < L.size) (hlf : L.getD 6 false = false) (h45 : b4 < b5) :
    Inv24 b4 b5 z i0 j0 p q wF (L.setIfInBounds 6 true) (w.setCell ⟨b4, 0, none⟩ (.int .i64 p)) := by
  refine ⟨h.below.setCell (p := ⟨b4, 0, none⟩) (Nat.le_refl _) _, by rw [size_set]; exact h.size, fun e => (by rw [mark_self hlen] at e; cases e), fun e => (heap_set_other (by omega)).trans (h.oldj (by rwa [mark_other (by decide)] at e)),
    fun _ => (by rw [heap_set_at (h.oldi hlf)]; rfl), fun e => (heap_set_other (by omega)).trans (h.newj (by rwa [mark_other (by decide)] at e)), fun _ => mark_keep h0, fun e => mark_keep (h.ordj (by rwa [mark_other (by decide)] at e)), fun k h1 h2 h3 => (heap_set_other h2).trans (h.kept k h1 h2 h3)⟩
theorem Inv24.storej (h : Inv24 b4 b5 z i0 j0 p q wF L w) (h0 : L.getD 4 false = true) (hlen : 7 < L.size) (hlf : L.getD 7 false = false) (h45 : b4 < b5) :
    Inv24 b4 b5 z i0 j0 p q wF (L.setIfInBounds 7 true) (w.setCell ⟨b5, 0, none⟩ (.int .i64 q)) := by
  refine ⟨h.below.setCell (p := ⟨b5, 0, none⟩) (Nat.le_of_lt h45) _, by rw [size_set]; exact h.size, fun e => (heap_set_other (by omega)).trans (h.oldi (by rwa [mark_other (by decide)] at e)), fun e => (by rw [mark_self hlen] at e; cases e),
    fun e => (heap_set_other (by omega)).trans (h.newi (by rwa [mark_other (by decide)] at e)), fun _ => (by rw [heap_set_at (h.oldj hlf)]; rfl), fun e => mark_keep (h.ordi (by rwa [mark_other (by decide)] at e)), fun _ => mark_keep h0, fun k h1 h2 h3 => (heap_set_other h3).trans (h.kept k h1 h2 h3)⟩
end
noncomputable def ops24 : Array Oper := ((Try.f22.body.bind (regOps 1)).getD #[])
theorem ops24_0 : ops24[0]? = some { dst := some 8, op := Go.Op.load 48 (Go.Operand.tmp 3), type := 48, pos := "piece.go:68", after := #[], guard := none } := by kernel_rfl
theorem ops24_1 : ops24[1]? = some { dst := some 9, op := Go.Op.load 3 (Go.Operand.tmp 4), type := 3, pos := "piece.go:68", after := #[], guard := none } := by kernel_rfl
theorem ops24_2 : ops24[2]? = some { dst := some 10, op := Go.Op.call { callee := Go.Callee.value (Go.Operand.func 60), args := #[Go.Operand.tmp 8, Go.Operand.tmp 9], argTypes := #[48, 3] }, type := 3, pos := "piece.go:68", after := #[{ on := 0, ground := Go.Ground.data }, { on := 1, ground := Go.Ground.data }], guard := none } := by kernel_rfl
theorem ops24_3 : ops24[3]? = some { dst := some 11, op := Go.Op.load 48 (Go.Operand.tmp 3), type := 48, pos := "piece.go:68", after := #[], guard := none } := by kernel_rfl
theorem ops24_4 : ops24[4]? = some { dst := some 12, op := Go.Op.load 3 (Go.Operand.tmp 5), type := 3, pos := "piece.go:68", after := #[], guard := none } := by kernel_rfl
theorem ops24_5 : ops24[5]? = some { dst := some 13, op := Go.Op.call { callee := Go.Callee.value (Go.Operand.func 60), args := #[Go.Operand.tmp 11, Go.Operand.tmp 12], argTypes := #[48, 3] }, type := 3, pos := "piece.go:68", after := #[{ on := 3, ground := Go.Ground.data }, { on := 4, ground := Go.Ground.data }, { on := 2, ground := Go.Ground.chain }], guard := none } := by kernel_rfl
theorem ops24_6 : ops24[6]? = some { dst := none, op := Go.Op.store 3 (Go.Operand.tmp 4) (Go.Operand.tmp 10), type := 0, pos := "piece.go:68", after := #[{ on := 2, ground := Go.Ground.data }, { on := 5, ground := Go.Ground.chain }, { on := 0, ground := Go.Ground.phase }, { on := 1, ground := Go.Ground.phase }, { on := 2, ground := Go.Ground.phase }, { on := 3, ground := Go.Ground.textOnly Go.Departure.lateStores }, { on := 4, ground := Go.Ground.textOnly Go.Departure.inlinedCapture }, { on := 5, ground := Go.Ground.textOnly Go.Departure.lateStoresUnsure }], guard := none } := by kernel_rfl
theorem ops24_7 : ops24[7]? = some { dst := none, op := Go.Op.store 3 (Go.Operand.tmp 5) (Go.Operand.tmp 13), type := 0, pos := "piece.go:68", after := #[{ on := 5, ground := Go.Ground.data }, { on := 6, ground := Go.Ground.chain }, { on := 0, ground := Go.Ground.phase }, { on := 1, ground := Go.Ground.phase }, { on := 2, ground := Go.Ground.phase }, { on := 3, ground := Go.Ground.phase }, { on := 4, ground := Go.Ground.phase }, { on := 5, ground := Go.Ground.phase }, { on := 6, ground := Go.Ground.phase }], guard := none } := by kernel_rfl
noncomputable def R24 (b3 b4 b5 z : Nat) (vv : Value) (xi xj p q : Int) (i : Nat) (v : Value) (w : World) : Prop := v = ([.agg #[vv], .int .i64 xi, .int .i64 p, .agg #[vv], .int .i64 xj, .int .i64 q, undef, undef] : List Value).getD i undef
theorem R24_mono (b3 b4 b5 z : Nat) (vv : Value) (xi xj p q : Int) {w w' : World} {i : Nat} (v : Value) (h : R24 b3 b4 b5 z vv xi xj p q i v w) : R24 b3 b4 b5 z vv xi xj p q i v w' := by
  unfold R24 at *
  exact h
set_option maxHeartbeats 8000000 in
set_option maxRecDepth 100000 in
theorem reg24 (b3 b4 b5 z : Nat) (vv : Value) (xi xj p q : Int) {a0 : Act} {wF : World} {Q : Exit → Act → World → Prop} (hsize : a0.tmps.size = 19) (o3 : a0.tmps.getD 3 undef = .pointer (some ⟨b3, 0, none⟩)) (o4 : a0.tmps.getD 4 undef = .pointer (some ⟨b4, 0, none⟩)) (o5 : a0.tmps.getD 5 undef = .pointer (some ⟨b5, 0, none⟩))
    (start24 : Inv24 b4 b5 z xi xj p q wF (Array.replicate ops24.size false) wF.drew) (h34 : b3 < b4) (h45 : b4 < b5)
    (h3c : wF.cell? ⟨b3, 0, none⟩ = some vv)
    (HPi : ∀ w', Below b4 wF w' → Calls Try.prog 60 #[.agg #[vv], .int .i64 xi] w' fun e w2 => e = .returned (.int .i64 p) ∧ Below w'.heap.size w' w2)
    (HPj : ∀ w', Below b4 wF w' → Calls Try.prog 60 #[.agg #[vv], .int .i64 xj] w' fun e w2 => e = .returned (.int .i64 q) ∧ Below w'.heap.size w' w2)
    (hQ : ∀ a w', a.defers = a0.defers → a.tmps.size = a0.tmps.size → (∀ d : Nat, (ops24.all fun o => o.dst != some d) = true → a.tmps.getD d undef = a0.tmps.getD d undef) → True → (Below b4 wF w' ∧ z ≤ (w').heap.size ∧ (w').heap[b4]? = some (.cells #[.int .i64 p] 3 (0, 0)) ∧ (w').heap[b5]? = some (.cells #[.int .i64 q] 3 (0, 0)) ∧ (∀ k, k < z → k ≠ b4 → k ≠ b5 → (w').heap[k]? = wF.heap[k]?)) → Q .normal a w') : (Code.region 1 ops24 true).wp Try.prog Q a0 wF := by
  have hf : opsFine .any ops24 a0.tmps.size = true := by rw [hsize]; kernel_rfl
  refine wp_region_good (by kernel_rfl) (R24 b3 b4 b5 z vv xi xj p q) (fun L w' => Inv24 b4 b5 z xi xj p q wF L w') hf (start24) ?_ ?_
  · intro i listed a w hg hi
    have hlt : i < 8 := (ready_spec hi).1
    have hB : Inv24 b4 b5 z xi xj p q wF listed w := hg.inv
    rcases (show i = 0 ∨ i = 1 ∨ i = 2 ∨ i = 3 ∨ i = 4 ∨ i = 5 ∨ i = 6 ∨ i = 7 by omega) with rfl | rfl | rfl | rfl | rfl | rfl | rfl | rfl
    · -- 0: slot 8
      have h3 : a.tmps.getD 3 undef = .pointer (some ⟨b3, 0, none⟩) := (hg.was 3 (by kernel_rfl)).trans o3
      have l3 := (hB.below.cell (p := ⟨b3, 0, none⟩) h34).trans h3c
      refine hg.op2 hf ops24_0 rfl (fun K' HK => ?_)
      go_simp
      exact HK.out _ _ (fun _ _ _ h => h) rfl (hB.keep (i := 0) (by decide) (by decide))
    · -- 1: slot 9
      have h4 : a.tmps.getD 4 undef = .pointer (some ⟨b4, 0, none⟩) := (hg.was 4 (by kernel_rfl)).trans o4
      have l4 := hB.loadi (hB.earlyi (getD_of_ready (ready_spec hi).2.1))
      refine hg.op2 hf ops24_1 rfl (fun K' HK => ?_)
      go_simp
      exact HK.out _ _ (fun _ _ _ h => h) rfl (hB.keep (i := 1) (by decide) (by decide))
    · -- 2: slot 10
      have h8 : a.tmps.getD 8 undef = .agg #[vv] := hg.dep ops24_2 hi 0 _ 8 ops24_0 rfl (by kernel_rfl)
      have h9 : a.tmps.getD 9 undef = .int .i64 xi := hg.dep ops24_2 hi 1 _ 9 ops24_1 rfl (by kernel_rfl)
      refine hg.op2 hf ops24_2 rfl (fun K' HK => ?_)
      go_simp
      refine (HPi _ hB.below).mono ?_; rintro e w2 ⟨rfl, hb2⟩
      exact HK.out _ _ (fun _ _ _ h => h) rfl (hB.under (i := 2) hb2 (by decide) (by decide) h45)
    · -- 3: slot 11
      have h3 : a.tmps.getD 3 undef = .pointer (some ⟨b3, 0, none⟩) := (hg.was 3 (by kernel_rfl)).trans o3
      have l3 := (hB.below.cell (p := ⟨b3, 0, none⟩) h34).trans h3c
      refine hg.op2 hf ops24_3 rfl (fun K' HK => ?_)
      go_simp
      exact HK.out _ _ (fun _ _ _ h => h) rfl (hB.keep (i := 3) (by decide) (by decide))
    · -- 4: slot 12
      have h5 : a.tmps.getD 5 undef = .pointer (some ⟨b5, 0, none⟩) := (hg.was 5 (by kernel_rfl)).trans o5
      have l5 := hB.loadj (hB.earlyj (getD_of_ready (ready_spec hi).2.1))
      refine hg.op2 hf ops24_4 rfl (fun K' HK => ?_)
      go_simp
      exact HK.out _ _ (fun _ _ _ h => h) rfl (hB.keep (i := 4) (by decide) (by decide))
    · -- 5: slot 13
      have h11 : a.tmps.getD 11 undef = .agg #[vv] := hg.dep ops24_5 hi 3 _ 11 ops24_3 rfl (by kernel_rfl)
      have h12 : a.tmps.getD 12 undef = .int .i64 xj := hg.dep ops24_5 hi 4 _ 12 ops24_4 rfl (by kernel_rfl)
      refine hg.op2 hf ops24_5 rfl (fun K' HK => ?_)
      go_simp
      refine (HPj _ hB.below).mono ?_; rintro e w2 ⟨rfl, hb2⟩
      exact HK.out _ _ (fun _ _ _ h => h) rfl (hB.under (i := 5) hb2 (by decide) (by decide) h45)
    · -- 6: slot None
      have h4 : a.tmps.getD 4 undef = .pointer (some ⟨b4, 0, none⟩) := (hg.was 4 (by kernel_rfl)).trans o4
      have h10 : a.tmps.getD 10 undef = .int .i64 p := hg.dep ops24_6 hi 2 _ 10 ops24_2 rfl (by kernel_rfl)
      refine hg.op2 hf ops24_6 rfl (fun K' HK => ?_)
      have hlf := getD_of_ready (ready_spec hi).2.1
      have l4 := hB.loadi hlf
      have hfr := hB.unfri hlf
      go_simp
      exact HK.out undef _ (fun _ _ _ h => h) rfl (hB.storei (dep_listed ops24_6 hi 1 (by kernel_rfl)) (by rw [hg.full]; exact (Array.getElem?_eq_some_iff.1 ops24_6).1) hlf h45)
    · -- 7: slot None
      have h5 : a.tmps.getD 5 undef = .pointer (some ⟨b5, 0, none⟩) := (hg.was 5 (by kernel_rfl)).trans o5
      have h13 : a.tmps.getD 13 undef = .int .i64 q := hg.dep ops24_7 hi 5 _ 13 ops24_5 rfl (by kernel_rfl)
      refine hg.op2 hf ops24_7 rfl (fun K' HK => ?_)
      have hlf := getD_of_ready (ready_spec hi).2.1
      have l5 := hB.loadj hlf
      have hfr := hB.unfrj hlf
      go_simp
      exact HK.out undef _ (fun _ _ _ h => h) rfl (hB.storej (dep_listed ops24_7 hi 4 (by kernel_rfl)) (by rw [hg.full]; exact (Array.getElem?_eq_some_iff.1 ops24_7).1) hlf h45)
  · intro listed a w hg hall
    have hinv := hg.inv
    refine hQ a w hg.defers hg.size (fun d hd => hg.was d hd) ?_ ⟨hinv.below, hinv.size, hinv.newi (hall 6 (of_decide_eq_true (by kernel_rfl))), hinv.newj (hall 7 (of_decide_eq_true (by kernel_rfl))), hinv.kept⟩
    trivial

end Go.Proofs.Ytmdifcgnmkpecaa
