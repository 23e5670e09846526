/-
  Texts of this seat, put together (a claim holds few texts): RwI.
-/
import Derived.Test.YtkgakgceamafcaaGreatMk21

namespace Go.Proofs.YtkgakgceamafcaaGreat
open Go Go.RowKit
set_option linter.unusedVariables false
/-- What is to be appended, in a block of its own. -/
def P9 (z : Nat) (f0 f1 : ByteArray) (v : Value) (w : World) : Prop := ∃ b : Nat, v = .slice (some ⟨b, 0, none⟩) 1 1 ∧ z ≤ b ∧ w.heap[b]? = some (.cells #[.string f0, .string f1, .bool true] 51 (0, 0))
theorem P9.below {z : Nat} {f0 f1 : ByteArray} {v : Value} {w w' : World} (h : P9 z f0 f1 v w) (hb : Below w.heap.size w w') : P9 z f0 f1 v w' := by
  obtain ⟨b, h1, h2, h3⟩ := h
  exact ⟨b, h1, h2, (hb.block b (lt_of_heap h3)).trans h3⟩
theorem P9.grown {z bz n c : Nat} {aa : Option Addr} {f0 f1 : ByteArray} {v : Value} {w w' : World} (h : P9 z f0 f1 v w) (hg : w.grownBy w' (Value.slice aa n c).ownBlock) (hk : ∀ k, (Value.slice aa n c).ownBlock = some k → k < bz) (hbz : bz < z) : P9 z f0 f1 v w' := by
  obtain ⟨b, h1, h2, h3⟩ := h
  exact ⟨b, h1, h2, (hg.block b (lt_of_heap h3) (fun ee => by have := hk b ee.symm; omega)).trans h3⟩
theorem P9.set {z gp : Nat} {f0 f1 : ByteArray} {v u : Value} {w : World} (h : P9 z f0 f1 v w) (hz : gp < z) : P9 z f0 f1 v (w.setCell ⟨gp, 0, none⟩ u) := by
  obtain ⟨b, h1, h2, h3⟩ := h
  exact ⟨b, h1, h2, (heap_set_other (by omega)).trans h3⟩
/-- The row behind it. -/
def O9 (gp n : Nat) (f0 f1 : ByteArray) (xs : List Value) (v : Value) (w : World) : Prop := ∃ a' c', v = .slice a' (n + 1) c' ∧ w.ownsRow (gp + 1) 51 3 (.slice a' (n + 1) c') (n + 1) (xs ++ [.string f0, .string f1, .bool true])
theorem O9.below {gp n : Nat} {f0 f1 : ByteArray} {xs : List Value} {v : Value} {w w' : World} (h : O9 gp n f0 f1 xs v w) (hb : Below w.heap.size w w') : O9 gp n f0 f1 xs v w' := by
  obtain ⟨a, c, h1, h2⟩ := h
  exact ⟨a, c, h1, own_below h2 hb⟩
theorem O9.set {gp n : Nat} {f0 f1 : ByteArray} {xs : List Value} {v u : Value} {w : World} (h : O9 gp n f0 f1 xs v w) : O9 gp n f0 f1 xs v (w.setCell ⟨gp, 0, none⟩ u) := by
  obtain ⟨a, c, h1, h2⟩ := h
  exact ⟨a, c, h1, own_set_var h2⟩
/-- At the end. -/
def Fin9 (gp n : Nat) (e : Int) (f0 f1 : ByteArray) (xs : List Value) (w : World) : Prop := ∃ a' c', w.heap[gp]? = some (.cells #[.slice a' (n + 1) c', .int .i64 e, .bool false] 116 (0, 0)) ∧ w.ownsRow (gp + 1) 51 3 (.slice a' (n + 1) c') (n + 1) (xs ++ [.string f0, .string f1, .bool true])
structure Inv9 (gp bz n c z f nq c7 : Nat) (aa a7 : Option Addr) (x2 x3 e : Int) (f0 f1 : ByteArray) (xs : List Value) (wF : World) (L : Array Bool) (w : World) : Prop where
  below : Below gp wF w
  size : z ≤ w.heap.size
  box : w.heap[bz]? = some (.cells #[.int .i64 f, .int .i64 x2, .int .i64 x3, .slice a7 nq c7] 190 (0, 0))
  var : L.getD 22 false = false → w.heap[gp]? = some (.cells #[.slice aa n c, .int .i64 e, .bool false] 116 (0, 0))
  owns : L.getD 20 false = false → w.ownsRow (gp + 1) 51 3 (.slice aa n c) n xs
  ord : L.getD 22 false = true → L.getD 1 false = true ∧ L.getD 20 false = true
  fin : L.getD 22 false = true → Fin9 gp n e f0 f1 xs w
  kept : ∀ k, k < z → k ≠ gp → (Value.slice aa n c).ownBlock ≠ some k → w.heap[k]? = wF.heap[k]?
section
variable {gp bz n c z f nq c7 : Nat} {aa a7 : Option Addr} {x2 x3 e : Int} {f0 f1 : ByteArray} {xs : List Value} {wF : World} {L : Array Bool} {w w' : World} {i : Nat}
theorem Inv9.keep (h : Inv9 gp bz n c z f nq c7 aa a7 x2 x3 e f0 f1 xs wF L w) (h1 : 22 ≠ i) (h2 : 20 ≠ i) : Inv9 gp bz n c z f nq c7 aa a7 x2 x3 e f0 f1 xs wF (L.setIfInBounds i true) w :=
  ⟨h.below, h.size, h.box, fun ee => h.var (by rwa [mark_other h1] at ee), fun ee => h.owns (by rwa [mark_other h2] at ee), fun ee => ⟨mark_keep (h.ord (by rwa [mark_other h1] at ee)).1, mark_keep (h.ord (by rwa [mark_other h1] at ee)).2⟩, fun ee => h.fin (by rwa [mark_other h1] at ee), h.kept⟩
theorem Inv9.under (h : Inv9 gp bz n c z f nq c7 aa a7 x2 x3 e f0 f1 xs wF L w) (hb : Below w.heap.size w w') (h1 : 22 ≠ i) (h2 : 20 ≠ i) (hgz : gp ≤ z) : Inv9 gp bz n c z f nq c7 aa a7 x2 x3 e f0 f1 xs wF (L.setIfInBounds i true) w' :=
  ⟨h.below.trans (hb.mono (by have := h.size; omega)), Nat.le_trans h.size hb.size, (hb.block bz (lt_of_heap h.box)).trans h.box, fun ee => (hb.block gp (lt_of_heap (h.var (by rwa [mark_other h1] at ee)))).trans (h.var (by rwa [mark_other h1] at ee)),
    fun ee => own_below (h.owns (by rwa [mark_other h2] at ee)) hb, fun ee => ⟨mark_keep (h.ord (by rwa [mark_other h1] at ee)).1, mark_keep (h.ord (by rwa [mark_other h1] at ee)).2⟩, fun ee => by
      obtain ⟨a, c, h3, h4⟩ := h.fin (by rwa [mark_other h1] at ee)
      exact ⟨a, c, (hb.block gp (lt_of_heap h3)).trans h3, own_below h4 hb⟩, fun k h1 h2 h3 => (hb.block k (by have := h.size; omega)).trans (h.kept k h1 h2 h3)⟩
theorem Inv9.early (h : Inv9 gp bz n c z f nq c7 aa a7 x2 x3 e f0 f1 xs wF L w) (h0 : L.getD 1 false = false) : L.getD 22 false = false := by
  cases ee : L.getD 22 false with
  | false => rfl
  | true => rw [(h.ord ee).1] at h0; cases h0
theorem Inv9.early2 (h : Inv9 gp bz n c z f nq c7 aa a7 x2 x3 e f0 f1 xs wF L w) (h0 : L.getD 20 false = false) : L.getD 22 false = false := by
  cases ee : L.getD 22 false with
  | false => rfl
  | true => rw [(h.ord ee).2] at h0; cases h0
theorem Inv9.load (h : Inv9 gp bz n c z f nq c7 aa a7 x2 x3 e f0 f1 xs wF L w) (h0 : L.getD 22 false = false) : w.cell? ⟨gp, 0, none⟩ = some (.slice aa n c) := by rw [cell_at (h.var h0)]; rfl
theorem Inv9.unfr (h : Inv9 gp bz n c z f nq c7 aa a7 x2 x3 e f0 f1 xs wF L w) (h0 : L.getD 22 false = false) : w.frozen? ⟨gp, 0, none⟩ = false := unfrozen (h.var h0) 0
theorem Inv9.box0 (h : Inv9 gp bz n c z f nq c7 aa a7 x2 x3 e f0 f1 xs wF L w) : w.cell? ⟨bz, 0, none⟩ = some (.int .i64 f) := by rw [cell_at h.box]; rfl
theorem Inv9.box1 (h : Inv9 gp bz n c z f nq c7 aa a7 x2 x3 e f0 f1 xs wF L w) : w.cell? ⟨bz, 1, none⟩ = some (.int .i64 x2) := by rw [cell_at h.box]; rfl
theorem Inv9.box2 (h : Inv9 gp bz n c z f nq c7 aa a7 x2 x3 e f0 f1 xs wF L w) : w.cell? ⟨bz, 2, none⟩ = some (.int .i64 x3) := by rw [cell_at h.box]; rfl
theorem Inv9.box3 (h : Inv9 gp bz n c z f nq c7 aa a7 x2 x3 e f0 f1 xs wF L w) : w.cell? ⟨bz, 3, none⟩ = some (.slice a7 nq c7) := by rw [cell_at h.box]; rfl
theorem Inv9.appended (h : Inv9 gp bz n c z f nq c7 aa a7 x2 x3 e f0 f1 xs wF L w) (hg : w.grownBy w' (Value.slice aa n c).ownBlock) (hk : ∀ k, (Value.slice aa n c).ownBlock = some k → k < bz) (hl : L.getD 20 false = false) (ho : w.ownsRow (gp + 1) 51 3 (.slice aa n c) n xs)
    (hlen : 20 < L.size) (h11 : L.getD 22 false = false) (hbz : bz < z) (hgb : gp < bz) : Inv9 gp bz n c z f nq c7 aa a7 x2 x3 e f0 f1 xs wF (L.setIfInBounds 20 true) w' := by
  have hlt := ho.lt
  refine ⟨h.below.grown hg (by have := h.size; omega) (fun k hk' => by have := hlt k hk'; omega), Nat.le_trans h.size hg.size, (hg.block bz (lt_of_heap h.box) (fun ee => by have := hk bz ee.symm; omega)).trans h.box,
    fun ee => (hg.block gp (lt_of_heap (h.var h11)) (fun e' => by have := hlt gp e'.symm; omega)).trans (h.var h11), fun ee => ?_, fun ee => ?_, fun ee => ?_, fun k h1 h2 h3 => (hg.block k (by have := h.size; omega) (fun ee => h3 ee.symm)).trans (h.kept k h1 h2 h3)⟩
  · rw [Array.getD_eq_getD_getElem?, Array.getElem?_setIfInBounds, if_pos rfl, if_pos hlen] at ee
    cases ee
  · rw [mark_other (by decide), h11] at ee; cases ee
  · rw [mark_other (by decide), h11] at ee; cases ee
theorem Inv9.stored (h : Inv9 gp bz n c z f nq c7 aa a7 x2 x3 e f0 f1 xs wF L w) {a' : Option Addr} {c' : Nat} (ho : w.ownsRow (gp + 1) 51 3 (.slice a' (n + 1) c') (n + 1) (xs ++ [.string f0, .string f1, .bool true])) (h0 : L.getD 1 false = true) (h10 : L.getD 20 false = true) (hlen : 22 < L.size)
    (h11 : L.getD 22 false = false) (hgb : gp < bz) : Inv9 gp bz n c z f nq c7 aa a7 x2 x3 e f0 f1 xs wF (L.setIfInBounds 22 true) (w.setCell ⟨gp, 0, none⟩ (.slice a' (n + 1) c')) := by
  refine ⟨h.below.setCell (p := ⟨gp, 0, none⟩) (Nat.le_refl _) _, by rw [size_set]; exact h.size, (heap_set_other (by omega)).trans h.box, fun ee => ?_, fun ee => own_set_var (h.owns (by rwa [mark_other (by decide)] at ee)), fun _ => ⟨mark_keep h0, mark_keep h10⟩, fun _ => ⟨a', c', ?_, own_set_var ho⟩, fun k h1 h2 h3 => (heap_set_other h2).trans (h.kept k h1 h2 h3)⟩
  · rw [Array.getD_eq_getD_getElem?, Array.getElem?_setIfInBounds, if_pos rfl, if_pos hlen] at ee
    cases ee
  · rw [heap_set_at (h.var h11)]; rfl
end
noncomputable def ops9 : Array Oper := ((Tryz.f50.body.bind (regOps 9)).getD #[])
theorem ops9_0 : ops9[0]? = some { dst := some 29, op := Go.Op.fieldAddr 116 (Go.Operand.tmp 6) 0, type := 0, pos := "ref.go:27", after := #[], guard := none } := by kernel_rfl
theorem ops9_1 : ops9[1]? = some { dst := some 30, op := Go.Op.load 114 (Go.Operand.tmp 29), type := 114, pos := "ref.go:27", after := #[{ on := 0, ground := Go.Ground.data }], guard := none } := by kernel_rfl
theorem ops9_2 : ops9[2]? = some { dst := some 31, op := Go.Op.move (Go.Operand.tmp 0), type := 9, pos := "ref.go:27", after := #[], guard := none } := by kernel_rfl
theorem ops9_3 : ops9[3]? = some { dst := some 32, op := Go.Op.fieldAddr 190 (Go.Operand.tmp 8) 2, type := 0, pos := "ref.go:27", after := #[], guard := none } := by kernel_rfl
theorem ops9_4 : ops9[4]? = some { dst := some 33, op := Go.Op.load 157 (Go.Operand.tmp 32), type := 157, pos := "ref.go:27", after := #[{ on := 3, ground := Go.Ground.data }], guard := none } := by kernel_rfl
theorem ops9_5 : ops9[5]? = some { dst := some 34, op := Go.Op.call { callee := Go.Callee.value (Go.Operand.func 105), args := #[Go.Operand.tmp 31, Go.Operand.tmp 33], argTypes := #[9, 157] }, type := 9, pos := "ref.go:27", after := #[{ on := 2, ground := Go.Ground.data }, { on := 4, ground := Go.Ground.data }], guard := none } := by kernel_rfl
theorem ops9_6 : ops9[6]? = some { dst := some 35, op := Go.Op.move (Go.Operand.tmp 0), type := 9, pos := "ref.go:27", after := #[], guard := none } := by kernel_rfl
theorem ops9_7 : ops9[7]? = some { dst := some 36, op := Go.Op.fieldAddr 190 (Go.Operand.tmp 8) 0, type := 0, pos := "ref.go:27", after := #[], guard := none } := by kernel_rfl
theorem ops9_8 : ops9[8]? = some { dst := some 37, op := Go.Op.fieldAddr 188 (Go.Operand.tmp 36) 0, type := 0, pos := "ref.go:27", after := #[{ on := 7, ground := Go.Ground.data }], guard := none } := by kernel_rfl
theorem ops9_9 : ops9[9]? = some { dst := some 38, op := Go.Op.load 3 (Go.Operand.tmp 37), type := 3, pos := "ref.go:27", after := #[{ on := 8, ground := Go.Ground.data }], guard := none } := by kernel_rfl
theorem ops9_10 : ops9[10]? = some { dst := some 39, op := Go.Op.fieldAddr 190 (Go.Operand.tmp 8) 0, type := 0, pos := "ref.go:27", after := #[], guard := none } := by kernel_rfl
theorem ops9_11 : ops9[11]? = some { dst := some 40, op := Go.Op.fieldAddr 188 (Go.Operand.tmp 39) 0, type := 0, pos := "ref.go:27", after := #[{ on := 10, ground := Go.Ground.data }], guard := none } := by kernel_rfl
theorem ops9_12 : ops9[12]? = some { dst := some 41, op := Go.Op.load 3 (Go.Operand.tmp 40), type := 3, pos := "ref.go:27", after := #[{ on := 11, ground := Go.Ground.data }], guard := none } := by kernel_rfl
theorem ops9_13 : ops9[13]? = some { dst := some 42, op := Go.Op.fieldAddr 190 (Go.Operand.tmp 8) 0, type := 0, pos := "ref.go:27", after := #[], guard := none } := by kernel_rfl
theorem ops9_14 : ops9[14]? = some { dst := some 43, op := Go.Op.fieldAddr 188 (Go.Operand.tmp 42) 1, type := 0, pos := "ref.go:27", after := #[{ on := 13, ground := Go.Ground.data }], guard := none } := by kernel_rfl
theorem ops9_15 : ops9[15]? = some { dst := some 44, op := Go.Op.load 3 (Go.Operand.tmp 43), type := 3, pos := "ref.go:27", after := #[{ on := 14, ground := Go.Ground.data }], guard := none } := by kernel_rfl
theorem ops9_16 : ops9[16]? = some { dst := some 45, op := Go.Op.binOp Go.BinOp.add 3 (Go.Operand.tmp 41) (Go.Operand.tmp 44) 3, type := 3, pos := "ref.go:27", after := #[{ on := 12, ground := Go.Ground.data }, { on := 15, ground := Go.Ground.data }], guard := none } := by kernel_rfl
theorem ops9_17 : ops9[17]? = some { dst := some 46, op := Go.Op.slice 9 (Go.Operand.tmp 35) (some (Go.Operand.tmp 38)) (some (Go.Operand.tmp 45)) none, type := 9, pos := "ref.go:27", after := #[{ on := 6, ground := Go.Ground.data }, { on := 9, ground := Go.Ground.data }, { on := 16, ground := Go.Ground.data }], guard := none } := by kernel_rfl
theorem ops9_18 : ops9[18]? = some { dst := some 47, op := Go.Op.build 51 #[(0, Go.Operand.tmp 34), (1, Go.Operand.tmp 46), (2, Go.Operand.const (Go.Value.bool true))], type := 51, pos := "ref.go:27", after := #[{ on := 5, ground := Go.Ground.data }, { on := 17, ground := Go.Ground.data }], guard := none } := by kernel_rfl
theorem ops9_19 : ops9[19]? = some { dst := some 48, op := Go.Op.buildSlice 114 1 #[(0, Go.Operand.tmp 47)], type := 114, pos := "ref.go:27", after := #[{ on := 18, ground := Go.Ground.data }], guard := none } := by kernel_rfl
theorem ops9_20 : ops9[20]? = some { dst := some 49, op := Go.Op.call { callee := Go.Callee.builtin Go.Builtin.append, args := #[Go.Operand.tmp 30, Go.Operand.tmp 48], argTypes := #[114, 114] }, type := 114, pos := "ref.go:27", after := #[{ on := 1, ground := Go.Ground.data }, { on := 19, ground := Go.Ground.data }, { on := 5, ground := Go.Ground.chain }], guard := none } := by kernel_rfl
theorem ops9_21 : ops9[21]? = some { dst := some 50, op := Go.Op.fieldAddr 116 (Go.Operand.tmp 6) 0, type := 0, pos := "ref.go:27", after := #[{ on := 0, ground := Go.Ground.phase }, { on := 1, ground := Go.Ground.phase }, { on := 2, ground := Go.Ground.phase }, { on := 3, ground := Go.Ground.phase }, { on := 4, ground := Go.Ground.phase }, { on := 5, ground := Go.Ground.phase }, { on := 6, ground := Go.Ground.phase }, { on := 7, ground := Go.Ground.phase }, { on := 8, ground := Go.Ground.phase }, { on := 9, ground := Go.Ground.phase }, { on := 10, ground := Go.Ground.phase }, { on := 11, ground := Go.Ground.phase }, { on := 12, ground := Go.Ground.phase }, { on := 13, ground := Go.Ground.phase }, { on := 14, ground := Go.Ground.phase }, { on := 15, ground := Go.Ground.phase }, { on := 16, ground := Go.Ground.phase }, { on := 17, ground := Go.Ground.phase }, { on := 18, ground := Go.Ground.phase }, { on := 19, ground := Go.Ground.phase }, { on := 20, ground := Go.Ground.phase }], guard := none } := by kernel_rfl
theorem ops9_22 : ops9[22]? = some { dst := none, op := Go.Op.store 114 (Go.Operand.tmp 50) (Go.Operand.tmp 49), type := 0, pos := "ref.go:27", after := #[{ on := 21, ground := Go.Ground.data }, { on := 20, ground := Go.Ground.data }, { on := 20, ground := Go.Ground.chain }, { on := 0, ground := Go.Ground.phase }, { on := 1, ground := Go.Ground.phase }, { on := 2, ground := Go.Ground.phase }, { on := 3, ground := Go.Ground.phase }, { on := 4, ground := Go.Ground.phase }, { on := 5, ground := Go.Ground.phase }, { on := 6, ground := Go.Ground.phase }, { on := 7, ground := Go.Ground.phase }, { on := 8, ground := Go.Ground.phase }, { on := 9, ground := Go.Ground.phase }, { on := 10, ground := Go.Ground.phase }, { on := 11, ground := Go.Ground.phase }, { on := 12, ground := Go.Ground.phase }, { on := 13, ground := Go.Ground.phase }, { on := 14, ground := Go.Ground.phase }, { on := 15, ground := Go.Ground.phase }, { on := 16, ground := Go.Ground.phase }, { on := 17, ground := Go.Ground.phase }, { on := 18, ground := Go.Ground.phase }, { on := 19, ground := Go.Ground.phase }, { on := 20, ground := Go.Ground.phase }], guard := none } := by kernel_rfl
noncomputable def R9 (gp bz n c z f tt nq c7 : Nat) (aa a7 : Option Addr) (x2 x3 e : Int) (s f0 : ByteArray) (xs : List Value) (i : Nat) (v : Value) (w : World) : Prop := if i = 19 then (P9 z f0 (s.extract f tt) v w) else if i = 20 then (O9 gp n f0 (s.extract f tt) xs v w) else v = ([.pointer (some ⟨gp, 0, none⟩), .slice aa n c, .string s, .pointer (some ⟨bz, 3, none⟩), .slice a7 nq c7, .string f0, .string s, .pointer (some ⟨bz, 0, none⟩), .pointer (some ⟨bz, 0, none⟩), .int .i64 f, .pointer (some ⟨bz, 0, none⟩), .pointer (some ⟨bz, 0, none⟩), .int .i64 f, .pointer (some ⟨bz, 0, none⟩), .pointer (some ⟨bz, 1, none⟩), .int .i64 x2, .int .i64 tt, .string (s.extract f tt), .agg #[.string f0, .string (s.extract f tt), .bool true], undef, undef, .pointer (some ⟨gp, 0, none⟩), undef] : List Value).getD i undef
theorem R9_mono (gp bz n c z f tt nq c7 : Nat) (aa a7 : Option Addr) (x2 x3 e : Int) (s f0 : ByteArray) (xs : List Value) {w w' : World} {i : Nat} (v : Value) (hm16 : ∀ v, P9 z f0 (s.extract f tt) v w → P9 z f0 (s.extract f tt) v w') (hm17 : i = 20 → ∀ v, O9 gp n f0 (s.extract f tt) xs v w → O9 gp n f0 (s.extract f tt) xs v w') (h : R9 gp bz n c z f tt nq c7 aa a7 x2 x3 e s f0 xs i v w) : R9 gp bz n c z f tt nq c7 aa a7 x2 x3 e s f0 xs i v w' := by
  unfold R9 at *
  by_cases e48 : i = 19
  · rw [if_pos e48] at h ⊢
    exact hm16 v h
  rw [if_neg e48] at h ⊢
  by_cases e49 : i = 20
  · rw [if_pos e49] at h ⊢
    exact hm17 e49 v h
  rw [if_neg e49] at h ⊢
  exact h
set_option maxHeartbeats 8000000 in
set_option maxRecDepth 100000 in
theorem reg9 (gp bz n c z f tt nq c7 : Nat) (aa a7 : Option Addr) (x2 x3 e : Int) (s f0 : ByteArray) (xs : List Value) {a0 : Act} {wF : World} {Q : Exit → Act → World → Prop} (hsize : a0.tmps.size = 53) (o0 : a0.tmps.getD 0 undef = .string s) (o6 : a0.tmps.getD 6 undef = .pointer (some ⟨gp, 0, none⟩)) (o8 : a0.tmps.getD 8 undef = .pointer (some ⟨bz, 0, none⟩))
    (start9 : Inv9 gp bz n c z f nq c7 aa a7 x2 x3 e f0 (s.extract f tt) xs wF (Array.replicate ops9.size false) wF.drew)
    (hgb : gp < bz) (hbz : bz < z) (hk : ∀ k, (Value.slice aa n c).ownBlock = some k → k < bz) (hn : n ≤ 20000) (hwr : IntKind.i64.wrap ((f : Int) + x2) = (tt : Int)) (hs1 : tt ≤ s.size) (j0 : (0 : Int) ≤ (f : Int)) (j1 : (f : Int) ≤ (tt : Int)) (j2 : (tt : Int) ≤ (s.size : Int)) (j3 : f ≤ tt)
    (i0 : TypeInfo) (hi0 : Tryz.prog.info? 51 = some i0) (hz0 : i0.zero = some (.agg #[.string ⟨#[]⟩, .string ⟨#[]⟩, .bool false])) (hz1 : i0.size = 3) (hz2 : i0.bytes = 40)
    (HTx : ∀ w', z ≤ w'.heap.size → (∀ k, k < z → k ≠ gp → (Value.slice aa n c).ownBlock ≠ some k → w'.heap[k]? = wF.heap[k]?) → Calls Tryz.prog 105 #[.string s, .slice a7 nq c7] w' fun e w2 => e = .returned (.string f0) ∧ w' = w2)
    (hQ : ∀ a w', a.defers = a0.defers → a.tmps.size = a0.tmps.size → (∀ d : Nat, (ops9.all fun o => o.dst != some d) = true → a.tmps.getD d undef = a0.tmps.getD d undef) → True → (Below gp wF w' ∧ z ≤ (w').heap.size ∧ (∀ k, k < z → k ≠ gp → (Value.slice aa n c).ownBlock ≠ some k → (w').heap[k]? = wF.heap[k]?) ∧ Fin9 gp n e f0 (s.extract f tt) xs w') → Q .normal a w') : (Code.region 9 ops9 true).wp Tryz.prog Q a0 wF := by
  have hf : opsFine .any ops9 a0.tmps.size = true := by rw [hsize]; kernel_rfl
  refine wp_region_good (by kernel_rfl) (R9 gp bz n c z f tt nq c7 aa a7 x2 x3 e s f0 xs) (fun L w' => Inv9 gp bz n c z f nq c7 aa a7 x2 x3 e f0 (s.extract f tt) xs wF L w') hf (start9) ?_ ?_
  · intro i listed a w hg hi
    have hlt : i < 23 := (ready_spec hi).1
    have hB : Inv9 gp bz n c z f nq c7 aa a7 x2 x3 e f0 (s.extract f tt) xs wF listed w := hg.inv
    rcases (show i = 0 ∨ i = 1 ∨ i = 2 ∨ i = 3 ∨ i = 4 ∨ i = 5 ∨ i = 6 ∨ i = 7 ∨ i = 8 ∨ i = 9 ∨ i = 10 ∨ i = 11 ∨ i = 12 ∨ i = 13 ∨ i = 14 ∨ i = 15 ∨ i = 16 ∨ i = 17 ∨ i = 18 ∨ i = 19 ∨ i = 20 ∨ i = 21 ∨ i = 22 by omega) with rfl | rfl | rfl | rfl | rfl | rfl | rfl | rfl | rfl | rfl | rfl | rfl | rfl | rfl | rfl | rfl | rfl | rfl | rfl | rfl | rfl | rfl | rfl
    · -- 0: slot 29
      have h6 : a.tmps.getD 6 undef = .pointer (some ⟨gp, 0, none⟩) := (hg.was 6 (by kernel_rfl)).trans o6
      refine hg.op2 hf ops9_0 rfl (fun K' HK => ?_)
      go_simp
      exact HK.out _ _ (fun _ _ _ h => h) rfl (hB.keep (i := 0) (by decide) (by decide))
    · -- 1: slot 30
      have h29 : a.tmps.getD 29 undef = .pointer (some ⟨gp, 0, none⟩) := hg.dep ops9_1 hi 0 _ 29 ops9_0 rfl (by kernel_rfl)
      have hl22 := hB.early (getD_of_ready (ready_spec hi).2.1)
      have l0 := hB.load hl22
      refine hg.op2 hf ops9_1 rfl (fun K' HK => ?_)
      go_simp
      exact HK.out _ _ (fun _ _ _ h => h) rfl (hB.keep (i := 1) (by decide) (by decide))
    · -- 2: slot 31
      have h0 : a.tmps.getD 0 undef = .string s := (hg.was 0 (by kernel_rfl)).trans o0
      refine hg.op2 hf ops9_2 rfl (fun K' HK => ?_)
      go_simp
      exact HK.out _ _ (fun _ _ _ h => h) rfl (hB.keep (i := 2) (by decide) (by decide))
    · -- 3: slot 32
      have h8 : a.tmps.getD 8 undef = .pointer (some ⟨bz, 0, none⟩) := (hg.was 8 (by kernel_rfl)).trans o8
      refine hg.op2 hf ops9_3 rfl (fun K' HK => ?_)
      go_simp
      exact HK.out _ _ (fun _ _ _ h => h) rfl (hB.keep (i := 3) (by decide) (by decide))
    · -- 4: slot 33
      have h32 : a.tmps.getD 32 undef = .pointer (some ⟨bz, 3, none⟩) := hg.dep ops9_4 hi 3 _ 32 ops9_3 rfl (by kernel_rfl)
      have l0 := hB.box0
      have l1 := hB.box1
      have l2 := hB.box2
      have l3 := hB.box3
      refine hg.op2 hf ops9_4 rfl (fun K' HK => ?_)
      go_simp
      exact HK.out _ _ (fun _ _ _ h => h) rfl (hB.keep (i := 4) (by decide) (by decide))
    · -- 5: slot 34
      have h31 : a.tmps.getD 31 undef = .string s := hg.dep ops9_5 hi 2 _ 31 ops9_2 rfl (by kernel_rfl)
      have h33 : a.tmps.getD 33 undef = .slice a7 nq c7 := hg.dep ops9_5 hi 4 _ 33 ops9_4 rfl (by kernel_rfl)
      refine hg.op2 hf ops9_5 rfl (fun K' HK => ?_)
      go_simp
      refine (HTx _ hB.size hB.kept).mono ?_; rintro e w2 ⟨rfl, rfl⟩
      exact HK.out _ _ (fun _ _ _ h => h) rfl (hB.keep (i := 5) (by decide) (by decide))
    · -- 6: slot 35
      have h0 : a.tmps.getD 0 undef = .string s := (hg.was 0 (by kernel_rfl)).trans o0
      refine hg.op2 hf ops9_6 rfl (fun K' HK => ?_)
      go_simp
      exact HK.out _ _ (fun _ _ _ h => h) rfl (hB.keep (i := 6) (by decide) (by decide))
    · -- 7: slot 36
      have h8 : a.tmps.getD 8 undef = .pointer (some ⟨bz, 0, none⟩) := (hg.was 8 (by kernel_rfl)).trans o8
      refine hg.op2 hf ops9_7 rfl (fun K' HK => ?_)
      go_simp
      exact HK.out _ _ (fun _ _ _ h => h) rfl (hB.keep (i := 7) (by decide) (by decide))
    · -- 8: slot 37
      have h36 : a.tmps.getD 36 undef = .pointer (some ⟨bz, 0, none⟩) := hg.dep ops9_8 hi 7 _ 36 ops9_7 rfl (by kernel_rfl)
      refine hg.op2 hf ops9_8 rfl (fun K' HK => ?_)
      go_simp
      exact HK.out _ _ (fun _ _ _ h => h) rfl (hB.keep (i := 8) (by decide) (by decide))
    · -- 9: slot 38
      have h37 : a.tmps.getD 37 undef = .pointer (some ⟨bz, 0, none⟩) := hg.dep ops9_9 hi 8 _ 37 ops9_8 rfl (by kernel_rfl)
      have l0 := hB.box0
      have l1 := hB.box1
      have l2 := hB.box2
      have l3 := hB.box3
      refine hg.op2 hf ops9_9 rfl (fun K' HK => ?_)
      go_simp
      exact HK.out _ _ (fun _ _ _ h => h) rfl (hB.keep (i := 9) (by decide) (by decide))
    · -- 10: slot 39
      have h8 : a.tmps.getD 8 undef = .pointer (some ⟨bz, 0, none⟩) := (hg.was 8 (by kernel_rfl)).trans o8
      refine hg.op2 hf ops9_10 rfl (fun K' HK => ?_)
      go_simp
      exact HK.out _ _ (fun _ _ _ h => h) rfl (hB.keep (i := 10) (by decide) (by decide))
    · -- 11: slot 40
      have h39 : a.tmps.getD 39 undef = .pointer (some ⟨bz, 0, none⟩) := hg.dep ops9_11 hi 10 _ 39 ops9_10 rfl (by kernel_rfl)
      refine hg.op2 hf ops9_11 rfl (fun K' HK => ?_)
      go_simp
      exact HK.out _ _ (fun _ _ _ h => h) rfl (hB.keep (i := 11) (by decide) (by decide))
    · -- 12: slot 41
      have h40 : a.tmps.getD 40 undef = .pointer (some ⟨bz, 0, none⟩) := hg.dep ops9_12 hi 11 _ 40 ops9_11 rfl (by kernel_rfl)
      have l0 := hB.box0
      have l1 := hB.box1
      have l2 := hB.box2
      have l3 := hB.box3
      refine hg.op2 hf ops9_12 rfl (fun K' HK => ?_)
      go_simp
      exact HK.out _ _ (fun _ _ _ h => h) rfl (hB.keep (i := 12) (by decide) (by decide))
    · -- 13: slot 42
      have h8 : a.tmps.getD 8 undef = .pointer (some ⟨bz, 0, none⟩) := (hg.was 8 (by kernel_rfl)).trans o8
      refine hg.op2 hf ops9_13 rfl (fun K' HK => ?_)
      go_simp
      exact HK.out _ _ (fun _ _ _ h => h) rfl (hB.keep (i := 13) (by decide) (by decide))
    · -- 14: slot 43
      have h42 : a.tmps.getD 42 undef = .pointer (some ⟨bz, 0, none⟩) := hg.dep ops9_14 hi 13 _ 42 ops9_13 rfl (by kernel_rfl)
      refine hg.op2 hf ops9_14 rfl (fun K' HK => ?_)
      go_simp
      exact HK.out _ _ (fun _ _ _ h => h) rfl (hB.keep (i := 14) (by decide) (by decide))
    · -- 15: slot 44
      have h43 : a.tmps.getD 43 undef = .pointer (some ⟨bz, 1, none⟩) := hg.dep ops9_15 hi 14 _ 43 ops9_14 rfl (by kernel_rfl)
      have l0 := hB.box0
      have l1 := hB.box1
      have l2 := hB.box2
      have l3 := hB.box3
      refine hg.op2 hf ops9_15 rfl (fun K' HK => ?_)
      go_simp
      exact HK.out _ _ (fun _ _ _ h => h) rfl (hB.keep (i := 15) (by decide) (by decide))
    · -- 16: slot 45
      have h41 : a.tmps.getD 41 undef = .int .i64 f := hg.dep ops9_16 hi 12 _ 41 ops9_12 rfl (by kernel_rfl)
      have h44 : a.tmps.getD 44 undef = .int .i64 x2 := hg.dep ops9_16 hi 15 _ 44 ops9_15 rfl (by kernel_rfl)
      refine hg.op2 hf ops9_16 rfl (fun K' HK => ?_)
      go_simp
      exact HK.out _ _ (fun _ _ _ h => h) rfl (hB.keep (i := 16) (by decide) (by decide))
    · -- 17: slot 46
      have h35 : a.tmps.getD 35 undef = .string s := hg.dep ops9_17 hi 6 _ 35 ops9_6 rfl (by kernel_rfl)
      have h38 : a.tmps.getD 38 undef = .int .i64 f := hg.dep ops9_17 hi 9 _ 38 ops9_9 rfl (by kernel_rfl)
      have h45 : a.tmps.getD 45 undef = .int .i64 tt := hg.dep ops9_17 hi 16 _ 45 ops9_16 rfl (by kernel_rfl)
      refine hg.op2 hf ops9_17 rfl (fun K' HK => ?_)
      go_simp
      exact HK.out _ _ (fun _ _ _ h => h) rfl (hB.keep (i := 17) (by decide) (by decide))
    · -- 18: slot 47
      have h34 : a.tmps.getD 34 undef = .string f0 := hg.dep ops9_18 hi 5 _ 34 ops9_5 rfl (by kernel_rfl)
      have h46 : a.tmps.getD 46 undef = .string (s.extract f tt) := hg.dep ops9_18 hi 17 _ 46 ops9_17 rfl (by kernel_rfl)
      have h34b : a.tmps[34]?.getD undef = .string f0 := by rw [← Array.getD_eq_getD_getElem?]; exact h34
      have h46b : a.tmps[46]?.getD undef = .string (s.extract f tt) := by rw [← Array.getD_eq_getD_getElem?]; exact h46
      refine hg.op2 hf ops9_18 rfl (fun K' HK => ?_)
      go_simp
      exact HK.out _ _ (fun _ _ _ h => h) rfl (hB.keep (i := 18) (by decide) (by decide))
    · -- 19: slot 48
      have h47 : a.tmps.getD 47 undef = .agg #[.string f0, .string (s.extract f tt), .bool true] := hg.dep ops9_19 hi 18 _ 47 ops9_18 rfl (by kernel_rfl)
      have h47b : a.tmps[47]?.getD undef = .agg #[.string f0, .string (s.extract f tt), .bool true] := by rw [← Array.getD_eq_getD_getElem?]; exact h47
      refine hg.op2 hf ops9_19 rfl (fun K' HK => ?_)
      go_simp
      have hb2 := below_al w (Obj.cells #[.string f0, .string (s.extract f tt), .bool true] 51)
      exact HK.out _ _ (fun j u _ h => R9_mono gp bz n c z f tt nq c7 aa a7 x2 x3 e s f0 xs u (fun v h => h.below hb2) (fun _ v h => h.below hb2) h) ⟨_, rfl, hB.size, heap_alloc_new _ _⟩ (hB.under (i := 19) hb2 (by decide) (by decide) (by omega))
    · -- 20: slot 49
      have h30 : a.tmps.getD 30 undef = .slice aa n c := hg.dep ops9_20 hi 1 _ 30 ops9_1 rfl (by kernel_rfl)
      have h48s := hg.dep ops9_20 hi 19 _ 48 ops9_19 rfl (by kernel_rfl)
      obtain ⟨b16, h48, hzb, hb16⟩ := h48s
      refine hg.op2 hf ops9_20 rfl (fun K' HK => ?_)
      have hlf := getD_of_ready (ready_spec hi).2.1
      have ho := hB.owns hlf
      have hl22 := hB.early2 hlf
      refine wp_append_lies w (.tmp 30) (.tmp 48) 114 rfl (gp + 1) 51 i0 (.agg #[.string ⟨#[]⟩, .string ⟨#[]⟩, .bool false]) 3 40 Tryz.underlying114 hi0 hz0 hz1 hz2 rfl (by decide) (.slice aa n c) n xs h30 ho ⟨b16, 0, none⟩ 1 1 [.string f0, .string (s.extract f tt), .bool true] h48 rfl (fun j u hj => ?_) (fun u hu => ?_) (by decide) (by unfold maxLen; omega) (by omega) (by have := hB.size; omega) _ rfl ?_
      · rw [Addr.add_lit, Nat.zero_add, cell_at hb16]; simpa using hj
      · simp only [List.mem_cons, List.not_mem_nil, or_false] at hu; rcases hu with rfl | rfl | rfl <;> rfl
      · intro g cap w1 hown hgrow hat hlt
        refine HK.out _ _ (fun j u hj h => R9_mono gp bz n c z f tt nq c7 aa a7 x2 x3 e s f0 xs u (fun v h => h.grown hgrow hk hbz) (fun e => by subst e; rw [hlf] at hj; cases hj) h) ⟨_, _, rfl, hown⟩ (hB.appended hgrow hk hlf ho (by rw [hg.full]; exact (Array.getElem?_eq_some_iff.1 ops9_20).1) hl22 hbz hgb)
    · -- 21: slot 50
      have h6 : a.tmps.getD 6 undef = .pointer (some ⟨gp, 0, none⟩) := (hg.was 6 (by kernel_rfl)).trans o6
      refine hg.op2 hf ops9_21 rfl (fun K' HK => ?_)
      go_simp
      exact HK.out _ _ (fun _ _ _ h => h) rfl (hB.keep (i := 21) (by decide) (by decide))
    · -- 22: slot None
      have h50 : a.tmps.getD 50 undef = .pointer (some ⟨gp, 0, none⟩) := hg.dep ops9_22 hi 21 _ 50 ops9_21 rfl (by kernel_rfl)
      have h49s := hg.dep ops9_22 hi 20 _ 49 ops9_20 rfl (by kernel_rfl)
      obtain ⟨a17, c17, h49, ho17⟩ := h49s
      have hlen : 22 < listed.size := by rw [hg.full]; exact (Array.getElem?_eq_some_iff.1 ops9_22).1
      have hlf := getD_of_ready (ready_spec hi).2.1
      have hl0 := hB.load hlf
      have hfr := hB.unfr hlf
      refine hg.op2 hf ops9_22 rfl (fun K' HK => ?_)
      go_simp
      exact HK.out _ _ (fun j u _ h => R9_mono gp bz n c z f tt nq c7 aa a7 x2 x3 e s f0 xs u (fun v h => h.set (by omega)) (fun _ v h => h.set) h) rfl (hB.stored ho17 (dep_listed ops9_22 hi 1 (by kernel_rfl)) (dep_listed ops9_22 hi 20 (by kernel_rfl)) hlen hlf hgb)
  · intro listed a w hg hall
    have hinv := hg.inv
    refine hQ a w hg.defers hg.size (fun d hd => hg.was d hd) ?_ ⟨hinv.below, hinv.size, hinv.kept, hinv.fin (hall 22 (of_decide_eq_true (by kernel_rfl)))⟩
    trivial

end Go.Proofs.YtkgakgceamafcaaGreat
