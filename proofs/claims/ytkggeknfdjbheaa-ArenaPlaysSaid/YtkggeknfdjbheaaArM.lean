/-
  The last region of ArenaPlays, whatever order is drawn: written by program (wip/tools/mkreg.py).
-/
import Derived.Test.YtkggeknfdjbheaaArK
import Derived.Test.YtkggeknfdjbheaaOrd
namespace Go.Proofs.Ytkggeknfdjbheaa
open Go Go.RowKit
set_option linter.unusedVariables false
/-- The operations of a region. -/
def opsOf (n : Nat) : Code → Option (Array Oper)
  | .region id ops _ => if id = n then some ops else none
  | .seq a b => match opsOf n a with | some o => some o | none => opsOf n b
  | .cond _ a b => match opsOf n a with | some o => some o | none => opsOf n b
  | .block _ c => opsOf n c
  | .loop c => opsOf n c
  | .scope c => opsOf n c
  | _ => none
noncomputable def ops17 : Array Oper := ((Try.f3.body.bind (opsOf 17)).getD #[])
theorem ops17_0 : ops17[0]? = some { dst := some 94, op := Go.Op.move (Go.Operand.tmp 7), type := 26, pos := "law.go:71", after := #[], guard := none } := by kernel_rfl
theorem ops17_1 : ops17[1]? = some { dst := some 95, op := Go.Op.load 24 (Go.Operand.tmp 5), type := 24, pos := "law.go:71", after := #[], guard := none } := by kernel_rfl
theorem ops17_2 : ops17[2]? = some { dst := some 96, op := Go.Op.call { callee := Go.Callee.value (Go.Operand.func 20), args := #[Go.Operand.tmp 94, Go.Operand.tmp 95], argTypes := #[26, 24] }, type := 4, pos := "law.go:71", after := #[{ on := 0, ground := Go.Ground.data }, { on := 1, ground := Go.Ground.data }], guard := none } := by kernel_rfl
theorem ops17_3 : ops17[3]? = some { dst := some 97, op := Go.Op.move (Go.Operand.tmp 9), type := 31, pos := "law.go:71", after := #[], guard := none } := by kernel_rfl
theorem ops17_4 : ops17[4]? = some { dst := some 98, op := Go.Op.load 24 (Go.Operand.tmp 5), type := 24, pos := "law.go:71", after := #[], guard := none } := by kernel_rfl
theorem ops17_5 : ops17[5]? = some { dst := some 99, op := Go.Op.call { callee := Go.Callee.value (Go.Operand.func 22), args := #[Go.Operand.tmp 98], argTypes := #[24] }, type := 44, pos := "law.go:71", after := #[{ on := 4, ground := Go.Ground.data }, { on := 2, ground := Go.Ground.chain }], guard := none } := by kernel_rfl
theorem ops17_6 : ops17[6]? = some { dst := some 100, op := Go.Op.call { callee := Go.Callee.value (Go.Operand.func 21), args := #[Go.Operand.tmp 97, Go.Operand.tmp 99], argTypes := #[31, 44] }, type := 4, pos := "law.go:71", after := #[{ on := 3, ground := Go.Ground.data }, { on := 5, ground := Go.Ground.data }, { on := 5, ground := Go.Ground.chain }], guard := none } := by kernel_rfl
theorem ops17_7 : ops17[7]? = some { dst := some 101, op := Go.Op.binOp Go.BinOp.eql 4 (Go.Operand.tmp 96) (Go.Operand.tmp 100) 4, type := 4, pos := "law.go:71", after := #[{ on := 2, ground := Go.Ground.data }, { on := 6, ground := Go.Ground.data }], guard := none } := by kernel_rfl
theorem ops17_8 : ops17[8]? = some { dst := some 102, op := Go.Op.move (Go.Operand.tmp 101), type := 4, pos := "law.go:71", after := #[{ on := 7, ground := Go.Ground.data }, { on := 6, ground := Go.Ground.chain }], guard := none } := by kernel_rfl
theorem ops17_9 : ops17[9]? = some { dst := some 103, op := Go.Op.move (Go.Operand.tmp 7), type := 26, pos := "law.go:71", after := #[{ on := 8, ground := Go.Ground.guard }], guard := some (8, true) } := by kernel_rfl
theorem ops17_10 : ops17[10]? = some { dst := some 104, op := Go.Op.load 24 (Go.Operand.tmp 5), type := 24, pos := "law.go:71", after := #[{ on := 8, ground := Go.Ground.guard }], guard := some (8, true) } := by kernel_rfl
theorem ops17_11 : ops17[11]? = some { dst := some 105, op := Go.Op.call { callee := Go.Callee.value (Go.Operand.func 23), args := #[Go.Operand.tmp 103, Go.Operand.tmp 104], argTypes := #[26, 24] }, type := 30, pos := "law.go:71", after := #[{ on := 9, ground := Go.Ground.data }, { on := 10, ground := Go.Ground.data }, { on := 8, ground := Go.Ground.chain }, { on := 8, ground := Go.Ground.guard }], guard := some (8, true) } := by kernel_rfl
theorem ops17_12 : ops17[12]? = some { dst := some 106, op := Go.Op.convert 30 9 (Go.Operand.tmp 105), type := 9, pos := "law.go:71", after := #[{ on := 11, ground := Go.Ground.data }, { on := 8, ground := Go.Ground.guard }], guard := some (8, true) } := by kernel_rfl
theorem ops17_13 : ops17[13]? = some { dst := some 107, op := Go.Op.move (Go.Operand.tmp 9), type := 31, pos := "law.go:71", after := #[{ on := 8, ground := Go.Ground.guard }], guard := some (8, true) } := by kernel_rfl
theorem ops17_14 : ops17[14]? = some { dst := some 108, op := Go.Op.load 24 (Go.Operand.tmp 5), type := 24, pos := "law.go:71", after := #[{ on := 8, ground := Go.Ground.guard }], guard := some (8, true) } := by kernel_rfl
theorem ops17_15 : ops17[15]? = some { dst := some 109, op := Go.Op.call { callee := Go.Callee.value (Go.Operand.func 22), args := #[Go.Operand.tmp 108], argTypes := #[24] }, type := 44, pos := "law.go:71", after := #[{ on := 14, ground := Go.Ground.data }, { on := 11, ground := Go.Ground.chain }, { on := 8, ground := Go.Ground.guard }], guard := some (8, true) } := by kernel_rfl
theorem ops17_16 : ops17[16]? = some { dst := some 110, op := Go.Op.call { callee := Go.Callee.value (Go.Operand.func 19), args := #[Go.Operand.tmp 107, Go.Operand.tmp 109], argTypes := #[31, 44] }, type := 9, pos := "law.go:71", after := #[{ on := 13, ground := Go.Ground.data }, { on := 15, ground := Go.Ground.data }, { on := 15, ground := Go.Ground.chain }, { on := 8, ground := Go.Ground.guard }], guard := some (8, true) } := by kernel_rfl
theorem ops17_17 : ops17[17]? = some { dst := some 111, op := Go.Op.binOp Go.BinOp.eql 9 (Go.Operand.tmp 106) (Go.Operand.tmp 110) 9, type := 4, pos := "law.go:71", after := #[{ on := 12, ground := Go.Ground.data }, { on := 16, ground := Go.Ground.data }, { on := 8, ground := Go.Ground.guard }], guard := some (8, true) } := by kernel_rfl
theorem ops17_18 : ops17[18]? = some { dst := some 112, op := Go.Op.pick (Go.Operand.tmp 102) (Go.Operand.tmp 111) (Go.Operand.const (Go.Value.bool false)), type := 4, pos := "law.go:71", after := #[{ on := 8, ground := Go.Ground.data }, { on := 17, ground := Go.Ground.data }], guard := none } := by kernel_rfl
theorem ops17_19 : ops17[19]? = some { dst := some 113, op := Go.Op.move (Go.Operand.tmp 112), type := 4, pos := "law.go:71", after := #[{ on := 18, ground := Go.Ground.data }, { on := 16, ground := Go.Ground.chain }], guard := none } := by kernel_rfl
theorem ops17_20 : ops17[20]? = some { dst := some 114, op := Go.Op.move (Go.Operand.tmp 14), type := 4, pos := "law.go:71", after := #[{ on := 19, ground := Go.Ground.guard }], guard := some (19, true) } := by kernel_rfl
theorem ops17_21 : ops17[21]? = some { dst := some 115, op := Go.Op.move (Go.Operand.tmp 15), type := 9, pos := "law.go:71", after := #[{ on := 19, ground := Go.Ground.guard }], guard := some (19, true) } := by kernel_rfl
theorem ops17_22 : ops17[22]? = some { dst := some 116, op := Go.Op.call { callee := Go.Callee.builtin Go.Builtin.len, args := #[Go.Operand.tmp 115], argTypes := #[9] }, type := 3, pos := "law.go:71", after := #[{ on := 21, ground := Go.Ground.data }, { on := 19, ground := Go.Ground.guard }], guard := some (19, true) } := by kernel_rfl
theorem ops17_23 : ops17[23]? = some { dst := some 117, op := Go.Op.binOp Go.BinOp.eql 3 (Go.Operand.tmp 116) (Go.Operand.const (Go.Value.int Go.IntKind.i64 1)) 3, type := 4, pos := "law.go:71", after := #[{ on := 22, ground := Go.Ground.data }, { on := 19, ground := Go.Ground.guard }], guard := some (19, true) } := by kernel_rfl
theorem ops17_24 : ops17[24]? = some { dst := some 118, op := Go.Op.binOp Go.BinOp.eql 4 (Go.Operand.tmp 114) (Go.Operand.tmp 117) 4, type := 4, pos := "law.go:71", after := #[{ on := 20, ground := Go.Ground.data }, { on := 23, ground := Go.Ground.data }, { on := 19, ground := Go.Ground.guard }], guard := some (19, true) } := by kernel_rfl
theorem ops17_25 : ops17[25]? = some { dst := some 119, op := Go.Op.pick (Go.Operand.tmp 113) (Go.Operand.tmp 118) (Go.Operand.const (Go.Value.bool false)), type := 4, pos := "law.go:71", after := #[{ on := 19, ground := Go.Ground.data }, { on := 24, ground := Go.Ground.data }], guard := none } := by kernel_rfl
theorem ops17_26 : ops17[26]? = some { dst := some 120, op := Go.Op.move (Go.Operand.tmp 119), type := 4, pos := "law.go:71", after := #[{ on := 25, ground := Go.Ground.data }, { on := 19, ground := Go.Ground.chain }], guard := none } := by kernel_rfl
theorem ops17_27 : ops17[27]? = some { dst := some 121, op := Go.Op.move (Go.Operand.tmp 14), type := 4, pos := "law.go:71", after := #[{ on := 26, ground := Go.Ground.guard }], guard := some (26, true) } := by kernel_rfl
theorem ops17_28 : ops17[28]? = some { dst := some 122, op := Go.Op.unOp Go.UnOp.not 4 (Go.Operand.tmp 121), type := 4, pos := "law.go:71", after := #[{ on := 27, ground := Go.Ground.data }, { on := 26, ground := Go.Ground.guard }], guard := some (26, true) } := by kernel_rfl
theorem ops17_29 : ops17[29]? = some { dst := some 123, op := Go.Op.move (Go.Operand.tmp 122), type := 4, pos := "law.go:71", after := #[{ on := 28, ground := Go.Ground.data }, { on := 26, ground := Go.Ground.chain }, { on := 26, ground := Go.Ground.guard }], guard := some (26, true) } := by kernel_rfl
theorem ops17_30 : ops17[30]? = some { dst := some 124, op := Go.Op.move (Go.Operand.tmp 13), type := 5, pos := "law.go:71", after := #[{ on := 29, ground := Go.Ground.guard }], guard := some (29, true) } := by kernel_rfl
theorem ops17_31 : ops17[31]? = some { dst := some 125, op := Go.Op.binOp Go.BinOp.eql 5 (Go.Operand.tmp 124) (Go.Operand.const (Go.Value.int Go.IntKind.u8 0)) 5, type := 4, pos := "law.go:71", after := #[{ on := 30, ground := Go.Ground.data }, { on := 29, ground := Go.Ground.guard }], guard := some (29, true) } := by kernel_rfl
theorem ops17_32 : ops17[32]? = some { dst := some 126, op := Go.Op.pick (Go.Operand.tmp 123) (Go.Operand.tmp 125) (Go.Operand.const (Go.Value.bool false)), type := 4, pos := "law.go:71", after := #[{ on := 29, ground := Go.Ground.data }, { on := 31, ground := Go.Ground.data }, { on := 26, ground := Go.Ground.guard }], guard := some (26, true) } := by kernel_rfl
theorem ops17_33 : ops17[33]? = some { dst := some 127, op := Go.Op.move (Go.Operand.tmp 126), type := 4, pos := "law.go:71", after := #[{ on := 32, ground := Go.Ground.data }, { on := 29, ground := Go.Ground.chain }, { on := 26, ground := Go.Ground.guard }], guard := some (26, true) } := by kernel_rfl
theorem ops17_34 : ops17[34]? = some { dst := some 128, op := Go.Op.move (Go.Operand.tmp 14), type := 4, pos := "law.go:71", after := #[{ on := 33, ground := Go.Ground.guard }], guard := some (33, false) } := by kernel_rfl
theorem ops17_35 : ops17[35]? = some { dst := some 129, op := Go.Op.move (Go.Operand.tmp 128), type := 4, pos := "law.go:71", after := #[{ on := 34, ground := Go.Ground.data }, { on := 33, ground := Go.Ground.chain }, { on := 33, ground := Go.Ground.guard }], guard := some (33, false) } := by kernel_rfl
theorem ops17_36 : ops17[36]? = some { dst := some 130, op := Go.Op.move (Go.Operand.tmp 13), type := 5, pos := "law.go:71", after := #[{ on := 35, ground := Go.Ground.guard }], guard := some (35, true) } := by kernel_rfl
theorem ops17_37 : ops17[37]? = some { dst := some 131, op := Go.Op.buildSlice 30 1 #[(0, Go.Operand.tmp 130)], type := 30, pos := "law.go:71", after := #[{ on := 36, ground := Go.Ground.data }, { on := 35, ground := Go.Ground.guard }], guard := some (35, true) } := by kernel_rfl
theorem ops17_38 : ops17[38]? = some { dst := some 132, op := Go.Op.convert 30 9 (Go.Operand.tmp 131), type := 9, pos := "law.go:71", after := #[{ on := 37, ground := Go.Ground.data }, { on := 35, ground := Go.Ground.guard }], guard := some (35, true) } := by kernel_rfl
theorem ops17_39 : ops17[39]? = some { dst := some 133, op := Go.Op.move (Go.Operand.tmp 15), type := 9, pos := "law.go:71", after := #[{ on := 35, ground := Go.Ground.guard }], guard := some (35, true) } := by kernel_rfl
theorem ops17_40 : ops17[40]? = some { dst := some 134, op := Go.Op.binOp Go.BinOp.eql 9 (Go.Operand.tmp 132) (Go.Operand.tmp 133) 9, type := 4, pos := "law.go:71", after := #[{ on := 38, ground := Go.Ground.data }, { on := 39, ground := Go.Ground.data }, { on := 35, ground := Go.Ground.guard }], guard := some (35, true) } := by kernel_rfl
theorem ops17_41 : ops17[41]? = some { dst := some 135, op := Go.Op.pick (Go.Operand.tmp 129) (Go.Operand.tmp 134) (Go.Operand.const (Go.Value.bool false)), type := 4, pos := "law.go:71", after := #[{ on := 35, ground := Go.Ground.data }, { on := 40, ground := Go.Ground.data }, { on := 33, ground := Go.Ground.guard }], guard := some (33, false) } := by kernel_rfl
theorem ops17_42 : ops17[42]? = some { dst := some 136, op := Go.Op.pick (Go.Operand.tmp 127) (Go.Operand.const (Go.Value.bool true)) (Go.Operand.tmp 135), type := 4, pos := "law.go:71", after := #[{ on := 33, ground := Go.Ground.data }, { on := 41, ground := Go.Ground.data }, { on := 26, ground := Go.Ground.guard }], guard := some (26, true) } := by kernel_rfl
theorem ops17_43 : ops17[43]? = some { dst := some 137, op := Go.Op.pick (Go.Operand.tmp 120) (Go.Operand.tmp 136) (Go.Operand.const (Go.Value.bool false)), type := 4, pos := "law.go:71", after := #[{ on := 26, ground := Go.Ground.data }, { on := 42, ground := Go.Ground.data }], guard := none } := by kernel_rfl
theorem ops17_44 : ops17[44]? = some { dst := some 138, op := Go.Op.move (Go.Operand.tmp 137), type := 4, pos := "law.go:71", after := #[{ on := 43, ground := Go.Ground.data }, { on := 35, ground := Go.Ground.chain }], guard := none } := by kernel_rfl
theorem ops17_45 : ops17[45]? = some { dst := some 139, op := Go.Op.call { callee := Go.Callee.value (Go.Operand.func 14), args := #[], argTypes := #[] }, type := 4, pos := "law.go:71", after := #[{ on := 44, ground := Go.Ground.chain }, { on := 44, ground := Go.Ground.guard }], guard := some (44, true) } := by kernel_rfl
theorem ops17_46 : ops17[46]? = some { dst := some 140, op := Go.Op.pick (Go.Operand.tmp 138) (Go.Operand.tmp 139) (Go.Operand.const (Go.Value.bool false)), type := 4, pos := "law.go:71", after := #[{ on := 44, ground := Go.Ground.data }, { on := 45, ground := Go.Ground.data }], guard := none } := by kernel_rfl
theorem ops17_47 : ops17[47]? = some { dst := some 6, op := Go.Op.assign (Go.Operand.tmp 140), type := 4, pos := "law.go:71", after := #[{ on := 46, ground := Go.Ground.data }, { on := 45, ground := Go.Ground.chain }, { on := 0, ground := Go.Ground.phase }, { on := 1, ground := Go.Ground.phase }, { on := 2, ground := Go.Ground.phase }, { on := 3, ground := Go.Ground.phase }, { on := 4, ground := Go.Ground.phase }, { on := 5, ground := Go.Ground.phase }, { on := 6, ground := Go.Ground.phase }, { on := 7, ground := Go.Ground.phase }, { on := 8, ground := Go.Ground.phase }, { on := 9, ground := Go.Ground.phase }, { on := 10, ground := Go.Ground.phase }, { on := 11, ground := Go.Ground.phase }, { on := 12, ground := Go.Ground.phase }, { on := 13, ground := Go.Ground.phase }, { on := 14, ground := Go.Ground.phase }, { on := 15, ground := Go.Ground.phase }, { on := 16, ground := Go.Ground.phase }, { on := 17, ground := Go.Ground.phase }, { on := 18, ground := Go.Ground.phase }, { on := 19, ground := Go.Ground.phase }, { on := 20, ground := Go.Ground.phase }, { on := 21, ground := Go.Ground.phase }, { on := 22, ground := Go.Ground.phase }, { on := 23, ground := Go.Ground.phase }, { on := 24, ground := Go.Ground.phase }, { on := 25, ground := Go.Ground.phase }, { on := 26, ground := Go.Ground.phase }, { on := 27, ground := Go.Ground.phase }, { on := 28, ground := Go.Ground.phase }, { on := 29, ground := Go.Ground.phase }, { on := 30, ground := Go.Ground.phase }, { on := 31, ground := Go.Ground.phase }, { on := 32, ground := Go.Ground.phase }, { on := 33, ground := Go.Ground.phase }, { on := 34, ground := Go.Ground.phase }, { on := 35, ground := Go.Ground.phase }, { on := 36, ground := Go.Ground.phase }, { on := 37, ground := Go.Ground.phase }, { on := 38, ground := Go.Ground.phase }, { on := 39, ground := Go.Ground.phase }, { on := 40, ground := Go.Ground.phase }, { on := 41, ground := Go.Ground.phase }, { on := 42, ground := Go.Ground.phase }, { on := 43, ground := Go.Ground.phase }, { on := 44, ground := Go.Ground.phase }, { on := 45, ground := Go.Ground.phase }, { on := 46, ground := Go.Ground.phase }], guard := none } := by kernel_rfl
noncomputable def R17y (p q : Nat) (x y : Int) (rb : Bool) (S one : ByteArray) (bz : Int) (i : Nat) (v : Value) (w : World) : Prop := if i = 11 then ((∃ a n c, v = .slice a n c) ∧ ∀ w', Below w.heap.size w w' → (convert 30 9 v).run Try.prog w' = .ok (.string S) w') else if i = 37 then ((∃ g, v = .slice (some ⟨g, 0, none⟩) 1 1) ∧ ∀ w', Below w.heap.size w w' → (convert 30 9 v).run Try.prog w' = .ok (.string one) w') else v = ([.pointer (some ⟨p, 0, none⟩), .agg #[.int .i64 x, .int .i64 y], .bool rb, .pointer (some ⟨q, 0, none⟩), .agg #[.int .i64 x, .int .i64 y], .agg #[.int .i64 x, .int .i64 y], .bool rb, .bool true, .bool true, .pointer (some ⟨p, 0, none⟩), .agg #[.int .i64 x, .int .i64 y], undef, .string S, .pointer (some ⟨q, 0, none⟩), .agg #[.int .i64 x, .int .i64 y], .agg #[.int .i64 x, .int .i64 y], .string S, .bool true, .bool true, .bool true, .bool true, .string one, .int .i64 one.size, .bool true, .bool true, .bool true, .bool true, .bool true, .bool false, .bool false, undef, undef, .bool false, .bool false, .bool true, .bool true, .int .u8 bz, undef, .string one, .string one, .bool true, .bool true, .bool true, .bool true, .bool true, .bool true, .bool true, .bool true] : List Value).getD i undef
theorem R17y_mono (p q : Nat) (x y : Int) (rb : Bool) (S one : ByteArray) (bz : Int) {w w' : World} (hb : Below w.heap.size w w') (i : Nat) (v : Value) (h : R17y p q x y rb S one bz i v w) : R17y p q x y rb S one bz i v w' := by
  unfold R17y at *
  by_cases e105 : i = 11
  · rw [if_pos e105] at h ⊢
    exact ⟨h.1, fun w2 h2 => h.2 w2 (hb.trans (h2.mono hb.size))⟩
  rw [if_neg e105] at h ⊢
  by_cases e131 : i = 37
  · rw [if_pos e131] at h ⊢
    exact ⟨h.1, fun w2 h2 => h.2 w2 (hb.trans (h2.mono hb.size))⟩
  rw [if_neg e131] at h ⊢
  exact h
set_option maxHeartbeats 8000000 in
set_option maxRecDepth 100000 in
theorem reg17_yes (p q : Nat) (x y : Int) (rb : Bool) (S one : ByteArray) (bz : Int) (b5 : Nat) {a0 : Act} {wF : World} {Q : Exit → Act → World → Prop} (hsize : a0.tmps.size = 141) (o5 : a0.tmps.getD 5 undef = .pointer (some ⟨b5, 0, none⟩)) (o7 : a0.tmps.getD 7 undef = .pointer (some ⟨p, 0, none⟩)) (o9 : a0.tmps.getD 9 undef = .pointer (some ⟨q, 0, none⟩)) (o13 : a0.tmps.getD 13 undef = .int .u8 bz) (o14 : a0.tmps.getD 14 undef = .bool true) (o15 : a0.tmps.getD 15 undef = .string one)
    (ld1 : ∀ w', Below wF.heap.size wF w' → w'.cell? ⟨b5, 0, none⟩ = some (.int .i64 x)) (ld2 : ∀ w', Below wF.heap.size wF w' → w'.cell? ⟨b5, 1, none⟩ = some (.int .i64 y))
    (HRt : ∀ w', Below wF.heap.size wF w' → Calls Try.prog 20 #[.pointer (some ⟨p, 0, none⟩), .agg #[.int .i64 x, .int .i64 y]] w' fun e w2 => e = .returned (.bool rb) ∧ Below wF.heap.size wF w2 ∧ Below w'.heap.size w' w2)
    (HRR : ∀ w', Below wF.heap.size wF w' → Calls Try.prog 21 #[.pointer (some ⟨q, 0, none⟩), .agg #[.int .i64 x, .int .i64 y]] w' fun e w2 => e = .returned (.bool rb) ∧ Below wF.heap.size wF w2 ∧ Below w'.heap.size w' w2)
    (HO : ∀ w', Below wF.heap.size wF w' → Calls Try.prog 22 #[.agg #[.int .i64 x, .int .i64 y]] w' fun e w2 => e = .returned (.agg #[.int .i64 x, .int .i64 y]) ∧ Below wF.heap.size wF w2 ∧ Below w'.heap.size w' w2)
    (HBy : ∀ w', Below wF.heap.size wF w' → Calls Try.prog 23 #[.pointer (some ⟨p, 0, none⟩), .agg #[.int .i64 x, .int .i64 y]] w' fun e w2 => ∃ v, e = .returned v ∧ ((∃ a n c, v = .slice a n c) ∧ ∀ w3, Below w2.heap.size w2 w3 → (convert 30 9 v).run Try.prog w3 = .ok (.string S) w3) ∧ Below wF.heap.size wF w2 ∧ Below w'.heap.size w' w2)
    (HRB : ∀ w', Below wF.heap.size wF w' → Calls Try.prog 19 #[.pointer (some ⟨q, 0, none⟩), .agg #[.int .i64 x, .int .i64 y]] w' fun e w2 => e = .returned (.string S) ∧ Below wF.heap.size wF w2 ∧ Below w'.heap.size w' w2)
    (HAW : ∀ w', Below wF.heap.size wF w' → Calls Try.prog 14 #[] w' fun e w2 => e = .returned (.bool true) ∧ Below wF.heap.size wF w2 ∧ Below w'.heap.size w' w2)
    (hone : ((one.size : Int) == 1) = true) (hcb : ∀ w : World, ∀ w', Below (w.heap.size + 1) (w.alloc (.cells #[.int .u8 bz] 5)) w' → (convert 30 9 (.slice (some ⟨w.heap.size, 0, none⟩) 1 1)).run Try.prog w' = .ok (.string one) w')
    (hQ : ∀ a w', a.defers = a0.defers → a.tmps.size = a0.tmps.size → (∀ d : Nat, (ops17.all fun o => o.dst != some d) = true → a.tmps.getD d undef = a0.tmps.getD d undef) → a.tmps.getD 6 undef = .bool true → Below wF.heap.size wF w' → Q .normal a w') : (Code.region 17 ops17 true).wp Try.prog Q a0 wF := by
  have hf : opsFine .any ops17 a0.tmps.size = true := by rw [hsize]; kernel_rfl
  refine wp_region_good (by kernel_rfl) (R17y p q x y rb S one bz) (fun _ w' => Below wF.heap.size wF w') hf ((Below.refl _ wF).drew) ?_ ?_
  · intro i listed a w hg hi
    have hlt : i < 48 := (ready_spec hi).1
    have hB : Below wF.heap.size wF w := hg.inv
    rcases (show i = 0 ∨ i = 1 ∨ i = 2 ∨ i = 3 ∨ i = 4 ∨ i = 5 ∨ i = 6 ∨ i = 7 ∨ i = 8 ∨ i = 9 ∨ i = 10 ∨ i = 11 ∨ i = 12 ∨ i = 13 ∨ i = 14 ∨ i = 15 ∨ i = 16 ∨ i = 17 ∨ i = 18 ∨ i = 19 ∨ i = 20 ∨ i = 21 ∨ i = 22 ∨ i = 23 ∨ i = 24 ∨ i = 25 ∨ i = 26 ∨ i = 27 ∨ i = 28 ∨ i = 29 ∨ i = 30 ∨ i = 31 ∨ i = 32 ∨ i = 33 ∨ i = 34 ∨ i = 35 ∨ i = 36 ∨ i = 37 ∨ i = 38 ∨ i = 39 ∨ i = 40 ∨ i = 41 ∨ i = 42 ∨ i = 43 ∨ i = 44 ∨ i = 45 ∨ i = 46 ∨ i = 47 by omega) with rfl | rfl | rfl | rfl | rfl | rfl | rfl | rfl | rfl | rfl | rfl | rfl | rfl | rfl | rfl | rfl | rfl | rfl | rfl | rfl | rfl | rfl | rfl | rfl | rfl | rfl | rfl | rfl | rfl | rfl | rfl | rfl | rfl | rfl | rfl | rfl | rfl | rfl | rfl | rfl | rfl | rfl | rfl | rfl | rfl | rfl | rfl | rfl
    · -- 0: slot 94
      have h7 : a.tmps.getD 7 undef = .pointer (some ⟨p, 0, none⟩) := (hg.was 7 (by kernel_rfl)).trans o7
      refine hg.op hf ops17_0 rfl (fun K' HK => ?_)
      go_simp
      exact HK.out _ _ (fun _ _ h => h) rfl hB
    · -- 1: slot 95
      have h5 : a.tmps.getD 5 undef = .pointer (some ⟨b5, 0, none⟩) := (hg.was 5 (by kernel_rfl)).trans o5
      have l1 := ld1 _ hB
      have l2 := ld2 _ hB
      refine hg.op hf ops17_1 rfl (fun K' HK => ?_)
      go_simp
      exact HK.out _ _ (fun _ _ h => h) rfl hB
    · -- 2: slot 96
      have h94 : a.tmps.getD 94 undef = .pointer (some ⟨p, 0, none⟩) := hg.dep ops17_2 hi 0 _ 94 ops17_0 rfl (by kernel_rfl)
      have h95 : a.tmps.getD 95 undef = .agg #[.int .i64 x, .int .i64 y] := hg.dep ops17_2 hi 1 _ 95 ops17_1 rfl (by kernel_rfl)
      refine hg.op hf ops17_2 rfl (fun K' HK => ?_)
      go_simp
      refine (HRt _ hB).mono ?_; rintro e w2 ⟨rfl, hB2, hb2⟩
      exact HK.out _ _ (fun j u h => R17y_mono p q x y rb S one bz hb2 j u h) rfl hB2
    · -- 3: slot 97
      have h9 : a.tmps.getD 9 undef = .pointer (some ⟨q, 0, none⟩) := (hg.was 9 (by kernel_rfl)).trans o9
      refine hg.op hf ops17_3 rfl (fun K' HK => ?_)
      go_simp
      exact HK.out _ _ (fun _ _ h => h) rfl hB
    · -- 4: slot 98
      have h5 : a.tmps.getD 5 undef = .pointer (some ⟨b5, 0, none⟩) := (hg.was 5 (by kernel_rfl)).trans o5
      have l1 := ld1 _ hB
      have l2 := ld2 _ hB
      refine hg.op hf ops17_4 rfl (fun K' HK => ?_)
      go_simp
      exact HK.out _ _ (fun _ _ h => h) rfl hB
    · -- 5: slot 99
      have h98 : a.tmps.getD 98 undef = .agg #[.int .i64 x, .int .i64 y] := hg.dep ops17_5 hi 4 _ 98 ops17_4 rfl (by kernel_rfl)
      refine hg.op hf ops17_5 rfl (fun K' HK => ?_)
      go_simp
      refine (HO _ hB).mono ?_; rintro e w2 ⟨rfl, hB2, hb2⟩
      exact HK.out _ _ (fun j u h => R17y_mono p q x y rb S one bz hb2 j u h) rfl hB2
    · -- 6: slot 100
      have h97 : a.tmps.getD 97 undef = .pointer (some ⟨q, 0, none⟩) := hg.dep ops17_6 hi 3 _ 97 ops17_3 rfl (by kernel_rfl)
      have h99 : a.tmps.getD 99 undef = .agg #[.int .i64 x, .int .i64 y] := hg.dep ops17_6 hi 5 _ 99 ops17_5 rfl (by kernel_rfl)
      refine hg.op hf ops17_6 rfl (fun K' HK => ?_)
      go_simp
      refine (HRR _ hB).mono ?_; rintro e w2 ⟨rfl, hB2, hb2⟩
      exact HK.out _ _ (fun j u h => R17y_mono p q x y rb S one bz hb2 j u h) rfl hB2
    · -- 7: slot 101
      have h96 : a.tmps.getD 96 undef = .bool rb := hg.dep ops17_7 hi 2 _ 96 ops17_2 rfl (by kernel_rfl)
      have h100 : a.tmps.getD 100 undef = .bool rb := hg.dep ops17_7 hi 6 _ 100 ops17_6 rfl (by kernel_rfl)
      refine hg.op hf ops17_7 rfl (fun K' HK => ?_)
      go_simp
      exact HK.out _ _ (fun _ _ h => h) rfl hB
    · -- 8: slot 102
      have h101 : a.tmps.getD 101 undef = .bool true := hg.dep ops17_8 hi 7 _ 101 ops17_7 rfl (by kernel_rfl)
      refine hg.op hf ops17_8 rfl (fun K' HK => ?_)
      go_simp
      exact HK.out _ _ (fun _ _ h => h) rfl hB
    · -- 9: slot 103
      have g102 : a.tmps.getD 102 undef = .bool true := hg.dep ops17_9 hi 8 _ 102 ops17_8 rfl (by kernel_rfl)
      have h7 : a.tmps.getD 7 undef = .pointer (some ⟨p, 0, none⟩) := (hg.was 7 (by kernel_rfl)).trans o7
      refine hg.op hf ops17_9 (want_of rfl ops17_8 rfl g102) (fun K' HK => ?_)
      go_simp
      exact HK.out _ _ (fun _ _ h => h) rfl hB
    · -- 10: slot 104
      have g102 : a.tmps.getD 102 undef = .bool true := hg.dep ops17_10 hi 8 _ 102 ops17_8 rfl (by kernel_rfl)
      have h5 : a.tmps.getD 5 undef = .pointer (some ⟨b5, 0, none⟩) := (hg.was 5 (by kernel_rfl)).trans o5
      have l1 := ld1 _ hB
      have l2 := ld2 _ hB
      refine hg.op hf ops17_10 (want_of rfl ops17_8 rfl g102) (fun K' HK => ?_)
      go_simp
      exact HK.out _ _ (fun _ _ h => h) rfl hB
    · -- 11: slot 105
      have g102 : a.tmps.getD 102 undef = .bool true := hg.dep ops17_11 hi 8 _ 102 ops17_8 rfl (by kernel_rfl)
      have h103 : a.tmps.getD 103 undef = .pointer (some ⟨p, 0, none⟩) := hg.dep ops17_11 hi 9 _ 103 ops17_9 rfl (by kernel_rfl)
      have h104 : a.tmps.getD 104 undef = .agg #[.int .i64 x, .int .i64 y] := hg.dep ops17_11 hi 10 _ 104 ops17_10 rfl (by kernel_rfl)
      refine hg.op hf ops17_11 (want_of rfl ops17_8 rfl g102) (fun K' HK => ?_)
      go_simp
      refine (HBy _ hB).mono ?_; rintro e w2 ⟨v, rfl, hsp, hB2, hb2⟩
      exact HK.out _ _ (fun j u h => R17y_mono p q x y rb S one bz hb2 j u h) hsp hB2
    · -- 12: slot 106
      have g102 : a.tmps.getD 102 undef = .bool true := hg.dep ops17_12 hi 8 _ 102 ops17_8 rfl (by kernel_rfl)
      have h105s := hg.dep ops17_12 hi 11 _ 105 ops17_11 rfl (by kernel_rfl)
      obtain ⟨⟨ab, nb, cb, h105⟩, hcv⟩ := h105s
      have hcv' := hcv w (Below.refl _ w)
      rw [h105] at hcv'
      refine hg.op hf ops17_12 (want_of rfl ops17_8 rfl g102) (fun K' HK => ?_)
      go_simp
      exact HK.out _ _ (fun _ _ h => h) rfl hB
    · -- 13: slot 107
      have g102 : a.tmps.getD 102 undef = .bool true := hg.dep ops17_13 hi 8 _ 102 ops17_8 rfl (by kernel_rfl)
      have h9 : a.tmps.getD 9 undef = .pointer (some ⟨q, 0, none⟩) := (hg.was 9 (by kernel_rfl)).trans o9
      refine hg.op hf ops17_13 (want_of rfl ops17_8 rfl g102) (fun K' HK => ?_)
      go_simp
      exact HK.out _ _ (fun _ _ h => h) rfl hB
    · -- 14: slot 108
      have g102 : a.tmps.getD 102 undef = .bool true := hg.dep ops17_14 hi 8 _ 102 ops17_8 rfl (by kernel_rfl)
      have h5 : a.tmps.getD 5 undef = .pointer (some ⟨b5, 0, none⟩) := (hg.was 5 (by kernel_rfl)).trans o5
      have l1 := ld1 _ hB
      have l2 := ld2 _ hB
      refine hg.op hf ops17_14 (want_of rfl ops17_8 rfl g102) (fun K' HK => ?_)
      go_simp
      exact HK.out _ _ (fun _ _ h => h) rfl hB
    · -- 15: slot 109
      have g102 : a.tmps.getD 102 undef = .bool true := hg.dep ops17_15 hi 8 _ 102 ops17_8 rfl (by kernel_rfl)
      have h108 : a.tmps.getD 108 undef = .agg #[.int .i64 x, .int .i64 y] := hg.dep ops17_15 hi 14 _ 108 ops17_14 rfl (by kernel_rfl)
      refine hg.op hf ops17_15 (want_of rfl ops17_8 rfl g102) (fun K' HK => ?_)
      go_simp
      refine (HO _ hB).mono ?_; rintro e w2 ⟨rfl, hB2, hb2⟩
      exact HK.out _ _ (fun j u h => R17y_mono p q x y rb S one bz hb2 j u h) rfl hB2
    · -- 16: slot 110
      have g102 : a.tmps.getD 102 undef = .bool true := hg.dep ops17_16 hi 8 _ 102 ops17_8 rfl (by kernel_rfl)
      have h107 : a.tmps.getD 107 undef = .pointer (some ⟨q, 0, none⟩) := hg.dep ops17_16 hi 13 _ 107 ops17_13 rfl (by kernel_rfl)
      have h109 : a.tmps.getD 109 undef = .agg #[.int .i64 x, .int .i64 y] := hg.dep ops17_16 hi 15 _ 109 ops17_15 rfl (by kernel_rfl)
      refine hg.op hf ops17_16 (want_of rfl ops17_8 rfl g102) (fun K' HK => ?_)
      go_simp
      refine (HRB _ hB).mono ?_; rintro e w2 ⟨rfl, hB2, hb2⟩
      exact HK.out _ _ (fun j u h => R17y_mono p q x y rb S one bz hb2 j u h) rfl hB2
    · -- 17: slot 111
      have g102 : a.tmps.getD 102 undef = .bool true := hg.dep ops17_17 hi 8 _ 102 ops17_8 rfl (by kernel_rfl)
      have h106 : a.tmps.getD 106 undef = .string S := hg.dep ops17_17 hi 12 _ 106 ops17_12 rfl (by kernel_rfl)
      have h110 : a.tmps.getD 110 undef = .string S := hg.dep ops17_17 hi 16 _ 110 ops17_16 rfl (by kernel_rfl)
      refine hg.op hf ops17_17 (want_of rfl ops17_8 rfl g102) (fun K' HK => ?_)
      go_simp
      exact HK.out _ _ (fun _ _ h => h) rfl hB
    · -- 18: slot 112
      have h102 : a.tmps.getD 102 undef = .bool true := hg.dep ops17_18 hi 8 _ 102 ops17_8 rfl (by kernel_rfl)
      have h111 : a.tmps.getD 111 undef = .bool true := hg.dep ops17_18 hi 17 _ 111 ops17_17 rfl (by kernel_rfl)
      refine hg.op hf ops17_18 rfl (fun K' HK => ?_)
      go_simp
      exact HK.out _ _ (fun _ _ h => h) rfl hB
    · -- 19: slot 113
      have h112 : a.tmps.getD 112 undef = .bool true := hg.dep ops17_19 hi 18 _ 112 ops17_18 rfl (by kernel_rfl)
      refine hg.op hf ops17_19 rfl (fun K' HK => ?_)
      go_simp
      exact HK.out _ _ (fun _ _ h => h) rfl hB
    · -- 20: slot 114
      have g113 : a.tmps.getD 113 undef = .bool true := hg.dep ops17_20 hi 19 _ 113 ops17_19 rfl (by kernel_rfl)
      have h14 : a.tmps.getD 14 undef = .bool true := (hg.was 14 (by kernel_rfl)).trans o14
      refine hg.op hf ops17_20 (want_of rfl ops17_19 rfl g113) (fun K' HK => ?_)
      go_simp
      exact HK.out _ _ (fun _ _ h => h) rfl hB
    · -- 21: slot 115
      have g113 : a.tmps.getD 113 undef = .bool true := hg.dep ops17_21 hi 19 _ 113 ops17_19 rfl (by kernel_rfl)
      have h15 : a.tmps.getD 15 undef = .string one := (hg.was 15 (by kernel_rfl)).trans o15
      refine hg.op hf ops17_21 (want_of rfl ops17_19 rfl g113) (fun K' HK => ?_)
      go_simp
      exact HK.out _ _ (fun _ _ h => h) rfl hB
    · -- 22: slot 116
      have g113 : a.tmps.getD 113 undef = .bool true := hg.dep ops17_22 hi 19 _ 113 ops17_19 rfl (by kernel_rfl)
      have h115 : a.tmps.getD 115 undef = .string one := hg.dep ops17_22 hi 21 _ 115 ops17_21 rfl (by kernel_rfl)
      refine hg.op hf ops17_22 (want_of rfl ops17_19 rfl g113) (fun K' HK => ?_)
      go_simp
      exact HK.out _ _ (fun _ _ h => h) rfl hB
    · -- 23: slot 117
      have g113 : a.tmps.getD 113 undef = .bool true := hg.dep ops17_23 hi 19 _ 113 ops17_19 rfl (by kernel_rfl)
      have h116 : a.tmps.getD 116 undef = .int .i64 one.size := hg.dep ops17_23 hi 22 _ 116 ops17_22 rfl (by kernel_rfl)
      refine hg.op hf ops17_23 (want_of rfl ops17_19 rfl g113) (fun K' HK => ?_)
      go_simp
      exact HK.out _ _ (fun _ _ h => h) rfl hB
    · -- 24: slot 118
      have g113 : a.tmps.getD 113 undef = .bool true := hg.dep ops17_24 hi 19 _ 113 ops17_19 rfl (by kernel_rfl)
      have h114 : a.tmps.getD 114 undef = .bool true := hg.dep ops17_24 hi 20 _ 114 ops17_20 rfl (by kernel_rfl)
      have h117 : a.tmps.getD 117 undef = .bool true := hg.dep ops17_24 hi 23 _ 117 ops17_23 rfl (by kernel_rfl)
      refine hg.op hf ops17_24 (want_of rfl ops17_19 rfl g113) (fun K' HK => ?_)
      go_simp
      exact HK.out _ _ (fun _ _ h => h) rfl hB
    · -- 25: slot 119
      have h113 : a.tmps.getD 113 undef = .bool true := hg.dep ops17_25 hi 19 _ 113 ops17_19 rfl (by kernel_rfl)
      have h118 : a.tmps.getD 118 undef = .bool true := hg.dep ops17_25 hi 24 _ 118 ops17_24 rfl (by kernel_rfl)
      refine hg.op hf ops17_25 rfl (fun K' HK => ?_)
      go_simp
      exact HK.out _ _ (fun _ _ h => h) rfl hB
    · -- 26: slot 120
      have h119 : a.tmps.getD 119 undef = .bool true := hg.dep ops17_26 hi 25 _ 119 ops17_25 rfl (by kernel_rfl)
      refine hg.op hf ops17_26 rfl (fun K' HK => ?_)
      go_simp
      exact HK.out _ _ (fun _ _ h => h) rfl hB
    · -- 27: slot 121
      have g120 : a.tmps.getD 120 undef = .bool true := hg.dep ops17_27 hi 26 _ 120 ops17_26 rfl (by kernel_rfl)
      have h14 : a.tmps.getD 14 undef = .bool true := (hg.was 14 (by kernel_rfl)).trans o14
      refine hg.op hf ops17_27 (want_of rfl ops17_26 rfl g120) (fun K' HK => ?_)
      go_simp
      exact HK.out _ _ (fun _ _ h => h) rfl hB
    · -- 28: slot 122
      have g120 : a.tmps.getD 120 undef = .bool true := hg.dep ops17_28 hi 26 _ 120 ops17_26 rfl (by kernel_rfl)
      have h121 : a.tmps.getD 121 undef = .bool true := hg.dep ops17_28 hi 27 _ 121 ops17_27 rfl (by kernel_rfl)
      refine hg.op hf ops17_28 (want_of rfl ops17_26 rfl g120) (fun K' HK => ?_)
      go_simp
      exact HK.out _ _ (fun _ _ h => h) rfl hB
    · -- 29: slot 123
      have g120 : a.tmps.getD 120 undef = .bool true := hg.dep ops17_29 hi 26 _ 120 ops17_26 rfl (by kernel_rfl)
      have h122 : a.tmps.getD 122 undef = .bool false := hg.dep ops17_29 hi 28 _ 122 ops17_28 rfl (by kernel_rfl)
      refine hg.op hf ops17_29 (want_of rfl ops17_26 rfl g120) (fun K' HK => ?_)
      go_simp
      exact HK.out _ _ (fun _ _ h => h) rfl hB
    · -- 30: slot 124
      have g123 : a.tmps.getD 123 undef = .bool false := hg.dep ops17_30 hi 29 _ 123 ops17_29 rfl (by kernel_rfl)
      exact hg.skip hf ops17_30 (unwant_of rfl ops17_29 rfl g123 (by decide)) rfl hB
    · -- 31: slot 125
      have g123 : a.tmps.getD 123 undef = .bool false := hg.dep ops17_31 hi 29 _ 123 ops17_29 rfl (by kernel_rfl)
      exact hg.skip hf ops17_31 (unwant_of rfl ops17_29 rfl g123 (by decide)) rfl hB
    · -- 32: slot 126
      have g120 : a.tmps.getD 120 undef = .bool true := hg.dep ops17_32 hi 26 _ 120 ops17_26 rfl (by kernel_rfl)
      have h123 : a.tmps.getD 123 undef = .bool false := hg.dep ops17_32 hi 29 _ 123 ops17_29 rfl (by kernel_rfl)
      have h125 : a.tmps.getD 125 undef = undef := hg.dep ops17_32 hi 31 _ 125 ops17_31 rfl (by kernel_rfl)
      refine hg.op hf ops17_32 (want_of rfl ops17_26 rfl g120) (fun K' HK => ?_)
      go_simp
      exact HK.out _ _ (fun _ _ h => h) rfl hB
    · -- 33: slot 127
      have g120 : a.tmps.getD 120 undef = .bool true := hg.dep ops17_33 hi 26 _ 120 ops17_26 rfl (by kernel_rfl)
      have h126 : a.tmps.getD 126 undef = .bool false := hg.dep ops17_33 hi 32 _ 126 ops17_32 rfl (by kernel_rfl)
      refine hg.op hf ops17_33 (want_of rfl ops17_26 rfl g120) (fun K' HK => ?_)
      go_simp
      exact HK.out _ _ (fun _ _ h => h) rfl hB
    · -- 34: slot 128
      have g127 : a.tmps.getD 127 undef = .bool false := hg.dep ops17_34 hi 33 _ 127 ops17_33 rfl (by kernel_rfl)
      have h14 : a.tmps.getD 14 undef = .bool true := (hg.was 14 (by kernel_rfl)).trans o14
      refine hg.op hf ops17_34 (want_of rfl ops17_33 rfl g127) (fun K' HK => ?_)
      go_simp
      exact HK.out _ _ (fun _ _ h => h) rfl hB
    · -- 35: slot 129
      have g127 : a.tmps.getD 127 undef = .bool false := hg.dep ops17_35 hi 33 _ 127 ops17_33 rfl (by kernel_rfl)
      have h128 : a.tmps.getD 128 undef = .bool true := hg.dep ops17_35 hi 34 _ 128 ops17_34 rfl (by kernel_rfl)
      refine hg.op hf ops17_35 (want_of rfl ops17_33 rfl g127) (fun K' HK => ?_)
      go_simp
      exact HK.out _ _ (fun _ _ h => h) rfl hB
    · -- 36: slot 130
      have g129 : a.tmps.getD 129 undef = .bool true := hg.dep ops17_36 hi 35 _ 129 ops17_35 rfl (by kernel_rfl)
      have h13 : a.tmps.getD 13 undef = .int .u8 bz := (hg.was 13 (by kernel_rfl)).trans o13
      refine hg.op hf ops17_36 (want_of rfl ops17_35 rfl g129) (fun K' HK => ?_)
      go_simp
      exact HK.out _ _ (fun _ _ h => h) rfl hB
    · -- 37: slot 131
      have g129 : a.tmps.getD 129 undef = .bool true := hg.dep ops17_37 hi 35 _ 129 ops17_35 rfl (by kernel_rfl)
      have h130 : a.tmps.getD 130 undef = .int .u8 bz := hg.dep ops17_37 hi 36 _ 130 ops17_36 rfl (by kernel_rfl)
      have h130q : a.tmps[130]?.getD undef = .int .u8 bz := by rw [← Array.getD_eq_getD_getElem?]; exact h130
      refine hg.op hf ops17_37 (want_of rfl ops17_35 rfl g129) (fun K' HK => ?_)
      go_simp
      exact HK.out _ _ (fun j u h => R17y_mono p q x y rb S one bz (below_al2 w _) j u h) ⟨⟨_, rfl⟩, fun w2 h2 => hcb w w2 (by simpa using h2)⟩ (hB.alloc hB.size _)
    · -- 38: slot 132
      have g129 : a.tmps.getD 129 undef = .bool true := hg.dep ops17_38 hi 35 _ 129 ops17_35 rfl (by kernel_rfl)
      have h131s := hg.dep ops17_38 hi 37 _ 131 ops17_37 rfl (by kernel_rfl)
      obtain ⟨⟨gb, h131⟩, hcv⟩ := h131s
      have hcv' := hcv w (Below.refl _ w)
      rw [h131] at hcv'
      refine hg.op hf ops17_38 (want_of rfl ops17_35 rfl g129) (fun K' HK => ?_)
      go_simp
      exact HK.out _ _ (fun _ _ h => h) rfl hB
    · -- 39: slot 133
      have g129 : a.tmps.getD 129 undef = .bool true := hg.dep ops17_39 hi 35 _ 129 ops17_35 rfl (by kernel_rfl)
      have h15 : a.tmps.getD 15 undef = .string one := (hg.was 15 (by kernel_rfl)).trans o15
      refine hg.op hf ops17_39 (want_of rfl ops17_35 rfl g129) (fun K' HK => ?_)
      go_simp
      exact HK.out _ _ (fun _ _ h => h) rfl hB
    · -- 40: slot 134
      have g129 : a.tmps.getD 129 undef = .bool true := hg.dep ops17_40 hi 35 _ 129 ops17_35 rfl (by kernel_rfl)
      have h132 : a.tmps.getD 132 undef = .string one := hg.dep ops17_40 hi 38 _ 132 ops17_38 rfl (by kernel_rfl)
      have h133 : a.tmps.getD 133 undef = .string one := hg.dep ops17_40 hi 39 _ 133 ops17_39 rfl (by kernel_rfl)
      refine hg.op hf ops17_40 (want_of rfl ops17_35 rfl g129) (fun K' HK => ?_)
      go_simp
      exact HK.out _ _ (fun _ _ h => h) rfl hB
    · -- 41: slot 135
      have g127 : a.tmps.getD 127 undef = .bool false := hg.dep ops17_41 hi 33 _ 127 ops17_33 rfl (by kernel_rfl)
      have h129 : a.tmps.getD 129 undef = .bool true := hg.dep ops17_41 hi 35 _ 129 ops17_35 rfl (by kernel_rfl)
      have h134 : a.tmps.getD 134 undef = .bool true := hg.dep ops17_41 hi 40 _ 134 ops17_40 rfl (by kernel_rfl)
      refine hg.op hf ops17_41 (want_of rfl ops17_33 rfl g127) (fun K' HK => ?_)
      go_simp
      exact HK.out _ _ (fun _ _ h => h) rfl hB
    · -- 42: slot 136
      have g120 : a.tmps.getD 120 undef = .bool true := hg.dep ops17_42 hi 26 _ 120 ops17_26 rfl (by kernel_rfl)
      have h127 : a.tmps.getD 127 undef = .bool false := hg.dep ops17_42 hi 33 _ 127 ops17_33 rfl (by kernel_rfl)
      have h135 : a.tmps.getD 135 undef = .bool true := hg.dep ops17_42 hi 41 _ 135 ops17_41 rfl (by kernel_rfl)
      refine hg.op hf ops17_42 (want_of rfl ops17_26 rfl g120) (fun K' HK => ?_)
      go_simp
      exact HK.out _ _ (fun _ _ h => h) rfl hB
    · -- 43: slot 137
      have h120 : a.tmps.getD 120 undef = .bool true := hg.dep ops17_43 hi 26 _ 120 ops17_26 rfl (by kernel_rfl)
      have h136 : a.tmps.getD 136 undef = .bool true := hg.dep ops17_43 hi 42 _ 136 ops17_42 rfl (by kernel_rfl)
      refine hg.op hf ops17_43 rfl (fun K' HK => ?_)
      go_simp
      exact HK.out _ _ (fun _ _ h => h) rfl hB
    · -- 44: slot 138
      have h137 : a.tmps.getD 137 undef = .bool true := hg.dep ops17_44 hi 43 _ 137 ops17_43 rfl (by kernel_rfl)
      refine hg.op hf ops17_44 rfl (fun K' HK => ?_)
      go_simp
      exact HK.out _ _ (fun _ _ h => h) rfl hB
    · -- 45: slot 139
      have g138 : a.tmps.getD 138 undef = .bool true := hg.dep ops17_45 hi 44 _ 138 ops17_44 rfl (by kernel_rfl)
      refine hg.op hf ops17_45 (want_of rfl ops17_44 rfl g138) (fun K' HK => ?_)
      go_simp
      refine (HAW _ hB).mono ?_; rintro e w2 ⟨rfl, hB2, hb2⟩
      exact HK.out _ _ (fun j u h => R17y_mono p q x y rb S one bz hb2 j u h) rfl hB2
    · -- 46: slot 140
      have h138 : a.tmps.getD 138 undef = .bool true := hg.dep ops17_46 hi 44 _ 138 ops17_44 rfl (by kernel_rfl)
      have h139 : a.tmps.getD 139 undef = .bool true := hg.dep ops17_46 hi 45 _ 139 ops17_45 rfl (by kernel_rfl)
      refine hg.op hf ops17_46 rfl (fun K' HK => ?_)
      go_simp
      exact HK.out _ _ (fun _ _ h => h) rfl hB
    · -- 47: slot 6
      have h140 : a.tmps.getD 140 undef = .bool true := hg.dep ops17_47 hi 46 _ 140 ops17_46 rfl (by kernel_rfl)
      refine hg.op hf ops17_47 rfl (fun K' HK => ?_)
      go_simp
      exact HK.out _ _ (fun _ _ h => h) rfl hB
  · intro listed a w hg hall
    refine hQ a w hg.defers hg.size (fun d hd => hg.was d hd) ?_ hg.inv
    exact hg.val 47 _ 6 ops17_47 rfl (hall 47 (of_decide_eq_true (by kernel_rfl)))
noncomputable def R17n (p q : Nat) (x y : Int) (rb : Bool) (S one : ByteArray) (bz : Int) (i : Nat) (v : Value) (w : World) : Prop := if i = 11 then ((∃ a n c, v = .slice a n c) ∧ ∀ w', Below w.heap.size w w' → (convert 30 9 v).run Try.prog w' = .ok (.string S) w') else v = ([.pointer (some ⟨p, 0, none⟩), .agg #[.int .i64 x, .int .i64 y], .bool rb, .pointer (some ⟨q, 0, none⟩), .agg #[.int .i64 x, .int .i64 y], .agg #[.int .i64 x, .int .i64 y], .bool rb, .bool true, .bool true, .pointer (some ⟨p, 0, none⟩), .agg #[.int .i64 x, .int .i64 y], undef, .string S, .pointer (some ⟨q, 0, none⟩), .agg #[.int .i64 x, .int .i64 y], .agg #[.int .i64 x, .int .i64 y], .string S, .bool true, .bool true, .bool true, .bool false, .string one, .int .i64 one.size, .bool false, .bool true, .bool true, .bool true, .bool false, .bool true, .bool true, .int .u8 0, .bool true, .bool true, .bool true, undef, undef, undef, undef, undef, undef, undef, undef, .bool true, .bool true, .bool true, .bool true, .bool true, .bool true] : List Value).getD i undef
theorem R17n_mono (p q : Nat) (x y : Int) (rb : Bool) (S one : ByteArray) (bz : Int) {w w' : World} (hb : Below w.heap.size w w') (i : Nat) (v : Value) (h : R17n p q x y rb S one bz i v w) : R17n p q x y rb S one bz i v w' := by
  unfold R17n at *
  by_cases e105 : i = 11
  · rw [if_pos e105] at h ⊢
    exact ⟨h.1, fun w2 h2 => h.2 w2 (hb.trans (h2.mono hb.size))⟩
  rw [if_neg e105] at h ⊢
  exact h
set_option maxHeartbeats 8000000 in
set_option maxRecDepth 100000 in
theorem reg17_no (p q : Nat) (x y : Int) (rb : Bool) (S one : ByteArray) (bz : Int) (b5 : Nat) {a0 : Act} {wF : World} {Q : Exit → Act → World → Prop} (hsize : a0.tmps.size = 141) (o5 : a0.tmps.getD 5 undef = .pointer (some ⟨b5, 0, none⟩)) (o7 : a0.tmps.getD 7 undef = .pointer (some ⟨p, 0, none⟩)) (o9 : a0.tmps.getD 9 undef = .pointer (some ⟨q, 0, none⟩)) (o13 : a0.tmps.getD 13 undef = .int .u8 0) (o14 : a0.tmps.getD 14 undef = .bool false) (o15 : a0.tmps.getD 15 undef = .string one)
    (ld1 : ∀ w', Below wF.heap.size wF w' → w'.cell? ⟨b5, 0, none⟩ = some (.int .i64 x)) (ld2 : ∀ w', Below wF.heap.size wF w' → w'.cell? ⟨b5, 1, none⟩ = some (.int .i64 y))
    (HRt : ∀ w', Below wF.heap.size wF w' → Calls Try.prog 20 #[.pointer (some ⟨p, 0, none⟩), .agg #[.int .i64 x, .int .i64 y]] w' fun e w2 => e = .returned (.bool rb) ∧ Below wF.heap.size wF w2 ∧ Below w'.heap.size w' w2)
    (HRR : ∀ w', Below wF.heap.size wF w' → Calls Try.prog 21 #[.pointer (some ⟨q, 0, none⟩), .agg #[.int .i64 x, .int .i64 y]] w' fun e w2 => e = .returned (.bool rb) ∧ Below wF.heap.size wF w2 ∧ Below w'.heap.size w' w2)
    (HO : ∀ w', Below wF.heap.size wF w' → Calls Try.prog 22 #[.agg #[.int .i64 x, .int .i64 y]] w' fun e w2 => e = .returned (.agg #[.int .i64 x, .int .i64 y]) ∧ Below wF.heap.size wF w2 ∧ Below w'.heap.size w' w2)
    (HBy : ∀ w', Below wF.heap.size wF w' → Calls Try.prog 23 #[.pointer (some ⟨p, 0, none⟩), .agg #[.int .i64 x, .int .i64 y]] w' fun e w2 => ∃ v, e = .returned v ∧ ((∃ a n c, v = .slice a n c) ∧ ∀ w3, Below w2.heap.size w2 w3 → (convert 30 9 v).run Try.prog w3 = .ok (.string S) w3) ∧ Below wF.heap.size wF w2 ∧ Below w'.heap.size w' w2)
    (HRB : ∀ w', Below wF.heap.size wF w' → Calls Try.prog 19 #[.pointer (some ⟨q, 0, none⟩), .agg #[.int .i64 x, .int .i64 y]] w' fun e w2 => e = .returned (.string S) ∧ Below wF.heap.size wF w2 ∧ Below w'.heap.size w' w2)
    (HAW : ∀ w', Below wF.heap.size wF w' → Calls Try.prog 14 #[] w' fun e w2 => e = .returned (.bool true) ∧ Below wF.heap.size wF w2 ∧ Below w'.heap.size w' w2)
    (hone : ((one.size : Int) == 1) = false) 
    (hQ : ∀ a w', a.defers = a0.defers → a.tmps.size = a0.tmps.size → (∀ d : Nat, (ops17.all fun o => o.dst != some d) = true → a.tmps.getD d undef = a0.tmps.getD d undef) → a.tmps.getD 6 undef = .bool true → Below wF.heap.size wF w' → Q .normal a w') : (Code.region 17 ops17 true).wp Try.prog Q a0 wF := by
  have hf : opsFine .any ops17 a0.tmps.size = true := by rw [hsize]; kernel_rfl
  refine wp_region_good (by kernel_rfl) (R17n p q x y rb S one bz) (fun _ w' => Below wF.heap.size wF w') hf ((Below.refl _ wF).drew) ?_ ?_
  · intro i listed a w hg hi
    have hlt : i < 48 := (ready_spec hi).1
    have hB : Below wF.heap.size wF w := hg.inv
    rcases (show i = 0 ∨ i = 1 ∨ i = 2 ∨ i = 3 ∨ i = 4 ∨ i = 5 ∨ i = 6 ∨ i = 7 ∨ i = 8 ∨ i = 9 ∨ i = 10 ∨ i = 11 ∨ i = 12 ∨ i = 13 ∨ i = 14 ∨ i = 15 ∨ i = 16 ∨ i = 17 ∨ i = 18 ∨ i = 19 ∨ i = 20 ∨ i = 21 ∨ i = 22 ∨ i = 23 ∨ i = 24 ∨ i = 25 ∨ i = 26 ∨ i = 27 ∨ i = 28 ∨ i = 29 ∨ i = 30 ∨ i = 31 ∨ i = 32 ∨ i = 33 ∨ i = 34 ∨ i = 35 ∨ i = 36 ∨ i = 37 ∨ i = 38 ∨ i = 39 ∨ i = 40 ∨ i = 41 ∨ i = 42 ∨ i = 43 ∨ i = 44 ∨ i = 45 ∨ i = 46 ∨ i = 47 by omega) with rfl | rfl | rfl | rfl | rfl | rfl | rfl | rfl | rfl | rfl | rfl | rfl | rfl | rfl | rfl | rfl | rfl | rfl | rfl | rfl | rfl | rfl | rfl | rfl | rfl | rfl | rfl | rfl | rfl | rfl | rfl | rfl | rfl | rfl | rfl | rfl | rfl | rfl | rfl | rfl | rfl | rfl | rfl | rfl | rfl | rfl | rfl | rfl
    · -- 0: slot 94
      have h7 : a.tmps.getD 7 undef = .pointer (some ⟨p, 0, none⟩) := (hg.was 7 (by kernel_rfl)).trans o7
      refine hg.op hf ops17_0 rfl (fun K' HK => ?_)
      go_simp
      exact HK.out _ _ (fun _ _ h => h) rfl hB
    · -- 1: slot 95
      have h5 : a.tmps.getD 5 undef = .pointer (some ⟨b5, 0, none⟩) := (hg.was 5 (by kernel_rfl)).trans o5
      have l1 := ld1 _ hB
      have l2 := ld2 _ hB
      refine hg.op hf ops17_1 rfl (fun K' HK => ?_)
      go_simp
      exact HK.out _ _ (fun _ _ h => h) rfl hB
    · -- 2: slot 96
      have h94 : a.tmps.getD 94 undef = .pointer (some ⟨p, 0, none⟩) := hg.dep ops17_2 hi 0 _ 94 ops17_0 rfl (by kernel_rfl)
      have h95 : a.tmps.getD 95 undef = .agg #[.int .i64 x, .int .i64 y] := hg.dep ops17_2 hi 1 _ 95 ops17_1 rfl (by kernel_rfl)
      refine hg.op hf ops17_2 rfl (fun K' HK => ?_)
      go_simp
      refine (HRt _ hB).mono ?_; rintro e w2 ⟨rfl, hB2, hb2⟩
      exact HK.out _ _ (fun j u h => R17n_mono p q x y rb S one bz hb2 j u h) rfl hB2
    · -- 3: slot 97
      have h9 : a.tmps.getD 9 undef = .pointer (some ⟨q, 0, none⟩) := (hg.was 9 (by kernel_rfl)).trans o9
      refine hg.op hf ops17_3 rfl (fun K' HK => ?_)
      go_simp
      exact HK.out _ _ (fun _ _ h => h) rfl hB
    · -- 4: slot 98
      have h5 : a.tmps.getD 5 undef = .pointer (some ⟨b5, 0, none⟩) := (hg.was 5 (by kernel_rfl)).trans o5
      have l1 := ld1 _ hB
      have l2 := ld2 _ hB
      refine hg.op hf ops17_4 rfl (fun K' HK => ?_)
      go_simp
      exact HK.out _ _ (fun _ _ h => h) rfl hB
    · -- 5: slot 99
      have h98 : a.tmps.getD 98 undef = .agg #[.int .i64 x, .int .i64 y] := hg.dep ops17_5 hi 4 _ 98 ops17_4 rfl (by kernel_rfl)
      refine hg.op hf ops17_5 rfl (fun K' HK => ?_)
      go_simp
      refine (HO _ hB).mono ?_; rintro e w2 ⟨rfl, hB2, hb2⟩
      exact HK.out _ _ (fun j u h => R17n_mono p q x y rb S one bz hb2 j u h) rfl hB2
    · -- 6: slot 100
      have h97 : a.tmps.getD 97 undef = .pointer (some ⟨q, 0, none⟩) := hg.dep ops17_6 hi 3 _ 97 ops17_3 rfl (by kernel_rfl)
      have h99 : a.tmps.getD 99 undef = .agg #[.int .i64 x, .int .i64 y] := hg.dep ops17_6 hi 5 _ 99 ops17_5 rfl (by kernel_rfl)
      refine hg.op hf ops17_6 rfl (fun K' HK => ?_)
      go_simp
      refine (HRR _ hB).mono ?_; rintro e w2 ⟨rfl, hB2, hb2⟩
      exact HK.out _ _ (fun j u h => R17n_mono p q x y rb S one bz hb2 j u h) rfl hB2
    · -- 7: slot 101
      have h96 : a.tmps.getD 96 undef = .bool rb := hg.dep ops17_7 hi 2 _ 96 ops17_2 rfl (by kernel_rfl)
      have h100 : a.tmps.getD 100 undef = .bool rb := hg.dep ops17_7 hi 6 _ 100 ops17_6 rfl (by kernel_rfl)
      refine hg.op hf ops17_7 rfl (fun K' HK => ?_)
      go_simp
      exact HK.out _ _ (fun _ _ h => h) rfl hB
    · -- 8: slot 102
      have h101 : a.tmps.getD 101 undef = .bool true := hg.dep ops17_8 hi 7 _ 101 ops17_7 rfl (by kernel_rfl)
      refine hg.op hf ops17_8 rfl (fun K' HK => ?_)
      go_simp
      exact HK.out _ _ (fun _ _ h => h) rfl hB
    · -- 9: slot 103
      have g102 : a.tmps.getD 102 undef = .bool true := hg.dep ops17_9 hi 8 _ 102 ops17_8 rfl (by kernel_rfl)
      have h7 : a.tmps.getD 7 undef = .pointer (some ⟨p, 0, none⟩) := (hg.was 7 (by kernel_rfl)).trans o7
      refine hg.op hf ops17_9 (want_of rfl ops17_8 rfl g102) (fun K' HK => ?_)
      go_simp
      exact HK.out _ _ (fun _ _ h => h) rfl hB
    · -- 10: slot 104
      have g102 : a.tmps.getD 102 undef = .bool true := hg.dep ops17_10 hi 8 _ 102 ops17_8 rfl (by kernel_rfl)
      have h5 : a.tmps.getD 5 undef = .pointer (some ⟨b5, 0, none⟩) := (hg.was 5 (by kernel_rfl)).trans o5
      have l1 := ld1 _ hB
      have l2 := ld2 _ hB
      refine hg.op hf ops17_10 (want_of rfl ops17_8 rfl g102) (fun K' HK => ?_)
      go_simp
      exact HK.out _ _ (fun _ _ h => h) rfl hB
    · -- 11: slot 105
      have g102 : a.tmps.getD 102 undef = .bool true := hg.dep ops17_11 hi 8 _ 102 ops17_8 rfl (by kernel_rfl)
      have h103 : a.tmps.getD 103 undef = .pointer (some ⟨p, 0, none⟩) := hg.dep ops17_11 hi 9 _ 103 ops17_9 rfl (by kernel_rfl)
      have h104 : a.tmps.getD 104 undef = .agg #[.int .i64 x, .int .i64 y] := hg.dep ops17_11 hi 10 _ 104 ops17_10 rfl (by kernel_rfl)
      refine hg.op hf ops17_11 (want_of rfl ops17_8 rfl g102) (fun K' HK => ?_)
      go_simp
      refine (HBy _ hB).mono ?_; rintro e w2 ⟨v, rfl, hsp, hB2, hb2⟩
      exact HK.out _ _ (fun j u h => R17n_mono p q x y rb S one bz hb2 j u h) hsp hB2
    · -- 12: slot 106
      have g102 : a.tmps.getD 102 undef = .bool true := hg.dep ops17_12 hi 8 _ 102 ops17_8 rfl (by kernel_rfl)
      have h105s := hg.dep ops17_12 hi 11 _ 105 ops17_11 rfl (by kernel_rfl)
      obtain ⟨⟨ab, nb, cb, h105⟩, hcv⟩ := h105s
      have hcv' := hcv w (Below.refl _ w)
      rw [h105] at hcv'
      refine hg.op hf ops17_12 (want_of rfl ops17_8 rfl g102) (fun K' HK => ?_)
      go_simp
      exact HK.out _ _ (fun _ _ h => h) rfl hB
    · -- 13: slot 107
      have g102 : a.tmps.getD 102 undef = .bool true := hg.dep ops17_13 hi 8 _ 102 ops17_8 rfl (by kernel_rfl)
      have h9 : a.tmps.getD 9 undef = .pointer (some ⟨q, 0, none⟩) := (hg.was 9 (by kernel_rfl)).trans o9
      refine hg.op hf ops17_13 (want_of rfl ops17_8 rfl g102) (fun K' HK => ?_)
      go_simp
      exact HK.out _ _ (fun _ _ h => h) rfl hB
    · -- 14: slot 108
      have g102 : a.tmps.getD 102 undef = .bool true := hg.dep ops17_14 hi 8 _ 102 ops17_8 rfl (by kernel_rfl)
      have h5 : a.tmps.getD 5 undef = .pointer (some ⟨b5, 0, none⟩) := (hg.was 5 (by kernel_rfl)).trans o5
      have l1 := ld1 _ hB
      have l2 := ld2 _ hB
      refine hg.op hf ops17_14 (want_of rfl ops17_8 rfl g102) (fun K' HK => ?_)
      go_simp
      exact HK.out _ _ (fun _ _ h => h) rfl hB
    · -- 15: slot 109
      have g102 : a.tmps.getD 102 undef = .bool true := hg.dep ops17_15 hi 8 _ 102 ops17_8 rfl (by kernel_rfl)
      have h108 : a.tmps.getD 108 undef = .agg #[.int .i64 x, .int .i64 y] := hg.dep ops17_15 hi 14 _ 108 ops17_14 rfl (by kernel_rfl)
      refine hg.op hf ops17_15 (want_of rfl ops17_8 rfl g102) (fun K' HK => ?_)
      go_simp
      refine (HO _ hB).mono ?_; rintro e w2 ⟨rfl, hB2, hb2⟩
      exact HK.out _ _ (fun j u h => R17n_mono p q x y rb S one bz hb2 j u h) rfl hB2
    · -- 16: slot 110
      have g102 : a.tmps.getD 102 undef = .bool true := hg.dep ops17_16 hi 8 _ 102 ops17_8 rfl (by kernel_rfl)
      have h107 : a.tmps.getD 107 undef = .pointer (some ⟨q, 0, none⟩) := hg.dep ops17_16 hi 13 _ 107 ops17_13 rfl (by kernel_rfl)
      have h109 : a.tmps.getD 109 undef = .agg #[.int .i64 x, .int .i64 y] := hg.dep ops17_16 hi 15 _ 109 ops17_15 rfl (by kernel_rfl)
      refine hg.op hf ops17_16 (want_of rfl ops17_8 rfl g102) (fun K' HK => ?_)
      go_simp
      refine (HRB _ hB).mono ?_; rintro e w2 ⟨rfl, hB2, hb2⟩
      exact HK.out _ _ (fun j u h => R17n_mono p q x y rb S one bz hb2 j u h) rfl hB2
    · -- 17: slot 111
      have g102 : a.tmps.getD 102 undef = .bool true := hg.dep ops17_17 hi 8 _ 102 ops17_8 rfl (by kernel_rfl)
      have h106 : a.tmps.getD 106 undef = .string S := hg.dep ops17_17 hi 12 _ 106 ops17_12 rfl (by kernel_rfl)
      have h110 : a.tmps.getD 110 undef = .string S := hg.dep ops17_17 hi 16 _ 110 ops17_16 rfl (by kernel_rfl)
      refine hg.op hf ops17_17 (want_of rfl ops17_8 rfl g102) (fun K' HK => ?_)
      go_simp
      exact HK.out _ _ (fun _ _ h => h) rfl hB
    · -- 18: slot 112
      have h102 : a.tmps.getD 102 undef = .bool true := hg.dep ops17_18 hi 8 _ 102 ops17_8 rfl (by kernel_rfl)
      have h111 : a.tmps.getD 111 undef = .bool true := hg.dep ops17_18 hi 17 _ 111 ops17_17 rfl (by kernel_rfl)
      refine hg.op hf ops17_18 rfl (fun K' HK => ?_)
      go_simp
      exact HK.out _ _ (fun _ _ h => h) rfl hB
    · -- 19: slot 113
      have h112 : a.tmps.getD 112 undef = .bool true := hg.dep ops17_19 hi 18 _ 112 ops17_18 rfl (by kernel_rfl)
      refine hg.op hf ops17_19 rfl (fun K' HK => ?_)
      go_simp
      exact HK.out _ _ (fun _ _ h => h) rfl hB
    · -- 20: slot 114
      have g113 : a.tmps.getD 113 undef = .bool true := hg.dep ops17_20 hi 19 _ 113 ops17_19 rfl (by kernel_rfl)
      have h14 : a.tmps.getD 14 undef = .bool false := (hg.was 14 (by kernel_rfl)).trans o14
      refine hg.op hf ops17_20 (want_of rfl ops17_19 rfl g113) (fun K' HK => ?_)
      go_simp
      exact HK.out _ _ (fun _ _ h => h) rfl hB
    · -- 21: slot 115
      have g113 : a.tmps.getD 113 undef = .bool true := hg.dep ops17_21 hi 19 _ 113 ops17_19 rfl (by kernel_rfl)
      have h15 : a.tmps.getD 15 undef = .string one := (hg.was 15 (by kernel_rfl)).trans o15
      refine hg.op hf ops17_21 (want_of rfl ops17_19 rfl g113) (fun K' HK => ?_)
      go_simp
      exact HK.out _ _ (fun _ _ h => h) rfl hB
    · -- 22: slot 116
      have g113 : a.tmps.getD 113 undef = .bool true := hg.dep ops17_22 hi 19 _ 113 ops17_19 rfl (by kernel_rfl)
      have h115 : a.tmps.getD 115 undef = .string one := hg.dep ops17_22 hi 21 _ 115 ops17_21 rfl (by kernel_rfl)
      refine hg.op hf ops17_22 (want_of rfl ops17_19 rfl g113) (fun K' HK => ?_)
      go_simp
      exact HK.out _ _ (fun _ _ h => h) rfl hB
    · -- 23: slot 117
      have g113 : a.tmps.getD 113 undef = .bool true := hg.dep ops17_23 hi 19 _ 113 ops17_19 rfl (by kernel_rfl)
      have h116 : a.tmps.getD 116 undef = .int .i64 one.size := hg.dep ops17_23 hi 22 _ 116 ops17_22 rfl (by kernel_rfl)
      refine hg.op hf ops17_23 (want_of rfl ops17_19 rfl g113) (fun K' HK => ?_)
      go_simp
      exact HK.out _ _ (fun _ _ h => h) rfl hB
    · -- 24: slot 118
      have g113 : a.tmps.getD 113 undef = .bool true := hg.dep ops17_24 hi 19 _ 113 ops17_19 rfl (by kernel_rfl)
      have h114 : a.tmps.getD 114 undef = .bool false := hg.dep ops17_24 hi 20 _ 114 ops17_20 rfl (by kernel_rfl)
      have h117 : a.tmps.getD 117 undef = .bool false := hg.dep ops17_24 hi 23 _ 117 ops17_23 rfl (by kernel_rfl)
      refine hg.op hf ops17_24 (want_of rfl ops17_19 rfl g113) (fun K' HK => ?_)
      go_simp
      exact HK.out _ _ (fun _ _ h => h) rfl hB
    · -- 25: slot 119
      have h113 : a.tmps.getD 113 undef = .bool true := hg.dep ops17_25 hi 19 _ 113 ops17_19 rfl (by kernel_rfl)
      have h118 : a.tmps.getD 118 undef = .bool true := hg.dep ops17_25 hi 24 _ 118 ops17_24 rfl (by kernel_rfl)
      refine hg.op hf ops17_25 rfl (fun K' HK => ?_)
      go_simp
      exact HK.out _ _ (fun _ _ h => h) rfl hB
    · -- 26: slot 120
      have h119 : a.tmps.getD 119 undef = .bool true := hg.dep ops17_26 hi 25 _ 119 ops17_25 rfl (by kernel_rfl)
      refine hg.op hf ops17_26 rfl (fun K' HK => ?_)
      go_simp
      exact HK.out _ _ (fun _ _ h => h) rfl hB
    · -- 27: slot 121
      have g120 : a.tmps.getD 120 undef = .bool true := hg.dep ops17_27 hi 26 _ 120 ops17_26 rfl (by kernel_rfl)
      have h14 : a.tmps.getD 14 undef = .bool false := (hg.was 14 (by kernel_rfl)).trans o14
      refine hg.op hf ops17_27 (want_of rfl ops17_26 rfl g120) (fun K' HK => ?_)
      go_simp
      exact HK.out _ _ (fun _ _ h => h) rfl hB
    · -- 28: slot 122
      have g120 : a.tmps.getD 120 undef = .bool true := hg.dep ops17_28 hi 26 _ 120 ops17_26 rfl (by kernel_rfl)
      have h121 : a.tmps.getD 121 undef = .bool false := hg.dep ops17_28 hi 27 _ 121 ops17_27 rfl (by kernel_rfl)
      refine hg.op hf ops17_28 (want_of rfl ops17_26 rfl g120) (fun K' HK => ?_)
      go_simp
      exact HK.out _ _ (fun _ _ h => h) rfl hB
    · -- 29: slot 123
      have g120 : a.tmps.getD 120 undef = .bool true := hg.dep ops17_29 hi 26 _ 120 ops17_26 rfl (by kernel_rfl)
      have h122 : a.tmps.getD 122 undef = .bool true := hg.dep ops17_29 hi 28 _ 122 ops17_28 rfl (by kernel_rfl)
      refine hg.op hf ops17_29 (want_of rfl ops17_26 rfl g120) (fun K' HK => ?_)
      go_simp
      exact HK.out _ _ (fun _ _ h => h) rfl hB
    · -- 30: slot 124
      have g123 : a.tmps.getD 123 undef = .bool true := hg.dep ops17_30 hi 29 _ 123 ops17_29 rfl (by kernel_rfl)
      have h13 : a.tmps.getD 13 undef = .int .u8 0 := (hg.was 13 (by kernel_rfl)).trans o13
      refine hg.op hf ops17_30 (want_of rfl ops17_29 rfl g123) (fun K' HK => ?_)
      go_simp
      exact HK.out _ _ (fun _ _ h => h) rfl hB
    · -- 31: slot 125
      have g123 : a.tmps.getD 123 undef = .bool true := hg.dep ops17_31 hi 29 _ 123 ops17_29 rfl (by kernel_rfl)
      have h124 : a.tmps.getD 124 undef = .int .u8 0 := hg.dep ops17_31 hi 30 _ 124 ops17_30 rfl (by kernel_rfl)
      refine hg.op hf ops17_31 (want_of rfl ops17_29 rfl g123) (fun K' HK => ?_)
      go_simp
      exact HK.out _ _ (fun _ _ h => h) rfl hB
    · -- 32: slot 126
      have g120 : a.tmps.getD 120 undef = .bool true := hg.dep ops17_32 hi 26 _ 120 ops17_26 rfl (by kernel_rfl)
      have h123 : a.tmps.getD 123 undef = .bool true := hg.dep ops17_32 hi 29 _ 123 ops17_29 rfl (by kernel_rfl)
      have h125 : a.tmps.getD 125 undef = .bool true := hg.dep ops17_32 hi 31 _ 125 ops17_31 rfl (by kernel_rfl)
      refine hg.op hf ops17_32 (want_of rfl ops17_26 rfl g120) (fun K' HK => ?_)
      go_simp
      exact HK.out _ _ (fun _ _ h => h) rfl hB
    · -- 33: slot 127
      have g120 : a.tmps.getD 120 undef = .bool true := hg.dep ops17_33 hi 26 _ 120 ops17_26 rfl (by kernel_rfl)
      have h126 : a.tmps.getD 126 undef = .bool true := hg.dep ops17_33 hi 32 _ 126 ops17_32 rfl (by kernel_rfl)
      refine hg.op hf ops17_33 (want_of rfl ops17_26 rfl g120) (fun K' HK => ?_)
      go_simp
      exact HK.out _ _ (fun _ _ h => h) rfl hB
    · -- 34: slot 128
      have g127 : a.tmps.getD 127 undef = .bool true := hg.dep ops17_34 hi 33 _ 127 ops17_33 rfl (by kernel_rfl)
      exact hg.skip hf ops17_34 (unwant_of rfl ops17_33 rfl g127 (by decide)) rfl hB
    · -- 35: slot 129
      have g127 : a.tmps.getD 127 undef = .bool true := hg.dep ops17_35 hi 33 _ 127 ops17_33 rfl (by kernel_rfl)
      exact hg.skip hf ops17_35 (unwant_of rfl ops17_33 rfl g127 (by decide)) rfl hB
    · -- 36: slot 130
      have g129 : a.tmps.getD 129 undef = undef := hg.dep ops17_36 hi 35 _ 129 ops17_35 rfl (by kernel_rfl)
      exact hg.skip hf ops17_36 (unwant_undef rfl ops17_35 rfl g129) rfl hB
    · -- 37: slot 131
      have g129 : a.tmps.getD 129 undef = undef := hg.dep ops17_37 hi 35 _ 129 ops17_35 rfl (by kernel_rfl)
      exact hg.skip hf ops17_37 (unwant_undef rfl ops17_35 rfl g129) rfl hB
    · -- 38: slot 132
      have g129 : a.tmps.getD 129 undef = undef := hg.dep ops17_38 hi 35 _ 129 ops17_35 rfl (by kernel_rfl)
      exact hg.skip hf ops17_38 (unwant_undef rfl ops17_35 rfl g129) rfl hB
    · -- 39: slot 133
      have g129 : a.tmps.getD 129 undef = undef := hg.dep ops17_39 hi 35 _ 129 ops17_35 rfl (by kernel_rfl)
      exact hg.skip hf ops17_39 (unwant_undef rfl ops17_35 rfl g129) rfl hB
    · -- 40: slot 134
      have g129 : a.tmps.getD 129 undef = undef := hg.dep ops17_40 hi 35 _ 129 ops17_35 rfl (by kernel_rfl)
      exact hg.skip hf ops17_40 (unwant_undef rfl ops17_35 rfl g129) rfl hB
    · -- 41: slot 135
      have g127 : a.tmps.getD 127 undef = .bool true := hg.dep ops17_41 hi 33 _ 127 ops17_33 rfl (by kernel_rfl)
      exact hg.skip hf ops17_41 (unwant_of rfl ops17_33 rfl g127 (by decide)) rfl hB
    · -- 42: slot 136
      have g120 : a.tmps.getD 120 undef = .bool true := hg.dep ops17_42 hi 26 _ 120 ops17_26 rfl (by kernel_rfl)
      have h127 : a.tmps.getD 127 undef = .bool true := hg.dep ops17_42 hi 33 _ 127 ops17_33 rfl (by kernel_rfl)
      have h135 : a.tmps.getD 135 undef = undef := hg.dep ops17_42 hi 41 _ 135 ops17_41 rfl (by kernel_rfl)
      refine hg.op hf ops17_42 (want_of rfl ops17_26 rfl g120) (fun K' HK => ?_)
      go_simp
      exact HK.out _ _ (fun _ _ h => h) rfl hB
    · -- 43: slot 137
      have h120 : a.tmps.getD 120 undef = .bool true := hg.dep ops17_43 hi 26 _ 120 ops17_26 rfl (by kernel_rfl)
      have h136 : a.tmps.getD 136 undef = .bool true := hg.dep ops17_43 hi 42 _ 136 ops17_42 rfl (by kernel_rfl)
      refine hg.op hf ops17_43 rfl (fun K' HK => ?_)
      go_simp
      exact HK.out _ _ (fun _ _ h => h) rfl hB
    · -- 44: slot 138
      have h137 : a.tmps.getD 137 undef = .bool true := hg.dep ops17_44 hi 43 _ 137 ops17_43 rfl (by kernel_rfl)
      refine hg.op hf ops17_44 rfl (fun K' HK => ?_)
      go_simp
      exact HK.out _ _ (fun _ _ h => h) rfl hB
    · -- 45: slot 139
      have g138 : a.tmps.getD 138 undef = .bool true := hg.dep ops17_45 hi 44 _ 138 ops17_44 rfl (by kernel_rfl)
      refine hg.op hf ops17_45 (want_of rfl ops17_44 rfl g138) (fun K' HK => ?_)
      go_simp
      refine (HAW _ hB).mono ?_; rintro e w2 ⟨rfl, hB2, hb2⟩
      exact HK.out _ _ (fun j u h => R17n_mono p q x y rb S one bz hb2 j u h) rfl hB2
    · -- 46: slot 140
      have h138 : a.tmps.getD 138 undef = .bool true := hg.dep ops17_46 hi 44 _ 138 ops17_44 rfl (by kernel_rfl)
      have h139 : a.tmps.getD 139 undef = .bool true := hg.dep ops17_46 hi 45 _ 139 ops17_45 rfl (by kernel_rfl)
      refine hg.op hf ops17_46 rfl (fun K' HK => ?_)
      go_simp
      exact HK.out _ _ (fun _ _ h => h) rfl hB
    · -- 47: slot 6
      have h140 : a.tmps.getD 140 undef = .bool true := hg.dep ops17_47 hi 46 _ 140 ops17_46 rfl (by kernel_rfl)
      refine hg.op hf ops17_47 rfl (fun K' HK => ?_)
      go_simp
      exact HK.out _ _ (fun _ _ h => h) rfl hB
  · intro listed a w hg hall
    refine hQ a w hg.defers hg.size (fun d hd => hg.was d hd) ?_ hg.inv
    exact hg.val 47 _ 6 ops17_47 rfl (hall 47 (of_decide_eq_true (by kernel_rfl)))

end Go.Proofs.Ytkggeknfdjbheaa
