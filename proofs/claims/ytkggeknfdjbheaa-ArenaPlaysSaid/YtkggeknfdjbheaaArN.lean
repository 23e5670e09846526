/-
  The region of ArenaPlays that puts, whatever order is drawn: written by program (wip/tools/mkreg.py).
-/
import Derived.Test.YtkggeknfdjbheaaArM
namespace Go.Proofs.Ytkggeknfdjbheaa
open Go Go.RowKit
set_option linter.unusedVariables false
noncomputable def ops12 : Array Oper := ((Try.f3.body.bind (opsOf 12)).getD #[])
/-- Before the put: nothing old has turned; behind it: what the put leaves. -/
def Inv12 (Aft : World → Prop) (wF : World) (listed : Array Bool) (w : World) : Prop := if listed.getD 7 false = true then Aft w else Below wF.heap.size wF w
theorem inv12_or {Aft : World → Prop} {wF w : World} {listed : Array Bool} (h : Inv12 Aft wF listed w) : Below wF.heap.size wF w ∨ Aft w := by
  unfold Inv12 at h
  split at h
  · exact .inr h
  · exact .inl h
theorem inv12_start {Aft : World → Prop} {wF w : World} (h : Below wF.heap.size wF w) : Inv12 Aft wF (Array.replicate ops12.size false) w := by
  unfold Inv12
  rw [if_neg]
  · exact h
  · rw [Array.getD_eq_getD_getElem?, Array.getElem?_replicate]
    split <;> simp
theorem inv12_keep {Aft : World → Prop} {wF w : World} {listed : Array Bool} {i : Nat} (h : Inv12 Aft wF listed w) (hi : 7 ≠ i) : Inv12 Aft wF (listed.setIfInBounds i true) w := by
  unfold Inv12 at *
  have e : (listed.setIfInBounds i true).getD 7 false = listed.getD 7 false := by
    rw [Array.getD_eq_getD_getElem?, Array.getD_eq_getD_getElem?, Array.getElem?_setIfInBounds, if_neg (fun e => hi e.symm)]
  rw [e]
  exact h
theorem inv12_below {Aft : World → Prop} {wF w : World} {listed : Array Bool} (h : Inv12 Aft wF listed w) (hn : listed.getD 7 true = false) : Below wF.heap.size wF w := by
  unfold Inv12 at h
  rw [if_neg] at h
  · exact h
  · rw [Array.getD_eq_getD_getElem?] at hn ⊢
    cases hx : listed[7]? with
    | none => simp
    | some b => rw [hx] at hn; simpa using hn
theorem inv12_put {Aft : World → Prop} {wF w : World} {listed : Array Bool} (h : Aft w) (hl : 7 < listed.size) : Inv12 Aft wF (listed.setIfInBounds 7 true) w := by
  unfold Inv12
  rw [if_pos (by rw [listed_set hl, if_pos rfl])]
  exact h
theorem ops12_0 : ops12[0]? = some { dst := some 51, op := Go.Op.move (Go.Operand.tmp 7), type := 26, pos := "law.go:65", after := #[], guard := none } := by kernel_rfl
theorem ops12_1 : ops12[1]? = some { dst := some 52, op := Go.Op.move (Go.Operand.tmp 9), type := 31, pos := "law.go:65", after := #[], guard := none } := by kernel_rfl
theorem ops12_2 : ops12[2]? = some { dst := some 53, op := Go.Op.fieldAddr 36 (Go.Operand.tmp 12) 0, type := 0, pos := "law.go:65", after := #[], guard := none } := by kernel_rfl
theorem ops12_3 : ops12[3]? = some { dst := some 54, op := Go.Op.load 9 (Go.Operand.tmp 53), type := 9, pos := "law.go:65", after := #[{ on := 2, ground := Go.Ground.data }], guard := none } := by kernel_rfl
theorem ops12_4 : ops12[4]? = some { dst := some 55, op := Go.Op.call { callee := Go.Callee.value (Go.Operand.func 11), args := #[Go.Operand.tmp 54, Go.Operand.const (Go.Value.int Go.IntKind.i64 600)], argTypes := #[9, 3] }, type := 9, pos := "law.go:65", after := #[{ on := 3, ground := Go.Ground.data }], guard := none } := by kernel_rfl
theorem ops12_5 : ops12[5]? = some { dst := some 56, op := Go.Op.fieldAddr 36 (Go.Operand.tmp 12) 1, type := 0, pos := "law.go:65", after := #[], guard := none } := by kernel_rfl
theorem ops12_6 : ops12[6]? = some { dst := some 57, op := Go.Op.load 4 (Go.Operand.tmp 56), type := 4, pos := "law.go:65", after := #[{ on := 5, ground := Go.Ground.data }], guard := none } := by kernel_rfl
theorem ops12_7 : ops12[7]? = some { dst := some 58, op := Go.Op.call { callee := Go.Callee.value (Go.Operand.func 15), args := #[Go.Operand.tmp 51, Go.Operand.tmp 52, Go.Operand.tmp 55, Go.Operand.tmp 57], argTypes := #[26, 31, 9, 4] }, type := 4, pos := "law.go:65", after := #[{ on := 0, ground := Go.Ground.data }, { on := 1, ground := Go.Ground.data }, { on := 4, ground := Go.Ground.data }, { on := 6, ground := Go.Ground.data }, { on := 4, ground := Go.Ground.chain }], guard := none } := by kernel_rfl
theorem ops12_8 : ops12[8]? = some { dst := some 59, op := Go.Op.unOp Go.UnOp.not 4 (Go.Operand.tmp 58), type := 4, pos := "law.go:65", after := #[{ on := 7, ground := Go.Ground.data }], guard := none } := by kernel_rfl
theorem ops12_9 : ops12[9]? = some { dst := some 60, op := Go.Op.move (Go.Operand.tmp 59), type := 4, pos := "law.go:65", after := #[{ on := 8, ground := Go.Ground.data }, { on := 7, ground := Go.Ground.chain }], guard := none } := by kernel_rfl
theorem ops12_10 : ops12[10]? = some { dst := some 61, op := Go.Op.move (Go.Operand.tmp 7), type := 26, pos := "law.go:65", after := #[{ on := 9, ground := Go.Ground.guard }], guard := some (9, false) } := by kernel_rfl
theorem ops12_11 : ops12[11]? = some { dst := some 62, op := Go.Op.call { callee := Go.Callee.value (Go.Operand.func 16), args := #[Go.Operand.tmp 61], argTypes := #[26] }, type := 3, pos := "law.go:65", after := #[{ on := 10, ground := Go.Ground.data }, { on := 9, ground := Go.Ground.chain }, { on := 9, ground := Go.Ground.guard }], guard := some (9, false) } := by kernel_rfl
theorem ops12_12 : ops12[12]? = some { dst := some 63, op := Go.Op.move (Go.Operand.tmp 9), type := 31, pos := "law.go:65", after := #[{ on := 9, ground := Go.Ground.guard }], guard := some (9, false) } := by kernel_rfl
theorem ops12_13 : ops12[13]? = some { dst := some 64, op := Go.Op.nilCheck (Go.Operand.tmp 63), type := 0, pos := "law.go:65", after := #[{ on := 12, ground := Go.Ground.data }, { on := 9, ground := Go.Ground.guard }], guard := some (9, false) } := by kernel_rfl
theorem ops12_14 : ops12[14]? = some { dst := some 65, op := Go.Op.fieldAddr 40 (Go.Operand.tmp 64) 0, type := 0, pos := "law.go:65", after := #[{ on := 13, ground := Go.Ground.data }, { on := 9, ground := Go.Ground.guard }], guard := some (9, false) } := by kernel_rfl
theorem ops12_15 : ops12[15]? = some { dst := some 66, op := Go.Op.load 9 (Go.Operand.tmp 65), type := 9, pos := "law.go:65", after := #[{ on := 14, ground := Go.Ground.data }, { on := 9, ground := Go.Ground.guard }], guard := some (9, false) } := by kernel_rfl
theorem ops12_16 : ops12[16]? = some { dst := some 67, op := Go.Op.call { callee := Go.Callee.builtin Go.Builtin.len, args := #[Go.Operand.tmp 66], argTypes := #[9] }, type := 3, pos := "law.go:65", after := #[{ on := 15, ground := Go.Ground.data }, { on := 9, ground := Go.Ground.guard }], guard := some (9, false) } := by kernel_rfl
theorem ops12_17 : ops12[17]? = some { dst := some 68, op := Go.Op.binOp Go.BinOp.neq 3 (Go.Operand.tmp 62) (Go.Operand.tmp 67) 3, type := 4, pos := "law.go:65", after := #[{ on := 11, ground := Go.Ground.data }, { on := 16, ground := Go.Ground.data }, { on := 9, ground := Go.Ground.guard }], guard := some (9, false) } := by kernel_rfl
theorem ops12_18 : ops12[18]? = some { dst := some 69, op := Go.Op.pick (Go.Operand.tmp 60) (Go.Operand.const (Go.Value.bool true)) (Go.Operand.tmp 68), type := 4, pos := "law.go:65", after := #[{ on := 9, ground := Go.Ground.data }, { on := 17, ground := Go.Ground.data }], guard := none } := by kernel_rfl
theorem ops12_19 : ops12[19]? = some { dst := some 70, op := Go.Op.move (Go.Operand.tmp 69), type := 4, pos := "law.go:65", after := #[{ on := 18, ground := Go.Ground.data }, { on := 11, ground := Go.Ground.chain }], guard := none } := by kernel_rfl
theorem ops12_20 : ops12[20]? = some { dst := some 71, op := Go.Op.move (Go.Operand.tmp 7), type := 26, pos := "law.go:65", after := #[{ on := 19, ground := Go.Ground.guard }], guard := some (19, false) } := by kernel_rfl
theorem ops12_21 : ops12[21]? = some { dst := some 72, op := Go.Op.call { callee := Go.Callee.value (Go.Operand.func 17), args := #[Go.Operand.tmp 71], argTypes := #[26] }, type := 3, pos := "law.go:65", after := #[{ on := 20, ground := Go.Ground.data }, { on := 19, ground := Go.Ground.chain }, { on := 19, ground := Go.Ground.guard }], guard := some (19, false) } := by kernel_rfl
theorem ops12_22 : ops12[22]? = some { dst := some 73, op := Go.Op.move (Go.Operand.tmp 9), type := 31, pos := "law.go:65", after := #[{ on := 19, ground := Go.Ground.guard }], guard := some (19, false) } := by kernel_rfl
theorem ops12_23 : ops12[23]? = some { dst := some 74, op := Go.Op.nilCheck (Go.Operand.tmp 73), type := 0, pos := "law.go:65", after := #[{ on := 22, ground := Go.Ground.data }, { on := 19, ground := Go.Ground.guard }], guard := some (19, false) } := by kernel_rfl
theorem ops12_24 : ops12[24]? = some { dst := some 75, op := Go.Op.fieldAddr 40 (Go.Operand.tmp 74) 0, type := 0, pos := "law.go:65", after := #[{ on := 23, ground := Go.Ground.data }, { on := 19, ground := Go.Ground.guard }], guard := some (19, false) } := by kernel_rfl
theorem ops12_25 : ops12[25]? = some { dst := some 76, op := Go.Op.load 9 (Go.Operand.tmp 75), type := 9, pos := "law.go:65", after := #[{ on := 24, ground := Go.Ground.data }, { on := 19, ground := Go.Ground.guard }], guard := some (19, false) } := by kernel_rfl
theorem ops12_26 : ops12[26]? = some { dst := some 77, op := Go.Op.call { callee := Go.Callee.builtin Go.Builtin.len, args := #[Go.Operand.tmp 76], argTypes := #[9] }, type := 3, pos := "law.go:65", after := #[{ on := 25, ground := Go.Ground.data }, { on := 19, ground := Go.Ground.guard }], guard := some (19, false) } := by kernel_rfl
theorem ops12_27 : ops12[27]? = some { dst := some 78, op := Go.Op.binOp Go.BinOp.sub 3 (Go.Operand.const (Go.Value.int Go.IntKind.i64 16384)) (Go.Operand.tmp 77) 3, type := 3, pos := "law.go:65", after := #[{ on := 26, ground := Go.Ground.data }, { on := 19, ground := Go.Ground.guard }], guard := some (19, false) } := by kernel_rfl
theorem ops12_28 : ops12[28]? = some { dst := some 79, op := Go.Op.binOp Go.BinOp.neq 3 (Go.Operand.tmp 72) (Go.Operand.tmp 78) 3, type := 4, pos := "law.go:65", after := #[{ on := 21, ground := Go.Ground.data }, { on := 27, ground := Go.Ground.data }, { on := 19, ground := Go.Ground.guard }], guard := some (19, false) } := by kernel_rfl
theorem ops12_29 : ops12[29]? = some { dst := some 80, op := Go.Op.pick (Go.Operand.tmp 70) (Go.Operand.const (Go.Value.bool true)) (Go.Operand.tmp 79), type := 4, pos := "law.go:65", after := #[{ on := 19, ground := Go.Ground.data }, { on := 28, ground := Go.Ground.data }], guard := none } := by kernel_rfl
noncomputable def R12 (p q n0 : Nat) (t u T2 : ByteArray) (bb : Bool) (n : Nat) (Aft : World → Prop) (i : Nat) (v : Value) (w : World) : Prop := if i = 7 then (v = .bool true ∧ Aft w) else if i = 8 then (v = .bool false ∧ Aft w) else if i = 9 then (v = .bool false ∧ Aft w) else if i = 18 then (v = .bool false ∧ Aft w) else if i = 19 then (v = .bool false ∧ Aft w) else if i = 29 then (v = .bool false ∧ Aft w) else v = ([.pointer (some ⟨p, 0, none⟩), .pointer (some ⟨q, 0, none⟩), .pointer (some ⟨n0, 0, none⟩), .string t, .string u, .pointer (some ⟨n0, 1, none⟩), .bool bb, undef, undef, undef, .pointer (some ⟨p, 0, none⟩), .int .i64 n, .pointer (some ⟨q, 0, none⟩), .pointer (some ⟨q, 0, none⟩), .pointer (some ⟨q, 0, none⟩), .string T2, .int .i64 n, .bool false, undef, undef, .pointer (some ⟨p, 0, none⟩), .int .i64 (16384 - n), .pointer (some ⟨q, 0, none⟩), .pointer (some ⟨q, 0, none⟩), .pointer (some ⟨q, 0, none⟩), .string T2, .int .i64 n, .int .i64 (16384 - n), .bool false, undef] : List Value).getD i undef
theorem R12_mono (p q n0 : Nat) (t u T2 : ByteArray) (bb : Bool) (n : Nat) (Aft : World → Prop) {w w' : World} (h' : Aft w') (i : Nat) (v : Value) (h : R12 p q n0 t u T2 bb n Aft i v w) : R12 p q n0 t u T2 bb n Aft i v w' := by
  unfold R12 at *
  by_cases e58 : i = 7
  · rw [if_pos e58] at h ⊢
    exact ⟨h.1, h'⟩
  rw [if_neg e58] at h ⊢
  by_cases e59 : i = 8
  · rw [if_pos e59] at h ⊢
    exact ⟨h.1, h'⟩
  rw [if_neg e59] at h ⊢
  by_cases e60 : i = 9
  · rw [if_pos e60] at h ⊢
    exact ⟨h.1, h'⟩
  rw [if_neg e60] at h ⊢
  by_cases e69 : i = 18
  · rw [if_pos e69] at h ⊢
    exact ⟨h.1, h'⟩
  rw [if_neg e69] at h ⊢
  by_cases e70 : i = 19
  · rw [if_pos e70] at h ⊢
    exact ⟨h.1, h'⟩
  rw [if_neg e70] at h ⊢
  by_cases e80 : i = 29
  · rw [if_pos e80] at h ⊢
    exact ⟨h.1, h'⟩
  rw [if_neg e80] at h ⊢
  exact h
set_option maxHeartbeats 8000000 in
set_option maxRecDepth 100000 in
theorem reg12 (p q n0 : Nat) (t u T2 : ByteArray) (bb : Bool) (n : Nat) (Aft : World → Prop) {a0 : Act} {wF : World} {Q : Exit → Act → World → Prop} (hsize : a0.tmps.size = 141) (o7 : a0.tmps.getD 7 undef = .pointer (some ⟨p, 0, none⟩)) (o9 : a0.tmps.getD 9 undef = .pointer (some ⟨q, 0, none⟩)) (o12 : a0.tmps.getD 12 undef = .pointer (some ⟨n0, 0, none⟩))
    (ld1 : ∀ w', Below wF.heap.size wF w' ∨ Aft w' → w'.cell? ⟨n0, 0, none⟩ = some (.string t)) (ld2 : ∀ w', Below wF.heap.size wF w' ∨ Aft w' → w'.cell? ⟨n0, 1, none⟩ = some (.bool bb)) (ld3 : ∀ w', Aft w' → w'.cell? ⟨q, 0, none⟩ = some (.string T2))
    (HCu : ∀ w', Calls Try.prog 11 #[.string t, .int .i64 600] w' fun e w2 => e = .returned (.string u) ∧ w' = w2)
    (HPut : ∀ w', Below wF.heap.size wF w' → Calls Try.prog 15 #[.pointer (some ⟨p, 0, none⟩), .pointer (some ⟨q, 0, none⟩), .string u, .bool bb] w' fun e w2 => e = .returned (.bool true) ∧ Aft w2)
    (HLen : ∀ w', Aft w' → Calls Try.prog 16 #[.pointer (some ⟨p, 0, none⟩)] w' fun e w2 => e = .returned (.int .i64 n) ∧ w' = w2)
    (HRoom : ∀ w', Aft w' → Calls Try.prog 17 #[.pointer (some ⟨p, 0, none⟩)] w' fun e w2 => e = .returned (.int .i64 (16384 - n)) ∧ w' = w2)
    (hT : T2.size = n) (hn : n ≤ 16384)
    (hQ : ∀ a w', a.defers = a0.defers → a.tmps.size = a0.tmps.size → (∀ d : Nat, (ops12.all fun o => o.dst != some d) = true → a.tmps.getD d undef = a0.tmps.getD d undef) → a.tmps.getD 80 undef = .bool false → Aft w' → Q .normal a w') : (Code.region 12 ops12 true).wp Try.prog Q a0 wF := by
  have hf : opsFine .any ops12 a0.tmps.size = true := by rw [hsize]; kernel_rfl
  refine wp_region_good (by kernel_rfl) (R12 p q n0 t u T2 bb n Aft) (fun L w' => Inv12 Aft wF L w') hf (inv12_start (Below.refl _ wF).drew) ?_ ?_
  · intro i listed a w hg hi
    have hlt : i < 30 := (ready_spec hi).1
    have hB : Inv12 Aft wF listed w := hg.inv
    rcases (show i = 0 ∨ i = 1 ∨ i = 2 ∨ i = 3 ∨ i = 4 ∨ i = 5 ∨ i = 6 ∨ i = 7 ∨ i = 8 ∨ i = 9 ∨ i = 10 ∨ i = 11 ∨ i = 12 ∨ i = 13 ∨ i = 14 ∨ i = 15 ∨ i = 16 ∨ i = 17 ∨ i = 18 ∨ i = 19 ∨ i = 20 ∨ i = 21 ∨ i = 22 ∨ i = 23 ∨ i = 24 ∨ i = 25 ∨ i = 26 ∨ i = 27 ∨ i = 28 ∨ i = 29 by omega) with rfl | rfl | rfl | rfl | rfl | rfl | rfl | rfl | rfl | rfl | rfl | rfl | rfl | rfl | rfl | rfl | rfl | rfl | rfl | rfl | rfl | rfl | rfl | rfl | rfl | rfl | rfl | rfl | rfl | rfl
    · -- 0: slot 51
      have h7 : a.tmps.getD 7 undef = .pointer (some ⟨p, 0, none⟩) := (hg.was 7 (by kernel_rfl)).trans o7
      refine hg.op hf ops12_0 rfl (fun K' HK => ?_)
      go_simp
      exact HK.out _ _ (fun _ _ h => h) rfl (inv12_keep (i := 0) hB (by decide))
    · -- 1: slot 52
      have h9 : a.tmps.getD 9 undef = .pointer (some ⟨q, 0, none⟩) := (hg.was 9 (by kernel_rfl)).trans o9
      refine hg.op hf ops12_1 rfl (fun K' HK => ?_)
      go_simp
      exact HK.out _ _ (fun _ _ h => h) rfl (inv12_keep (i := 1) hB (by decide))
    · -- 2: slot 53
      have h12 : a.tmps.getD 12 undef = .pointer (some ⟨n0, 0, none⟩) := (hg.was 12 (by kernel_rfl)).trans o12
      refine hg.op hf ops12_2 rfl (fun K' HK => ?_)
      go_simp
      exact HK.out _ _ (fun _ _ h => h) rfl (inv12_keep (i := 2) hB (by decide))
    · -- 3: slot 54
      have h53 : a.tmps.getD 53 undef = .pointer (some ⟨n0, 0, none⟩) := hg.dep ops12_3 hi 2 _ 53 ops12_2 rfl (by kernel_rfl)
      have l1 := ld1 _ (inv12_or hB)
      have l2 := ld2 _ (inv12_or hB)
      refine hg.op hf ops12_3 rfl (fun K' HK => ?_)
      go_simp
      exact HK.out _ _ (fun _ _ h => h) rfl (inv12_keep (i := 3) hB (by decide))
    · -- 4: slot 55
      have h54 : a.tmps.getD 54 undef = .string t := hg.dep ops12_4 hi 3 _ 54 ops12_3 rfl (by kernel_rfl)
      refine hg.op hf ops12_4 rfl (fun K' HK => ?_)
      go_simp
      refine (HCu _).mono ?_; rintro e w2 ⟨rfl, rfl⟩
      exact HK.out _ _ (fun _ _ h => h) rfl (inv12_keep (i := 4) hB (by decide))
    · -- 5: slot 56
      have h12 : a.tmps.getD 12 undef = .pointer (some ⟨n0, 0, none⟩) := (hg.was 12 (by kernel_rfl)).trans o12
      refine hg.op hf ops12_5 rfl (fun K' HK => ?_)
      go_simp
      exact HK.out _ _ (fun _ _ h => h) rfl (inv12_keep (i := 5) hB (by decide))
    · -- 6: slot 57
      have h56 : a.tmps.getD 56 undef = .pointer (some ⟨n0, 1, none⟩) := hg.dep ops12_6 hi 5 _ 56 ops12_5 rfl (by kernel_rfl)
      have l1 := ld1 _ (inv12_or hB)
      have l2 := ld2 _ (inv12_or hB)
      refine hg.op hf ops12_6 rfl (fun K' HK => ?_)
      go_simp
      exact HK.out _ _ (fun _ _ h => h) rfl (inv12_keep (i := 6) hB (by decide))
    · -- 7: slot 58
      have h51 : a.tmps.getD 51 undef = .pointer (some ⟨p, 0, none⟩) := hg.dep ops12_7 hi 0 _ 51 ops12_0 rfl (by kernel_rfl)
      have h52 : a.tmps.getD 52 undef = .pointer (some ⟨q, 0, none⟩) := hg.dep ops12_7 hi 1 _ 52 ops12_1 rfl (by kernel_rfl)
      have h55 : a.tmps.getD 55 undef = .string u := hg.dep ops12_7 hi 4 _ 55 ops12_4 rfl (by kernel_rfl)
      have h57 : a.tmps.getD 57 undef = .bool bb := hg.dep ops12_7 hi 6 _ 57 ops12_6 rfl (by kernel_rfl)
      have hnl := (ready_spec hi).2.1
      have hfull := hg.full
      refine hg.op hf ops12_7 rfl (fun K' HK => ?_)
      go_simp
      refine (HPut _ (inv12_below hB hnl)).mono ?_; rintro e w2 ⟨rfl, haft⟩
      exact HK.out _ _ (fun j v h => R12_mono p q n0 t u T2 bb n Aft haft j v h) ⟨rfl, haft⟩ (inv12_put haft (by rw [hfull]; exact of_decide_eq_true (by kernel_rfl)))
    · -- 8: slot 59
      have h58s := hg.dep ops12_8 hi 7 _ 58 ops12_7 rfl (by kernel_rfl)
      obtain ⟨h58, haft⟩ := h58s
      refine hg.op hf ops12_8 rfl (fun K' HK => ?_)
      go_simp
      exact HK.out _ _ (fun _ _ h => h) ⟨rfl, haft⟩ (inv12_keep (i := 8) hB (by decide))
    · -- 9: slot 60
      have h59s := hg.dep ops12_9 hi 8 _ 59 ops12_8 rfl (by kernel_rfl)
      obtain ⟨h59, haft⟩ := h59s
      refine hg.op hf ops12_9 rfl (fun K' HK => ?_)
      go_simp
      exact HK.out _ _ (fun _ _ h => h) ⟨rfl, haft⟩ (inv12_keep (i := 9) hB (by decide))
    · -- 10: slot 61
      have g60s := hg.dep ops12_10 hi 9 _ 60 ops12_9 rfl (by kernel_rfl)
      obtain ⟨g60, haft⟩ := g60s
      have h7 : a.tmps.getD 7 undef = .pointer (some ⟨p, 0, none⟩) := (hg.was 7 (by kernel_rfl)).trans o7
      refine hg.op hf ops12_10 (want_of rfl ops12_9 rfl g60) (fun K' HK => ?_)
      go_simp
      exact HK.out _ _ (fun _ _ h => h) rfl (inv12_keep (i := 10) hB (by decide))
    · -- 11: slot 62
      have g60s := hg.dep ops12_11 hi 9 _ 60 ops12_9 rfl (by kernel_rfl)
      obtain ⟨g60, haft⟩ := g60s
      have h61 : a.tmps.getD 61 undef = .pointer (some ⟨p, 0, none⟩) := hg.dep ops12_11 hi 10 _ 61 ops12_10 rfl (by kernel_rfl)
      refine hg.op hf ops12_11 (want_of rfl ops12_9 rfl g60) (fun K' HK => ?_)
      go_simp
      refine (HLen _ haft).mono ?_; rintro e w2 ⟨rfl, rfl⟩
      exact HK.out _ _ (fun _ _ h => h) rfl (inv12_keep (i := 11) hB (by decide))
    · -- 12: slot 63
      have g60s := hg.dep ops12_12 hi 9 _ 60 ops12_9 rfl (by kernel_rfl)
      obtain ⟨g60, haft⟩ := g60s
      have h9 : a.tmps.getD 9 undef = .pointer (some ⟨q, 0, none⟩) := (hg.was 9 (by kernel_rfl)).trans o9
      refine hg.op hf ops12_12 (want_of rfl ops12_9 rfl g60) (fun K' HK => ?_)
      go_simp
      exact HK.out _ _ (fun _ _ h => h) rfl (inv12_keep (i := 12) hB (by decide))
    · -- 13: slot 64
      have g60s := hg.dep ops12_13 hi 9 _ 60 ops12_9 rfl (by kernel_rfl)
      obtain ⟨g60, haft⟩ := g60s
      have h63 : a.tmps.getD 63 undef = .pointer (some ⟨q, 0, none⟩) := hg.dep ops12_13 hi 12 _ 63 ops12_12 rfl (by kernel_rfl)
      refine hg.op hf ops12_13 (want_of rfl ops12_9 rfl g60) (fun K' HK => ?_)
      go_simp
      exact HK.out _ _ (fun _ _ h => h) rfl (inv12_keep (i := 13) hB (by decide))
    · -- 14: slot 65
      have g60s := hg.dep ops12_14 hi 9 _ 60 ops12_9 rfl (by kernel_rfl)
      obtain ⟨g60, haft⟩ := g60s
      have h64 : a.tmps.getD 64 undef = .pointer (some ⟨q, 0, none⟩) := hg.dep ops12_14 hi 13 _ 64 ops12_13 rfl (by kernel_rfl)
      refine hg.op hf ops12_14 (want_of rfl ops12_9 rfl g60) (fun K' HK => ?_)
      go_simp
      exact HK.out _ _ (fun _ _ h => h) rfl (inv12_keep (i := 14) hB (by decide))
    · -- 15: slot 66
      have g60s := hg.dep ops12_15 hi 9 _ 60 ops12_9 rfl (by kernel_rfl)
      obtain ⟨g60, haft⟩ := g60s
      have h65 : a.tmps.getD 65 undef = .pointer (some ⟨q, 0, none⟩) := hg.dep ops12_15 hi 14 _ 65 ops12_14 rfl (by kernel_rfl)
      have l3 := ld3 _ haft
      refine hg.op hf ops12_15 (want_of rfl ops12_9 rfl g60) (fun K' HK => ?_)
      go_simp
      exact HK.out _ _ (fun _ _ h => h) rfl (inv12_keep (i := 15) hB (by decide))
    · -- 16: slot 67
      have g60s := hg.dep ops12_16 hi 9 _ 60 ops12_9 rfl (by kernel_rfl)
      obtain ⟨g60, haft⟩ := g60s
      have h66 : a.tmps.getD 66 undef = .string T2 := hg.dep ops12_16 hi 15 _ 66 ops12_15 rfl (by kernel_rfl)
      refine hg.op hf ops12_16 (want_of rfl ops12_9 rfl g60) (fun K' HK => ?_)
      go_simp
      exact HK.out _ _ (fun _ _ h => h) rfl (inv12_keep (i := 16) hB (by decide))
    · -- 17: slot 68
      have g60s := hg.dep ops12_17 hi 9 _ 60 ops12_9 rfl (by kernel_rfl)
      obtain ⟨g60, haft⟩ := g60s
      have h62 : a.tmps.getD 62 undef = .int .i64 n := hg.dep ops12_17 hi 11 _ 62 ops12_11 rfl (by kernel_rfl)
      have h67 : a.tmps.getD 67 undef = .int .i64 n := hg.dep ops12_17 hi 16 _ 67 ops12_16 rfl (by kernel_rfl)
      refine hg.op hf ops12_17 (want_of rfl ops12_9 rfl g60) (fun K' HK => ?_)
      go_simp
      exact HK.out _ _ (fun _ _ h => h) rfl (inv12_keep (i := 17) hB (by decide))
    · -- 18: slot 69
      have h60s := hg.dep ops12_18 hi 9 _ 60 ops12_9 rfl (by kernel_rfl)
      obtain ⟨h60, haft⟩ := h60s
      have h68 : a.tmps.getD 68 undef = .bool false := hg.dep ops12_18 hi 17 _ 68 ops12_17 rfl (by kernel_rfl)
      refine hg.op hf ops12_18 rfl (fun K' HK => ?_)
      go_simp
      exact HK.out _ _ (fun _ _ h => h) ⟨rfl, haft⟩ (inv12_keep (i := 18) hB (by decide))
    · -- 19: slot 70
      have h69s := hg.dep ops12_19 hi 18 _ 69 ops12_18 rfl (by kernel_rfl)
      obtain ⟨h69, haft⟩ := h69s
      refine hg.op hf ops12_19 rfl (fun K' HK => ?_)
      go_simp
      exact HK.out _ _ (fun _ _ h => h) ⟨rfl, haft⟩ (inv12_keep (i := 19) hB (by decide))
    · -- 20: slot 71
      have g70s := hg.dep ops12_20 hi 19 _ 70 ops12_19 rfl (by kernel_rfl)
      obtain ⟨g70, haft⟩ := g70s
      have h7 : a.tmps.getD 7 undef = .pointer (some ⟨p, 0, none⟩) := (hg.was 7 (by kernel_rfl)).trans o7
      refine hg.op hf ops12_20 (want_of rfl ops12_19 rfl g70) (fun K' HK => ?_)
      go_simp
      exact HK.out _ _ (fun _ _ h => h) rfl (inv12_keep (i := 20) hB (by decide))
    · -- 21: slot 72
      have g70s := hg.dep ops12_21 hi 19 _ 70 ops12_19 rfl (by kernel_rfl)
      obtain ⟨g70, haft⟩ := g70s
      have h71 : a.tmps.getD 71 undef = .pointer (some ⟨p, 0, none⟩) := hg.dep ops12_21 hi 20 _ 71 ops12_20 rfl (by kernel_rfl)
      refine hg.op hf ops12_21 (want_of rfl ops12_19 rfl g70) (fun K' HK => ?_)
      go_simp
      refine (HRoom _ haft).mono ?_; rintro e w2 ⟨rfl, rfl⟩
      exact HK.out _ _ (fun _ _ h => h) rfl (inv12_keep (i := 21) hB (by decide))
    · -- 22: slot 73
      have g70s := hg.dep ops12_22 hi 19 _ 70 ops12_19 rfl (by kernel_rfl)
      obtain ⟨g70, haft⟩ := g70s
      have h9 : a.tmps.getD 9 undef = .pointer (some ⟨q, 0, none⟩) := (hg.was 9 (by kernel_rfl)).trans o9
      refine hg.op hf ops12_22 (want_of rfl ops12_19 rfl g70) (fun K' HK => ?_)
      go_simp
      exact HK.out _ _ (fun _ _ h => h) rfl (inv12_keep (i := 22) hB (by decide))
    · -- 23: slot 74
      have g70s := hg.dep ops12_23 hi 19 _ 70 ops12_19 rfl (by kernel_rfl)
      obtain ⟨g70, haft⟩ := g70s
      have h73 : a.tmps.getD 73 undef = .pointer (some ⟨q, 0, none⟩) := hg.dep ops12_23 hi 22 _ 73 ops12_22 rfl (by kernel_rfl)
      refine hg.op hf ops12_23 (want_of rfl ops12_19 rfl g70) (fun K' HK => ?_)
      go_simp
      exact HK.out _ _ (fun _ _ h => h) rfl (inv12_keep (i := 23) hB (by decide))
    · -- 24: slot 75
      have g70s := hg.dep ops12_24 hi 19 _ 70 ops12_19 rfl (by kernel_rfl)
      obtain ⟨g70, haft⟩ := g70s
      have h74 : a.tmps.getD 74 undef = .pointer (some ⟨q, 0, none⟩) := hg.dep ops12_24 hi 23 _ 74 ops12_23 rfl (by kernel_rfl)
      refine hg.op hf ops12_24 (want_of rfl ops12_19 rfl g70) (fun K' HK => ?_)
      go_simp
      exact HK.out _ _ (fun _ _ h => h) rfl (inv12_keep (i := 24) hB (by decide))
    · -- 25: slot 76
      have g70s := hg.dep ops12_25 hi 19 _ 70 ops12_19 rfl (by kernel_rfl)
      obtain ⟨g70, haft⟩ := g70s
      have h75 : a.tmps.getD 75 undef = .pointer (some ⟨q, 0, none⟩) := hg.dep ops12_25 hi 24 _ 75 ops12_24 rfl (by kernel_rfl)
      have l3 := ld3 _ haft
      refine hg.op hf ops12_25 (want_of rfl ops12_19 rfl g70) (fun K' HK => ?_)
      go_simp
      exact HK.out _ _ (fun _ _ h => h) rfl (inv12_keep (i := 25) hB (by decide))
    · -- 26: slot 77
      have g70s := hg.dep ops12_26 hi 19 _ 70 ops12_19 rfl (by kernel_rfl)
      obtain ⟨g70, haft⟩ := g70s
      have h76 : a.tmps.getD 76 undef = .string T2 := hg.dep ops12_26 hi 25 _ 76 ops12_25 rfl (by kernel_rfl)
      refine hg.op hf ops12_26 (want_of rfl ops12_19 rfl g70) (fun K' HK => ?_)
      go_simp
      exact HK.out _ _ (fun _ _ h => h) rfl (inv12_keep (i := 26) hB (by decide))
    · -- 27: slot 78
      have g70s := hg.dep ops12_27 hi 19 _ 70 ops12_19 rfl (by kernel_rfl)
      obtain ⟨g70, haft⟩ := g70s
      have h77 : a.tmps.getD 77 undef = .int .i64 n := hg.dep ops12_27 hi 26 _ 77 ops12_26 rfl (by kernel_rfl)
      have hwr : IntKind.i64.wrap (16384 - (n : Int)) = 16384 - n := by rw [IntKind.wrap_i64]; omega
      refine hg.op hf ops12_27 (want_of rfl ops12_19 rfl g70) (fun K' HK => ?_)
      go_simp
      exact HK.out _ _ (fun _ _ h => h) rfl (inv12_keep (i := 27) hB (by decide))
    · -- 28: slot 79
      have g70s := hg.dep ops12_28 hi 19 _ 70 ops12_19 rfl (by kernel_rfl)
      obtain ⟨g70, haft⟩ := g70s
      have h72 : a.tmps.getD 72 undef = .int .i64 (16384 - n) := hg.dep ops12_28 hi 21 _ 72 ops12_21 rfl (by kernel_rfl)
      have h78 : a.tmps.getD 78 undef = .int .i64 (16384 - n) := hg.dep ops12_28 hi 27 _ 78 ops12_27 rfl (by kernel_rfl)
      refine hg.op hf ops12_28 (want_of rfl ops12_19 rfl g70) (fun K' HK => ?_)
      go_simp
      exact HK.out _ _ (fun _ _ h => h) rfl (inv12_keep (i := 28) hB (by decide))
    · -- 29: slot 80
      have h70s := hg.dep ops12_29 hi 19 _ 70 ops12_19 rfl (by kernel_rfl)
      obtain ⟨h70, haft⟩ := h70s
      have h79 : a.tmps.getD 79 undef = .bool false := hg.dep ops12_29 hi 28 _ 79 ops12_28 rfl (by kernel_rfl)
      refine hg.op hf ops12_29 rfl (fun K' HK => ?_)
      go_simp
      exact HK.out _ _ (fun _ _ h => h) ⟨rfl, haft⟩ (inv12_keep (i := 29) hB (by decide))
  · intro listed a w hg hall
    obtain ⟨hv80, haft⟩ := hg.val 29 _ 80 ops12_29 rfl (hall 29 (of_decide_eq_true (by kernel_rfl)))
    refine hQ a w hg.defers hg.size (fun d hd => hg.was d hd) ?_ haft
    exact hv80

end Go.Proofs.Ytkggeknfdjbheaa
