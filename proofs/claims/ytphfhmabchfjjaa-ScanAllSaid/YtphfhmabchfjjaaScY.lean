/-
  The region of ScanAll that holds a value against the document's, whatever order is drawn: written by program (wip/tools/mkreg.py).
-/
import Derived.Test.YtphfhmabchfjjaaScW
import Derived.Test.YtphfhmabchfjjaaOrd
namespace Go.Proofs.Ytphfhmabchfjjaa
open Go Go.RowKit
set_option linter.unusedVariables false
/-- The operations of a region. -/
def opsOfS (n : Nat) : Code → Option (Array Oper)
  | .region id ops _ => if id = n then some ops else none
  | .seq a b => match opsOfS n a with | some o => some o | none => opsOfS n b
  | .cond _ a b => match opsOfS n a with | some o => some o | none => opsOfS n b
  | .block _ c => opsOfS n c
  | .loop c => opsOfS n c
  | .scope c => opsOfS n c
  | _ => none
noncomputable def opsSA : Array Oper := ((Try.f7.body.bind (opsOfS 13)).getD #[])
theorem opsSA_0 : opsSA[0]? = some { dst := some 46, op := Go.Op.move (Go.Operand.tmp 0), type := 9, pos := "law.go:69", after := #[], guard := none } := by kernel_rfl
theorem opsSA_1 : opsSA[1]? = some { dst := some 47, op := Go.Op.convert 9 55 (Go.Operand.tmp 46), type := 55, pos := "law.go:69", after := #[{ on := 0, ground := Go.Ground.data }], guard := none } := by kernel_rfl
theorem opsSA_2 : opsSA[2]? = some { dst := some 48, op := Go.Op.load 77 (Go.Operand.tmp 7), type := 77, pos := "law.go:69", after := #[], guard := none } := by kernel_rfl
theorem opsSA_3 : opsSA[3]? = some { dst := some 49, op := Go.Op.call { callee := Go.Callee.value (Go.Operand.func 38), args := #[Go.Operand.tmp 47, Go.Operand.tmp 48], argTypes := #[55, 77] }, type := 55, pos := "law.go:69", after := #[{ on := 1, ground := Go.Ground.data }, { on := 2, ground := Go.Ground.data }], guard := none } := by kernel_rfl
theorem opsSA_4 : opsSA[4]? = some { dst := some 50, op := Go.Op.convert 55 9 (Go.Operand.tmp 49), type := 9, pos := "law.go:69", after := #[{ on := 3, ground := Go.Ground.data }], guard := none } := by kernel_rfl
theorem opsSA_5 : opsSA[5]? = some { dst := some 51, op := Go.Op.move (Go.Operand.tmp 0), type := 9, pos := "law.go:69", after := #[], guard := none } := by kernel_rfl
theorem opsSA_6 : opsSA[6]? = some { dst := some 52, op := Go.Op.move (Go.Operand.tmp 4), type := 67, pos := "law.go:69", after := #[], guard := none } := by kernel_rfl
theorem opsSA_7 : opsSA[7]? = some { dst := some 53, op := Go.Op.move (Go.Operand.tmp 5), type := 3, pos := "law.go:69", after := #[], guard := none } := by kernel_rfl
theorem opsSA_8 : opsSA[8]? = some { dst := some 54, op := Go.Op.indexAddr 67 (Go.Operand.tmp 52) (Go.Operand.tmp 53), type := 0, pos := "law.go:69", after := #[{ on := 6, ground := Go.Ground.data }, { on := 7, ground := Go.Ground.data }], guard := none } := by kernel_rfl
theorem opsSA_9 : opsSA[9]? = some { dst := some 55, op := Go.Op.fieldAddr 75 (Go.Operand.tmp 54) 0, type := 0, pos := "law.go:69", after := #[{ on := 8, ground := Go.Ground.data }], guard := none } := by kernel_rfl
theorem opsSA_10 : opsSA[10]? = some { dst := some 56, op := Go.Op.load 73 (Go.Operand.tmp 55), type := 73, pos := "law.go:69", after := #[{ on := 9, ground := Go.Ground.data }], guard := none } := by kernel_rfl
theorem opsSA_11 : opsSA[11]? = some { dst := some 57, op := Go.Op.move (Go.Operand.tmp 6), type := 3, pos := "law.go:69", after := #[], guard := none } := by kernel_rfl
theorem opsSA_12 : opsSA[12]? = some { dst := some 58, op := Go.Op.indexAddr 73 (Go.Operand.tmp 56) (Go.Operand.tmp 57), type := 0, pos := "law.go:69", after := #[{ on := 10, ground := Go.Ground.data }, { on := 11, ground := Go.Ground.data }], guard := none } := by kernel_rfl
theorem opsSA_13 : opsSA[13]? = some { dst := some 59, op := Go.Op.fieldAddr 82 (Go.Operand.tmp 58) 2, type := 0, pos := "law.go:69", after := #[{ on := 12, ground := Go.Ground.data }], guard := none } := by kernel_rfl
theorem opsSA_14 : opsSA[14]? = some { dst := some 60, op := Go.Op.load 30 (Go.Operand.tmp 59), type := 30, pos := "law.go:69", after := #[{ on := 13, ground := Go.Ground.data }], guard := none } := by kernel_rfl
theorem opsSA_15 : opsSA[15]? = some { dst := some 61, op := Go.Op.call { callee := Go.Callee.value (Go.Operand.func 39), args := #[Go.Operand.tmp 51, Go.Operand.tmp 60], argTypes := #[9, 30] }, type := 9, pos := "law.go:69", after := #[{ on := 5, ground := Go.Ground.data }, { on := 14, ground := Go.Ground.data }, { on := 3, ground := Go.Ground.chain }], guard := none } := by kernel_rfl
theorem opsSA_16 : opsSA[16]? = some { dst := some 62, op := Go.Op.binOp Go.BinOp.neq 9 (Go.Operand.tmp 50) (Go.Operand.tmp 61) 9, type := 4, pos := "law.go:69", after := #[{ on := 4, ground := Go.Ground.data }, { on := 15, ground := Go.Ground.data }], guard := none } := by kernel_rfl
noncomputable def RSA (t sv : ByteArray) (x0 x1 x2 : Int) (a5 a6 : Option Addr) (cn c5 g2 n6 c6 r gz n7 qc k fn c7 pf : Nat) (i : Nat) (v : Value) (w : World) : Prop := if i = 1 then (∃ b cap, v = .slice (some ⟨b, 0, none⟩) t.size cap ∧ Held w b cap t) else if i = 3 then ((∃ a n c, v = .slice a n c) ∧ ∀ w', Below w.heap.size w w' → (convert 55 9 v).run Try.prog w' = .ok (.string sv) w') else v = ([.string t, undef, .agg #[.int .i64 x0, .int .i64 x1, .int .i64 x2, .slice a5 cn c5], undef, .string sv, .string t, .slice (some ⟨g2, 0, none⟩) n6 c6, .int .i64 r, .pointer (some ⟨g2, r * 2, none⟩), .pointer (some ⟨g2, r * 2, none⟩), .slice (some ⟨gz, 0, none⟩) n7 qc, .int .i64 k, .pointer (some ⟨gz, k * 4, none⟩), .pointer (some ⟨gz, k * 4 + 3, none⟩), .slice a6 fn c7, .string sv, .bool false] : List Value).getD i undef
theorem RSA_mono (t sv : ByteArray) (x0 x1 x2 : Int) (a5 a6 : Option Addr) (cn c5 g2 n6 c6 r gz n7 qc k fn c7 pf : Nat) {w w' : World} (hb : Below w.heap.size w w') (i : Nat) (v : Value) (h : RSA t sv x0 x1 x2 a5 a6 cn c5 g2 n6 c6 r gz n7 qc k fn c7 pf i v w) : RSA t sv x0 x1 x2 a5 a6 cn c5 g2 n6 c6 r gz n7 qc k fn c7 pf i v w' := by
  unfold RSA at *
  by_cases e47 : i = 1
  · rw [if_pos e47] at h ⊢
    obtain ⟨b, cap, e, hh⟩ := h; exact ⟨b, cap, e, hh.below hb⟩
  rw [if_neg e47] at h ⊢
  by_cases e49 : i = 3
  · rw [if_pos e49] at h ⊢
    exact ⟨h.1, fun w2 h2 => h.2 w2 (hb.trans (h2.mono hb.size))⟩
  rw [if_neg e49] at h ⊢
  exact h
set_option maxHeartbeats 8000000 in
set_option maxRecDepth 100000 in
theorem regSA (t sv : ByteArray) (x0 x1 x2 : Int) (a5 a6 : Option Addr) (cn c5 g2 n6 c6 r gz n7 qc k fn c7 pf : Nat) {a0 : Act} {wF : World} {Q : Exit → Act → World → Prop} (hsize : a0.tmps.size = 66) (o0 : a0.tmps.getD 0 undef = .string t) (o4 : a0.tmps.getD 4 undef = .slice (some ⟨g2, 0, none⟩) n6 c6) (o5 : a0.tmps.getD 5 undef = .int .i64 r) (o6 : a0.tmps.getD 6 undef = .int .i64 k) (o7 : a0.tmps.getD 7 undef = .pointer (some ⟨pf, 0, none⟩))
    (i0 : (0 : Int) ≤ (r : Int)) (i1 : (r : Int) < (n6 : Int)) (i2 : (0 : Int) ≤ (k : Int)) (i3 : (k : Int) < (n7 : Int)) (hts : t.size ≤ maxLen)
    (ld0 : ∀ w', Below wF.heap.size wF w' → w'.cell? ⟨pf, 0, none⟩ = some (.int .i64 x0)) (ld1 : ∀ w', Below wF.heap.size wF w' → w'.cell? ⟨pf, 1, none⟩ = some (.int .i64 x1)) (ld2 : ∀ w', Below wF.heap.size wF w' → w'.cell? ⟨pf, 2, none⟩ = some (.int .i64 x2)) (ld3 : ∀ w', Below wF.heap.size wF w' → w'.cell? ⟨pf, 3, none⟩ = some (.slice a5 cn c5))
    (ld4 : ∀ w', Below wF.heap.size wF w' → w'.cell? ⟨g2, r * 2, none⟩ = some (.slice (some ⟨gz, 0, none⟩) n7 qc)) (ld5 : ∀ w', Below wF.heap.size wF w' → w'.cell? ⟨gz, k * 4 + 3, none⟩ = some (.slice a6 fn c7))
    (HV : ∀ w', Below wF.heap.size wF w' → ∀ b cap, Held w' b cap t → Calls Try.prog 38 #[.slice (some ⟨b, 0, none⟩) t.size cap, .agg #[.int .i64 x0, .int .i64 x1, .int .i64 x2, .slice a5 cn c5]] w' fun e w2 => ∃ v, e = .returned v ∧ ((∃ a n c, v = .slice a n c) ∧ ∀ w3, Below w2.heap.size w2 w3 → (convert 55 9 v).run Try.prog w3 = .ok (.string sv) w3) ∧ Below wF.heap.size wF w2 ∧ Below w'.heap.size w' w2)
    (HT : ∀ w', Below wF.heap.size wF w' → Calls Try.prog 39 #[.string t, .slice a6 fn c7] w' fun e w2 => e = .returned (.string sv) ∧ w' = w2)
    (hQ : ∀ a w', a.defers = a0.defers → a.tmps.size = a0.tmps.size → (∀ d : Nat, (opsSA.all fun o => o.dst != some d) = true → a.tmps.getD d undef = a0.tmps.getD d undef) → a.tmps.getD 62 undef = .bool false → Below wF.heap.size wF w' → Q .normal a w') : (Code.region 13 opsSA true).wp Try.prog Q a0 wF := by
  have hf : opsFine .any opsSA a0.tmps.size = true := by rw [hsize]; kernel_rfl
  refine wp_region_good (by kernel_rfl) (RSA t sv x0 x1 x2 a5 a6 cn c5 g2 n6 c6 r gz n7 qc k fn c7 pf) (fun L w' => Below wF.heap.size wF w') hf ((Below.refl _ wF).drew) ?_ ?_
  · intro i listed a w hg hi
    have hlt : i < 17 := (ready_spec hi).1
    have hB : Below wF.heap.size wF w := hg.inv
    rcases (show i = 0 ∨ i = 1 ∨ i = 2 ∨ i = 3 ∨ i = 4 ∨ i = 5 ∨ i = 6 ∨ i = 7 ∨ i = 8 ∨ i = 9 ∨ i = 10 ∨ i = 11 ∨ i = 12 ∨ i = 13 ∨ i = 14 ∨ i = 15 ∨ i = 16 by omega) with rfl | rfl | rfl | rfl | rfl | rfl | rfl | rfl | rfl | rfl | rfl | rfl | rfl | rfl | rfl | rfl | rfl
    · -- 0: slot 46
      have h0 : a.tmps.getD 0 undef = .string t := (hg.was 0 (by kernel_rfl)).trans o0
      refine hg.op hf opsSA_0 rfl (fun K' HK => ?_)
      go_simp
      exact HK.out _ _ (fun _ _ h => h) rfl hB
    · -- 1: slot 47
      have h46 : a.tmps.getD 46 undef = .string t := hg.dep opsSA_1 hi 0 _ 46 opsSA_0 rfl (by kernel_rfl)
      obtain ⟨cap2, W2, hcv2, hH2, hbW2⟩ := held_of t w hts
      refine hg.op hf opsSA_1 rfl (fun K' HK => ?_)
      go_simp
      exact HK.out _ _ (fun j u h => RSA_mono t sv x0 x1 x2 a5 a6 cn c5 g2 n6 c6 r gz n7 qc k fn c7 pf hbW2 j u h) ⟨_, _, rfl, hH2⟩ (hB.trans (hbW2.mono hB.size))
    · -- 2: slot 48
      have h7 : a.tmps.getD 7 undef = .pointer (some ⟨pf, 0, none⟩) := (hg.was 7 (by kernel_rfl)).trans o7
      have l0 := ld0 _ hB
      have l1 := ld1 _ hB
      have l2 := ld2 _ hB
      have l3 := ld3 _ hB
      refine hg.op hf opsSA_2 rfl (fun K' HK => ?_)
      go_simp
      exact HK.out _ _ (fun _ _ h => h) rfl hB
    · -- 3: slot 49
      have h47s := hg.dep opsSA_3 hi 1 _ 47 opsSA_1 rfl (by kernel_rfl)
      obtain ⟨b47, cap47, h47, hh47⟩ := h47s
      have h48 : a.tmps.getD 48 undef = .agg #[.int .i64 x0, .int .i64 x1, .int .i64 x2, .slice a5 cn c5] := hg.dep opsSA_3 hi 2 _ 48 opsSA_2 rfl (by kernel_rfl)
      refine hg.op hf opsSA_3 rfl (fun K' HK => ?_)
      go_simp
      refine (HV _ hB b47 cap47 hh47).mono ?_; rintro e w2 ⟨v, rfl, hsp, hB2, hb2⟩
      exact HK.out _ _ (fun j u h => RSA_mono t sv x0 x1 x2 a5 a6 cn c5 g2 n6 c6 r gz n7 qc k fn c7 pf hb2 j u h) hsp hB2
    · -- 4: slot 50
      have h49s := hg.dep opsSA_4 hi 3 _ 49 opsSA_3 rfl (by kernel_rfl)
      obtain ⟨⟨ab, nb, cb, h49⟩, hcv⟩ := h49s
      have hcv' := hcv w (Below.refl _ w)
      rw [h49] at hcv'
      refine hg.op hf opsSA_4 rfl (fun K' HK => ?_)
      go_simp
      exact HK.out _ _ (fun _ _ h => h) rfl hB
    · -- 5: slot 51
      have h0 : a.tmps.getD 0 undef = .string t := (hg.was 0 (by kernel_rfl)).trans o0
      refine hg.op hf opsSA_5 rfl (fun K' HK => ?_)
      go_simp
      exact HK.out _ _ (fun _ _ h => h) rfl hB
    · -- 6: slot 52
      have h4 : a.tmps.getD 4 undef = .slice (some ⟨g2, 0, none⟩) n6 c6 := (hg.was 4 (by kernel_rfl)).trans o4
      refine hg.op hf opsSA_6 rfl (fun K' HK => ?_)
      go_simp
      exact HK.out _ _ (fun _ _ h => h) rfl hB
    · -- 7: slot 53
      have h5 : a.tmps.getD 5 undef = .int .i64 r := (hg.was 5 (by kernel_rfl)).trans o5
      refine hg.op hf opsSA_7 rfl (fun K' HK => ?_)
      go_simp
      exact HK.out _ _ (fun _ _ h => h) rfl hB
    · -- 8: slot 54
      have h52 : a.tmps.getD 52 undef = .slice (some ⟨g2, 0, none⟩) n6 c6 := hg.dep opsSA_8 hi 6 _ 52 opsSA_6 rfl (by kernel_rfl)
      have h53 : a.tmps.getD 53 undef = .int .i64 r := hg.dep opsSA_8 hi 7 _ 53 opsSA_7 rfl (by kernel_rfl)
      refine hg.op hf opsSA_8 rfl (fun K' HK => ?_)
      go_simp
      exact HK.out _ _ (fun _ _ h => h) rfl hB
    · -- 9: slot 55
      have h54 : a.tmps.getD 54 undef = .pointer (some ⟨g2, r * 2, none⟩) := hg.dep opsSA_9 hi 8 _ 54 opsSA_8 rfl (by kernel_rfl)
      refine hg.op hf opsSA_9 rfl (fun K' HK => ?_)
      go_simp
      exact HK.out _ _ (fun _ _ h => h) rfl hB
    · -- 10: slot 56
      have h55 : a.tmps.getD 55 undef = .pointer (some ⟨g2, r * 2, none⟩) := hg.dep opsSA_10 hi 9 _ 55 opsSA_9 rfl (by kernel_rfl)
      have l4 := ld4 _ hB
      refine hg.op hf opsSA_10 rfl (fun K' HK => ?_)
      go_simp
      exact HK.out _ _ (fun _ _ h => h) rfl hB
    · -- 11: slot 57
      have h6 : a.tmps.getD 6 undef = .int .i64 k := (hg.was 6 (by kernel_rfl)).trans o6
      refine hg.op hf opsSA_11 rfl (fun K' HK => ?_)
      go_simp
      exact HK.out _ _ (fun _ _ h => h) rfl hB
    · -- 12: slot 58
      have h56 : a.tmps.getD 56 undef = .slice (some ⟨gz, 0, none⟩) n7 qc := hg.dep opsSA_12 hi 10 _ 56 opsSA_10 rfl (by kernel_rfl)
      have h57 : a.tmps.getD 57 undef = .int .i64 k := hg.dep opsSA_12 hi 11 _ 57 opsSA_11 rfl (by kernel_rfl)
      refine hg.op hf opsSA_12 rfl (fun K' HK => ?_)
      go_simp
      exact HK.out _ _ (fun _ _ h => h) rfl hB
    · -- 13: slot 59
      have h58 : a.tmps.getD 58 undef = .pointer (some ⟨gz, k * 4, none⟩) := hg.dep opsSA_13 hi 12 _ 58 opsSA_12 rfl (by kernel_rfl)
      refine hg.op hf opsSA_13 rfl (fun K' HK => ?_)
      go_simp
      exact HK.out _ _ (fun _ _ h => h) rfl hB
    · -- 14: slot 60
      have h59 : a.tmps.getD 59 undef = .pointer (some ⟨gz, k * 4 + 3, none⟩) := hg.dep opsSA_14 hi 13 _ 59 opsSA_13 rfl (by kernel_rfl)
      have l5 := ld5 _ hB
      refine hg.op hf opsSA_14 rfl (fun K' HK => ?_)
      go_simp
      exact HK.out _ _ (fun _ _ h => h) rfl hB
    · -- 15: slot 61
      have h51 : a.tmps.getD 51 undef = .string t := hg.dep opsSA_15 hi 5 _ 51 opsSA_5 rfl (by kernel_rfl)
      have h60 : a.tmps.getD 60 undef = .slice a6 fn c7 := hg.dep opsSA_15 hi 14 _ 60 opsSA_14 rfl (by kernel_rfl)
      refine hg.op hf opsSA_15 rfl (fun K' HK => ?_)
      go_simp
      refine (HT _ hB).mono ?_; rintro e w2 ⟨rfl, rfl⟩
      exact HK.out _ _ (fun _ _ h => h) rfl hB
    · -- 16: slot 62
      have h50 : a.tmps.getD 50 undef = .string sv := hg.dep opsSA_16 hi 4 _ 50 opsSA_4 rfl (by kernel_rfl)
      have h61 : a.tmps.getD 61 undef = .string sv := hg.dep opsSA_16 hi 15 _ 61 opsSA_15 rfl (by kernel_rfl)
      refine hg.op hf opsSA_16 rfl (fun K' HK => ?_)
      go_simp
      exact HK.out _ _ (fun _ _ h => h) rfl hB
  · intro listed a w hg hall
    refine hQ a w hg.defers hg.size (fun d hd => hg.was d hd) ?_ hg.inv
    exact hg.val 16 _ 62 opsSA_16 rfl (hall 16 (of_decide_eq_true (by kernel_rfl)))

end Go.Proofs.Ytphfhmabchfjjaa
