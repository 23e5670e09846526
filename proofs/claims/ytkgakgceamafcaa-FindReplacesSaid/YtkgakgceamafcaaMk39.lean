/-
  Texts of this seat, put together (a claim holds few texts): FdO.
-/
import Derived.Test.YtkgakgceamafcaaMk38

namespace Go.Proofs.Ytkgakgceamafcaa
open Go Go.RowKit Go.Shelf
set_option linter.unusedVariables false

noncomputable def opsR7 : Array Oper := ((Try.f16.body.bind (regOpsF 7)).getD #[])
theorem opsR7_0 : opsR7[0]? = some { dst := some 28, op := Go.Op.load 3 (Go.Operand.tmp 11), type := 3, pos := "find.go:116", after := #[], guard := none } := by kernel_rfl
theorem opsR7_1 : opsR7[1]? = some { dst := some 29, op := Go.Op.binOp Go.BinOp.add 3 (Go.Operand.tmp 28) (Go.Operand.const (Go.Value.int Go.IntKind.i64 1)) 3, type := 3, pos := "find.go:116", after := #[{ on := 0, ground := Go.Ground.data }], guard := none } := by kernel_rfl
theorem opsR7_2 : opsR7[2]? = some { dst := some 30, op := Go.Op.move (Go.Operand.tmp 13), type := 3, pos := "find.go:116", after := #[{ on := 6, ground := Go.Ground.gcOnly Go.Departure.lateStores }], guard := none } := by kernel_rfl
theorem opsR7_3 : opsR7[3]? = some { dst := some 31, op := Go.Op.load 23 (Go.Operand.tmp 5), type := 23, pos := "find.go:116", after := #[], guard := none } := by kernel_rfl
theorem opsR7_4 : opsR7[4]? = some { dst := some 32, op := Go.Op.call { callee := Go.Callee.builtin Go.Builtin.len, args := #[Go.Operand.tmp 31], argTypes := #[23] }, type := 3, pos := "find.go:116", after := #[{ on := 3, ground := Go.Ground.data }], guard := none } := by kernel_rfl
theorem opsR7_5 : opsR7[5]? = some { dst := some 33, op := Go.Op.binOp Go.BinOp.add 3 (Go.Operand.tmp 30) (Go.Operand.tmp 32) 3, type := 3, pos := "find.go:116", after := #[{ on := 2, ground := Go.Ground.data }, { on := 4, ground := Go.Ground.data }, { on := 6, ground := Go.Ground.gcOnly Go.Departure.lateStores }], guard := none } := by kernel_rfl
theorem opsR7_6 : opsR7[6]? = some { dst := none, op := Go.Op.store 3 (Go.Operand.tmp 11) (Go.Operand.tmp 29), type := 0, pos := "find.go:116", after := #[{ on := 1, ground := Go.Ground.data }, { on := 0, ground := Go.Ground.phase }, { on := 1, ground := Go.Ground.phase }, { on := 2, ground := Go.Ground.textOnly Go.Departure.lateStores }, { on := 3, ground := Go.Ground.textOnly Go.Departure.lateStores }, { on := 4, ground := Go.Ground.textOnly Go.Departure.lateStoresUnsure }, { on := 5, ground := Go.Ground.textOnly Go.Departure.lateStores }], guard := none } := by kernel_rfl
theorem opsR7_7 : opsR7[7]? = some { dst := none, op := Go.Op.store 3 (Go.Operand.tmp 12) (Go.Operand.tmp 33), type := 0, pos := "find.go:116", after := #[{ on := 5, ground := Go.Ground.data }, { on := 6, ground := Go.Ground.chain }, { on := 0, ground := Go.Ground.phase }, { on := 1, ground := Go.Ground.phase }, { on := 2, ground := Go.Ground.phase }, { on := 3, ground := Go.Ground.phase }, { on := 4, ground := Go.Ground.phase }, { on := 5, ground := Go.Ground.phase }, { on := 6, ground := Go.Ground.phase }], guard := none } := by kernel_rfl
/-- The world, by what has been stored. -/
def WR7 (V : World) (n1 n2 pb m tc x k : Nat) (ta : Option Addr) (b6 b7 : Bool) : World :=
  if b7 then (V.setCell ⟨n1, 0, none⟩ (.int .i64 ((k : Int) + 1))).setCell ⟨n2, 0, none⟩ (.int .i64 ((x : Int) + (m : Int))) else if b6 then V.setCell ⟨n1, 0, none⟩ (.int .i64 ((k : Int) + 1)) else V
structure InvR7 (V : World) (n1 n2 pb m tc x k : Nat) (ta : Option Addr) (L : Array Bool) (w : World) : Prop where
  w_is : w = WR7 V n1 n2 pb m tc x k ta (L.getD 6 false) (L.getD 7 false)
  ord : L.getD 7 false = true → L.getD 6 false = true ∧ L.getD 3 false = true
  ord6 : L.getD 6 false = true → L.getD 0 false = true
def RR7 (n1 n2 pb m tc x k : Nat) (ta : Option Addr) (i : Nat) (v : Value) (w : World) : Prop := v = ([.int .i64 (k : Int), .int .i64 ((k : Int) + 1), .int .i64 (x : Int), .slice ta m tc, .int .i64 (m : Int), .int .i64 ((x : Int) + (m : Int)), undef, undef] : List Value).getD i undef

theorem mark_oth {L : Array Bool} {i j : Nat} (h : i ≠ j) : (L.setIfInBounds i true).getD j false = L.getD j false := by
  rw [Array.getD_eq_getD_getElem?, Array.getD_eq_getD_getElem?, Array.getElem?_setIfInBounds_ne h]
theorem mark_sel {L : Array Bool} {i : Nat} (h : i < L.size) : (L.setIfInBounds i true).getD i false = true := by
  rw [Array.getD_eq_getD_getElem?, Array.getElem?_setIfInBounds]; simp [h]

set_option maxHeartbeats 8000000 in
set_option maxRecDepth 100000 in
theorem regR7 (n1 n2 pb m tc x k : Nat) (ta : Option Addr) {lo nn : Nat} {a0 : Act} {V : World} {Q : Exit → Act → World → Prop} (hsize : a0.tmps.size = 42) (o11 : a0.tmps.getD 11 undef = pbox n1) (o12 : a0.tmps.getD 12 undef = pbox n2) (o13 : a0.tmps.getD 13 undef = .int .i64 (x : Int)) (o5 : a0.tmps.getD 5 undef = pbox pb)
    (cn : V.cell? ⟨n1, 0, none⟩ = some (.int .i64 (k : Int))) (zn : V.frozen? ⟨n1, 0, none⟩ = false) (y2 : Int) (c2 : V.cell? ⟨n2, 0, none⟩ = some (.int .i64 y2)) (z2 : V.frozen? ⟨n2, 0, none⟩ = false) (cp : V.cell? ⟨pb, 0, none⟩ = some (.slice ta m tc)) (h12 : n1 ≠ n2) (hp1 : pb ≠ n1) (hp2 : pb ≠ n2) (hk : k ≤ 1000000) (hx : x ≤ 1000000) (hm : m ≤ 1000000)
    (hQ : ∀ a w', a.defers = a0.defers → a.tmps.size = a0.tmps.size → (∀ d : Nat, (opsR7.all fun o => o.dst != some d) = true → a.tmps.getD d undef = a0.tmps.getD d undef) → w' = (V.drew.setCell ⟨n1, 0, none⟩ (.int .i64 ((k : Int) + 1))).setCell ⟨n2, 0, none⟩ (.int .i64 ((x : Int) + (m : Int))) → Q .normal a w') : (Code.region 7 opsR7 true).wpIn (Fence.wide.inRound lo) nn Try.prog Q a0 V := by
  have hf : opsFine .any opsR7 a0.tmps.size = true := by rw [hsize]; kernel_rfl
  have hsz8 : opsR7.size = 8 := by kernel_rfl
  have w1 : IntKind.i64.wrap ((k : Int) + 1) = (k : Int) + 1 := by rw [IntKind.wrap_i64]; omega
  have w2 : IntKind.i64.wrap ((x : Int) + (m : Int)) = (x : Int) + (m : Int) := by rw [IntKind.wrap_i64]; omega
  refine wpIn_region_good (by kernel_rfl) (by kernel_rfl) (RR7 n1 n2 pb m tc x k ta) (InvR7 V.drew n1 n2 pb m tc x k ta) hf ?_ ?_ ?_
  · exact ⟨by rw [hsz8]; rfl, (fun h => by rw [hsz8] at h; cases h), (fun h => by rw [hsz8] at h; cases h)⟩
  · intro i listed a w hg' hi
    have hlt : i < 8 := by have := (ready_spec hi).1; omega
    have hB := hg'.inv
    have hls : listed.size = 8 := by rw [hg'.full, hsz8]
    have hun := getD_of_ready (ready_spec hi).2.1
    have h7 : listed.getD 6 false = false → listed.getD 7 false = false := fun h => by
      cases e : listed.getD 7 false with
      | false => rfl
      | true => rw [(hB.ord e).1] at h; cases h
    have keep : ∀ j, j ≠ 6 → j ≠ 7 → (j = i) → InvR7 V.drew n1 n2 pb m tc x k ta (listed.setIfInBounds i true) w := fun j h6 h7' e => by
      subst e
      refine ⟨by rw [mark_oth (by omega), mark_oth (by omega)]; exact hB.w_is, fun h => ?_, fun h => ?_⟩
      · rw [mark_oth (by omega)] at h
        obtain ⟨g1, g2⟩ := hB.ord h
        refine ⟨by rw [mark_oth (by omega)]; exact g1, ?_⟩
        by_cases e3 : j = 3
        · subst e3; exact mark_sel (by omega)
        · rw [mark_oth (by omega)]; exact g2
      · rw [mark_oth (by omega)] at h
        by_cases e0 : j = 0
        · subst e0; exact mark_sel (by omega)
        · rw [mark_oth (by omega)]; exact hB.ord6 h
    rcases (show i = 0 ∨ i = 1 ∨ i = 2 ∨ i = 3 ∨ i = 4 ∨ i = 5 ∨ i = 6 ∨ i = 7 by omega) with rfl | rfl | rfl | rfl | rfl | rfl | rfl | rfl
    · -- load of the count
      have b6 : listed.getD 6 false = false := by
        cases e : listed.getD 6 false with
        | false => rfl
        | true => rw [hB.ord6 e] at hun; cases hun
      have l0 : w.cell? ⟨n1, 0, none⟩ = some (.int .i64 (k : Int)) := by rw [hB.w_is, b6, h7 b6]; exact cn
      have h11 : a.tmps.getD 11 undef = pbox n1 := (hg'.was 11 (by kernel_rfl)).trans o11
      refine hg'.opI hf opsR7_0 rfl (fun K' HK => ?_)
      go_simp
      exact HK.out _ _ (fun _ _ _ h => h) rfl (keep 0 (by omega) (by omega) rfl)
    · have h28 : a.tmps.getD 28 undef = .int .i64 (k : Int) := hg'.dep opsR7_1 hi 0 _ 28 opsR7_0 rfl (by kernel_rfl)
      refine hg'.opI hf opsR7_1 rfl (fun K' HK => ?_)
      go_simp
      exact HK.out _ _ (fun _ _ _ h => h) rfl (keep 1 (by omega) (by omega) rfl)
    · have h13 : a.tmps.getD 13 undef = .int .i64 (x : Int) := (hg'.was 13 (by kernel_rfl)).trans o13
      refine hg'.opI hf opsR7_2 rfl (fun K' HK => ?_)
      go_simp
      exact HK.out _ _ (fun _ _ _ h => h) rfl (keep 2 (by omega) (by omega) rfl)
    · -- load of the text
      have b7 : listed.getD 7 false = false := by
        cases e : listed.getD 7 false with
        | false => rfl
        | true => rw [(hB.ord e).2] at hun; cases hun
      have l0 : w.cell? ⟨pb, 0, none⟩ = some (.slice ta m tc) := by
        rw [hB.w_is, b7]
        cases listed.getD 6 false with
        | false => exact cp
        | true => exact (World.cell?_setCell_other (h := fun e => by injection e with e1 e2; exact hp1 e1.symm) ..).trans cp
      have h5 : a.tmps.getD 5 undef = pbox pb := (hg'.was 5 (by kernel_rfl)).trans o5
      refine hg'.opI hf opsR7_3 rfl (fun K' HK => ?_)
      go_simp
      exact HK.out _ _ (fun _ _ _ h => h) rfl (keep 3 (by omega) (by omega) rfl)
    · have h31 : a.tmps.getD 31 undef = .slice ta m tc := hg'.dep opsR7_4 hi 3 _ 31 opsR7_3 rfl (by kernel_rfl)
      have h31b : a.tmps[31]?.getD undef = .slice ta m tc := by rw [← Array.getD_eq_getD_getElem?]; exact h31
      refine hg'.opI hf opsR7_4 rfl (fun K' HK => ?_)
      go_simp
      exact HK.out _ _ (fun _ _ _ h => h) rfl (keep 4 (by omega) (by omega) rfl)
    · have h30 : a.tmps.getD 30 undef = .int .i64 (x : Int) := hg'.dep opsR7_5 hi 2 _ 30 opsR7_2 rfl (by kernel_rfl)
      have h32 : a.tmps.getD 32 undef = .int .i64 (m : Int) := hg'.dep opsR7_5 hi 4 _ 32 opsR7_4 rfl (by kernel_rfl)
      refine hg'.opI hf opsR7_5 rfl (fun K' HK => ?_)
      go_simp
      exact HK.out _ _ (fun _ _ _ h => h) rfl (keep 5 (by omega) (by omega) rfl)
    · -- the first store
      have h11 : a.tmps.getD 11 undef = pbox n1 := (hg'.was 11 (by kernel_rfl)).trans o11
      have h29 : a.tmps.getD 29 undef = .int .i64 ((k : Int) + 1) := hg'.dep opsR7_6 hi 1 _ 29 opsR7_1 rfl (by kernel_rfl)
      have d0 := dep_set opsR7_6 hi 0 (by kernel_rfl)
      have hw : w = V.drew := by rw [hB.w_is, hun, h7 hun]; rfl
      have l0 : w.cell? ⟨n1, 0, none⟩ = some (.int .i64 (k : Int)) := by rw [hw]; exact cn
      have f0 : w.frozen? ⟨n1, 0, none⟩ = false := by rw [hw]; exact zn
      refine hg'.opI hf opsR7_6 rfl (fun K' HK => ?_)
      go_simp
      refine HK.out _ _ (fun _ _ _ h => h) rfl ⟨?_, fun h => ?_, fun _ => ?_⟩
      · rw [mark_sel (by omega), mark_oth (by omega), h7 hun]; rfl
      · rw [mark_oth (by omega), h7 hun] at h; cases h
      · rw [mark_oth (by omega)]; exact d0
    · -- the second store
      have h12' : a.tmps.getD 12 undef = pbox n2 := (hg'.was 12 (by kernel_rfl)).trans o12
      have h33 : a.tmps.getD 33 undef = .int .i64 ((x : Int) + (m : Int)) := hg'.dep opsR7_7 hi 5 _ 33 opsR7_5 rfl (by kernel_rfl)
      have d6 := dep_set opsR7_7 hi 6 (by kernel_rfl)
      have d3 := dep_set opsR7_7 hi 3 (by kernel_rfl)
      have d0 := dep_set opsR7_7 hi 0 (by kernel_rfl)
      have hw : w = V.drew.setCell ⟨n1, 0, none⟩ (.int .i64 ((k : Int) + 1)) := by rw [hB.w_is, hun, d6]; rfl
      have l0 : w.cell? ⟨n2, 0, none⟩ = some (.int .i64 y2) := by
        rw [hw]; exact (World.cell?_setCell_other (h := fun e => by injection e with e1 e2; exact h12 e1) ..).trans c2
      have f0 : w.frozen? ⟨n2, 0, none⟩ = false := by rw [hw, World.frozen?_setCell]; exact z2
      refine hg'.opI hf opsR7_7 rfl (fun K' HK => ?_)
      go_simp
      refine HK.out _ _ (fun _ _ _ h => h) rfl ⟨?_, fun _ => ⟨?_, ?_⟩, fun _ => ?_⟩
      · rw [mark_sel (by omega)]; rfl
      · rw [mark_oth (by omega)]; exact d6
      · rw [mark_oth (by omega)]; exact d3
      · rw [mark_oth (by omega)]; exact d0
  · intro listed a w hg' hall
    have hw := hg'.inv.w_is
    rw [hall 6 (by omega), hall 7 (by omega)] at hw
    exact hQ a w hg'.defers hg'.size (fun d hd => hg'.was d hd) hw
end Go.Proofs.Ytkgakgceamafcaa
