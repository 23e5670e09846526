/-
  Texts of layer 8, put together (a claim holds few texts): WlN, WlM, WlO, WlP, WlQ.
-/
import Derived.Test.YtofncnommekbjaaWmC
import Derived.Test.YtofncnommekbjaaWmD
import Derived.Test.YtofncnommekbjaaWkN
import Derived.Test.YtofncnommekbjaaLiftT
import Derived.Deep.RegionHeld3
namespace Go.Proofs.Ytofncnommekbjaa
open Go Go.RowKit Go.Shelf
set_option linter.unusedVariables false

/-- What the law's function makes of a number and a thing. -/
def twV (p : Nat × Int) : Int := wrap64 (wrap64 (p.2 * 2) + (p.1 : Int))
set_option maxRecDepth 100000 in
theorem tw_i {w : World} {b k c : Nat} (x : Int) (hc : w.cell? ⟨b, 0, none⟩ = some (.int .i64 (c : Int))) (hf : w.frozen? ⟨b, 0, none⟩ = false) (hl : c ≤ 1000000) :
    Calls Try.prog 39 #[.int .i64 (k : Int), .int .i64 x, pbox b] w fun e w' => e = .returned (.int .i64 (twV (k, x))) ∧ w.setCell ⟨b, 0, none⟩ (.int .i64 ((c + 1 : Nat) : Int)) = w' := by
  have e1 : ((c + 1 : Nat) : Int) = (c : Int) + 1 := by omega
  rw [e1]
  unfold twV
  go_enter Try.func39, Try.ntmps39
  go_wp2_with fail
  go_ret
  exact ⟨rfl, rfl⟩
/-- A row with room: the cell behind it. -/
theorem own_room {w : World} {B n c g : Nat} {e : TypeId} {xs : List Value} (h : w.ownsRow B e 1 (.slice (some ⟨g, 0, none⟩) n c) n xs) (hc : n < c) : (∃ u, w.cell? ⟨g, n, none⟩ = some u) ∧ w.frozen? ⟨g, n, none⟩ = false := by
  rcases h.2 with ⟨h1, _⟩ | ⟨g', cap, cur, h1, _, hg, _, _, h5, _⟩
  · cases h1
  · simp only [Value.slice.injEq, Option.some.injEq, Addr.mk.injEq] at h1
    obtain ⟨⟨rfl, _⟩, _, rfl⟩ := h1
    exact ⟨⟨cur[n]'(by omega), by rw [cell_at hg]; exact Array.getElem?_eq_getElem _⟩, unfrozen hg n⟩
theorem own_put {w : World} {B n c g : Nat} {e : TypeId} {xs : List Value} (u : Value) (h : w.ownsRow B e 1 (.slice (some ⟨g, 0, none⟩) n c) n xs) (hc : n < c) : (w.setCell ⟨g, n, none⟩ u).ownsRow B e 1 (.slice (some ⟨g, 0, none⟩) (n + 1) c) (n + 1) (xs ++ [u]) := by
  rcases h.2 with ⟨h1, _⟩ | ⟨g', cap, cur, h1, hB, hg, _, h4, h5, h6⟩
  · cases h1
  · simp only [Value.slice.injEq, Option.some.injEq, Addr.mk.injEq] at h1
    obtain ⟨⟨rfl, _⟩, _, rfl⟩ := h1
    refine ⟨by rw [List.length_append, h.1]; simp, .inr ⟨g, c, _, rfl, hB, heap_set_at hg, by omega, h4, by rw [Array.size_setIfInBounds]; exact h5, ?_⟩⟩
    have hl : n < cur.toList.length := by rw [Array.length_toList]; omega
    rw [Nat.mul_one] at h6 ⊢
    rw [Array.toList_setIfInBounds, List.take_add_one, List.take_set_of_le (Nat.le_refl n), h6, List.getElem?_set_self hl]
    rfl

/-- What is appended, in a block of its own. -/
def PM (z : Nat) (ty : Int) (v : Value) (w : World) : Prop := ∃ b : Nat, v = .slice (some ⟨b, 0, none⟩) 1 1 ∧ z ≤ b ∧ w.heap[b]? = some (.cells #[.int .i64 ty] 3 (0, 0))
theorem PM.moves {D : Bls} {z : Nat} {ty : Int} {v : Value} {w w' : World} (h : PM z ty v w) (hm : Moves D w w') (hD : ∀ k, D k → k < z) : PM z ty v w' := by
  obtain ⟨b, h1, h2, h3⟩ := h
  exact ⟨b, h1, h2, (hm.block b (lt_of_heap h3) (fun h => by have := hD b h; omega)).trans h3⟩
structure InvM (V : World) (A g q m len c1 B : Nat) (ty : Int) (xs : List Value) (b0 b4 b6 b7 : Bool) (w : World) : Prop where
  mv : Moves (fun k => k = A ∨ k = g ∨ k = q) V w
  cA : w.cell? ⟨A, 0, none⟩ = some (.int .i64 ((c1 + cond b4 1 0 : Nat) : Int))
  fA : w.frozen? ⟨A, 0, none⟩ = false
  og : w.ownsRow B 3 1 (.slice (some ⟨g, 0, none⟩) (m + cond b6 1 0) len) (m + cond b6 1 0) (xs ++ cond b6 [.int .i64 ty] [])
  cq : w.cell? ⟨q, 0, none⟩ = some (.slice (some ⟨g, 0, none⟩) (m + cond b7 1 0) len)
  fq : w.frozen? ⟨q, 0, none⟩ = false
  ord : b7 = true → b0 = true
theorem InvM.alloc {V w : World} {A g q m len c1 B : Nat} {ty : Int} {xs : List Value} {b0 b4 b6 b7 : Bool} (h : InvM V A g q m len c1 B ty xs b0 b4 b6 b7 w) (hA : A < V.heap.size) (hg : g < V.heap.size) (hq : q < V.heap.size) (o : Obj) : InvM V A g q m len c1 B ty xs b0 b4 b6 b7 (w.alloc o) := by
  have al := t_al w o
  have hs := h.mv.size
  exact ⟨h.mv.trans (Moves.below al), (al.cell (p := ⟨A, 0, none⟩) (show A < w.heap.size by omega)).trans h.cA, (al.frozen (p := ⟨A, 0, none⟩) (show A < w.heap.size by omega)).trans h.fA, h.og.alloc o, (al.cell (p := ⟨q, 0, none⟩) (show q < w.heap.size by omega)).trans h.cq, (al.frozen (p := ⟨q, 0, none⟩) (show q < w.heap.size by omega)).trans h.fq, h.ord⟩
def InvMM (V : World) (A g q m len c1 B : Nat) (ty : Int) (xs : List Value) (L : Array Bool) (w : World) : Prop := InvM V A g q m len c1 B ty xs (L.getD 0 false) (L.getD 4 false) (L.getD 6 false) (L.getD 7 false) w
noncomputable def ops38 : Array Oper := ((Try.f38.body.bind (regOpsF 7)).getD #[])
theorem ops38_0 : ops38[0]? = some { dst := some 20, op := Go.Op.load 22 (Go.Operand.tmp 5), type := 22, pos := "walk.go:115", after := #[], guard := none } := by kernel_rfl
theorem ops38_1 : ops38[1]? = some { dst := some 21, op := Go.Op.load 73 (Go.Operand.tmp 3), type := 73, pos := "walk.go:115", after := #[], guard := none } := by kernel_rfl
theorem ops38_2 : ops38[2]? = some { dst := some 22, op := Go.Op.move (Go.Operand.tmp 6), type := 3, pos := "walk.go:115", after := #[], guard := none } := by kernel_rfl
theorem ops38_3 : ops38[3]? = some { dst := some 23, op := Go.Op.move (Go.Operand.tmp 7), type := 3, pos := "walk.go:115", after := #[], guard := none } := by kernel_rfl
theorem ops38_4 : ops38[4]? = some { dst := some 24, op := Go.Op.call { callee := Go.Callee.value (Go.Operand.tmp 21), args := #[Go.Operand.tmp 22, Go.Operand.tmp 23], argTypes := #[3, 3] }, type := 3, pos := "walk.go:115", after := #[{ on := 1, ground := Go.Ground.data }, { on := 2, ground := Go.Ground.data }, { on := 3, ground := Go.Ground.data }], guard := none } := by kernel_rfl
theorem ops38_5 : ops38[5]? = some { dst := some 25, op := Go.Op.buildSlice 22 1 #[(0, Go.Operand.tmp 24)], type := 22, pos := "walk.go:115", after := #[{ on := 4, ground := Go.Ground.data }], guard := none } := by kernel_rfl
theorem ops38_6 : ops38[6]? = some { dst := some 26, op := Go.Op.call { callee := Go.Callee.builtin Go.Builtin.append, args := #[Go.Operand.tmp 20, Go.Operand.tmp 25], argTypes := #[22, 22] }, type := 22, pos := "walk.go:115", after := #[{ on := 0, ground := Go.Ground.data }, { on := 5, ground := Go.Ground.data }, { on := 4, ground := Go.Ground.chain }], guard := none } := by kernel_rfl
theorem ops38_7 : ops38[7]? = some { dst := none, op := Go.Op.store 22 (Go.Operand.tmp 5) (Go.Operand.tmp 26), type := 0, pos := "walk.go:115", after := #[{ on := 6, ground := Go.Ground.data }, { on := 6, ground := Go.Ground.chain }, { on := 0, ground := Go.Ground.phase }, { on := 1, ground := Go.Ground.phase }, { on := 2, ground := Go.Ground.phase }, { on := 3, ground := Go.Ground.phase }, { on := 4, ground := Go.Ground.phase }, { on := 5, ground := Go.Ground.phase }, { on := 6, ground := Go.Ground.phase }], guard := none } := by kernel_rfl
def RM (A g q fb m len z : Nat) (c1 : Nat) (ty x : Int) (i : Nat) (v : Value) (w : World) : Prop := if i = 5 then PM z ty v w else v = ([.slice (some ⟨g, 0, none⟩) m len, .func (.func 39) #[] #[pbox A], .int .i64 (m : Int), .int .i64 x, .int .i64 ty, undef, .slice (some ⟨g, 0, none⟩) (m + 1) len, undef] : List Value).getD i undef
theorem RM_mono (A g q fb m len z : Nat) (c1 : Nat) (ty x : Int) {w w' : World} {i : Nat} (v : Value) (hm : ∀ v, PM z ty v w → PM z ty v w') (h : RM A g q fb m len z c1 ty x i v w) : RM A g q fb m len z c1 ty x i v w' := by
  unfold RM at *
  by_cases e : i = 5
  · rw [if_pos e] at h ⊢; exact hm v h
  · rw [if_neg e] at h ⊢; exact h

set_option maxHeartbeats 8000000 in
set_option maxRecDepth 100000 in
theorem regM (A g q fb m len z : Nat) (c1 : Nat) (ty x : Int) {lo nn B : Nat} {xs : List Value} {a0 : Act} {V : World} {Q : Exit → Act → World → Prop} (hsize : a0.tmps.size = 29) (o3 : a0.tmps.getD 3 undef = pbox fb) (o5 : a0.tmps.getD 5 undef = pbox q) (o6 : a0.tmps.getD 6 undef = .int .i64 (m : Int)) (o7 : a0.tmps.getD 7 undef = .int .i64 x)
    (hz : V.heap.size = z) (hA : A < z) (hg : g < z) (hq : q < z) (hfbz : fb < z) (hAg : A ≠ g) (hAq : A ≠ q) (hgq : g ≠ q) (hfA : fb ≠ A) (hfg : fb ≠ g) (hfq : fb ≠ q) (hml : m < len) (hll : len ≤ 1000000) (hc1 : c1 ≤ 900000)
    (cf : V.cell? ⟨fb, 0, none⟩ = some (.func (.func 39) #[] #[pbox A])) (hty : twV (m, x) = ty) (st : InvM V A g q m len c1 B ty xs false false false false V)
    (hQ : ∀ a w', a.defers = a0.defers → a.tmps.size = a0.tmps.size → (∀ d : Nat, (ops38.all fun o => o.dst != some d) = true → a.tmps.getD d undef = a0.tmps.getD d undef) → InvM V A g q m len c1 B ty xs true true true true w' → Q .normal a w') : (Code.region 7 ops38 true).wpIn (Fence.wide.inRound lo) nn Try.prog Q a0 V := by
  have hf : opsFine .any ops38 a0.tmps.size = true := by rw [hsize]; kernel_rfl
  have hsz8 : ops38.size = 8 := by kernel_rfl
  have hDz : ∀ k, (k = A ∨ k = g ∨ k = q) → k < z := fun k h => by omega
  refine wpIn_region_good (by kernel_rfl) (by kernel_rfl) (RM A g q fb m len z c1 ty x) (InvMM V A g q m len c1 B ty xs) hf ?_ ?_ ?_
  · exact ⟨st.mv.drew, st.cA, st.fA, st.og, st.cq, st.fq, fun h => by cases h⟩
  · intro i listed a w hg' hi
    have hlt : i < 8 := by have := (ready_spec hi).1; omega
    have hB : InvM V A g q m len c1 B ty xs (listed.getD 0 false) (listed.getD 4 false) (listed.getD 6 false) (listed.getD 7 false) w := hg'.inv
    have hls : listed.size = 8 := by rw [hg'.full, hsz8]
    have hw7 : listed.getD 0 false = false → listed.getD 7 false = false := fun h => by
      cases e : listed.getD 7 false with
      | false => rfl
      | true => rw [hB.ord e] at h; cases h
    rcases (show i = 0 ∨ i = 1 ∨ i = 2 ∨ i = 3 ∨ i = 4 ∨ i = 5 ∨ i = 6 ∨ i = 7 by omega) with rfl | rfl | rfl | rfl | rfl | rfl | rfl | rfl
    · -- load of the row
      have h5 : a.tmps.getD 5 undef = pbox q := (hg'.was 5 (by kernel_rfl)).trans o5
      have b7 := hw7 (getD_of_ready (ready_spec hi).2.1)
      have l0 : w.cell? ⟨q, 0, none⟩ = some (.slice (some ⟨g, 0, none⟩) m len) := by have := hB.cq; rw [b7] at this; exact this
      refine hg'.opI hf ops38_0 rfl (fun K' HK => ?_)
      go_simp
      exact HK.out _ _ (fun _ _ _ h => h) rfl (by unfold InvMM; rw [mark_other (j := 4) (by decide), mark_other (j := 6) (by decide), mark_other (j := 7) (by decide), b7]; exact ⟨hB.mv, hB.cA, hB.fA, hB.og, by have := hB.cq; rw [b7] at this; exact this, hB.fq, fun h => by cases h⟩)
    · -- load of the function
      have h3 : a.tmps.getD 3 undef = pbox fb := (hg'.was 3 (by kernel_rfl)).trans o3
      have l0 : w.cell? ⟨fb, 0, none⟩ = some (.func (.func 39) #[] #[pbox A]) := (hB.mv.cell (by omega) (by omega)).trans cf
      refine hg'.opI hf ops38_1 rfl (fun K' HK => ?_)
      go_simp
      exact HK.out _ _ (fun _ _ _ h => h) rfl (by unfold InvMM; rw [mark_other (by decide), mark_other (by decide), mark_other (by decide), mark_other (by decide)]; exact hB)
    · have h6 : a.tmps.getD 6 undef = .int .i64 (m : Int) := (hg'.was 6 (by kernel_rfl)).trans o6
      refine hg'.opI hf ops38_2 rfl (fun K' HK => ?_)
      go_simp
      exact HK.out _ _ (fun _ _ _ h => h) rfl (by unfold InvMM; rw [mark_other (by decide), mark_other (by decide), mark_other (by decide), mark_other (by decide)]; exact hB)
    · have h7 : a.tmps.getD 7 undef = .int .i64 x := (hg'.was 7 (by kernel_rfl)).trans o7
      refine hg'.opI hf ops38_3 rfl (fun K' HK => ?_)
      go_simp
      exact HK.out _ _ (fun _ _ _ h => h) rfl (by unfold InvMM; rw [mark_other (by decide), mark_other (by decide), mark_other (by decide), mark_other (by decide)]; exact hB)
    · -- the call
      have h21 : a.tmps.getD 21 undef = .func (.func 39) #[] #[pbox A] := hg'.dep ops38_4 hi 1 _ 21 ops38_1 rfl (by kernel_rfl)
      have h22 : a.tmps.getD 22 undef = .int .i64 (m : Int) := hg'.dep ops38_4 hi 2 _ 22 ops38_2 rfl (by kernel_rfl)
      have h23 : a.tmps.getD 23 undef = .int .i64 x := hg'.dep ops38_4 hi 3 _ 23 ops38_3 rfl (by kernel_rfl)
      have b4 := getD_of_ready (ready_spec hi).2.1
      have cA := hB.cA
      rw [b4] at cA
      have HC := tw_i (w := w) (b := A) (k := m) (c := c1) x cA hB.fA (by omega)
      rw [hty] at HC
      refine hg'.opI hf ops38_4 rfl (fun K' HK => ?_)
      go_simp
      refine HC.mono ?_; rintro e w2 ⟨rfl, rfl⟩
      have mv : Moves (fun k => k = A ∨ k = g ∨ k = q) w (w.setCell ⟨A, 0, none⟩ (.int .i64 ((c1 + 1 : Nat) : Int))) := (Moves.refl _ _).set (.inl rfl)
      refine HK.out _ _ (fun j u _ h => RM_mono A g q fb m len z c1 ty x u (fun v h => h.moves mv hDz) h) rfl ?_
      unfold InvMM
      rw [mark_other (j := 0) (by decide), mark_other (j := 6) (by decide), mark_other (j := 7) (by decide), mark_self (by omega)]
      exact ⟨hB.mv.trans mv, World.cell?_setCell_same' _ _ _ (by rw [cA]; rfl), by rw [World.frozen?_setCell]; exact hB.fA, own_blk hB.og (heap_set_other (fun e => hAg e.symm)), (World.cell?_setCell_other (h := fun e => by injection e with e1 e2; exact hAq e1) ..).trans hB.cq, by rw [World.frozen?_setCell]; exact hB.fq, hB.ord⟩
    · -- the block of what is appended
      have h24 : a.tmps.getD 24 undef = .int .i64 ty := hg'.dep ops38_5 hi 4 _ 24 ops38_4 rfl (by kernel_rfl)
      have h24b : a.tmps[24]?.getD undef = .int .i64 ty := by rw [← Array.getD_eq_getD_getElem?]; exact h24
      refine hg'.opI hf ops38_5 rfl (fun K' HK => ?_)
      go_simp
      have al := t_al w (Obj.cells #[.int .i64 ty] 3)
      refine HK.out _ _ (fun j u _ h => RM_mono A g q fb m len z c1 ty x u (fun v h => h.moves (Moves.below (D := fun _ => False) al) (fun k h => h.elim)) h) ⟨w.heap.size, rfl, by have := hB.mv.size; omega, heap_alloc_new _ _⟩ ?_
      unfold InvMM
      rw [mark_other (by decide), mark_other (by decide), mark_other (by decide), mark_other (by decide)]
      exact hB.alloc (by omega) (by omega) (by omega) _
    · -- the append
      have h20 : a.tmps.getD 20 undef = .slice (some ⟨g, 0, none⟩) m len := hg'.dep ops38_6 hi 0 _ 20 ops38_0 rfl (by kernel_rfl)
      have h25s : PM z ty (a.tmps.getD 25 undef) w := hg'.dep ops38_6 hi 5 _ 25 ops38_5 rfl (by kernel_rfl)
      obtain ⟨b, h25, hzb, hbb⟩ := h25s
      have b6 := getD_of_ready (ready_spec hi).2.1
      have og := hB.og
      rw [b6] at og
      obtain ⟨⟨u8, hu8⟩, hfu8⟩ := own_room (show w.ownsRow B 3 1 (.slice (some ⟨g, 0, none⟩) m len) m (xs ++ []) from og) hml
      have hbc : w.cell? ⟨b, 0, none⟩ = some (.int .i64 ty) := (cell_at hbb 0).trans rfl
      have hroom : m + 1 ≤ len := hml
      have hgb : g ≠ b := by omega
      have op := own_put (.int .i64 ty) (show w.ownsRow B 3 1 (.slice (some ⟨g, 0, none⟩) m len) m (xs ++ []) from og) hml
      rw [List.append_nil] at op
      have OP := Lib.hid op
      have mv : Moves (fun k => k = A ∨ k = g ∨ k = q) w (w.setCell ⟨g, m, none⟩ (.int .i64 ty)) := (Moves.refl _ _).set (.inr (.inl rfl))
      have MV := Lib.hid mv
      clear mv op og
      refine hg'.opI hf ops38_6 rfl (fun K' HK => ?_)
      go_simp
      refine HK.out _ _ (fun j u _ h => RM_mono A g q fb m len z c1 ty x u (fun v h => h.moves MV.out hDz) h) rfl ?_
      unfold InvMM
      rw [mark_other (j := 0) (by decide), mark_other (j := 4) (by decide), mark_other (j := 7) (by decide), mark_self (by omega)]
      exact ⟨hB.mv.trans MV.out, (World.cell?_setCell_other (h := fun e => by injection e with e1 e2; exact hAg e1.symm) ..).trans hB.cA, by rw [World.frozen?_setCell]; exact hB.fA, OP.out, (World.cell?_setCell_other (h := fun e => by injection e with e1 e2; exact hgq e1) ..).trans hB.cq, by rw [World.frozen?_setCell]; exact hB.fq, hB.ord⟩
    · -- the store
      have h5 : a.tmps.getD 5 undef = pbox q := (hg'.was 5 (by kernel_rfl)).trans o5
      have h26 : a.tmps.getD 26 undef = .slice (some ⟨g, 0, none⟩) (m + 1) len := hg'.dep ops38_7 hi 6 _ 26 ops38_6 rfl (by kernel_rfl)
      have b7 := getD_of_ready (ready_spec hi).2.1
      have b0 := dep_set ops38_7 hi 0 (by kernel_rfl)
      have cq := hB.cq
      have fq := hB.fq
      refine hg'.opI hf ops38_7 rfl (fun K' HK => ?_)
      go_simp
      have mv : Moves (fun k => k = A ∨ k = g ∨ k = q) w (w.setCell ⟨q, 0, none⟩ (.slice (some ⟨g, 0, none⟩) (m + 1) len)) := (Moves.refl _ _).set (.inr (.inr rfl))
      refine HK.out _ _ (fun j u _ h => RM_mono A g q fb m len z c1 ty x u (fun v h => h.moves mv hDz) h) rfl ?_
      unfold InvMM
      rw [mark_other (j := 0) (by decide), mark_other (j := 4) (by decide), mark_other (j := 6) (by decide), mark_self (by omega)]
      exact ⟨hB.mv.trans mv, (World.cell?_setCell_other (h := fun e => by injection e with e1 e2; exact hAq e1.symm) ..).trans hB.cA, by rw [World.frozen?_setCell]; exact hB.fA, own_blk hB.og (heap_set_other hgq), World.cell?_setCell_same' _ _ _ (by rw [cq]; rfl), by rw [World.frozen?_setCell]; exact hB.fq, fun _ => b0⟩
  · intro listed a w hg' hall
    have hB : InvM V A g q m len c1 B ty xs (listed.getD 0 false) (listed.getD 4 false) (listed.getD 6 false) (listed.getD 7 false) w := hg'.inv
    rw [hall 0 (by omega), hall 4 (by omega), hall 6 (by omega), hall 7 (by omega)] at hB
    exact hQ a w hg'.defers hg'.size (fun d hd => hg'.was d hd) hB

attribute [local go_sem] Oper.semAt_some

theorem put_far {w : World} {d k : Nat} {x : Option (List Deferred)} {o : Obj} {cs : Array Value} {T : TypeId} {fr : Nat × Nat} (hd : w.heap[d]? = some (.deferred x)) (h : w.heap[k]? = some (.cells cs T fr)) : (w.putObj d o).heap[k]? = some (.cells cs T fr) :=
  (World.putObj_heap_other (fun e => by rw [e, hd] at h; cases h)).trans h
theorem Sl.putDef {w : World} {d : Nat} {x : Option (List Deferred)} {a : Option Addr} {c : Nat} {xs : List Value} (h : Sl w a c xs) (hd : w.heap[d]? = some (.deferred x)) (o : Obj) : Sl (w.putObj d o) a c xs := by
  refine ⟨⟨h.rd.1, fun hn => ?_⟩, h.cap, h.capm, h.nil, h.form, h.one⟩
  obtain ⟨g, o', e, hg, hc⟩ := h.rd.2 hn
  exact ⟨g, o', e, Nat.lt_of_lt_of_le hg (grownBy_putObj' w d o).size, fun j u hj => cell_kept (hc j u hj) (grownBy_putObj' w d o) (fun r e => by cases e; exact ⟨_, hd, rfl⟩)⟩
theorem InE.putDef {w : World} {T d : Nat} {x : Option (List Deferred)} (hd : w.heap[d]? = some (.deferred x)) (o : Obj) : ∀ {h : Nat} {t : El h} {u : Value}, InE w T h t u → InE (w.putObj d o) T h t u
  | 0, t, u, H => H
  | h + 1, t, u, H => by
    obtain ⟨b, a, c, us, rfl, h1, ht, h2, h3, h4⟩ := H
    exact ⟨b, a, c, us, rfl, put_far hd h1, fun q hq => by obtain ⟨cs, t, fr, y1, y2⟩ := ht q hq; exact ⟨cs, t, fr, put_far hd y1, y2⟩, h2.putDef hd o, h3, fun i x y hx hy => InE.putDef hd o (h4 i x y hx hy)⟩
/-- A tree stands, whatever a block of deferred calls is turned into. -/
theorem Tin.putDef {w : World} {T d : Nat} {x : Option (List Deferred)} {pv : Value} {L : List Value} (H : Tin w T pv L) (hd : w.heap[d]? = some (.deferred x)) (o : Obj) : Tin (w.putObj d o) T pv L := by
  rcases H with h | ⟨b, h, t, h1, h2, h3, h4⟩
  · exact .inl h
  · obtain ⟨b', e, h5⟩ := of_in (InE.putDef hd o (in_of h2))
    have hbb : b' = b := by injection e with e; injection e with e; injection e with e1 e2; exact e1.symm
    subst hbb
    exact .inr ⟨b', h, t, h1, h5, h3, h4⟩
theorem fv_eq (b : Nat) (w : World) : Sem.run Try.prog (binOp BinOp.eql 73 (.func (.func 39) #[] #[pbox b]) Value.nilFunc) w = .ok (.bool false) w := by kernel_rfl

/-- What Map keeps between two rounds. -/
def MapI (w : World) (A g q len c0 : Nat) (pre : List (Nat × Int)) (E : Bls) (W : World) : Prop :=
  (∀ k, E k → q + 1 ≤ k) ∧ Moves (fun k => k = A) w W ∧ q + 1 ≤ W.heap.size ∧ W.cell? ⟨q, 0, none⟩ = some (.slice (some ⟨g, 0, none⟩) pre.length len) ∧ W.frozen? ⟨q, 0, none⟩ = false ∧
    W.ownsRow w.heap.size 3 1 (.slice (some ⟨g, 0, none⟩) pre.length len) pre.length (nums (pre.map twV)) ∧ W.cell? ⟨A, 0, none⟩ = some (.int .i64 ((c0 + pre.length : Nat) : Int)) ∧ W.frozen? ⟨A, 0, none⟩ = false ∧
    W.cell? ⟨w.heap.size + 1, 0, none⟩ = some (.func (.func 39) #[] #[pbox A]) ∧ W.heap[w.heap.size + 2]? = some (Obj.cells #[Value.pointer none] 27 (0, 0))
theorem MapI.firm {w : World} {A g q len c0 : Nat} (hg : w.heap.size + 3 ≤ g) (hq : g < q) (hA : A < w.heap.size) : Firm (MapI w A g q len c0) := by
  rintro s D D' W W' ⟨h1, h2, h3, h4, h5, h6, h7, h8, h9, hx⟩ hm hd
  have b0 := hm.block g (by omega) (fun h => by have := h1 g h; omega)
  have b1 := hm.block q (by omega) (fun h => by have := h1 q h; omega)
  have b3 := hm.block (w.heap.size + 1) (by omega) (fun h => by have := h1 _ h; omega)
  have b4 := hm.block (w.heap.size + 2) (by omega) (fun h => by have := h1 _ h; omega)
  have b2 := hm.block A (by omega) (fun h => by have := h1 A h; omega)
  exact ⟨fun k hk => (hd k hk).elim (h1 k) (fun h => by omega), ⟨hm.os.trans h2.os, hm.tape.trans h2.tape, hm.output.trans h2.output, Nat.le_trans h2.size hm.size, fun k hk hA => (hm.block k (by have := h2.size; omega) (fun h => by have := h1 k h; omega)).trans (h2.block k hk hA)⟩, Nat.le_trans h3 hm.size, (World.cell?_of_block b1).trans h4, (World.frozen?_of_block b1).trans h5, own_block h6 b0, (World.cell?_of_block b2).trans h7, (World.frozen?_of_block b2).trans h8, (World.cell?_of_block b3).trans h9, b4.trans hx⟩

set_option maxRecDepth 100000 in
set_option maxHeartbeats 4000000 in
theorem map_in (n : Nat) {w0 w : World} {A c0 : Nat} {x0 : Option Addr} {xs : List Int} (hw : Below w0.heap.size w0 w) (HT0 : Tin w0 95 (.pointer x0) (nums xs)) (hA0 : w0.heap.size ≤ A) (hA : A < w.heap.size) (cA : w.cell? ⟨A, 0, none⟩ = some (.int .i64 (c0 : Int))) (fA : w.frozen? ⟨A, 0, none⟩ = false) (hl : xs.length ≤ 90000) (hc0 : c0 ≤ 1000) :
    CallsIn Fence.wide n Try.prog 38 #[.agg #[.pointer x0], .func (.func 39) #[] #[pbox A]] w fun e w' => ∃ y, e = .returned (.agg #[.pointer y]) ∧ Tin w' 95 (.pointer y) (nums ((pairs xs).map twV)) ∧ w'.cell? ⟨A, 0, none⟩ = some (.int .i64 ((c0 + xs.length : Nat) : Int)) ∧ w'.frozen? ⟨A, 0, none⟩ = false ∧ Moves (fun k => k = A) w w' := by
  obtain ⟨i0, hi0, hz0, hz1, hz2⟩ := info_parts info_int
  have HT := HT0.below hw
  have hef := fv_eq A
  obtain ⟨w1, hw1, hb1, hz1', hB0, hB1, hB2⟩ := three_blocks w (Obj.cells #[.pointer x0] 27) (Obj.cells #[.func (.func 39) #[] #[pbox A]] 73) (Obj.cells #[Value.pointer none] 27)
  have c0' : w1.cell? ⟨w.heap.size, 0, none⟩ = some (.pointer x0) := (cell_at hB0 0).trans rfl
  have c1' : w1.cell? ⟨w.heap.size + 1, 0, none⟩ = some (.func (.func 39) #[] #[pbox A]) := (cell_at hB1 0).trans rfl
  have HB2 := Lib.hid hB2
  have HL := Lib.hid (len_i (HT.below hb1))
  rw [nums_len] at HL
  obtain ⟨len, hlen⟩ : ∃ len, xs.length = len := ⟨_, rfl⟩
  have HLe := Lib.hid hlen
  rw [hlen] at hl HL
  have hef1 := hef w1
  have hmix : Try.prog.follows .mixedOrders = true := by kernel_rfl
  clear hlen hB0 hB1 hB2
  refine callsIn_of_wp_marks Try.func38 rfl trivial ?_ rfl
  simp only [Try.ntmps38, List.size_toArray, List.length_cons, List.length_nil, Nat.reduceAdd, Nat.reduceSub, Array.replicate_succ, Array.replicate_zero, List.push_toArray, List.append_toArray, List.nil_append, List.cons_append]
  gi_wp2
  refine ⟨trivial, fun h => by simp [Fence.wide] at h, ((callsIn_wide (n := n - 1)).2 HL.out).mono ?_⟩
  rintro e w2 ⟨rfl, hb2⟩
  have c02 := (hb2.cell (p := ⟨w.heap.size, 0, none⟩) (show w.heap.size < w1.heap.size by omega)).trans c0'
  have c12 := (hb2.cell (p := ⟨w.heap.size + 1, 0, none⟩) (show w.heap.size + 1 < w1.heap.size by omega)).trans c1'
  have hlt2 := hb2.size
  gi_wp2_with (gi_at_make; refine wpListIn_make_own _ rfl _ _ 22 rfl w.heap.size 3 i0 (.int .i64 0) 1 Try.underlying22 hi0 hz0 hz1 .i64 .i64 _ len rfl rfl rfl (by rw [hz2]; omega) (by unfold maxLen; omega) (by omega) ?_; rintro w3 ho3 hg3)
  obtain ⟨g, hg⟩ : ∃ g, w2.heap.size = g := ⟨_, rfl⟩
  rw [hg] at ho3
  have hgl : g < w3.heap.size := by
    rcases t_form ho3 with ⟨h, _⟩ | ⟨g', h, _, h2, _⟩
    · cases h
    · injection h with h; injection h with h; omega
  have hb13 : Below w1.heap.size w1 w3 := hb2.grown hg3 hb2.size (fun k e => by cases e)
  have hh4 := World.alloc_heap_new w3 (Obj.cells #[.slice (some ⟨g, 0, none⟩) 0 len] 22)
  have al4 := t_al w3 (Obj.cells #[.slice (some ⟨g, 0, none⟩) 0 len] 22)
  obtain ⟨w4, hw4⟩ : ∃ w4, w3.alloc (Obj.cells #[.slice (some ⟨g, 0, none⟩) 0 len] 22) = w4 := ⟨_, rfl⟩
  have hsz4 : (w3.alloc (Obj.cells #[.slice (some ⟨g, 0, none⟩) 0 len] 22)).heap.size = w3.heap.size + 1 := by simp
  have ho4 := ho3.alloc (Obj.cells #[.slice (some ⟨g, 0, none⟩) 0 len] 22)
  rw [hw4] at hh4 al4 hsz4 ho4
  have hb14 := hb13.trans (al4.mono hb13.size)
  have hbw4 : Below w.heap.size w w4 := hb1.trans (hb14.mono hb1.size)
  have c04 := (hb14.cell (p := ⟨w.heap.size, 0, none⟩) (show w.heap.size < w1.heap.size by omega)).trans c0'
  have c14 := (hb14.cell (p := ⟨w.heap.size + 1, 0, none⟩) (show w.heap.size + 1 < w1.heap.size by omega)).trans c1'
  have HB4 := Lib.hid ((hb14.block _ (show w.heap.size + 2 < w1.heap.size by omega)).trans HB2.out)
  have cq4 : w4.cell? ⟨w3.heap.size, 0, none⟩ = some (.slice (some ⟨g, 0, none⟩) 0 len) := (cell_at hh4 0).trans rfl
  have fq4 : w4.frozen? ⟨w3.heap.size, 0, none⟩ = false := unfrozen hh4 0
  rw [hg, hw4]
  obtain ⟨q, hq⟩ : ∃ q, w3.heap.size = q := ⟨_, rfl⟩
  rw [hq] at hgl hsz4 cq4 fq4 ⊢
  have hwg : w.heap.size ≤ g := by omega
  have hwg3 : w.heap.size + 3 ≤ g := by omega
  have HT4 := HT.below hbw4
  have HLq := Lib.hid (len_i (w := w4.drew) (HT4.below (Below.refl _ w4).drew))
  rw [nums_len, HLe.out] at HLq
  clear hw1 hw4 hh4 al4 ho3 hg3 hb13 hb2 c02 c12 c0' c1' HL hq hb14 hef1
  rename_i KK hKK
  have key : ∀ (w5 w6 : World), Below w4.heap.size w4 w5 → Five2 w5 x0 ((0 : Nat) : Int) len 69 70 w6 → KK { tmps := #[.agg #[.pointer x0], .func (.func 39) #[] #[pbox A], pbox w.heap.size, pbox (w.heap.size + 1), pbox (w.heap.size + 1 + 1), pbox q, undef, undef, .func (.func 39) #[] #[pbox A], .bool false, undef, .agg #[.pointer x0], .int .i64 len, .slice (some ⟨g, 0, none⟩) 0 len, .agg #[.pointer x0], .agg #[.pointer x0], .int .i64 len, .func (.func 90) #[] #[pbox w5.heap.size, pbox (w5.heap.size + 1), pbox (w5.heap.size + 2), pbox (w5.heap.size + 3), pbox (w5.heap.size + 4)], undef, undef, undef, undef, undef, undef, undef, undef, undef, undef, undef], defers := [] } w6 := by
    intro w5 w6 hb5 F5
    have hb46 := hb5.trans (F5.below.mono hb5.size)
    have hbw6 := hbw4.trans (hb46.mono hbw4.size)
    have ho6 := own_block ho4 (hb46.block g (by omega))
    have cq6 := (hb46.cell (p := ⟨q, 0, none⟩) (show q < w4.heap.size by omega)).trans cq4
    have fq6 := (hb46.frozen (p := ⟨q, 0, none⟩) (show q < w4.heap.size by omega)).trans fq4
    have hs5 := hb5.size
    have hs6 := F5.size
    have hsw := hw.size
    refine hKK _ _ ?_
    clear hKK
    gi_wp2
    refine range_outer (gf := 90) (lb := #[pbox w5.heap.size, pbox (w5.heap.size + 1), pbox (w5.heap.size + 2), pbox (w5.heap.size + 3), pbox (w5.heap.size + 4)]) rfl (fun h => by simp [Fence.wide] at h) rfl trivial (enters_of Try.func90 (by kernel_rfl) rfl)
      (rng_all (n - 1) w0.heap.size (D0 := fun k => w5.heap.size ≤ k ∧ k < w5.heap.size + 5) (by rw [HLe.out]; exact F5) HT0 (hw.trans (hbw6.mono hw.size)) (Nat.le_refl _) (by omega) (fun k h => by omega) (fun k h1 h2 => .inl ⟨h1, h2⟩) (by rw [HLe.out]; omega)) (by omega) (Below.refl _ _) (fun k h => by omega) (fun _ => rfl)
      (MapI w A g q len c0) (fun _ _ _ _ => False) (MapI.firm hwg3 hgl hA) (fun _ _ _ _ _ _ h _ _ => h) ⟨fun k h => by omega, Moves.below hbw6, by omega, cq6, fq6, ho6, (hbw6.cell (p := ⟨A, 0, none⟩) hA).trans cA, (hbw6.frozen (p := ⟨A, 0, none⟩) hA).trans fA, (hb46.cell (p := ⟨w.heap.size + 1, 0, none⟩) (show w.heap.size + 1 < w4.heap.size by omega)).trans c14, (hb46.block _ (by omega)).trans HB4.out⟩
      (fun x a' _ _ => a' = { tmps := #[.agg #[.pointer x0], .func (.func 39) #[] #[pbox A], pbox w.heap.size, pbox (w.heap.size + 1), pbox (w.heap.size + 1 + 1), pbox q, .int .i64 (x.1 : Int), .int .i64 x.2, .func (.func 39) #[] #[pbox A], .bool false, undef, .agg #[.pointer x0], .int .i64 len, .slice (some ⟨g, 0, none⟩) 0 len, .agg #[.pointer x0], .agg #[.pointer x0], .int .i64 len, .func (.func 90) #[] #[pbox w5.heap.size, pbox (w5.heap.size + 1), pbox (w5.heap.size + 2), pbox (w5.heap.size + 3), pbox (w5.heap.size + 4)], .int .i64 (x.1 : Int), .int .i64 x.2, undef, undef, undef, undef, undef, undef, undef, undef, undef], defers := [] })
      (fun x a' E V l r o h _ => h) ?assign ?body ?done ?stop
    case assign =>
      intro l' pre x E V K hl' hi hE hK
      simp only [encP]
      gi_wp2
      exact hK _ E _ (fun k h => h) hE (Same.refl _ _) (Below.refl _ _) hi rfl
    case body =>
      rintro lo pre ⟨k, x⟩ a' E V hEl _ hE ⟨m1, m2, m3, m4, m5, m6, m7, m8, m9, mx⟩ rfl hN
      obtain ⟨rfl, hx⟩ := pairs_inv hN
      have hkl : pre.length < len := by rw [← HLe.out]; exact (List.getElem?_eq_some_iff.1 hx).1
      have ms := m2.size
      have hqV : q < V.heap.size := by omega
      have hgV : g < V.heap.size := by omega
      gi_wp2
      refine (congrArg (fun c => Code.wpIn _ _ Try.prog c _ _ _) (?_ : _ = Code.region 7 ops38 true)).mpr ?_
      · kernel_rfl
      refine regM A g q (w.heap.size + 1) pre.length len V.heap.size (c0 + pre.length) (twV (pre.length, x)) x (B := w.heap.size) (xs := nums (pre.map twV)) rfl rfl rfl rfl rfl rfl (by omega) (by omega) (by omega) (by omega) (by omega) (by omega) (by omega) (by omega) (by omega) (by omega) hkl (by omega) (by omega) m9 rfl ⟨Moves.refl _ _, m7, m8, by simpa using m6, m4, m5, fun h => by cases h⟩ ?_
      rintro a' w' hd hs hfr hI
      have ha := frame_of hd hs hfr [20, 21, 22, 23, 24, 25, 26] (by kernel_rfl)
      simp only [List.foldl_cons, List.foldl_nil] at ha
      clear hd hs hfr
      rw [ha]
      have hms := hI.mv.size
      have kp : ∀ k, k < V.heap.size → k ≠ A → k ≠ g → k ≠ q → w'.heap[k]? = V.heap[k]? := fun k h1 h2 h3 h4 => hI.mv.block k h1 (fun h => by omega)
      have hl' : (pre ++ [(pre.length, x)]).length = pre.length + 1 := by simp
      have hm' : nums ((pre ++ [(pre.length, x)]).map twV) = nums (pre.map twV) ++ [.int .i64 (twV (pre.length, x))] := by rw [List.map_append, ← nums_app]; rfl
      clear ha
      gi_wp2
      refine ⟨fun k hk => kp k (hE k hk) (by have := m1 k hk; omega) (by have := m1 k hk; omega) (by have := m1 k hk; omega), ⟨hI.mv.os, hI.mv.tape, hI.mv.output, hms, fun k hk => kp k (by omega) (by omega) (by omega) (by omega)⟩, m1, ⟨hI.mv.os.trans m2.os, hI.mv.tape.trans m2.tape, hI.mv.output.trans m2.output, Nat.le_trans m2.size hms, fun k hk hA' => (kp k (by omega) (fun e => hA' e) (by omega) (by omega)).trans (m2.block k hk hA')⟩, by omega, ?_, hI.fq, ?_, ?_, hI.fA, (World.cell?_of_block (kp (w.heap.size + 1) (by omega) (by omega) (by omega) (by omega))).trans m9, (kp (w.heap.size + 2) (by omega) (by omega) (by omega) (by omega)).trans mx⟩
      · rw [hl']; exact hI.cq
      · rw [hl', hm']; exact hI.og
      · rw [hl']; exact hI.cA
    case done =>
      rintro d ys E W3 hd hEd rfl ⟨m1, m2, m3, m4, m5, m6, m7, m8, m9, mx⟩ hK
      rw [pairs_len] at m4 m6 m7
      rw [HLe.out] at m4 m6 m7
      have hml : (nums ((pairs xs).map twV)).length = len := by rw [nums_len, List.length_map, pairs_len, HLe.out]
      have HO := Lib.hid (tof_i (n := len) (Sl.own (B := w.heap.size) (e := 3) (by rw [hml]; exact m6) (nums_one _)) hml (by omega) (nums_gd _))
      have M := Lib.hid (And.intro m2 (And.intro m7 (And.intro m8 (And.intro mx hK))))
      have ms := m2.size
      have hqs : q < W3.heap.size := by omega
      have hAW : A < W3.heap.size := by omega
      clear m1 m2 m6 m7 m8 m9 mx hK m5
      gi_wp2
      refine ⟨trivial, fun h => by simp [Fence.wide] at h, ((callsIn_wide (n := n - 1)).2 HO.out).mono ?_⟩
      rintro e W4 ⟨y, rfl, t4, b4⟩
      have hC4 := (b4.block (w.heap.size + 2) (by omega)).trans M.out.2.2.2.1
      have hK4 := (b4.block d (lt_of_at M.out.2.2.2.2)).trans M.out.2.2.2.2
      have zz := fun i => unfrozen hC4 i
      have r0 : W4.cell? ⟨w.heap.size + 2, 0, none⟩ = some (.pointer none) := (cell_at hC4 0).trans rfl
      have T4 := Lib.hid (t4.setNil (u := Value.pointer y) hC4 (by decide) (nums_gd _))
      have hs4 := heap_set_at (o := 0) (u := Value.pointer y) hC4
      have hsz4 := b4.size
      have hdW := lt_of_at M.out.2.2.2.2
      have B4 := Lib.hid b4
      have HS4 := Lib.hid hs4
      have HK4 := Lib.hid hK4
      clear t4 hs4 b4 hC4 hK4 HO
      gi_wp2
      have hK5 : (W4.setCell ⟨w.heap.size + 2, 0, none⟩ (Value.pointer y)).heap[d]? = some (.deferred (some [])) := (heap_set_other (show d ≠ w.heap.size + 2 by omega)).trans HK4.out
      refine ⟨by simp, .inl ⟨_, _, rfl, run_takeDeferred hK5, ?_⟩⟩
      have q0 : ((W4.setCell ⟨w.heap.size + 2, 0, none⟩ (Value.pointer y)).putObj d (.deferred none)).cell? ⟨w.heap.size + 2, 0, none⟩ = some (Value.pointer y) := by
        rw [cell_at ((World.putObj_heap_other (show w.heap.size + 2 ≠ d by omega)).trans HS4.out)]; rfl
      have kA : ∀ k, k < W3.heap.size → k ≠ d → k ≠ w.heap.size + 2 → ((W4.setCell ⟨w.heap.size + 2, 0, none⟩ (Value.pointer y)).putObj d (.deferred none)).heap[k]? = W3.heap[k]? := fun k h1 h2 h3 =>
        (World.putObj_heap_other h2).trans ((heap_set_other h3).trans (B4.out.block k h1))
      have hdA : A ≠ d := by omega
      refine ⟨.agg #[.pointer y], by simp [results, Try.results38, go_sem, q0], y, rfl, T4.out.putDef hK5 _, ?_, ?_, ?_⟩
      · rw [World.cell?_of_block (kA A hAW hdA (by omega)), HLe.out]; exact M.out.2.1
      · rw [World.frozen?_of_block (kA A hAW hdA (by omega))]; exact M.out.2.2.1
      · have gp := grownBy_putObj' (W4.setCell ⟨w.heap.size + 2, 0, none⟩ (Value.pointer y)) d (.deferred none)
        exact ⟨gp.os.trans (B4.out.os.trans M.out.1.os), gp.tape.trans (B4.out.tape.trans M.out.1.tape), gp.output.trans (B4.out.output.trans M.out.1.output), Nat.le_trans (by rw [World.size_setCell]; omega) gp.size, fun k hk hA' => (kA k (by omega) (by omega) (by omega)).trans (M.out.1.block k hk hA')⟩
    case stop =>
      rintro d c pre E W3 hd hEd hSp h hK
      exact h.elim
  clear hKK
  have hq4 : w.heap.size < w4.heap.size := by omega
  have HRgA := fun V (hb : Below w4.heap.size w4 V) => range_call (p := 0) (q := len) 0 (len : Int) (HT4.below hb) (by rw [nums_len]; exact HLe.out) (show len ≤ 1000000 by omega) (by simp [heldN]) (by rw [heldN_nat (Nat.le_refl _)]; exact Nat.max_eq_right (Nat.zero_le _))
  refine wpIn_mono (Q := Exit.then KK (fun _ _ _ => False)) ?_ (fun e a W h => by cases e <;> first | exact h | exact h.elim)
  gi_region_with_o (first
    | (refine ⟨trivial, (fun h => by simp [Fence.wide] at h), ((callsIn_wide (n := n - 1)).2 HLq.out).mono ?_⟩; clear HLq; rintro e V ⟨rfl, hbV⟩
       have hb4V := (Below.refl _ w4).drew.trans hbV
       have c0V := (hb4V.cell (p := ⟨w.heap.size, 0, none⟩) hq4).trans c04
       have HRg := Lib.hid (HRgA V hb4V))
    | (refine ⟨trivial, (fun h => by simp [Fence.wide] at h), ((callsIn_wide (n := n - 1)).2 HRg.out).mono ?_⟩; clear HRg; rintro e w6 ⟨w5, hb5, _, F5, rfl⟩))
  all_goals (exact key _ _ (hb4V.trans (hb5.mono hb4V.size)) F5)

attribute [local go_sem] Oper.semAt_some

/-- The law's question. -/
def isK (K x : Int) : Bool := Int.tmod x 3 == K
set_option maxRecDepth 100000 in
theorem isk_i {w : World} {b : Nat} {K : Int} (x : Int) (hc : w.cell? ⟨b, 0, none⟩ = some (.int .i64 K)) :
    Calls Try.prog 41 #[.int .i64 x, pbox b] w fun e w' => e = .returned (.bool (isK K x)) ∧ w = w' := by
  unfold isK
  go_enter Try.func41, Try.ntmps41
  go_wp2_with fail
  go_ret
  exact ⟨rfl, rfl⟩
theorem fk_eq (b : Nat) (w : World) : Sem.run Try.prog (binOp BinOp.eql 75 (.func (.func 41) #[] #[pbox b]) Value.nilFunc) w = .ok (.bool false) w := by kernel_rfl

/-- The first one from a number on; none: -1. -/
structure FirstK (K : Int) (xs : List Int) (p : Nat) (F : Int) : Prop where
  hit : ∀ (k : Nat) (x : Int), xs[k]? = some x → (∀ (i : Nat) (y : Int), i < k → xs[i]? = some y → isK K y = false) → isK K x = true → F = ((p + k : Nat) : Int)
  miss : (∀ (i : Nat) (y : Int), xs[i]? = some y → isK K y = false) → F = -1
/-- What Index keeps between two rounds, and where it has found. -/
def IdxJ (w w4 : World) (K : Int) (xs : List Int) (pre : List (Nat × Int)) (E : Bls) (W : World) : Prop := (∀ k, E k → w4.heap.size ≤ k) ∧ Below w4.heap.size w4 W ∧ (∀ (i : Nat) (y : Int), i < pre.length → xs[i]? = some y → isK K y = false)
theorem IdxJ.firm {w w4 : World} {K : Int} {xs : List Int} : Firm (IdxJ w w4 K xs) := by
  rintro s D D' W W' ⟨h1, h2, h3⟩ hm hd
  have := h2.size
  exact ⟨fun k hk => (hd k hk).elim (h1 k) (fun h => by omega), ⟨hm.os.trans h2.os, hm.tape.trans h2.tape, hm.output.trans h2.output, Nat.le_trans h2.size hm.size, fun k hk => (hm.block k (by omega) (fun h => by have := h1 k h; omega)).trans (h2.block k hk)⟩, h3⟩
def IdxY (w w4 : World) (q : Nat) (F : Int) (c : Code) (pre : List (Nat × Int)) (E : Bls) (W : World) : Prop := c = .ret ∧ (∀ k, E k → w4.heap.size ≤ k) ∧ Below w.heap.size w W ∧ w4.heap.size ≤ W.heap.size ∧ W.cell? ⟨q, 0, none⟩ = some (.int .i64 F)
theorem IdxY.firm {w w4 : World} {q : Nat} {F : Int} (hw : w.heap.size ≤ w4.heap.size) (hq : q < w4.heap.size) (c : Code) : Firm (IdxY w w4 q F c) := by
  rintro s D D' W W' ⟨h0, h1, h2, h3, h4⟩ hm hd
  have := h2.size
  exact ⟨h0, fun k hk => (hd k hk).elim (h1 k) (fun h => by omega), ⟨hm.os.trans h2.os, hm.tape.trans h2.tape, hm.output.trans h2.output, Nat.le_trans h2.size hm.size, fun k hk => (hm.block k (by omega) (fun h => by have := h1 k h; omega)).trans (h2.block k hk)⟩, Nat.le_trans h3 hm.size, (hm.cell (by omega) (fun h => by have := h1 q h; omega)).trans h4⟩
theorem shift_inv {p : Nat} {xs : List Int} {j k : Nat} {x : Int} (h : (shiftP p (pairs xs))[j]? = some (k, x)) : k = p + j ∧ xs[j]? = some x := by
  unfold shiftP at h
  rw [List.getElem?_map] at h
  obtain ⟨⟨a, b⟩, h1, h2⟩ := Option.map_eq_some_iff.1 h
  obtain ⟨rfl, h3⟩ := pairs_inv h1
  injection h2 with h2 h4
  exact ⟨h2.symm, by rw [h3, ← h4]⟩

set_option maxRecDepth 100000 in
set_option maxHeartbeats 4000000 in
theorem index_gen (n : Nat) {w : World} {A p : Nat} {x0 : Option Addr} {L : List Int} {K F : Int} (I : Int) (HT : Tin w 95 (.pointer x0) (nums L)) (cA : w.cell? ⟨A, 0, none⟩ = some (.int .i64 K)) (hl : L.length ≤ 90000) (hp : heldN I L.length = p) (hF : FirstK K (L.drop p) p F) :
    CallsIn Fence.wide n Try.prog 40 #[.agg #[.pointer x0], .int .i64 I, .func (.func 41) #[] #[pbox A]] w fun e w' => e = .returned (.int .i64 F) ∧ Below w.heap.size w w' := by
  have hA : A < w.heap.size := World.block_lt_of_cell? _ _ cA
  obtain ⟨w4, hw4, hb4, hz4, hB0, hU, hC⟩ := three_blocks w (Obj.cells #[.pointer x0] 27) (Obj.cells #[.func (.func 41) #[] #[pbox A]] 75) (Obj.cells #[Value.int .i64 0] 3)
  have c04 : w4.cell? ⟨w.heap.size, 0, none⟩ = some (.pointer x0) := (cell_at hB0 0).trans rfl
  have c14 : w4.cell? ⟨w.heap.size + 1, 0, none⟩ = some (.func (.func 41) #[] #[pbox A]) := (cell_at hU 0).trans rfl
  have c24 : w4.cell? ⟨w.heap.size + 2, 0, none⟩ = some (.int .i64 0) := (cell_at hC 0).trans rfl
  have f24 : w4.frozen? ⟨w.heap.size + 2, 0, none⟩ = false := unfrozen hC 0
  have cA4 := (hb4.cell (p := ⟨A, 0, none⟩) hA).trans cA
  have HT4 := HT.below hb4
  obtain ⟨len, hlen⟩ : ∃ len, L.length = len := ⟨_, rfl⟩
  have HLe := Lib.hid hlen
  have HLq := Lib.hid (len_i (w := w4.drew) (HT4.below (Below.refl _ w4).drew))
  rw [nums_len] at HLq
  rw [hlen] at hl HLq hp
  have hpl : p ≤ len := by rw [← hp]; exact heldN_le I len
  have hmix : Try.prog.follows .mixedOrders = true := by kernel_rfl
  obtain ⟨xs, hxs⟩ : ∃ xs, L.drop p = xs := ⟨_, rfl⟩
  have HXS := Lib.hid hxs
  have hxl : xs.length = len - p := by rw [← hxs, List.length_drop, hlen]
  have hst : (L.drop p).take (len - p) = xs := by rw [hxs]; exact List.take_of_length_le (by omega)
  have HST := Lib.hid hst
  rw [hxs] at hF
  clear hB0 hU hC hlen hxs hst
  refine callsIn_of_wp_marks Try.func40 rfl trivial ?_ rfl
  simp only [Try.ntmps40, List.size_toArray, List.length_cons, List.length_nil, Nat.reduceAdd, Nat.reduceSub, Array.replicate_succ, Array.replicate_zero, List.push_toArray, List.append_toArray, List.nil_append, List.cons_append]
  have hef := fk_eq A w4
  gi_wp2
  clear hw4 hef
  rename_i KK hKK
  have key : ∀ (w5 w6 : World), Below w4.heap.size w4 w5 → Five2 w5 x0 (p : Int) len 69 70 w6 → KK { tmps := #[.agg #[.pointer x0], .int .i64 I, .func (.func 41) #[] #[pbox A], pbox w.heap.size, undef, pbox (w.heap.size + 1), pbox (w.heap.size + 1 + 1), undef, undef, .func (.func 41) #[] #[pbox A], .bool false, .agg #[.pointer x0], .int .i64 I, .agg #[.pointer x0], .int .i64 len, .func (.func 90) #[] #[pbox w5.heap.size, pbox (w5.heap.size + 1), pbox (w5.heap.size + 2), pbox (w5.heap.size + 3), pbox (w5.heap.size + 4)], undef, undef, undef, undef, undef, undef], defers := [] } w6 := by
    intro w5 w6 hb5 F5
    have hb46 := hb5.trans (F5.below.mono hb5.size)
    have hbw6 := hb4.trans (hb46.mono hb4.size)
    have hs5 := hb5.size
    have hs6 := F5.size
    have hs4 := hb4.size
    refine hKK _ _ ?_
    clear hKK
    gi_wp2
    have HI := rng_f (n - 1) w.heap.size (p := p) (q := len) (D0 := fun k => w5.heap.size ≤ k ∧ k < w5.heap.size + 5) F5 HT hbw6 (Nat.le_refl _) hbw6.size (fun k h => by omega) (fun k h1 h2 => .inl ⟨h1, h2⟩) hpl (by rw [HLe.out]; exact Nat.le_refl _) (by rw [HLe.out]; omega)
    rw [HST.out] at HI
    refine range_outer (gf := 90) (lb := #[pbox w5.heap.size, pbox (w5.heap.size + 1), pbox (w5.heap.size + 2), pbox (w5.heap.size + 3), pbox (w5.heap.size + 4)]) rfl (fun h => by simp [Fence.wide] at h) rfl trivial (enters_of Try.func90 (by kernel_rfl) rfl)
      HI hbw6.size (Below.refl _ _) (fun k h => by omega) (fun _ => rfl)
      (IdxJ w w4 K xs) (IdxY w w4 (w.heap.size + 2) F) IdxJ.firm (IdxY.firm hs4 (by omega)) ⟨fun k h => by omega, hb46, fun i y h => by simp at h⟩
      (fun x a' _ _ => a' = { tmps := #[.agg #[.pointer x0], .int .i64 I, .func (.func 41) #[] #[pbox A], pbox w.heap.size, undef, pbox (w.heap.size + 1), pbox (w.heap.size + 1 + 1), .int .i64 (x.1 : Int), .int .i64 x.2, .func (.func 41) #[] #[pbox A], .bool false, .agg #[.pointer x0], .int .i64 I, .agg #[.pointer x0], .int .i64 len, .func (.func 90) #[] #[pbox w5.heap.size, pbox (w5.heap.size + 1), pbox (w5.heap.size + 2), pbox (w5.heap.size + 3), pbox (w5.heap.size + 4)], .int .i64 (x.1 : Int), .int .i64 x.2, undef, undef, undef, undef], defers := [] })
      (fun x a' E V l r o h _ => h) ?assign ?body ?done ?stop
    case assign =>
      intro l' pre x E V K hl' hi hE hK
      simp only [encP]
      gi_wp2
      exact hK _ E _ (fun k h => h) hE (Same.refl _ _) (Below.refl _ _) hi rfl
    case body =>
      rintro lo pre ⟨k, x⟩ a' E V hEl _ hE ⟨m1, m2, m3⟩ rfl hN
      obtain ⟨rfl, hx⟩ := shift_inv hN
      have c1V := (m2.cell (p := ⟨w.heap.size + 1, 0, none⟩) (show w.heap.size + 1 < w4.heap.size by omega)).trans c14
      have c2V := (m2.cell (p := ⟨w.heap.size + 2, 0, none⟩) (show w.heap.size + 2 < w4.heap.size by omega)).trans c24
      have f2V := (m2.frozen (p := ⟨w.heap.size + 2, 0, none⟩) (show w.heap.size + 2 < w4.heap.size by omega)).trans f24
      have hs := m2.size
      have HI2 := CallsIn.inRound lo ((callsIn_wide (n := n - 1 - 1 - 1)).2 (isk_i (w := V) x ((m2.cell (p := ⟨A, 0, none⟩) (show A < w4.heap.size by omega)).trans cA4)))
      cases hx3 : isK K x with
      | true =>
        rw [hx3] at HI2
        have hFF := hF.hit _ _ hx m3 hx3
        gi_wp2
        refine ⟨trivial, fun h => by simp [Fence.wide] at h, HI2.mono ?_⟩
        rintro e V2 ⟨rfl, rfl⟩
        gi_wp2
        refine ⟨fun k hk => heap_set_other (by have := m1 k hk; omega), rfl, m1, (hb4.trans (m2.mono hs4)).setCell (p := ⟨w.heap.size + 2, 0, none⟩) (by show w.heap.size ≤ w.heap.size + 2; omega) _, by rw [World.size_setCell]; exact hs, ?_⟩
        first
        | (rw [hFF]; exact World.cell?_setCell_same' _ _ _ (by rw [c2V]; rfl))
        | (have hcc : ((p + pre.length : Nat) : Int) = (p : Int) + (pre.length : Int) := by omega
           rw [hFF, hcc]; exact World.cell?_setCell_same' _ _ _ (by rw [c2V]; rfl))
      | false =>
        rw [hx3] at HI2
        gi_wp2
        refine ⟨trivial, fun h => by simp [Fence.wide] at h, HI2.mono ?_⟩
        rintro e V2 ⟨rfl, rfl⟩
        gi_wp2
        refine ⟨Same.refl _ _, Below.refl _ _, m1, m2, fun i y hi hy => ?_⟩
        rw [List.length_append, List.length_singleton] at hi
        by_cases hii : i = pre.length
        · rw [hii, hx] at hy; injection hy with hy; rw [← hy]; exact hx3
        · exact m3 i y (by omega) hy
    case done =>
      rintro d ys E W3 hd hEd rfl ⟨m1, m2, m3⟩ hK
      have hFF := hF.miss (fun i y hy => m3 i y (by unfold shiftP; rw [List.length_map, pairs_len]; exact (List.getElem?_eq_some_iff.1 hy).1) hy)
      have c2V := (m2.cell (p := ⟨w.heap.size + 2, 0, none⟩) (show w.heap.size + 2 < w4.heap.size by omega)).trans c24
      have f2V := (m2.frozen (p := ⟨w.heap.size + 2, 0, none⟩) (show w.heap.size + 2 < w4.heap.size by omega)).trans f24
      have hdW := lt_of_at hK
      have ms := m2.size
      have hK5 : (W3.setCell ⟨w.heap.size + 2, 0, none⟩ (.int .i64 (-1))).heap[d]? = some (.deferred (some [])) := (heap_set_other (show d ≠ w.heap.size + 2 by omega)).trans hK
      have HK5 := Lib.hid hK5
      clear hK hK5
      gi_wp2
      refine ⟨by simp, .inl ⟨_, _, rfl, run_takeDeferred HK5.out, ?_⟩⟩
      have q1 : (W3.setCell ⟨w.heap.size + 2, 0, none⟩ (.int .i64 (-1))).cell? ⟨w.heap.size + 2, 0, none⟩ = some (.int .i64 (-1)) := World.cell?_setCell_same' _ _ _ (by rw [c2V]; rfl)
      have q0 : ((W3.setCell ⟨w.heap.size + 2, 0, none⟩ (.int .i64 (-1))).putObj d (.deferred none)).cell? ⟨w.heap.size + 1 + 1, 0, none⟩ = some (.int .i64 (-1)) := cell_kept q1 (grownBy_putObj' _ d (.deferred none)) (fun r e => by cases e; exact ⟨_, HK5.out, rfl⟩)
      have hsw := hb4.size
      exact ⟨.int .i64 (-1), by simp [results, Try.results40, go_sem, q0], by rw [hFF], ((hb4.trans (m2.mono hsw)).setCell (p := ⟨w.heap.size + 2, 0, none⟩) (by show w.heap.size ≤ w.heap.size + 2; omega) _).grown (grownBy_putObj' _ d (.deferred none)) (by rw [World.size_setCell]; omega) (fun k e => by cases e; omega)⟩
    case stop =>
      rintro d c pre E W3 hd hEd hSp ⟨rfl, m1, m2, m3, m4⟩ hK
      gi_wp2
      refine ⟨by simp, .inl ⟨_, _, rfl, run_takeDeferred hK, ?_⟩⟩
      have m4' : (W3.putObj d (.deferred none)).cell? ⟨w.heap.size + 1 + 1, 0, none⟩ = some (.int .i64 F) := cell_kept m4 (grownBy_putObj' W3 d (.deferred none)) (fun r e => by cases e; exact ⟨_, hK, rfl⟩)
      have ms := m2.size
      exact ⟨.int .i64 F, by simp [results, Try.results40, go_sem, m4'], rfl, m2.grown (grownBy_putObj' W3 d _) ms (fun k e => by cases e; omega)⟩
  clear hKK
  have hq4 : w.heap.size < w4.heap.size := by omega
  have HRgA := fun V (hb : Below w4.heap.size w4 V) => range_call (p := p) (q := len) I (len : Int) (HT4.below hb) (by rw [nums_len]; exact HLe.out) (show len ≤ 1000000 by omega) hp (by rw [heldN_nat (Nat.le_refl _)]; exact Nat.max_eq_right hpl)
  refine wpIn_mono (Q := Exit.then KK (fun _ _ _ => False)) ?_ (fun e a W h => by cases e <;> first | exact h | exact h.elim)
  gi_region_with_o (first
    | (refine ⟨trivial, (fun h => by simp [Fence.wide] at h), ((callsIn_wide (n := n - 1)).2 HLq.out).mono ?_⟩; clear HLq; rintro e V ⟨rfl, hbV⟩
       have hb4V := (Below.refl _ w4).drew.trans hbV
       have c0V := (hb4V.cell (p := ⟨w.heap.size, 0, none⟩) hq4).trans c04
       have HRg := Lib.hid (HRgA V hb4V))
    | (refine ⟨trivial, (fun h => by simp [Fence.wide] at h), ((callsIn_wide (n := n - 1)).2 HRg.out).mono ?_⟩; clear HRg; rintro e w6 ⟨w5, hb5, _, F5, rfl⟩))
  all_goals (exact key _ _ (hb4V.trans (hb5.mono hb4V.size)) F5)

theorem held_le (I : Int) {n k : Nat} (hk : k < n) : heldN I n ≤ k ↔ I ≤ (k : Int) := by
  unfold heldN
  by_cases h1 : I ≤ 0
  · rw [if_pos h1]; omega
  · rw [if_neg h1]
    by_cases h2 : (n : Int) ≤ I
    · rw [if_pos h2]; omega
    · rw [if_neg h2]; omega
/-- There is such an answer. -/
theorem firstK_ex (K : Int) (p : Nat) : ∀ (xs : List Int), ∃ F, FirstK K xs p F := by
  intro xs
  by_cases h : ∃ k : Nat, ∃ x, xs[k]? = some x ∧ isK K x = true
  · have hd : ∀ m : Nat, (∃ k, k ≤ m ∧ ∃ x, xs[k]? = some x ∧ isK K x = true) → ∃ k : Nat, ∃ x, (xs[k]? = some x ∧ isK K x = true) ∧ ∀ (i : Nat) (y : Int), i < k → xs[i]? = some y → isK K y = false := by
      intro m
      induction m with
      | zero =>
        rintro ⟨k, hk, x, hx⟩
        obtain rfl : k = 0 := by omega
        exact ⟨0, x, hx, fun i y hi => by omega⟩
      | succ m ih =>
        rintro ⟨k, hk, x, hx⟩
        by_cases h' : ∃ k, k ≤ m ∧ ∃ x, xs[k]? = some x ∧ isK K x = true
        · exact ih h'
        · have hkm : k = m + 1 := by
            rcases Nat.lt_or_ge m k with h1 | h1
            · omega
            · exact absurd ⟨k, h1, x, hx⟩ h'
          refine ⟨k, x, hx, fun i y hi hy => ?_⟩
          cases hy' : isK K y with
          | false => rfl
          | true => exact absurd ⟨i, by omega, y, hy, hy'⟩ h'
    obtain ⟨k0, x0, h0⟩ := h
    obtain ⟨k, x, ⟨hx, hxk⟩, hmin⟩ := hd k0 ⟨k0, Nat.le_refl _, x0, h0⟩
    refine ⟨((p + k : Nat) : Int), fun k' x' hx' hmin' hxk' => ?_, fun hn => ?_⟩
    · rcases Nat.lt_trichotomy k k' with h1 | h1 | h1
      · have := hmin' k x h1 hx; rw [this] at hxk; cases hxk
      · rw [h1]
      · have := hmin k' x' h1 hx'; rw [this] at hxk'; cases hxk'
    · have := hn k x hx; rw [this] at hxk; cases hxk
  · refine ⟨-1, fun k x hx _ hxk => absurd ⟨k, x, hx, hxk⟩ h, fun _ => rfl⟩

set_option maxRecDepth 100000 in
set_option maxHeartbeats 1000000 in
theorem nindex {w : World} {a : Option Addr} {c p : Nat} {l : List Int} {K F : Int} (I : Int) (H : Sl w a c (nums l)) (hl : l.length ≤ 1000000) (hp : heldN I l.length = p) (hF : FirstK K (l.drop p) p F) :
    Calls Try.prog 42 #[.slice a l.length c, .int .i64 I, .int .i64 K] w fun e w' => e = .returned (.int .i64 F) ∧ w = w' := by
  have HS := Lib.hid H
  obtain ⟨n, hnn⟩ : ∃ n, l.length = n := ⟨_, rfl⟩
  have HN := Lib.hid hnn
  rw [hnn] at hl hp ⊢
  have HP := Lib.hid hp
  have HF := Lib.hid hF
  clear H hnn hp hF
  go_enter Try.func42, Try.ntmps42
  go_wp2_with fail
  go_loopw [11] (fun v wr => ∃ k : Nat, v = .int .i64 k ∧ k ≤ n ∧ (∀ (i : Nat) (y : Int), i < k → p ≤ i → l[i]? = some y → isK K y = false) ∧ wr = w) (fun v _ => n - (intOf v).toNat)
  case atStart => exact ⟨0, rfl, Nat.zero_le _, fun i y h => by omega, rfl⟩
  case round =>
    obtain ⟨k, rfl, hk, hno, rfl⟩ := hrel
    have HNo := Lib.hid hno
    clear hno
    by_cases hlt : k < n
    · have d0 : decide (k < n) = true := decide_eq_true hlt
      obtain ⟨x, hx⟩ : ∃ x, l[k]? = some x := ⟨_, List.getElem?_eq_getElem (by rw [HN.out]; exact hlt)⟩
      obtain ⟨g, o, rfl⟩ := HS.out.numsome (by rw [HN.out]; omega)
      have c0 := (HS.out.num hx).1
      have e0 : (0 : Int) ≤ (k : Int) := by omega
      have e1 : (k : Int) < (n : Int) := by omega
      have HX := Lib.hid hx
      clear hx
      have hIk := held_le I hlt
      rw [HP.out] at hIk
      have HIk := Lib.hid hIk
      clear hIk
      by_cases hI : I ≤ (k : Int)
      · have d1 : decide (I ≤ (k : Int)) = true := decide_eq_true hI
        cases hb : isK K x with
        | true =>
          have d2 : (Int.tmod x 3 == K) = true := hb
          have hpk := HIk.out.2 hI
          have hFF := HF.out.hit (k - p) x (by rw [List.getElem?_drop, show p + (k - p) = k by omega]; exact HX.out) (fun i y hi hy => HNo.out (p + i) y (by omega) (by omega) (by rw [← List.getElem?_drop]; exact hy)) hb
          have HFF := Lib.hid (show F = (k : Int) by rw [hFF]; omega)
          clear hFF hb
          go_wp2_with fail
          go_ret
          exact ⟨by rw [HFF.out]; rfl, rfl⟩
        | false =>
          have d2 : (Int.tmod x 3 == K) = false := hb
          have HB := Lib.hid hb
          clear hb
          go_wp2_with fail
          go_roundw
          case rel =>
            refine ⟨k + 1, by go_num, by omega, fun i y hi hpi hy => ?_, trivial⟩
            by_cases hik : i = k
            · rw [hik, HX.out] at hy; injection hy with hy; rw [← hy]; exact HB.out
            · exact HNo.out i y (by omega) hpi hy
          case measure => simp [intOf]; omega
      · have d1 : decide (I ≤ (k : Int)) = false := decide_eq_false hI
        go_wp2_with fail
        go_roundw
        case rel =>
          refine ⟨k + 1, by go_num, by omega, fun i y hi hpi hy => ?_, trivial⟩
          by_cases hik : i = k
          · exact absurd (HIk.out.1 (by omega)) hI
          · exact HNo.out i y (by omega) hpi hy
        case measure => simp [intOf]; omega
    · have d0 : decide (k < n) = false := decide_eq_false hlt
      have hFF := HF.out.miss (fun i y hy => by
        rw [List.getElem?_drop] at hy
        have := (List.getElem?_eq_some_iff.1 hy).1
        have := HN.out
        exact HNo.out (p + i) y (by omega) (by omega) hy)
      have HFF := Lib.hid hFF
      clear hFF
      go_wp2_with fail
      go_ret
      exact ⟨by rw [HFF.out]; rfl, rfl⟩

/-- What stands on the way. -/
structure Mp (w : World) (g : Nat) (x1 a : Option Addr) (c : Nat) (l : List Int) (W : World) : Prop where
  below : Below w.heap.size w W
  lt : g < W.heap.size
  q1 : W.cell? ⟨g, 0, none⟩ = some (.pointer x1)
  t1 : Tin W 95 (.pointer x1) (nums l)
  s1 : Sl W a c (nums l)
theorem Mp.grow {w W W' : World} {g : Nat} {x1 a : Option Addr} {c : Nat} {l : List Int} (h : Mp w g x1 a c l W) (hb : Below W.heap.size W W') : Mp w g x1 a c l W' :=
  ⟨h.below.trans (hb.mono h.below.size), Nat.lt_of_lt_of_le h.lt hb.size, (hb.cell (p := ⟨g, 0, none⟩) h.lt).trans h.q1, h.t1.below hb, h.s1.below hb⟩
theorem pairs_snoc {l : List Int} {k : Nat} {x : Int} (h : l[k]? = some x) : (pairs (l.take (k + 1))).map twV = (pairs (l.take k)).map twV ++ [twV (k, x)] := by
  have hk := (List.getElem?_eq_some_iff.1 h).1
  have hl : (l.take k).length = k := by rw [List.length_take]; omega
  rw [← take_snoc h, pairs_app, hl, List.map_append]
  rfl

set_option maxRecDepth 100000 in
set_option maxHeartbeats 4000000 in
theorem walkMaps_walk (a : Option Addr) (c : Nat) (l0 : List Int) (I kd : Int) (w : World) (hl0 : Sl w a c (l0.map (Value.int .i64)) ∧ ∀ x ∈ l0, I64 x) (hI0 : -9223372036854775808 ≤ I) (hI1 : I ≤ 9223372036854775807) (hk0 : 0 ≤ kd) (hk1 : kd ≤ 255) :
    Calls Try.prog 9 #[.slice a l0.length c, .int .i64 I, .int .u8 kd] w fun e w' => e = .returned (.bool true) ∧ Below w.heap.size w w' := by
  obtain ⟨i0, hi0, hz0, hz1, hz2⟩ := info_parts info_int
  have hl1 : Sl w a c (nums l0) := hl0.1
  have HF1 := Lib.hid (nfew10 l0 hl1)
  have hlen : (l0.take 300).length ≤ 300 := by rw [List.length_take]; omega
  generalize l0.take 300 = l at *
  generalize l0.length = n0 at *
  obtain ⟨n, hn⟩ : ∃ n, l.length = n := ⟨_, rfl⟩
  have HN := Lib.hid hn
  rw [hn] at hlen HF1
  clear hl0 hl1 hn
  go_enter Try.func9, Try.ntmps9
  go_wp2_with fail
  refine HF1.out.mono ?_; clear HF1; rintro e w2 ⟨rfl, s1, rfl⟩
  have S1 := Lib.hid s1
  have HO := Lib.hid (tof_i S1.out (by rw [nums_len, HN.out]) (show n ≤ 90000 by omega) (nums_gd _))
  clear s1
  go_wp2_with fail
  refine HO.out.mono ?_; clear HO; rintro e w3 ⟨x1, rfl, t1, b3⟩
  have hh5 := World.alloc_heap_new w3 (Obj.cells #[.pointer x1] 27)
  have hb5 := t_al w3 (Obj.cells #[.pointer x1] 27)
  have hz5 : (w3.alloc (Obj.cells #[.pointer x1] 27)).heap.size = w3.heap.size + 1 := by simp
  obtain ⟨w5, hw5⟩ : ∃ w5, w3.alloc (Obj.cells #[.pointer x1] 27) = w5 := ⟨_, rfl⟩
  rw [hw5] at hh5 hb5 hz5
  have hb15 := b3.trans (hb5.mono b3.size)
  have q1 : w5.cell? ⟨w3.heap.size, 0, none⟩ = some (.pointer x1) := by rw [cell_at hh5]; rfl
  have C0 : Mp w w3.heap.size x1 a c l w5 := ⟨hb15, by omega, q1, t1.below hb5, S1.out.below hb15⟩
  have HC := Lib.hid C0
  clear t1 b3 hb5 hb15 C0 S1 hh5 hz5 q1
  go_wp2_with fail
  clear hw5
  generalize w3.heap.size = gt at *
  go_loopw [8, 20] (fun v8 v20 wr => ∃ k : Nat, v20 = .int .i64 k ∧ k ≤ n ∧ wr.ownsRow w5.heap.size 3 1 v8 k (nums ((pairs (l.take k)).map twV)) ∧ Below w5.heap.size w5 wr) (fun _ v20 _ => n - (intOf v20).toNat)
  case atStart => exact ⟨0, rfl, Nat.zero_le _, t_nil _ _ _ _, Below.refl _ _⟩
  case round =>
    obtain ⟨k, rfl, hk, hown, hb⟩ := hrel
    have HB := Lib.hid hb
    have HO := Lib.hid hown
    have C1 := Lib.hid (HC.out.grow hb)
    clear hb hown
    by_cases hlt : k < n
    · have dk : decide (k < n) = true := decide_eq_true hlt
      obtain ⟨x, hx⟩ : ∃ x, l[k]? = some x := ⟨_, List.getElem?_eq_getElem (by rw [HN.out]; omega)⟩
      obtain ⟨g, o, rfl⟩ := C1.out.s1.numsome (by rw [HN.out]; omega)
      have c0 := (C1.out.s1.num hx).1
      have e0 : (0 : Int) ≤ (k : Int) := by omega
      have e1 : (k : Int) < (n : Int) := by omega
      have HX := Lib.hid hx
      clear hx
      go_wp2_with (first
        | (at_builtin; refine wpList_append_own _ rfl _ _ 22 rfl w5.heap.size 3 i0 (.int .i64 0) 1 8 Try.underlying22 hi0 hz0 hz1 hz2 rfl (by decide) _ _ _ rfl (HO.out.alloc _) ⟨wr.heap.size, 0, none⟩ 1 1 [.int .i64 (twV (k, x))] rfl rfl ?c1 ?c2 ?c3 ?c4 ?c5 ?_)
        | fail)
      case c1 =>
        intro j u hj
        match j, hj with
        | 0, hj => simp at hj; subst hj; simp [Addr.add, twV]
      case c2 => intro u hu; simp at hu; subst hu; rfl
      case c3 => unfold maxLen; omega
      case c4 => omega
      case c5 => have := HB.out.size; simp; omega
      intro v' w6 hown' hgrow _
      have hbb := (HB.out.alloc HB.out.size (Obj.cells #[.int .i64 (twV (k, x))] 3)).grown hgrow (by have := HB.out.size; simp only [World.size_alloc]; omega) (fun q hq => (HO.out.lt q hq).1)
      have HG := Lib.hid (And.intro hbb hown')
      clear hgrow hown' hbb
      go_wp2_with fail
      go_roundw
      case rel => exact ⟨k + 1, by go_num, by omega, by rw [pairs_snoc HX.out, ← nums_app]; exact HG.out.2, HG.out.1⟩
      case measure => simp [intOf]; omega
    · have dk : decide (k < n) = false := decide_eq_false hlt
      obtain rfl : k = n := by omega
      have htk : l.take k = l := List.take_of_length_le (by rw [HN.out]; omega)
      rw [htk] at HO
      obtain ⟨M, hM⟩ : ∃ M, (pairs l).map twV = M := ⟨_, rfl⟩
      rw [hM] at HO
      have hML : M.length = k := by rw [← hM, List.length_map, pairs_len, HN.out]
      obtain ⟨aw, cw, rfl⟩ : ∃ aw cw, u8 = .slice aw k cw := by
        rcases HO.out.2 with ⟨h1, h2⟩ | ⟨g, cap, cur, h1, _⟩
        · exact ⟨none, 0, by rw [h1, h2]⟩
        · exact ⟨_, _, h1⟩
      have hSw : Sl wr aw cw (nums M) := Sl.own (B := w5.heap.size) (e := 3) (by rw [nums_len, hML]; exact HO.out) (nums_one _)
      have HSw := Lib.hid hSw
      have q1 := C1.out.q1
      have hh7 := heap_alloc_new wr (Obj.cells #[.int .i64 0] 3)
      have al7 := t_al wr (Obj.cells #[.int .i64 0] 3)
      have hz7 : (wr.alloc (Obj.cells #[.int .i64 0] 3)).heap.size = wr.heap.size + 1 := by simp
      have hMap := callsIn_wide.1 (map_in 0 (w0 := wr) (w := wr.alloc (Obj.cells #[.int .i64 0] 3)) (A := wr.heap.size) (c0 := 0) (x0 := x1) (xs := l) al7 C1.out.t1 (Nat.le_refl _) (by omega) ((cell_at hh7 0).trans rfl) (unfrozen hh7 0) (by rw [HN.out]; omega) (by omega))
      rw [hM, HN.out, Nat.zero_add] at hMap
      have HMap := Lib.hid hMap
      have AL7 := Lib.hid al7
      have q17 := (al7.cell (p := ⟨gt, 0, none⟩) C1.out.lt).trans q1
      clear hMap hSw htk HO hML al7 hh7 HB q1
      go_wp2_with fail
      refine HMap.out.mono ?_; clear HMap; rintro e w8 ⟨y, rfl, t8, c8, f8, mv8⟩
      have hb8 : Below wr.heap.size wr w8 := ⟨mv8.os.trans AL7.out.os, mv8.tape.trans AL7.out.tape, mv8.output.trans AL7.out.output, Nat.le_trans AL7.out.size mv8.size, fun k' hk' => (mv8.block k' (by omega) (by omega)).trans (AL7.out.block k' hk')⟩
      have hA8 : wr.heap.size < w8.heap.size := by have := mv8.size; omega
      have hh9 := heap_alloc_new w8 (Obj.cells #[.pointer y] 27)
      have al9 := t_al w8 (Obj.cells #[.pointer y] 27)
      have hz9 : (w8.alloc (Obj.cells #[.pointer y] 27)).heap.size = w8.heap.size + 1 := by simp
      obtain ⟨w9, hw9⟩ : ∃ w9, w8.alloc (Obj.cells #[.pointer y] 27) = w9 := ⟨_, rfl⟩
      rw [hw9] at hh9 al9 hz9
      have C9 := Lib.hid (C1.out.grow (hb8.trans (al9.mono hb8.size)))
      have T9 := Lib.hid (And.intro (t8.below al9) (HSw.out.below (hb8.trans (al9.mono hb8.size))))
      have cA9 := (al9.cell (p := ⟨wr.heap.size, 0, none⟩) hA8).trans c8
      have cu9 : w9.cell? ⟨w8.heap.size, 0, none⟩ = some (.pointer y) := (cell_at hh9 0).trans rfl
      have hA9 : wr.heap.size < w9.heap.size := by omega
      clear t8 c8 f8 mv8 hb8 hh9 al9 HSw AL7 q17
      go_upto_region 12 with fail
      have hhK := heap_alloc_new w9 (Obj.cells #[.int .i64 (kd % 3)] 3)
      have alK := t_al w9 (Obj.cells #[.int .i64 (kd % 3)] 3)
      have hzK : (w9.alloc (Obj.cells #[.int .i64 (kd % 3)] 3)).heap.size = w9.heap.size + 1 := by simp
      obtain ⟨wK, hwK⟩ : ∃ wK, w9.alloc (Obj.cells #[.int .i64 (kd % 3)] 3) = wK := ⟨_, rfl⟩
      rw [hwK] at hhK alK hzK ⊢
      rw [hz9] at hhK
      have cK0 : wK.cell? ⟨w8.heap.size + 1, 0, none⟩ = some (.int .i64 (kd % 3)) := (cell_at hhK 0).trans rfl
      have CK := Lib.hid (C9.out.grow alK)
      have TK := Lib.hid (And.intro (T9.out.1.below alK) (T9.out.2.below alK))
      have cAK := (alK.cell (p := ⟨wr.heap.size, 0, none⟩) hA9).trans cA9
      have cuK := (alK.cell (p := ⟨w8.heap.size, 0, none⟩) (show w8.heap.size < w9.heap.size by omega)).trans cu9
      have cgK := CK.out.q1
      have hgK := CK.out.lt
      have hlK : w8.heap.size + 1 < wK.heap.size := by omega
      have hlA : wr.heap.size < wK.heap.size := by omega
      generalize kd % 3 = K at *
      obtain ⟨p, hp⟩ : ∃ p, heldN I k = p := ⟨_, rfl⟩
      obtain ⟨F, hF⟩ := firstK_ex K p (l.drop p)
      have HFi := Lib.hid (fun w' (hb : Below wK.heap.size wK w') => Fits_of (TK.out.1.below hb) (TK.out.2.below hb) (by rw [← hM, List.length_map, pairs_len, HN.out]; omega))
      have hML : M.length = k := by rw [← hM, List.length_map, pairs_len, HN.out]
      rw [hML] at HFi
      have HIx := Lib.hid (fun w' (hb : Below wK.heap.size wK w') => callsIn_wide.1 (index_gen 0 (A := w8.heap.size + 1) I (CK.out.t1.below hb) ((hb.cell (p := ⟨w8.heap.size + 1, 0, none⟩) hlK).trans cK0) (by rw [HN.out]; omega) (by rw [HN.out]; exact hp) hF))
      have HNx := Lib.hid (fun w' (hb : Below wK.heap.size wK w') => nindex I (CK.out.s1.below hb) (by rw [HN.out]; omega) (by rw [HN.out]; exact hp) hF)
      rw [HN.out] at HNx
      have HAw := Lib.hid (fun (w' : World) => awake10_of (w := w'))
      have ld0 := fun w' (h : Below wK.heap.size wK w') => (h.cell (p := ⟨w8.heap.size, 0, none⟩) (by show w8.heap.size < _; omega)).trans cuK
      have ld1 := fun w' (h : Below wK.heap.size wK w') => (h.cell (p := ⟨wr.heap.size, 0, none⟩) hlA).trans cAK
      have ld2 := fun w' (h : Below wK.heap.size wK w') => (h.cell (p := ⟨gt, 0, none⟩) hgK).trans cgK
      have ld3 := fun w' (h : Below wK.heap.size wK w') => (h.cell (p := ⟨w8.heap.size + 1, 0, none⟩) hlK).trans cK0
      have hq1 : ((k : Int) == (k : Int)) = true := by simp
      have hq2 : (F == F) = true := by simp
      have hsB0 : Below wK.heap.size wK wK.drew := (Below.refl _ _).drew
      have B0 := Lib.hid hsB0
      have HC9 := CK
      clear hhK alK hzK hwK cK0 cAK cuK cgK hgK hlK hlA hML hM hp hF C9 T9 cA9 cu9 hz9 hw9 C1 HC hA8 hA9 TK dk hlt
      go_region_held3 (fun w' => Below wK.heap.size wK w')
        (first | assumption)
        ((first
          | (go_at_call 32; have XX := B3; clear XX; refine (HAw.out _).mono ?_; rintro e wZ ⟨rfl, hbZ⟩; have hsB4 := hsB3.trans (hbZ.mono hsB3.size); have B4 := Lib.hid hsB4; clear hbZ)
          | (go_at_call 42; have XX := B2; clear XX; refine (HNx.out _ B2.out).mono ?_; rintro e wY ⟨rfl, rfl⟩; have hsB3 := hsB2; have B3 := B2)
          | (go_at_call 40; have XX := B1; clear XX; refine (HIx.out _ B1.out).mono ?_; rintro e wX ⟨rfl, hbX⟩; have hsB2 := hsB1.trans (hbX.mono hsB1.size); have B2 := Lib.hid hsB2; clear hbX)
          | (go_at_call 13; refine (HFi.out _ B0.out).mono ?_; rintro e wW ⟨rfl, hbW⟩; have hsB1 := hsB0.trans (hbW.mono hsB0.size); have B1 := Lib.hid hsB1; clear hbW)))
      all_goals
        clear ld0 ld1 ld2 ld3
        go_wp2_with fail
        go_ret
        exact ⟨rfl, HC9.out.below.trans (B4.out.mono HC9.out.below.size)⟩

end Go.Proofs.Ytofncnommekbjaa
