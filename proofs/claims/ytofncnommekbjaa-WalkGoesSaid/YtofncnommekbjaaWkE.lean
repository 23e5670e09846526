/-
  The contract of through's iterator at a tree that is one leaf: all of it, in order.
-/
import Derived.Test.YtofncnommekbjaaWkD
namespace Go.Proofs.Ytofncnommekbjaa
open Go Go.RowKit Go.Shelf
set_option linter.unusedVariables false
attribute [local go_sem] Oper.semAt_some

abbrev pbox (b : Nat) : Value := .pointer (some ⟨b, 0, none⟩)
abbrev fnv (k : Nat) : Value := .func (.func k) #[] #[]

theorem allocs : ∀ (os : List Obj) (w : World), Below w.heap.size w (os.foldl World.alloc w) ∧ (os.foldl World.alloc w).heap.size = w.heap.size + os.length ∧ ∀ i, i < os.length → (os.foldl World.alloc w).heap[w.heap.size + i]? = os[i]?
  | [], w => ⟨Below.refl _ _, rfl, fun i h => by simp at h⟩
  | o :: os, w => by
    obtain ⟨h1, h2, h3⟩ := allocs os (w.alloc o)
    rw [World.size_alloc] at h1 h2 h3
    have hb := t_al w o
    refine ⟨hb.trans (h1.mono (by omega)), by rw [List.foldl_cons, h2, List.length_cons]; omega, fun i hi => ?_⟩
    rw [List.foldl_cons]
    match i with
    | 0 => exact (h1.block _ (by omega)).trans (World.alloc_heap_new w o)
    | i + 1 =>
      rw [show w.heap.size + (i + 1) = w.heap.size + 1 + i by omega]
      exact h3 i (by simp at hi; omega)

theorem Same.lt {D : Bls} {w W : World} (h : Same D w W) (hD : Have D w) {k : Nat} (hk : D k) : k < W.heap.size := by
  have h1 := h k hk
  rw [Array.getElem?_eq_getElem (hD k hk)] at h1
  exact lt_of_at h1
/-- What a loop over an iterator within an iterator keeps, beside its own word: the blocks of D1, and what lies below n₀. -/
def Keep {α β : Type} (J : β → Bls → World → Prop) (f : α → β) (D1 : Bls) (w2 : World) (n₀ : Nat) : α → Bls → World → Prop :=
  fun s E W => (∀ k, E k → n₀ ≤ k ∧ ¬ D1 k) ∧ Below n₀ w2 W ∧ Same D1 w2 W ∧ J (f s) (fun k => E k ∨ D1 k) W
theorem Keep.firm {α β : Type} {J : β → Bls → World → Prop} (hJ : Firm J) (f : α → β) {D1 : Bls} {w2 : World} {n₀ : Nat} (hn : n₀ ≤ w2.heap.size) (hD : Have D1 w2) : Firm (Keep J f D1 w2 n₀) := by
  rintro s D D' W W' ⟨h1, h2, h3, h4⟩ hm hd
  have hsz := h2.size
  refine ⟨fun k hk => (hd k hk).elim (h1 k) (fun h => ⟨by omega, fun h' => by have := hD k h'; omega⟩), ⟨hm.os.trans h2.os, hm.tape.trans h2.tape, hm.output.trans h2.output, Nat.le_trans h2.size hm.size, fun k hk => (hm.block k (by omega) (fun h => by have := (h1 k h).1; omega)).trans (h2.block k hk)⟩, fun k hk => (hm.block k (h3.lt hD hk) (fun h => (h1 k h).2 hk)).trans (h3 k hk), hJ _ _ _ _ _ h4 (hm.mono fun _ h => .inl h) (fun k hk => hk.elim (fun h => (hd k h).elim (fun h => .inl (.inl h)) .inr) (fun h => .inl (.inr h)))⟩
def KeepX {α γ : Type} (Jx : List γ → Bls → World → Prop) (Sp : α → List γ → Prop) (D1 : Bls) (w2 : World) : Code → α → Bls → World → Prop :=
  fun c s E W => c = .ret ∧ (∀ k, D1 k → ¬ E k) ∧ Same D1 w2 W ∧ ∃ q, Sp s q ∧ Jx q (fun k => E k ∨ D1 k) W
theorem KeepX.firm {α γ : Type} {Jx : List γ → Bls → World → Prop} (hJ : Firm Jx) (Sp : α → List γ → Prop) {D1 : Bls} {w2 : World} (hD : Have D1 w2) (c : Code) : Firm (KeepX (α := α) Jx Sp D1 w2 c) := by
  rintro s D D' W W' ⟨h0, h1, h3, q, hq, h4⟩ hm hd
  refine ⟨h0, fun k hk h => (hd k h).elim (h1 k hk) (fun h => by have := h3.lt hD hk; omega), fun k hk => (hm.block k (h3.lt hD hk) (h1 k hk)).trans (h3 k hk), q, hq, hJ _ _ _ _ _ h4 (hm.mono fun _ h => .inl h) (fun k hk => hk.elim (fun h => (hd k h).elim (fun h => .inl (.inl h)) .inr) (fun h => .inl (.inr h)))⟩
theorem pairs_inv {xs : List Int} {j k : Nat} {x : Int} (h : (pairs xs)[j]? = some (k, x)) : k = j ∧ xs[j]? = some x := by
  have hj := (List.getElem?_eq_some_iff.1 h).1
  rw [pairs_len] at hj
  have h2 : xs[j]? = some xs[j] := List.getElem?_eq_getElem hj
  have h3 := pairs_at h2
  rw [h3] at h
  injection h with h
  injection h with h4 h5
  exact ⟨h4.symm, by rw [h2, h5]⟩
theorem cell_put {V : World} {l b o : Nat} {r : Loop} {x : Obj} {v : Value} (h : V.cell? ⟨b, o, none⟩ = some v) (hl : V.heap[l]? = some (.loop r)) : (V.putObj l x).cell? ⟨b, o, none⟩ = some v :=
  cell_kept h (grownBy_putObj' V l x) (fun r' e => by cases e; exact ⟨_, hl, rfl⟩)

set_option maxRecDepth 100000 in
set_option maxHeartbeats 2000000 in
theorem leaves_i {w : World} (b pk : Nat) (I K : Int) :
    Calls Try.prog 91 #[.agg #[ptr b], .int .i64 I, .int .i64 K, fnv pk] w fun e w' => e = .returned (.func (.func 103) #[] #[pbox (w.heap.size + 1), pbox (w.heap.size + 2), pbox w.heap.size, pbox (w.heap.size + 3)]) ∧ Below w.heap.size w w' ∧ w'.heap.size = w.heap.size + 4 ∧
      w'.cell? ⟨w.heap.size, 0, none⟩ = some (ptr b) ∧ w'.cell? ⟨w.heap.size + 1, 0, none⟩ = some (.int .i64 I) ∧ w'.cell? ⟨w.heap.size + 2, 0, none⟩ = some (.int .i64 K) := by
  go_enter Try.func91, Try.ntmps91
  go_wp2_with fail
  go_ret
  obtain ⟨h1, h2, h3⟩ := allocs [Obj.cells #[ptr b] 27, Obj.cells #[Value.int .i64 I] 3, Obj.cells #[Value.int .i64 K] 3, Obj.cells #[fnv pk] 107] w
  exact ⟨rfl, h1, h2, (cell_at (h3 0 (by simp)) 0).trans rfl, (cell_at (h3 1 (by simp)) 0).trans rfl, (cell_at (h3 2 (by simp)) 0).trans rfl⟩

set_option maxRecDepth 100000 in
set_option maxHeartbeats 2000000 in
theorem sall_i {w : World} (a : Option Addr) (len c : Nat) :
    Calls Try.prog 70 #[.slice a len c] w fun e w' => e = .returned (.func (.func 92) #[] #[pbox w.heap.size]) ∧ w.alloc (.cells #[.slice a len c] 22) = w' := by
  go_enter Try.func70, Try.ntmps70
  go_wp2_with fail
  go_ret
  exact ⟨rfl, rfl⟩

set_option maxRecDepth 100000 in
set_option maxHeartbeats 2000000 in
theorem thru_iter (n n₀ Bt Bi Bj Bp Bw : Nat) {w0 w : World} {b : Nat} {xs : List Int} {D0 : Bls} (hw : Below w0.heap.size w0 w) (hn0 : w0.heap.size ≤ n₀) (hn : n₀ ≤ w.heap.size) (hD0 : Have D0 w) (di : D0 Bi) (dj : D0 Bj) (dt : D0 Bt) (dp : D0 Bp) (dw : D0 Bw)
    (ct : w.cell? ⟨Bt, 0, none⟩ = some (ptr b)) (ci : w.cell? ⟨Bi, 0, none⟩ = some (.int .i64 0)) (cj : w.cell? ⟨Bj, 0, none⟩ = some (.int .i64 xs.length)) (cp : w.cell? ⟨Bp, 0, none⟩ = some (fnv 69)) (cw : w.cell? ⟨Bw, 0, none⟩ = some (fnv 70))
    (HT : Tin w0 95 (ptr b) (nums xs)) (H : In w0 95 0 (nums xs) b) (hL : 0 < xs.length) (hl : xs.length ≤ 1000000) :
    Iter Fence.wide n Try.prog 90 #[pbox Bt, pbox Bi, pbox Bj, pbox Bp, pbox Bw] encP n₀ (fun ys => ys = pairs xs) (fun pre => pre <+: pairs xs) (fun pre x => (pairs xs)[pre.length]? = some x) D0 w := fun l J Jx W hW hJ hJx hY h0 => by
  have hlt (k : Nat) (h : D0 k) : k < W.heap.size := Nat.lt_of_lt_of_le (hD0 k h) hW.size
  have ct' := (hW.cell (p := ⟨Bt, 0, none⟩) (hD0 _ dt)).trans ct
  have ci' := (hW.cell (p := ⟨Bi, 0, none⟩) (hD0 _ di)).trans ci
  have cj' := (hW.cell (p := ⟨Bj, 0, none⟩) (hD0 _ dj)).trans cj
  have cp' := (hW.cell (p := ⟨Bp, 0, none⟩) (hD0 _ dp)).trans cp
  have cw' := (hW.cell (p := ⟨Bw, 0, none⟩) (hD0 _ dw)).trans cw
  obtain ⟨w1, hw1, hb1, hz1, hh1⟩ : ∃ w1, W.alloc (Obj.cells #[.func (.yield l) #[] #[]] 125) = w1 ∧ Below W.heap.size W w1 ∧ w1.heap.size = W.heap.size + 1 ∧ w1.heap[W.heap.size]? = some (.cells #[.func (.yield l) #[] #[]] 125 (0, 0)) := ⟨_, rfl, t_al _ _, by simp, World.alloc_heap_new _ _⟩
  have ct1 := (hb1.cell (p := ⟨Bt, 0, none⟩) (hlt _ dt)).trans ct'
  have ci1 := (hb1.cell (p := ⟨Bi, 0, none⟩) (hlt _ di)).trans ci'
  have cj1 := (hb1.cell (p := ⟨Bj, 0, none⟩) (hlt _ dj)).trans cj'
  have cp1 := (hb1.cell (p := ⟨Bp, 0, none⟩) (hlt _ dp)).trans cp'
  have cw1 := (hb1.cell (p := ⟨Bw, 0, none⟩) (hlt _ dw)).trans cw'
  have cy1 : w1.cell? ⟨W.heap.size, 0, none⟩ = some (.func (.yield l) #[] #[]) := by rw [cell_at hh1]; rfl
  clear ct ci cj cp cw ct' ci' cj' cp' cw'
  refine callsIn_of_wp_marks Try.func90 rfl trivial ?_ rfl
  simp only [Try.ntmps90, List.size_toArray, List.length_cons, List.length_nil, Nat.reduceAdd, Nat.reduceSub, Array.replicate_succ, Array.replicate_zero, List.push_toArray, List.append_toArray, List.nil_append, List.cons_append]
  gi_wp2
  refine ⟨trivial, fun h => by simp [Fence.wide] at h, ((callsIn_wide (n := n - 1)).2 (leaves_i b _ 0 xs.length)).mono ?_⟩
  rintro e w2 ⟨rfl, hb2, hz2, e0, e1, e2⟩
  gi_wp2
  obtain ⟨D1, hD1⟩ : ∃ D1 : Bls, D1 = fun k => D0 k ∨ (W.heap.size ≤ k ∧ k < w2.heap.size) := ⟨_, rfl⟩
  have d1 (k : Nat) (h : D0 k) : D1 k := by rw [hD1]; exact .inl h
  have d1' (k : Nat) (h : W.heap.size ≤ k) (h' : k < w2.heap.size) : D1 k := by rw [hD1]; exact .inr ⟨h, h'⟩
  have x1 (k : Nat) (h : D1 k) : D0 k ∨ (W.heap.size ≤ k ∧ k < w2.heap.size) := by rw [hD1] at h; exact h
  clear hD1
  have hb02 : Below W.heap.size W w2 := hb1.trans (hb2.mono hb1.size)
  have hn2 : n₀ ≤ w2.heap.size := by have := hW.size; omega
  have hD1h : Have D1 w2 := fun k h => (x1 k h).elim (fun h => by have := hlt k h; omega) (fun h => h.2)
  have hJ2 : J [] D1 w2 := hJ _ _ _ _ _ h0 (Moves.below hb02) (fun k h => (x1 k h).elim .inl (fun h => .inr h.1))
  have hb002 : Below w0.heap.size w0 w2 := hw.trans ((hW.mono hw.size).trans (hb02.mono (Nat.le_trans hw.size hW.size)))
  have HTw := HT.below hb002
  have Hw := H.below hb002
  have ci2 := (hb2.cell (p := ⟨Bi, 0, none⟩) (show Bi < w1.heap.size by have := hlt _ di; omega)).trans ci1
  have cj2 := (hb2.cell (p := ⟨Bj, 0, none⟩) (show Bj < w1.heap.size by have := hlt _ dj; omega)).trans cj1
  have cw2 := (hb2.cell (p := ⟨Bw, 0, none⟩) (show Bw < w1.heap.size by have := hlt _ dw; omega)).trans cw1
  have cy2 := (hb2.cell (p := ⟨W.heap.size, 0, none⟩) (show W.heap.size < w1.heap.size by omega)).trans cy1
  rw [hz1] at hz2 e0 e1 e2
  refine range_outer (gf := 103) (lb := #[pbox (W.heap.size + 1 + 1), pbox (W.heap.size + 1 + 2), pbox (W.heap.size + 1), pbox (W.heap.size + 1 + 3)]) rfl (fun h => by simp [Fence.wide] at h) rfl trivial (enters_of Try.func103 (by kernel_rfl) rfl)
    (leaf_iter (n - 1) n₀ (W.heap.size + 1 + 1) (W.heap.size + 1 + 2) (W.heap.size + 1) (W.heap.size + 1 + 3) (w := w2) (b := b) (L := nums xs) (fnv 0) (by omega) (by omega) (by omega) hn2 e1 (by rw [nums_len]; exact e2) e0 HTw Hw (by rw [nums_len]; exact hL) (by rw [nums_len]; exact hl)) hn2 (Below.refl _ _) (fun k h => h.elim) (fun _ => rfl)
    (Keep J (fun pre => if pre = [] then [] else pairs xs) D1 w2 n₀) (KeepX Jx (fun _ q => q <+: pairs xs) D1 w2) (Keep.firm hJ _ hn2 hD1h) (KeepX.firm hJx _ hD1h) ⟨fun k h => h.elim, Below.refl _ _, Same.refl _ _, hJ _ _ _ _ _ hJ2 (Moves.below (Below.refl _ _)) (fun k h => h.elim (fun h => h.elim) .inl)⟩
    (fun x a' E W' => ∃ sb, E sb ∧ W'.cell? ⟨sb, 0, none⟩ = some (ptr x.1) ∧ W'.cell? ⟨sb, 1, none⟩ = some (.int .i64 (x.2 : Int)) ∧ a' = { tmps := #[.func (.yield l) #[] #[], pbox Bt, pbox Bi, pbox Bj, pbox Bp, pbox Bw, pbox W.heap.size, pbox sb, undef, undef, undef, .agg #[ptr b], .int .i64 0, .int .i64 xs.length, fnv 69, .func (.func 103) #[] #[pbox (W.heap.size + 1 + 1), pbox (W.heap.size + 1 + 2), pbox (W.heap.size + 1), pbox (W.heap.size + 1 + 3)], spotV x.1 x.2, undef, undef, undef, undef, undef, undef, undef, undef, undef, undef, undef, undef, undef, undef, undef, undef, undef, undef, undef, undef, undef, undef, undef, undef, undef, undef, undef, undef], defers := [] })
    (fun x a' E V l r o ⟨sb, h1, h2, h3, h4⟩ hl => ⟨sb, h1, cell_put h2 hl, cell_put h3 hl, h4⟩) ?assign ?body ?done ?stop
  case assign =>
    intro l' pre x E V K hl' hi hE hK
    simp only [spotV]
    gi_wp2
    have al := t_al V (Obj.cells #[.pointer (some ⟨x.1, 0, none⟩), .int .i64 (x.2 : Int)] 110)
    refine hK _ (fun k => E k ∨ k = V.heap.size) _ (fun k h => .inl h) (fun k h => by rw [World.size_alloc]; exact h.elim (fun h => by have := hE k h; omega) (fun h => by omega)) (Same.below al hE) (al.mono (Nat.le_trans hn2 hi.2.1.size)) ?_ ⟨V.heap.size, .inr rfl, by rw [cell_at (World.alloc_heap_new _ _)]; rfl, by rw [cell_at (World.alloc_heap_new _ _)]; rfl, rfl⟩
    exact Keep.firm hJ _ hn2 hD1h _ _ _ _ _ hi (Moves.below al) (fun k h => h.elim .inl (fun h => .inr (by omega)))
  case body =>
    rintro lo pre ⟨b', f'⟩ a' E V hEl ⟨r, hr⟩ hE ⟨k1, k2, k3, k4⟩ ⟨sb, hsb, s0, s1, rfl⟩ hN
    obtain ⟨rfl, e1, e2⟩ : pre = [] ∧ b' = b ∧ f' = 0 := by
      match pre, hN with
      | [], hN => simp at hN; exact ⟨rfl, hN.1.symm, hN.2.symm⟩
      | [_], hN => simp at hN
      | _ :: _ :: _, hN => simp at hN
    subst e1 e2
    simp only [if_true] at k4
    simp only [spotV]
    have hb0V := hb002.trans (k2.mono hn0)
    obtain ⟨ia, ic, _, i1, isl⟩ := H.items
    have i1V := (hb0V.cell (p := ⟨b', 1, none⟩) H.lt).trans i1
    rw [nums_len] at i1V
    have hia : ∀ d, ia = some d → d.block < n₀ := fun d hd => by
      obtain ⟨x, hx⟩ : ∃ x, xs[0]? = some x := ⟨_, List.getElem?_eq_getElem hL⟩
      obtain ⟨g, o, e⟩ := isl.numsome hL
      rw [e] at isl hd
      injection hd with hd
      rw [← hd]
      exact Nat.lt_of_lt_of_le (isl.num hx).2 hn0
    have cwV := (k3.cell (o := 0) (d1 _ dw)).trans cw2
    have hmix : Try.prog.follows .mixedOrders = true := by kernel_rfl
    have islV := Lib.hid (isl.below hb0V)
    have HS := Lib.hid (sall_i (w := V.drew) ia xs.length ic)
    clear i1 isl
    gi_wp2
    rename_i K hKK
    have key : ∀ w3, V.drew.alloc (Obj.cells #[.slice ia xs.length ic] 22) = w3 → K { tmps := #[.func (.yield l) #[] #[], pbox Bt, pbox Bi, pbox Bj, pbox Bp, pbox Bw, pbox W.heap.size, pbox sb, undef, undef, undef, .agg #[ptr b'], .int .i64 0, .int .i64 xs.length, fnv 69, .func (.func 103) #[] #[pbox (W.heap.size + 1 + 1), pbox (W.heap.size + 1 + 2), pbox (W.heap.size + 1), pbox (W.heap.size + 1 + 3)], .agg #[pbox b', .int .i64 0], fnv 70, pbox sb, ptr b', pbox b', .pointer (some ⟨b', 1, none⟩), .slice ia xs.length ic, .func (.func 92) #[] #[pbox V.heap.size], undef, undef, undef, undef, undef, undef, undef, undef, undef, undef, undef, undef, undef, undef, undef, undef, undef, undef, undef, undef, undef], defers := [] } w3 := by
      intro w3 hw3
      have al := t_al V.drew (Obj.cells #[.slice ia xs.length ic] 22)
      have hh3 := World.alloc_heap_new V.drew (Obj.cells #[.slice ia xs.length ic] 22)
      have hz3 : (V.drew.alloc (Obj.cells #[.slice ia xs.length ic] 22)).heap.size = V.heap.size + 1 := by simp
      rw [hw3] at al hh3 hz3
      have hb3 : Below V.heap.size V w3 := (Below.refl _ V).drew.trans al
      have hD2h : Have (fun k => E k ∨ D1 k) w3 := fun k h => Nat.lt_of_lt_of_le (h.elim (hE k) (k3.lt hD1h)) hb3.size
      have hn3 : n₀ ≤ w3.heap.size := Nat.le_trans hn2 (Nat.le_trans k2.size hb3.size)
      have hJ3 := hJ.below k4 hb3
      have cB3 : w3.cell? ⟨V.heap.size, 0, none⟩ = some (.slice ia xs.length ic) := (cell_at hh3 0).trans rfl
      have isl3 := islV.out.below hb3
      refine hKK _ _ ?_
      clear hKK hw3 al hh3
      gi_wp2
      have hE3 : ∀ k, E k → k < w3.heap.size := fun k h => hD2h k (.inl h)
      have hV3 : Same (fun k => E k ∨ D1 k) V w3 := Same.below hb3 (fun k h => h.elim (hE k) (k3.lt hD1h))
      refine range_inner (l₀ := lo) (r₀ := r) rfl ((hb3.block lo (hE lo hEl)).trans hr) (fun h => by simp [Fence.wide] at h) (gf := 92) (lb := #[pbox V.heap.size]) rfl trivial (enters_of Try.func92 (by kernel_rfl) rfl)
        (sall_iter (n - 1 - 1 - 1) n₀ V.heap.size (w := w3) (by omega) hn3 cB3 isl3 hia hl) hn3 (Below.refl _ _) (fun k h => h.elim) (fun _ => rfl)
        (Keep J (fun pre => pre) (fun k => E k ∨ D1 k) w3 n₀) (KeepX Jx (fun s q => q = s) (fun k => E k ∨ D1 k) w3) (Keep.firm hJ _ hn3 hD2h) (KeepX.firm hJx _ hD2h) ⟨fun k h => h.elim, Below.refl _ _, Same.refl _ _, hJ _ _ _ _ _ hJ3 (Moves.below (Below.refl _ _)) (fun k h => h.elim (fun h => h.elim) .inl)⟩
        (fun x a' _ _ => a' = { tmps := #[.func (.yield l) #[] #[], pbox Bt, pbox Bi, pbox Bj, pbox Bp, pbox Bw, pbox W.heap.size, pbox sb, .int .i64 (x.1 : Int), .int .i64 x.2, undef, .agg #[ptr b'], .int .i64 0, .int .i64 xs.length, fnv 69, .func (.func 103) #[] #[pbox (W.heap.size + 1 + 1), pbox (W.heap.size + 1 + 2), pbox (W.heap.size + 1), pbox (W.heap.size + 1 + 3)], .agg #[pbox b', .int .i64 0], fnv 70, pbox sb, ptr b', pbox b', .pointer (some ⟨b', 1, none⟩), .slice ia xs.length ic, .func (.func 92) #[] #[pbox V.heap.size], .int .i64 (x.1 : Int), .int .i64 x.2, undef, undef, undef, undef, undef, undef, undef, undef, undef, undef, undef, undef, undef, undef, undef, undef, undef, undef, undef], defers := [] })
        (fun x a' E V l r o h _ => h) ?assign2 ?body2 ?done2 ?stop2
      case assign2 =>
        intro l' pre x E V K hl' hi hE hK
        simp only [encP]
        gi_wp2
        exact hK _ E _ (fun k h => h) hE (Same.refl _ _) (Below.refl _ _) hi rfl
      case body2 =>
        rintro li pre2 ⟨k, x⟩ a' E2 V2 hE2l ⟨r2, hr2⟩ hE2 ⟨m1, m2, m3, m4⟩ rfl hN2
        have hm := hV3.trans m3
        have ci2' := (hm.cell (b := Bi) (o := 0) (.inr (d1 _ di))).trans ((k3.cell (o := 0) (d1 _ di)).trans ci2)
        have cj2' := (hm.cell (b := Bj) (o := 0) (.inr (d1 _ dj))).trans ((k3.cell (o := 0) (d1 _ dj)).trans cj2)
        have cy2' := (hm.cell (b := W.heap.size) (o := 0) (.inr (d1' _ (Nat.le_refl _) (by omega)))).trans ((k3.cell (o := 0) (d1' _ (Nat.le_refl _) (by omega))).trans cy2)
        have s0' := (hm.cell (b := sb) (o := 0) (.inl hsb)).trans s0
        have s1' := (hm.cell (b := sb) (o := 1) (.inl hsb)).trans s1
        obtain ⟨rfl, hx⟩ := pairs_inv hN2
        have hkl : pre2.length < xs.length := (List.getElem?_eq_some_iff.1 hx).1
        obtain ⟨fn, tmps, assign, body, hy, hR⟩ := hY pre2 (pre2.length, x) _ V2 m4 (fun k' h => h.elim (hE2 k') (fun h => m3.lt hD2h h)) hN2
        dsimp only [encP] at hy
        obtain ⟨len, hlen⟩ : ∃ len, xs.length = len := ⟨_, rfl⟩
        rw [hlen] at cj2' hkl hl ⊢
        have hA : decide (pre2.length < len) = true := by simpa using hkl
        have hA' : decide ((pre2.length : Int) < len) = true := by simp; omega
        gi_wp2
        refine ⟨fun h => by simp [Fence.wide] at h, RoundIn.mono (F := Fence.wide) ⟨hR.1, fun c cs _ => hR.2 c cs (room_wide _)⟩ ?_⟩
        rintro e W3 ⟨hs, (⟨rfl, hJ3, hk3⟩ | ⟨rfl, hJx3⟩)⟩
        · gi_wp2
          exact ⟨hs.mono fun _ h => .inl h, hk3, m1, m2.trans hk3, m3.trans (hs.mono fun _ h => .inr h), hJ3⟩
        · gi_wp2
          exact ⟨hs.mono fun _ h => .inl h, rfl, fun k h he => (m1 k he).2 h, m3.trans (hs.mono fun _ h => .inr h), _, rfl, hJx3⟩
      case done2 =>
        rintro ys E2 W2 rfl ⟨m1, m2, m3, m4⟩
        have hm := hV3.trans m3
        have hB2 : Below n₀ V W2 := (hb3.mono (Nat.le_trans hn2 k2.size)).trans m2
        exact ⟨hm.mono fun _ h => .inl h, hB2, k1, k2.trans hB2, k3.trans (hm.mono fun _ h => .inr h), hJ _ _ _ _ _ m4 (Moves.below (Below.refl _ _)) (fun k h => .inl (.inr h))⟩
      case stop2 =>
        rintro c pre2 E2 W2 hSp ⟨rfl, m1, m3, q, rfl, m4⟩
        have hm := hV3.trans m3
        gi_wp2
        exact ⟨hm.mono fun _ h => .inl h, rfl, fun k h he => (k1 k he).2 h, k3.trans (hm.mono fun _ h => .inr h), _, hSp, hJx _ _ _ _ _ m4 (Moves.below (Below.refl _ _)) (fun k h => .inl (.inr h))⟩
    gi_region_with_o (refine ⟨trivial, fun h => by simp [Fence.wide] at h, (CallsIn.inRound lo ((callsIn_wide (n := n - 1 - 1 - 1)).2 HS.out)).mono ?_⟩; rintro e w3 ⟨rfl, hw3⟩)
    all_goals (exact key _ hw3)
  case done =>
    rintro d ys E W3 hd hEd rfl ⟨m1, m2, m3, m4⟩ hK
    refine ⟨by simp, .inl ⟨_, _, rfl, run_takeDeferred hK, ?_⟩⟩
    refine ⟨_, results_none rfl _ _ _, ⟨_, rfl⟩, .inl ⟨_, _, rfl, hJ.go m4 (Moves.put _ (.inl hEd))⟩⟩
  case stop =>
    rintro d c pre E W3 hd hEd hSp ⟨rfl, m1, m3, q, hq, m4⟩ hK
    gi_wp2
    refine ⟨by simp, .inl ⟨_, _, rfl, run_takeDeferred hK, ?_⟩⟩
    exact ⟨_, results_none rfl _ _ _, ⟨_, rfl⟩, .inr ⟨_, _, hq, hJx.go m4 (Moves.put _ (.inl hEd))⟩⟩

end Go.Proofs.Ytofncnommekbjaa
