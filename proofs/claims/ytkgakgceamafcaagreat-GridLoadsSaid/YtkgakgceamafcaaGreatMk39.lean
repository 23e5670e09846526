/-
  Texts of this seat, put together (a claim holds few texts): FdK, FdN.
-/
import Derived.Test.YtkgakgceamafcaaGreatMk38

namespace Go.Proofs.YtkgakgceamafcaaGreat
open Go Go.RowKit Go.Shelf
set_option linter.unusedVariables false
attribute [local go_sem] Oper.semAt_some

/-- Is a place ahead of another one? -/
def aheadP (a b c d : Int) : Bool := decide (a < c) || (a == c && decide (b < d))

set_option maxRecDepth 100000 in
set_option maxHeartbeats 2000000 in
theorem ahead_of {w : World} (a b c d : Int) :
    Calls Tryz.prog 90 #[.agg #[.int .i64 a, .int .i64 b], .agg #[.int .i64 c, .int .i64 d]] w fun e w' => e = .returned (.bool (aheadP a b c d)) ∧ Below w.heap.size w w' := by
  obtain ⟨w1, hw1, hb1, hz1, hA, hB⟩ := two_blocks w (Obj.cells #[.int .i64 a, .int .i64 b] 167) (Obj.cells #[.int .i64 c, .int .i64 d] 167)
  have a0 : w1.cell? ⟨w.heap.size, 0, none⟩ = some (.int .i64 a) := (cell_at hA 0).trans rfl
  have a1 : w1.cell? ⟨w.heap.size, 1, none⟩ = some (.int .i64 b) := (cell_at hA 1).trans rfl
  have b0 : w1.cell? ⟨w.heap.size + 1, 0, none⟩ = some (.int .i64 c) := (cell_at hB 0).trans rfl
  have b1 : w1.cell? ⟨w.heap.size + 1, 1, none⟩ = some (.int .i64 d) := (cell_at hB 1).trans rfl
  have HB := Lib.hid hb1
  have HU : Hid (aheadP a b c d = (decide (a < c) || (a == c && decide (b < d)))) := Lib.hid rfl
  rw [HU.out]
  clear hA hB hb1 hz1
  cases h1 : decide (a < c)
  · cases h2 : (a == c)
    · go_enter Tryz.func90, Tryz.ntmps90
      go_wp2_with fail
      go_ret
      exact ⟨rfl, HB.out⟩
    · cases h3 : decide (b < d)
      · go_enter Tryz.func90, Tryz.ntmps90
        go_wp2_with fail
        go_ret
        exact ⟨rfl, HB.out⟩
      · go_enter Tryz.func90, Tryz.ntmps90
        go_wp2_with fail
        go_ret
        exact ⟨rfl, HB.out⟩
  · go_enter Tryz.func90, Tryz.ntmps90
    go_wp2_with fail
    go_ret
    exact ⟨rfl, HB.out⟩

set_option maxRecDepth 100000 in
set_option maxHeartbeats 2000000 in
theorem nfit_of {w : World} (R C : Int) (br bc' : Nat) (x : Nat × Nat) (hr : w.cell? ⟨br, 0, none⟩ = some (.int .i64 R)) (hc : w.cell? ⟨bc', 0, none⟩ = some (.int .i64 C)) (lr : br < w.heap.size) (lc : bc' < w.heap.size) :
    Calls Tryz.prog 89 #[.agg #[.int .i64 (x.1 : Int), .int .i64 (x.2 : Int)], pbox br, pbox bc'] w fun e w' => e = .returned (.bool (aheadP R C x.1 x.2)) ∧ Below w.heap.size w w' := by
  have hh := World.alloc_heap_new w (Obj.cells #[.int .i64 (x.1 : Int), .int .i64 (x.2 : Int)] 167)
  have al := t_al w (Obj.cells #[.int .i64 (x.1 : Int), .int .i64 (x.2 : Int)] 167)
  obtain ⟨w1, hw1⟩ : ∃ w1, w.alloc (Obj.cells #[.int .i64 (x.1 : Int), .int .i64 (x.2 : Int)] 167) = w1 := ⟨_, rfl⟩
  rw [hw1] at hh al
  have r1 := (al.cell (p := ⟨br, 0, none⟩) lr).trans hr
  have c1 := (al.cell (p := ⟨bc', 0, none⟩) lc).trans hc
  have s0 : w1.cell? ⟨w.heap.size, 0, none⟩ = some (.int .i64 (x.1 : Int)) := (cell_at hh 0).trans rfl
  have s1 : w1.cell? ⟨w.heap.size, 1, none⟩ = some (.int .i64 (x.2 : Int)) := (cell_at hh 1).trans rfl
  have HA := Lib.hid (ahead_of (w := w1) R C x.1 x.2)
  have AL := Lib.hid al
  clear hh al hr hc
  go_enter Tryz.func89, Tryz.ntmps89
  go_wp2_with fail
  refine HA.out.mono ?_; rintro e w2 ⟨rfl, hb2⟩
  have HB := Lib.hid (AL.out.trans (hb2.mono AL.out.size))
  clear hb2
  go_wp2_with fail
  go_ret
  exact ⟨rfl, HB.out⟩

/-- The first one that fits; if none does, the first one of all. -/
def pickP (f : Nat × Nat → Bool) (A : List (Nat × Nat)) : (Nat × Nat) × Bool := match A.find? f with
  | some x => (x, true)
  | none => match A with
    | [] => ((0, 0), false)
    | y :: _ => (y, true)
def fstS : List (Nat × Nat) → Nat × Nat
  | [] => (0, 0)
  | y :: _ => y
theorem fstS_snoc {l : List (Nat × Nat)} (h : l ≠ []) (x : Nat × Nat) : fstS (l ++ [x]) = fstS l := by
  cases l with
  | nil => exact absurd rfl h
  | cons y l => rfl
theorem pick_hit {f : Nat × Nat → Bool} {A pre : List (Nat × Nat)} {x : Nat × Nat} (hp : pre <+: A) (hx : A[pre.length]? = some x) (hn : ∀ y ∈ pre, f y = false) (hf : f x = true) : pickP f A = (x, true) := by
  obtain ⟨u, rfl⟩ := hp
  rw [List.getElem?_append_right (Nat.le_refl _), Nat.sub_self] at hx
  cases u with
  | nil => simp at hx
  | cons v u =>
    obtain rfl : v = x := by simpa using hx
    have hnone : pre.find? f = none := List.find?_eq_none.2 (fun y hy => by rw [hn y hy]; decide)
    have h1 : (pre ++ v :: u).find? f = some v := by rw [List.find?_append, hnone, List.find?_cons, hf]; rfl
    unfold pickP; rw [h1]
theorem pick_miss {f : Nat × Nat → Bool} {A : List (Nat × Nat)} (hn : ∀ y ∈ A, f y = false) : pickP f A = (fstS A, !A.isEmpty) := by
  have hnone : A.find? f = none := List.find?_eq_none.2 (fun y hy => by rw [hn y hy]; decide)
  unfold pickP; rw [hnone]
  cases A <;> rfl

def PkI (A : List (Nat × Nat)) (f : Nat × Nat → Bool) (w4 : World) (q r : Nat) (s : List (Nat × Nat)) (E : Bls) (W : World) : Prop :=
  (∀ k, E k → w4.heap.size ≤ k) ∧ Moves (fun k => k = q ∨ k = r) w4 W ∧ W.heap[q]? = some (.cells #[.int .i64 ((fstS s).1 : Int), .int .i64 ((fstS s).2 : Int)] 167 (0, 0)) ∧ W.heap[r]? = some (.cells #[.bool (!s.isEmpty)] 4 (0, 0)) ∧ s <+: A ∧ ∀ y ∈ s, f y = false
theorem PkI.firm {A : List (Nat × Nat)} {f : Nat × Nat → Bool} {w4 : World} {q r : Nat} (hq : q < w4.heap.size) (hr : r < w4.heap.size) : Firm (PkI A f w4 q r) := by
  rintro s D D' W W' ⟨h1, h2, h3, h4, h5⟩ hm hd
  have hs := h2.size
  exact ⟨fun k hk => (hd k hk).elim (h1 k) (fun h => by omega), h2.more hm (fun k hk h => by have := h1 k h; omega), (hm.block q (lt_of_at h3) (fun h => by have := h1 q h; omega)).trans h3, (hm.block r (lt_of_at h4) (fun h => by have := h1 r h; omega)).trans h4, h5⟩
def PkX (w w4 : World) (q0 q1 q2 : Nat) (X : (Nat × Nat) × Bool) (c : Code) (s : List (Nat × Nat)) (E : Bls) (W : World) : Prop :=
  c = .ret ∧ (∀ k, E k → w4.heap.size ≤ k) ∧ Below w.heap.size w W ∧ w4.heap.size ≤ W.heap.size ∧ W.cell? ⟨q0, 0, none⟩ = some (.int .i64 (X.1.1 : Int)) ∧ W.cell? ⟨q1, 0, none⟩ = some (.int .i64 (X.1.2 : Int)) ∧ W.cell? ⟨q2, 0, none⟩ = some (.bool X.2)
theorem PkX.firm {w w4 : World} {q0 q1 q2 : Nat} {X : (Nat × Nat) × Bool} (hw : w.heap.size ≤ w4.heap.size) (h0 : q0 < w4.heap.size) (h1 : q1 < w4.heap.size) (h2 : q2 < w4.heap.size) (c : Code) : Firm (PkX w w4 q0 q1 q2 X c) := by
  rintro s D D' W W' ⟨k0, k1, k2, ks, k3, k4, k5⟩ hm hd
  refine ⟨k0, fun k hk => (hd k hk).elim (k1 k) (fun h => by omega), ⟨hm.os.trans k2.os, hm.tape.trans k2.tape, hm.output.trans k2.output, Nat.le_trans k2.size hm.size, fun k hk => (hm.block k (by omega) (fun h => by have := k1 k h; omega)).trans (k2.block k hk)⟩, Nat.le_trans ks hm.size, (hm.cell (b := q0) (o := 0) (by omega) (fun h => by have := k1 q0 h; omega)).trans k3, (hm.cell (b := q1) (o := 0) (by omega) (fun h => by have := k1 q1 h; omega)).trans k4, (hm.cell (b := q2) (o := 0) (by omega) (fun h => by have := k1 q2 h; omega)).trans k5⟩

set_option maxRecDepth 100000 in
set_option maxHeartbeats 4000000 in
theorem pick_in (n : Nat) {w : World} {lb : Array Value} {A : List (Nat × Nat)} {R C : Int} {br bc' : Nat} (hr : w.cell? ⟨br, 0, none⟩ = some (.int .i64 R)) (hc : w.cell? ⟨bc', 0, none⟩ = some (.int .i64 C)) (lr : br < w.heap.size) (lc : bc' < w.heap.size)
    (hseq : ∀ k w', Below w.heap.size w w' → Iter Fence.wide k Tryz.prog 139 lb encS w.heap.size (fun ys => ys = A) (fun pre => pre <+: A) (fun pre x => A[pre.length]? = some x) (fun _ => False) w') :
    CallsIn Fence.wide n Tryz.prog 86 #[.func (.func 139) #[] lb, .func (.func 89) #[] #[pbox br, pbox bc']] w fun e w' => e = .returned (.tuple #[.int .i64 ((pickP (fun x => aheadP R C x.1 x.2) A).1.1 : Int), .int .i64 ((pickP (fun x => aheadP R C x.1 x.2) A).1.2 : Int), .bool (pickP (fun x => aheadP R C x.1 x.2) A).2]) ∧ Below w.heap.size w w' := by
  obtain ⟨f, hf⟩ : ∃ f : Nat × Nat → Bool, (fun x : Nat × Nat => aheadP R C x.1 x.2) = f := ⟨_, rfl⟩
  have HFx : Hid (∀ x : Nat × Nat, f x = aheadP R C x.1 x.2) := Lib.hid (fun x => by rw [← hf])
  rw [hf]
  obtain ⟨X, hX⟩ : ∃ X, pickP f A = X := ⟨_, rfl⟩
  have HX := Lib.hid hX
  rw [hX]
  obtain ⟨hb1, hz1, hh⟩ := allocs_w [Obj.cells #[.func (.func 89) #[] #[pbox br, pbox bc']] 169, Obj.cells #[.int .i64 0] 3, Obj.cells #[.int .i64 0] 3, Obj.cells #[.bool false] 4, Obj.cells #[.int .i64 0, .int .i64 0] 167, Obj.cells #[.bool false] 4] w
  simp only [List.foldl_cons, List.foldl_nil] at hb1 hz1 hh
  obtain ⟨w1, hw1⟩ : ∃ w1, ((((((w.alloc (Obj.cells #[.func (.func 89) #[] #[pbox br, pbox bc']] 169)).alloc (Obj.cells #[.int .i64 0] 3)).alloc (Obj.cells #[.int .i64 0] 3)).alloc (Obj.cells #[.bool false] 4)).alloc (Obj.cells #[.int .i64 0, .int .i64 0] 167)).alloc (Obj.cells #[.bool false] 4)) = w1 := ⟨_, rfl⟩
  rw [hw1] at hb1 hz1 hh
  have b0 := (hh 0 (by simp)).trans rfl
  have b1 := (hh 1 (by simp)).trans rfl
  have b2 := (hh 2 (by simp)).trans rfl
  have b3 := (hh 3 (by simp)).trans rfl
  have b4 := (hh 4 (by simp)).trans rfl
  have b5 := (hh 5 (by simp)).trans rfl
  rw [Nat.add_zero] at b0
  simp only [List.length_cons, List.length_nil] at hz1
  have HItA := Lib.hid (fun w' h => hseq (n - 1) w' h)
  have HR := Lib.hid (And.intro hr (And.intro hc (And.intro lr lc)))
  have HB := Lib.hid hb1
  clear hseq hr hc hh hX hf
  have hmix : Tryz.prog.follows .mixedOrders = true := by kernel_rfl
  refine callsIn_of_wp_marks Tryz.func86 rfl trivial ?_ rfl
  simp only [Tryz.ntmps86, List.size_toArray, List.length_cons, List.length_nil, Nat.reduceAdd, Nat.reduceSub, Array.replicate_succ, Array.replicate_zero, List.push_toArray, List.append_toArray, List.nil_append, List.cons_append]
  have s5 : w1.cell? ⟨w.heap.size + 1 + 1 + 1 + 1 + 1, 0, none⟩ = some (.bool false) := (cell_at b5 0).trans rfl
  have z5 : w1.frozen? ⟨w.heap.size + 1 + 1 + 1 + 1 + 1, 0, none⟩ = false := unfrozen b5 0
  gi_wp2
  clear hw1 s5 z5
  have T : Below w.heap.size w (w1.setCell ⟨w.heap.size + 5, 0, none⟩ (.bool false)) ∧ (w1.setCell ⟨w.heap.size + 5, 0, none⟩ (.bool false)).heap.size = w.heap.size + 6 ∧
      (w1.setCell ⟨w.heap.size + 5, 0, none⟩ (.bool false)).heap[w.heap.size]? = some (.cells #[.func (.func 89) #[] #[pbox br, pbox bc']] 169 (0, 0)) ∧
      (w1.setCell ⟨w.heap.size + 5, 0, none⟩ (.bool false)).heap[w.heap.size + 1]? = some (.cells #[.int .i64 0] 3 (0, 0)) ∧
      (w1.setCell ⟨w.heap.size + 5, 0, none⟩ (.bool false)).heap[w.heap.size + 2]? = some (.cells #[.int .i64 0] 3 (0, 0)) ∧
      (w1.setCell ⟨w.heap.size + 5, 0, none⟩ (.bool false)).heap[w.heap.size + 3]? = some (.cells #[.bool false] 4 (0, 0)) ∧
      (w1.setCell ⟨w.heap.size + 5, 0, none⟩ (.bool false)).heap[w.heap.size + 4]? = some (.cells #[.int .i64 0, .int .i64 0] 167 (0, 0)) ∧
      (w1.setCell ⟨w.heap.size + 5, 0, none⟩ (.bool false)).heap[w.heap.size + 5]? = some (.cells #[.bool false] 4 (0, 0)) :=
    ⟨hb1.setCell (p := ⟨w.heap.size + 5, 0, none⟩) (by show w.heap.size ≤ w.heap.size + 5; omega) _, by rw [World.size_setCell]; exact hz1, (heap_set_other (by omega)).trans b0, (heap_set_other (by omega)).trans b1, (heap_set_other (by omega)).trans b2, (heap_set_other (by omega)).trans b3, (heap_set_other (by omega)).trans b4, (heap_set_at (o := 0) b5).trans rfl⟩
  clear b0 b1 b2 b3 b4 b5 hb1 hz1 HB
  change Code.wpIn _ _ _ _ _ _ (w1.setCell ⟨w.heap.size + 5, 0, none⟩ (.bool false))
  generalize w1.setCell ⟨w.heap.size + 5, 0, none⟩ (.bool false) = w5 at T ⊢
  obtain ⟨hb1, hz1, b0, b1, b2, b3, b4, b5⟩ := T
  have HIt := Lib.hid (HItA.out _ hb1)
  have HB := Lib.hid hb1
  clear hb1 HItA
  refine range_outer (gf := 139) (lb := lb) rfl (fun h => by simp [Fence.wide] at h) rfl trivial (enters_of Tryz.func139 (by kernel_rfl) rfl)
    HIt.out (by omega) (Below.refl _ _) (fun k h => h.elim) (fun _ => rfl)
    (PkI A f w5 (w.heap.size + 4) (w.heap.size + 5)) (PkX w w5 (w.heap.size + 1) (w.heap.size + 2) (w.heap.size + 3) X) (PkI.firm (by omega) (by omega)) (PkX.firm (by omega) (by omega) (by omega) (by omega)) ⟨fun k h => h.elim, Moves.refl _ _, b4, b5, List.nil_prefix, fun y h => by simp at h⟩
    (fun x a' E W' => ∃ rb, E rb ∧ w5.heap.size ≤ rb ∧ W'.cell? ⟨rb, 0, none⟩ = some (.int .i64 (x.1 : Int)) ∧ W'.cell? ⟨rb, 1, none⟩ = some (.int .i64 (x.2 : Int)) ∧ a' = { tmps := #[.func (.func 139) #[] lb, .func (.func 89) #[] #[pbox br, pbox bc'], undef, pbox w.heap.size, pbox (w.heap.size + 1), pbox (w.heap.size + 2), pbox (w.heap.size + 3), pbox (w.heap.size + 4), pbox (w.heap.size + 5), pbox rb, .func (.func 139) #[] lb, .agg #[.int .i64 (x.1 : Int), .int .i64 (x.2 : Int)], undef, undef, undef, undef, undef, undef, undef, undef, undef, undef, undef, undef, undef, undef, undef], defers := [] })
    (fun x a' E V l r o ⟨rb, h1, h0, h2, h3, h4⟩ hl => ⟨rb, h1, h0, cell_put h2 hl, cell_put h3 hl, h4⟩) ?assign ?body ?done ?stop
  case assign =>
    intro l' pre x E V4 K hl' hi hE hK
    simp only [encS]
    gi_wp2
    have al := t_al V4 (Obj.cells #[.int .i64 (x.1 : Int), .int .i64 (x.2 : Int)] 167)
    have hs4 := hi.2.1.size
    refine hK _ (fun k => E k ∨ k = V4.heap.size) _ (fun k h => .inl h) (fun k h => by rw [World.size_alloc]; exact h.elim (fun h => by have := hE k h; omega) (fun h => by omega)) (Same.below al hE) (al.mono (by omega)) ?_ ⟨V4.heap.size, .inr rfl, hs4, by rw [cell_at (World.alloc_heap_new _ _)]; rfl, by rw [cell_at (World.alloc_heap_new _ _)]; rfl, rfl⟩
    exact PkI.firm (by omega) (by omega) _ _ _ _ _ hi (Moves.below al) (fun k h => h.elim .inl (fun h => .inr (by omega)))
  case body =>
    rintro lo pre ⟨x1, x2⟩ a' E V hEl ⟨r, hr⟩ hE ⟨m1, m2, m3, m4, m5, m6⟩ ⟨rb, hrb, hrl, q0, q1, rfl⟩ hN
    simp only at q0 q1
    have hs := m2.size
    have f0 := (m2.block _ (show w.heap.size < w5.heap.size by omega) (by omega)).trans b0
    have f1 := (m2.block _ (show w.heap.size + 1 < w5.heap.size by omega) (by omega)).trans b1
    have f2 := (m2.block _ (show w.heap.size + 2 < w5.heap.size by omega) (by omega)).trans b2
    have f3 := (m2.block _ (show w.heap.size + 3 < w5.heap.size by omega) (by omega)).trans b3
    have c0V : V.cell? ⟨w.heap.size, 0, none⟩ = some (.func (.func 89) #[] #[pbox br, pbox bc']) := (cell_at f0 0).trans rfl
    have hbV : Below w.heap.size w V := ⟨m2.os.trans HB.out.os, m2.tape.trans HB.out.tape, m2.output.trans HB.out.output, Nat.le_trans HB.out.size m2.size, fun k hk => (m2.block k (by omega) (by omega)).trans (HB.out.block k hk)⟩
    have hlw := hbV.size
    have HNf := Lib.hid ((callsIn_wide (n := n - 1 - 1 - 1)).2 (nfit_of (w := V) R C br bc' (x1, x2) ((hbV.cell (p := ⟨br, 0, none⟩) HR.out.2.2.1).trans HR.out.1) ((hbV.cell (p := ⟨bc', 0, none⟩) HR.out.2.2.2).trans HR.out.2.1) (by have := HR.out.2.2.1; omega) (by have := HR.out.2.2.2; omega)))
    rw [← HFx.out (x1, x2)] at HNf
    have M := Lib.hid (And.intro m1 (And.intro m2 (And.intro m3 (And.intro m4 (And.intro m5 m6)))))
    have HN := Lib.hid hN
    have HF := Lib.hid (And.intro f1 (And.intro f2 f3))
    have HBV := Lib.hid hbV
    have HZ := Lib.hid (And.intro hz1 hs)
    clear m1 m2 m3 m4 m5 m6 hN f0 f1 f2 f3 b0 b1 b2 b3 b4 b5 hbV hlw hz1
    have hEw : ∀ k, E k → w5.heap.size ≤ k := M.out.1
    have hrV := hE rb hrb
    cases hfx : f (x1, x2) with
    | true =>
      have hpp := pick_hit M.out.2.2.2.2.1 HN.out M.out.2.2.2.2.2 hfx
      rw [HX.out] at hpp
      rw [hfx] at HNf
      gi_wp2
      refine ⟨trivial, fun h => by simp [Fence.wide] at h, (CallsIn.inRound lo HNf.out).mono ?_⟩
      rintro e w3 ⟨rfl, hb3⟩
      have q03 := (hb3.cell (p := ⟨rb, 0, none⟩) hrV).trans q0
      have q13 := (hb3.cell (p := ⟨rb, 1, none⟩) hrV).trans q1
      have g1 := (hb3.block _ (show w.heap.size + 1 < V.heap.size by have := HZ.out; omega)).trans HF.out.1
      have g2 := (hb3.block _ (show w.heap.size + 2 < V.heap.size by have := HZ.out; omega)).trans HF.out.2.1
      have g3 := (hb3.block _ (show w.heap.size + 3 < V.heap.size by have := HZ.out; omega)).trans HF.out.2.2
      have e1 : w3.cell? ⟨w.heap.size + 1, 0, none⟩ = some (.int .i64 0) := (cell_at g1 0).trans rfl
      have e2 : w3.cell? ⟨w.heap.size + 2, 0, none⟩ = some (.int .i64 0) := (cell_at g2 0).trans rfl
      have e3 : w3.cell? ⟨w.heap.size + 3, 0, none⟩ = some (.bool false) := (cell_at g3 0).trans rfl
      have z1 := unfrozen g1 0
      have z2 := unfrozen g2 0
      have z3 := unfrozen g3 0
      have hrne1 : rb ≠ w.heap.size + 1 := by have := HZ.out; omega
      have hrne2 : rb ≠ w.heap.size + 2 := by have := HZ.out; omega
      have hrne3 : rb ≠ w.heap.size + 3 := by have := HZ.out; omega
      have HG := Lib.hid (And.intro g1 (And.intro g2 (And.intro g3 (And.intro hb3 hpp))))
      obtain ⟨W', hW'⟩ : ∃ W', (((w3.setCell ⟨w.heap.size + 1, 0, none⟩ (.int .i64 (x1 : Int))).setCell ⟨w.heap.size + 2, 0, none⟩ (.int .i64 (x2 : Int))).setCell ⟨w.heap.size + 3, 0, none⟩ (.bool true)).drew = W' := ⟨_, rfl⟩
      have oth : ∀ k, k ≠ w.heap.size + 1 → k ≠ w.heap.size + 2 → k ≠ w.heap.size + 3 → W'.heap[k]? = w3.heap[k]? := fun k h1 h2 h3 => by
        rw [← hW']; exact (heap_set_other h3).trans ((heap_set_other h2).trans (heap_set_other h1))
      have sw' : W'.heap.size = w3.heap.size := by rw [← hW']; show ((_ : World).setCell _ _).heap.size = _; rw [World.size_setCell, World.size_setCell, World.size_setCell]
      have hlw : w.heap.size ≤ V.heap.size := by have := HZ.out; omega
      have hbW : Below w.heap.size w W' := by
        rw [← hW']
        exact ((((HBV.out.trans (hb3.mono hlw)).setCell (p := ⟨w.heap.size + 1, 0, none⟩) (by show _ ≤ w.heap.size + 1; omega) _).setCell (p := ⟨w.heap.size + 2, 0, none⟩) (by show _ ≤ w.heap.size + 2; omega) _).setCell (p := ⟨w.heap.size + 3, 0, none⟩) (by show _ ≤ w.heap.size + 3; omega) _).drew
      have k1 : W'.heap[w.heap.size + 1]? = some (.cells #[.int .i64 (x1 : Int)] 3 (0, 0)) := by
        rw [← hW']; exact (heap_set_other (by omega)).trans ((heap_set_other (by omega)).trans ((heap_set_at (o := 0) g1).trans rfl))
      have k2 : W'.heap[w.heap.size + 2]? = some (.cells #[.int .i64 (x2 : Int)] 3 (0, 0)) := by
        rw [← hW']; exact (heap_set_other (by omega)).trans ((heap_set_at (o := 0) ((heap_set_other (by omega)).trans g2)).trans rfl)
      have k3 : W'.heap[w.heap.size + 3]? = some (.cells #[.bool true] 4 (0, 0)) := by
        rw [← hW']; exact (heap_set_at (o := 0) ((heap_set_other (by omega)).trans ((heap_set_other (by omega)).trans g3))).trans rfl
      have fin : Same E V W' ∧ Below w.heap.size w W' ∧ w5.heap.size ≤ W'.heap.size ∧ W'.cell? ⟨w.heap.size + 1, 0, none⟩ = some (.int .i64 (X.1.1 : Int)) ∧ W'.cell? ⟨w.heap.size + 2, 0, none⟩ = some (.int .i64 (X.1.2 : Int)) ∧ W'.cell? ⟨w.heap.size + 3, 0, none⟩ = some (.bool X.2) := by
        rw [hpp]
        refine ⟨fun k hk => (oth k (by have := hEw k hk; have := HZ.out; omega) (by have := hEw k hk; have := HZ.out; omega) (by have := hEw k hk; have := HZ.out; omega)).trans (hb3.block k (hE k hk)), hbW, by have := hb3.size; have := HZ.out; omega, (cell_at k1 0).trans rfl, (cell_at k2 0).trans rfl, (cell_at k3 0).trans rfl⟩
      have FIN := Lib.hid fin
      have HW' := Lib.hid hW'
      clear g1 g2 g3 hb3 hpp HNf c0V q0 q1 hs oth sw' hlw hbW k1 k2 k3 fin hW'
      gi_wp2
      rename_i KK hKK
      gi_region_with_o (fail)
      all_goals
        refine hKK _ _ ?_
        gi_wp2
        refine HW'.out.symm ▸ ?_
        exact ⟨FIN.out.1, rfl, hEw, FIN.out.2⟩
    | false =>
      rw [hfx] at HNf
      gi_wp2
      refine ⟨trivial, fun h => by simp [Fence.wide] at h, (CallsIn.inRound lo HNf.out).mono ?_⟩
      rintro e w3 ⟨rfl, hb3⟩
      have q03 := (hb3.cell (p := ⟨rb, 0, none⟩) hrV).trans q0
      have q13 := (hb3.cell (p := ⟨rb, 1, none⟩) hrV).trans q1
      have g4 := (hb3.block _ (show w.heap.size + 4 < V.heap.size by have := HZ.out; omega)).trans M.out.2.2.1
      have g5 := (hb3.block _ (show w.heap.size + 5 < V.heap.size by have := HZ.out; omega)).trans M.out.2.2.2.1
      have hpn : pre ++ [(x1, x2)] <+: A := by
        obtain ⟨u, hu⟩ := M.out.2.2.2.2.1
        have h1 := HN.out
        rw [← hu] at h1 ⊢
        rw [List.getElem?_append_right (Nat.le_refl _), Nat.sub_self] at h1
        cases u with
        | nil => simp at h1
        | cons v u =>
          obtain rfl : v = (x1, x2) := by simpa using h1
          exact ⟨u, by simp⟩
      have hno : ∀ y ∈ pre ++ [(x1, x2)], f y = false := fun y hy => by
        rcases List.mem_append.1 hy with hy | hy
        · exact M.out.2.2.2.2.2 y hy
        · obtain rfl := List.mem_singleton.1 hy; exact hfx
      have HPN := Lib.hid (And.intro hpn hno)
      have hsV : w.heap.size ≤ V.heap.size := by have := HZ.out; omega
      cases pre with
      | nil =>
        have e5 : w3.cell? ⟨w.heap.size + 5, 0, none⟩ = some (.bool false) := (cell_at g5 0).trans rfl
        have e40 : w3.cell? ⟨w.heap.size + 4, 0, none⟩ = some (.int .i64 0) := (cell_at g4 0).trans rfl
        have e41 : w3.cell? ⟨w.heap.size + 4, 1, none⟩ = some (.int .i64 0) := (cell_at g4 1).trans rfl
        have z40 := unfrozen g4 0
        have z41 := unfrozen g4 1
        have z5 := unfrozen g5 0
        have HG := Lib.hid (And.intro g4 (And.intro g5 hb3))
        clear g4 g5 hb3 HNf c0V q0 q1 hs hpn hno
        gi_wp2
        have hb0 := HG.out.2.2.mono hsV
        refine ⟨fun k hk => (heap_set_other (by have := hEw k hk; have := HZ.out; omega)).trans ((heap_set_other (by have := hEw k hk; have := HZ.out; omega)).trans ((heap_set_other (by have := hEw k hk; have := HZ.out; omega)).trans (HG.out.2.2.block k (hE k hk)))), ((hb0.setCell (p := ⟨w.heap.size + 4, 0, none⟩) (by show _ ≤ w.heap.size + 4; omega) _).setCell (p := ⟨w.heap.size + 4, 1, none⟩) (by show _ ≤ w.heap.size + 4; omega) _).setCell (p := ⟨w.heap.size + 5, 0, none⟩) (by show _ ≤ w.heap.size + 5; omega) _, hEw, (((M.out.2.1.more (Moves.below (D := fun _ => False) HG.out.2.2) (fun k hk (h : False) => h.elim)).set (.inl rfl)).set (.inl rfl)).set (.inr rfl), ?_, ?_, HPN.out.1, HPN.out.2⟩
        · exact (heap_set_other (by omega)).trans ((heap_set_at (o := 1) (heap_set_at (o := 0) HG.out.1)).trans rfl)
        · exact (heap_set_at (o := 0) ((heap_set_other (by omega)).trans ((heap_set_other (by omega)).trans HG.out.2.1))).trans rfl
      | cons y pre =>
        have e5 : w3.cell? ⟨w.heap.size + 5, 0, none⟩ = some (.bool true) := (cell_at g5 0).trans rfl
        have HG := Lib.hid (And.intro g4 (And.intro g5 hb3))
        clear g4 g5 hb3 HNf c0V q0 q1 hs hpn hno
        gi_wp2
        refine ⟨Same.below HG.out.2.2 hE, HG.out.2.2.mono hsV, hEw, M.out.2.1.more (Moves.below (D := fun _ => False) HG.out.2.2) (fun k hk (h : False) => h.elim), HG.out.1, HG.out.2.1, HPN.out.1, HPN.out.2⟩
  case done =>
    rintro d ys E W3 hd hEd rfl ⟨m1, m2, m3, m4, m5, m6⟩ hK
    have hPP := pick_miss m6
    rw [HX.out] at hPP
    have hs := m2.size
    have f1 := (m2.block _ (show w.heap.size + 1 < w5.heap.size by omega) (by omega)).trans b1
    have f2 := (m2.block _ (show w.heap.size + 2 < w5.heap.size by omega) (by omega)).trans b2
    have f3 := (m2.block _ (show w.heap.size + 3 < w5.heap.size by omega) (by omega)).trans b3
    have e1 : W3.cell? ⟨w.heap.size + 1, 0, none⟩ = some (.int .i64 0) := (cell_at f1 0).trans rfl
    have e2 : W3.cell? ⟨w.heap.size + 2, 0, none⟩ = some (.int .i64 0) := (cell_at f2 0).trans rfl
    have e3 : W3.cell? ⟨w.heap.size + 3, 0, none⟩ = some (.bool false) := (cell_at f3 0).trans rfl
    have e40 : W3.cell? ⟨w.heap.size + 4, 0, none⟩ = some (.int .i64 ((fstS ys).1 : Int)) := (cell_at m3 0).trans rfl
    have e41 : W3.cell? ⟨w.heap.size + 4, 1, none⟩ = some (.int .i64 ((fstS ys).2 : Int)) := (cell_at m3 1).trans rfl
    have e5 : W3.cell? ⟨w.heap.size + 5, 0, none⟩ = some (.bool (!ys.isEmpty)) := (cell_at m4 0).trans rfl
    have z1 := unfrozen f1 0
    have z2 := unfrozen f2 0
    have z3 := unfrozen f3 0
    have hbW : Below w.heap.size w W3 := ⟨m2.os.trans HB.out.os, m2.tape.trans HB.out.tape, m2.output.trans HB.out.output, Nat.le_trans HB.out.size m2.size, fun k hk => (m2.block k (by omega) (by omega)).trans (HB.out.block k hk)⟩
    have hK' := hK
    obtain ⟨W', hW'⟩ : ∃ W', (((W3.setCell ⟨w.heap.size + 1, 0, none⟩ (.int .i64 ((fstS ys).1 : Int))).setCell ⟨w.heap.size + 2, 0, none⟩ (.int .i64 ((fstS ys).2 : Int))).setCell ⟨w.heap.size + 3, 0, none⟩ (.bool (!ys.isEmpty))).drew = W' := ⟨_, rfl⟩
    have oth : ∀ k, k ≠ w.heap.size + 1 → k ≠ w.heap.size + 2 → k ≠ w.heap.size + 3 → W'.heap[k]? = W3.heap[k]? := fun k h1 h2 h3 => by
      rw [← hW']; exact (heap_set_other h3).trans ((heap_set_other h2).trans (heap_set_other h1))
    have hbW' : Below w.heap.size w W' := by
      rw [← hW']
      exact (((hbW.setCell (p := ⟨w.heap.size + 1, 0, none⟩) (by show _ ≤ w.heap.size + 1; omega) _).setCell (p := ⟨w.heap.size + 2, 0, none⟩) (by show _ ≤ w.heap.size + 2; omega) _).setCell (p := ⟨w.heap.size + 3, 0, none⟩) (by show _ ≤ w.heap.size + 3; omega) _).drew
    have k1 : W'.heap[w.heap.size + 1]? = some (.cells #[.int .i64 ((fstS ys).1 : Int)] 3 (0, 0)) := by
      rw [← hW']; exact (heap_set_other (by omega)).trans ((heap_set_other (by omega)).trans ((heap_set_at (o := 0) f1).trans rfl))
    have k2 : W'.heap[w.heap.size + 2]? = some (.cells #[.int .i64 ((fstS ys).2 : Int)] 3 (0, 0)) := by
      rw [← hW']; exact (heap_set_other (by omega)).trans ((heap_set_at (o := 0) ((heap_set_other (by omega)).trans f2)).trans rfl)
    have k3 : W'.heap[w.heap.size + 3]? = some (.cells #[.bool (!ys.isEmpty)] 4 (0, 0)) := by
      rw [← hW']; exact (heap_set_at (o := 0) ((heap_set_other (by omega)).trans ((heap_set_other (by omega)).trans f3))).trans rfl
    have hdk : W'.heap[d]? = some (.deferred (some [])) := (oth d (by omega) (by omega) (by omega)).trans hK
    have kk (b : Nat) (v : Value) (h : W'.cell? ⟨b, 0, none⟩ = some v) : (W'.putObj d (.deferred none)).cell? ⟨b, 0, none⟩ = some v := cell_kept h (grownBy_putObj' W' d (.deferred none)) (fun r e => by cases e; exact ⟨_, hdk, rfl⟩)
    have c1 := kk _ _ ((cell_at k1 0).trans rfl)
    have c2 := kk _ _ ((cell_at k2 0).trans rfl)
    have c3 := kk _ _ ((cell_at k3 0).trans rfl)
    have hsz' := hbW'.size
    have fin : W'.heap[d]? = some (.deferred (some [])) ∧ (W'.putObj d (.deferred none)).cell? ⟨w.heap.size + 1, 0, none⟩ = some (.int .i64 ((fstS ys).1 : Int)) ∧ (W'.putObj d (.deferred none)).cell? ⟨w.heap.size + 2, 0, none⟩ = some (.int .i64 ((fstS ys).2 : Int)) ∧ (W'.putObj d (.deferred none)).cell? ⟨w.heap.size + 3, 0, none⟩ = some (.bool (!ys.isEmpty)) ∧ Below w.heap.size w (W'.putObj d (.deferred none)) :=
      ⟨hdk, c1, c2, c3, hbW'.grown (grownBy_putObj' W' d _) hsz' (fun k e => by cases e; omega)⟩
    have FIN := Lib.hid fin
    have HW' := Lib.hid hW'
    have HPP := Lib.hid hPP
    clear m1 m2 m3 m4 m5 m6 f1 f2 f3 hbW hPP hK hK' b0 b1 b2 b3 b4 b5 hs hW' oth hbW' k1 k2 k3 hdk kk c1 c2 c3 hsz' fin
    gi_wp2
    rename_i KK hKK
    refine wpIn_mono (Q := Exit.then KK (fun _ _ _ => False)) ?_ (fun e a W h => by cases e <;> first | exact h | exact h.elim)
    gi_region_with_o (fail)
    all_goals
      refine hKK _ _ ?_
      gi_wp2
      refine HW'.out.symm ▸ ?_
      refine ⟨by simp, .inl ⟨_, _, rfl, run_takeDeferred FIN.out.1, ?_⟩⟩
      exact ⟨.tuple #[.int .i64 ((fstS ys).1 : Int), .int .i64 ((fstS ys).2 : Int), .bool (!ys.isEmpty)], by simp [results, Tryz.results86, go_sem, FIN.out.2.1, FIN.out.2.2.1, FIN.out.2.2.2.1], by rw [HPP.out], FIN.out.2.2.2.2⟩
  case stop =>
    rintro d c pre E W3 hd hEd hSp ⟨rfl, m1, m2, ms, m3, m4, m5⟩ hK
    have hdg : w.heap.size ≤ d := by omega
    clear b0 b1 b2 b3 b4 b5 hz1
    gi_wp2
    refine ⟨by simp, .inl ⟨_, _, rfl, run_takeDeferred hK, ?_⟩⟩
    have kk (b : Nat) (v : Value) (h : W3.cell? ⟨b, 0, none⟩ = some v) : (W3.putObj d (.deferred none)).cell? ⟨b, 0, none⟩ = some v := cell_kept h (grownBy_putObj' W3 d (.deferred none)) (fun r e => by cases e; exact ⟨_, hK, rfl⟩)
    have k3 := kk _ _ m3
    have k4 := kk _ _ m4
    have k5 := kk _ _ m5
    have hsz := m2.size
    exact ⟨.tuple #[.int .i64 (X.1.1 : Int), .int .i64 (X.1.2 : Int), .bool X.2], by simp [results, Tryz.results86, go_sem, k3, k4, k5], rfl, m2.grown (grownBy_putObj' W3 d _) hsz (fun k e => by cases e; exact hdg)⟩

end Go.Proofs.YtkgakgceamafcaaGreat

namespace Go.Proofs.YtkgakgceamafcaaGreat
open Go Go.RowKit Go.Shelf
set_option linter.unusedVariables false
attribute [local go_sem] Oper.semAt_some

set_option maxRecDepth 100000 in
set_option maxHeartbeats 4000000 in
theorem next_in (n : Nat) {w : World} {l p : List UInt8} {B ap N : Nat} {Ls : List R3} {Cs : List (List CelM)} {ta px : Option Addr} {m tc : Nat} {tl : Bool} {en : Int} (R C : Int)
    (HT : Tin w 194 (.pointer px) (rws Ls)) (hN : Ls.length = N) (hNl : N ≤ 100000) (HG : GrIn w l Ls Cs) (HA : Ar w B ap l) (hl : l.length ≤ 16384) (hsh : ∀ ms ∈ Cs, ∀ m ∈ ms, m.t.length ≤ 100000) (hcl : ∀ ms ∈ Cs, ms.length ≤ 100000)
    (hp : Rd w 1 ta p.length (bc p)) (hm : p.length = m) (hml : m ≤ 100000) :
    CallsIn Fence.wide n Tryz.prog 36 #[.agg #[.pointer px, .bool tl, .int .i64 en], .pointer (some ⟨ap, 0, none⟩), .slice ta m tc, .int .i64 R, .int .i64 C] w fun e w' => e = .returned (.tuple #[.int .i64 ((pickP (fun x => aheadP R C x.1 x.2) (havP l p Cs Ls)).1.1 : Int), .int .i64 ((pickP (fun x => aheadP R C x.1 x.2) (havP l p Cs Ls)).1.2 : Int), .bool (pickP (fun x => aheadP R C x.1 x.2) (havP l p Cs Ls)).2]) ∧ Below w.heap.size w w' := by
  obtain ⟨X, hX⟩ : ∃ X, pickP (fun x => aheadP R C x.1 x.2) (havP l p Cs Ls) = X := ⟨_, rfl⟩
  have HX := Lib.hid hX
  rw [hX]
  obtain ⟨hb1, hz1, hh⟩ := allocs_w [Obj.cells #[.pointer px, .bool tl, .int .i64 en] 27, Obj.cells #[.int .i64 R] 3, Obj.cells #[.int .i64 C] 3] w
  simp only [List.foldl_cons, List.foldl_nil] at hb1 hz1 hh
  obtain ⟨w1, hw1⟩ : ∃ w1, ((w.alloc (Obj.cells #[.pointer px, .bool tl, .int .i64 en] 27)).alloc (Obj.cells #[.int .i64 R] 3)).alloc (Obj.cells #[.int .i64 C] 3) = w1 := ⟨_, rfl⟩
  rw [hw1] at hb1 hz1 hh
  have b0 := (hh 0 (by simp)).trans rfl
  have b1 := (hh 1 (by simp)).trans rfl
  have b2 := (hh 2 (by simp)).trans rfl
  rw [Nat.add_zero] at b0
  simp only [List.length_cons, List.length_nil] at hz1
  have g0 : w1.cell? ⟨w.heap.size, 0, none⟩ = some (.pointer px) := (cell_at b0 0).trans rfl
  have g1 : w1.cell? ⟨w.heap.size, 1, none⟩ = some (.bool tl) := (cell_at b0 1).trans rfl
  have g2 : w1.cell? ⟨w.heap.size, 2, none⟩ = some (.int .i64 en) := (cell_at b0 2).trans rfl
  have r0 : w1.cell? ⟨w.heap.size + 1, 0, none⟩ = some (.int .i64 R) := (cell_at b1 0).trans rfl
  have c0 : w1.cell? ⟨w.heap.size + 2, 0, none⟩ = some (.int .i64 C) := (cell_at b2 0).trans rfl
  have hmix : Tryz.prog.follows .mixedOrders = true := by kernel_rfl
  have HSe := Lib.hid (seek_of (w := w1.drew) (tc := tc) ((hp.below hb1).below (Below.refl _ w1).drew) hm hml)
  have HPk := Lib.hid (fun (bs : List Nat) (ba : Option Addr) (bc' : Nat) (w2 w4 : World) (hbs : bs.length = m) (hTb : Tab p bs) (hrb : Rd w2 1 ba m (ib bs)) (hb2 : Below w1.heap.size w1 w2) (hb4 : Below w2.heap.size w2 w4) (hz4 : w4.heap.size = w2.heap.size + 3)
      (e0 : w4.heap[w2.heap.size]? = some (.cells #[.slice ta m tc, .slice ba m bc'] 163 (0, 0))) (e1 : w4.heap[w2.heap.size + 1]? = some (.cells #[.pointer px, .bool tl, .int .i64 en] 27 (0, 0))) (e2 : w4.heap[w2.heap.size + 2]? = some (.cells #[.pointer (some ⟨ap, 0, none⟩)] 28 (0, 0))) =>
    have hb14 : Below w1.heap.size w1 w4 := hb2.trans (hb4.mono hb2.size)
    have hb04 : Below w.heap.size w w4 := hb1.trans (hb14.mono hb1.size)
    have s2 := hb2.size
    pick_in (n - 1) (w := w4) (lb := #[pbox (w2.heap.size + 1), pbox w2.heap.size, pbox (w2.heap.size + 2)]) (A := havP l p Cs Ls) (R := R) (C := C) (br := w.heap.size + 1) (bc' := w.heap.size + 2)
      ((hb14.cell (p := ⟨w.heap.size + 1, 0, none⟩) (by show w.heap.size + 1 < _; omega)).trans r0) ((hb14.cell (p := ⟨w.heap.size + 2, 0, none⟩) (by show w.heap.size + 2 < _; omega)).trans c0) (by omega) (by omega)
      (fun k w' hbw => cells_iter k w4.heap.size (w2.heap.size + 1) w2.heap.size (w2.heap.size + 2) (D0 := fun _ => False) (w0 := w4) (w := w') hbw (Nat.le_refl _) hbw.size (fun _ h => h.elim) (.inr (by omega)) (.inr (by omega)) (.inr (by omega))
        ((hbw.cell (p := ⟨w2.heap.size + 1, 0, none⟩) (by show w2.heap.size + 1 < _; omega)).trans ((cell_at e1 0).trans rfl)) ((hbw.cell (p := ⟨w2.heap.size + 1, 1, none⟩) (by show w2.heap.size + 1 < _; omega)).trans ((cell_at e1 1).trans rfl)) ((hbw.cell (p := ⟨w2.heap.size + 1, 2, none⟩) (by show w2.heap.size + 1 < _; omega)).trans ((cell_at e1 2).trans rfl))
        ((hbw.cell (p := ⟨w2.heap.size, 0, none⟩) (by show w2.heap.size < _; omega)).trans ((cell_at e0 0).trans rfl)) ((hbw.cell (p := ⟨w2.heap.size, 1, none⟩) (by show w2.heap.size < _; omega)).trans ((cell_at e0 1).trans rfl)) ((hbw.cell (p := ⟨w2.heap.size + 2, 0, none⟩) (by show w2.heap.size + 2 < _; omega)).trans ((cell_at e2 0).trans rfl))
        (HT.below hb04) hN hNl (HG.below hb04) (HA.below hb04) hl hsh hcl (hp.below hb04) hTb (hrb.below hb4) hm hbs hml))
  rw [hX] at HPk
  have HB1 := Lib.hid hb1
  clear HT hN HG HA hsh hcl hp hm hh b0 b1 b2 hb1 hX r0 c0
  refine callsIn_of_wp Tryz.func36 rfl trivial ?_ rfl
  simp only [Tryz.ntmps36, List.size_toArray, List.length_cons, List.length_nil, Nat.reduceAdd, Nat.reduceSub, Array.replicate_succ, Array.replicate_zero, List.push_toArray, List.append_toArray, List.nil_append, List.cons_append]
  gi_wp2
  rename_i KK hKK
  clear hw1
  have hlg : w.heap.size < w1.heap.size := by omega
  refine wpIn_mono (Q := Exit.then KK (fun _ _ _ => False)) ?_ (fun e a W h => by cases e <;> first | exact h | exact h.elim)
  gi_region_with_o (first
    | (refine ⟨trivial, (fun h => by simp [Fence.wide] at h), ((callsIn_wide (n := n - 1)).2 HSe.out).mono ?_⟩; clear HSe; rintro e w2 ⟨bs, ba, bc', rfl, hbs, hTb, hrb, hba, hb2⟩
       have hb12 := (Below.refl _ w1).drew.trans hb2
       have g02 := (hb12.cell (p := ⟨w.heap.size, 0, none⟩) hlg).trans g0
       have g12 := (hb12.cell (p := ⟨w.heap.size, 1, none⟩) hlg).trans g1
       have g22 := (hb12.cell (p := ⟨w.heap.size, 2, none⟩) hlg).trans g2)
    | (refine ⟨trivial, (fun h => by simp [Fence.wide] at h), ((callsIn_wide (n := n - 1)).2 (cells_call ta ba m tc bc' px tl en ap)).mono ?_⟩; rintro e w4 ⟨rfl, hb4, hz4, e0, e1, e2⟩
       have HP4 := Lib.hid (HPk.out bs ba bc' _ w4 hbs hTb hrb hb12 hb4 hz4 e0 e1 e2)
       clear HPk e0 e1 e2)
    | (refine ⟨trivial, (fun h => by simp [Fence.wide] at h), HP4.out.mono ?_⟩; clear HP4; rintro e w6 ⟨rfl, hb6⟩))
  all_goals
    refine hKK _ _ ?_
    clear hKK
    gi_wp2
    refine bodyPost_ret (v := .tuple #[.int .i64 (X.1.1 : Int), .int .i64 (X.1.2 : Int), .bool X.2]) (by simp [results, Tryz.results36, go_sem]) rfl ?_
    exact ⟨rfl, HB1.out.trans ((hb12.trans ((hb4.mono hb12.size).trans (hb6.mono (Nat.le_trans hb12.size hb4.size)))).mono HB1.out.size)⟩

end Go.Proofs.YtkgakgceamafcaaGreat
