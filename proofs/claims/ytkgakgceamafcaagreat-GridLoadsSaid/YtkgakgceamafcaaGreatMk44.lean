/-
  Texts of this seat, put together (a claim holds few texts): GeM, GeN, GeO, GeP.
-/
import Derived.Test.YtkgakgceamafcaaGreatMk43
import Derived.Test.YtkgakgceamafcaaGreatMk41
import Derived.Lib.MinMax

namespace Go.Proofs.YtkgakgceamafcaaGreat
open Go Go.RowKit Go.Shelf
set_option linter.unusedVariables false
attribute [local go_sem] Oper.semAt_some

/-- What Width's loop keeps. -/
structure WdS (w : World) (q : Nat) (G : Array Value) (m : Nat) (E : Bls) (W : World) : Prop where
  el : ∀ k, E k → w.heap.size ≤ k ∧ k ≠ q ∧ k ≠ q + 1
  mv : Below w.heap.size w W
  h0 : W.heap[q]? = some (.cells G 27 (0, 0))
  h1 : W.heap[q + 1]? = some (.cells #[.int .i64 (m : Int)] 3 (0, 0))
theorem WdS.go {w W W' : World} {q m : Nat} {G : Array Value} {E E' : Bls} (h : WdS w q G m E W) (hq : w.heap.size ≤ q) (hm : Moves E W W') (hd : ∀ k, E' k → E k ∨ W.heap.size ≤ k) : WdS w q G m E' W' := by
  have l0 := lt_of_at h.h0
  have l1 := lt_of_at h.h1
  have hs := h.mv.size
  exact ⟨fun k hk => (hd k hk).elim (h.el k) (fun g => ⟨by omega, by omega, by omega⟩), ⟨hm.os.trans h.mv.os, hm.tape.trans h.mv.tape, hm.output.trans h.mv.output, Nat.le_trans hs hm.size, fun k hk => (hm.block k (by omega) (fun g => by have := (h.el k g).1; omega)).trans (h.mv.block k hk)⟩, (hm.block q l0 (fun g => (h.el q g).2.1 rfl)).trans h.h0, (hm.block _ l1 (fun g => (h.el _ g).2.2 rfl)).trans h.h1⟩
theorem WdS.below {w W W' : World} {q m : Nat} {G : Array Value} {E : Bls} (h : WdS w q G m E W) (hq : w.heap.size ≤ q) (hb : Below W.heap.size W W') : WdS w q G m E W' := h.go hq (Moves.below hb) (fun _ h => .inl h)
theorem WdS.drew {w W : World} {q m : Nat} {G : Array Value} {E : Bls} (h : WdS w q G m E W) : WdS w q G m E W.drew := ⟨h.el, h.mv.trans ((Below.refl _ W).drew.mono h.mv.size), h.h0, h.h1⟩
theorem WdS.put {w W : World} {q m : Nat} {G : Array Value} {E : Bls} (h : WdS w q G m E W) (hq : w.heap.size ≤ q) (m' : Nat) : W.frozen? ⟨q + 1, 0, none⟩ = false ∧ WdS w q G m' E (W.setCell ⟨q + 1, 0, none⟩ (.int .i64 (m' : Int))) ∧ Same E W (W.setCell ⟨q + 1, 0, none⟩ (.int .i64 (m' : Int))) :=
  ⟨unfrozen h.h1 0, ⟨h.el, h.mv.setCell (p := ⟨q + 1, 0, none⟩) (by show w.heap.size ≤ q + 1; omega) _, (heap_set_other (by omega)).trans h.h0, (heap_set_at (o := 0) h.h1).trans rfl⟩, fun k hk => heap_set_other (h.el k hk).2.2⟩
def widP (Ls : List R3) : Nat := Ls.foldl (fun m r => max m r.n) 0
def widQ (s : List (Nat × R3)) : Nat := s.foldl (fun m r => max m r.2.n) 0
theorem widQ_last (s : List (Nat × R3)) (x : Nat × R3) : widQ (s ++ [x]) = max (widQ s) x.2.n := by unfold widQ; rw [List.foldl_append]; rfl

set_option maxRecDepth 100000 in
set_option maxHeartbeats 4000000 in
theorem width_in (n : Nat) {w : World} {N : Nat} {Ls : List R3} {px : Option Addr} {tl : Bool} {en : Int} (HT : Tin w 194 (.pointer px) (rws Ls)) (hN : Ls.length = N) (hNl : N ≤ 100000) :
    CallsIn Fence.wide n Tryz.prog 59 #[.agg #[.pointer px, .bool tl, .int .i64 en]] w fun e w' => e = .returned (.int .i64 (widQ (pairs Ls) : Int)) ∧ Below w.heap.size w w' := by
  obtain ⟨hb1, hz1', hh⟩ := allocs_w [Obj.cells #[.pointer px, .bool tl, .int .i64 en] 27, Obj.cells #[.int .i64 0] 3] w
  simp only [List.foldl_cons, List.foldl_nil] at hb1 hz1' hh
  obtain ⟨w0, hw0⟩ : ∃ w0, (w.alloc (Obj.cells #[.pointer px, .bool tl, .int .i64 en] 27)).alloc (Obj.cells #[.int .i64 0] 3) = w0 := ⟨_, rfl⟩
  rw [hw0] at hb1 hz1' hh
  have b0 := (hh 0 (by simp)).trans rfl
  have b1 := (hh 1 (by simp)).trans rfl
  rw [Nat.add_zero] at b0
  simp only [List.length_cons, List.length_nil] at hz1'
  have s1 : w0.cell? ⟨w.heap.size + 1, 0, none⟩ = some (.int .i64 0) := (cell_at b1 0).trans rfl
  have z1 : w0.frozen? ⟨w.heap.size + 1, 0, none⟩ = false := unfrozen b1 0
  obtain ⟨w1, hw1⟩ : ∃ w1, w0.setCell ⟨w.heap.size + 1, 0, none⟩ (.int .i64 0) = w1 := ⟨_, rfl⟩
  replace hb1 : Below w.heap.size w w1 := by rw [← hw1]; exact hb1.setCell (p := ⟨w.heap.size + 1, 0, none⟩) (by show w.heap.size ≤ w.heap.size + 1; omega) _
  replace hz1' : w1.heap.size = w.heap.size + (0 + 1 + 1) := by rw [← hw1, World.size_setCell]; exact hz1'
  replace b0 : w1.heap[w.heap.size]? = some (.cells #[.pointer px, .bool tl, .int .i64 en] 27 (0, 0)) := by rw [← hw1]; exact (heap_set_other (by omega)).trans b0
  replace b1 : w1.heap[w.heap.size + 1]? = some (.cells #[.int .i64 0] 3 (0, 0)) := by rw [← hw1]; exact (heap_set_at (o := 0) b1).trans rfl
  have HT1 := HT.below hb1
  have HEa := Lib.hid (each_of (w := w1) tl en HT1 (n := N) (by rw [rws_len]; exact hN) (by omega))
  have hmix : Tryz.prog.follows .mixedOrders = true := by kernel_rfl
  have HT0 := Lib.hid HT
  have HN := Lib.hid hN
  have HB0 := Lib.hid (And.intro hb1 (And.intro hz1' (And.intro b0 b1)))
  have c0 : w1.cell? ⟨w.heap.size, 0, none⟩ = some (.pointer px) := (cell_at b0 0).trans rfl
  have c1 : w1.cell? ⟨w.heap.size, 1, none⟩ = some (.bool tl) := (cell_at b0 1).trans rfl
  have c2 : w1.cell? ⟨w.heap.size, 2, none⟩ = some (.int .i64 en) := (cell_at b0 2).trans rfl
  clear HT hN hb1 hz1' hh b0 b1 HT1
  refine callsIn_of_wp_marks Tryz.func59 rfl trivial ?_ rfl
  simp only [Tryz.ntmps59, List.size_toArray, List.length_cons, List.length_nil, Nat.reduceAdd, Nat.reduceSub, Array.replicate_succ, Array.replicate_zero, List.push_toArray, List.append_toArray, List.nil_append, List.cons_append]
  gi_wp2
  refine ⟨trivial, fun h => by simp [Fence.wide] at h, ((callsIn_wide (n := n - 1)).2 HEa.out).mono ?_⟩
  rintro e w6 ⟨w5, hb5, hz5, F5, rfl⟩
  clear hw0 hw1 s1 z1 c0 c1 c2 HEa
  have hb16 := hb5.trans (F5.below.mono hb5.size)
  have hb06 : Below w.heap.size w w6 := HB0.out.1.trans (hb16.mono HB0.out.1.size)
  have hz1 := HB0.out.2.1
  have k0 := (hb16.block w.heap.size (by omega)).trans HB0.out.2.2.1
  have k1 : w6.heap[w.heap.size + 1]? = some (.cells #[.int .i64 ((0 : Nat) : Int)] 3 (0, 0)) := (hb16.block (w.heap.size + 1) (by omega)).trans HB0.out.2.2.2
  have HI := rng_all (n - 1) w.heap.size (D0 := fun k => w5.heap.size ≤ k ∧ k < w5.heap.size + 5) (by rw [HN.out]; exact F5) HT0.out hb06 (Nat.le_refl _) hb06.size (fun k h => by have := F5.size; omega) (fun k h1 h2 => .inl ⟨h1, h2⟩) (by rw [HN.out]; exact hNl)
  have hlt5 := F5.size
  clear hb16
  gi_wp2
  refine range_outer (gf := 159) (lb := #[pbox w5.heap.size, pbox (w5.heap.size + 1), pbox (w5.heap.size + 2), pbox (w5.heap.size + 3), pbox (w5.heap.size + 4)]) rfl (fun h => by simp [Fence.wide] at h) rfl trivial (enters_of Tryz.func159 (by kernel_rfl) rfl)
    HI hb06.size (Below.refl _ _) (fun k h => by omega) (fun _ => rfl)
    (fun s E W => WdS w w.heap.size #[.pointer px, .bool tl, .int .i64 en] (widQ s) E W)
    (fun _ _ _ _ => False) (fun s D D' W W' h hm hd => h.go (Nat.le_refl _) hm hd) (fun _ _ _ _ _ _ h _ _ => h)
    ⟨fun k h => ⟨by omega, by omega, by omega⟩, hb06, k0, k1⟩
    (fun x a' E W' => ∃ rb, E rb ∧ W'.cell? ⟨rb, 0, none⟩ = some (.slice x.2.a x.2.n x.2.c) ∧ W'.cell? ⟨rb, 1, none⟩ = some (.int .i64 x.2.e) ∧ W'.cell? ⟨rb, 2, none⟩ = some (.bool x.2.b) ∧ a' = { tmps := #[.agg #[.pointer px, .bool tl, .int .i64 en], pbox w.heap.size, .int .i64 0, pbox (w.heap.size + 1), undef, pbox rb, .agg #[.pointer px, .bool tl, .int .i64 en], .func (.func 159) #[] #[pbox w5.heap.size, pbox (w5.heap.size + 1), pbox (w5.heap.size + 2), pbox (w5.heap.size + 3), pbox (w5.heap.size + 4)], .int .i64 (x.1 : Int), .agg #[.slice x.2.a x.2.n x.2.c, .int .i64 x.2.e, .bool x.2.b], undef, undef, undef, undef, undef], defers := [] })
    (fun x a' E V l r o ⟨rb, h1, h2, h3, h4, h5⟩ hl => ⟨rb, h1, cell_put h2 hl, cell_put h3 hl, cell_put h4 hl, h5⟩) ?assign ?body ?done ?stop
  case assign =>
    intro l' pre x E V4 K hl' hi hE hK
    simp only [encP, r3V]
    gi_wp2
    have al := t_al V4 (Obj.cells #[.slice x.2.a x.2.n x.2.c, .int .i64 x.2.e, .bool x.2.b] 103)
    refine hK _ (fun k => E k ∨ k = V4.heap.size) _ (fun k h => .inl h) (fun k h => by rw [World.size_alloc]; exact h.elim (fun h => by have := hE k h; omega) (fun h => by omega)) (Same.below al hE) (al.mono hi.mv.size) (hi.go (Nat.le_refl _) (Moves.below al) (fun k h => h.elim .inl (fun h => .inr (by omega)))) ⟨V4.heap.size, .inr rfl, by rw [cell_at (World.alloc_heap_new _ _)]; rfl, by rw [cell_at (World.alloc_heap_new _ _)]; rfl, by rw [cell_at (World.alloc_heap_new _ _)]; rfl, rfl⟩
  case body =>
    rintro lo pre ⟨k, ⟨xa, xn, xc, xe, xb⟩⟩ a' E V hEl ⟨r, hr⟩ hE hS ⟨rb, hrb, q0, q1, q2, rfl⟩ hNx
    simp only at q0 q1 q2
    obtain ⟨M, hM⟩ : ∃ M, widQ pre = M := ⟨_, rfl⟩
    rw [hM] at hS
    have HM := Lib.hid hM
    have ARM : Hid (∀ w7, Below V.drew.heap.size V.drew w7 → ∃ V2, w7.setCell ⟨w.heap.size + 1, 0, none⟩ (.int .i64 (max (M : Int) (xn : Int))) = V2 ∧ w7.frozen? ⟨w.heap.size + 1, 0, none⟩ = false ∧ w7.cell? ⟨w.heap.size + 1, 0, none⟩ = some (.int .i64 (M : Int)) ∧ w7.cell? ⟨rb, 0, none⟩ = some (.slice xa xn xc) ∧ w7.cell? ⟨rb, 1, none⟩ = some (.int .i64 xe) ∧ w7.cell? ⟨rb, 2, none⟩ = some (.bool xb) ∧
        WdS w w.heap.size #[.pointer px, .bool tl, .int .i64 en] (max M xn) E V2 ∧ Same E V V2 ∧ Below w.heap.size V V2) := Lib.hid (by
      intro w7 hb7
      have hS7 := hS.drew.below (Nat.le_refl _) hb7
      have m7 : Same E V w7 := (Same.below (Below.refl _ V).drew hE).trans (Same.below hb7 hE)
      obtain ⟨z, h1, h2⟩ := hS7.put (Nat.le_refl _) (max M xn)
      have hb9 : Below w.heap.size V w7 := (Below.refl _ V).drew.mono hS.mv.size |>.trans (hb7.mono hS.mv.size)
      have e : (max (M : Int) (xn : Int)) = ((max M xn : Nat) : Int) := by omega
      rw [e]
      exact ⟨_, rfl, z, (cell_at hS7.h1 0).trans rfl, (m7.cell (o := 0) hrb).trans q0, (m7.cell (o := 1) hrb).trans q1, (m7.cell (o := 2) hrb).trans q2, h1, m7.trans h2, hb9.setCell (p := ⟨w.heap.size + 1, 0, none⟩) (by show w.heap.size ≤ w.heap.size + 1; omega) _⟩)
    have f1 : V.cell? ⟨w.heap.size + 1, 0, none⟩ = some (.int .i64 (M : Int)) := (cell_at hS.h1 0).trans rfl
    clear hNx hr hE hS hEl hM k0 k1 HI F5 hb5 hz5 hlt5 hb06
    gi_wp2
    gi_region_with_o (first
      | (refine ⟨trivial, fun h => by simp [Fence.wide] at h, (CallsIn.inRound lo ((callsIn_wide (n := n - 1 - 1 - 1)).2 (rlen_of xa xn xc xe xb))).mono ?_⟩; rintro e w7 ⟨rfl, hb7⟩; obtain ⟨V2, hV2, zq2, f7, r07, r17, r27, hS2, hm2, hb2⟩ := ARM.out w7 hb7; have HF := Lib.hid (And.intro hS2 (And.intro hm2 hb2)); clear hS2 hm2 hb2 hb7))
    all_goals
      gi_wp2
      exact ⟨HF.out.2.1, HF.out.2.2, by dsimp only; rw [widQ_last, HM.out]; exact HF.out.1⟩
  case done =>
    rintro d ys E W3 hd hEd rfl hS hK
    have b0 : W3.cell? ⟨w.heap.size + 1, 0, none⟩ = some (.int .i64 (widQ (pairs Ls) : Int)) := (cell_at hS.h1 0).trans rfl
    have HS := Lib.hid hS
    clear hS k0 k1 HI F5 hb5
    gi_wp2
    refine ⟨by simp, .inl ⟨_, _, rfl, run_takeDeferred hK, ?_⟩⟩
    exact ⟨_, results_tmp rfl _ _ _, rfl, HS.out.mv.grown (grownBy_putObj' W3 d _) HS.out.mv.size (fun k e => by cases e; exact (HS.out.el d hEd).1)⟩
  case stop =>
    rintro d c pre E W3 hd hEd hSp h hK
    exact h.elim
theorem width_of {w : World} {N : Nat} {Ls : List R3} {px : Option Addr} (tl : Bool) (en : Int) (HT : Tin w 194 (.pointer px) (rws Ls)) (hN : Ls.length = N) (hNl : N ≤ 100000) :
    Calls Tryz.prog 59 #[.agg #[.pointer px, .bool tl, .int .i64 en]] w fun e w' => e = .returned (.int .i64 (widQ (pairs Ls) : Int)) ∧ Below w.heap.size w w' :=
  (callsIn_wide (n := 0)).1 (width_in 0 HT hN hNl)

set_option maxRecDepth 100000 in
set_option maxHeartbeats 2000000 in
theorem with_yes {w : World} (px py : Option Addr) (tl : Bool) (en : Int) :
    Calls Tryz.prog 110 #[.agg #[.pointer px, .bool tl, .int .i64 en], .agg #[.pointer py], .bool true] w fun e w' => e = .returned (.tuple #[.agg #[.pointer py, .bool tl, .int .i64 en], .int .i64 0]) ∧ Below w.heap.size w w' := by
  obtain ⟨hb1, hz1', hh⟩ := allocs_w [Obj.cells #[.pointer py, .bool tl, .int .i64 en] 27, Obj.cells #[.pointer py] 25, Obj.cells #[.pointer py, .bool tl, .int .i64 en] 27] w
  simp only [List.foldl_cons, List.foldl_nil] at hb1 hz1' hh
  have b2 := (hh 2 (by simp)).trans rfl
  have HB := Lib.hid hb1
  have H2 := Lib.hid b2
  clear hb1 hz1' hh b2
  go_enter Tryz.func110, Tryz.ntmps110
  go_wp2_with fail
  have s0 := (cell_at H2.out 0).trans rfl
  have s1 := (cell_at H2.out 1).trans rfl
  have s2 := (cell_at H2.out 2).trans rfl
  have hB := HB.out
  clear HB H2
  generalize ((w.alloc (Obj.cells #[Value.pointer py, Value.bool tl, Value.int IntKind.i64 en] 27)).alloc (Obj.cells #[Value.pointer py] 25)).alloc (Obj.cells #[Value.pointer py, Value.bool tl, Value.int IntKind.i64 en] 27) = w9 at *
  exact bodyPost_ret (v := .tuple #[.agg #[.pointer py, .bool tl, .int .i64 en], .int .i64 0]) (by simp [results, Tryz.results110, go_sem, s0, s1, s2]) rfl ⟨rfl, hB⟩

theorem tin_ptr {w : World} {T : TypeId} {v : Value} {L : List Value} (h : Tin w T v L) : ∃ p, v = .pointer p := by
  rcases h.one with rfl | ⟨b, rfl⟩ <;> exact ⟨_, rfl⟩
set_option maxRecDepth 100000 in
set_option maxHeartbeats 4000000 in
theorem gdel_yes {w : World} {px : Option Addr} {L : List Value} (tl : Bool) (en : Int) (i : Nat) (H : Tin w 194 (.pointer px) L) (hg : Gd L) (hi : i < L.length) (hf : L.length ≤ 90000) :
    Calls Tryz.prog 58 #[.agg #[.pointer px, .bool tl, .int .i64 en], .int .i64 i] w fun e w' => ∃ py, e = .returned (.tuple #[.agg #[.pointer py, .bool tl, .int .i64 en], .int .i64 0]) ∧ Tin w' 194 (.pointer py) (replL L i (i + 1) []) ∧ Below w.heap.size w w' := by
  obtain ⟨w1, hw1, hb1, hz1, hA, hC⟩ := two_blocks w (Obj.cells #[.pointer px, .bool tl, .int .i64 en] 27) (Obj.cells #[Value.pointer none, .bool false, .int .i64 0] 27)
  have c0 : w1.cell? ⟨w.heap.size, 0, none⟩ = some (.pointer px) := by rw [cell_at hA]; rfl
  have c1 : w1.cell? ⟨w.heap.size, 1, none⟩ = some (.bool tl) := by rw [cell_at hA]; rfl
  have c2 : w1.cell? ⟨w.heap.size, 2, none⟩ = some (.int .i64 en) := by rw [cell_at hA]; rfl
  have hd : Below w1.heap.size w1 w1.drew := (Below.refl _ w1).drew
  have HDel := Lib.hid (delyes_i i ((H.below hb1).below hd) hg hi hf)
  have ARM : Hid (∀ w5, Below w1.drew.heap.size w1.drew w5 → w5.cell? ⟨w.heap.size, 0, none⟩ = some (.pointer px) ∧ w5.cell? ⟨w.heap.size, 1, none⟩ = some (.bool tl) ∧ w5.cell? ⟨w.heap.size, 2, none⟩ = some (.int .i64 en) ∧ Below w.heap.size w w5) := Lib.hid (by
    intro w5 hb5
    have hz : w.heap.size < w1.heap.size := by omega
    exact ⟨(hb5.cell (p := ⟨w.heap.size, 0, none⟩) hz).trans c0, (hb5.cell (p := ⟨w.heap.size, 1, none⟩) hz).trans c1, (hb5.cell (p := ⟨w.heap.size, 2, none⟩) hz).trans c2, hb1.trans ((hd.mono hb1.size).trans (hb5.mono hb1.size))⟩)
  have ARN : Hid (∀ w5 w6 py, Below w1.drew.heap.size w1.drew w5 → Below w5.heap.size w5 w6 → Tin w5 194 (.pointer py) (replL L i (i + 1) []) → ∃ w7, ((w6.setCell ⟨w.heap.size + 1, 0, none⟩ (.pointer py)).setCell ⟨w.heap.size + 1, 1, none⟩ (.bool tl)).setCell ⟨w.heap.size + 1, 2, none⟩ (.int .i64 en) = w7 ∧ w7.cell? ⟨w.heap.size + 1, 0, none⟩ = some (.pointer py) ∧ w7.cell? ⟨w.heap.size + 1, 1, none⟩ = some (.bool tl) ∧ w7.cell? ⟨w.heap.size + 1, 2, none⟩ = some (.int .i64 en) ∧
      w6.cell? ⟨w.heap.size + 1, 0, none⟩ = some (.pointer none) ∧ w6.cell? ⟨w.heap.size + 1, 1, none⟩ = some (.bool false) ∧ w6.cell? ⟨w.heap.size + 1, 2, none⟩ = some (.int .i64 0) ∧ (∀ j, w6.frozen? ⟨w.heap.size + 1, j, none⟩ = false) ∧ Below w.heap.size w w7 ∧ Tin w7 194 (.pointer py) (replL L i (i + 1) [])) := Lib.hid (by
    intro w5 w6 py hb5 hb6 hT
    have hC6 := (hb6.block (w.heap.size + 1) (by have := hb5.size; show _ < w5.heap.size; have h2 : w1.drew.heap.size = w1.heap.size := rfl; omega)).trans ((hb5.block (w.heap.size + 1) (by show w.heap.size + 1 < w1.heap.size; omega)).trans hC)
    have hb06 : Below w.heap.size w w6 := (hb1.trans ((hd.mono hb1.size).trans (hb5.mono hb1.size))).trans (hb6.mono (Nat.le_trans hb1.size hb5.size))
    obtain ⟨w7, hw7, s0, s1, s2, hb7⟩ := row_set (v0 := .pointer py) (v1 := .bool tl) (v2 := .int .i64 en) hC6 hb06 (Nat.le_succ _)
    have hT6 := hT.below hb6
    have t0 := hT6.setT (o := 0) (u := .pointer py) hC6 (by decide) okT_grid
    have t1 := t0.setT (o := 1) (u := .bool tl) (heap_set_at hC6) (by decide) okT_grid
    have t2 := t1.setT (o := 2) (u := .int .i64 en) (heap_set_at (heap_set_at hC6)) (by decide) okT_grid
    refine ⟨w7, hw7, s0, s1, s2, (cell_at hC6 0).trans rfl, (cell_at hC6 1).trans rfl, (cell_at hC6 2).trans rfl, fun j => unfrozen hC6 j, hb7, ?_⟩
    rw [← hw7]; exact t2)
  have hmix : Tryz.prog.follows .mixedOrders = true := by kernel_rfl
  clear H hg hi hf hb1 hA hC hd
  go_enter Tryz.func58, Tryz.ntmps58
  go_upto_region 1 with fail
  go_region_with (first
    | (go_at_call 111; refine HDel.out.mono ?_; rintro e w5 ⟨pv, rfl, hT5, hb5⟩; obtain ⟨py, rfl⟩ := tin_ptr hT5; obtain ⟨k0, k1, k2, hb05⟩ := ARM.out w5 hb5; have HT5 := Lib.hid (And.intro hb5 hT5); clear hb5 hT5 hb05)
    | (go_at_call 110; refine (with_yes px py tl en).mono ?_; rintro e w6 ⟨rfl, hb6⟩; obtain ⟨w7, hw7, s0, s1, s2, j0, j1, j2, zz, hb07, hT7⟩ := ARN.out w5 w6 py HT5.out.1 hb6 HT5.out.2; have HF := Lib.hid (And.intro hb07 hT7); clear hb6 hb07 hT7))
  all_goals
    go_wp2_with fail
    exact bodyPost_ret (v := .tuple #[.agg #[.pointer py, .bool tl, .int .i64 en], .int .i64 0]) (by simp [results, Tryz.results58, go_sem, s0, s1, s2]) rfl ⟨py, rfl, HF.out.2, HF.out.1⟩

end Go.Proofs.YtkgakgceamafcaaGreat

namespace Go.Proofs.YtkgakgceamafcaaGreat
open Go Go.RowKit Go.Shelf
set_option linter.unusedVariables false

theorem strOf_one {a b : List UInt8} (h : strOf a = strOf b) : a = b := by
  have := congrArg (fun s => s.data.toList) h
  simpa [strOf] using this
theorem endB_no : endB 0 = [] := rfl
theorem save_row {l : List UInt8} {k : Nat} {ms : List CelM} (hk : k < l.length) (h : ms.map keyC = (rowP l k).fs.map keyF) : lineP l ms ++ endB (rowP l k).fin = (l.drop k).take ((rowP l k).next - k) :=
  strOf_one (by rw [← strOf_app, endB_str, ← str_ext8]; exact row_text hk h)
theorem tail_last {R : List Rw} {r : Nat} (hr : r < R.length) (h : R.length = r + 1) : tailP R = (R[r].fin != 0) := by
  unfold tailP
  rw [List.getLast?_eq_getElem?, h, Nat.add_sub_cancel, List.getElem?_eq_getElem hr]
theorem saveR_file {l : List UInt8} {Ls : List R3} {Cs : List (List CelM)} {R : List Rw} {r k : Nat} {x : R3} {ms : List CelM} {en : Int} (hr : r < R.length) (hk : k < l.length) (hq : R[r] = rowP l k) (hd : R.drop (r + 1) = allP l (rowP l k).next) (hms : Cs[r]? = some ms) (he : x.e = R[r].fin) (hky : ms.map keyC = R[r].fs.map keyF) :
    saveR l Cs R.length (tailP R) en (r, x) = (l.drop k).take ((rowP l k).next - k) := by
  have hsr := save_row (ms := ms) hk (by rw [← hq]; exact hky)
  have hgd : Cs.getD r [] = ms := by rw [List.getD_eq_getElem?_getD, hms]; rfl
  unfold saveR
  simp only
  rw [hgd, he, hq]
  by_cases hf : (rowP l k).fin = 0
  · have hn := ((mark_ext8 hk).2 hf).1
    have hlast : R.length = r + 1 := by
      have h1 : R.drop (r + 1) = [] := by rw [hd, hn]; exact allP_end (Nat.le_refl _)
      have h2 := List.drop_eq_nil_iff.1 h1
      omega
    have ht : tailP R = false := by rw [tail_last hr hlast, hq, hf]; rfl
    rw [hf, endB_no, List.append_nil] at hsr
    have hlen : (lineP l ms).length ≠ 0 := by
      rw [hsr, hn, List.length_take, List.length_drop]; omega
    rw [if_neg (by rintro (h | h | h); omega; rw [ht] at h; cases h; exact hlen h), List.append_nil]
    exact hsr
  · have hE : endR en (rowP l k).fin = (rowP l k).fin := by unfold endR; rw [if_neg hf]
    rw [hE, if_pos]
    · exact hsr
    · by_cases h1 : r + 1 < R.length
      · exact .inl h1
      · right; left
        rw [tail_last hr (by omega), hq]
        simpa using hf
theorem saveP_file {l : List UInt8} {Ls : List R3} {Cs : List (List CelM)} {en : Int} (hL : Ls.length = (allP l 0).length) (hC : Ls.length = Cs.length) (hF : FileOf Ls Cs (allP l 0)) : saveP l Cs (allP l 0).length (tailP (allP l 0)) en Ls = l := by
  obtain ⟨R, hR⟩ : ∃ R, allP l 0 = R := ⟨_, rfl⟩
  have key : ∀ m r k, r + m = R.length → R.drop r = allP l k → k ≤ l.length → ((pairs Ls).drop r).flatMap (saveR l Cs R.length (tailP R) en) = l.drop k := by
    rw [hR] at hL hF
    intro m
    induction m with
    | zero =>
      intro r k h1 h2 h3
      have h4 : k = l.length := by
        rcases Nat.lt_or_ge k l.length with h | h
        · rw [allP_more h, List.drop_eq_nil_iff.2 (by omega)] at h2; cases h2
        · omega
      rw [List.drop_eq_nil_iff.2 (by rw [pairs_len]; omega), List.drop_eq_nil_iff.2 (by omega)]
      rfl
    | succ m ih =>
      intro r k h1 h2 h3
      have hr : r < R.length := by omega
      obtain ⟨hk, hq, hd⟩ := allP_step8 h2 hr
      have hn := rowP_next hk
      have hrl : r < Ls.length := by omega
      have hp : (pairs Ls)[r]? = some (r, Ls[r]) := pairs_at (List.getElem?_eq_getElem hrl)
      obtain ⟨hpl, hpe⟩ := List.getElem?_eq_some_iff.1 hp
      rw [List.drop_eq_getElem_cons hpl, hpe, List.flatMap_cons, ih (r + 1) (rowP l k).next (by omega) hd hn.2]
      obtain ⟨e1, e2, e3⟩ := hF r Ls[r] (Cs[r]'(by omega)) R[r] (List.getElem?_eq_getElem hrl) (List.getElem?_eq_getElem (by omega)) (List.getElem?_eq_getElem hr)
      rw [saveR_file (Ls := Ls) hr hk hq hd (List.getElem?_eq_getElem (by omega)) e1 e3]
      have h5 : l.drop (rowP l k).next = (l.drop k).drop ((rowP l k).next - k) := by rw [List.drop_drop]; congr 1; omega
      rw [h5, List.take_append_drop]
  have := key R.length 0 0 (by omega) (by rw [List.drop_zero]; exact hR.symm) (Nat.zero_le _)
  rw [List.drop_zero, List.drop_zero] at this
  rw [hR]
  exact this

theorem fstEr_all : ∀ {R : List Rw}, fstEr R = 0 → ∀ r ∈ R, r.fs.length ≤ 40
  | [], _, r, h => by cases h
  | q :: l, h, r, hr => by
    unfold fstEr at h
    by_cases e : rEr q = 0
    · rw [if_pos e] at h
      rcases List.mem_cons.1 hr with rfl | hr
      · unfold rEr at e
        by_cases h4 : 40 < r.fs.length
        · rw [if_pos h4] at e; cases e
        · omega
      · exact fstEr_all h r hr
    · rw [if_neg e] at h; exact absurd h e
theorem glEr_zero {l : List UInt8} (h : glEr l = 0) : l.length ≤ 4096 ∧ (allP l 0).length ≤ 400 ∧ ∀ r ∈ allP l 0, r.fs.length ≤ 40 := by
  unfold glEr at h
  by_cases h1 : 4096 < l.length
  · rw [if_pos h1] at h; cases h
  rw [if_neg h1] at h
  by_cases h2 : 400 < (allP l 0).length
  · rw [if_pos h2] at h; cases h
  rw [if_neg h2] at h
  exact ⟨by omega, by omega, fstEr_all h⟩
theorem file_len {l : List UInt8} {Ls : List R3} {Cs : List (List CelM)} (h : glEr l = 0) (hL : Ls.length = (allP l 0).length) (hC : Ls.length = Cs.length) (hF : FileOf Ls Cs (allP l 0)) : ∀ ms ∈ Cs, ms.length ≤ 40 := by
  intro ms hms
  obtain ⟨k, hk, rfl⟩ := List.getElem_of_mem hms
  obtain ⟨_, _, e3⟩ := hF k (Ls[k]'(by omega)) Cs[k] ((allP l 0)[k]'(by omega)) (List.getElem?_eq_getElem (by omega)) (List.getElem?_eq_getElem hk) (List.getElem?_eq_getElem (by omega))
  have := congrArg List.length e3
  rw [List.length_map, List.length_map] at this
  have h4 := (glEr_zero h).2.2 _ (List.getElem_mem (show k < (allP l 0).length by omega))
  omega
theorem same_rows {l : List UInt8} {Ls Ds Es : List R3} {Cs : List (List CelM)} {R : List Rw} (hL : Ls.length = R.length) (hC : Ls.length = Cs.length) (hD : Ds.length = R.length) (hE : Es.length = R.length) (hF : FileOf Ls Cs R) (hA : AsRows Ls Ds) (hN : EndsAs Es R) :
    gRow Ds (Cs.map fun ms => ms.map (rc l)) = gRow Es (cellsG l R) := by
  apply List.ext_getElem?
  intro k
  by_cases hk : k < R.length
  · obtain ⟨e1, e2, e3⟩ := hF k (Ls[k]'(by omega)) (Cs[k]'(by omega)) R[k] (List.getElem?_eq_getElem _) (List.getElem?_eq_getElem _) (List.getElem?_eq_getElem _)
    obtain ⟨a1, a2⟩ := hA k (Ls[k]'(by omega)) (Ds[k]'(by omega)) (List.getElem?_eq_getElem _) (List.getElem?_eq_getElem _)
    obtain ⟨b1, b2⟩ := hN k (Es[k]'(by omega)) R[k] (List.getElem?_eq_getElem _) (List.getElem?_eq_getElem _)
    rw [gRow_at (d := Ds[k]'(by omega)) (M := (Cs[k]'(by omega)).map (rc l)) (List.getElem?_eq_getElem _) (by rw [List.getElem?_map, List.getElem?_eq_getElem (show k < Cs.length by omega)]; rfl), gRow_at (d := Es[k]'(by omega)) (M := R[k].fs.map (rcF l)) (List.getElem?_eq_getElem _) (by unfold cellsG; rw [List.getElem?_map, List.getElem?_eq_getElem hk]; rfl), rc_key e3, a1, a2, b1, b2, e1, e2]
  · rw [List.getElem?_eq_none (by rw [gRow_len (by rw [List.length_map]; omega)]; omega), List.getElem?_eq_none (by rw [gRow_len (by unfold cellsG; rw [List.length_map]; omega)]; omega)]

end Go.Proofs.YtkgakgceamafcaaGreat

namespace Go.Proofs.YtkgakgceamafcaaGreat
open Go Go.RowKit Go.Shelf
set_option linter.unusedVariables false

/-- The file of the example. -/
def l11 : List UInt8 := [97, 44, 98, 10, 99]
def f11a : Fd := ⟨0, 1, 0, [0]⟩
def f11b : Fd := ⟨2, 3, 0, [2]⟩
def f11c : Fd := ⟨4, 5, 0, [4]⟩
theorem f11a_eq : fieldP l11 0 = f11a := by
  have t : till l11 0 = 1 := by rw [till_step (by decide), till_stop (by decide)]
  unfold fieldP
  rw [if_neg (by decide), t, if_neg (by decide)]
  rfl
theorem f11b_eq : fieldP l11 2 = f11b := by
  have t : till l11 2 = 3 := by rw [till_step (by decide), till_stop (by decide)]
  unfold fieldP
  rw [if_neg (by decide), t, if_neg (by decide)]
  rfl
theorem f11c_eq : fieldP l11 4 = f11c := by
  have t : till l11 4 = 5 := by rw [till_step (by decide), till_stop (by decide)]
  unfold fieldP
  rw [if_neg (by decide), t, if_neg (by decide)]
  rfl
theorem all11 : allP l11 0 = [⟨[f11a, f11b], 1, 4⟩, ⟨[f11c], 0, 5⟩] := by
  have f : fieldsP l11 0 = ([f11a, f11b], 3) := by
    rw [fieldsP_more (by decide) (by rw [f11a_eq]; decide) (by rw [f11a_eq]; decide), f11a_eq]
    show (f11a :: (fieldsP l11 2).1, (fieldsP l11 2).2) = _
    rw [fieldsP_last (by rw [f11b_eq]; decide), f11b_eq]; rfl
  have r : rowP l11 0 = ⟨[f11a, f11b], 1, 4⟩ := by unfold rowP; rw [f]; rfl
  have f2 : fieldsP l11 4 = ([f11c], 5) := by rw [fieldsP_last (by rw [f11c_eq]; decide), f11c_eq]; rfl
  have r2 : rowP l11 4 = ⟨[f11c], 0, 5⟩ := by unfold rowP; rw [f2]; rfl
  rw [allP_more (by decide), r]
  show _ :: allP l11 4 = _
  rw [allP_more (by decide), r2]
  show _ :: _ :: allP l11 5 = _
  rw [allP_end (by decide)]
/-- A constant row of bytes in memory. -/
theorem lit11 (w : World) (l : List UInt8) (fr : Nat × Nat) : Rd (w.alloc (.cells (bc l).toArray 5 fr)) 1 (some ⟨w.heap.size, 0, none⟩) l.length (bc l) := by
  have hfn := heap_alloc_new w (.cells (bc l).toArray 5 fr)
  exact ⟨by simp [bc], fun _ => ⟨w.heap.size, 0, rfl, lt_of_heap hfn, fun j u hj => by rw [Nat.zero_add, cell_at hfn]; simpa using hj⟩⟩
theorem cs11 {w : World} {Ls : List R3} {Cs : List (List CelM)} (hl : Ls.length = 2) (hg : GrIn w l11 Ls Cs) (hf : FileOf Ls Cs (allP l11 0)) : ∃ r0 r1 m0 z, Ls = [r0, r1] ∧ Cs = [m0, [z]] ∧ r0.n = 2 ∧ r1.n = 1 ∧ r1.e = 0 ∧ keyC z = keyF f11c ∧ m0.length = 2 := by
  have hc : Cs.length = 2 := by rw [← hg.len]; exact hl
  match Ls, hl with
  | [r0, r1], _ =>
    match Cs, hc with
    | [m0, m1], _ =>
      rw [all11] at hf
      obtain ⟨_, _, k0⟩ := hf 0 r0 m0 _ rfl rfl rfl
      obtain ⟨e1, _, k1⟩ := hf 1 r1 m1 _ rfl rfl rfl
      have n0 := (hg.row 0 r0 m0 rfl rfl).1
      have n1 := (hg.row 1 r1 m1 rfl rfl).1
      have l0 : m0.length = 2 := by simpa using congrArg List.length k0
      have l1 : m1.length = 1 := by simpa using congrArg List.length k1
      match m1, l1 with
      | [z], _ => exact ⟨r0, r1, m0, z, rfl, rfl, by rw [n0, l0], n1, e1, by simpa using k1, l0⟩
theorem sv11h {r1 : R3} {z : CelM} {en : Int} (hz : keyC z = keyF f11c) : saveP l11 [[z]] 1 false en [r1] = [99] := by
  obtain ⟨a, n, c, x, y, k, t⟩ := z
  simp only [keyC, keyF, f11c, Prod.mk.injEq] at hz
  obtain ⟨rfl, rfl, rfl, rfl⟩ := hz
  rfl
theorem own_str {w : World} {B : Nat} {a : Option Addr} {c : Nat} {l : List UInt8} (h : w.ownsRow B 5 1 (.slice a l.length c) l.length (bc l)) : (convert 32 9 (.slice a l.length c)).run Tryz.prog w = .ok (.string (strOf l)) w := by
  exact string_own h

end Go.Proofs.YtkgakgceamafcaaGreat

namespace Go.Proofs.YtkgakgceamafcaaGreat
open Go Go.RowKit Go.Shelf
set_option linter.unusedVariables false

theorem tailF11 : tailP (allP l11 0) = false := by rw [all11]; rfl
/-- Save, and its answer as a text. -/
theorem sv_str {w : World} {F : Nat} {G P : Value} {l : List UInt8} (h : Calls Tryz.prog F #[G, P] w (BytesPost l w)) (n : Nat) (hn : l.length = n) (s : ByteArray) (hs : strOf l = s) :
    Calls Tryz.prog F #[G, P] w fun e w' => ∃ a c, e = .returned (.slice a n c) ∧ (convert 32 9 (.slice a n c)).run Tryz.prog w' = .ok (.string s) w' ∧ Below w.heap.size w w' := by
  refine h.mono ?_
  rintro e w' ⟨a, c, rfl, ho, hb⟩
  have := own_str ho
  subst hn hs
  exact ⟨a, c, rfl, this, hb⟩

set_option maxRecDepth 100000 in
set_option maxHeartbeats 4000000 in
theorem awake11_of (w : World) : Calls Tryz.prog 17 #[] w fun e w' => e = .returned (.bool true) ∧ Below w.heap.size w w' := by
  have hcv := conv_at
  have r5 := lit11 w l11 (5, 6)
  have HLo := Lib.hid (gload_ok (c := 5) (n := 2) r5 rfl (by decide) (by decide) (by decide) (by rw [all11]; rfl) (by decide) (by
    rw [all11]
    intro r hr
    simp only [List.mem_cons, List.not_mem_nil, or_false] at hr
    rcases hr with rfl | rfl
    · refine ⟨by decide, fun f hf => ?_⟩
      simp only [List.mem_cons, List.not_mem_nil, or_false] at hf
      rcases hf with rfl | rfl <;> (unfold longF; decide)
    · refine ⟨by decide, fun f hf => ?_⟩
      simp only [List.mem_cons, List.not_mem_nil, or_false] at hf
      rcases hf with rfl; unfold longF; decide))
  have B0 := Lib.hid (t_al w (.cells (bc l11).toArray 5 (5, 6)))
  clear r5
  go_enter Tryz.func17, Tryz.ntmps17
  go_wp2_with fail
  refine HLo.out.mono ?_; rintro e w1 ⟨px, p, Ls, Cs, rfl, hT, hLn, hG, hF, hA, hb1⟩
  rw [tailF11]
  have hsv := saveP_file (en := frsP (allP l11 0)) (by rw [hLn, all11]; rfl) hG.len hF
  rw [tailF11, show (allP l11 0).length = 2 by rw [all11]; rfl] at hsv
  generalize frsP (allP l11 0) = en at *
  obtain ⟨r0, r1, m0, z, rfl, rfl, n0, n1, e1, hz, hm0⟩ := cs11 hLn hG hF
  have hb1' : Below w.heap.size w w1 := B0.out.trans (hb1.mono B0.out.size)
  obtain ⟨wa, hwa, hba, hha⟩ : ∃ wa, w1.alloc (.cells #[.pointer px, .bool false, .int .i64 en] 27) = wa ∧ Below w1.heap.size w1 wa ∧ wa.heap[w1.heap.size]? = some (.cells #[.pointer px, .bool false, .int .i64 en] 27 (0, 0)) := ⟨_, rfl, t_al _ _, World.alloc_heap_new _ _⟩
  have a0 : wa.cell? ⟨w1.heap.size, 0, none⟩ = some (.pointer px) := (cell_at hha 0).trans rfl
  have a1 : wa.cell? ⟨w1.heap.size, 1, none⟩ = some (.bool false) := (cell_at hha 1).trans rfl
  have a2 : wa.cell? ⟨w1.heap.size, 2, none⟩ = some (.int .i64 en) := (cell_at hha 2).trans rfl
  have HDl := Lib.hid (gdel_yes (w := wa) false en 0 (hT.below hba) (by intro v hv; unfold rws at hv; obtain ⟨r, _, rfl⟩ := List.mem_map.1 hv; exact fun e => by cases e) (by show 0 < 2; decide) (by show 2 ≤ 90000; decide))
  have HD := Lib.hid (And.intro (hT.below hba) (And.intro (hG.below hba) (And.intro (hA.below hba) (And.intro hsv (And.intro hha (And.intro (hb1'.trans (hba.mono hb1'.size)) (lt_of_at hha)))))))
  have HZ := Lib.hid (And.intro hz (And.intro n0 (And.intro n1 hm0)))
  clear hT hLn hG hF hA hb1 hb1' hba hha HLo hsv hz n0 n1 e1 hm0 B0
  go_wp2_with fail
  refine HDl.out.mono ?_; rintro e w2 ⟨py, rfl, hT2, hb2⟩
  clear HDl a0 a1 a2 hwa hcv
  obtain ⟨wb, hwb, hbb, hhb⟩ : ∃ wb, w2.alloc (.cells #[.pointer py, .bool false, .int .i64 en] 27) = wb ∧ Below w2.heap.size w2 wb ∧ wb.heap[w2.heap.size]? = some (.cells #[.pointer py, .bool false, .int .i64 en] 27 (0, 0)) := ⟨_, rfl, t_al _ _, World.alloc_heap_new _ _⟩
  have hab : Below wa.heap.size wa wb := hb2.trans (hbb.mono hb2.size)
  have hTy : Tin wb 194 (.pointer py) (rws [r1]) := hT2.below hbb
  have FR : Hid (∀ wk, Below wb.heap.size wb wk → (wk.cell? ⟨w1.heap.size, 0, none⟩ = some (.pointer px) ∧ wk.cell? ⟨w1.heap.size, 1, none⟩ = some (.bool false) ∧ wk.cell? ⟨w1.heap.size, 2, none⟩ = some (.int .i64 en) ∧ wk.cell? ⟨w2.heap.size, 0, none⟩ = some (.pointer py) ∧ wk.cell? ⟨w2.heap.size, 1, none⟩ = some (.bool false) ∧ wk.cell? ⟨w2.heap.size, 2, none⟩ = some (.int .i64 en)) ∧
      Hid (Tin wk 194 (.pointer px) (rws [r0, r1])) ∧ Hid (Tin wk 194 (.pointer py) (rws [r1])) ∧ Hid (GrIn wk l11 [r0, r1] [m0, [z]]) ∧ Hid (Ar wk ((w.alloc (Obj.cells (bc l11).toArray 5 (5, 6))).heap.size + 1) p l11) ∧ Hid (Below w.heap.size w wk)) := Lib.hid (by
    intro wk hbk
    have hak := hab.trans (hbk.mono hab.size)
    have hA := (hak.block _ HD.out.2.2.2.2.2.2).trans HD.out.2.2.2.2.1
    have hB := (hbk.block _ (lt_of_at hhb)).trans hhb
    exact ⟨⟨(cell_at hA 0).trans rfl, (cell_at hA 1).trans rfl, (cell_at hA 2).trans rfl, (cell_at hB 0).trans rfl, (cell_at hB 1).trans rfl, (cell_at hB 2).trans rfl⟩, Lib.hid (HD.out.1.below hak), Lib.hid (hTy.below hbk), Lib.hid (HD.out.2.1.below hak), Lib.hid (HD.out.2.2.1.below hak), Lib.hid (HD.out.2.2.2.2.2.1.trans (hak.mono HD.out.2.2.2.2.2.1.size))⟩)
  obtain ⟨⟨g0, g1, g2, h0, h1, h2⟩, HT, HU, HG, HA, HW⟩ := FR.out wb (Below.refl _ _)
  have HLn := Lib.hid (gln_of (w := wb) (n := 2) false en HT.out rfl)
  clear hT2 hb2 hbb hhb hab hTy
  go_wp2_with fail
  clear hwb
  refine HLn.out.mono ?_; rintro e w3 ⟨rfl, hb3⟩
  clear g0 g1 g2 h0 h1 h2 HT HU HG HA HW HLn
  obtain ⟨⟨g0, g1, g2, h0, h1, h2⟩, HT, HU, HG, HA, HW⟩ := FR.out w3 hb3
  have HWd := Lib.hid (width_of (N := 2) false en HT.out rfl (by decide))
  rw [show widQ (pairs [r0, r1]) = 2 by show max (max 0 r0.n) r1.n = 2; rw [HZ.out.2.1, HZ.out.2.2.1]; rfl] at HWd
  have HB3 := Lib.hid hb3
  clear hb3
  go_wp2_with fail
  refine HWd.out.mono ?_; rintro e w4 ⟨rfl, hb4⟩
  have hb4' := HB3.out.trans (hb4.mono HB3.out.size)
  clear g0 g1 g2 h0 h1 h2 HT HU HG HA HW HWd HB3 hb4
  obtain ⟨⟨g0, g1, g2, h0, h1, h2⟩, HT, HU, HG, HA, HW⟩ := FR.out w4 hb4'
  have hG1 : GrIn w4 l11 [r1] [[z]] := ⟨rfl, fun k r ms e1 e2 => by
    cases k with
    | zero => exact HG.out.row 1 r ms e1 e2
    | succ k => simp at e1⟩
  have hs1 := save_of (w := w4) (N := 1) (tl := false) (en := en) HU.out rfl (by decide) hG1 HA.out (by decide) (by intro ms hms; simp at hms; subst hms; show 1 ≤ 1000; decide) (by rw [sv11h HZ.out.1]; decide)
  rw [sv11h HZ.out.1] at hs1
  have HS1 := Lib.hid (sv_str hs1 1 rfl ⟨#[99]⟩ rfl)
  have HB4 := Lib.hid hb4'
  clear hb4' hG1 hs1
  go_wp2_with fail
  refine HS1.out.mono ?_; rintro e w5 ⟨sa, sc, rfl, hs5, hb5⟩
  have hb5' := HB4.out.trans (hb5.mono HB4.out.size)
  clear g0 g1 g2 h0 h1 h2 HT HU HG HA HW HS1 HB4 hb5
  obtain ⟨⟨g0, g1, g2, h0, h1, h2⟩, HT, HU, HG, HA, HW⟩ := FR.out w5 hb5'
  have hs2 := save_of (w := w5) (N := 2) (tl := false) (en := en) HT.out rfl (by decide) HG.out HA.out (by decide) (by intro ms hms; simp at hms; rcases hms with rfl | rfl; rw [HZ.out.2.2.2]; decide; show 1 ≤ 1000; decide) (by rw [HD.out.2.2.2.1]; decide)
  rw [HD.out.2.2.2.1] at hs2
  have HS2 := Lib.hid (sv_str hs2 5 rfl ⟨#[97, 44, 98, 10, 99]⟩ rfl)
  have HB5 := Lib.hid hb5'
  clear hb5' hs2
  go_wp2_with fail
  refine HS2.out.mono ?_; rintro e w6 ⟨ta, tc, rfl, hs6, hb6⟩
  have HW6 := (FR.out w6 (HB5.out.trans (hb6.mono HB5.out.size))).2.2.2.2.2
  clear g0 g1 g2 h0 h1 h2 HT HU HG HA HW HS2 HB5 hb6 hs5
  go_wp2_with fail
  go_ret
  exact ⟨rfl, HW6.out⟩

end Go.Proofs.YtkgakgceamafcaaGreat
