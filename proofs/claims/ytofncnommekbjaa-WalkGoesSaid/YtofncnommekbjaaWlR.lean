/-
  The walk of WalkGoes.
-/
import Derived.Test.YtofncnommekbjaaWmC
import Derived.Test.YtofncnommekbjaaWkN
import Derived.Test.YtofncnommekbjaaLiftT
import Derived.Test.YtofncnommekbjaaWlS
import Derived.LoopNIn
import Derived.Sort.CutIn
import Derived.Deep.RegionHeld3
namespace Go.Proofs.Ytofncnommekbjaa
open Go Go.RowKit Go.Shelf
set_option linter.unusedVariables false
attribute [local go_sem] Oper.semAt_some

/-- What stands on the way: the boxes, the tree, the numbers. -/
structure Gz (w : World) (gt gw gf : Nat) (x1 a b : Option Addr) (c d : Nat) (p mo : Int) (l xs : List Int) (W : World) : Prop where
  below : Below w.heap.size w W
  lt : w.heap.size + 3 ≤ W.heap.size ∧ gt < W.heap.size ∧ gw < W.heap.size ∧ gf < W.heap.size
  qm : W.cell? ⟨w.heap.size + 1, 0, none⟩ = some (.int .u8 mo)
  qr : W.heap[w.heap.size + 2]? = some (.cells #[.bool false] 4 (0, 0))
  qt : W.cell? ⟨gt, 0, none⟩ = some (.pointer x1)
  qw : W.cell? ⟨gw, 0, none⟩ = some (.slice b xs.length d)
  qf : W.cell? ⟨gf, 0, none⟩ = some (.int .i64 p)
  t1 : Tin W 95 (.pointer x1) (nums l)
  s1 : Sl W a c (nums l)
  sw : Sl W b d (nums xs)
theorem Gz.grow {w W W' : World} {gt gw gf : Nat} {x1 a b : Option Addr} {c d : Nat} {p mo : Int} {l xs : List Int} (h : Gz w gt gw gf x1 a b c d p mo l xs W) (hb : Below W.heap.size W W') : Gz w gt gw gf x1 a b c d p mo l xs W' := by
  obtain ⟨l1, l2, l3, l4⟩ := h.lt
  have hs := hb.size
  exact ⟨h.below.trans (hb.mono h.below.size), ⟨by omega, by omega, by omega, by omega⟩, (hb.cell (p := ⟨w.heap.size + 1, 0, none⟩) (show w.heap.size + 1 < W.heap.size by omega)).trans h.qm, (hb.block _ (by omega)).trans h.qr, (hb.cell (p := ⟨gt, 0, none⟩) l2).trans h.qt, (hb.cell (p := ⟨gw, 0, none⟩) l3).trans h.qw, (hb.cell (p := ⟨gf, 0, none⟩) l4).trans h.qf, h.t1.below hb, h.s1.below hb, h.sw.below hb⟩

theorem seq_eq (b0 b1 b2 b3 b4 : Nat) (w : World) : Sem.run Try.prog (binOp BinOp.eql 62 (.func (.func 90) #[] #[pbox b0, pbox b1, pbox b2, pbox b3, pbox b4]) Value.nilFunc) w = .ok (.bool false) w := by kernel_rfl

theorem shift_inv' {p : Nat} {xs : List Int} {j k : Nat} {x : Int} (h : (shiftP p (pairs xs))[j]? = some (k, x)) : k = p + j ∧ xs[j]? = some x := by
  unfold shiftP at h
  rw [List.getElem?_map] at h
  obtain ⟨⟨a, b⟩, h1, h2⟩ := Option.map_eq_some_iff.1 h
  obtain ⟨rfl, h3⟩ := pairs_inv h1
  injection h2 with h2 h4
  exact ⟨h2.symm, by rw [h3, ← h4]⟩
theorem rev_inv {p : Nat} {xs : List Int} {j k : Nat} {x : Int} (h : (shiftP p (pairs xs)).reverse[j]? = some (k, x)) : ∃ i, i + j + 1 = xs.length ∧ k = p + i ∧ xs[i]? = some x := by
  have hl : (shiftP p (pairs xs)).length = xs.length := by unfold shiftP; rw [List.length_map, pairs_len]
  have hj : j < (shiftP p (pairs xs)).length := by have := (List.getElem?_eq_some_iff.1 h).1; rwa [List.length_reverse] at this
  rw [List.getElem?_reverse hj, hl] at h
  rw [hl] at hj
  obtain ⟨h1, h2⟩ := shift_inv' h
  exact ⟨xs.length - 1 - j, by omega, h1, h2⟩
/-- What a range of the law keeps between two rounds, where it breaks off, and what it ends with. -/
def GoI (wc : World) (gn : Nat) (mo : Int) (pre : List (Nat × Int)) (E : Bls) (W : World) : Prop :=
  (∀ k, E k → gn + 1 ≤ k) ∧ Below gn wc W ∧ gn < W.heap.size ∧ W.heap[gn]? = some (.cells #[.int .i64 (pre.length : Int)] 3 (0, 0)) ∧ (mo = 0 ∨ (pre.length : Int) < mo)
theorem GoI.firm {wc : World} {gn : Nat} {mo : Int} : Firm (GoI wc gn mo) := by
  rintro s D D' W W' ⟨h1, h2, h3, h4, h5⟩ hm hd
  have hs := hm.size
  exact ⟨fun k hk => (hd k hk).elim (h1 k) (fun h => by omega), ⟨hm.os.trans h2.os, hm.tape.trans h2.tape, hm.output.trans h2.output, Nat.le_trans h2.size hm.size, fun k hk => (hm.block k (by omega) (fun h => by have := h1 k h; omega)).trans (h2.block k hk)⟩, by omega, (hm.block gn h3 (fun h => by have := h1 gn h; omega)).trans h4, h5⟩
def GoX (wc : World) (gn : Nat) (mo : Int) (xl id : Nat) (c : Code) (pre : List (Nat × Int)) (E : Bls) (W : World) : Prop :=
  c = .exit id ∧ (∀ k, E k → gn + 1 ≤ k) ∧ Below gn wc W ∧ gn < W.heap.size ∧ W.heap[gn]? = some (.cells #[.int .i64 mo] 3 (0, 0)) ∧ 0 < mo ∧ mo ≤ (xl : Int)
theorem GoX.firm {wc : World} {gn : Nat} {mo : Int} {xl id : Nat} (c : Code) : Firm (GoX wc gn mo xl id c) := by
  rintro s D D' W W' ⟨h0, h1, h2, h3, h4, h5⟩ hm hd
  have hs := hm.size
  exact ⟨h0, fun k hk => (hd k hk).elim (h1 k) (fun h => by omega), ⟨hm.os.trans h2.os, hm.tape.trans h2.tape, hm.output.trans h2.output, Nat.le_trans h2.size hm.size, fun k hk => (hm.block k (by omega) (fun h => by have := h1 k h; omega)).trans (h2.block k hk)⟩, by omega, (hm.block gn h3 (fun h => by have := h1 gn h; omega)).trans h4, h5⟩
def GoF (wc : World) (gn : Nat) (N : Int) (W : World) : Prop := Below gn wc W ∧ gn < W.heap.size ∧ W.heap[gn]? = some (.cells #[.int .i64 N] 3 (0, 0))
theorem GoX.set {wc V : World} {gn id xl : Nat} {mo L0 : Int} {E : Bls} {pre : List (Nat × Int)} (h1 : ∀ k, E k → gn + 1 ≤ k) (h2 : Below gn wc V) (h3 : gn < V.heap.size) (h4 : V.heap[gn]? = some (.cells #[.int .i64 L0] 3 (0, 0))) (hb : L0 + 1 = mo) (h5 : 0 < mo) (h6 : mo ≤ (xl : Int)) :
    Same E V (V.setCell ⟨gn, 0, none⟩ (.int .i64 (L0 + 1))) ∧ GoX wc gn mo xl id (.exit id) pre E (V.setCell ⟨gn, 0, none⟩ (.int .i64 (L0 + 1))) :=
  ⟨fun k hk => heap_set_other (by have := h1 k hk; omega), rfl, h1, h2.setCell (p := ⟨gn, 0, none⟩) (Nat.le_refl _) _, by rw [World.size_setCell]; exact h3, by rw [heap_set_at h4, ← hb]; rfl, h5, h6⟩
theorem GoI.set {wc V : World} {gn : Nat} {mo L0 : Int} {E : Bls} {pre : List (Nat × Int)} (hp : (pre.length : Int) = L0 + 1) (h1 : ∀ k, E k → gn + 1 ≤ k) (h2 : Below gn wc V) (h3 : gn < V.heap.size) (h4 : V.heap[gn]? = some (.cells #[.int .i64 L0] 3 (0, 0))) (hb : mo = 0 ∨ L0 + 1 < mo) :
    Same E V (V.setCell ⟨gn, 0, none⟩ (.int .i64 (L0 + 1))) ∧ Below gn V (V.setCell ⟨gn, 0, none⟩ (.int .i64 (L0 + 1))) ∧ GoI wc gn mo pre E (V.setCell ⟨gn, 0, none⟩ (.int .i64 (L0 + 1))) :=
  ⟨fun k hk => heap_set_other (by have := h1 k hk; omega), (Below.refl _ _).setCell (p := ⟨gn, 0, none⟩) (Nat.le_refl _) _, h1, h2.setCell (p := ⟨gn, 0, none⟩) (Nat.le_refl _) _, by rw [World.size_setCell]; exact h3, by rw [heap_set_at h4, hp]; rfl, by rw [hp]; exact hb⟩
theorem leave4 {n : Nat} {fn : Func} {tmps : Array Value} {R : Ending → World → Prop} {W : World} {a b c d : Nat} (ha : W.heap[a]? = some (.deferred (some []))) (hb : W.heap[b]? = some (.deferred (some []))) (hc : W.heap[c]? = some (.deferred (some []))) (hd : W.heap[d]? = some (.deferred (some []))) (h1 : a < b) (h2 : b < c) (h3 : c < d)
    (h : ∀ W', Below a W W' → LeavesIn Fence.wide n Try.prog fn tmps R [] .returning W') :
    LeavesInM Fence.wide n Try.prog fn tmps R [{ target := .collected d, args := #[] }, { target := .collected c, args := #[] }, { target := .collected b, args := #[] }, { target := .collected a, args := #[] }] .returning W := by
  have put : ∀ (V : World) (k : Nat), a ≤ k → Below a V (V.putObj k (.deferred none)) := fun V k hk => ⟨(grownBy_putObj' V k _).os, (grownBy_putObj' V k _).tape, (grownBy_putObj' V k _).output, (grownBy_putObj' V k _).size, fun i hi => World.putObj_heap_other (by omega)⟩
  have oth : ∀ (V : World) (k i : Nat), i ≠ k → (V.putObj k (.deferred none)).heap[i]? = V.heap[i]? := fun V k i hi => World.putObj_heap_other hi
  refine ⟨by simp, .inl ⟨_, _, rfl, run_takeDeferred hd, ?_⟩⟩
  refine ⟨by simp, .inl ⟨_, _, rfl, run_takeDeferred ((oth _ _ _ (by omega)).trans hc), ?_⟩⟩
  refine ⟨by simp, .inl ⟨_, _, rfl, run_takeDeferred ((oth _ _ _ (by omega)).trans ((oth _ _ _ (by omega)).trans hb)), ?_⟩⟩
  refine ⟨by simp, .inl ⟨_, _, rfl, run_takeDeferred ((oth _ _ _ (by omega)).trans ((oth _ _ _ (by omega)).trans ((oth _ _ _ (by omega)).trans ha))), ?_⟩⟩
  exact h _ ((put _ _ (by omega)).trans ((put _ _ (by omega)).trans ((put _ _ (by omega)).trans (put _ _ (by omega)))))

set_option maxRecDepth 100000 in
set_option maxHeartbeats 4000000 in
theorem walkGoes_in (n : Nat) (a : Option Addr) (c : Nat) (l0 : List Int) (I K mo : Int) (w : World) (hl0 : Sl w a c (l0.map (Value.int .i64))) (hk0 : 0 ≤ mo) (hk1 : mo ≤ 255) :
    CallsIn Fence.wide n Try.prog 7 #[.slice a l0.length c, .agg #[.int .i64 I, .int .i64 K], .int .u8 mo] w fun e w' => e = .returned (.bool true) ∧ Below w.heap.size w w' := by
  obtain ⟨w1, hw1, hb1, hz1, hA, hB, hC⟩ := three_blocks w (Obj.cells #[.int .i64 I, .int .i64 K] 57) (Obj.cells #[.int .u8 mo] 5) (Obj.cells #[.bool false] 4)
  have k0 : w1.cell? ⟨w.heap.size, 0, none⟩ = some (.int .i64 I) := (cell_at hA 0).trans rfl
  have k1 : w1.cell? ⟨w.heap.size, 1, none⟩ = some (.int .i64 K) := (cell_at hA 1).trans rfl
  have km : w1.cell? ⟨w.heap.size + 1, 0, none⟩ = some (.int .u8 mo) := (cell_at hB 0).trans rfl
  have HC1 := Lib.hid hC
  have hl1 : Sl w1 a c (nums l0) := Sl.below hl0 hb1
  have HF1 := Lib.hid ((callsIn_wide (n := n - 1)).2 (nfew10 l0 hl1))
  have hlen : (l0.take 300).length ≤ 300 := by rw [List.length_take]; omega
  generalize l0.take 300 = l at *
  generalize l0.length = n0 at *
  obtain ⟨m, hm⟩ : ∃ m, l.length = m := ⟨_, rfl⟩
  have HN := Lib.hid hm
  rw [hm] at hlen HF1
  have hmix : Try.prog.follows .mixedOrders = true := by kernel_rfl
  clear hl0 hl1 hm hA hB hC
  refine callsIn_of_wp_marks Try.func7 rfl trivial ?_ rfl
  simp only [Try.ntmps7, List.size_toArray, List.length_cons, List.length_nil, Nat.reduceAdd, Nat.reduceSub, Array.replicate_succ, Array.replicate_zero, List.push_toArray, List.append_toArray, List.nil_append, List.cons_append]
  gi_wp2
  refine ⟨trivial, fun h => by simp [Fence.wide] at h, HF1.out.mono ?_⟩
  clear HF1; rintro e w2 ⟨rfl, s1, rfl⟩
  have S1 := Lib.hid s1
  have HO := Lib.hid ((callsIn_wide (n := n - 1)).2 (tof_i S1.out (by rw [nums_len, HN.out]) (show m ≤ 90000 by omega) (nums_gd _)))
  clear s1
  gi_wp2
  refine ⟨trivial, fun h => by simp [Fence.wide] at h, HO.out.mono ?_⟩
  clear HO; rintro e w3 ⟨x1, rfl, t1, b3⟩
  have hh5 := World.alloc_heap_new w3 (Obj.cells #[.pointer x1] 27)
  have hb5 := t_al w3 (Obj.cells #[.pointer x1] 27)
  have hz5 : (w3.alloc (Obj.cells #[.pointer x1] 27)).heap.size = w3.heap.size + 1 := by simp
  obtain ⟨w5, hw5⟩ : ∃ w5, w3.alloc (Obj.cells #[.pointer x1] 27) = w5 := ⟨_, rfl⟩
  rw [hw5] at hh5 hb5 hz5
  have hb15 := b3.trans (hb5.mono b3.size)
  have k05 := (hb15.cell (p := ⟨w.heap.size, 0, none⟩) (show w.heap.size < w1.heap.size by omega)).trans k0
  have k15 := (hb15.cell (p := ⟨w.heap.size, 1, none⟩) (show w.heap.size < w1.heap.size by omega)).trans k1
  have km5 := (hb15.cell (p := ⟨w.heap.size + 1, 0, none⟩) (show w.heap.size + 1 < w1.heap.size by omega)).trans km
  have HS := Lib.hid ((callsIn_wide (n := n - 1)).2 (nslice l I K (S1.out.below hb15) (by rw [HN.out]; omega)))
  rw [HN.out] at HS
  have q1 : w5.cell? ⟨w3.heap.size, 0, none⟩ = some (.pointer x1) := by rw [cell_at hh5]; rfl
  have G5 := Lib.hid (And.intro (hb1.trans (hb15.mono hb1.size)) (And.intro ((hb15.block _ (by omega)).trans HC1.out) (And.intro (t1.below hb5) (S1.out.below hb15))))
  have hb15' := hb15
  clear t1 b3 hb5 hb15 S1 hh5 k0 k1 km
  gi_wp2
  refine ⟨trivial, fun h => by simp [Fence.wide] at h, HS.out.mono ?_⟩
  clear HS; rintro e w6 ⟨b, d, rfl, sw, _, _, b6⟩
  have hxl : (slZ l I K).length = max (heldN I m) (heldN K m) - heldN I m := by unfold slZ; rw [HN.out, List.length_take, List.length_drop, HN.out]; have := heldN_le K m; have := heldN_le I m; omega
  have hxd : slZ l I K = (l.drop (heldN I m)).take (max (heldN I m) (heldN K m) - heldN I m) := by unfold slZ; rw [HN.out]
  have hpn := heldN_le I m
  have hqn : max (heldN I m) (heldN K m) ≤ m := by have := heldN_le K m; omega
  have hpq : heldN I m ≤ max (heldN I m) (heldN K m) := by omega
  have HST := Lib.hid (fun (W : World) => (callsIn_wide (n := n - 1)).2 (nstretch (w := W) (a := a) (c := c) (n := m) I K))
  obtain ⟨p, hp⟩ : ∃ p, heldN I m = p := ⟨_, rfl⟩
  obtain ⟨q, hq⟩ : ∃ q, max p (heldN K m) = q := ⟨_, rfl⟩
  have HPQ := Lib.hid (And.intro hp hq)
  rw [hp] at hxl hxd hpn hqn hpq HST
  rw [hq] at hxl hxd hqn hpq HST
  generalize slZ l I K = xs at *
  obtain ⟨xl, hxll⟩ : ∃ xl, xs.length = xl := ⟨_, rfl⟩
  have HXL := Lib.hid (And.intro hxll (And.intro hxl hxd))
  rw [hxll] at hxl ⊢
  clear hp hq hxd hxll hxl
  have hh7 := heap_alloc_new w6 (Obj.cells #[.slice b xl d] 22)
  have hb7 := t_al w6 (Obj.cells #[.slice b xl d] 22)
  have hz7 : (w6.alloc (Obj.cells #[.slice b xl d] 22)).heap.size = w6.heap.size + 1 := by simp
  obtain ⟨w7, hw7⟩ : ∃ w7, w6.alloc (Obj.cells #[.slice b xl d] 22) = w7 := ⟨_, rfl⟩
  rw [hw7] at hh7 hb7 hz7
  have hb57 := b6.trans (hb7.mono b6.size)
  have hs5 := b6.size
  have hww5 : w.heap.size + 3 ≤ w5.heap.size := by have := hb15'.size; omega
  have k07 := (hb57.cell (p := ⟨w.heap.size, 0, none⟩) (show w.heap.size < w5.heap.size by omega)).trans k05
  have k17 := (hb57.cell (p := ⟨w.heap.size, 1, none⟩) (show w.heap.size < w5.heap.size by omega)).trans k15
  gi_wp2
  refine ⟨trivial, fun h => by simp [Fence.wide] at h, (HST.out _).mono ?_⟩
  rintro e w7' ⟨rfl, rfl⟩
  have hh8 := heap_alloc_new w7 (Obj.cells #[.int .i64 (p : Int)] 3)
  have hb8 := t_al w7 (Obj.cells #[.int .i64 (p : Int)] 3)
  have hz8 : (w7.alloc (Obj.cells #[.int .i64 (p : Int)] 3)).heap.size = w7.heap.size + 1 := by simp
  obtain ⟨w8, hw8⟩ : ∃ w8, w7.alloc (Obj.cells #[.int .i64 (p : Int)] 3) = w8 := ⟨_, rfl⟩
  rw [hw8] at hh8 hb8 hz8
  have hb58 := hb57.trans (hb8.mono hb57.size)
  have k08 := (hb8.cell (p := ⟨w.heap.size, 0, none⟩) (show w.heap.size < w7.heap.size by have := hb57.size; omega)).trans k07
  have k18 := (hb8.cell (p := ⟨w.heap.size, 1, none⟩) (show w.heap.size < w7.heap.size by have := hb57.size; omega)).trans k17
  have hqw : w8.cell? ⟨w6.heap.size, 0, none⟩ = some (.slice b xl d) := (hb8.cell (p := ⟨w6.heap.size, 0, none⟩) (show w6.heap.size < w7.heap.size by omega)).trans ((cell_at hh7 0).trans rfl)
  have hqf : w8.cell? ⟨w7.heap.size, 0, none⟩ = some (.int .i64 (p : Int)) := (cell_at hh8 0).trans rfl
  have hs58 := hb58.size
  have G8 : Gz w w3.heap.size w6.heap.size w7.heap.size x1 a b c d p mo l xs w8 := ⟨G5.out.1.trans (hb58.mono G5.out.1.size), ⟨by omega, by omega, by omega, by omega⟩, (hb58.cell (p := ⟨w.heap.size + 1, 0, none⟩) (show w.heap.size + 1 < w5.heap.size by omega)).trans km5, (hb58.block _ (by omega)).trans G5.out.2.1, (hb58.cell (p := ⟨w3.heap.size, 0, none⟩) (show w3.heap.size < w5.heap.size by omega)).trans q1, by rw [HXL.out.1]; exact hqw, hqf, G5.out.2.2.1.below hb58, G5.out.2.2.2.below hb58, sw.below (hb7.trans (hb8.mono hb7.size))⟩
  have G := Lib.hid G8
  have qt8 := G8.qt
  have hlt8 : w3.heap.size < w8.heap.size := by omega
  have hwz8 : w.heap.size < w8.heap.size := by omega
  generalize w3.heap.size = gt at *
  generalize w6.heap.size = gw at *
  clear hh7 hb7 hz7 hh8 hb8 hz8 hb57 hb58 hs5 hs58 hqw hqf k07 k17 k05 k15 km5 q1 G5 G8 sw b6 hww5 hb15' HST
  gi_wp2
  have HR := Lib.hid (fun V (hb : Below w8.heap.size w8 V) => range_call (p := p) (q := q) I K (G.out.t1.below hb) (by rw [nums_len]; exact HN.out) (show m ≤ 1000000 by omega) HPQ.out.1 HPQ.out.2)
  have HBk := Lib.hid (fun V (hb : Below w8.heap.size w8 V) => back_call (p := p) (q := q) I K (G.out.t1.below hb) (by rw [nums_len]; exact HN.out) (show m ≤ 1000000 by omega) HPQ.out.1 HPQ.out.2)
  have ld0 := fun w' (h : Below w8.heap.size w8 w') => (h.cell (p := ⟨gt, 0, none⟩) hlt8).trans qt8
  have ld1 := fun w' (h : Below w8.heap.size w8 w') => (h.cell (p := ⟨w.heap.size, 0, none⟩) hwz8).trans k08
  have ld2 := fun w' (h : Below w8.heap.size w8 w') => (h.cell (p := ⟨w.heap.size, 1, none⟩) hwz8).trans k18
  have hsB0 : Below w8.heap.size w8 w8.drew := (Below.refl _ _).drew
  have B0 := Lib.hid hsB0
  gi_cut [11, 12] from 41 (fun s11 s12 wx => ∃ wa wb : World, s11 = .func (.func 90) #[] #[pbox wa.heap.size, pbox (wa.heap.size + 1), pbox (wa.heap.size + 2), pbox (wa.heap.size + 3), pbox (wa.heap.size + 4)] ∧ s12 = .func (.func 90) #[] #[pbox wb.heap.size, pbox (wb.heap.size + 1), pbox (wb.heap.size + 2), pbox (wb.heap.size + 3), pbox (wb.heap.size + 4)] ∧ Below w8.heap.size w8 wx ∧ Five2 wa x1 p q 69 70 wx ∧ Five2 wb x1 p q 71 72 wx)
  case first =>
    refine wpIn_wide.2 ?_
    go_region_held3 (fun w' => Below w8.heap.size w8 w')
      (first | assumption)
      ((first
        | (go_at_call 30; have XX := B1; clear XX; refine (HBk.out _ B1.out).mono ?_; rintro e V2 ⟨wb, hbb, _, FB, rfl⟩; have hbV2 := hbb.trans (FB.below.mono hbb.size); have hsB2 := hsB1.trans (hbV2.mono hsB1.size); have F2 := Lib.hid (And.intro (FAh.out.grow hbV2) FB); clear hbb FB hbV2)
        | (go_at_call 29; refine (HR.out _ B0.out).mono ?_; rintro e V1 ⟨wa, hba, _, FA, rfl⟩; have hsB1 := hsB0.trans ((hba.trans (FA.below.mono hba.size)).mono hsB0.size); have B1 := Lib.hid hsB1; have FAh := Lib.hid FA; clear hba FA)))
    all_goals
      gi_wp2
      gi_meet
      exact ⟨wa, wb, rfl, rfl, hsB2, F2.out.1, F2.out.2⟩
  case rest =>
    obtain ⟨wa, wb, rfl, rfl, hbx, FA, FB⟩ := hcut
    have Gc := Lib.hid (And.intro (G.out.grow hbx) (And.intro FA FB))
    have hef1 := seq_eq wa.heap.size (wa.heap.size + 1) (wa.heap.size + 2) (wa.heap.size + 3) (wa.heap.size + 4) wc
    have hef2 := seq_eq wb.heap.size (wb.heap.size + 1) (wb.heap.size + 2) (wb.heap.size + 3) (wb.heap.size + 4) wc
    clear hw5 hw7 hw8 hw1 k08 k18 ld0 ld1 ld2 qt8
    gi_wp2
    obtain ⟨N, hN⟩ : ∃ N : Int, ((mo = 0 ∨ (xl : Int) < mo) → N = xl) ∧ ((0 < mo ∧ mo ≤ (xl : Int)) → N = mo) := by
      by_cases h : 0 < mo ∧ mo ≤ (xl : Int)
      · exact ⟨mo, fun h' => by omega, fun _ => rfl⟩
      · exact ⟨xl, fun _ => rfl, fun h' => absurd h' h⟩
    have HNN := Lib.hid hN
    have hxm : p + xl ≤ 300 := by have := HXL.out; omega
    clear hN
    refine wpIn_loop_rounds 3 ?_
    have hbxwc := hbx
    have Gcwc := Gc
    clear hbx FA FB Gc
    rw [roundsIn_succ]
    gi_wp2
    have hha := heap_alloc_new wc (Obj.cells #[.int .i64 0] 3)
    have ala := t_al wc (Obj.cells #[.int .i64 0] 3)
    have hza : (wc.alloc (Obj.cells #[.int .i64 0] 3)).heap.size = wc.heap.size + 1 := by simp
    obtain ⟨wna, hwna⟩ : ∃ wn, wc.alloc (Obj.cells #[.int .i64 0] 3) = wn := ⟨_, rfl⟩
    rw [hwna] at hha ala hza ⊢
    obtain ⟨gna, hgna⟩ : ∃ gn, wc.heap.size = gn := ⟨_, rfl⟩
    have hgza := hbxwc.size
    have FAsa := Gcwc.out.2.1.size
    rw [hgna] at hha ala hza hgza FAsa ⊢
    have Gna := Lib.hid (Gcwc.out.1.grow (by rw [hgna]; exact ala))
    have HBa := Lib.hid (Gcwc.out.2.1.grow (by rw [hgna]; exact ala))
    have hmoa : mo = 0 ∨ ((([] : List (Nat × Int)).length : Nat) : Int) < mo := by simp; omega
    have hlwa := Gcwc.out.1.lt
    rw [hgna] at hlwa
    refine range_join (gf := 90) (lb := #[pbox wa.heap.size, pbox (wa.heap.size + 1), pbox (wa.heap.size + 2), pbox (wa.heap.size + 3), pbox (wa.heap.size + 4)]) rfl (fun h => by simp [Fence.wide] at h) rfl trivial (enters_of Try.func90 (by kernel_rfl) rfl)
      (rng_f (n - 1) gna (p := p) (q := q) (D0 := fun _ => False) HBa.out G.out.t1 (hbxwc.trans ((by rw [hgna]; exact ala : Below wc.heap.size wc wna).mono hbxwc.size)) hgza (by omega) (fun k h => h.elim) (fun k h1 h2 => .inr (by omega)) (by omega) (by rw [HN.out]; omega) (by rw [HN.out]; omega)) (by omega) (Below.refl _ _) (fun k h => h.elim) rfl 15 16
      (GoI wc gna mo) (GoX wc gna mo xl 2) (GoF wc gna N) GoI.firm GoX.firm ⟨fun k h => h.elim, ala, by omega, hha, hmoa⟩ ?hd ?hs ?assign ?body ?fin
    case hd =>
      rintro xs' E V hS ⟨m1, m2, m3, m4, m5⟩
      have hle : xs'.length = xl := by rw [hS]; unfold shiftP; rw [List.length_map, pairs_len, ← HXL.out.2.2]; exact HXL.out.1
      rw [hle] at m4 m5
      exact ⟨m2, m3, by rw [HNN.out.1 m5]; exact m4⟩
    case hs =>
      rintro c' pre' E V hS ⟨rfl, m1, m2, m3, m4, m5⟩
      exact ⟨rfl, m2, m3, by rw [HNN.out.2 m5]; exact m4⟩
    case assign =>
      intro l' x V K hK
      simp [two, encP] at hK
      simp only [encP]
      gi_wp2
      exact hK
    case body =>
      rintro lo pre ⟨i', x⟩ E V hE ⟨m1, m2, m3, m4, m5⟩ hN'
      obtain ⟨rfl, hx⟩ := shift_inv' hN'
      rw [← HXL.out.2.2] at hx
      have hkl : pre.length < xl := by rw [← HXL.out.1]; exact (List.getElem?_eq_some_iff.1 hx).1
      obtain ⟨L0, hL0⟩ : ∃ L0, pre.length = L0 := ⟨_, rfl⟩
      have hj := hL0
      rw [hL0] at hx ⊢
      have hjl : L0 < xl := by omega
      have kw := (m2.cell (p := ⟨gw, 0, none⟩) (show gw < gna by omega)).trans Gcwc.out.1.qw
      have kf := (m2.cell (p := ⟨w7.heap.size, 0, none⟩) (show w7.heap.size < gna by omega)).trans Gcwc.out.1.qf
      have km := (m2.cell (p := ⟨w.heap.size + 1, 0, none⟩) (show w.heap.size + 1 < gna by omega)).trans Gcwc.out.1.qm
      rw [HXL.out.1] at kw
      obtain ⟨gx, ox, rfl⟩ := Gcwc.out.1.sw.numsome (by rw [HXL.out.1]; omega)
      have hxc := Gcwc.out.1.sw.num hx
      rw [hgna] at hxc
      have kx := (m2.cell (p := ⟨gx, ox + L0, none⟩) hxc.2).trans hxc.1
      have d1 : decide ((xl : Int) ≤ (L0 : Int)) = false := decide_eq_false (by omega)
      have d1' : decide (xl ≤ L0) = false := decide_eq_false (by omega)
      have e0 : (0 : Int) ≤ (L0 : Int) := by omega
      have e1 : (L0 : Int) < (xl : Int) := by omega
      rw [hL0] at m4 m5 hkl
      have cn3 := (cell_at m4 0).trans (show _ = some (Value.int .i64 (L0 : Int)) from rfl)
      have fn3 := unfrozen m4 0
      have km2 : (V.setCell ⟨gna, 0, none⟩ (Value.int .i64 ((L0 : Int) + 1))).cell? ⟨w.heap.size + 1, 0, none⟩ = some (.int .u8 mo) := by rw [World.cell?_of_block (heap_set_other (show w.heap.size + 1 ≠ gna by omega))]; exact km
      have HLen1 : ∀ y : Nat × Int, ((pre ++ [y]).length : Int) = (L0 : Int) + 1 := by intro y; rw [List.length_append, hL0]; simp
      have M := Lib.hid (And.intro HLen1 (And.intro m1 (And.intro m2 (And.intro m3 (And.intro m4 m5)))))
      have hpl : p + L0 < 300 := by omega
      have hL3 : L0 < 300 := by omega
      have d3 : (x == x) = true := by simp
      simp [two, encP]
      clear hef1 hef2 hwna hgna hmoa hlwa ala hha hza m1 m2 m3 m4 m5 hz5 hL0 hxc hx hN' hE hbxwc hj HLen1 HR HBk hsB0 B0 hwz8 hlt8 hb1 hz1 hgza FAsa
      by_cases hb : (L0 : Int) + 1 = mo
      · have d5 : ((L0 : Int) + 1 == mo) = true := by rw [beq_iff_eq]; exact hb
        have HBm := Lib.hid hb
        clear hb
        gi_wp2
        exact GoX.set M.out.2.1 M.out.2.2.1 M.out.2.2.2.1 M.out.2.2.2.2.1 HBm.out (by have := HBm.out; omega) (by have := HBm.out; omega)
      · have d5 : ((L0 : Int) + 1 == mo) = false := by rw [beq_eq_false_iff_ne]; exact hb
        have HBm := Lib.hid hb
        clear hb
        gi_wp2
        exact GoI.set (M.out.1 _) M.out.2.1 M.out.2.2.1 M.out.2.2.2.1 M.out.2.2.2.2.1 (by have := HBm.out; have := M.out.2.2.2.2.2; omega)
    case fin =>
      intro da Va hda hFa hKa
      have hba' : Below wc.heap.size wc Va := by rw [hgna]; exact hFa.1
      have hbxVa := hbxwc.trans (hba'.mono hbxwc.size)
      have GcVa := Lib.hid (And.intro (Gcwc.out.1.grow hba') (And.intro (Gcwc.out.2.1.grow hba') (Gcwc.out.2.2.grow hba')))
      have hdla := lt_of_at hKa
      have HKa := Lib.hid hKa
      have HFa := Lib.hid hFa
      have hgla := hFa.2.1
      clear hha ala hwna hmoa hlwa hFa hKa hbxwc hba'
      gi_wp2
      have hhb := heap_alloc_new Va (Obj.cells #[.int .i64 0] 3)
      have alb := t_al Va (Obj.cells #[.int .i64 0] 3)
      have hzb : (Va.alloc (Obj.cells #[.int .i64 0] 3)).heap.size = Va.heap.size + 1 := by simp
      obtain ⟨wnb, hwnb⟩ : ∃ wn, Va.alloc (Obj.cells #[.int .i64 0] 3) = wn := ⟨_, rfl⟩
      rw [hwnb] at hhb alb hzb ⊢
      obtain ⟨gnb, hgnb⟩ : ∃ gn, Va.heap.size = gn := ⟨_, rfl⟩
      have hgzb := hbxVa.size
      have FAsb := GcVa.out.2.2.size
      rw [hgnb] at hhb alb hzb hgzb FAsb ⊢
      have Gnb := Lib.hid (GcVa.out.1.grow (by rw [hgnb]; exact alb))
      have HBb := Lib.hid (GcVa.out.2.2.grow (by rw [hgnb]; exact alb))
      have hmob : mo = 0 ∨ ((([] : List (Nat × Int)).length : Nat) : Int) < mo := by simp; omega
      have hlwb := GcVa.out.1.lt
      rw [hgnb] at hlwb
      refine range_join (gf := 90) (lb := #[pbox wb.heap.size, pbox (wb.heap.size + 1), pbox (wb.heap.size + 2), pbox (wb.heap.size + 3), pbox (wb.heap.size + 4)]) rfl (fun h => by simp [Fence.wide] at h) rfl trivial (enters_of Try.func90 (by kernel_rfl) rfl)
        (rng_b (n - 1) gnb (p := p) (q := q) (D0 := fun _ => False) HBb.out G.out.t1 (hbxVa.trans ((by rw [hgnb]; exact alb : Below Va.heap.size Va wnb).mono hbxVa.size)) hgzb (by omega) (fun k h => h.elim) (fun k h1 h2 => .inr (by omega)) (by omega) (by rw [HN.out]; omega) (by rw [HN.out]; omega)) (by omega) (Below.refl _ _) (fun k h => h.elim) rfl 18 19
        (GoI Va gnb mo) (GoX Va gnb mo xl 4) (GoF Va gnb N) GoI.firm GoX.firm ⟨fun k h => h.elim, alb, by omega, hhb, hmob⟩ ?hd ?hs ?assign ?body ?fin
      case hd =>
        rintro xs' E V hS ⟨m1, m2, m3, m4, m5⟩
        have hle : xs'.length = xl := by rw [hS, List.length_reverse]; unfold shiftP; rw [List.length_map, pairs_len, ← HXL.out.2.2]; exact HXL.out.1
        rw [hle] at m4 m5
        exact ⟨m2, m3, by rw [HNN.out.1 m5]; exact m4⟩
      case hs =>
        rintro c' pre' E V hS ⟨rfl, m1, m2, m3, m4, m5⟩
        exact ⟨rfl, m2, m3, by rw [HNN.out.2 m5]; exact m4⟩
      case assign =>
        intro l' x V K hK
        simp [two, encP] at hK
        simp only [encP]
        gi_wp2
        exact hK
      case body =>
        rintro lo pre ⟨i', x⟩ E V hE ⟨m1, m2, m3, m4, m5⟩ hN'
        obtain ⟨j, hj, rfl, hx⟩ := rev_inv hN'
        rw [← HXL.out.2.2] at hj hx
        rw [HXL.out.1] at hj
        have hkl : pre.length < xl := by omega
        have hjl : j < xl := by omega
        obtain ⟨L0, hL0⟩ : ∃ L0, pre.length = L0 := ⟨_, rfl⟩
        have kw := (m2.cell (p := ⟨gw, 0, none⟩) (show gw < gnb by omega)).trans GcVa.out.1.qw
        have kf := (m2.cell (p := ⟨w7.heap.size, 0, none⟩) (show w7.heap.size < gnb by omega)).trans GcVa.out.1.qf
        have km := (m2.cell (p := ⟨w.heap.size + 1, 0, none⟩) (show w.heap.size + 1 < gnb by omega)).trans GcVa.out.1.qm
        rw [HXL.out.1] at kw
        obtain ⟨gx, ox, rfl⟩ := GcVa.out.1.sw.numsome (by rw [HXL.out.1]; omega)
        have hxc := GcVa.out.1.sw.num hx
        rw [hgnb] at hxc
        have kx := (m2.cell (p := ⟨gx, ox + j, none⟩) hxc.2).trans hxc.1
        have d1 : decide ((xl : Int) ≤ (j : Int)) = false := decide_eq_false (by omega)
        have d1' : decide (xl ≤ j) = false := decide_eq_false (by omega)
        have e0 : (0 : Int) ≤ (j : Int) := by omega
        have e1 : (j : Int) < (xl : Int) := by omega
        rw [hL0] at m4 m5 hkl
        have cn3 := (cell_at m4 0).trans (show _ = some (Value.int .i64 (L0 : Int)) from rfl)
        have fn3 := unfrozen m4 0
        have km2 : (V.setCell ⟨gnb, 0, none⟩ (Value.int .i64 ((L0 : Int) + 1))).cell? ⟨w.heap.size + 1, 0, none⟩ = some (.int .u8 mo) := by rw [World.cell?_of_block (heap_set_other (show w.heap.size + 1 ≠ gnb by omega))]; exact km
        have HLen1 : ∀ y : Nat × Int, ((pre ++ [y]).length : Int) = (L0 : Int) + 1 := by intro y; rw [List.length_append, hL0]; simp
        have M := Lib.hid (And.intro HLen1 (And.intro m1 (And.intro m2 (And.intro m3 (And.intro m4 m5)))))
        have hpl : p + j < 300 := by omega
        have hL3 : L0 < 300 := by omega
        have d3 : (x == x) = true := by simp
        have hjL : (xl : Int) - 1 - (L0 : Int) = (j : Int) := by omega
        have d0 : decide ((j : Int) < 0) = false := decide_eq_false (by omega)
        have hx1 : xl < 1000 := by omega
        simp [two, encP]
        clear hef1 hef2 hwnb hgnb hmob hlwb alb hhb hzb m1 m2 m3 m4 m5 hz5 hL0 hxc hx hN' hE hbxVa hj HLen1 HR HBk hsB0 B0 hwz8 hlt8 hb1 hz1 hgzb FAsb
        by_cases hb : (L0 : Int) + 1 = mo
        · have d5 : ((L0 : Int) + 1 == mo) = true := by rw [beq_iff_eq]; exact hb
          have HBm := Lib.hid hb
          clear hb
          gi_wp2
          exact GoX.set M.out.2.1 M.out.2.2.1 M.out.2.2.2.1 M.out.2.2.2.2.1 HBm.out (by have := HBm.out; omega) (by have := HBm.out; omega)
        · have d5 : ((L0 : Int) + 1 == mo) = false := by rw [beq_eq_false_iff_ne]; exact hb
          have HBm := Lib.hid hb
          clear hb
          gi_wp2
          exact GoI.set (M.out.1 _) M.out.2.1 M.out.2.2.1 M.out.2.2.2.1 M.out.2.2.2.2.1 (by have := HBm.out; have := M.out.2.2.2.2.2; omega)
      case fin =>
        intro db Vb hdb hFb hKb
        have hbb' : Below Va.heap.size Va Vb := by rw [hgnb]; exact hFb.1
        have hbxVb := hbxVa.trans (hbb'.mono hbxVa.size)
        have GcVb := Lib.hid (And.intro (GcVa.out.1.grow hbb') (And.intro (GcVa.out.2.1.grow hbb') (GcVa.out.2.2.grow hbb')))
        have hdlb := lt_of_at hKb
        have HKb := Lib.hid hKb
        have HFb := Lib.hid hFb
        have hglb := hFb.2.1
        clear hhb alb hwnb hmob hlwb hFb hKb hbxVa hbb'
        have hax := cell_at ((HFb.out.1.block gna (show gna < gnb by omega)).trans HFa.out.2.2) 0
        have hbx := cell_at HFb.out.2.2 0
        have hwx := GcVb.out.1.qw
        have hmx := GcVb.out.1.qm
        rw [HXL.out.1] at hwx
        have ca : Vb.cell? ⟨gna, 0, none⟩ = some (.int .i64 N) := hax.trans rfl
        have cb : Vb.cell? ⟨gnb, 0, none⟩ = some (.int .i64 N) := hbx.trans rfl
        clear hax hbx
        have hcs : (∃ b1 b2 : Bool, decide (0 < mo) = b1 ∧ (b1 = true → decide (mo < (xl : Int)) = b2) ∧ N = if b1 && b2 then mo else (xl : Int)) := by
          refine ⟨_, _, rfl, fun _ => rfl, ?_⟩
          by_cases h1 : 0 < mo
          · by_cases h2 : mo < (xl : Int)
            · simp [h1, h2]; exact HNN.out.2 ⟨h1, by omega⟩
            · simp [h1, h2]
              by_cases h3 : mo = (xl : Int)
              · rw [HNN.out.2 ⟨h1, by omega⟩]; exact h3
              · exact HNN.out.1 (.inr (by omega))
          · simp [h1]; exact HNN.out.1 (.inl (by omega))
        obtain ⟨b1, b2, t1, t2, hNb⟩ := hcs
        have HNB := Lib.hid hNb
        have t1' : decide (mo > 0) = b1 := t1
        cases b1
        case false =>
          have hNx : N = (xl : Int) := hNb
          rw [hNx] at ca cb
          clear hNb hNx t2
          gi_wp2
          clear ca cb hwx hmx
          rw [roundsIn_succ]
          gi_wp2
          have hhc := heap_alloc_new Vb (Obj.cells #[.int .i64 0] 3)
          have alc := t_al Vb (Obj.cells #[.int .i64 0] 3)
          have hzc : (Vb.alloc (Obj.cells #[.int .i64 0] 3)).heap.size = Vb.heap.size + 1 := by simp
          obtain ⟨wnc, hwnc⟩ : ∃ wn, Vb.alloc (Obj.cells #[.int .i64 0] 3) = wn := ⟨_, rfl⟩
          rw [hwnc] at hhc alc hzc ⊢
          obtain ⟨gnc, hgnc⟩ : ∃ gn, Vb.heap.size = gn := ⟨_, rfl⟩
          have hgzc := hbxVb.size
          have FAsc := GcVb.out.2.1.size
          rw [hgnc] at hhc alc hzc hgzc FAsc ⊢
          have Gnc := Lib.hid (GcVb.out.1.grow (by rw [hgnc]; exact alc))
          have HBc := Lib.hid (GcVb.out.2.1.grow (by rw [hgnc]; exact alc))
          have hmoc : mo = 0 ∨ ((([] : List (Nat × Int)).length : Nat) : Int) < mo := by simp; omega
          have hlwc := GcVb.out.1.lt
          rw [hgnc] at hlwc
          refine range_join (gf := 90) (lb := #[pbox wa.heap.size, pbox (wa.heap.size + 1), pbox (wa.heap.size + 2), pbox (wa.heap.size + 3), pbox (wa.heap.size + 4)]) rfl (fun h => by simp [Fence.wide] at h) rfl trivial (enters_of Try.func90 (by kernel_rfl) rfl)
            (rng_f (n - 1) gnc (p := p) (q := q) (D0 := fun _ => False) HBc.out G.out.t1 (hbxVb.trans ((by rw [hgnc]; exact alc : Below Vb.heap.size Vb wnc).mono hbxVb.size)) hgzc (by omega) (fun k h => h.elim) (fun k h1 h2 => .inr (by omega)) (by omega) (by rw [HN.out]; omega) (by rw [HN.out]; omega)) (by omega) (Below.refl _ _) (fun k h => h.elim) rfl 15 16
            (GoI Vb gnc mo) (GoX Vb gnc mo xl 2) (GoF Vb gnc N) GoI.firm GoX.firm ⟨fun k h => h.elim, alc, by omega, hhc, hmoc⟩ ?hd ?hs ?assign ?body ?fin
          case hd =>
            rintro xs' E V hS ⟨m1, m2, m3, m4, m5⟩
            have hle : xs'.length = xl := by rw [hS]; unfold shiftP; rw [List.length_map, pairs_len, ← HXL.out.2.2]; exact HXL.out.1
            rw [hle] at m4 m5
            exact ⟨m2, m3, by rw [HNN.out.1 m5]; exact m4⟩
          case hs =>
            rintro c' pre' E V hS ⟨rfl, m1, m2, m3, m4, m5⟩
            exact ⟨rfl, m2, m3, by rw [HNN.out.2 m5]; exact m4⟩
          case assign =>
            intro l' x V K hK
            simp [two, encP] at hK
            simp only [encP]
            gi_wp2
            exact hK
          case body =>
            rintro lo pre ⟨i', x⟩ E V hE ⟨m1, m2, m3, m4, m5⟩ hN'
            obtain ⟨rfl, hx⟩ := shift_inv' hN'
            rw [← HXL.out.2.2] at hx
            have hkl : pre.length < xl := by rw [← HXL.out.1]; exact (List.getElem?_eq_some_iff.1 hx).1
            obtain ⟨L0, hL0⟩ : ∃ L0, pre.length = L0 := ⟨_, rfl⟩
            have hj := hL0
            rw [hL0] at hx ⊢
            have hjl : L0 < xl := by omega
            have kw := (m2.cell (p := ⟨gw, 0, none⟩) (show gw < gnc by omega)).trans GcVb.out.1.qw
            have kf := (m2.cell (p := ⟨w7.heap.size, 0, none⟩) (show w7.heap.size < gnc by omega)).trans GcVb.out.1.qf
            have km := (m2.cell (p := ⟨w.heap.size + 1, 0, none⟩) (show w.heap.size + 1 < gnc by omega)).trans GcVb.out.1.qm
            rw [HXL.out.1] at kw
            obtain ⟨gx, ox, rfl⟩ := GcVb.out.1.sw.numsome (by rw [HXL.out.1]; omega)
            have hxc := GcVb.out.1.sw.num hx
            rw [hgnc] at hxc
            have kx := (m2.cell (p := ⟨gx, ox + L0, none⟩) hxc.2).trans hxc.1
            have d1 : decide ((xl : Int) ≤ (L0 : Int)) = false := decide_eq_false (by omega)
            have d1' : decide (xl ≤ L0) = false := decide_eq_false (by omega)
            have e0 : (0 : Int) ≤ (L0 : Int) := by omega
            have e1 : (L0 : Int) < (xl : Int) := by omega
            rw [hL0] at m4 m5 hkl
            have cn3 := (cell_at m4 0).trans (show _ = some (Value.int .i64 (L0 : Int)) from rfl)
            have fn3 := unfrozen m4 0
            have km2 : (V.setCell ⟨gnc, 0, none⟩ (Value.int .i64 ((L0 : Int) + 1))).cell? ⟨w.heap.size + 1, 0, none⟩ = some (.int .u8 mo) := by rw [World.cell?_of_block (heap_set_other (show w.heap.size + 1 ≠ gnc by omega))]; exact km
            have HLen1 : ∀ y : Nat × Int, ((pre ++ [y]).length : Int) = (L0 : Int) + 1 := by intro y; rw [List.length_append, hL0]; simp
            have M := Lib.hid (And.intro HLen1 (And.intro m1 (And.intro m2 (And.intro m3 (And.intro m4 m5)))))
            have hpl : p + L0 < 300 := by omega
            have hL3 : L0 < 300 := by omega
            have d3 : (x == x) = true := by simp
            simp [two, encP]
            clear hef1 hef2 hwnc hgnc hmoc hlwc alc hhc hzc m1 m2 m3 m4 m5 hz5 hL0 hxc hx hN' hE hbxVb hj HLen1 HR HBk hsB0 B0 hwz8 hlt8 hb1 hz1 hgzc FAsc
            by_cases hb : (L0 : Int) + 1 = mo
            · have d5 : ((L0 : Int) + 1 == mo) = true := by rw [beq_iff_eq]; exact hb
              have HBm := Lib.hid hb
              clear hb
              gi_wp2
              exact GoX.set M.out.2.1 M.out.2.2.1 M.out.2.2.2.1 M.out.2.2.2.2.1 HBm.out (by have := HBm.out; omega) (by have := HBm.out; omega)
            · have d5 : ((L0 : Int) + 1 == mo) = false := by rw [beq_eq_false_iff_ne]; exact hb
              have HBm := Lib.hid hb
              clear hb
              gi_wp2
              exact GoI.set (M.out.1 _) M.out.2.1 M.out.2.2.1 M.out.2.2.2.1 M.out.2.2.2.2.1 (by have := HBm.out; have := M.out.2.2.2.2.2; omega)
          case fin =>
            intro dc Vc hdc hFc hKc
            have hbc' : Below Vb.heap.size Vb Vc := by rw [hgnc]; exact hFc.1
            have hbxVc := hbxVb.trans (hbc'.mono hbxVb.size)
            have GcVc := Lib.hid (And.intro (GcVb.out.1.grow hbc') (And.intro (GcVb.out.2.1.grow hbc') (GcVb.out.2.2.grow hbc')))
            have hdlc := lt_of_at hKc
            have HKc := Lib.hid hKc
            have HFc := Lib.hid hFc
            have hglc := hFc.2.1
            clear hhc alc hwnc hmoc hlwc hFc hKc hbxVb hbc'
            gi_wp2
            have hhd := heap_alloc_new Vc (Obj.cells #[.int .i64 0] 3)
            have ald := t_al Vc (Obj.cells #[.int .i64 0] 3)
            have hzd : (Vc.alloc (Obj.cells #[.int .i64 0] 3)).heap.size = Vc.heap.size + 1 := by simp
            obtain ⟨wnd, hwnd⟩ : ∃ wn, Vc.alloc (Obj.cells #[.int .i64 0] 3) = wn := ⟨_, rfl⟩
            rw [hwnd] at hhd ald hzd ⊢
            obtain ⟨gnd, hgnd⟩ : ∃ gn, Vc.heap.size = gn := ⟨_, rfl⟩
            have hgzd := hbxVc.size
            have FAsd := GcVc.out.2.2.size
            rw [hgnd] at hhd ald hzd hgzd FAsd ⊢
            have Gnd := Lib.hid (GcVc.out.1.grow (by rw [hgnd]; exact ald))
            have HBd := Lib.hid (GcVc.out.2.2.grow (by rw [hgnd]; exact ald))
            have hmod : mo = 0 ∨ ((([] : List (Nat × Int)).length : Nat) : Int) < mo := by simp; omega
            have hlwd := GcVc.out.1.lt
            rw [hgnd] at hlwd
            refine range_join (gf := 90) (lb := #[pbox wb.heap.size, pbox (wb.heap.size + 1), pbox (wb.heap.size + 2), pbox (wb.heap.size + 3), pbox (wb.heap.size + 4)]) rfl (fun h => by simp [Fence.wide] at h) rfl trivial (enters_of Try.func90 (by kernel_rfl) rfl)
              (rng_b (n - 1) gnd (p := p) (q := q) (D0 := fun _ => False) HBd.out G.out.t1 (hbxVc.trans ((by rw [hgnd]; exact ald : Below Vc.heap.size Vc wnd).mono hbxVc.size)) hgzd (by omega) (fun k h => h.elim) (fun k h1 h2 => .inr (by omega)) (by omega) (by rw [HN.out]; omega) (by rw [HN.out]; omega)) (by omega) (Below.refl _ _) (fun k h => h.elim) rfl 18 19
              (GoI Vc gnd mo) (GoX Vc gnd mo xl 4) (GoF Vc gnd N) GoI.firm GoX.firm ⟨fun k h => h.elim, ald, by omega, hhd, hmod⟩ ?hd ?hs ?assign ?body ?fin
            case hd =>
              rintro xs' E V hS ⟨m1, m2, m3, m4, m5⟩
              have hle : xs'.length = xl := by rw [hS, List.length_reverse]; unfold shiftP; rw [List.length_map, pairs_len, ← HXL.out.2.2]; exact HXL.out.1
              rw [hle] at m4 m5
              exact ⟨m2, m3, by rw [HNN.out.1 m5]; exact m4⟩
            case hs =>
              rintro c' pre' E V hS ⟨rfl, m1, m2, m3, m4, m5⟩
              exact ⟨rfl, m2, m3, by rw [HNN.out.2 m5]; exact m4⟩
            case assign =>
              intro l' x V K hK
              simp [two, encP] at hK
              simp only [encP]
              gi_wp2
              exact hK
            case body =>
              rintro lo pre ⟨i', x⟩ E V hE ⟨m1, m2, m3, m4, m5⟩ hN'
              obtain ⟨j, hj, rfl, hx⟩ := rev_inv hN'
              rw [← HXL.out.2.2] at hj hx
              rw [HXL.out.1] at hj
              have hkl : pre.length < xl := by omega
              have hjl : j < xl := by omega
              obtain ⟨L0, hL0⟩ : ∃ L0, pre.length = L0 := ⟨_, rfl⟩
              have kw := (m2.cell (p := ⟨gw, 0, none⟩) (show gw < gnd by omega)).trans GcVc.out.1.qw
              have kf := (m2.cell (p := ⟨w7.heap.size, 0, none⟩) (show w7.heap.size < gnd by omega)).trans GcVc.out.1.qf
              have km := (m2.cell (p := ⟨w.heap.size + 1, 0, none⟩) (show w.heap.size + 1 < gnd by omega)).trans GcVc.out.1.qm
              rw [HXL.out.1] at kw
              obtain ⟨gx, ox, rfl⟩ := GcVc.out.1.sw.numsome (by rw [HXL.out.1]; omega)
              have hxc := GcVc.out.1.sw.num hx
              rw [hgnd] at hxc
              have kx := (m2.cell (p := ⟨gx, ox + j, none⟩) hxc.2).trans hxc.1
              have d1 : decide ((xl : Int) ≤ (j : Int)) = false := decide_eq_false (by omega)
              have d1' : decide (xl ≤ j) = false := decide_eq_false (by omega)
              have e0 : (0 : Int) ≤ (j : Int) := by omega
              have e1 : (j : Int) < (xl : Int) := by omega
              rw [hL0] at m4 m5 hkl
              have cn3 := (cell_at m4 0).trans (show _ = some (Value.int .i64 (L0 : Int)) from rfl)
              have fn3 := unfrozen m4 0
              have km2 : (V.setCell ⟨gnd, 0, none⟩ (Value.int .i64 ((L0 : Int) + 1))).cell? ⟨w.heap.size + 1, 0, none⟩ = some (.int .u8 mo) := by rw [World.cell?_of_block (heap_set_other (show w.heap.size + 1 ≠ gnd by omega))]; exact km
              have HLen1 : ∀ y : Nat × Int, ((pre ++ [y]).length : Int) = (L0 : Int) + 1 := by intro y; rw [List.length_append, hL0]; simp
              have M := Lib.hid (And.intro HLen1 (And.intro m1 (And.intro m2 (And.intro m3 (And.intro m4 m5)))))
              have hpl : p + j < 300 := by omega
              have hL3 : L0 < 300 := by omega
              have d3 : (x == x) = true := by simp
              have hjL : (xl : Int) - 1 - (L0 : Int) = (j : Int) := by omega
              have d0 : decide ((j : Int) < 0) = false := decide_eq_false (by omega)
              have hx1 : xl < 1000 := by omega
              simp [two, encP]
              clear hef1 hef2 hwnd hgnd hmod hlwd ald hhd hzd m1 m2 m3 m4 m5 hz5 hL0 hxc hx hN' hE hbxVc hj HLen1 HR HBk hsB0 B0 hwz8 hlt8 hb1 hz1 hgzd FAsd
              by_cases hb : (L0 : Int) + 1 = mo
              · have d5 : ((L0 : Int) + 1 == mo) = true := by rw [beq_iff_eq]; exact hb
                have HBm := Lib.hid hb
                clear hb
                gi_wp2
                exact GoX.set M.out.2.1 M.out.2.2.1 M.out.2.2.2.1 M.out.2.2.2.2.1 HBm.out (by have := HBm.out; omega) (by have := HBm.out; omega)
              · have d5 : ((L0 : Int) + 1 == mo) = false := by rw [beq_eq_false_iff_ne]; exact hb
                have HBm := Lib.hid hb
                clear hb
                gi_wp2
                exact GoI.set (M.out.1 _) M.out.2.1 M.out.2.2.1 M.out.2.2.2.1 M.out.2.2.2.2.1 (by have := HBm.out; have := M.out.2.2.2.2.2; omega)
            case fin =>
              intro dd Vd hdd hFd hKd
              have hbd' : Below Vc.heap.size Vc Vd := by rw [hgnd]; exact hFd.1
              have hbxVd := hbxVc.trans (hbd'.mono hbxVc.size)
              have GcVd := Lib.hid (And.intro (GcVc.out.1.grow hbd') (And.intro (GcVc.out.2.1.grow hbd') (GcVc.out.2.2.grow hbd')))
              have hdld := lt_of_at hKd
              have HKd := Lib.hid hKd
              have HFd := Lib.hid hFd
              have hgld := hFd.2.1
              clear hhd ald hwnd hmod hlwd hFd hKd hbxVc hbd'
              have hwy := GcVd.out.1.qw
              have hmy := GcVd.out.1.qm
              rw [HXL.out.1] at hwy
              have cay : Vd.cell? ⟨gnc, 0, none⟩ = some (.int .i64 N) := (cell_at ((HFd.out.1.block gnc (show gnc < gnd by omega)).trans HFc.out.2.2) 0).trans rfl
              have cby : Vd.cell? ⟨gnd, 0, none⟩ = some (.int .i64 N) := (cell_at HFd.out.2.2 0).trans rfl
              have hNx : N = (xl : Int) := HNB.out
              rw [hNx] at cay cby
              clear hNx
              gi_wp2
              clear cay cby hwy hmy
              have hqt := GcVd.out.1.qt
              have HAll := Lib.hid (all_gen (n - 1) GcVd.out.1.t1 (by rw [HN.out]; omega))
              rw [roundsIn_succ]
              gi_wp2
              refine ⟨trivial, fun h => by simp [Fence.wide] at h, HAll.out.mono ?_⟩
              clear HAll; rintro e X1 ⟨ax, cx, rfl, sx, bx1⟩
              have HSm := Lib.hid ((callsIn_wide (n := n - 1)).2 (nsame l l sx (GcVd.out.1.s1.below bx1) (by rw [HN.out]; omega)))
              rw [decide_eq_true rfl, HN.out] at HSm
              rw [HN.out]
              have BX1 := Lib.hid bx1
              clear sx bx1 hqt
              gi_wp2
              refine ⟨trivial, fun h => by simp [Fence.wide] at h, HSm.out.mono ?_⟩
              clear HSm; rintro e X2 ⟨rfl, bx2⟩
              have HAw := Lib.hid ((callsIn_wide (n := n - 1)).2 (awake10_of (w := X2)))
              have BX2 := Lib.hid (BX1.out.trans (bx2.mono BX1.out.size))
              clear bx2
              gi_wp2
              refine ⟨trivial, fun h => by simp [Fence.wide] at h, HAw.out.mono ?_⟩
              clear HAw; rintro e X3 ⟨rfl, bx3⟩
              have BX := Lib.hid (BX2.out.trans (bx3.mono BX2.out.size))
              have hqr := (GcVd.out.1.grow BX.out).qr
              have Kd := (BX.out.block dd hdld).trans HKd.out
              have Kc := (BX.out.block dc (by have := HFd.out.1.size; omega)).trans ((HFd.out.1.block dc (by omega)).trans HKc.out)
              have Kb := (BX.out.block db (by have := HFd.out.1.size; have := HFc.out.1.size; omega)).trans ((HFd.out.1.block db (by have := HFc.out.1.size; omega)).trans ((HFc.out.1.block db (by omega)).trans HKb.out))
              have Ka := (BX.out.block da (by have := HFd.out.1.size; have := HFc.out.1.size; have := HFb.out.1.size; omega)).trans ((HFd.out.1.block da (by have := HFc.out.1.size; have := HFb.out.1.size; omega)).trans ((HFc.out.1.block da (by have := HFb.out.1.size; omega)).trans ((HFb.out.1.block da (by omega)).trans HKa.out)))
              have cr := (cell_at hqr 0).trans (show _ = some (Value.bool false) from rfl)
              have fr := unfrozen hqr 0
              have KK4 := Lib.hid (And.intro Ka (And.intro Kb (And.intro Kc (And.intro Kd hqr))))
              clear Ka Kb Kc Kd hqr bx3
              have GX := Lib.hid (GcVd.out.1.grow BX.out)
              gi_wp2
              have hlo := G.out.lt.1
              have hnda : w.heap.size + 2 < da := by omega
              have ot : ∀ k, w.heap.size + 2 < k → (X3.setCell ⟨w.heap.size + 1 + 1, 0, none⟩ (Value.bool true)).heap[k]? = X3.heap[k]? := fun k hk => heap_set_other (by omega)
              refine leave4 ((ot _ (by omega)).trans KK4.out.1) ((ot _ (by omega)).trans KK4.out.2.1) ((ot _ (by omega)).trans KK4.out.2.2.1) ((ot _ (by omega)).trans KK4.out.2.2.2.1) (by omega) (by omega) (by omega) ?_
              intro W' hW'
              have q0 : W'.cell? ⟨w.heap.size + 1 + 1, 0, none⟩ = some (.bool true) := by
                rw [cell_at ((hW'.block _ (by omega)).trans (heap_set_at KK4.out.2.2.2.2))]; rfl
              exact ⟨.bool true, by simp [results, Try.results7, go_sem, q0], rfl, (GX.out.below.setCell (p := ⟨w.heap.size + 1 + 1, 0, none⟩) (by show w.heap.size ≤ w.heap.size + 1 + 1; omega) _).trans (hW'.mono (by omega))⟩
        case true =>
          have t2 := t2 rfl
          cases b2
          case false =>
            have hNx : N = (xl : Int) := hNb
            rw [hNx] at ca cb
            clear hNb hNx
            gi_wp2
            clear ca cb hwx hmx
            rw [roundsIn_succ]
            gi_wp2
            have hhc := heap_alloc_new Vb (Obj.cells #[.int .i64 0] 3)
            have alc := t_al Vb (Obj.cells #[.int .i64 0] 3)
            have hzc : (Vb.alloc (Obj.cells #[.int .i64 0] 3)).heap.size = Vb.heap.size + 1 := by simp
            obtain ⟨wnc, hwnc⟩ : ∃ wn, Vb.alloc (Obj.cells #[.int .i64 0] 3) = wn := ⟨_, rfl⟩
            rw [hwnc] at hhc alc hzc ⊢
            obtain ⟨gnc, hgnc⟩ : ∃ gn, Vb.heap.size = gn := ⟨_, rfl⟩
            have hgzc := hbxVb.size
            have FAsc := GcVb.out.2.1.size
            rw [hgnc] at hhc alc hzc hgzc FAsc ⊢
            have Gnc := Lib.hid (GcVb.out.1.grow (by rw [hgnc]; exact alc))
            have HBc := Lib.hid (GcVb.out.2.1.grow (by rw [hgnc]; exact alc))
            have hmoc : mo = 0 ∨ ((([] : List (Nat × Int)).length : Nat) : Int) < mo := by simp; omega
            have hlwc := GcVb.out.1.lt
            rw [hgnc] at hlwc
            refine range_join (gf := 90) (lb := #[pbox wa.heap.size, pbox (wa.heap.size + 1), pbox (wa.heap.size + 2), pbox (wa.heap.size + 3), pbox (wa.heap.size + 4)]) rfl (fun h => by simp [Fence.wide] at h) rfl trivial (enters_of Try.func90 (by kernel_rfl) rfl)
              (rng_f (n - 1) gnc (p := p) (q := q) (D0 := fun _ => False) HBc.out G.out.t1 (hbxVb.trans ((by rw [hgnc]; exact alc : Below Vb.heap.size Vb wnc).mono hbxVb.size)) hgzc (by omega) (fun k h => h.elim) (fun k h1 h2 => .inr (by omega)) (by omega) (by rw [HN.out]; omega) (by rw [HN.out]; omega)) (by omega) (Below.refl _ _) (fun k h => h.elim) rfl 15 16
              (GoI Vb gnc mo) (GoX Vb gnc mo xl 2) (GoF Vb gnc N) GoI.firm GoX.firm ⟨fun k h => h.elim, alc, by omega, hhc, hmoc⟩ ?hd ?hs ?assign ?body ?fin
            case hd =>
              rintro xs' E V hS ⟨m1, m2, m3, m4, m5⟩
              have hle : xs'.length = xl := by rw [hS]; unfold shiftP; rw [List.length_map, pairs_len, ← HXL.out.2.2]; exact HXL.out.1
              rw [hle] at m4 m5
              exact ⟨m2, m3, by rw [HNN.out.1 m5]; exact m4⟩
            case hs =>
              rintro c' pre' E V hS ⟨rfl, m1, m2, m3, m4, m5⟩
              exact ⟨rfl, m2, m3, by rw [HNN.out.2 m5]; exact m4⟩
            case assign =>
              intro l' x V K hK
              simp [two, encP] at hK
              simp only [encP]
              gi_wp2
              exact hK
            case body =>
              rintro lo pre ⟨i', x⟩ E V hE ⟨m1, m2, m3, m4, m5⟩ hN'
              obtain ⟨rfl, hx⟩ := shift_inv' hN'
              rw [← HXL.out.2.2] at hx
              have hkl : pre.length < xl := by rw [← HXL.out.1]; exact (List.getElem?_eq_some_iff.1 hx).1
              obtain ⟨L0, hL0⟩ : ∃ L0, pre.length = L0 := ⟨_, rfl⟩
              have hj := hL0
              rw [hL0] at hx ⊢
              have hjl : L0 < xl := by omega
              have kw := (m2.cell (p := ⟨gw, 0, none⟩) (show gw < gnc by omega)).trans GcVb.out.1.qw
              have kf := (m2.cell (p := ⟨w7.heap.size, 0, none⟩) (show w7.heap.size < gnc by omega)).trans GcVb.out.1.qf
              have km := (m2.cell (p := ⟨w.heap.size + 1, 0, none⟩) (show w.heap.size + 1 < gnc by omega)).trans GcVb.out.1.qm
              rw [HXL.out.1] at kw
              obtain ⟨gx, ox, rfl⟩ := GcVb.out.1.sw.numsome (by rw [HXL.out.1]; omega)
              have hxc := GcVb.out.1.sw.num hx
              rw [hgnc] at hxc
              have kx := (m2.cell (p := ⟨gx, ox + L0, none⟩) hxc.2).trans hxc.1
              have d1 : decide ((xl : Int) ≤ (L0 : Int)) = false := decide_eq_false (by omega)
              have d1' : decide (xl ≤ L0) = false := decide_eq_false (by omega)
              have e0 : (0 : Int) ≤ (L0 : Int) := by omega
              have e1 : (L0 : Int) < (xl : Int) := by omega
              rw [hL0] at m4 m5 hkl
              have cn3 := (cell_at m4 0).trans (show _ = some (Value.int .i64 (L0 : Int)) from rfl)
              have fn3 := unfrozen m4 0
              have km2 : (V.setCell ⟨gnc, 0, none⟩ (Value.int .i64 ((L0 : Int) + 1))).cell? ⟨w.heap.size + 1, 0, none⟩ = some (.int .u8 mo) := by rw [World.cell?_of_block (heap_set_other (show w.heap.size + 1 ≠ gnc by omega))]; exact km
              have HLen1 : ∀ y : Nat × Int, ((pre ++ [y]).length : Int) = (L0 : Int) + 1 := by intro y; rw [List.length_append, hL0]; simp
              have M := Lib.hid (And.intro HLen1 (And.intro m1 (And.intro m2 (And.intro m3 (And.intro m4 m5)))))
              have hpl : p + L0 < 300 := by omega
              have hL3 : L0 < 300 := by omega
              have d3 : (x == x) = true := by simp
              simp [two, encP]
              clear hef1 hef2 hwnc hgnc hmoc hlwc alc hhc hzc m1 m2 m3 m4 m5 hz5 hL0 hxc hx hN' hE hbxVb hj HLen1 HR HBk hsB0 B0 hwz8 hlt8 hb1 hz1 hgzc FAsc
              by_cases hb : (L0 : Int) + 1 = mo
              · have d5 : ((L0 : Int) + 1 == mo) = true := by rw [beq_iff_eq]; exact hb
                have HBm := Lib.hid hb
                clear hb
                gi_wp2
                exact GoX.set M.out.2.1 M.out.2.2.1 M.out.2.2.2.1 M.out.2.2.2.2.1 HBm.out (by have := HBm.out; omega) (by have := HBm.out; omega)
              · have d5 : ((L0 : Int) + 1 == mo) = false := by rw [beq_eq_false_iff_ne]; exact hb
                have HBm := Lib.hid hb
                clear hb
                gi_wp2
                exact GoI.set (M.out.1 _) M.out.2.1 M.out.2.2.1 M.out.2.2.2.1 M.out.2.2.2.2.1 (by have := HBm.out; have := M.out.2.2.2.2.2; omega)
            case fin =>
              intro dc Vc hdc hFc hKc
              have hbc' : Below Vb.heap.size Vb Vc := by rw [hgnc]; exact hFc.1
              have hbxVc := hbxVb.trans (hbc'.mono hbxVb.size)
              have GcVc := Lib.hid (And.intro (GcVb.out.1.grow hbc') (And.intro (GcVb.out.2.1.grow hbc') (GcVb.out.2.2.grow hbc')))
              have hdlc := lt_of_at hKc
              have HKc := Lib.hid hKc
              have HFc := Lib.hid hFc
              have hglc := hFc.2.1
              clear hhc alc hwnc hmoc hlwc hFc hKc hbxVb hbc'
              gi_wp2
              have hhd := heap_alloc_new Vc (Obj.cells #[.int .i64 0] 3)
              have ald := t_al Vc (Obj.cells #[.int .i64 0] 3)
              have hzd : (Vc.alloc (Obj.cells #[.int .i64 0] 3)).heap.size = Vc.heap.size + 1 := by simp
              obtain ⟨wnd, hwnd⟩ : ∃ wn, Vc.alloc (Obj.cells #[.int .i64 0] 3) = wn := ⟨_, rfl⟩
              rw [hwnd] at hhd ald hzd ⊢
              obtain ⟨gnd, hgnd⟩ : ∃ gn, Vc.heap.size = gn := ⟨_, rfl⟩
              have hgzd := hbxVc.size
              have FAsd := GcVc.out.2.2.size
              rw [hgnd] at hhd ald hzd hgzd FAsd ⊢
              have Gnd := Lib.hid (GcVc.out.1.grow (by rw [hgnd]; exact ald))
              have HBd := Lib.hid (GcVc.out.2.2.grow (by rw [hgnd]; exact ald))
              have hmod : mo = 0 ∨ ((([] : List (Nat × Int)).length : Nat) : Int) < mo := by simp; omega
              have hlwd := GcVc.out.1.lt
              rw [hgnd] at hlwd
              refine range_join (gf := 90) (lb := #[pbox wb.heap.size, pbox (wb.heap.size + 1), pbox (wb.heap.size + 2), pbox (wb.heap.size + 3), pbox (wb.heap.size + 4)]) rfl (fun h => by simp [Fence.wide] at h) rfl trivial (enters_of Try.func90 (by kernel_rfl) rfl)
                (rng_b (n - 1) gnd (p := p) (q := q) (D0 := fun _ => False) HBd.out G.out.t1 (hbxVc.trans ((by rw [hgnd]; exact ald : Below Vc.heap.size Vc wnd).mono hbxVc.size)) hgzd (by omega) (fun k h => h.elim) (fun k h1 h2 => .inr (by omega)) (by omega) (by rw [HN.out]; omega) (by rw [HN.out]; omega)) (by omega) (Below.refl _ _) (fun k h => h.elim) rfl 18 19
                (GoI Vc gnd mo) (GoX Vc gnd mo xl 4) (GoF Vc gnd N) GoI.firm GoX.firm ⟨fun k h => h.elim, ald, by omega, hhd, hmod⟩ ?hd ?hs ?assign ?body ?fin
              case hd =>
                rintro xs' E V hS ⟨m1, m2, m3, m4, m5⟩
                have hle : xs'.length = xl := by rw [hS, List.length_reverse]; unfold shiftP; rw [List.length_map, pairs_len, ← HXL.out.2.2]; exact HXL.out.1
                rw [hle] at m4 m5
                exact ⟨m2, m3, by rw [HNN.out.1 m5]; exact m4⟩
              case hs =>
                rintro c' pre' E V hS ⟨rfl, m1, m2, m3, m4, m5⟩
                exact ⟨rfl, m2, m3, by rw [HNN.out.2 m5]; exact m4⟩
              case assign =>
                intro l' x V K hK
                simp [two, encP] at hK
                simp only [encP]
                gi_wp2
                exact hK
              case body =>
                rintro lo pre ⟨i', x⟩ E V hE ⟨m1, m2, m3, m4, m5⟩ hN'
                obtain ⟨j, hj, rfl, hx⟩ := rev_inv hN'
                rw [← HXL.out.2.2] at hj hx
                rw [HXL.out.1] at hj
                have hkl : pre.length < xl := by omega
                have hjl : j < xl := by omega
                obtain ⟨L0, hL0⟩ : ∃ L0, pre.length = L0 := ⟨_, rfl⟩
                have kw := (m2.cell (p := ⟨gw, 0, none⟩) (show gw < gnd by omega)).trans GcVc.out.1.qw
                have kf := (m2.cell (p := ⟨w7.heap.size, 0, none⟩) (show w7.heap.size < gnd by omega)).trans GcVc.out.1.qf
                have km := (m2.cell (p := ⟨w.heap.size + 1, 0, none⟩) (show w.heap.size + 1 < gnd by omega)).trans GcVc.out.1.qm
                rw [HXL.out.1] at kw
                obtain ⟨gx, ox, rfl⟩ := GcVc.out.1.sw.numsome (by rw [HXL.out.1]; omega)
                have hxc := GcVc.out.1.sw.num hx
                rw [hgnd] at hxc
                have kx := (m2.cell (p := ⟨gx, ox + j, none⟩) hxc.2).trans hxc.1
                have d1 : decide ((xl : Int) ≤ (j : Int)) = false := decide_eq_false (by omega)
                have d1' : decide (xl ≤ j) = false := decide_eq_false (by omega)
                have e0 : (0 : Int) ≤ (j : Int) := by omega
                have e1 : (j : Int) < (xl : Int) := by omega
                rw [hL0] at m4 m5 hkl
                have cn3 := (cell_at m4 0).trans (show _ = some (Value.int .i64 (L0 : Int)) from rfl)
                have fn3 := unfrozen m4 0
                have km2 : (V.setCell ⟨gnd, 0, none⟩ (Value.int .i64 ((L0 : Int) + 1))).cell? ⟨w.heap.size + 1, 0, none⟩ = some (.int .u8 mo) := by rw [World.cell?_of_block (heap_set_other (show w.heap.size + 1 ≠ gnd by omega))]; exact km
                have HLen1 : ∀ y : Nat × Int, ((pre ++ [y]).length : Int) = (L0 : Int) + 1 := by intro y; rw [List.length_append, hL0]; simp
                have M := Lib.hid (And.intro HLen1 (And.intro m1 (And.intro m2 (And.intro m3 (And.intro m4 m5)))))
                have hpl : p + j < 300 := by omega
                have hL3 : L0 < 300 := by omega
                have d3 : (x == x) = true := by simp
                have hjL : (xl : Int) - 1 - (L0 : Int) = (j : Int) := by omega
                have d0 : decide ((j : Int) < 0) = false := decide_eq_false (by omega)
                have hx1 : xl < 1000 := by omega
                simp [two, encP]
                clear hef1 hef2 hwnd hgnd hmod hlwd ald hhd hzd m1 m2 m3 m4 m5 hz5 hL0 hxc hx hN' hE hbxVc hj HLen1 HR HBk hsB0 B0 hwz8 hlt8 hb1 hz1 hgzd FAsd
                by_cases hb : (L0 : Int) + 1 = mo
                · have d5 : ((L0 : Int) + 1 == mo) = true := by rw [beq_iff_eq]; exact hb
                  have HBm := Lib.hid hb
                  clear hb
                  gi_wp2
                  exact GoX.set M.out.2.1 M.out.2.2.1 M.out.2.2.2.1 M.out.2.2.2.2.1 HBm.out (by have := HBm.out; omega) (by have := HBm.out; omega)
                · have d5 : ((L0 : Int) + 1 == mo) = false := by rw [beq_eq_false_iff_ne]; exact hb
                  have HBm := Lib.hid hb
                  clear hb
                  gi_wp2
                  exact GoI.set (M.out.1 _) M.out.2.1 M.out.2.2.1 M.out.2.2.2.1 M.out.2.2.2.2.1 (by have := HBm.out; have := M.out.2.2.2.2.2; omega)
              case fin =>
                intro dd Vd hdd hFd hKd
                have hbd' : Below Vc.heap.size Vc Vd := by rw [hgnd]; exact hFd.1
                have hbxVd := hbxVc.trans (hbd'.mono hbxVc.size)
                have GcVd := Lib.hid (And.intro (GcVc.out.1.grow hbd') (And.intro (GcVc.out.2.1.grow hbd') (GcVc.out.2.2.grow hbd')))
                have hdld := lt_of_at hKd
                have HKd := Lib.hid hKd
                have HFd := Lib.hid hFd
                have hgld := hFd.2.1
                clear hhd ald hwnd hmod hlwd hFd hKd hbxVc hbd'
                have hwy := GcVd.out.1.qw
                have hmy := GcVd.out.1.qm
                rw [HXL.out.1] at hwy
                have cay : Vd.cell? ⟨gnc, 0, none⟩ = some (.int .i64 N) := (cell_at ((HFd.out.1.block gnc (show gnc < gnd by omega)).trans HFc.out.2.2) 0).trans rfl
                have cby : Vd.cell? ⟨gnd, 0, none⟩ = some (.int .i64 N) := (cell_at HFd.out.2.2 0).trans rfl
                have hNx : N = (xl : Int) := HNB.out
                rw [hNx] at cay cby
                clear hNx
                gi_wp2
                clear cay cby hwy hmy
                have hqt := GcVd.out.1.qt
                have HAll := Lib.hid (all_gen (n - 1) GcVd.out.1.t1 (by rw [HN.out]; omega))
                rw [roundsIn_succ]
                gi_wp2
                refine ⟨trivial, fun h => by simp [Fence.wide] at h, HAll.out.mono ?_⟩
                clear HAll; rintro e X1 ⟨ax, cx, rfl, sx, bx1⟩
                have HSm := Lib.hid ((callsIn_wide (n := n - 1)).2 (nsame l l sx (GcVd.out.1.s1.below bx1) (by rw [HN.out]; omega)))
                rw [decide_eq_true rfl, HN.out] at HSm
                rw [HN.out]
                have BX1 := Lib.hid bx1
                clear sx bx1 hqt
                gi_wp2
                refine ⟨trivial, fun h => by simp [Fence.wide] at h, HSm.out.mono ?_⟩
                clear HSm; rintro e X2 ⟨rfl, bx2⟩
                have HAw := Lib.hid ((callsIn_wide (n := n - 1)).2 (awake10_of (w := X2)))
                have BX2 := Lib.hid (BX1.out.trans (bx2.mono BX1.out.size))
                clear bx2
                gi_wp2
                refine ⟨trivial, fun h => by simp [Fence.wide] at h, HAw.out.mono ?_⟩
                clear HAw; rintro e X3 ⟨rfl, bx3⟩
                have BX := Lib.hid (BX2.out.trans (bx3.mono BX2.out.size))
                have hqr := (GcVd.out.1.grow BX.out).qr
                have Kd := (BX.out.block dd hdld).trans HKd.out
                have Kc := (BX.out.block dc (by have := HFd.out.1.size; omega)).trans ((HFd.out.1.block dc (by omega)).trans HKc.out)
                have Kb := (BX.out.block db (by have := HFd.out.1.size; have := HFc.out.1.size; omega)).trans ((HFd.out.1.block db (by have := HFc.out.1.size; omega)).trans ((HFc.out.1.block db (by omega)).trans HKb.out))
                have Ka := (BX.out.block da (by have := HFd.out.1.size; have := HFc.out.1.size; have := HFb.out.1.size; omega)).trans ((HFd.out.1.block da (by have := HFc.out.1.size; have := HFb.out.1.size; omega)).trans ((HFc.out.1.block da (by have := HFb.out.1.size; omega)).trans ((HFb.out.1.block da (by omega)).trans HKa.out)))
                have cr := (cell_at hqr 0).trans (show _ = some (Value.bool false) from rfl)
                have fr := unfrozen hqr 0
                have KK4 := Lib.hid (And.intro Ka (And.intro Kb (And.intro Kc (And.intro Kd hqr))))
                clear Ka Kb Kc Kd hqr bx3
                have GX := Lib.hid (GcVd.out.1.grow BX.out)
                gi_wp2
                have hlo := G.out.lt.1
                have hnda : w.heap.size + 2 < da := by omega
                have ot : ∀ k, w.heap.size + 2 < k → (X3.setCell ⟨w.heap.size + 1 + 1, 0, none⟩ (Value.bool true)).heap[k]? = X3.heap[k]? := fun k hk => heap_set_other (by omega)
                refine leave4 ((ot _ (by omega)).trans KK4.out.1) ((ot _ (by omega)).trans KK4.out.2.1) ((ot _ (by omega)).trans KK4.out.2.2.1) ((ot _ (by omega)).trans KK4.out.2.2.2.1) (by omega) (by omega) (by omega) ?_
                intro W' hW'
                have q0 : W'.cell? ⟨w.heap.size + 1 + 1, 0, none⟩ = some (.bool true) := by
                  rw [cell_at ((hW'.block _ (by omega)).trans (heap_set_at KK4.out.2.2.2.2))]; rfl
                exact ⟨.bool true, by simp [results, Try.results7, go_sem, q0], rfl, (GX.out.below.setCell (p := ⟨w.heap.size + 1 + 1, 0, none⟩) (by show w.heap.size ≤ w.heap.size + 1 + 1; omega) _).trans (hW'.mono (by omega))⟩
          case true =>
            have hNx : N = mo := hNb
            rw [hNx] at ca cb
            clear hNb hNx
            gi_wp2
            clear ca cb hwx hmx
            rw [roundsIn_succ]
            gi_wp2
            have hhc := heap_alloc_new Vb (Obj.cells #[.int .i64 0] 3)
            have alc := t_al Vb (Obj.cells #[.int .i64 0] 3)
            have hzc : (Vb.alloc (Obj.cells #[.int .i64 0] 3)).heap.size = Vb.heap.size + 1 := by simp
            obtain ⟨wnc, hwnc⟩ : ∃ wn, Vb.alloc (Obj.cells #[.int .i64 0] 3) = wn := ⟨_, rfl⟩
            rw [hwnc] at hhc alc hzc ⊢
            obtain ⟨gnc, hgnc⟩ : ∃ gn, Vb.heap.size = gn := ⟨_, rfl⟩
            have hgzc := hbxVb.size
            have FAsc := GcVb.out.2.1.size
            rw [hgnc] at hhc alc hzc hgzc FAsc ⊢
            have Gnc := Lib.hid (GcVb.out.1.grow (by rw [hgnc]; exact alc))
            have HBc := Lib.hid (GcVb.out.2.1.grow (by rw [hgnc]; exact alc))
            have hmoc : mo = 0 ∨ ((([] : List (Nat × Int)).length : Nat) : Int) < mo := by simp; omega
            have hlwc := GcVb.out.1.lt
            rw [hgnc] at hlwc
            refine range_join (gf := 90) (lb := #[pbox wa.heap.size, pbox (wa.heap.size + 1), pbox (wa.heap.size + 2), pbox (wa.heap.size + 3), pbox (wa.heap.size + 4)]) rfl (fun h => by simp [Fence.wide] at h) rfl trivial (enters_of Try.func90 (by kernel_rfl) rfl)
              (rng_f (n - 1) gnc (p := p) (q := q) (D0 := fun _ => False) HBc.out G.out.t1 (hbxVb.trans ((by rw [hgnc]; exact alc : Below Vb.heap.size Vb wnc).mono hbxVb.size)) hgzc (by omega) (fun k h => h.elim) (fun k h1 h2 => .inr (by omega)) (by omega) (by rw [HN.out]; omega) (by rw [HN.out]; omega)) (by omega) (Below.refl _ _) (fun k h => h.elim) rfl 15 16
              (GoI Vb gnc mo) (GoX Vb gnc mo xl 2) (GoF Vb gnc N) GoI.firm GoX.firm ⟨fun k h => h.elim, alc, by omega, hhc, hmoc⟩ ?hd ?hs ?assign ?body ?fin
            case hd =>
              rintro xs' E V hS ⟨m1, m2, m3, m4, m5⟩
              have hle : xs'.length = xl := by rw [hS]; unfold shiftP; rw [List.length_map, pairs_len, ← HXL.out.2.2]; exact HXL.out.1
              rw [hle] at m4 m5
              exact ⟨m2, m3, by rw [HNN.out.1 m5]; exact m4⟩
            case hs =>
              rintro c' pre' E V hS ⟨rfl, m1, m2, m3, m4, m5⟩
              exact ⟨rfl, m2, m3, by rw [HNN.out.2 m5]; exact m4⟩
            case assign =>
              intro l' x V K hK
              simp [two, encP] at hK
              simp only [encP]
              gi_wp2
              exact hK
            case body =>
              rintro lo pre ⟨i', x⟩ E V hE ⟨m1, m2, m3, m4, m5⟩ hN'
              obtain ⟨rfl, hx⟩ := shift_inv' hN'
              rw [← HXL.out.2.2] at hx
              have hkl : pre.length < xl := by rw [← HXL.out.1]; exact (List.getElem?_eq_some_iff.1 hx).1
              obtain ⟨L0, hL0⟩ : ∃ L0, pre.length = L0 := ⟨_, rfl⟩
              have hj := hL0
              rw [hL0] at hx ⊢
              have hjl : L0 < xl := by omega
              have kw := (m2.cell (p := ⟨gw, 0, none⟩) (show gw < gnc by omega)).trans GcVb.out.1.qw
              have kf := (m2.cell (p := ⟨w7.heap.size, 0, none⟩) (show w7.heap.size < gnc by omega)).trans GcVb.out.1.qf
              have km := (m2.cell (p := ⟨w.heap.size + 1, 0, none⟩) (show w.heap.size + 1 < gnc by omega)).trans GcVb.out.1.qm
              rw [HXL.out.1] at kw
              obtain ⟨gx, ox, rfl⟩ := GcVb.out.1.sw.numsome (by rw [HXL.out.1]; omega)
              have hxc := GcVb.out.1.sw.num hx
              rw [hgnc] at hxc
              have kx := (m2.cell (p := ⟨gx, ox + L0, none⟩) hxc.2).trans hxc.1
              have d1 : decide ((xl : Int) ≤ (L0 : Int)) = false := decide_eq_false (by omega)
              have d1' : decide (xl ≤ L0) = false := decide_eq_false (by omega)
              have e0 : (0 : Int) ≤ (L0 : Int) := by omega
              have e1 : (L0 : Int) < (xl : Int) := by omega
              rw [hL0] at m4 m5 hkl
              have cn3 := (cell_at m4 0).trans (show _ = some (Value.int .i64 (L0 : Int)) from rfl)
              have fn3 := unfrozen m4 0
              have km2 : (V.setCell ⟨gnc, 0, none⟩ (Value.int .i64 ((L0 : Int) + 1))).cell? ⟨w.heap.size + 1, 0, none⟩ = some (.int .u8 mo) := by rw [World.cell?_of_block (heap_set_other (show w.heap.size + 1 ≠ gnc by omega))]; exact km
              have HLen1 : ∀ y : Nat × Int, ((pre ++ [y]).length : Int) = (L0 : Int) + 1 := by intro y; rw [List.length_append, hL0]; simp
              have M := Lib.hid (And.intro HLen1 (And.intro m1 (And.intro m2 (And.intro m3 (And.intro m4 m5)))))
              have hpl : p + L0 < 300 := by omega
              have hL3 : L0 < 300 := by omega
              have d3 : (x == x) = true := by simp
              simp [two, encP]
              clear hef1 hef2 hwnc hgnc hmoc hlwc alc hhc hzc m1 m2 m3 m4 m5 hz5 hL0 hxc hx hN' hE hbxVb hj HLen1 HR HBk hsB0 B0 hwz8 hlt8 hb1 hz1 hgzc FAsc
              by_cases hb : (L0 : Int) + 1 = mo
              · have d5 : ((L0 : Int) + 1 == mo) = true := by rw [beq_iff_eq]; exact hb
                have HBm := Lib.hid hb
                clear hb
                gi_wp2
                exact GoX.set M.out.2.1 M.out.2.2.1 M.out.2.2.2.1 M.out.2.2.2.2.1 HBm.out (by have := HBm.out; omega) (by have := HBm.out; omega)
              · have d5 : ((L0 : Int) + 1 == mo) = false := by rw [beq_eq_false_iff_ne]; exact hb
                have HBm := Lib.hid hb
                clear hb
                gi_wp2
                exact GoI.set (M.out.1 _) M.out.2.1 M.out.2.2.1 M.out.2.2.2.1 M.out.2.2.2.2.1 (by have := HBm.out; have := M.out.2.2.2.2.2; omega)
            case fin =>
              intro dc Vc hdc hFc hKc
              have hbc' : Below Vb.heap.size Vb Vc := by rw [hgnc]; exact hFc.1
              have hbxVc := hbxVb.trans (hbc'.mono hbxVb.size)
              have GcVc := Lib.hid (And.intro (GcVb.out.1.grow hbc') (And.intro (GcVb.out.2.1.grow hbc') (GcVb.out.2.2.grow hbc')))
              have hdlc := lt_of_at hKc
              have HKc := Lib.hid hKc
              have HFc := Lib.hid hFc
              have hglc := hFc.2.1
              clear hhc alc hwnc hmoc hlwc hFc hKc hbxVb hbc'
              gi_wp2
              have hhd := heap_alloc_new Vc (Obj.cells #[.int .i64 0] 3)
              have ald := t_al Vc (Obj.cells #[.int .i64 0] 3)
              have hzd : (Vc.alloc (Obj.cells #[.int .i64 0] 3)).heap.size = Vc.heap.size + 1 := by simp
              obtain ⟨wnd, hwnd⟩ : ∃ wn, Vc.alloc (Obj.cells #[.int .i64 0] 3) = wn := ⟨_, rfl⟩
              rw [hwnd] at hhd ald hzd ⊢
              obtain ⟨gnd, hgnd⟩ : ∃ gn, Vc.heap.size = gn := ⟨_, rfl⟩
              have hgzd := hbxVc.size
              have FAsd := GcVc.out.2.2.size
              rw [hgnd] at hhd ald hzd hgzd FAsd ⊢
              have Gnd := Lib.hid (GcVc.out.1.grow (by rw [hgnd]; exact ald))
              have HBd := Lib.hid (GcVc.out.2.2.grow (by rw [hgnd]; exact ald))
              have hmod : mo = 0 ∨ ((([] : List (Nat × Int)).length : Nat) : Int) < mo := by simp; omega
              have hlwd := GcVc.out.1.lt
              rw [hgnd] at hlwd
              refine range_join (gf := 90) (lb := #[pbox wb.heap.size, pbox (wb.heap.size + 1), pbox (wb.heap.size + 2), pbox (wb.heap.size + 3), pbox (wb.heap.size + 4)]) rfl (fun h => by simp [Fence.wide] at h) rfl trivial (enters_of Try.func90 (by kernel_rfl) rfl)
                (rng_b (n - 1) gnd (p := p) (q := q) (D0 := fun _ => False) HBd.out G.out.t1 (hbxVc.trans ((by rw [hgnd]; exact ald : Below Vc.heap.size Vc wnd).mono hbxVc.size)) hgzd (by omega) (fun k h => h.elim) (fun k h1 h2 => .inr (by omega)) (by omega) (by rw [HN.out]; omega) (by rw [HN.out]; omega)) (by omega) (Below.refl _ _) (fun k h => h.elim) rfl 18 19
                (GoI Vc gnd mo) (GoX Vc gnd mo xl 4) (GoF Vc gnd N) GoI.firm GoX.firm ⟨fun k h => h.elim, ald, by omega, hhd, hmod⟩ ?hd ?hs ?assign ?body ?fin
              case hd =>
                rintro xs' E V hS ⟨m1, m2, m3, m4, m5⟩
                have hle : xs'.length = xl := by rw [hS, List.length_reverse]; unfold shiftP; rw [List.length_map, pairs_len, ← HXL.out.2.2]; exact HXL.out.1
                rw [hle] at m4 m5
                exact ⟨m2, m3, by rw [HNN.out.1 m5]; exact m4⟩
              case hs =>
                rintro c' pre' E V hS ⟨rfl, m1, m2, m3, m4, m5⟩
                exact ⟨rfl, m2, m3, by rw [HNN.out.2 m5]; exact m4⟩
              case assign =>
                intro l' x V K hK
                simp [two, encP] at hK
                simp only [encP]
                gi_wp2
                exact hK
              case body =>
                rintro lo pre ⟨i', x⟩ E V hE ⟨m1, m2, m3, m4, m5⟩ hN'
                obtain ⟨j, hj, rfl, hx⟩ := rev_inv hN'
                rw [← HXL.out.2.2] at hj hx
                rw [HXL.out.1] at hj
                have hkl : pre.length < xl := by omega
                have hjl : j < xl := by omega
                obtain ⟨L0, hL0⟩ : ∃ L0, pre.length = L0 := ⟨_, rfl⟩
                have kw := (m2.cell (p := ⟨gw, 0, none⟩) (show gw < gnd by omega)).trans GcVc.out.1.qw
                have kf := (m2.cell (p := ⟨w7.heap.size, 0, none⟩) (show w7.heap.size < gnd by omega)).trans GcVc.out.1.qf
                have km := (m2.cell (p := ⟨w.heap.size + 1, 0, none⟩) (show w.heap.size + 1 < gnd by omega)).trans GcVc.out.1.qm
                rw [HXL.out.1] at kw
                obtain ⟨gx, ox, rfl⟩ := GcVc.out.1.sw.numsome (by rw [HXL.out.1]; omega)
                have hxc := GcVc.out.1.sw.num hx
                rw [hgnd] at hxc
                have kx := (m2.cell (p := ⟨gx, ox + j, none⟩) hxc.2).trans hxc.1
                have d1 : decide ((xl : Int) ≤ (j : Int)) = false := decide_eq_false (by omega)
                have d1' : decide (xl ≤ j) = false := decide_eq_false (by omega)
                have e0 : (0 : Int) ≤ (j : Int) := by omega
                have e1 : (j : Int) < (xl : Int) := by omega
                rw [hL0] at m4 m5 hkl
                have cn3 := (cell_at m4 0).trans (show _ = some (Value.int .i64 (L0 : Int)) from rfl)
                have fn3 := unfrozen m4 0
                have km2 : (V.setCell ⟨gnd, 0, none⟩ (Value.int .i64 ((L0 : Int) + 1))).cell? ⟨w.heap.size + 1, 0, none⟩ = some (.int .u8 mo) := by rw [World.cell?_of_block (heap_set_other (show w.heap.size + 1 ≠ gnd by omega))]; exact km
                have HLen1 : ∀ y : Nat × Int, ((pre ++ [y]).length : Int) = (L0 : Int) + 1 := by intro y; rw [List.length_append, hL0]; simp
                have M := Lib.hid (And.intro HLen1 (And.intro m1 (And.intro m2 (And.intro m3 (And.intro m4 m5)))))
                have hpl : p + j < 300 := by omega
                have hL3 : L0 < 300 := by omega
                have d3 : (x == x) = true := by simp
                have hjL : (xl : Int) - 1 - (L0 : Int) = (j : Int) := by omega
                have d0 : decide ((j : Int) < 0) = false := decide_eq_false (by omega)
                have hx1 : xl < 1000 := by omega
                simp [two, encP]
                clear hef1 hef2 hwnd hgnd hmod hlwd ald hhd hzd m1 m2 m3 m4 m5 hz5 hL0 hxc hx hN' hE hbxVc hj HLen1 HR HBk hsB0 B0 hwz8 hlt8 hb1 hz1 hgzd FAsd
                by_cases hb : (L0 : Int) + 1 = mo
                · have d5 : ((L0 : Int) + 1 == mo) = true := by rw [beq_iff_eq]; exact hb
                  have HBm := Lib.hid hb
                  clear hb
                  gi_wp2
                  exact GoX.set M.out.2.1 M.out.2.2.1 M.out.2.2.2.1 M.out.2.2.2.2.1 HBm.out (by have := HBm.out; omega) (by have := HBm.out; omega)
                · have d5 : ((L0 : Int) + 1 == mo) = false := by rw [beq_eq_false_iff_ne]; exact hb
                  have HBm := Lib.hid hb
                  clear hb
                  gi_wp2
                  exact GoI.set (M.out.1 _) M.out.2.1 M.out.2.2.1 M.out.2.2.2.1 M.out.2.2.2.2.1 (by have := HBm.out; have := M.out.2.2.2.2.2; omega)
              case fin =>
                intro dd Vd hdd hFd hKd
                have hbd' : Below Vc.heap.size Vc Vd := by rw [hgnd]; exact hFd.1
                have hbxVd := hbxVc.trans (hbd'.mono hbxVc.size)
                have GcVd := Lib.hid (And.intro (GcVc.out.1.grow hbd') (And.intro (GcVc.out.2.1.grow hbd') (GcVc.out.2.2.grow hbd')))
                have hdld := lt_of_at hKd
                have HKd := Lib.hid hKd
                have HFd := Lib.hid hFd
                have hgld := hFd.2.1
                clear hhd ald hwnd hmod hlwd hFd hKd hbxVc hbd'
                have hwy := GcVd.out.1.qw
                have hmy := GcVd.out.1.qm
                rw [HXL.out.1] at hwy
                have cay : Vd.cell? ⟨gnc, 0, none⟩ = some (.int .i64 N) := (cell_at ((HFd.out.1.block gnc (show gnc < gnd by omega)).trans HFc.out.2.2) 0).trans rfl
                have cby : Vd.cell? ⟨gnd, 0, none⟩ = some (.int .i64 N) := (cell_at HFd.out.2.2 0).trans rfl
                have hNx : N = mo := HNB.out
                rw [hNx] at cay cby
                clear hNx
                gi_wp2
                clear cay cby hwy hmy
                have hqt := GcVd.out.1.qt
                have HAll := Lib.hid (all_gen (n - 1) GcVd.out.1.t1 (by rw [HN.out]; omega))
                rw [roundsIn_succ]
                gi_wp2
                refine ⟨trivial, fun h => by simp [Fence.wide] at h, HAll.out.mono ?_⟩
                clear HAll; rintro e X1 ⟨ax, cx, rfl, sx, bx1⟩
                have HSm := Lib.hid ((callsIn_wide (n := n - 1)).2 (nsame l l sx (GcVd.out.1.s1.below bx1) (by rw [HN.out]; omega)))
                rw [decide_eq_true rfl, HN.out] at HSm
                rw [HN.out]
                have BX1 := Lib.hid bx1
                clear sx bx1 hqt
                gi_wp2
                refine ⟨trivial, fun h => by simp [Fence.wide] at h, HSm.out.mono ?_⟩
                clear HSm; rintro e X2 ⟨rfl, bx2⟩
                have HAw := Lib.hid ((callsIn_wide (n := n - 1)).2 (awake10_of (w := X2)))
                have BX2 := Lib.hid (BX1.out.trans (bx2.mono BX1.out.size))
                clear bx2
                gi_wp2
                refine ⟨trivial, fun h => by simp [Fence.wide] at h, HAw.out.mono ?_⟩
                clear HAw; rintro e X3 ⟨rfl, bx3⟩
                have BX := Lib.hid (BX2.out.trans (bx3.mono BX2.out.size))
                have hqr := (GcVd.out.1.grow BX.out).qr
                have Kd := (BX.out.block dd hdld).trans HKd.out
                have Kc := (BX.out.block dc (by have := HFd.out.1.size; omega)).trans ((HFd.out.1.block dc (by omega)).trans HKc.out)
                have Kb := (BX.out.block db (by have := HFd.out.1.size; have := HFc.out.1.size; omega)).trans ((HFd.out.1.block db (by have := HFc.out.1.size; omega)).trans ((HFc.out.1.block db (by omega)).trans HKb.out))
                have Ka := (BX.out.block da (by have := HFd.out.1.size; have := HFc.out.1.size; have := HFb.out.1.size; omega)).trans ((HFd.out.1.block da (by have := HFc.out.1.size; have := HFb.out.1.size; omega)).trans ((HFc.out.1.block da (by have := HFb.out.1.size; omega)).trans ((HFb.out.1.block da (by omega)).trans HKa.out)))
                have cr := (cell_at hqr 0).trans (show _ = some (Value.bool false) from rfl)
                have fr := unfrozen hqr 0
                have KK4 := Lib.hid (And.intro Ka (And.intro Kb (And.intro Kc (And.intro Kd hqr))))
                clear Ka Kb Kc Kd hqr bx3
                have GX := Lib.hid (GcVd.out.1.grow BX.out)
                gi_wp2
                have hlo := G.out.lt.1
                have hnda : w.heap.size + 2 < da := by omega
                have ot : ∀ k, w.heap.size + 2 < k → (X3.setCell ⟨w.heap.size + 1 + 1, 0, none⟩ (Value.bool true)).heap[k]? = X3.heap[k]? := fun k hk => heap_set_other (by omega)
                refine leave4 ((ot _ (by omega)).trans KK4.out.1) ((ot _ (by omega)).trans KK4.out.2.1) ((ot _ (by omega)).trans KK4.out.2.2.1) ((ot _ (by omega)).trans KK4.out.2.2.2.1) (by omega) (by omega) (by omega) ?_
                intro W' hW'
                have q0 : W'.cell? ⟨w.heap.size + 1 + 1, 0, none⟩ = some (.bool true) := by
                  rw [cell_at ((hW'.block _ (by omega)).trans (heap_set_at KK4.out.2.2.2.2))]; rfl
                exact ⟨.bool true, by simp [results, Try.results7, go_sem, q0], rfl, (GX.out.below.setCell (p := ⟨w.heap.size + 1 + 1, 0, none⟩) (by show w.heap.size ≤ w.heap.size + 1 + 1; omega) _).trans (hW'.mono (by omega))⟩

end Go.Proofs.Ytofncnommekbjaa
