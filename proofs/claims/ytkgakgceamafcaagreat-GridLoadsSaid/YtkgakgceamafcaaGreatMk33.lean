/-
  Texts of this seat, put together (a claim holds few texts): WgM.
-/
import Derived.Test.YtkgakgceamafcaaGreatMk32

namespace Go.Proofs.YtkgakgceamafcaaGreat
open Go Go.RowKit Go.Shelf
set_option linter.unusedVariables false
attribute [local go_sem] Oper.semAt_some

/-- Keep, with a word on what has been handed over. -/
def KeepQ {α β : Type} (P : α → Prop) (J : β → Bls → World → Prop) (f : α → β) (D1 : Bls) (w2 : World) (n₀ : Nat) : α → Bls → World → Prop := fun s E W => P s ∧ Keep J f D1 w2 n₀ s E W
theorem KeepQ.firm {α β : Type} (P : α → Prop) {J : β → Bls → World → Prop} (hJ : Firm J) (f : α → β) {D1 : Bls} {w2 : World} {n₀ : Nat} (hn : n₀ ≤ w2.heap.size) (hD : Have D1 w2) : Firm (KeepQ P J f D1 w2 n₀) := fun s D D' W W' h hm hd => ⟨h.1, Keep.firm hJ f hn hD s D D' W W' h.2 hm hd⟩
theorem at_split {α : Type} {l : List α} {k : Nat} {x : α} (h : l[k]? = some x) : l = l.take k ++ x :: l.drop (k + 1) := by
  have hk := (List.getElem?_eq_some_iff.1 h).1
  rw [List.getElem?_eq_getElem hk] at h
  injection h with h
  rw [← h, List.getElem_cons_drop, List.take_append_drop]
theorem pairs_lt {xs : List R3} {k : Nat} {x : R3} (h : (k, x) ∈ pairs xs) : k < xs.length := by
  unfold pairs at h
  obtain ⟨q, hq, e⟩ := List.mem_map.1 h
  rw [List.mem_range] at hq
  injection e with e1 e2
  omega
theorem take_next {α : Type} {l pre : List α} {x : α} (h : pre = l.take pre.length) (hx : l[pre.length]? = some x) : pre ++ [x] = l.take (pre ++ [x]).length := by
  rw [List.length_append, List.length_singleton, ← take_snoc hx, ← h]
theorem sel_in {i j f k : Nat} {x : R3} {O pre : List (Nat × R3)} (h : inS i j (f + k, x) = true) : O ++ (shiftP f (pre ++ [(k, x)])).filter (inS i j) = (O ++ (shiftP f pre).filter (inS i j)) ++ [(f + k, x)] := by
  rw [shiftP_app, List.filter_append, ← List.append_assoc]
  congr 1
  show List.filter (inS i j) [(f + k, x)] = _
  rw [List.filter_cons, h]; rfl
theorem sel_out {i j f k : Nat} {x : R3} {O pre : List (Nat × R3)} (h : inS i j (f + k, x) = false) : O ++ (shiftP f (pre ++ [(k, x)])).filter (inS i j) = O ++ (shiftP f pre).filter (inS i j) := by
  rw [shiftP_app, List.filter_append]
  show O ++ (_ ++ List.filter (inS i j) [(f + k, x)]) = _
  rw [List.filter_cons, h]
  simp
/-- Where the next one stands. -/
theorem sel_at {g : Leaf → List (Nat × R3)} {R1 pre : List Leaf} {x1 : Leaf} {i j f k : Nat} {x : R3} {Q pre2 : List (Nat × R3)} (h1 : pre = R1.take pre.length) (h2 : R1[pre.length]? = some x1) (hg : g x1 = (shiftP f Q).filter (inS i j)) (h3 : pre2 = Q.take pre2.length) (h4 : Q[pre2.length]? = some (k, x)) (h : inS i j (f + k, x) = true) :
    (R1.flatMap g)[(pre.flatMap g ++ (shiftP f pre2).filter (inS i j)).length]? = some (f + k, x) ∧ (pre.flatMap g ++ (shiftP f pre2).filter (inS i j)) ++ [(f + k, x)] <+: R1.flatMap g := by
  have e1 := at_split h2
  rw [← h1] at e1
  have e2 := at_split h4
  rw [← h3] at e2
  have e3 : R1.flatMap g = (pre.flatMap g ++ (shiftP f pre2).filter (inS i j)) ++ (f + k, x) :: ((shiftP f (Q.drop (pre2.length + 1))).filter (inS i j) ++ (R1.drop (pre.length + 1)).flatMap g) := by
    conv => lhs; rw [e1]
    rw [List.flatMap_append, List.flatMap_cons, hg]
    conv => lhs; rw [e2]
    rw [shiftP_app, List.filter_append]
    show pre.flatMap g ++ ((List.filter (inS i j) (shiftP f pre2) ++ List.filter (inS i j) ((f + k, x) :: shiftP f (Q.drop (pre2.length + 1)))) ++ _) = _
    rw [List.filter_cons, h]
    simp
  rw [e3]
  refine ⟨by rw [List.getElem?_append_right (Nat.le_refl _), Nat.sub_self]; rfl, ⟨(shiftP f (Q.drop (pre2.length + 1))).filter (inS i j) ++ (R1.drop (pre.length + 1)).flatMap g, ?_⟩⟩
  rw [List.append_assoc]; rfl

set_option maxRecDepth 100000 in
set_option maxHeartbeats 2000000 in
theorem leaves_call {w : World} (x : Option Addr) (pk : Nat) (I K : Int) :
    Calls Tryz.prog 160 #[.agg #[.pointer x], .int .i64 I, .int .i64 K, fnv pk] w fun e w' => e = .returned (.func (.func 184) #[] #[pbox (w.heap.size + 1), pbox (w.heap.size + 2), pbox w.heap.size, pbox (w.heap.size + 3)]) ∧ Below w.heap.size w w' ∧ w'.heap.size = w.heap.size + 4 ∧
      w'.cell? ⟨w.heap.size, 0, none⟩ = some (.pointer x) ∧ w'.cell? ⟨w.heap.size + 1, 0, none⟩ = some (.int .i64 I) ∧ w'.cell? ⟨w.heap.size + 2, 0, none⟩ = some (.int .i64 K) ∧ w'.cell? ⟨w.heap.size + 3, 0, none⟩ = some (fnv pk) := by
  go_enter Tryz.func160, Tryz.ntmps160
  go_wp2_with fail
  go_ret
  obtain ⟨h1, h2, h3⟩ := allocs_w [Obj.cells #[.pointer x] 25, Obj.cells #[Value.int .i64 I] 3, Obj.cells #[Value.int .i64 K] 3, Obj.cells #[fnv pk] 208] w
  exact ⟨rfl, h1, h2, (cell_at (h3 0 (by simp)) 0).trans rfl, (cell_at (h3 1 (by simp)) 0).trans rfl, (cell_at (h3 2 (by simp)) 0).trans rfl, (cell_at (h3 3 (by simp)) 0).trans rfl⟩

set_option maxRecDepth 100000 in
set_option maxHeartbeats 2000000 in
theorem sback_i {w : World} (a : Option Addr) (len c : Nat) :
    Calls Tryz.prog 165 #[.slice a len c] w fun e w' => e = .returned (.func (.func 191) #[] #[pbox w.heap.size]) ∧ w.alloc (.cells #[.slice a len c] 98) = w' := by
  go_enter Tryz.func165, Tryz.ntmps165
  go_wp2_with fail
  go_ret
  exact ⟨rfl, rfl⟩

set_option maxRecDepth 100000 in
theorem sall_i {w : World} (a : Option Addr) (len c : Nat) :
    Calls Tryz.prog 123 #[.slice a len c] w fun e w' => e = .returned (.func (.func 161) #[] #[pbox w.heap.size]) ∧ w.alloc (.cells #[.slice a len c] 98) = w' := by
  go_enter Tryz.func123, Tryz.ntmps123
  go_wp2_with fail
  go_ret
  exact ⟨rfl, rfl⟩

/-- Leaves of rows. -/
def LvN (w0 : World) (R : List Leaf) : Prop := ∀ x ∈ R, ∃ ys : List R3, x.2.2 = rws ys ∧ In w0 194 0 (rws ys) x.1 ∧ 0 < ys.length ∧ x.2.1 + ys.length ≤ 1000000


set_option maxRecDepth 100000 in
set_option maxHeartbeats 4000000 in
theorem thru_fwd (n n₀ Bt Bi Bj Bp Bw : Nat) {w0 w : World} {x0 : Option Addr} {i j : Nat} {R1 : List Leaf} {D0 : Bls} (hw : Below w0.heap.size w0 w) (hn0 : w0.heap.size ≤ n₀) (hn : n₀ ≤ w.heap.size) (hD0 : Have D0 w) (di : D0 Bi ∨ Bi < n₀) (dj : D0 Bj ∨ Bj < n₀) (dt : D0 Bt ∨ Bt < n₀) (dp : D0 Bp ∨ Bp < n₀) (dw : D0 Bw ∨ Bw < n₀)
    (ct : w.cell? ⟨Bt, 0, none⟩ = some (.pointer x0)) (ci : w.cell? ⟨Bi, 0, none⟩ = some (.int .i64 (i : Int))) (cj : w.cell? ⟨Bj, 0, none⟩ = some (.int .i64 (j : Int))) (cp : w.cell? ⟨Bp, 0, none⟩ = some (fnv 122)) (cw : w.cell? ⟨Bw, 0, none⟩ = some (fnv 123))
    (HV : LvOf w0 true i j x0 R1) (HN : LvN w0 R1) (hj : j ≤ 1000000) :
    Iter Fence.wide n Tryz.prog 159 #[pbox Bt, pbox Bi, pbox Bj, pbox Bp, pbox Bw] encP n₀ (fun ys => ys = R1.flatMap (selL true i j)) (fun pre => pre <+: R1.flatMap (selL true i j)) (fun pre x => (R1.flatMap (selL true i j))[pre.length]? = some x) D0 w := fun l J Jx W hW hJ hJx hY h0 => by
  have hbx (k : Nat) (h : D0 k ∨ k < n₀) : k < w.heap.size := h.elim (hD0 k) (fun h => by omega)
  have hlt (k : Nat) (h : D0 k ∨ k < n₀) : k < W.heap.size := Nat.lt_of_lt_of_le (hbx k h) hW.size
  have ct' := (hW.cell (p := ⟨Bt, 0, none⟩) (hbx _ dt)).trans ct
  have ci' := (hW.cell (p := ⟨Bi, 0, none⟩) (hbx _ di)).trans ci
  have cj' := (hW.cell (p := ⟨Bj, 0, none⟩) (hbx _ dj)).trans cj
  have cp' := (hW.cell (p := ⟨Bp, 0, none⟩) (hbx _ dp)).trans cp
  have cw' := (hW.cell (p := ⟨Bw, 0, none⟩) (hbx _ dw)).trans cw
  obtain ⟨w1, hw1, hb1, hz1, hh1⟩ : ∃ w1, W.alloc (Obj.cells #[.func (.yield l) #[] #[]] 243) = w1 ∧ Below W.heap.size W w1 ∧ w1.heap.size = W.heap.size + 1 ∧ w1.heap[W.heap.size]? = some (.cells #[.func (.yield l) #[] #[]] 243 (0, 0)) := ⟨_, rfl, t_al _ _, by simp, World.alloc_heap_new _ _⟩
  have ct1 := (hb1.cell (p := ⟨Bt, 0, none⟩) (hlt _ dt)).trans ct'
  have ci1 := (hb1.cell (p := ⟨Bi, 0, none⟩) (hlt _ di)).trans ci'
  have cj1 := (hb1.cell (p := ⟨Bj, 0, none⟩) (hlt _ dj)).trans cj'
  have cp1 := (hb1.cell (p := ⟨Bp, 0, none⟩) (hlt _ dp)).trans cp'
  have cw1 := (hb1.cell (p := ⟨Bw, 0, none⟩) (hlt _ dw)).trans cw'
  have cy1 : w1.cell? ⟨W.heap.size, 0, none⟩ = some (.func (.yield l) #[] #[]) := by rw [cell_at hh1]; rfl
  clear ct ci cj cp cw ct' ci' cj' cp' cw'
  refine callsIn_of_wp_marks Tryz.func159 rfl trivial ?_ rfl
  simp only [Tryz.ntmps159, List.size_toArray, List.length_cons, List.length_nil, Nat.reduceAdd, Nat.reduceSub, Array.replicate_succ, Array.replicate_zero, List.push_toArray, List.append_toArray, List.nil_append, List.cons_append]
  gi_wp2
  refine ⟨trivial, fun h => by simp [Fence.wide] at h, ((callsIn_wide (n := n - 1)).2 (leaves_call x0 _ i j)).mono ?_⟩
  rintro e w2 ⟨rfl, hb2, hz2, e0, e1, e2, e3⟩
  gi_wp2
  obtain ⟨D1, hD1⟩ : ∃ D1 : Bls, D1 = fun k => D0 k ∨ k = W.heap.size := ⟨_, rfl⟩
  have d1 (k : Nat) (h : D0 k) : D1 k := by rw [hD1]; exact .inl h
  have d1' : D1 W.heap.size := by rw [hD1]; exact .inr rfl
  have x1 (k : Nat) (h : D1 k) : D0 k ∨ k = W.heap.size := by rw [hD1] at h; exact h
  clear hD1
  have hb02 : Below W.heap.size W w2 := hb1.trans (hb2.mono hb1.size)
  have hn2 : n₀ ≤ w2.heap.size := by have := hW.size; omega
  have hD1h : Have D1 w2 := fun k h => (x1 k h).elim (fun h => by have := hlt k (.inl h); omega) (fun h => by omega)
  have hJ2 : J [] D1 w2 := hJ _ _ _ _ _ h0 (Moves.below hb02) (fun k h => (x1 k h).elim .inl (fun h => .inr (by omega)))
  have hb002 : Below w0.heap.size w0 w2 := hw.trans ((hW.mono hw.size).trans (hb02.mono (Nat.le_trans hw.size hW.size)))
  have ci2 := (hb2.cell (p := ⟨Bi, 0, none⟩) (show Bi < w1.heap.size by have := hlt _ di; omega)).trans ci1
  have cj2 := (hb2.cell (p := ⟨Bj, 0, none⟩) (show Bj < w1.heap.size by have := hlt _ dj; omega)).trans cj1
  have cw2 := (hb2.cell (p := ⟨Bw, 0, none⟩) (show Bw < w1.heap.size by have := hlt _ dw; omega)).trans cw1
  have cy2 := (hb2.cell (p := ⟨W.heap.size, 0, none⟩) (show W.heap.size < w1.heap.size by omega)).trans cy1
  rw [hz1] at hz2 e0 e1 e2 e3
  have hnW : n₀ ≤ W.heap.size := Nat.le_trans hn hW.size
  refine range_outer (gf := 184) (lb := #[pbox (W.heap.size + 1 + 1), pbox (W.heap.size + 1 + 2), pbox (W.heap.size + 1), pbox (W.heap.size + 1 + 3)]) rfl (fun h => by simp [Fence.wide] at h) rfl trivial (enters_of Tryz.func184 (by kernel_rfl) rfl)
    (leaves_any (n - 1) n₀ (W.heap.size + 1 + 1) (W.heap.size + 1 + 2) (W.heap.size + 1) (W.heap.size + 1 + 3) true dirOk_t (D0 := fun k => W.heap.size + 1 ≤ k ∧ k < W.heap.size + 1 + 4) (w := w2) hb002 hn0 hn2 (fun k h => by omega) (by omega) (by omega) (by omega) (by omega) e1 e2 e0 e3 HV (by omega)) hn2 (Below.refl _ _) (fun k h => by omega) (fun _ => rfl)
    (KeepQ (fun s => s = R1.take s.length) J (fun pre => pre.flatMap (selL true i j)) D1 w2 n₀) (KeepX Jx (fun _ q => q <+: R1.flatMap (selL true i j)) D1 w2) (KeepQ.firm _ hJ _ hn2 hD1h) (KeepX.firm hJx _ hD1h) ⟨rfl, fun k h => ⟨by omega, fun hk => by have := x1 k hk; rcases this with h1 | h1; have := hlt k (.inl h1); omega; omega⟩, Below.refl _ _, Same.refl _ _, hJ _ _ _ _ _ h0 (Moves.below hb02) (fun k h => h.elim (fun h => .inr (by omega)) (fun h => (x1 k h).elim .inl (fun h => .inr (by omega))))⟩
    (fun x a' E W' => ∃ sb, E sb ∧ W'.cell? ⟨sb, 0, none⟩ = some (ptr x.1) ∧ W'.cell? ⟨sb, 1, none⟩ = some (.int .i64 (x.2.1 : Int)) ∧ a' = { tmps := #[.func (.yield l) #[] #[], pbox Bt, pbox Bi, pbox Bj, pbox Bp, pbox Bw, pbox W.heap.size, pbox sb, undef, undef, undef, .agg #[.pointer x0], .int .i64 (i : Int), .int .i64 (j : Int), fnv 122, .func (.func 184) #[] #[pbox (W.heap.size + 1 + 1), pbox (W.heap.size + 1 + 2), pbox (W.heap.size + 1), pbox (W.heap.size + 1 + 3)], spotV x.1 x.2.1, undef, undef, undef, undef, undef, undef, undef, undef, undef, undef, undef, undef, undef, undef, undef, undef, undef, undef, undef, undef, undef, undef, undef, undef, undef, undef, undef, undef], defers := [] })
    (fun x a' E V l r o ⟨sb, h1, h2, h3, h4⟩ hl => ⟨sb, h1, cell_put h2 hl, cell_put h3 hl, h4⟩) ?assign ?body ?done ?stop
  case assign =>
    intro l' pre x E V K hl' hi hE hK
    simp only [spotV]
    gi_wp2
    have al := t_al V (Obj.cells #[.pointer (some ⟨x.1, 0, none⟩), .int .i64 (x.2.1 : Int)] 211)
    refine hK _ (fun k => E k ∨ k = V.heap.size) _ (fun k h => .inl h) (fun k h => by rw [World.size_alloc]; exact h.elim (fun h => by have := hE k h; omega) (fun h => by omega)) (Same.below al hE) (al.mono (Nat.le_trans hn2 hi.2.2.1.size)) ?_ ⟨V.heap.size, .inr rfl, by rw [cell_at (World.alloc_heap_new _ _)]; rfl, by rw [cell_at (World.alloc_heap_new _ _)]; rfl, rfl⟩
    exact KeepQ.firm _ hJ _ hn2 hD1h _ _ _ _ _ hi (Moves.below al) (fun k h => h.elim .inl (fun h => .inr (by omega)))
  case body =>
    rintro lo pre ⟨b', f', vs⟩ a' E V hEl ⟨r, hr⟩ hE ⟨hP, k1, k2, k3, k4⟩ ⟨sb, hsb, s0, s1, rfl⟩ hN
    obtain ⟨ys, rfl, hin, hys0, hfy⟩ : ∃ ys : List R3, vs = rws ys ∧ In w0 194 0 (rws ys) b' ∧ 0 < ys.length ∧ f' + ys.length ≤ 1000000 := HN (b', f', vs) (List.mem_of_getElem? hN)
    have hg1 : selL true i j (b', f', rws ys) = (shiftP f' (pairs ys)).filter (inS i j) := by unfold selL; rw [rwsOf_rws]; rfl
    simp only [spotV]
    have hb0V := hb002.trans (k2.mono hn0)
    obtain ⟨ia, ic, _, i1, isl⟩ := hin.items
    have i1V := (hb0V.cell (p := ⟨b', 1, none⟩) hin.lt).trans i1
    rw [rws_len] at i1V
    have hia : ∀ d, ia = some d → d.block < n₀ := fun d hd => by
      obtain ⟨x, hx⟩ : ∃ x, ys[0]? = some x := ⟨_, List.getElem?_eq_getElem hys0⟩
      obtain ⟨g, o, e, hg, _⟩ := isl.atR hx
      rw [e] at hd
      injection hd with hd
      rw [← hd]
      exact Nat.lt_of_lt_of_le hg hn0
    have stV (k : Nat) (h : D0 k ∨ k < n₀) : V.cell? ⟨k, 0, none⟩ = w2.cell? ⟨k, 0, none⟩ := h.elim (fun h => k3.cell (d1 _ h)) (fun h => k2.cell (p := ⟨k, 0, none⟩) h)
    have cwV := (stV _ dw).trans cw2
    have hmix : Tryz.prog.follows .mixedOrders = true := by kernel_rfl
    have islV := Lib.hid (isl.below hb0V)
    have HS := Lib.hid (sall_i (w := V.drew) ia ys.length ic)
    have HQ := Lib.hid (And.intro hP (And.intro hN hg1))
    clear i1 isl hin hP hN hg1
    gi_wp2
    rename_i K hKK
    have key : ∀ w3, V.drew.alloc (Obj.cells #[.slice ia ys.length ic] 98) = w3 → K { tmps := #[.func (.yield l) #[] #[], pbox Bt, pbox Bi, pbox Bj, pbox Bp, pbox Bw, pbox W.heap.size, pbox sb, undef, undef, undef, .agg #[.pointer x0], .int .i64 (i : Int), .int .i64 (j : Int), fnv 122, .func (.func 184) #[] #[pbox (W.heap.size + 1 + 1), pbox (W.heap.size + 1 + 2), pbox (W.heap.size + 1), pbox (W.heap.size + 1 + 3)], .agg #[pbox b', .int .i64 (f' : Int)], fnv 123, pbox sb, ptr b', pbox b', .pointer (some ⟨b', 1, none⟩), .slice ia ys.length ic, .func (.func 161) #[] #[pbox V.heap.size], undef, undef, undef, undef, undef, undef, undef, undef, undef, undef, undef, undef, undef, undef, undef, undef, undef, undef, undef, undef, undef], defers := [] } w3 := by
      intro w3 hw3
      have al := t_al V.drew (Obj.cells #[.slice ia ys.length ic] 98)
      have hh3 := World.alloc_heap_new V.drew (Obj.cells #[.slice ia ys.length ic] 98)
      have hz3 : (V.drew.alloc (Obj.cells #[.slice ia ys.length ic] 98)).heap.size = V.heap.size + 1 := by simp
      rw [hw3] at al hh3 hz3
      have hb3 : Below V.heap.size V w3 := (Below.refl _ V).drew.trans al
      have hEV : Have (fun k => E k ∨ D1 k) V := fun k h => h.elim (hE k) (k3.lt hD1h)
      have hD2h : Have (fun k => E k ∨ D1 k) w3 := fun k h => Nat.lt_of_lt_of_le (hEV k h) hb3.size
      have hn3 : n₀ ≤ w3.heap.size := Nat.le_trans hn2 (Nat.le_trans k2.size hb3.size)
      have hJ3 := hJ.below k4 hb3
      have cB3 : w3.cell? ⟨V.heap.size, 0, none⟩ = some (.slice ia ys.length ic) := (cell_at hh3 0).trans rfl
      have isl3 := islV.out.below hb3
      refine hKK _ _ ?_
      clear hKK hw3 al hh3
      gi_wp2
      have hE3 : ∀ k, E k → k < w3.heap.size := fun k h => hD2h k (.inl h)
      have hV3 : Same (fun k => E k ∨ D1 k) V w3 := Same.below hb3 hEV
      refine range_inner (l₀ := lo) (r₀ := r) rfl ((hb3.block lo (hE lo hEl)).trans hr) (fun h => by simp [Fence.wide] at h) (gf := 161) (lb := #[pbox V.heap.size]) rfl trivial (enters_of Tryz.func161 (by kernel_rfl) rfl)
        (sall_iter2 (n - 1 - 1 - 1) n₀ V.heap.size (D0 := fun k => k = V.heap.size) (w := w3) (fun k h => by omega) rfl hn3 cB3 isl3 hia (by omega)) hn3 (Below.refl _ _) (fun k h => by omega) (fun _ => rfl)
        (KeepQ (fun s => s = (pairs ys).take s.length) J (fun pre2 => pre.flatMap (selL true i j) ++ (shiftP f' pre2).filter (inS i j)) (fun k => E k ∨ D1 k) w3 n₀) (KeepX Jx (fun _ q => q <+: R1.flatMap (selL true i j)) (fun k => E k ∨ D1 k) w3) (KeepQ.firm _ hJ _ hn3 hD2h) (KeepX.firm hJx _ hD2h) ⟨rfl, fun k h => ⟨by have := k2.size; omega, fun hk => by have := hEV k hk; omega⟩, Below.refl _ _, Same.refl _ _, by show J (_ ++ List.filter _ []) _ _; rw [List.filter_nil, List.append_nil]; exact hJ _ _ _ _ _ k4 (Moves.below hb3) (fun k h => h.elim (fun h => .inr (by omega)) .inl)⟩
        (fun x a' E W' => ∃ rb, E rb ∧ W'.cell? ⟨rb, 0, none⟩ = some (.slice x.2.a x.2.n x.2.c) ∧ W'.cell? ⟨rb, 1, none⟩ = some (.int .i64 x.2.e) ∧ W'.cell? ⟨rb, 2, none⟩ = some (.bool x.2.b) ∧ a' = { tmps := #[.func (.yield l) #[] #[], pbox Bt, pbox Bi, pbox Bj, pbox Bp, pbox Bw, pbox W.heap.size, pbox sb, .int .i64 (x.1 : Int), pbox rb, undef, .agg #[.pointer x0], .int .i64 (i : Int), .int .i64 (j : Int), fnv 122, .func (.func 184) #[] #[pbox (W.heap.size + 1 + 1), pbox (W.heap.size + 1 + 2), pbox (W.heap.size + 1), pbox (W.heap.size + 1 + 3)], .agg #[pbox b', .int .i64 (f' : Int)], fnv 123, pbox sb, ptr b', pbox b', .pointer (some ⟨b', 1, none⟩), .slice ia ys.length ic, .func (.func 161) #[] #[pbox V.heap.size], .int .i64 (x.1 : Int), .agg #[.slice x.2.a x.2.n x.2.c, .int .i64 x.2.e, .bool x.2.b], undef, undef, undef, undef, undef, undef, undef, undef, undef, undef, undef, undef, undef, undef, undef, undef, undef, undef, undef], defers := [] })
        (fun x a' E V l r o ⟨rb, h1, h2, h3, h4, h5⟩ hl => ⟨rb, h1, cell_put h2 hl, cell_put h3 hl, cell_put h4 hl, h5⟩) ?assign2 ?body2 ?done2 ?stop2
      case assign2 =>
        intro l' pre x E V4 K hl' hi hE hK
        simp only [encP, r3V]
        gi_wp2
        have al := t_al V4 (Obj.cells #[.slice x.2.a x.2.n x.2.c, .int .i64 x.2.e, .bool x.2.b] 103)
        refine hK _ (fun k => E k ∨ k = V4.heap.size) _ (fun k h => .inl h) (fun k h => by rw [World.size_alloc]; exact h.elim (fun h => by have := hE k h; omega) (fun h => by omega)) (Same.below al hE) (al.mono (Nat.le_trans hn3 hi.2.2.1.size)) ?_ ⟨V4.heap.size, .inr rfl, by rw [cell_at (World.alloc_heap_new _ _)]; rfl, by rw [cell_at (World.alloc_heap_new _ _)]; rfl, by rw [cell_at (World.alloc_heap_new _ _)]; rfl, rfl⟩
        exact KeepQ.firm _ hJ _ hn3 hD2h _ _ _ _ _ hi (Moves.below al) (fun k h => h.elim .inl (fun h => .inr (by omega)))
      case body2 =>
        rintro li pre2 ⟨k, ⟨xa, xn, xc, xe, xb⟩⟩ a' E2 V2 hE2l ⟨r2, hr2⟩ hE2 ⟨hP2, m1, m2, m3, m4⟩ ⟨rb, hrb, q0, q1, q2, rfl⟩ hN2
        simp only at q0 q1 q2
        have hm := hV3.trans m3
        have hbV2 : Below n₀ V V2 := (hb3.mono (Nat.le_trans hn2 k2.size)).trans m2
        have stV2 (k : Nat) (h : D0 k ∨ k < n₀) : V2.cell? ⟨k, 0, none⟩ = V.cell? ⟨k, 0, none⟩ := h.elim (fun h => hm.cell (.inr (d1 _ h))) (fun h => hbV2.cell (p := ⟨k, 0, none⟩) h)
        have ci2' := (stV2 _ di).trans ((stV _ di).trans ci2)
        have cj2' := (stV2 _ dj).trans ((stV _ dj).trans cj2)
        clear hbV2
        have cy2' := (hm.cell (b := W.heap.size) (o := 0) (.inr d1')).trans ((k3.cell (o := 0) d1').trans cy2)
        have s0' := (hm.cell (b := sb) (o := 0) (.inl hsb)).trans s0
        have s1' := (hm.cell (b := sb) (o := 1) (.inl hsb)).trans s1
        have hkl : k < ys.length := pairs_lt (x := ⟨xa, xn, xc, xe, xb⟩) (by have := List.mem_of_getElem? hN2; simpa using this)
        have hfk : ((f' + k : Nat) : Int) = (f' : Int) + (k : Int) := by omega
        by_cases hin : inS i j (f' + k, ⟨xa, xn, xc, xe, xb⟩) = true
        · have hAB : i ≤ f' + k ∧ f' + k < j := by unfold inS at hin; simpa using hin
          have hA : decide (i ≤ f' + k) = true := decide_eq_true hAB.1
          have hA' : decide ((i : Int) ≤ (f' : Int) + (k : Int)) = true := decide_eq_true (by omega)
          have hB : decide (f' + k < j) = true := decide_eq_true hAB.2
          have hB' : decide ((f' : Int) + (k : Int) < (j : Int)) = true := decide_eq_true (by omega)
          have hat := sel_at HQ.out.1 HQ.out.2.1 HQ.out.2.2 hP2 hN2 hin
          obtain ⟨fn, tmps, assign, body, hy, hR⟩ := hY _ (f' + k, ⟨xa, xn, xc, xe, xb⟩) _ V2 m4 (fun k' h => h.elim (hE2 k') (fun h => m3.lt hD2h h)) hat.1
          dsimp only [encP, r3V] at hy
          rw [hfk] at hy
          have HAT := Lib.hid (And.intro hat.2 (And.intro (sel_in (O := pre.flatMap (selL true i j)) (pre := pre2) hin) (take_next hP2 hN2)))
          clear hat hin hP2 hN2 hfk
          gi_wp2
          refine ⟨fun h => by simp [Fence.wide] at h, RoundIn.mono (F := Fence.wide) ⟨hR.1, fun c cs _ => hR.2 c cs (room_wide _)⟩ ?_⟩
          rintro e W3 ⟨hs, (⟨rfl, hJ3, hk3⟩ | ⟨rfl, hJx3⟩)⟩
          · gi_wp2
            exact ⟨hs.mono fun _ h => .inl h, hk3, HAT.out.2.2, m1, m2.trans hk3, m3.trans (hs.mono fun _ h => .inr h), by show J (_ ++ List.filter (inS i j) (shiftP f' (pre2 ++ [(k, ⟨xa, xn, xc, xe, xb⟩)]))) _ _; rw [HAT.out.2.1]; exact hJ3⟩
          · gi_wp2
            exact ⟨hs.mono fun _ h => .inl h, rfl, fun k h he => (m1 k he).2 h, m3.trans (hs.mono fun _ h => .inr h), _, HAT.out.1, hJx3⟩
        · have hin' : inS i j (f' + k, ⟨xa, xn, xc, xe, xb⟩) = false := by simpa using hin
          have HAT := Lib.hid (And.intro (sel_out (O := pre.flatMap (selL true i j)) (pre := pre2) hin') (take_next hP2 hN2))
          have hAB : ¬ (i ≤ f' + k ∧ f' + k < j) := fun h => hin (by unfold inS; simpa using h)
          clear hin hin' hP2 hN2 hfk
          by_cases hi : i ≤ f' + k
          · have hA : decide (i ≤ f' + k) = true := decide_eq_true hi
            have hA' : decide ((i : Int) ≤ (f' : Int) + (k : Int)) = true := decide_eq_true (by omega)
            have hB : decide (f' + k < j) = false := decide_eq_false (by omega)
            have hB' : decide ((f' : Int) + (k : Int) < (j : Int)) = false := decide_eq_false (by omega)
            clear hAB
            gi_wp2
            refine ⟨(fun _ h => by cases h), ?_⟩
            gi_wp2
            exact ⟨Same.refl _ _, Below.refl _ _, HAT.out.2, m1, m2, m3, by show J (_ ++ List.filter (inS i j) (shiftP f' (pre2 ++ [(k, ⟨xa, xn, xc, xe, xb⟩)]))) _ _; rw [HAT.out.1]; exact m4⟩
          · have hA : decide (i ≤ f' + k) = false := decide_eq_false hi
            have hA' : decide ((i : Int) ≤ (f' : Int) + (k : Int)) = false := decide_eq_false (by omega)
            clear hAB
            gi_wp2
            refine ⟨(fun _ h => by cases h), ?_⟩
            gi_wp2
            exact ⟨Same.refl _ _, Below.refl _ _, HAT.out.2, m1, m2, m3, by show J (_ ++ List.filter (inS i j) (shiftP f' (pre2 ++ [(k, ⟨xa, xn, xc, xe, xb⟩)]))) _ _; rw [HAT.out.1]; exact m4⟩
      case done2 =>
        rintro zs E2 W2 rfl ⟨_, m1, m2, m3, m4⟩
        have hm := hV3.trans m3
        have hB2 : Below n₀ V W2 := (hb3.mono (Nat.le_trans hn2 k2.size)).trans m2
        refine ⟨hm.mono fun _ h => .inl h, hB2, take_next HQ.out.1 HQ.out.2.1, k1, k2.trans hB2, k3.trans (hm.mono fun _ h => .inr h), ?_⟩
        show J ((pre ++ [_]).flatMap _) _ _
        rw [List.flatMap_append, List.flatMap_cons, List.flatMap_nil, List.append_nil, HQ.out.2.2]
        exact hJ _ _ _ _ _ m4 (Moves.below (Below.refl _ _)) (fun k h => .inl (.inr h))
      case stop2 =>
        rintro c pre2 E2 W2 hSp ⟨rfl, m1, m3, q, hq, m4⟩
        have hm := hV3.trans m3
        gi_wp2
        exact ⟨hm.mono fun _ h => .inl h, rfl, fun k h he => (k1 k he).2 h, k3.trans (hm.mono fun _ h => .inr h), _, hq, hJx _ _ _ _ _ m4 (Moves.below (Below.refl _ _)) (fun k h => .inl (.inr h))⟩
    gi_region_with_o (refine ⟨trivial, fun h => by simp [Fence.wide] at h, (CallsIn.inRound lo ((callsIn_wide (n := n - 1 - 1 - 1)).2 HS.out)).mono ?_⟩; rintro e w3 ⟨rfl, hw3⟩)
    all_goals (exact key _ hw3)
  case done =>
    rintro d ys E W3 hd hEd rfl ⟨_, m1, m2, m3, m4⟩ hK
    refine ⟨by simp, .inl ⟨_, _, rfl, run_takeDeferred hK, ?_⟩⟩
    refine ⟨_, results_none rfl _ _ _, ⟨_, rfl⟩, .inl ⟨_, _, rfl, hJ.go m4 (Moves.put _ (.inl hEd))⟩⟩
  case stop =>
    rintro d c pre E W3 hd hEd hSp ⟨rfl, m1, m3, q, hq, m4⟩ hK
    gi_wp2
    refine ⟨by simp, .inl ⟨_, _, rfl, run_takeDeferred hK, ?_⟩⟩
    exact ⟨_, results_none rfl _ _ _, ⟨_, rfl⟩, .inr ⟨_, _, hq, hJx.go m4 (Moves.put _ (.inl hEd))⟩⟩


set_option maxRecDepth 100000 in
set_option maxHeartbeats 4000000 in
theorem thru_bwd (n n₀ Bt Bi Bj Bp Bw : Nat) {w0 w : World} {x0 : Option Addr} {i j : Nat} {R1 : List Leaf} {D0 : Bls} (hw : Below w0.heap.size w0 w) (hn0 : w0.heap.size ≤ n₀) (hn : n₀ ≤ w.heap.size) (hD0 : Have D0 w) (di : D0 Bi ∨ Bi < n₀) (dj : D0 Bj ∨ Bj < n₀) (dt : D0 Bt ∨ Bt < n₀) (dp : D0 Bp ∨ Bp < n₀) (dw : D0 Bw ∨ Bw < n₀)
    (ct : w.cell? ⟨Bt, 0, none⟩ = some (.pointer x0)) (ci : w.cell? ⟨Bi, 0, none⟩ = some (.int .i64 (i : Int))) (cj : w.cell? ⟨Bj, 0, none⟩ = some (.int .i64 (j : Int))) (cp : w.cell? ⟨Bp, 0, none⟩ = some (fnv 164)) (cw : w.cell? ⟨Bw, 0, none⟩ = some (fnv 165))
    (HV : LvOf w0 false i j x0 R1) (HN : LvN w0 R1) (hj : j ≤ 1000000) :
    Iter Fence.wide n Tryz.prog 159 #[pbox Bt, pbox Bi, pbox Bj, pbox Bp, pbox Bw] encP n₀ (fun ys => ys = R1.flatMap (selL false i j)) (fun pre => pre <+: R1.flatMap (selL false i j)) (fun pre x => (R1.flatMap (selL false i j))[pre.length]? = some x) D0 w := fun l J Jx W hW hJ hJx hY h0 => by
  have hbx (k : Nat) (h : D0 k ∨ k < n₀) : k < w.heap.size := h.elim (hD0 k) (fun h => by omega)
  have hlt (k : Nat) (h : D0 k ∨ k < n₀) : k < W.heap.size := Nat.lt_of_lt_of_le (hbx k h) hW.size
  have ct' := (hW.cell (p := ⟨Bt, 0, none⟩) (hbx _ dt)).trans ct
  have ci' := (hW.cell (p := ⟨Bi, 0, none⟩) (hbx _ di)).trans ci
  have cj' := (hW.cell (p := ⟨Bj, 0, none⟩) (hbx _ dj)).trans cj
  have cp' := (hW.cell (p := ⟨Bp, 0, none⟩) (hbx _ dp)).trans cp
  have cw' := (hW.cell (p := ⟨Bw, 0, none⟩) (hbx _ dw)).trans cw
  obtain ⟨w1, hw1, hb1, hz1, hh1⟩ : ∃ w1, W.alloc (Obj.cells #[.func (.yield l) #[] #[]] 243) = w1 ∧ Below W.heap.size W w1 ∧ w1.heap.size = W.heap.size + 1 ∧ w1.heap[W.heap.size]? = some (.cells #[.func (.yield l) #[] #[]] 243 (0, 0)) := ⟨_, rfl, t_al _ _, by simp, World.alloc_heap_new _ _⟩
  have ct1 := (hb1.cell (p := ⟨Bt, 0, none⟩) (hlt _ dt)).trans ct'
  have ci1 := (hb1.cell (p := ⟨Bi, 0, none⟩) (hlt _ di)).trans ci'
  have cj1 := (hb1.cell (p := ⟨Bj, 0, none⟩) (hlt _ dj)).trans cj'
  have cp1 := (hb1.cell (p := ⟨Bp, 0, none⟩) (hlt _ dp)).trans cp'
  have cw1 := (hb1.cell (p := ⟨Bw, 0, none⟩) (hlt _ dw)).trans cw'
  have cy1 : w1.cell? ⟨W.heap.size, 0, none⟩ = some (.func (.yield l) #[] #[]) := by rw [cell_at hh1]; rfl
  clear ct ci cj cp cw ct' ci' cj' cp' cw'
  refine callsIn_of_wp_marks Tryz.func159 rfl trivial ?_ rfl
  simp only [Tryz.ntmps159, List.size_toArray, List.length_cons, List.length_nil, Nat.reduceAdd, Nat.reduceSub, Array.replicate_succ, Array.replicate_zero, List.push_toArray, List.append_toArray, List.nil_append, List.cons_append]
  gi_wp2
  refine ⟨trivial, fun h => by simp [Fence.wide] at h, ((callsIn_wide (n := n - 1)).2 (leaves_call x0 _ i j)).mono ?_⟩
  rintro e w2 ⟨rfl, hb2, hz2, e0, e1, e2, e3⟩
  gi_wp2
  obtain ⟨D1, hD1⟩ : ∃ D1 : Bls, D1 = fun k => D0 k ∨ k = W.heap.size := ⟨_, rfl⟩
  have d1 (k : Nat) (h : D0 k) : D1 k := by rw [hD1]; exact .inl h
  have d1' : D1 W.heap.size := by rw [hD1]; exact .inr rfl
  have x1 (k : Nat) (h : D1 k) : D0 k ∨ k = W.heap.size := by rw [hD1] at h; exact h
  clear hD1
  have hb02 : Below W.heap.size W w2 := hb1.trans (hb2.mono hb1.size)
  have hn2 : n₀ ≤ w2.heap.size := by have := hW.size; omega
  have hD1h : Have D1 w2 := fun k h => (x1 k h).elim (fun h => by have := hlt k (.inl h); omega) (fun h => by omega)
  have hJ2 : J [] D1 w2 := hJ _ _ _ _ _ h0 (Moves.below hb02) (fun k h => (x1 k h).elim .inl (fun h => .inr (by omega)))
  have hb002 : Below w0.heap.size w0 w2 := hw.trans ((hW.mono hw.size).trans (hb02.mono (Nat.le_trans hw.size hW.size)))
  have ci2 := (hb2.cell (p := ⟨Bi, 0, none⟩) (show Bi < w1.heap.size by have := hlt _ di; omega)).trans ci1
  have cj2 := (hb2.cell (p := ⟨Bj, 0, none⟩) (show Bj < w1.heap.size by have := hlt _ dj; omega)).trans cj1
  have cw2 := (hb2.cell (p := ⟨Bw, 0, none⟩) (show Bw < w1.heap.size by have := hlt _ dw; omega)).trans cw1
  have cy2 := (hb2.cell (p := ⟨W.heap.size, 0, none⟩) (show W.heap.size < w1.heap.size by omega)).trans cy1
  rw [hz1] at hz2 e0 e1 e2 e3
  have hnW : n₀ ≤ W.heap.size := Nat.le_trans hn hW.size
  refine range_outer (gf := 184) (lb := #[pbox (W.heap.size + 1 + 1), pbox (W.heap.size + 1 + 2), pbox (W.heap.size + 1), pbox (W.heap.size + 1 + 3)]) rfl (fun h => by simp [Fence.wide] at h) rfl trivial (enters_of Tryz.func184 (by kernel_rfl) rfl)
    (leaves_any (n - 1) n₀ (W.heap.size + 1 + 1) (W.heap.size + 1 + 2) (W.heap.size + 1) (W.heap.size + 1 + 3) false rfl (D0 := fun k => W.heap.size + 1 ≤ k ∧ k < W.heap.size + 1 + 4) (w := w2) hb002 hn0 hn2 (fun k h => by omega) (by omega) (by omega) (by omega) (by omega) e1 e2 e0 e3 HV (by omega)) hn2 (Below.refl _ _) (fun k h => by omega) (fun _ => rfl)
    (KeepQ (fun s => s = R1.take s.length) J (fun pre => pre.flatMap (selL false i j)) D1 w2 n₀) (KeepX Jx (fun _ q => q <+: R1.flatMap (selL false i j)) D1 w2) (KeepQ.firm _ hJ _ hn2 hD1h) (KeepX.firm hJx _ hD1h) ⟨rfl, fun k h => ⟨by omega, fun hk => by have := x1 k hk; rcases this with h1 | h1; have := hlt k (.inl h1); omega; omega⟩, Below.refl _ _, Same.refl _ _, hJ _ _ _ _ _ h0 (Moves.below hb02) (fun k h => h.elim (fun h => .inr (by omega)) (fun h => (x1 k h).elim .inl (fun h => .inr (by omega))))⟩
    (fun x a' E W' => ∃ sb, E sb ∧ W'.cell? ⟨sb, 0, none⟩ = some (ptr x.1) ∧ W'.cell? ⟨sb, 1, none⟩ = some (.int .i64 (x.2.1 : Int)) ∧ a' = { tmps := #[.func (.yield l) #[] #[], pbox Bt, pbox Bi, pbox Bj, pbox Bp, pbox Bw, pbox W.heap.size, pbox sb, undef, undef, undef, .agg #[.pointer x0], .int .i64 (i : Int), .int .i64 (j : Int), fnv 164, .func (.func 184) #[] #[pbox (W.heap.size + 1 + 1), pbox (W.heap.size + 1 + 2), pbox (W.heap.size + 1), pbox (W.heap.size + 1 + 3)], spotV x.1 x.2.1, undef, undef, undef, undef, undef, undef, undef, undef, undef, undef, undef, undef, undef, undef, undef, undef, undef, undef, undef, undef, undef, undef, undef, undef, undef, undef, undef, undef], defers := [] })
    (fun x a' E V l r o ⟨sb, h1, h2, h3, h4⟩ hl => ⟨sb, h1, cell_put h2 hl, cell_put h3 hl, h4⟩) ?assign ?body ?done ?stop
  case assign =>
    intro l' pre x E V K hl' hi hE hK
    simp only [spotV]
    gi_wp2
    have al := t_al V (Obj.cells #[.pointer (some ⟨x.1, 0, none⟩), .int .i64 (x.2.1 : Int)] 211)
    refine hK _ (fun k => E k ∨ k = V.heap.size) _ (fun k h => .inl h) (fun k h => by rw [World.size_alloc]; exact h.elim (fun h => by have := hE k h; omega) (fun h => by omega)) (Same.below al hE) (al.mono (Nat.le_trans hn2 hi.2.2.1.size)) ?_ ⟨V.heap.size, .inr rfl, by rw [cell_at (World.alloc_heap_new _ _)]; rfl, by rw [cell_at (World.alloc_heap_new _ _)]; rfl, rfl⟩
    exact KeepQ.firm _ hJ _ hn2 hD1h _ _ _ _ _ hi (Moves.below al) (fun k h => h.elim .inl (fun h => .inr (by omega)))
  case body =>
    rintro lo pre ⟨b', f', vs⟩ a' E V hEl ⟨r, hr⟩ hE ⟨hP, k1, k2, k3, k4⟩ ⟨sb, hsb, s0, s1, rfl⟩ hN
    obtain ⟨ys, rfl, hin, hys0, hfy⟩ : ∃ ys : List R3, vs = rws ys ∧ In w0 194 0 (rws ys) b' ∧ 0 < ys.length ∧ f' + ys.length ≤ 1000000 := HN (b', f', vs) (List.mem_of_getElem? hN)
    have hg1 : selL false i j (b', f', rws ys) = (shiftP f' (pairs ys).reverse).filter (inS i j) := by unfold selL; rw [rwsOf_rws]; rfl
    simp only [spotV]
    have hb0V := hb002.trans (k2.mono hn0)
    obtain ⟨ia, ic, _, i1, isl⟩ := hin.items
    have i1V := (hb0V.cell (p := ⟨b', 1, none⟩) hin.lt).trans i1
    rw [rws_len] at i1V
    have hia : ∀ d, ia = some d → d.block < n₀ := fun d hd => by
      obtain ⟨x, hx⟩ : ∃ x, ys[0]? = some x := ⟨_, List.getElem?_eq_getElem hys0⟩
      obtain ⟨g, o, e, hg, _⟩ := isl.atR hx
      rw [e] at hd
      injection hd with hd
      rw [← hd]
      exact Nat.lt_of_lt_of_le hg hn0
    have stV (k : Nat) (h : D0 k ∨ k < n₀) : V.cell? ⟨k, 0, none⟩ = w2.cell? ⟨k, 0, none⟩ := h.elim (fun h => k3.cell (d1 _ h)) (fun h => k2.cell (p := ⟨k, 0, none⟩) h)
    have cwV := (stV _ dw).trans cw2
    have hmix : Tryz.prog.follows .mixedOrders = true := by kernel_rfl
    have islV := Lib.hid (isl.below hb0V)
    have HS := Lib.hid (sback_i (w := V.drew) ia ys.length ic)
    have HQ := Lib.hid (And.intro hP (And.intro hN hg1))
    clear i1 isl hin hP hN hg1
    gi_wp2
    rename_i K hKK
    have key : ∀ w3, V.drew.alloc (Obj.cells #[.slice ia ys.length ic] 98) = w3 → K { tmps := #[.func (.yield l) #[] #[], pbox Bt, pbox Bi, pbox Bj, pbox Bp, pbox Bw, pbox W.heap.size, pbox sb, undef, undef, undef, .agg #[.pointer x0], .int .i64 (i : Int), .int .i64 (j : Int), fnv 164, .func (.func 184) #[] #[pbox (W.heap.size + 1 + 1), pbox (W.heap.size + 1 + 2), pbox (W.heap.size + 1), pbox (W.heap.size + 1 + 3)], .agg #[pbox b', .int .i64 (f' : Int)], fnv 165, pbox sb, ptr b', pbox b', .pointer (some ⟨b', 1, none⟩), .slice ia ys.length ic, .func (.func 191) #[] #[pbox V.heap.size], undef, undef, undef, undef, undef, undef, undef, undef, undef, undef, undef, undef, undef, undef, undef, undef, undef, undef, undef, undef, undef], defers := [] } w3 := by
      intro w3 hw3
      have al := t_al V.drew (Obj.cells #[.slice ia ys.length ic] 98)
      have hh3 := World.alloc_heap_new V.drew (Obj.cells #[.slice ia ys.length ic] 98)
      have hz3 : (V.drew.alloc (Obj.cells #[.slice ia ys.length ic] 98)).heap.size = V.heap.size + 1 := by simp
      rw [hw3] at al hh3 hz3
      have hb3 : Below V.heap.size V w3 := (Below.refl _ V).drew.trans al
      have hEV : Have (fun k => E k ∨ D1 k) V := fun k h => h.elim (hE k) (k3.lt hD1h)
      have hD2h : Have (fun k => E k ∨ D1 k) w3 := fun k h => Nat.lt_of_lt_of_le (hEV k h) hb3.size
      have hn3 : n₀ ≤ w3.heap.size := Nat.le_trans hn2 (Nat.le_trans k2.size hb3.size)
      have hJ3 := hJ.below k4 hb3
      have cB3 : w3.cell? ⟨V.heap.size, 0, none⟩ = some (.slice ia ys.length ic) := (cell_at hh3 0).trans rfl
      have isl3 := islV.out.below hb3
      refine hKK _ _ ?_
      clear hKK hw3 al hh3
      gi_wp2
      have hE3 : ∀ k, E k → k < w3.heap.size := fun k h => hD2h k (.inl h)
      have hV3 : Same (fun k => E k ∨ D1 k) V w3 := Same.below hb3 hEV
      refine range_inner (l₀ := lo) (r₀ := r) rfl ((hb3.block lo (hE lo hEl)).trans hr) (fun h => by simp [Fence.wide] at h) (gf := 191) (lb := #[pbox V.heap.size]) rfl trivial (enters_of Tryz.func191 (by kernel_rfl) rfl)
        (sback_iter (n - 1 - 1 - 1) n₀ V.heap.size (D0 := fun k => k = V.heap.size) (w := w3) (fun k h => by omega) rfl hn3 cB3 isl3 hia (by omega)) hn3 (Below.refl _ _) (fun k h => by omega) (fun _ => rfl)
        (KeepQ (fun s => s = (pairs ys).reverse.take s.length) J (fun pre2 => pre.flatMap (selL false i j) ++ (shiftP f' pre2).filter (inS i j)) (fun k => E k ∨ D1 k) w3 n₀) (KeepX Jx (fun _ q => q <+: R1.flatMap (selL false i j)) (fun k => E k ∨ D1 k) w3) (KeepQ.firm _ hJ _ hn3 hD2h) (KeepX.firm hJx _ hD2h) ⟨rfl, fun k h => ⟨by have := k2.size; omega, fun hk => by have := hEV k hk; omega⟩, Below.refl _ _, Same.refl _ _, by show J (_ ++ List.filter _ []) _ _; rw [List.filter_nil, List.append_nil]; exact hJ _ _ _ _ _ k4 (Moves.below hb3) (fun k h => h.elim (fun h => .inr (by omega)) .inl)⟩
        (fun x a' E W' => ∃ rb, E rb ∧ W'.cell? ⟨rb, 0, none⟩ = some (.slice x.2.a x.2.n x.2.c) ∧ W'.cell? ⟨rb, 1, none⟩ = some (.int .i64 x.2.e) ∧ W'.cell? ⟨rb, 2, none⟩ = some (.bool x.2.b) ∧ a' = { tmps := #[.func (.yield l) #[] #[], pbox Bt, pbox Bi, pbox Bj, pbox Bp, pbox Bw, pbox W.heap.size, pbox sb, .int .i64 (x.1 : Int), pbox rb, undef, .agg #[.pointer x0], .int .i64 (i : Int), .int .i64 (j : Int), fnv 164, .func (.func 184) #[] #[pbox (W.heap.size + 1 + 1), pbox (W.heap.size + 1 + 2), pbox (W.heap.size + 1), pbox (W.heap.size + 1 + 3)], .agg #[pbox b', .int .i64 (f' : Int)], fnv 165, pbox sb, ptr b', pbox b', .pointer (some ⟨b', 1, none⟩), .slice ia ys.length ic, .func (.func 191) #[] #[pbox V.heap.size], .int .i64 (x.1 : Int), .agg #[.slice x.2.a x.2.n x.2.c, .int .i64 x.2.e, .bool x.2.b], undef, undef, undef, undef, undef, undef, undef, undef, undef, undef, undef, undef, undef, undef, undef, undef, undef, undef, undef], defers := [] })
        (fun x a' E V l r o ⟨rb, h1, h2, h3, h4, h5⟩ hl => ⟨rb, h1, cell_put h2 hl, cell_put h3 hl, cell_put h4 hl, h5⟩) ?assign2 ?body2 ?done2 ?stop2
      case assign2 =>
        intro l' pre x E V4 K hl' hi hE hK
        simp only [encP, r3V]
        gi_wp2
        have al := t_al V4 (Obj.cells #[.slice x.2.a x.2.n x.2.c, .int .i64 x.2.e, .bool x.2.b] 103)
        refine hK _ (fun k => E k ∨ k = V4.heap.size) _ (fun k h => .inl h) (fun k h => by rw [World.size_alloc]; exact h.elim (fun h => by have := hE k h; omega) (fun h => by omega)) (Same.below al hE) (al.mono (Nat.le_trans hn3 hi.2.2.1.size)) ?_ ⟨V4.heap.size, .inr rfl, by rw [cell_at (World.alloc_heap_new _ _)]; rfl, by rw [cell_at (World.alloc_heap_new _ _)]; rfl, by rw [cell_at (World.alloc_heap_new _ _)]; rfl, rfl⟩
        exact KeepQ.firm _ hJ _ hn3 hD2h _ _ _ _ _ hi (Moves.below al) (fun k h => h.elim .inl (fun h => .inr (by omega)))
      case body2 =>
        rintro li pre2 ⟨k, ⟨xa, xn, xc, xe, xb⟩⟩ a' E2 V2 hE2l ⟨r2, hr2⟩ hE2 ⟨hP2, m1, m2, m3, m4⟩ ⟨rb, hrb, q0, q1, q2, rfl⟩ hN2
        simp only at q0 q1 q2
        have hm := hV3.trans m3
        have hbV2 : Below n₀ V V2 := (hb3.mono (Nat.le_trans hn2 k2.size)).trans m2
        have stV2 (k : Nat) (h : D0 k ∨ k < n₀) : V2.cell? ⟨k, 0, none⟩ = V.cell? ⟨k, 0, none⟩ := h.elim (fun h => hm.cell (.inr (d1 _ h))) (fun h => hbV2.cell (p := ⟨k, 0, none⟩) h)
        have ci2' := (stV2 _ di).trans ((stV _ di).trans ci2)
        have cj2' := (stV2 _ dj).trans ((stV _ dj).trans cj2)
        clear hbV2
        have cy2' := (hm.cell (b := W.heap.size) (o := 0) (.inr d1')).trans ((k3.cell (o := 0) d1').trans cy2)
        have s0' := (hm.cell (b := sb) (o := 0) (.inl hsb)).trans s0
        have s1' := (hm.cell (b := sb) (o := 1) (.inl hsb)).trans s1
        have hkl : k < ys.length := pairs_lt (x := ⟨xa, xn, xc, xe, xb⟩) (by have := List.mem_of_getElem? hN2; simpa using this)
        have hfk : ((f' + k : Nat) : Int) = (f' : Int) + (k : Int) := by omega
        by_cases hin : inS i j (f' + k, ⟨xa, xn, xc, xe, xb⟩) = true
        · have hAB : i ≤ f' + k ∧ f' + k < j := by unfold inS at hin; simpa using hin
          have hA : decide (i ≤ f' + k) = true := decide_eq_true hAB.1
          have hA' : decide ((i : Int) ≤ (f' : Int) + (k : Int)) = true := decide_eq_true (by omega)
          have hB : decide (f' + k < j) = true := decide_eq_true hAB.2
          have hB' : decide ((f' : Int) + (k : Int) < (j : Int)) = true := decide_eq_true (by omega)
          have hat := sel_at HQ.out.1 HQ.out.2.1 HQ.out.2.2 hP2 hN2 hin
          obtain ⟨fn, tmps, assign, body, hy, hR⟩ := hY _ (f' + k, ⟨xa, xn, xc, xe, xb⟩) _ V2 m4 (fun k' h => h.elim (hE2 k') (fun h => m3.lt hD2h h)) hat.1
          dsimp only [encP, r3V] at hy
          rw [hfk] at hy
          have HAT := Lib.hid (And.intro hat.2 (And.intro (sel_in (O := pre.flatMap (selL false i j)) (pre := pre2) hin) (take_next hP2 hN2)))
          clear hat hin hP2 hN2 hfk
          gi_wp2
          refine ⟨fun h => by simp [Fence.wide] at h, RoundIn.mono (F := Fence.wide) ⟨hR.1, fun c cs _ => hR.2 c cs (room_wide _)⟩ ?_⟩
          rintro e W3 ⟨hs, (⟨rfl, hJ3, hk3⟩ | ⟨rfl, hJx3⟩)⟩
          · gi_wp2
            exact ⟨hs.mono fun _ h => .inl h, hk3, HAT.out.2.2, m1, m2.trans hk3, m3.trans (hs.mono fun _ h => .inr h), by show J (_ ++ List.filter (inS i j) (shiftP f' (pre2 ++ [(k, ⟨xa, xn, xc, xe, xb⟩)]))) _ _; rw [HAT.out.2.1]; exact hJ3⟩
          · gi_wp2
            exact ⟨hs.mono fun _ h => .inl h, rfl, fun k h he => (m1 k he).2 h, m3.trans (hs.mono fun _ h => .inr h), _, HAT.out.1, hJx3⟩
        · have hin' : inS i j (f' + k, ⟨xa, xn, xc, xe, xb⟩) = false := by simpa using hin
          have HAT := Lib.hid (And.intro (sel_out (O := pre.flatMap (selL false i j)) (pre := pre2) hin') (take_next hP2 hN2))
          have hAB : ¬ (i ≤ f' + k ∧ f' + k < j) := fun h => hin (by unfold inS; simpa using h)
          clear hin hin' hP2 hN2 hfk
          by_cases hi : i ≤ f' + k
          · have hA : decide (i ≤ f' + k) = true := decide_eq_true hi
            have hA' : decide ((i : Int) ≤ (f' : Int) + (k : Int)) = true := decide_eq_true (by omega)
            have hB : decide (f' + k < j) = false := decide_eq_false (by omega)
            have hB' : decide ((f' : Int) + (k : Int) < (j : Int)) = false := decide_eq_false (by omega)
            clear hAB
            gi_wp2
            refine ⟨(fun _ h => by cases h), ?_⟩
            gi_wp2
            exact ⟨Same.refl _ _, Below.refl _ _, HAT.out.2, m1, m2, m3, by show J (_ ++ List.filter (inS i j) (shiftP f' (pre2 ++ [(k, ⟨xa, xn, xc, xe, xb⟩)]))) _ _; rw [HAT.out.1]; exact m4⟩
          · have hA : decide (i ≤ f' + k) = false := decide_eq_false hi
            have hA' : decide ((i : Int) ≤ (f' : Int) + (k : Int)) = false := decide_eq_false (by omega)
            clear hAB
            gi_wp2
            refine ⟨(fun _ h => by cases h), ?_⟩
            gi_wp2
            exact ⟨Same.refl _ _, Below.refl _ _, HAT.out.2, m1, m2, m3, by show J (_ ++ List.filter (inS i j) (shiftP f' (pre2 ++ [(k, ⟨xa, xn, xc, xe, xb⟩)]))) _ _; rw [HAT.out.1]; exact m4⟩
      case done2 =>
        rintro zs E2 W2 rfl ⟨_, m1, m2, m3, m4⟩
        have hm := hV3.trans m3
        have hB2 : Below n₀ V W2 := (hb3.mono (Nat.le_trans hn2 k2.size)).trans m2
        refine ⟨hm.mono fun _ h => .inl h, hB2, take_next HQ.out.1 HQ.out.2.1, k1, k2.trans hB2, k3.trans (hm.mono fun _ h => .inr h), ?_⟩
        show J ((pre ++ [_]).flatMap _) _ _
        rw [List.flatMap_append, List.flatMap_cons, List.flatMap_nil, List.append_nil, HQ.out.2.2]
        exact hJ _ _ _ _ _ m4 (Moves.below (Below.refl _ _)) (fun k h => .inl (.inr h))
      case stop2 =>
        rintro c pre2 E2 W2 hSp ⟨rfl, m1, m3, q, hq, m4⟩
        have hm := hV3.trans m3
        gi_wp2
        exact ⟨hm.mono fun _ h => .inl h, rfl, fun k h he => (k1 k he).2 h, k3.trans (hm.mono fun _ h => .inr h), _, hq, hJx _ _ _ _ _ m4 (Moves.below (Below.refl _ _)) (fun k h => .inl (.inr h))⟩
    gi_region_with_o (refine ⟨trivial, fun h => by simp [Fence.wide] at h, (CallsIn.inRound lo ((callsIn_wide (n := n - 1 - 1 - 1)).2 HS.out)).mono ?_⟩; rintro e w3 ⟨rfl, hw3⟩)
    all_goals (exact key _ hw3)
  case done =>
    rintro d ys E W3 hd hEd rfl ⟨_, m1, m2, m3, m4⟩ hK
    refine ⟨by simp, .inl ⟨_, _, rfl, run_takeDeferred hK, ?_⟩⟩
    refine ⟨_, results_none rfl _ _ _, ⟨_, rfl⟩, .inl ⟨_, _, rfl, hJ.go m4 (Moves.put _ (.inl hEd))⟩⟩
  case stop =>
    rintro d c pre E W3 hd hEd hSp ⟨rfl, m1, m3, q, hq, m4⟩ hK
    gi_wp2
    refine ⟨by simp, .inl ⟨_, _, rfl, run_takeDeferred hK, ?_⟩⟩
    exact ⟨_, results_none rfl _ _ _, ⟨_, rfl⟩, .inr ⟨_, _, hq, hJx.go m4 (Moves.put _ (.inl hEd))⟩⟩


end Go.Proofs.YtkgakgceamafcaaGreat
