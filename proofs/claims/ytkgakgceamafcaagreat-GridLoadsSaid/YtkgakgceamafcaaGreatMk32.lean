/-
  Texts of this seat, put together (a claim holds few texts): WgL.
-/
import Derived.Test.YtkgakgceamafcaaGreatMk31

namespace Go.Proofs.YtkgakgceamafcaaGreat
open Go Go.RowKit Go.Shelf
set_option linter.unusedVariables false
attribute [local go_sem] Oper.semAt_some

set_option maxRecDepth 100000 in
set_option maxHeartbeats 2000000 in
theorem leaves_none (n n₀ Bi Bj Bt Bp i : Nat) {w : World} {D0 : Bls} (hD0 : Have D0 w) (di : D0 Bi) (dj : D0 Bj)
    (ci : w.cell? ⟨Bi, 0, none⟩ = some (.int .i64 (i : Int))) (cj : w.cell? ⟨Bj, 0, none⟩ = some (.int .i64 (i : Int))) :
    Iter Fence.wide n Tryz.prog 184 #[pbox Bi, pbox Bj, pbox Bt, pbox Bp] (fun x : Leaf => #[spotV x.1 x.2.1]) n₀ (fun ys => ys = []) (fun pre => pre <+: []) (fun pre x => ([] : List Leaf)[pre.length]? = some x) D0 w := fun l J Jx W hW hJ hJx hY hJ0 => by
  have ci' := (hW.cell (p := ⟨Bi, 0, none⟩) (hD0 _ di)).trans ci
  have cj' := (hW.cell (p := ⟨Bj, 0, none⟩) (hD0 _ dj)).trans cj
  have hne : ((i : Int) == (i : Int)) = true := by simp
  have HJ := Lib.hid hJ0
  clear hJ0 ci cj
  refine callsIn_of_wp Tryz.func184 rfl trivial ?_ rfl
  simp only [Tryz.ntmps184, List.size_toArray, List.length_cons, List.length_nil, Nat.reduceAdd, Nat.reduceSub, Array.replicate_succ, Array.replicate_zero, List.push_toArray, List.append_toArray, List.nil_append, List.cons_append]
  gi_wp2
  refine bodyPost_ret (results_none rfl _ _ _) rfl ?_
  exact ⟨⟨_, rfl⟩, .inl (by first | exact ⟨_, _, rfl, HJ.out⟩ | exact ⟨_, HJ.out⟩)⟩

/-- A tree in memory, as a stack's only entry, or none; and the leaves that a stretch wants. -/
def LvOf (w0 : World) (d : Bool) (i j : Nat) (x : Option Addr) (R : List Leaf) : Prop :=
  (i = j ∧ R = []) ∨ ∃ (e : Ent) (h : Nat) (L : List Value), i < j ∧ x = some ⟨e.b, 0, none⟩ ∧ Tin w0 194 (ptr e.b) L ∧ Node w0 194 h e ∧ e.f = 0 ∧ e.m ≤ 1000000 ∧ e.n ≤ 1000000 ∧ R = remL d i j [e]
theorem leaves_any (n n₀ Bi Bj Bt Bp : Nat) (d : Bool) (hdk : dirOk d) {w0 w : World} {x : Option Addr} {R : List Leaf} {i j : Nat} {D0 : Bls} (hw : Below w0.heap.size w0 w) (hn0 : w0.heap.size ≤ n₀) (hn : n₀ ≤ w.heap.size) (hD0 : Have D0 w) (di : D0 Bi) (dj : D0 Bj) (dt : D0 Bt) (dp : D0 Bp)
    (ci : w.cell? ⟨Bi, 0, none⟩ = some (.int .i64 (i : Int))) (cj : w.cell? ⟨Bj, 0, none⟩ = some (.int .i64 (j : Int))) (ct : w.cell? ⟨Bt, 0, none⟩ = some (.pointer x)) (cp : w.cell? ⟨Bp, 0, none⟩ = some (fnv (pkOf d)))
    (H : LvOf w0 d i j x R) (hj : j ≤ 2000000) :
    Iter Fence.wide n Tryz.prog 184 #[pbox Bi, pbox Bj, pbox Bt, pbox Bp] (fun x : Leaf => #[spotV x.1 x.2.1]) n₀ (fun ys => ys = R) (fun pre => pre <+: R) (fun pre x => R[pre.length]? = some x) D0 w := by
  rcases H with ⟨rfl, rfl⟩ | ⟨e, h, L, h1, rfl, h2, h3, h4, h5, h6, rfl⟩
  · exact leaves_none n n₀ Bi Bj Bt Bp i hD0 di dj ci cj
  · exact leaves_iter n n₀ Bi Bj Bt Bp d hdk hw hn0 hn hD0 di dj dt dp ci cj ct cp h2 h3 h4 h5 h6 h1 hj

/-- The numbers that some values are. -/
def rOf : Value → R3
  | .agg u => match u.toList with
    | [.slice a n c, .int _ e, .bool b] => ⟨a, n, c, e, b⟩
    | _ => ⟨none, 0, 0, 0, false⟩
  | _ => ⟨none, 0, 0, 0, false⟩
def rwsOf (vs : List Value) : List R3 := vs.map rOf
theorem rwsOf_rws (l : List R3) : rwsOf (rws l) = l := by
  unfold rwsOf rws
  rw [List.map_map]
  conv => rhs; rw [← List.map_id l]
  rfl
theorem rws_sub {vs : List Value} {l : List R3} (h : ∀ v ∈ vs, v ∈ rws l) : vs = rws (rwsOf vs) := by
  induction vs with
  | nil => rfl
  | cons v vs ih =>
    have hv := h v (List.mem_cons_self ..)
    unfold rws at hv
    obtain ⟨x, _, rfl⟩ := List.mem_map.1 hv
    show _ = r3V x :: rws (rwsOf vs)
    rw [← ih (fun y hy => h y (List.mem_cons_of_mem _ hy))]
/-- Pairs whose numbers begin further on. -/
def shiftP (f : Nat) (l : List (Nat × R3)) : List (Nat × R3) := l.map fun p => (f + p.1, p.2)
def inS (i j : Nat) (p : Nat × R3) : Bool := decide (i ≤ p.1) && decide (p.1 < j)
def selL (d : Bool) (i j : Nat) (x : Leaf) : List (Nat × R3) := (shiftP x.2.1 (dirL d (pairs (rwsOf x.2.2)))).filter (inS i j)
theorem pairs_app (a b : List R3) : pairs (a ++ b) = pairs a ++ shiftP a.length (pairs b) := by
  apply List.ext_getElem?
  intro k
  by_cases hk : k < a.length
  · rw [List.getElem?_append_left (by rw [pairs_len]; exact hk)]
    have h1 : (a ++ b)[k]? = some a[k] := by rw [List.getElem?_append_left hk]; exact List.getElem?_eq_getElem hk
    rw [pairs_at h1, pairs_at (List.getElem?_eq_getElem hk)]
  · rw [List.getElem?_append_right (by rw [pairs_len]; omega), pairs_len]
    unfold shiftP
    rw [List.getElem?_map]
    by_cases hb : k - a.length < b.length
    · have h1 : (a ++ b)[k]? = some b[k - a.length] := by rw [List.getElem?_append_right (by omega)]; exact List.getElem?_eq_getElem hb
      rw [pairs_at h1, pairs_at (List.getElem?_eq_getElem hb)]
      simp; omega
    · rw [List.getElem?_eq_none (by rw [pairs_len, List.length_append]; omega), List.getElem?_eq_none (by rw [pairs_len]; omega)]; rfl
theorem shiftP_zero (l : List (Nat × R3)) : shiftP 0 l = l := by
  unfold shiftP
  conv => rhs; rw [← List.map_id l]
  apply List.map_congr_left
  intro p _
  rw [Nat.zero_add]; rfl
theorem shiftP_shift (f g : Nat) (l : List (Nat × R3)) : shiftP f (shiftP g l) = shiftP (f + g) l := by
  unfold shiftP
  rw [List.map_map]
  apply List.map_congr_left
  intro p _
  simp only [Function.comp]
  rw [Nat.add_assoc]
theorem shiftP_app (f : Nat) (a b : List (Nat × R3)) : shiftP f (a ++ b) = shiftP f a ++ shiftP f b := by unfold shiftP; rw [List.map_append]
theorem rwsOf_app (a b : List Value) : rwsOf (a ++ b) = rwsOf a ++ rwsOf b := by unfold rwsOf; rw [List.map_append]
theorem rwsOf_len (a : List Value) : (rwsOf a).length = a.length := by unfold rwsOf; rw [List.length_map]
theorem dirL_filter {α : Type} (d : Bool) (p : α → Bool) (l : List α) : (dirL d l).filter p = dirL d (l.filter p) := by
  unfold dirL
  cases d
  · simp
  · rfl
theorem dirL_shift (d : Bool) (f : Nat) (l : List (Nat × R3)) : shiftP f (dirL d l) = dirL d (shiftP f l) := by
  unfold dirL shiftP
  cases d
  · simp
  · rfl
theorem dirL_flat {α β : Type} (d : Bool) (g : α → List β) (l : List α) : (dirL d l).flatMap (fun x => dirL d (g x)) = dirL d (l.flatMap g) := by
  unfold dirL
  cases d
  · simp only [Bool.false_eq_true, if_false]; rw [rev_flat]
  · rfl
/-- All leaves' pairs are the whole row's. -/
theorem run_pairs {w : World} {T : TypeId} : ∀ {ls : List Leaf} {f : Nat}, Run w T f ls → ls.flatMap (fun x => shiftP x.2.1 (pairs (rwsOf x.2.2))) = shiftP f (pairs (rwsOf (ls.flatMap (·.2.2))))
  | [], f, _ => rfl
  | x :: ls, f, ⟨h1, h2, h3, h4⟩ => by
    rw [List.flatMap_cons, List.flatMap_cons, run_pairs h4, h1, rwsOf_app, pairs_app, shiftP_app, shiftP_shift, rwsOf_len]
theorem sel_none {d : Bool} {i j : Nat} {x : Leaf} (h : inR i j x = false) : selL d i j x = [] := by
  unfold selL
  rw [List.filter_eq_nil_iff]
  intro p hp
  unfold shiftP at hp
  obtain ⟨q, hq, rfl⟩ := List.mem_map.1 hp
  have hq' : q ∈ pairs (rwsOf x.2.2) := by
    unfold dirL at hq
    cases d <;> simpa using hq
  have hlt : q.1 < x.2.2.length := by
    unfold pairs at hq'
    obtain ⟨k, hk, rfl⟩ := List.mem_map.1 hq'
    rw [List.mem_range, rwsOf_len] at hk
    exact hk
  unfold inR at h
  unfold inS
  simp only [Bool.and_eq_false_iff, decide_eq_false_iff_not] at h
  simp only [Bool.and_eq_true, decide_eq_true_eq]
  omega
theorem flat_filter {α β : Type} {p : α → Bool} {g : α → List β} (h : ∀ x, p x = false → g x = []) : ∀ l : List α, (l.filter p).flatMap g = l.flatMap g
  | [] => rfl
  | x :: l => by
    rw [List.filter_cons, List.flatMap_cons]
    cases hp : p x
    · simp only [Bool.false_eq_true, if_false]; rw [flat_filter h l, h x hp]; rfl
    · simp only [if_true]; rw [List.flatMap_cons, flat_filter h l]
/-- What through hands over of a tree's stretch. -/
theorem sel_all {w : World} {T : TypeId} {h : Nat} {e : Ent} {L : List R3} (H : Node w T h e) (hf : e.f = 0) (hL : e.ls.flatMap (·.2.2) = rws L) (d : Bool) (i j : Nat) : (remL d i j [e]).flatMap (selL d i j) = dirL d ((pairs L).filter (inS i j)) := by
  have h1 : remL d i j [e] = dirL d (e.ls.filter (inR i j)) := by show (dirL d (e.ls.filter (inR i j))) ++ [] = _; rw [List.append_nil]
  have h2 : ∀ x, selL d i j x = dirL d ((shiftP x.2.1 (pairs (rwsOf x.2.2))).filter (inS i j)) := fun x => by unfold selL; rw [dirL_shift, dirL_filter]
  have h3 : (dirL d (e.ls.filter (inR i j))).flatMap (selL d i j) = (dirL d e.ls).flatMap (selL d i j) := by
    rw [← dirL_filter, flat_filter (fun x hx => sel_none hx)]
  rw [h1, h3, show selL d i j = fun x => dirL d ((shiftP x.2.1 (pairs (rwsOf x.2.2))).filter (inS i j)) from funext h2, dirL_flat, ← filter_flat, run_pairs (node_run H).1, hf, shiftP_zero, hL, rwsOf_rws]

end Go.Proofs.YtkgakgceamafcaaGreat
