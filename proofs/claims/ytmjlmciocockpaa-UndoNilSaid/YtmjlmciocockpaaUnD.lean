/-
  Turn of a delta of no edits; rise and Up where the state was made by such a one.
-/
import Derived.Test.YtmjlmciocockpaaUnC
namespace Go.Proofs.Ytmjlmciocockpaa
open Go Go.RowKit Go.Shelf
set_option linter.unusedVariables false
attribute [local go_sem] Oper.semAt_some

abbrev encE : Empty → Array Value := fun x => x.elim
theorem tbk_call (w : World) (v : Value) (a : Option Addr) (n c : Nat) (hv : v = .slice a n c) : Calls Try.prog 43 #[v] w fun e w' => e = .returned (.func (.func 52) #[] #[pbox w.heap.size]) ∧ w' = w.alloc (.cells #[v] 24) := by
  subst hv
  go_enter Try.func43, Try.ntmps43
  go_wp2_with fail
  go_ret
  exact ⟨rfl, rfl⟩
set_option maxRecDepth 100000 in
set_option maxHeartbeats 2000000 in
theorem tbk_iter (n n₀ Bs : Nat) {w : World} (hB : Bs < w.heap.size) (hn : n₀ ≤ w.heap.size) (hc : w.cell? ⟨Bs, 0, none⟩ = some (.slice none 0 0)) :
    Iter Fence.wide n Try.prog 52 #[.pointer (some ⟨Bs, 0, none⟩)] encE n₀ (fun ys => ys = []) (fun pre => False) (fun pre x => False) (fun _ => False) w := fun l J Jx W hW hJ hJx hY h0 => by
  have hc' := (hW.cell (p := ⟨Bs, 0, none⟩) hB).trans hc
  have HJ := Lib.hid h0
  clear hc h0
  refine callsIn_of_wp Try.func52 rfl trivial ?_ rfl
  simp only [Try.ntmps52, List.size_toArray, List.length_cons, List.length_nil, Nat.reduceAdd, Nat.reduceSub, Array.replicate_succ, Array.replicate_zero, List.push_toArray, List.append_toArray, List.nil_append, List.cons_append]
  gi_wp2
  refine wpIn_loop_rounds 1 ?_
  rw [roundsIn_succ]
  gi_wp2
  go_end0
  exact ⟨⟨_, rfl⟩, .inl ⟨_, _, rfl, HJ.out⟩⟩

def TuI (w : World) (q : Nat) (s : List Empty) (E : Bls) (W : World) : Prop := (∀ k, E k → w.heap.size ≤ k ∧ k ≠ q) ∧ Below w.heap.size w W ∧ W.heap[q]? = some (.cells #[.slice none 0 0] 24 (0, 0))
theorem TuI.firm {w : World} {q : Nat} : Firm (TuI w q) := by
  rintro s D D' W W' ⟨h1, h2, h3⟩ hm hd
  have hq := lt_of_at h3
  have hs := h2.size
  exact ⟨fun k hk => (hd k hk).elim (h1 k) (fun h => ⟨by omega, by omega⟩), ⟨hm.os.trans h2.os, hm.tape.trans h2.tape, hm.output.trans h2.output, Nat.le_trans h2.size hm.size, fun k hk => (hm.block k (by omega) (fun h => by have := (h1 k h).1; omega)).trans (h2.block k hk)⟩, (hm.block q hq (fun h => (h1 q h).2 rfl)).trans h3⟩

set_option maxRecDepth 100000 in
set_option maxHeartbeats 4000000 in
theorem turn_nil (w : World) : Calls Try.prog 30 #[.slice none 0 0] w fun e w' => e = .returned (.slice none 0 0) ∧ Below w.heap.size w w' := by
  refine (callsIn_wide (n := 0)).1 ?_
  have hh := World.alloc_heap_new w (Obj.cells #[.slice none 0 0] 24)
  have al := t_al w (Obj.cells #[.slice none 0 0] 24)
  obtain ⟨w1, hw1⟩ : ∃ w1, w.alloc (Obj.cells #[.slice none 0 0] 24) = w1 := ⟨_, rfl⟩
  have hsz : (w.alloc (Obj.cells #[.slice none 0 0] 24)).heap.size = w.heap.size + 1 := by simp
  rw [hw1] at hh al hsz
  have HB := Lib.hid ((callsIn_wide (n := 0 - 1)).2 (tbk_call w1 (.slice none 0 0) none 0 0 rfl))
  refine callsIn_of_wp_marks Try.func30 rfl trivial ?_ rfl
  simp only [Try.ntmps30, List.size_toArray, List.length_cons, List.length_nil, Nat.reduceAdd, Nat.reduceSub, Array.replicate_succ, Array.replicate_zero, List.push_toArray, List.append_toArray, List.nil_append, List.cons_append]
  gi_wp2
  refine ⟨trivial, rfl, (CallsIn.mono HB.out ?_)⟩
  rintro e w2 ⟨rfl, rfl⟩
  have al2 := t_al w1 (Obj.cells #[.slice none 0 0] 24)
  have hb2 : Below w.heap.size w (w1.alloc (Obj.cells #[.slice none 0 0] 24)) := al.trans (al2.mono (by omega))
  have hq2 : (w1.alloc (Obj.cells #[.slice none 0 0] 24)).heap[w.heap.size]? = some (.cells #[.slice none 0 0] 24 (0, 0)) := (al2.block _ (by omega)).trans hh
  have hc2 : (w1.alloc (Obj.cells #[.slice none 0 0] 24)).cell? ⟨w1.heap.size, 0, none⟩ = some (.slice none 0 0) := by rw [cell_at (heap_alloc_new _ _)]; rfl
  have hs2 : (w1.alloc (Obj.cells #[.slice none 0 0] 24)).heap.size = w1.heap.size + 1 := by simp
  obtain ⟨w2, hw2⟩ : ∃ w2, w1.alloc (Obj.cells #[.slice none 0 0] 24) = w2 := ⟨_, rfl⟩
  rw [hw2] at hb2 hq2 hc2 hs2 ⊢
  have hc3 : w2.cell? ⟨w.heap.size + 1, 0, none⟩ = some (.slice none 0 0) := by rw [← hsz]; exact hc2
  have hs3 : w.heap.size + 1 < w2.heap.size := by omega
  clear HB hw1 hw2 al2
  gi_wp2
  refine range_outer (gf := 52) (lb := #[pbox (w.heap.size + 1)]) rfl (fun h => by simp [Fence.wide] at h) rfl trivial (enters_of Try.func52 (by kernel_rfl) rfl)
    (tbk_iter (0 - 1) w2.heap.size (w.heap.size + 1) (w := w2) hs3 (Nat.le_refl _) hc3) (Nat.le_refl _) (Below.refl _ _) (fun k h => h.elim) (fun x => x.elim)
    (TuI w w.heap.size) (fun _ _ _ _ => False) TuI.firm (fun _ _ _ _ _ _ h _ _ => h) ⟨fun k h => h.elim, hb2, hq2⟩
    (fun x a' E W' => True) (fun x a' E V l r o h _ => trivial) ?assign ?body ?done ?stop
  case assign => intro l' pre x; exact x.elim
  case body => intro lo pre x; exact x.elim
  case done =>
    rintro d ys E W3 hd hEd rfl ⟨m1, m2, m3⟩ hK
    have b0 : W3.cell? ⟨w.heap.size, 0, none⟩ = some (.slice none 0 0) := (cell_at m3 0).trans rfl
    have HM := Lib.hid (And.intro m1 m2)
    clear m1 m2 m3
    gi_wp2
    refine ⟨by simp, .inl ⟨_, _, rfl, run_takeDeferred hK, ?_⟩⟩
    refine ⟨_, results_tmp rfl _ _ _, rfl, HM.out.2.grown (grownBy_putObj' W3 d _) HM.out.2.size (fun k e => by cases e; exact (HM.out.1 d hEd).1)⟩
  case stop =>
    rintro d c pre E W3 hd hEd hSp h hK
    exact h.elim

theorem rise_of {w : World} {B T s m q : Nat} {t : Qt} {R : List Int} {D : DataW Unit} {L : List Sn} {last : Int} {x : Sn} (h : Us w B T s m q t R D L x.n last) (hx : x ∈ L) (hd : x.d = .slice none 0 0) (hB : B ≤ w.heap.size) :
    Calls Try.prog 16 #[pbox s] w fun e w' => e = .returned (.slice none 0 0) ∧ Us w' B T s m q t R D L x.up last ∧ Below B w w' := by
  have h1 := h.drew
  obtain ⟨ct, c0, c1, c2, c3, f2, f3⟩ := h1.cells
  have l1 := (h1.look hx).1
  obtain ⟨s0, s1, s2, s3⟩ := h1.state hx
  have h2 := (h1.put x.up).1
  have b2 : Below B w (w.drew.setCell ⟨s, 2, none⟩ (.int .i64 x.up)) := (Below.refl B w).drew.setCell (p := ⟨s, 2, none⟩) h.lo.2.1 _
  obtain ⟨w2, hw2⟩ : ∃ w2, w.drew.setCell ⟨s, 2, none⟩ (.int .i64 x.up) = w2 := ⟨_, rfl⟩
  rw [hw2] at h2 b2
  have s5 := (h2.state hx).2.2.1
  have s4 := (h.drew.state hx).1
  rw [hd] at s5
  have HF := Lib.hid (And.intro h2 b2)
  have HT := Lib.hid (turn_nil w2)
  clear h2 b2 h1 h hx hd ct c1 c3 f3 s1 s2 s3
  obtain ⟨xn, xu, xx, xb, xd⟩ := x
  simp only at *
  go_enter Try.func16, Try.ntmps16
  go_wp2_with fail
  go_big_region
  all_goals
    go_wp2_with fail
    refine HT.out.mono ?_; rintro e w3 ⟨rfl, hb⟩
    have HB := Lib.hid hb
    clear hb
    go_wp2_with fail
    go_ret
    exact ⟨rfl, HF.out.1.below HB.out, HF.out.2.trans (HB.out.mono (Nat.le_trans hB HF.out.2.size))⟩

end Go.Proofs.Ytmjlmciocockpaa
