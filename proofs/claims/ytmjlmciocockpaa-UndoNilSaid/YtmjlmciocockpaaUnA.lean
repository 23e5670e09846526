/-
  No tree of states: what each call of undo tells; the keys of no map, in order.
-/
import Derived.Test.YtmjlmciocockpaaLfG
import Derived.Test.YtmjlmciocockpaaLfI
namespace Go.Proofs.Ytmjlmciocockpaa
open Go Go.RowKit Go.Shelf
set_option linter.unusedVariables false
attribute [local go_sem] Oper.semAt_some

theorem mkeys_call (w : World) (mv : Option Nat) : Calls Try.prog 28 #[.map mv] w fun e w' => e = .returned (.func (.func 41) #[] #[pbox w.heap.size]) ∧ w' = w.alloc (.cells #[.map mv] 47) := by
  go_enter Try.func28, Try.ntmps28
  go_wp2_with fail
  go_ret
  exact ⟨rfl, rfl⟩

theorem run_range_nomap {P : Program} (w : World) (t k e : TypeId) (h : P.underlying t = some (.map k e)) : (Instr.range t (.map none)).run P w = .ok (.pointer (some ⟨w.heap.size, 0, none⟩)) (w.alloc (.mapIter none 0 #[] 0)) := by
  simp [Instr.range, run_underlying h]
theorem run_next_nomap {P : Program} (w : World) (k : Nat) (t : TypeId) (h : w.heap[k]? = some (.mapIter none 0 #[] 0)) : (Instr.next (.pointer (some ⟨k, 0, none⟩)) false t).run P w = .ok (.tuple #[.bool false]) w := by
  simp [Instr.next, getObj, Sem.run, h]

set_option maxRecDepth 100000 in
set_option maxHeartbeats 2000000 in
theorem mk_iter_nil (n n₀ Bs : Nat) {w : World} (hB : Bs < w.heap.size) (hn : n₀ ≤ w.heap.size) (hc : w.cell? ⟨Bs, 0, none⟩ = some (.map none)) :
    Iter Fence.wide n Try.prog 41 #[.pointer (some ⟨Bs, 0, none⟩)] encI n₀ (fun ys => ys = []) (fun pre => pre <+: []) (fun pre x => ([] : List Int)[pre.length]? = some x) (fun _ => False) w := fun l J Jx W hW hJ hJx hY h0 => by
  have hc' := (hW.cell (p := ⟨Bs, 0, none⟩) hB).trans hc
  have hr := run_range_nomap (P := Try.prog) W 47 3 51 Try.underlying47
  have hx : ∀ ty, (Instr.next (.pointer (some ⟨W.heap.size, 0, none⟩)) false ty).run Try.prog (W.alloc (.mapIter none 0 #[] 0)) = .ok (.tuple #[.bool false]) (W.alloc (.mapIter none 0 #[] 0)) := fun ty => run_next_nomap _ _ ty (World.alloc_heap_new _ _)
  have h1 := hJ.below h0 (t_al W (.mapIter none 0 #[] 0))
  have HJ := Lib.hid h1
  clear hc h0 h1
  refine callsIn_of_wp Try.func41 rfl trivial ?_ rfl
  simp only [Try.ntmps41, List.size_toArray, List.length_cons, List.length_nil, Nat.reduceAdd, Nat.reduceSub, Array.replicate_succ, Array.replicate_zero, List.push_toArray, List.append_toArray, List.nil_append, List.cons_append]
  gi_wp2
  refine wpIn_loop_rounds 1 ?_
  rw [roundsIn_succ]
  gi_wp2
  go_end0
  exact ⟨⟨_, rfl⟩, .inl ⟨_, _, rfl, HJ.out⟩⟩

theorem has_nil (w : World) : Calls Try.prog 18 #[.pointer none] w fun e w' => e = .returned (pbox w.heap.size) ∧ w' = w.alloc (.cells #[.map none, .pointer none, .int .i64 0, .int .i64 0] 50) := by
  go_enter Try.func18, Try.ntmps18
  go_wp2_with fail
  go_ret
  exact ⟨rfl, rfl⟩
/-- The states of none, as they lie. -/
theorem no_cells (w : World) : (w.alloc (.cells #[.map none, .pointer none, .int .i64 0, .int .i64 0] 50)).cell? ⟨w.heap.size, 0, none⟩ = some (.map none) ∧ (w.alloc (.cells #[.map none, .pointer none, .int .i64 0, .int .i64 0] 50)).cell? ⟨w.heap.size, 2, none⟩ = some (.int .i64 0) := by
  exact ⟨by rw [cell_at (heap_alloc_new _ _)]; rfl, by rw [cell_at (heap_alloc_new _ _)]; rfl⟩
theorem here_nil (w : World) : Calls Try.prog 12 #[.pointer none] w fun e w' => e = .returned (.int .i64 0) ∧ Below w.heap.size w w' := by
  obtain ⟨c0, c2⟩ := no_cells w
  go_enter Try.func12, Try.ntmps12
  go_wp2_with fail
  refine (has_nil w).mono ?_; rintro e w1 ⟨rfl, rfl⟩
  go_wp2_with fail
  go_ret
  exact ⟨rfl, t_al _ _⟩
theorem len_nomap (w : World) (ty : TypeId) : (Builtin.len_ #[47] ty #[.map none]).run Try.prog w = .ok (.int .i64 0) w := by
  simp [Builtin.len_, run_underlying Try.underlying47, goInt]
theorem zeroS (w : World) : (zeroValue 51).run Try.prog w = .ok (.pointer none) w := by kernel_rfl
theorem look_nomap (w : World) {x : Int} (hx : Wf x) : (Instr.lookup 47 (.map none) (.int .i64 x) true).run Try.prog w = .ok (.tuple #[.pointer none, .bool false]) w := by
  have := Maps.look_nil (t := 47) (w := w) true lawI Try.underlying47 (zeroS w) (keyI hx)
  simpa using this
theorem wf0 : Wf 0 := by unfold Wf; decide
theorem len_nilt (w : World) : Calls Try.prog 13 #[.pointer none] w fun e w' => e = .returned (.int .i64 0) ∧ Below w.heap.size w w' := by
  obtain ⟨c0, c2⟩ := no_cells w
  have hl := len_nomap
  go_enter Try.func13, Try.ntmps13
  go_wp2_with fail
  refine (has_nil w).mono ?_; rintro e w1 ⟨rfl, rfl⟩
  go_wp2_with fail
  go_ret
  exact ⟨rfl, t_al _ _⟩

theorem parent_nil (w : World) {x : Int} (hx : Wf x) : Calls Try.prog 9 #[.pointer none, .int .i64 x] w fun e w' => e = .returned (.tuple #[.int .i64 0, .bool false]) ∧ Below w.heap.size w w' := by
  obtain ⟨c0, c2⟩ := no_cells w
  have hl := fun v => look_nomap v hx
  go_enter Try.func9, Try.ntmps9
  go_wp2_with fail
  refine (has_nil w).mono ?_; rintro e w1 ⟨rfl, rfl⟩
  go_wp2_with fail
  go_ret2
  exact ⟨rfl, t_al _ _⟩
theorem next_nil (w : World) {x : Int} (hx : Wf x) : Calls Try.prog 10 #[.pointer none, .int .i64 x] w fun e w' => e = .returned (.tuple #[.int .i64 0, .bool false]) ∧ Below w.heap.size w w' := by
  obtain ⟨c0, c2⟩ := no_cells w
  have hl := fun v => look_nomap v hx
  go_enter Try.func10, Try.ntmps10
  go_wp2_with fail
  refine (has_nil w).mono ?_; rintro e w1 ⟨rfl, rfl⟩
  go_wp2_with fail
  go_ret2
  exact ⟨rfl, t_al _ _⟩
theorem up_nil (w : World) : Calls Try.prog 4 #[.pointer none] w fun e w' => e = .returned (.tuple #[.slice none 0 0, .bool false]) ∧ Below w.heap.size w w' := by
  go_enter Try.func4, Try.ntmps4
  go_wp2_with fail
  refine (here_nil w).mono ?_; rintro e w1 ⟨rfl, hb⟩; have H1 := Lib.hid hb; clear hb
  go_wp2_with fail
  refine (parent_nil w1 wf0).mono ?_; rintro e w2 ⟨rfl, hb⟩; have H2 := Lib.hid (H1.out.trans (hb.mono H1.out.size)); clear hb
  go_wp2_with fail
  go_ret2
  exact ⟨rfl, H2.out⟩
theorem down_nil (w : World) : Calls Try.prog 5 #[.pointer none] w fun e w' => e = .returned (.tuple #[.slice none 0 0, .bool false]) ∧ Below w.heap.size w w' := by
  go_enter Try.func5, Try.ntmps5
  go_wp2_with fail
  refine (here_nil w).mono ?_; rintro e w1 ⟨rfl, hb⟩; have H1 := Lib.hid hb; clear hb
  go_wp2_with fail
  refine (next_nil w1 wf0).mono ?_; rintro e w2 ⟨rfl, hb⟩; have H2 := Lib.hid (H1.out.trans (hb.mono H1.out.size)); clear hb
  go_wp2_with fail
  go_ret2
  exact ⟨rfl, H2.out⟩
theorem go_nil (w : World) (x : Int) : Calls Try.prog 6 #[.pointer none, .int .i64 x] w fun e w' => e = .returned (.tuple #[.slice none 0 0, .int .i64 2]) ∧ Below w.heap.size w w' := by
  obtain ⟨c0, c2⟩ := no_cells w
  have hl := len_nomap
  go_enter Try.func6, Try.ntmps6
  go_wp2_with fail
  refine (has_nil w).mono ?_; rintro e w1 ⟨rfl, rfl⟩
  go_wp2_with fail
  go_ret2
  exact ⟨rfl, ((Below.refl _ w).alloc (Nat.le_refl _) _).alloc (by simp) _⟩
theorem add_nil (w : World) (v : Value) : Calls Try.prog 11 #[.pointer none, v] w fun e w' => e = .returned (.int .i64 0) ∧ Below w.heap.size w w' := by
  obtain ⟨c0, c2⟩ := no_cells w
  have hl := len_nomap
  go_enter Try.func11, Try.ntmps11
  go_wp2_with fail
  refine (has_nil w).mono ?_; rintro e w1 ⟨rfl, rfl⟩
  go_wp2_with fail
  go_ret
  exact ⟨rfl, t_al _ _⟩

set_option maxRecDepth 100000 in
set_option maxHeartbeats 2000000 in
/-- slices.Sorted of any iterator over numbers. -/
theorem sortedI_of {w : World} {gf : Nat} {lb : Array Value} {l : List Int} (hl : l.length ≤ 1000000) (eg : ∀ args w, (callFunc gf args).run Try.prog w = .ok (.enter gf args) w)
    (hseq : ∀ k w', Below w.heap.size w w' → Iter Fence.wide k Try.prog gf lb encI w.heap.size (fun ys => ys = l) (fun pre => pre <+: l) (fun pre x => l[pre.length]? = some x) (fun _ => False) w') :
    Calls Try.prog 27 #[.func (.func gf) #[] lb] w fun e w' => ∃ a' c', e = .returned (.slice a' l.length c') ∧ w'.ownsRow w.heap.size 3 1 (.slice a' l.length c') l.length (nums (srt l)) ∧ Below w.heap.size w w' := by
  have HC := Lib.hid (collect_of 0 hl eg hseq)
  clear hseq eg
  go_enter Try.func27, Try.ntmps27
  go_wp2_with fail
  refine HC.out.mono ?_; rintro e w1 ⟨a1, c1, rfl, ho, hb1⟩
  have HBL := Lib.hid hb1
  rcases ho.2 with ⟨h1, h2⟩ | ⟨g, cap, cur, h1, hB, hg, r1, r2, r3, r4⟩
  · have hle : l = [] := List.eq_nil_of_length_eq_zero h2
    subst hle
    simp only [Value.slice.injEq] at h1
    obtain ⟨rfl, _, rfl⟩ := h1
    have HS := Lib.hid (Try.slices_Sort_int_none none 0 w1)
    clear ho hb1 HC
    go_wp2_with fail
    refine HS.out.mono ?_; rintro e w2 ⟨rfl, rfl⟩
    go_wp2_with fail
    go_ret
    exact ⟨none, 0, rfl, by have := t_nil w2 w.heap.size 3 1; simpa [srt, nums] using this, HBL.out⟩
  · simp only [Value.slice.injEq, true_and] at h1
    obtain ⟨rfl, rfl⟩ := h1
    have hH : Go.Sort.Holds (Value.int .i64) w1 g 0 l.toArray := Go.holds_of_blockI hg (by simpa [nums] using r4)
    have HS := Lib.hid (Try.slices_Sort_int g 0 c1 l w1 hH (lt_of_heap hg) (by omega))
    have HG := Lib.hid (And.intro hg (And.intro r1 (And.intro r2 (And.intro r3 hB))))
    clear ho hb1 HC hH r1 r2 r3 r4 hg hB
    go_wp2_with fail
    refine HS.out.mono ?_; rintro e w2 ⟨rfl, nn, os, rfl⟩
    have HR : Hid ((Go.Sort.grow (Go.Sort.putRow (Value.int .i64) (Go.Sort.ahead w1 nn) g 0 (srt l).toArray) os).ownsRow w.heap.size 3 1 (.slice (some ⟨g, 0, none⟩) l.length c1) l.length (nums (srt l)) ∧ Below w.heap.size w (Go.Sort.grow (Go.Sort.putRow (Value.int .i64) (Go.Sort.ahead w1 nn) g 0 (srt l).toArray) os)) := Lib.hid (by
      obtain ⟨hg, r1, r2, r3, hB⟩ := HG.out
      refine ⟨Go.ownsRow_sortedI (by simp [srt]) (by omega) hg r1 r2 r3, HBL.out.grown (Go.grownBy_sortedI _) ?_ (fun j hj => by cases hj; omega)⟩
      have := HBL.out.size; omega)
    unfold srt at HR
    clear HS
    go_wp2_with fail
    go_ret
    exact ⟨_, _, rfl, HR.out.1, HR.out.2⟩
theorem numbers_nil (w : World) : Calls Try.prog 14 #[.pointer none] w fun e w' => ∃ a c, e = .returned (.slice a 0 c) ∧ Below w.heap.size w w' := by
  obtain ⟨c0, c2⟩ := no_cells w
  go_enter Try.func14, Try.ntmps14
  go_wp2_with fail
  refine (has_nil w).mono ?_; rintro e w1 ⟨rfl, rfl⟩
  obtain ⟨w1, hw1⟩ : ∃ w1, w.alloc (.cells #[.map none, .pointer none, .int .i64 0, .int .i64 0] 50) = w1 := ⟨_, rfl⟩
  have h1 : Below w.heap.size w w1 := by rw [← hw1]; exact t_al _ _
  rw [hw1] at c0 c2 ⊢
  have H1 := Lib.hid h1
  clear hw1 h1
  go_wp2_with fail
  refine (mkeys_call w1 none).mono ?_; rintro e w2 ⟨rfl, rfl⟩
  have HS := Lib.hid (sortedI_of (w := w1.alloc (.cells #[.map none] 47)) (l := []) (by decide) (enters_of Try.func41 (by kernel_rfl) rfl) (lb := #[pbox w1.heap.size]) fun k w' hb =>
    mk_iter_nil k _ w1.heap.size (w := w') (by have := hb.size; simp at this; omega) hb.size ((hb.cell (p := ⟨w1.heap.size, 0, none⟩) (by simp)).trans (by rw [cell_at (heap_alloc_new _ _)]; rfl)))
  go_wp2_with fail
  refine HS.out.mono ?_; rintro e w3 ⟨a, c, rfl, _, hb⟩
  have H3 := Lib.hid ((H1.out.alloc H1.out.size _).trans (hb.mono (by have := H1.out.size; simp; omega)))
  clear hb
  go_wp2_with fail
  go_ret
  exact ⟨_, _, rfl, H3.out⟩

theorem index_none (a : Option Addr) (c : Nat) (x : Int) (w : World) : Calls Try.prog 22 #[.slice a 0 c, .int .i64 x] w fun e w' => e = .returned (.int .i64 (-1)) ∧ Below w.heap.size w w' := by
  go_enter Try.func22, Try.ntmps22
  go_wp2_with fail
  refine wp_loop_rounds 1 ?_
  rw [rounds_succ]
  go_wp2_with fail
  go_ret
  exact ⟨rfl, Below.refl _ _⟩
theorem beside_nil (w : World) (p : Int) (hp : p = 1 ∨ p = -1) : Calls Try.prog 23 #[.pointer none, .int .i64 p] w fun e w' => e = .returned (.tuple #[.slice none 0 0, .bool false]) ∧ Below w.heap.size w w' := by
  rcases hp with rfl | rfl
  all_goals
    go_enter Try.func23, Try.ntmps23
    go_wp2_with fail
    refine (numbers_nil w).mono ?_; rintro e w1 ⟨a, c, rfl, hb⟩; have H1 := Lib.hid hb; clear hb
    go_wp2_with fail
    refine (here_nil w1).mono ?_; rintro e w2 ⟨rfl, hb⟩; have H2 := Lib.hid (H1.out.trans (hb.mono H1.out.size)); clear hb
    go_wp2_with fail
    refine (index_none a c 0 w2).mono ?_; rintro e w3 ⟨rfl, hb⟩; have H3 := Lib.hid (H2.out.trans (hb.mono H2.out.size)); clear hb
    go_wp2_with fail
    go_ret2
    exact ⟨rfl, H3.out⟩
theorem older_nil (w : World) : Calls Try.prog 7 #[.pointer none] w fun e w' => e = .returned (.tuple #[.slice none 0 0, .bool false]) ∧ Below w.heap.size w w' := by
  go_enter Try.func7, Try.ntmps7
  go_wp2_with fail
  refine (beside_nil w (-1) (.inr rfl)).mono ?_; rintro e w1 ⟨rfl, hb⟩; have H1 := Lib.hid hb; clear hb
  go_wp2_with fail
  go_ret2
  exact ⟨rfl, H1.out⟩
theorem newer_nil (w : World) : Calls Try.prog 8 #[.pointer none] w fun e w' => e = .returned (.tuple #[.slice none 0 0, .bool false]) ∧ Below w.heap.size w w' := by
  go_enter Try.func8, Try.ntmps8
  go_wp2_with fail
  refine (beside_nil w 1 (.inl rfl)).mono ?_; rintro e w1 ⟨rfl, hb⟩; have H1 := Lib.hid hb; clear hb
  go_wp2_with fail
  go_ret2
  exact ⟨rfl, H1.out⟩

end Go.Proofs.Ytmjlmciocockpaa
