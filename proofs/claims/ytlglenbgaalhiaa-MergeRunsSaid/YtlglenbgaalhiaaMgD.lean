/-
  The contracts of Push and Pop of waiting rows, at this seat's numbers.
-/
import Derived.Test.YtlglenbgaalhiaaMgC
import Derived.Deep.AppendLies
namespace Go.Proofs.Ytlglenbgaalhiaa
open Go Go.RowKit
set_option linter.unusedVariables false

theorem info_rest : (Try.prog.info? 47).map (fun i => (i.zero, i.size, i.bytes)) = some (some (.agg #[.slice none 0 0, .int .i64 0]), 2, 32) := by kernel_rfl

theorem own_slice {w : World} {B sz n : Nat} {e : TypeId} {v : Value} {xs : List Value} (h : w.ownsRow B e sz v n xs) : ∃ a c, v = .slice a n c := by
  rcases h.2 with ⟨h1, h2⟩ | ⟨g, cap, cur, h1, _⟩
  · exact ⟨none, 0, by rw [h1, h2]⟩
  · exact ⟨_, _, h1⟩
def entV (e : Ent) : Value := .agg #[.slice e.a e.l.length e.c, .int .i64 e.num]

set_option maxRecDepth 100000 in
set_option maxHeartbeats 8000000 in
theorem wpush_of {w : World} {B p : Nat} {fv : Value} {R : List Ent} (h : Hp w B p fv R) (hBw : B ≤ w.heap.size) (hn : R.length ≤ 1000000) (e : Ent) :
    Calls Try.prog 54 #[.pointer (some ⟨p, 0, none⟩), .iface 47 (entV e)] w fun e' w' => e' = .returned (.tuple #[]) ∧ Hp w' B p fv (R ++ [e]) ∧ Tn B w w' := by
  obtain ⟨i0, hi0, hz0, hz1, hz2⟩ := info_parts info_rest
  obtain ⟨⟨a, c, h1, h2⟩, h3⟩ := h
  have c0 : w.cell? ⟨p, 0, none⟩ = some (.slice a R.length c) := by rw [cell_at h1]; rfl
  have hp := lt_of_heap h1
  have f0 := unfrozen h1 0
  unfold entV
  generalize hN : R.length = n at *
  have hta : ∀ w' : World, (Instr.typeAssert (.iface 47 (.agg #[.slice e.a e.l.length e.c, .int .i64 e.num])) 20 47 false).run Try.prog w' = .ok (.agg #[.slice e.a e.l.length e.c, .int .i64 e.num]) w' := fun w' => by kernel_rfl
  go_enter Try.func54, Try.ntmps54
  go_wp2_with fail
  have hA : (w.alloc (.cells #[.slice e.a e.l.length e.c, .int .i64 e.num] 47)).drew.heap[w.heap.size]? = some (.cells #[.slice e.a e.l.length e.c, .int .i64 e.num] 47 (0, 0)) := heap_alloc_new _ _
  have hPA : (w.alloc (.cells #[.slice e.a e.l.length e.c, .int .i64 e.num] 47)).drew.heap[p]? = some (.cells #[.slice a n c, fv] 44 (0, 0)) := ((t_al w _).drew.block p hp).trans h1
  have HO : Hid ((w.alloc (.cells #[.slice e.a e.l.length e.c, .int .i64 e.num] 47)).drew.ownsRow B 47 2 (.slice a n c) n (entC R)) := Lib.hid (h2.alloc _).drew
  have C1 : Hid (∀ q u, ([.slice e.a e.l.length e.c, .int .i64 e.num] : List Value)[q]? = some u → (w.alloc (.cells #[.slice e.a e.l.length e.c, .int .i64 e.num] 47)).drew.cell? (Addr.add ⟨w.heap.size, 0, none⟩ q) = some u) := by
    intro q u hq
    rw [Addr.add_lit, Nat.zero_add]
    rw [cell_at hA]
    simpa using hq
  have C2 : Hid (∀ u ∈ ([.slice e.a e.l.length e.c, .int .i64 e.num] : List Value), u.oneCell' = true) := by
    intro u hu
    simp at hu
    rcases hu with rfl | rfl <;> rfl
  have C3 : Hid (n + 1 ≤ maxLen) := by show _ ≤ _; unfold maxLen; omega
  have C4 : Hid ((n + 1) * 32 ≤ 140737488355328) := by show _ ≤ _; omega
  have C5 : Hid (B ≤ (w.alloc (.cells #[.slice e.a e.l.length e.c, .int .i64 e.num] 47)).drew.heap.size) := by show _ ≤ _; simp only [World.drew, World.size_alloc]; omega
  have HPA := Lib.hid hPA
  have TA : Hid (Tn B w (w.alloc (.cells #[.slice e.a e.l.length e.c, .int .i64 e.num] 47)).drew) := Lib.hid (Tn.of_below (t_al w _).drew hBw)
  have HNN := Lib.hid hN
  have HE : Hid (entC R ++ [.slice e.a e.l.length e.c, .int .i64 e.num] = entC (R ++ [e])) := Lib.hid (by unfold entC; rw [List.flatMap_append]; rfl)
  clear hA hPA h1 h2 hN
  go_region_law (refine step_append_lies _ rfl (.tmp 8) (.tmp 11) 42 rfl B 47 i0 (.agg #[.slice none 0 0, .int .i64 0]) 2 32 Try.underlying42 hi0 hz0 hz1 hz2 rfl (by decide) (.slice a n c) n (entC R) rfl HO.out ⟨w.heap.size, 0, none⟩ 1 1 [.slice e.a e.l.length e.c, .int .i64 e.num] rfl rfl C1.out C2.out (by decide) C3.out C4.out C5.out _ rfl ?_; intro g1 k1 w1 ho1 hg1 hat1 hlt1; have hp1 := (hg1.block p (lt_of_heap HPA.out) (fun e => own_ne HO.out HPA.out (by decide) e.symm)).trans HPA.out; have TB := Lib.hid (TA.out.trans (Tn.grown HO.out hg1 C5.out)); have c1 : w1.cell? ⟨p, 0, none⟩ = some (.slice a n c) := by { rw [cell_at hp1]; rfl }; have f1 := unfrozen hp1 0; have HP1 := Lib.hid hp1; have HO1 := Lib.hid ho1; clear hp1 ho1 hg1 hat1)
  all_goals
    go_wp2_with fail
    go_end0
    refine ⟨rfl, ⟨⟨some ⟨g1, 0, none⟩, k1, ?_, ?_⟩, h3⟩, TB.out.trans (Tn.set_wait h3 HP1.out)⟩
    · rw [heap_set_at HP1.out, List.length_append, HNN.out]; rfl
    · rw [List.length_append, HNN.out, ← HE.out]
      exact own_set HO1.out (own_ne HO1.out HP1.out (by decide))

theorem HpAt.cut {w : World} {B p : Nat} {fv : Value} {R : List Ent} {e : Ent} {g c : Nat} (h : HpAt w B p fv (R ++ [e]) g c) : HpAt (w.setCell ⟨p, 0, none⟩ (.slice (some ⟨g, 0, none⟩) R.length c)) B p fv R g c := by
  obtain ⟨hB, h1, h2, cur, h3, h4, h5⟩ := h.blk
  rw [List.length_append] at h1 h5
  have e1 : (entC (R ++ [e])).take (R.length * 2) = entC R := by
    unfold entC
    rw [List.flatMap_append, List.take_left' (by have := entC_len R; unfold entC at this; exact this)]
  refine ⟨?_, ⟨by rw [entC_len], .inr ⟨g, c, cur, rfl, hB, ?_, by omega, h2, h4, ?_⟩⟩, h.lo⟩
  · rw [heap_set_at h.box]; rfl
  · rw [heap_set_other h.ne]; exact h3
  · rw [← e1, ← h5, List.take_take]
    congr 1
    simp
theorem Tn.setBox {w : World} {B p : Nat} {fv : Value} {R : List Ent} {g c : Nat} (h : HpAt w B p fv R g c) (u : Value) : Tn B w (w.setCell ⟨p, 0, none⟩ u) := Tn.set_wait h.lo h.box

set_option maxRecDepth 100000 in
set_option maxHeartbeats 8000000 in
theorem wpop_of {w : World} {B p : Nat} {fv : Value} {R : List Ent} {e : Ent} (h : Hp w B p fv (R ++ [e])) (hBw : B ≤ w.heap.size) (hn1 : R.length ≤ 1000000) :
    Calls Try.prog 53 #[.pointer (some ⟨p, 0, none⟩)] w fun e' w' => (∃ v, e' = .returned v) ∧ Hp w' B p fv R ∧ Tn B w w' := by
  have hlen : (R ++ [e]).length = R.length + 1 := by simp
  obtain ⟨g, cc, c0, c1, hc, hcm, hp, hg, hne, hB, hfz, hes, hown, hh⟩ := h.cells (by simp)
  obtain ⟨x0, x1⟩ := hes R.length (by simp)
  have H1 : Hid (HpAt w B p fv (R ++ [e]) g cc) := Lib.hid ⟨hh, hown, h.lo⟩
  rw [hlen] at hc c0
  have HN := Lib.hid hlen
  generalize hN : R.length = n at *
  generalize (gE (R ++ [e]) n).a = ax at *
  generalize (gE (R ++ [e]) n).l.length = lx at *
  generalize (gE (R ++ [e]) n).c = cx at *
  generalize (gE (R ++ [e]) n).num = nx at *
  have e0 : (0 : Int) ≤ (n : Int) := by omega
  have e1 : (n : Int) < ((n + 1 : Nat) : Int) := by omega
  have e2 : (n : Int) ≤ (cc : Int) := by omega
  clear hes hown hh h c1 hlen
  go_enter Try.func53, Try.ntmps53
  go_wp2_with fail
  refine bodyPost_ret (v := .iface 47 (.agg #[.slice ax lx cx, .int .i64 nx])) (by simp [results, Try.results53, go_sem]) rfl ⟨⟨_, rfl⟩, ?_, ?_⟩
  · subst hN
    exact H1.out.cut.hp.below (t_al _ _)
  · exact (Tn.setBox H1.out _).trans (Tn.of_below (t_al _ _) (by rw [size_set]; exact hBw))

end Go.Proofs.Ytlglenbgaalhiaa
