/-
  What lies beside a feed; the law's closure that takes a key, at this seat's numbers.
-/
import Derived.Test.YtjmpokgdgnjojaaDoorFeG
namespace Go.Proofs.YtjmpokgdgnjojaaDoor
open Go Go.RowKit
set_option linter.unusedVariables false

theorem own_cells {w : World} {B sz n b : Nat} {e : TypeId} {v : Value} {xs : List Value} (h : w.ownsRow B e sz v n xs) (hb : v.ownBlock = some b) : ∃ cs fr, w.heap[b]? = some (.cells cs e fr) ∧ B ≤ b := by
  rcases h.2 with ⟨h1, _⟩ | ⟨g, cap, cur, h1, hB, hg, _⟩
  · rw [h1] at hb; cases hb
  · rw [h1] at hb; cases hb; exact ⟨_, _, hg, hB⟩

theorem info_int : (Tryd.prog.info? 3).map (fun i => (i.zero, i.size, i.bytes)) = some (some (.int .i64 0), 1, 8) := by kernel_rfl
/-- A number behind others. -/
theorem app1 {w : World} {B : Nat} {v : Value} {l : List Int} (ho : w.ownsRow B 3 1 v l.length (nums l)) (hn : l.length ≤ 1000000) (x : Int) (hB : B ≤ w.heap.size) :
    ∃ a1 k1 W, (Builtin.append_ #[24, 24] 24 #[v, .slice (some ⟨w.heap.size, 0, none⟩) 1 1]).run Tryd.prog (w.alloc (.cells #[.int .i64 x] 3)) = .ok (.slice a1 (l.length + 1) k1) W ∧
      W.ownsRow B 3 1 (.slice a1 (l.length + 1) k1) (l ++ [x]).length (nums (l ++ [x])) ∧ (∀ (k : Nat) (o : Obj), w.heap[k]? = some o → v.ownBlock ≠ some k → W.heap[k]? = some o) ∧ Below B w W ∧
      (∀ b, (Value.slice a1 (l.length + 1) k1).ownBlock = some b → v.ownBlock = some b ∨ w.heap.size ≤ b) := by
  obtain ⟨i0, hi0, hz0, hz1, hz2⟩ := info_parts info_int
  have al := t_al w (.cells #[.int .i64 x] 3)
  have hc := heap_alloc_new w (.cells #[.int .i64 x] 3)
  have hz : (w.alloc (.cells #[.int .i64 x] 3)).heap.size = w.heap.size + 1 := by simp
  obtain ⟨v', W, hr, o1, g1, _, l1⟩ := run_append_own_at (P := Tryd.prog) (w.alloc (.cells #[.int .i64 x] 3)) B 24 24 3 i0 (.int .i64 0) 1 8 Tryd.underlying24 hi0 hz0 hz1 hz2 rfl (by decide) v l.length (nums l) (own_below ho al) ⟨w.heap.size, 0, none⟩ 1 1 [.int .i64 x] rfl
    (by intro j u hu; rw [Addr.add_lit, Nat.zero_add, cell_at hc]; simpa using hu) (by intro u hu; rw [List.mem_singleton.1 hu]; rfl) (by unfold maxLen; omega) (by omega) (by omega)
  generalize w.alloc (.cells #[.int .i64 x] 3) = w3 at *
  have hf : ∃ a1 k1, v' = .slice a1 (l.length + 1) k1 := by
    rcases o1.2 with ⟨h1, h2'⟩ | ⟨g, cap, cur, h1, _⟩
    · simp at h2'
    · exact ⟨_, _, h1⟩
  obtain ⟨a1, k1, rfl⟩ := hf
  refine ⟨a1, k1, W, hr, ?_, fun k o hk hne => ?_, ?_, fun b hb => ?_⟩
  · rw [List.length_append, ← nums_app]; exact o1
  · have e1 := al.block k (lt_of_heap hk)
    rw [g1.block k (by have := lt_of_heap hk; omega) (fun e => hne e.symm), e1]; exact hk
  · refine (al.mono hB).grown g1 (by omega) (fun k e => ?_)
    obtain ⟨_, _, _, hge⟩ := own_cells ho e
    exact hge
  · rcases l1 with e | e
    · exact .inl (by rw [← e]; exact hb)
    · rw [e] at hb; injection hb with hb; exact .inr (by omega)

/-- What Next may come to. -/
theorem next_cases {S : Fs} (hne : ∀ p ∈ S.ps, p ≠ []) :
    (S.ty = [] ∧ S.ps = [] ∧ nextF S = ((0, false, 4), S)) ∨ (∃ x t, S.ps = [] ∧ S.ty = x :: t ∧ nextF S = ((x, false, 0), ⟨t, [], 200⟩)) ∨ (S.ps ≠ [] ∧ nextF S = ((0, false, 12), ⟨S.ty, [], 0⟩)) ∨
      ∃ x P t, S.ps = P ++ [x :: t] ∧ nextF S = ((x, true, 0), ⟨S.ty, if t = [] then P else P ++ [t], S.fu - 1⟩) := by
  obtain ⟨ty, ps, fu⟩ := S
  simp only at hne ⊢
  rcases List.eq_nil_or_concat ps with rfl | ⟨P, l, rfl⟩
  · cases ty with
    | nil => exact .inl ⟨rfl, rfl, rfl⟩
    | cons x t => exact .inr (.inl ⟨x, t, rfl, rfl, rfl⟩)
  · rw [List.concat_eq_append] at *
    cases l with
    | nil => exact absurd rfl (hne [] (by simp))
    | cons x t =>
      have hrev : (P ++ [x :: t]).reverse = (x :: t) :: P.reverse := by simp
      unfold nextF
      simp only [hrev]
      by_cases h0 : fu = 0
      · rw [if_pos h0]; exact .inr (.inr (.inl ⟨by simp, rfl⟩))
      · rw [if_neg h0, List.reverse_reverse]; exact .inr (.inr (.inr ⟨x, P, t, rfl, rfl⟩))

end Go.Proofs.YtjmpokgdgnjojaaDoor
