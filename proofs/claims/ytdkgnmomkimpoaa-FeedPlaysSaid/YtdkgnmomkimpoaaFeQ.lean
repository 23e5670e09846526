/-
  The document's feed in memory: New, Type, Push, at this seat's numbers.
-/
import Derived.Test.YtdkgnmomkimpoaaFeI
import Derived.Test.YtdkgnmomkimpoaaFeO
import Derived.ArgAppend
namespace Go.Proofs.Ytdkgnmomkimpoaa
open Go Go.RowKit
set_option linter.unusedVariables false

/-- Numbers of one's own in a part of a block. -/
def OwnO (w : World) (B : Nat) (v : Value) (l : List Int) : Prop :=
  (v = .slice none 0 0 ∧ l = []) ∨ ∃ g o c cur, v = .slice (some ⟨g, o, none⟩) l.length c ∧ B ≤ g ∧ w.heap[g]? = some (.cells cur 3 (0, 0)) ∧ l.length ≤ c ∧ c ≤ maxLen ∧ o + c ≤ cur.size ∧ (cur.toList.drop o).take l.length = nums l
theorem OwnO.form {w : World} {B : Nat} {v : Value} {l : List Int} (h : OwnO w B v l) : ∃ a k, v = .slice a l.length k := by
  rcases h with ⟨h1, h2⟩ | ⟨g, o, c, cur, h1, _⟩
  · exact ⟨none, 0, by rw [h1, h2]; rfl⟩
  · exact ⟨_, _, h1⟩
theorem OwnO.cells {w : World} {B b : Nat} {v : Value} {l : List Int} (h : OwnO w B v l) (hb : v.ownBlock = some b) : ∃ cs fr, w.heap[b]? = some (.cells cs 3 fr) ∧ B ≤ b := by
  rcases h with ⟨h1, h2⟩ | ⟨g, o, c, cur, h1, hB, hg, _⟩
  · rw [h1] at hb; cases hb
  · rw [h1] at hb; cases hb; exact ⟨_, _, hg, hB⟩
theorem OwnO.same {w w' : World} {B : Nat} {v : Value} {l : List Int} (h : OwnO w B v l) (hs : ∀ b, v.ownBlock = some b → w'.heap[b]? = w.heap[b]?) : OwnO w' B v l := by
  rcases h with h1 | ⟨g, o, c, cur, h1, hB, hg, h2⟩
  · exact .inl h1
  · exact .inr ⟨g, o, c, cur, h1, hB, (hs g (by rw [h1]; rfl)).trans hg, h2⟩
theorem OwnO.at_ {w : World} {B k : Nat} {v : Value} {l : List Int} {x : Int} (h : OwnO w B v l) (hx : l[k]? = some x) : ∃ g o c, v = .slice (some ⟨g, o, none⟩) l.length c ∧ w.cell? ⟨g, o + k, none⟩ = some (.int .i64 x) ∧ l.length ≤ c ∧ c ≤ maxLen := by
  have hk := (List.getElem?_eq_some_iff.1 hx).1
  rcases h with ⟨h1, h2⟩ | ⟨g, o, c, cur, h1, hB, hg, h2, h3, h4, h5⟩
  · rw [h2] at hx; simp at hx
  · refine ⟨g, o, c, h1, ?_, h2, h3⟩
    rw [cell_at hg, ← Array.getElem?_toList]
    have e := nums_at hx
    rw [← h5, List.getElem?_take, if_pos hk, List.getElem?_drop] at e
    exact e
theorem OwnO.of_own {w : World} {B : Nat} {a : Option Addr} {k : Nat} {l : List Int} (h : w.ownsRow B 3 1 (.slice a l.length k) l.length (nums l)) : OwnO w B (.slice a l.length k) l := by
  rcases h.2 with ⟨h1, h2⟩ | ⟨g, cap, cur, h1, hB, hg, h2, h3, h4, h5⟩
  · exact .inl ⟨h1, List.eq_nil_of_length_eq_zero h2⟩
  · exact .inr ⟨g, 0, cap, cur, h1, hB, hg, h2, h3, by omega, by rw [List.drop_zero]; simpa using h5⟩
/-- The first number goes. -/
theorem OwnO.tail {w : World} {B g o c : Nat} {x : Int} {t : List Int} (h : OwnO w B (.slice (some ⟨g, o, none⟩) (x :: t).length c) (x :: t)) : OwnO w B (.slice (some ⟨g, if c = 1 then o else o + 1, none⟩) t.length (c - 1)) t := by
  rcases h with ⟨h1, _⟩ | ⟨g', o', c', cur, h1, hB, hg, h2, h3, h4, h5⟩
  · cases h1
  · cases h1
    rw [List.length_cons] at h2 h5
    refine .inr ⟨g, _, _, cur, rfl, hB, hg, by omega, by omega, by split <;> omega, ?_⟩
    by_cases hc : c = 1
    · have ht : t = [] := List.eq_nil_of_length_eq_zero (by omega)
      subst ht; rfl
    · rw [if_neg hc]
      have e := congrArg List.tail h5
      rw [← List.drop_one, List.drop_take, List.drop_drop] at e
      simpa [nums] using e
/-- A number behind others. -/
theorem OwnO.app {w : World} {B : Nat} {v : Value} {l : List Int} (ho : OwnO w B v l) (hn : l.length ≤ 1000000) (x : Int) (hB : B ≤ w.heap.size) :
    ∃ a1 k1 W, (Builtin.append_ #[27, 27] 27 #[v, .slice (some ⟨w.heap.size, 0, none⟩) 1 1]).run Try.prog (w.alloc (.cells #[.int .i64 x] 3)) = .ok (.slice a1 (l.length + 1) k1) W ∧
      OwnO W B (.slice a1 (l.length + 1) k1) (l ++ [x]) ∧ (∀ (k : Nat) (o : Obj), w.heap[k]? = some o → v.ownBlock ≠ some k → W.heap[k]? = some o) ∧ Below B w W ∧
      (∀ b, (Value.slice a1 (l.length + 1) k1).ownBlock = some b → v.ownBlock = some b ∨ w.heap.size ≤ b) := by
  rcases ho with ⟨rfl, rfl⟩ | ⟨g, o, c, cur, rfl, hBg, hg, h2, h3, h4, h5⟩
  · obtain ⟨a1, k1, W, hr, o1, kp, bW, hl⟩ := app1 (l := []) (t_nil w B 3 1) (by simp) x hB
    exact ⟨a1, k1, W, hr, OwnO.of_own (l := [x]) o1, kp, bW, hl⟩
  · obtain ⟨i0, hi0, hz0, hz1, hz2⟩ := info_parts info_int
    have al := t_al w (.cells #[.int .i64 x] 3)
    have hc := heap_alloc_new w (.cells #[.int .i64 x] 3)
    have hz : (w.alloc (.cells #[.int .i64 x] 3)).heap.size = w.heap.size + 1 := by simp
    have hgl := lt_of_heap hg
    have hg3 := (al.block g hgl).trans hg
    have hnews : ∀ j u, [Value.int .i64 x][j]? = some u → (w.alloc (.cells #[.int .i64 x] 3)).cell? ((⟨w.heap.size, 0, none⟩ : Addr).add j) = some u := by intro j u hu; rw [Addr.add_lit, Nat.zero_add, cell_at hc]; simpa using hu
    have hone : ∀ u ∈ [Value.int .i64 x], u.oneCell' = true := by intro u hu; rw [List.mem_singleton.1 hu]; rfl
    generalize hw3 : w.alloc (.cells #[.int .i64 x] 3) = w3 at *
    by_cases hroom : l.length + 1 ≤ c
    · have hlt : o + l.length < cur.size := by omega
      have hr := run_append_room_cells (P := Try.prog) w3 27 27 3 i0 Try.underlying27 hi0 g o l.length c ⟨w.heap.size, 0, none⟩ 1 1 [.int .i64 x] (by rw [hz1]; rfl) hnews hone hroom
        (by intro j hj; have : j = 0 := by simpa using hj
            subst this; rw [hz1, cell_at hg3]; simpa using hlt) (by intro j hj; exact unfrozen hg3 _)
      rw [hz1, Nat.mul_one] at hr
      have eW : w3.setCells g (o + l.length) [.int .i64 x] = w3.setCell ⟨g, o + l.length, none⟩ (.int .i64 x) := rfl
      rw [eW] at hr
      have hgW := heap_set_at (o := o + l.length) (u := Value.int .i64 x) hg3
      refine ⟨_, _, _, hr, .inr ⟨g, o, c, _, by rw [List.length_append]; rfl, hBg, hgW, by rw [List.length_append]; exact hroom, h3, by rw [Array.size_setIfInBounds]; exact h4, ?_⟩, fun k oo hk hne => ?_, ?_, fun b hb => .inl hb⟩
      · rw [← nums_app, ← h5, List.length_append]
        show ((cur.setIfInBounds (o + l.length) (.int .i64 x)).toList.drop o).take (l.length + 1) = _
        rw [Array.toList_setIfInBounds, List.take_add_one, List.getElem?_drop, List.getElem?_set_self (by simpa using hlt)]
        have : ((cur.toList.set (o + l.length) (Value.int .i64 x)).drop o).take l.length = (cur.toList.drop o).take l.length := by
          apply List.ext_getElem?
          intro i
          rw [List.getElem?_take, List.getElem?_take]
          split
          · rw [List.getElem?_drop, List.getElem?_drop, List.getElem?_set_ne (by omega)]
          · rfl
        rw [this]; rfl
      · rw [heap_set_other (fun e => hne (by rw [e]; rfl)), al.block k (lt_of_heap hk)]; exact hk
      · exact (al.mono hB).setCell (p := ⟨g, _, none⟩) hBg _
    · have holds : ∀ j u, (nums l)[j]? = some u → w3.cell? ((⟨g, o, none⟩ : Addr).add j) = some u := by
        intro j u hj
        rw [Addr.add_lit, cell_at hg3, ← Array.getElem?_toList]
        have hjl : j < l.length := by have := (List.getElem?_eq_some_iff.1 hj).1; rwa [nums_len] at this
        rw [← h5, List.getElem?_take, if_pos hjl, List.getElem?_drop] at hj
        exact hj
      obtain ⟨v', W, hr, o1, g1⟩ := run_append_arg_grows (P := Try.prog) w3 27 27 3 i0 (.int .i64 0) 1 8 Try.underlying27 hi0 hz0 hz1 hz2 rfl (by decide) ⟨g, o, none⟩ l.length c (nums l) (by rw [nums_len, Nat.mul_one]) holds ⟨w.heap.size, 0, none⟩ 1 1 [.int .i64 x] rfl hnews (by omega) (by unfold maxLen; omega) (by omega)
      have hf : ∃ a1 k1, v' = .slice a1 (l.length + 1) k1 := by
        rcases o1.2 with ⟨h1, h2'⟩ | ⟨g, cap, cur, h1, _⟩
        · simp at h2'
        · exact ⟨_, _, h1⟩
      obtain ⟨a1, k1, rfl⟩ := hf
      have o2 : W.ownsRow B 3 1 (.slice a1 (l.length + 1) k1) (l ++ [x]).length (nums (l ++ [x])) := by
        rw [List.length_append, ← nums_app]
        obtain ⟨q1, q2⟩ := o1
        refine ⟨q1, ?_⟩
        rcases q2 with h1 | ⟨g', cap, cur', h1, hg', h2'⟩
        · exact .inl h1
        · exact .inr ⟨g', cap, cur', h1, by omega, h2'⟩
      have e1 : (l ++ [x]).length = l.length + 1 := by simp
      refine ⟨a1, k1, W, hr, ?_, fun k oo hk hne => ?_, ?_, fun b hb => ?_⟩
      · rw [← e1] at o2 ⊢; exact OwnO.of_own o2
      · rw [g1.block k (by have := lt_of_heap hk; omega) (by simp), al.block k (lt_of_heap hk)]; exact hk
      · exact (al.mono hB).grown g1 (by omega) (fun k e => by cases e)
      · obtain ⟨_, _, _, hge⟩ := own_cells o1 hb
        exact .inr (by omega)
end Go.Proofs.Ytdkgnmomkimpoaa
