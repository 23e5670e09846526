/-
  slices.Values, Collect, Sorted over numbers, at this seat's numbers.
-/
import Derived.Test.YtmjlmciocockpaaLfD
import Derived.Test.YtmjlmciocockpaaLqB
import Derived.Maps.OwnIn
import Derived.Test.YtmjlmciocockpaaShelf
import Derived.Sort.OwnSorted
import Derived.Sort.OwnSortedInts
namespace Go.Proofs.Ytmjlmciocockpaa
open Go Go.RowKit Go.Shelf
set_option linter.unusedVariables false
attribute [local go_sem] Oper.semAt_some

abbrev pbox (b : Nat) : Value := .pointer (some ⟨b, 0, none⟩)
def encI (x : Int) : Array Value := #[.int .i64 x]
theorem take_snoc {α : Type} {l : List α} {k : Nat} {x : α} (h : l[k]? = some x) : l.take k ++ [x] = l.take (k + 1) := by rw [List.take_add_one, h]; rfl
theorem c1_one (w : World) (x : Value) (t : TypeId) : ∀ q u, ([x] : List Value)[q]? = some u → (w.alloc (Obj.cells #[x] t)).cell? (Addr.add ⟨w.heap.size, 0, none⟩ q) = some u := by
  intro q u hq
  rw [Addr.add_lit, Nat.zero_add, cell_at (heap_alloc_new _ _)]
  simpa using hq
theorem c2_one (x : Value) (h : x.oneCell' = true) : ∀ u ∈ ([x] : List Value), u.oneCell' = true := by
  intro u hu
  rw [List.mem_singleton.1 hu]; exact h
theorem own_moves {W W' : World} {B s n : Nat} {e : TypeId} {v : Value} {xs : List Value} (h : W.ownsRow B e s v n xs) (hb : ∀ g, v.ownBlock = some g → W'.heap[g]? = W.heap[g]?) : W'.ownsRow B e s v n xs := by
  refine ⟨h.1, ?_⟩
  rcases h.2 with hn | ⟨g, cap, cur, he, h1, h2, rest⟩
  · exact .inl hn
  · exact .inr ⟨g, cap, cur, he, h1, (hb g (by rw [he]; rfl)).trans h2, rest⟩
theorem own_blt {W : World} {B s n g : Nat} {e : TypeId} {v : Value} {xs : List Value} (h : W.ownsRow B e s v n xs) (hg : v.ownBlock = some g) : B ≤ g ∧ g < W.heap.size := by
  rcases h.2 with ⟨hn, _⟩ | ⟨g', cap, cur, he, h1, h2, _⟩
  · rw [hn] at hg; cases hg
  · rw [he] at hg
    injection hg with hg
    subst hg
    exact ⟨h1, lt_of_at h2⟩
/-- What the loop that collects keeps: its box, and the row in it. -/
def CoI (w : World) (q : Nat) (s : List Int) (E : Bls) (W : World) : Prop :=
  ∃ (a : Option Addr) (c : Nat), (∀ k, E k → w.heap.size ≤ k ∧ k ≠ q ∧ (Value.slice a s.length c).ownBlock ≠ some k) ∧ Below w.heap.size w W ∧ W.heap[q]? = some (.cells #[.slice a s.length c] 37 (0, 0)) ∧ W.ownsRow w.heap.size 3 1 (.slice a s.length c) s.length (nums s)
theorem CoI.firm {w : World} {q : Nat} : Firm (CoI w q) := by
  rintro s D D' W W' ⟨a, c, h1, h2, h3, h4⟩ hm hd
  have hq := lt_of_at h3
  have hs := h2.size
  refine ⟨a, c, fun k hk => (hd k hk).elim (h1 k) (fun h => ⟨by omega, by omega, fun e => by have := (own_blt h4 e).2; omega⟩), ⟨hm.os.trans h2.os, hm.tape.trans h2.tape, hm.output.trans h2.output, Nat.le_trans h2.size hm.size, fun k hk => (hm.block k (by omega) (fun h => by have := (h1 k h).1; omega)).trans (h2.block k hk)⟩, (hm.block q hq (fun h => (h1 q h).2.1 rfl)).trans h3, own_moves h4 (fun g hg => hm.block g (own_blt h4 hg).2 (fun h => (h1 g h).2.2 hg))⟩

set_option maxRecDepth 100000 in
set_option maxHeartbeats 4000000 in
theorem appendseq_of (n : Nat) {w : World} {gf : Nat} {lb : Array Value} {A : List Int} (hA : A.length ≤ 1000000) (eg : ∀ args w, (callFunc gf args).run Try.prog w = .ok (.enter gf args) w)
    (hseq : ∀ k w', Below w.heap.size w w' → Iter Fence.wide k Try.prog gf lb encI w.heap.size (fun ys => ys = A) (fun pre => pre <+: A) (fun pre x => A[pre.length]? = some x) (fun _ => False) w') :
    CallsIn Fence.wide n Try.prog 49 #[.slice none 0 0, .func (.func gf) #[] lb] w fun e w' => ∃ a c, e = .returned (.slice a A.length c) ∧ w'.ownsRow w.heap.size 3 1 (.slice a A.length c) A.length (nums A) ∧ Below w.heap.size w w' := by
  obtain ⟨i0, hi0, hz0, hz1, hz2⟩ := info_parts info_int
  have hh := World.alloc_heap_new w (Obj.cells #[.slice none 0 0] 37)
  have al := t_al w (Obj.cells #[.slice none 0 0] 37)
  obtain ⟨w1, hw1⟩ : ∃ w1, w.alloc (Obj.cells #[.slice none 0 0] 37) = w1 := ⟨_, rfl⟩
  have hsz : (w.alloc (Obj.cells #[.slice none 0 0] 37)).heap.size = w.heap.size + 1 := by simp
  rw [hw1] at hh al hsz
  refine callsIn_of_wp_marks Try.func49 rfl trivial ?_ rfl
  simp only [Try.ntmps49, List.size_toArray, List.length_cons, List.length_nil, Nat.reduceAdd, Nat.reduceSub, Array.replicate_succ, Array.replicate_zero, List.push_toArray, List.append_toArray, List.nil_append, List.cons_append]
  gi_wp2
  obtain ⟨q, hq⟩ : ∃ q, w.heap.size = q := ⟨_, rfl⟩
  have HQ := Lib.hid hq
  clear hw1
  refine range_outer (gf := gf) (lb := lb) rfl (fun h => by simp [Fence.wide] at h) rfl trivial eg
    (hseq (n - 1) w1 al) al.size (Below.refl _ _) (fun k h => h.elim) (fun _ => rfl)
    (CoI w q) (fun _ _ _ _ => False) CoI.firm (fun _ _ _ _ _ _ h _ _ => h) ⟨none, 0, fun k h => h.elim, al, by rw [← hq]; exact hh, ⟨rfl, .inl ⟨rfl, rfl⟩⟩⟩
    (fun x a' E W' => a' = { tmps := #[.slice none 0 0, .func (.func gf) #[] lb, pbox q, undef, .slice none 0 0, .int .i64 x, .func (.func gf) #[] lb, .int .i64 x, undef, undef, undef, undef, undef], defers := [] })
    (fun x a' E V l r o h _ => h) ?assign ?body ?done ?stop
  case assign =>
    intro l' pre x E V K hl' hi hE hK
    simp only [encI]
    gi_wp2
    exact hK _ E _ (fun k h => h) hE (Same.refl _ _) (Below.refl _ _) hi rfl
  case body =>
    rintro lo pre x a' E V hEl ⟨r, hr⟩ hE ⟨a, c, m1, m2, m3, m4⟩ rfl hN
    have hkl : pre.length < A.length := (List.getElem?_eq_some_iff.1 hN).1
    obtain ⟨k, hk⟩ : ∃ k, pre.length = k := ⟨_, rfl⟩
    have HK := Lib.hid hk
    rw [hk] at m1 m3 m4 hkl
    have ms := m2.size
    have hqV := lt_of_at m3
    have m3' := ((t_al V (Obj.cells #[.int .i64 x] 3)).block q hqV).trans m3
    have b0 : V.cell? ⟨q, 0, none⟩ = some (.slice a k c) := (cell_at m3 0).trans rfl
    have M1 := Lib.hid m1
    have M2 := Lib.hid m2
    have M3 := Lib.hid m3
    have M4 := Lib.hid m4
    have C3 : Hid (k + 1 ≤ maxLen) := by show _ ≤ _; unfold maxLen; omega
    have C4 : Hid ((k + 1) * 8 ≤ 140737488355328) := by show _ ≤ _; omega
    have C5 : Hid (w.heap.size ≤ (V.alloc (Obj.cells #[.int .i64 x] 3)).heap.size) := by show _ ≤ _; rw [World.size_alloc]; omega
    have M3' := Lib.hid m3'
    clear m1 m2 m3 m4 m3' hk hr hN hh al hseq hq
    gi_wp2_with (gi_at_builtin; refine wpListIn_append_own_at _ rfl (.tmp 8) (.tmp 10) 37 rfl w.heap.size 3 i0 (.int .i64 0) 1 8 Try.underlying37 hi0 hz0 hz1 hz2 rfl (by decide) (.slice a k c) k (nums pre) rfl (M4.out.alloc _) ⟨V.heap.size, 0, none⟩ 1 1 [.int .i64 x] rfl rfl (c1_one V _ _) (c2_one _ rfl) C3.out C4.out C5.out ?_)
    intro v5 W5 ho5 hg5 _ hat5
    obtain ⟨g5, c5, rfl, hB5, hl5⟩ := ho5.form (by omega)
    have hqe : (Value.slice a k c).ownBlock ≠ some q := own_ne M4.out M3.out (by decide)
    have hq5 := (hg5.block q (by rw [World.size_alloc]; omega) (fun e => hqe e.symm)).trans M3'.out
    have b5 : W5.cell? ⟨q, 0, none⟩ = some (.slice a k c) := (cell_at hq5 0).trans rfl
    have z5 := unfrozen hq5 0
    have hg5q : g5 ≠ q := fun e => own_ne ho5 hq5 (by decide) (by rw [e]; rfl)
    have H5 := Lib.hid (And.intro ho5 (And.intro hg5 (And.intro hat5 (And.intro hq5 hg5q))))
    clear ho5 hg5 hat5 hq5 hqe hg5q M3'
    gi_wp2
    have hz5 := H5.out.2.1.size
    rw [World.size_alloc] at hz5
    have hgE : ∀ k', E k' → k' ≠ g5 := fun k' hk' e => by
      have h1 := hE k' hk'
      rcases H5.out.2.2.1 with h | h
      · exact (M1.out k' hk').2.2 (by rw [← h, e]; rfl)
      · simp only [Value.ownBlock, Option.some.injEq] at h; omega
    have hst : ∀ k', k' < V.heap.size → (Value.slice a k c).ownBlock ≠ some k' → k' ≠ q → (W5.setCell ⟨q, 0, none⟩ (.slice (some ⟨g5, 0, none⟩) (k + 1) c5)).heap[k']? = V.heap[k']? := fun k' h1 h2 h3 =>
      (heap_set_other h3).trans ((H5.out.2.1.block k' (by rw [World.size_alloc]; omega) (fun e => h2 e.symm)).trans ((t_al V _).block k' h1))
    have hB : Below w.heap.size V (W5.setCell ⟨q, 0, none⟩ (.slice (some ⟨g5, 0, none⟩) (k + 1) c5)) :=
      (((t_al V (Obj.cells #[.int .i64 x] 3)).mono ms).grown H5.out.2.1 C5.out (fun k' hk' => ((M4.out.alloc (Obj.cells #[.int .i64 x] 3)).lt k' hk').1)).setCell (p := ⟨q, 0, none⟩) (by show w.heap.size ≤ q; rw [HQ.out]; exact Nat.le_refl _) _
    refine ⟨fun k' hk' => hst k' (hE k' hk') (M1.out k' hk').2.2 (M1.out k' hk').2.1, hB, some ⟨g5, 0, none⟩, c5, fun k' hk' => ⟨(M1.out k' hk').1, (M1.out k' hk').2.1, fun e => by injection e with e; exact hgE k' hk' e.symm⟩, M2.out.trans hB, ?_, ?_⟩
    · rw [List.length_append, HK.out]; exact heap_set_at H5.out.2.2.2.1
    · rw [List.length_append, HK.out, ← nums_app]; exact own_set H5.out.1 (own_ne H5.out.1 H5.out.2.2.2.1 (by decide))
  case done =>
    rintro d ys E W3 hd hEd rfl ⟨a, c, m1, m2, m3, m4⟩ hK
    obtain ⟨k, hk⟩ : ∃ k, ys.length = k := ⟨_, rfl⟩
    have HK := Lib.hid hk
    rw [hk] at m1 m3 m4
    rw [← hq] at m3
    have b0 : W3.cell? ⟨w.heap.size, 0, none⟩ = some (.slice a k c) := (cell_at m3 0).trans rfl
    have HM := Lib.hid (And.intro m1 (And.intro m2 m4))
    have ms := m2.size
    clear m1 m2 m3 m4 hk hh al hseq hq
    gi_wp2
    refine ⟨by simp, .inl ⟨_, _, rfl, run_takeDeferred hK, ?_⟩⟩
    refine ⟨_, results_tmp rfl _ _ _, a, c, by rw [HK.out]; rfl, by rw [HK.out]; exact own_moves HM.out.2.2 (fun g hg => World.putObj_heap_other (fun e => (HM.out.1 d hEd).2.2 (by rw [hg, e]))), HM.out.2.1.grown (grownBy_putObj' W3 d _) ms (fun k e => by cases e; exact (HM.out.1 d hEd).1)⟩
  case stop =>
    rintro d c pre E W3 hd hEd hSp h hK
    exact h.elim

set_option maxRecDepth 100000 in
set_option maxHeartbeats 2000000 in
theorem collect_of (n : Nat) {w : World} {gf : Nat} {lb : Array Value} {A : List Int} (hA : A.length ≤ 1000000) (eg : ∀ args w, (callFunc gf args).run Try.prog w = .ok (.enter gf args) w)
    (hseq : ∀ k w', Below w.heap.size w w' → Iter Fence.wide k Try.prog gf lb encI w.heap.size (fun ys => ys = A) (fun pre => pre <+: A) (fun pre x => A[pre.length]? = some x) (fun _ => False) w') :
    Calls Try.prog 39 #[.func (.func gf) #[] lb] w fun e w' => ∃ a c, e = .returned (.slice a A.length c) ∧ w'.ownsRow w.heap.size 3 1 (.slice a A.length c) A.length (nums A) ∧ Below w.heap.size w w' := by
  have HC := Lib.hid ((callsIn_wide (n := 0)).1 (appendseq_of 0 hA eg hseq))
  clear hseq
  go_enter Try.func39, Try.ntmps39
  go_wp2_with fail
  refine HC.out.mono ?_; rintro e w2 ⟨a, c, rfl, h1, h2⟩
  have H := Lib.hid (And.intro h1 h2)
  clear h1 h2
  go_wp2_with fail
  go_ret
  exact ⟨a, c, rfl, H.out.1, H.out.2⟩


def srt (l : List Int) : List Int := l.mergeSort fun x y => decide (x ≤ y)
theorem encI_mono {n₀ : Nat} {W W' : World} (h : Below n₀ W W') : Below n₀ W W' := h

end Go.Proofs.Ytmjlmciocockpaa
