/-
  slices.Values, Collect, Sorted over numbers, at this seat's numbers.
-/
import Derived.Test.YtnjkobljcgjadaaLfD
import Derived.Test.YtnjkobljcgjadaaLqB
import Derived.Maps.OwnIn
import Derived.Test.YtnjkobljcgjadaaShelf
import Derived.Sort.OwnSorted
import Derived.Sort.OwnSortedInts
namespace Go.Proofs.Ytnjkobljcgjadaa
open Go Go.RowKit Go.Shelf
set_option linter.unusedVariables false
attribute [local go_sem] Oper.semAt_some

abbrev pbox (b : Nat) : Value := .pointer (some ⟨b, 0, none⟩)
def encI (x : Int) : Array Value := #[.int .i64 x]
theorem take_snoc {α : Type} {l : List α} {k : Nat} {x : α} (h : l[k]? = some x) : l.take k ++ [x] = l.take (k + 1) := by rw [List.take_add_one, h]; rfl
theorem c1_one (w : World) (x : Value) (t : TypeId) : ∀ q u, ([x] : List Value)[q]? = some u → (w.alloc (Obj.cells #[x] t)).cell? (Addr.add ⟨w.heap.size, 0, none⟩ q) = some u := by
  intro q u hq
  rw [Addr.add_lit, Nat.zero_add, cell_at (heap_alloc_new _ _)]
  simpa using hq
theorem c2_one (x : Value) (h : x.oneCell' = true) : ∀ u ∈ ([x] : List Value), u.oneCell' = true := by
  intro u hu
  rw [List.mem_singleton.1 hu]; exact h
theorem values_of {w : World} (a : Option Addr) (n c : Nat) : Calls Try.prog 24 #[.slice a n c] w fun e w' => e = .returned (.func (.func 32) #[] #[pbox w.heap.size]) ∧ w' = w.alloc (.cells #[.slice a n c] 22) := by
  go_enter Try.func24, Try.ntmps24
  go_wp2_with fail
  go_ret
  exact ⟨rfl, rfl⟩

set_option maxRecDepth 100000 in
set_option maxHeartbeats 2000000 in
theorem sval_iter (n n₀ Bs : Nat) {w : World} {a : Option Addr} {c : Nat} {xs : List Int} (hB : Bs < w.heap.size) (hn : n₀ ≤ w.heap.size) (hc : w.cell? ⟨Bs, 0, none⟩ = some (.slice a xs.length c)) (hS : Sl w a c (nums xs)) (hb : ∀ d, a = some d → d.block < n₀) (hlen : xs.length ≤ 1000000) :
    Iter Fence.wide n Try.prog 32 #[.pointer (some ⟨Bs, 0, none⟩)] encI n₀ (fun ys => ys = xs) (fun pre => pre <+: xs) (fun pre x => xs[pre.length]? = some x) (fun _ => False) w := fun l J Jx W hW hJ hJx hY h0 => by
  have hc' := (hW.cell (p := ⟨Bs, 0, none⟩) hB).trans hc
  have HS := Lib.hid (hS.below hW)
  have hnW : n₀ ≤ W.heap.size := Nat.le_trans hn hW.size
  obtain ⟨len, hl⟩ : ∃ len, xs.length = len := ⟨_, rfl⟩
  have HL := Lib.hid hl
  rw [hl] at hc' hlen
  clear hl hc hS
  refine callsIn_of_wp Try.func32 rfl trivial ?_ rfl
  simp only [Try.ntmps32, List.size_toArray, List.length_cons, List.length_nil, Nat.reduceAdd, Nat.reduceSub, Array.replicate_succ, Array.replicate_zero, List.push_toArray, List.append_toArray, List.nil_append, List.cons_append]
  gi_wp2
  gi_loopw [7] (fun i wr => ∃ k : Nat, k ≤ len ∧ i = .int .i64 k ∧ J (xs.take k) (fun _ => False) wr ∧ Below n₀ W wr) (fun i _ => len - (intOf i).toNat)
  case atStart => exact ⟨0, Nat.zero_le _, rfl, h0, Below.refl _ _⟩
  case round =>
    obtain ⟨k, hk, rfl, hJs, hnx⟩ := hrel
    by_cases hlt : k < len
    · obtain ⟨x, hx⟩ : ∃ x, xs[k]? = some x := ⟨_, List.getElem?_eq_getElem (by rw [HL.out]; exact hlt)⟩
      obtain ⟨g, o, rfl⟩ := HS.out.numsome (by rw [HL.out]; omega)
      have hcx := (hnx.cell (p := ⟨g, o + k, none⟩) (show g < n₀ from hb ⟨g, o, none⟩ rfl)).trans (HS.out.num hx).1
      have hat := hx
      have hpk := take_snoc hat
      obtain ⟨fn, tmps, assign, body, hy, hR⟩ := hY _ x _ wr hJs (fun _ h => h.elim) (by rw [List.length_take, Nat.min_eq_left (by have := HL.out; omega)]; exact hat)
      dsimp only [encI] at hy
      have HP := Lib.hid hpk
      clear hx hpk hat
      gi_wp2
      refine ⟨fun h => by simp [Fence.wide] at h, hR.mono ?_⟩
      rintro e W3 ⟨_, (⟨rfl, hJ3, hk3⟩ | ⟨rfl, hJx3⟩)⟩
      · gi_wp2
        go_roundw
        case rel => exact ⟨k + 1, by omega, by simp, by rw [← HP.out]; exact hJ3, hnx.trans hk3⟩
        case measure => simp [intOf]; omega
      · gi_wp2
        refine bodyPost_ret (results_none rfl _ _ _) rfl ?_
        exact ⟨⟨_, rfl⟩, .inr ⟨_, _, by rw [HP.out]; exact List.take_prefix _ _, hJx3⟩⟩
    · obtain rfl : k = len := by omega
      have htk : xs.take k = xs := List.take_of_length_le (by have := HL.out; omega)
      rw [htk] at hJs
      have HJ := Lib.hid hJs
      clear htk hJs
      gi_wp2
      go_end0
      exact ⟨⟨_, rfl⟩, .inl ⟨_, _, rfl, HJ.out⟩⟩

theorem own_moves {W W' : World} {B s n : Nat} {e : TypeId} {v : Value} {xs : List Value} (h : W.ownsRow B e s v n xs) (hb : ∀ g, v.ownBlock = some g → W'.heap[g]? = W.heap[g]?) : W'.ownsRow B e s v n xs := by
  refine ⟨h.1, ?_⟩
  rcases h.2 with hn | ⟨g, cap, cur, he, h1, h2, rest⟩
  · exact .inl hn
  · exact .inr ⟨g, cap, cur, he, h1, (hb g (by rw [he]; rfl)).trans h2, rest⟩
theorem own_blt {W : World} {B s n g : Nat} {e : TypeId} {v : Value} {xs : List Value} (h : W.ownsRow B e s v n xs) (hg : v.ownBlock = some g) : B ≤ g ∧ g < W.heap.size := by
  rcases h.2 with ⟨hn, _⟩ | ⟨g', cap, cur, he, h1, h2, _⟩
  · rw [hn] at hg; cases hg
  · rw [he] at hg
    injection hg with hg
    subst hg
    exact ⟨h1, lt_of_at h2⟩
/-- What the loop that collects keeps: its box, and the row in it. -/
def CoI (w : World) (q : Nat) (s : List Int) (E : Bls) (W : World) : Prop :=
  ∃ (a : Option Addr) (c : Nat), (∀ k, E k → w.heap.size ≤ k ∧ k ≠ q ∧ (Value.slice a s.length c).ownBlock ≠ some k) ∧ Below w.heap.size w W ∧ W.heap[q]? = some (.cells #[.slice a s.length c] 22 (0, 0)) ∧ W.ownsRow w.heap.size 3 1 (.slice a s.length c) s.length (nums s)
theorem CoI.firm {w : World} {q : Nat} : Firm (CoI w q) := by
  rintro s D D' W W' ⟨a, c, h1, h2, h3, h4⟩ hm hd
  have hq := lt_of_at h3
  have hs := h2.size
  refine ⟨a, c, fun k hk => (hd k hk).elim (h1 k) (fun h => ⟨by omega, by omega, fun e => by have := (own_blt h4 e).2; omega⟩), ⟨hm.os.trans h2.os, hm.tape.trans h2.tape, hm.output.trans h2.output, Nat.le_trans h2.size hm.size, fun k hk => (hm.block k (by omega) (fun h => by have := (h1 k h).1; omega)).trans (h2.block k hk)⟩, (hm.block q hq (fun h => (h1 q h).2.1 rfl)).trans h3, own_moves h4 (fun g hg => hm.block g (own_blt h4 hg).2 (fun h => (h1 g h).2.2 hg))⟩

set_option maxRecDepth 100000 in
set_option maxHeartbeats 4000000 in
theorem appendseq_of (n : Nat) {w : World} {gf : Nat} {lb : Array Value} {A : List Int} (hA : A.length ≤ 1000000) (eg : ∀ args w, (callFunc gf args).run Try.prog w = .ok (.enter gf args) w)
    (hseq : ∀ k w', Below w.heap.size w w' → Iter Fence.wide k Try.prog gf lb encI w.heap.size (fun ys => ys = A) (fun pre => pre <+: A) (fun pre x => A[pre.length]? = some x) (fun _ => False) w') :
    CallsIn Fence.wide n Try.prog 36 #[.slice none 0 0, .func (.func gf) #[] lb] w fun e w' => ∃ a c, e = .returned (.slice a A.length c) ∧ w'.ownsRow w.heap.size 3 1 (.slice a A.length c) A.length (nums A) ∧ Below w.heap.size w w' := by
  obtain ⟨i0, hi0, hz0, hz1, hz2⟩ := info_parts info_int
  have hh := World.alloc_heap_new w (Obj.cells #[.slice none 0 0] 22)
  have al := t_al w (Obj.cells #[.slice none 0 0] 22)
  obtain ⟨w1, hw1⟩ : ∃ w1, w.alloc (Obj.cells #[.slice none 0 0] 22) = w1 := ⟨_, rfl⟩
  have hsz : (w.alloc (Obj.cells #[.slice none 0 0] 22)).heap.size = w.heap.size + 1 := by simp
  rw [hw1] at hh al hsz
  refine callsIn_of_wp_marks Try.func36 rfl trivial ?_ rfl
  simp only [Try.ntmps36, List.size_toArray, List.length_cons, List.length_nil, Nat.reduceAdd, Nat.reduceSub, Array.replicate_succ, Array.replicate_zero, List.push_toArray, List.append_toArray, List.nil_append, List.cons_append]
  gi_wp2
  obtain ⟨q, hq⟩ : ∃ q, w.heap.size = q := ⟨_, rfl⟩
  have HQ := Lib.hid hq
  clear hw1
  refine range_outer (gf := gf) (lb := lb) rfl (fun h => by simp [Fence.wide] at h) rfl trivial eg
    (hseq (n - 1) w1 al) al.size (Below.refl _ _) (fun k h => h.elim) (fun _ => rfl)
    (CoI w q) (fun _ _ _ _ => False) CoI.firm (fun _ _ _ _ _ _ h _ _ => h) ⟨none, 0, fun k h => h.elim, al, by rw [← hq]; exact hh, ⟨rfl, .inl ⟨rfl, rfl⟩⟩⟩
    (fun x a' E W' => a' = { tmps := #[.slice none 0 0, .func (.func gf) #[] lb, pbox q, undef, .slice none 0 0, .int .i64 x, .func (.func gf) #[] lb, .int .i64 x, undef, undef, undef, undef, undef], defers := [] })
    (fun x a' E V l r o h _ => h) ?assign ?body ?done ?stop
  case assign =>
    intro l' pre x E V K hl' hi hE hK
    simp only [encI]
    gi_wp2
    exact hK _ E _ (fun k h => h) hE (Same.refl _ _) (Below.refl _ _) hi rfl
  case body =>
    rintro lo pre x a' E V hEl ⟨r, hr⟩ hE ⟨a, c, m1, m2, m3, m4⟩ rfl hN
    have hkl : pre.length < A.length := (List.getElem?_eq_some_iff.1 hN).1
    obtain ⟨k, hk⟩ : ∃ k, pre.length = k := ⟨_, rfl⟩
    have HK := Lib.hid hk
    rw [hk] at m1 m3 m4 hkl
    have ms := m2.size
    have hqV := lt_of_at m3
    have m3' := ((t_al V (Obj.cells #[.int .i64 x] 3)).block q hqV).trans m3
    have b0 : V.cell? ⟨q, 0, none⟩ = some (.slice a k c) := (cell_at m3 0).trans rfl
    have M1 := Lib.hid m1
    have M2 := Lib.hid m2
    have M3 := Lib.hid m3
    have M4 := Lib.hid m4
    have C3 : Hid (k + 1 ≤ maxLen) := by show _ ≤ _; unfold maxLen; omega
    have C4 : Hid ((k + 1) * 8 ≤ 140737488355328) := by show _ ≤ _; omega
    have C5 : Hid (w.heap.size ≤ (V.alloc (Obj.cells #[.int .i64 x] 3)).heap.size) := by show _ ≤ _; rw [World.size_alloc]; omega
    have M3' := Lib.hid m3'
    clear m1 m2 m3 m4 m3' hk hr hN hh al hseq hq
    gi_wp2_with (gi_at_builtin; refine wpListIn_append_own_at _ rfl (.tmp 8) (.tmp 10) 22 rfl w.heap.size 3 i0 (.int .i64 0) 1 8 Try.underlying22 hi0 hz0 hz1 hz2 rfl (by decide) (.slice a k c) k (nums pre) rfl (M4.out.alloc _) ⟨V.heap.size, 0, none⟩ 1 1 [.int .i64 x] rfl rfl (c1_one V _ _) (c2_one _ rfl) C3.out C4.out C5.out ?_)
    intro v5 W5 ho5 hg5 _ hat5
    obtain ⟨g5, c5, rfl, hB5, hl5⟩ := ho5.form (by omega)
    have hqe : (Value.slice a k c).ownBlock ≠ some q := own_ne M4.out M3.out (by decide)
    have hq5 := (hg5.block q (by rw [World.size_alloc]; omega) (fun e => hqe e.symm)).trans M3'.out
    have b5 : W5.cell? ⟨q, 0, none⟩ = some (.slice a k c) := (cell_at hq5 0).trans rfl
    have z5 := unfrozen hq5 0
    have hg5q : g5 ≠ q := fun e => own_ne ho5 hq5 (by decide) (by rw [e]; rfl)
    have H5 := Lib.hid (And.intro ho5 (And.intro hg5 (And.intro hat5 (And.intro hq5 hg5q))))
    clear ho5 hg5 hat5 hq5 hqe hg5q M3'
    gi_wp2
    have hz5 := H5.out.2.1.size
    rw [World.size_alloc] at hz5
    have hgE : ∀ k', E k' → k' ≠ g5 := fun k' hk' e => by
      have h1 := hE k' hk'
      rcases H5.out.2.2.1 with h | h
      · exact (M1.out k' hk').2.2 (by rw [← h, e]; rfl)
      · simp only [Value.ownBlock, Option.some.injEq] at h; omega
    have hst : ∀ k', k' < V.heap.size → (Value.slice a k c).ownBlock ≠ some k' → k' ≠ q → (W5.setCell ⟨q, 0, none⟩ (.slice (some ⟨g5, 0, none⟩) (k + 1) c5)).heap[k']? = V.heap[k']? := fun k' h1 h2 h3 =>
      (heap_set_other h3).trans ((H5.out.2.1.block k' (by rw [World.size_alloc]; omega) (fun e => h2 e.symm)).trans ((t_al V _).block k' h1))
    have hB : Below w.heap.size V (W5.setCell ⟨q, 0, none⟩ (.slice (some ⟨g5, 0, none⟩) (k + 1) c5)) :=
      (((t_al V (Obj.cells #[.int .i64 x] 3)).mono ms).grown H5.out.2.1 C5.out (fun k' hk' => ((M4.out.alloc (Obj.cells #[.int .i64 x] 3)).lt k' hk').1)).setCell (p := ⟨q, 0, none⟩) (by show w.heap.size ≤ q; rw [HQ.out]; exact Nat.le_refl _) _
    refine ⟨fun k' hk' => hst k' (hE k' hk') (M1.out k' hk').2.2 (M1.out k' hk').2.1, hB, some ⟨g5, 0, none⟩, c5, fun k' hk' => ⟨(M1.out k' hk').1, (M1.out k' hk').2.1, fun e => by injection e with e; exact hgE k' hk' e.symm⟩, M2.out.trans hB, ?_, ?_⟩
    · rw [List.length_append, HK.out]; exact heap_set_at H5.out.2.2.2.1
    · rw [List.length_append, HK.out, ← nums_app]; exact own_set H5.out.1 (own_ne H5.out.1 H5.out.2.2.2.1 (by decide))
  case done =>
    rintro d ys E W3 hd hEd rfl ⟨a, c, m1, m2, m3, m4⟩ hK
    obtain ⟨k, hk⟩ : ∃ k, ys.length = k := ⟨_, rfl⟩
    have HK := Lib.hid hk
    rw [hk] at m1 m3 m4
    rw [← hq] at m3
    have b0 : W3.cell? ⟨w.heap.size, 0, none⟩ = some (.slice a k c) := (cell_at m3 0).trans rfl
    have HM := Lib.hid (And.intro m1 (And.intro m2 m4))
    have ms := m2.size
    clear m1 m2 m3 m4 hk hh al hseq hq
    gi_wp2
    refine ⟨by simp, .inl ⟨_, _, rfl, run_takeDeferred hK, ?_⟩⟩
    refine ⟨_, results_tmp rfl _ _ _, a, c, by rw [HK.out]; rfl, by rw [HK.out]; exact own_moves HM.out.2.2 (fun g hg => World.putObj_heap_other (fun e => (HM.out.1 d hEd).2.2 (by rw [hg, e]))), HM.out.2.1.grown (grownBy_putObj' W3 d _) ms (fun k e => by cases e; exact (HM.out.1 d hEd).1)⟩
  case stop =>
    rintro d c pre E W3 hd hEd hSp h hK
    exact h.elim

set_option maxRecDepth 100000 in
set_option maxHeartbeats 2000000 in
theorem collect_of (n : Nat) {w : World} {gf : Nat} {lb : Array Value} {A : List Int} (hA : A.length ≤ 1000000) (eg : ∀ args w, (callFunc gf args).run Try.prog w = .ok (.enter gf args) w)
    (hseq : ∀ k w', Below w.heap.size w w' → Iter Fence.wide k Try.prog gf lb encI w.heap.size (fun ys => ys = A) (fun pre => pre <+: A) (fun pre x => A[pre.length]? = some x) (fun _ => False) w') :
    Calls Try.prog 30 #[.func (.func gf) #[] lb] w fun e w' => ∃ a c, e = .returned (.slice a A.length c) ∧ w'.ownsRow w.heap.size 3 1 (.slice a A.length c) A.length (nums A) ∧ Below w.heap.size w w' := by
  have HC := Lib.hid ((callsIn_wide (n := 0)).1 (appendseq_of 0 hA eg hseq))
  clear hseq
  go_enter Try.func30, Try.ntmps30
  go_wp2_with fail
  refine HC.out.mono ?_; rintro e w2 ⟨a, c, rfl, h1, h2⟩
  have H := Lib.hid (And.intro h1 h2)
  clear h1 h2
  go_wp2_with fail
  go_ret
  exact ⟨a, c, rfl, H.out.1, H.out.2⟩


def srt (l : List Int) : List Int := l.mergeSort fun x y => decide (x ≤ y)
theorem encI_mono {n₀ : Nat} {W W' : World} (h : Below n₀ W W') : Below n₀ W W' := h

set_option maxRecDepth 100000 in
set_option maxHeartbeats 2000000 in
/-- slices.Sorted(slices.Values(l)). -/
theorem sorted_of {w w0 : World} {a : Option Addr} {c : Nat} {l : List Int} (hl : l.length ≤ 1000000) (h : Sl w0 a c (nums l)) (hd : ∀ d, a = some d → d.block < w0.heap.size) (hw : w = w0.alloc (.cells #[.slice a l.length c] 22)) :
    Calls Try.prog 23 #[.func (.func 32) #[] #[pbox w0.heap.size]] w fun e w' => ∃ a' c', e = .returned (.slice a' l.length c') ∧ w'.ownsRow w0.heap.size 3 1 (.slice a' l.length c') l.length (nums (srt l)) ∧ Below w0.heap.size w w' := by
  have hb0 : Below w0.heap.size w0 w := by rw [hw]; exact t_al _ _
  have hsz : w.heap.size = w0.heap.size + 1 := by rw [hw]; simp
  have hbx : w.cell? ⟨w0.heap.size, 0, none⟩ = some (.slice a l.length c) := by rw [hw, cell_at (heap_alloc_new _ _)]; rfl
  have hlt : w0.heap.size < w.heap.size := by omega
  have HI : ∀ k w', Below w.heap.size w w' → Iter Fence.wide k Try.prog 32 #[pbox w0.heap.size] encI w.heap.size (fun ys => ys = l) (fun pre => pre <+: l) (fun pre x => l[pre.length]? = some x) (fun _ => False) w' := fun k w' hb =>
    sval_iter k w.heap.size w0.heap.size (w := w') (Nat.lt_of_lt_of_le hlt hb.size) hb.size ((hb.cell (p := ⟨w0.heap.size, 0, none⟩) hlt).trans hbx) ((h.below hb0).below hb) (fun d e => Nat.lt_trans (hd d e) hlt) hl
  have HC := Lib.hid (collect_of 0 hl (enters_of Try.func32 (by kernel_rfl) rfl) HI)
  have HB := Lib.hid hb0
  clear HI hbx hw h hd hb0
  go_enter Try.func23, Try.ntmps23
  go_wp2_with fail
  refine HC.out.mono ?_; rintro e w1 ⟨a1, c1, rfl, ho, hb1⟩
  have hbl : Below w0.heap.size w w1 := hb1.mono (by omega)
  have HBL := Lib.hid hbl
  rcases ho.2 with ⟨h1, h2⟩ | ⟨g, cap, cur, h1, hB, hg, r1, r2, r3, r4⟩
  · have hle : l = [] := List.eq_nil_of_length_eq_zero h2
    subst hle
    simp only [Value.slice.injEq] at h1
    obtain ⟨rfl, _, rfl⟩ := h1
    have HS := Lib.hid (Try.slices_Sort_int_none none 0 w1)
    clear ho hb1 HC hbl
    go_wp2_with fail
    refine HS.out.mono ?_; rintro e w2 ⟨rfl, rfl⟩
    go_wp2_with fail
    go_ret
    exact ⟨none, 0, rfl, by have := t_nil w2 w0.heap.size 3 1; simpa [srt, nums] using this, HBL.out⟩
  · simp only [Value.slice.injEq, true_and] at h1
    obtain ⟨rfl, rfl⟩ := h1
    have hH : Go.Sort.Holds (Value.int .i64) w1 g 0 l.toArray := Go.holds_of_blockI hg (by simpa [nums] using r4)
    have HS := Lib.hid (Try.slices_Sort_int g 0 c1 l w1 hH (lt_of_heap hg) (by omega))
    have HG := Lib.hid (And.intro hg (And.intro r1 (And.intro r2 (And.intro r3 hB))))
    clear ho hb1 HC hbl hH r1 r2 r3 r4 hg hB
    go_wp2_with fail
    refine HS.out.mono ?_; rintro e w2 ⟨rfl, nn, os, rfl⟩
    have HR : Hid ((Go.Sort.grow (Go.Sort.putRow (Value.int .i64) (Go.Sort.ahead w1 nn) g 0 (srt l).toArray) os).ownsRow w0.heap.size 3 1 (.slice (some ⟨g, 0, none⟩) l.length c1) l.length (nums (srt l)) ∧ Below w0.heap.size w (Go.Sort.grow (Go.Sort.putRow (Value.int .i64) (Go.Sort.ahead w1 nn) g 0 (srt l).toArray) os)) := Lib.hid (by
      obtain ⟨hg, r1, r2, r3, hB⟩ := HG.out
      refine ⟨Go.ownsRow_sortedI (by simp [srt]) (by omega) hg r1 r2 r3, HBL.out.grown (Go.grownBy_sortedI _) ?_ (fun j hj => by cases hj; omega)⟩
      have := HBL.out.size; omega)
    unfold srt at HR
    clear HS
    go_wp2_with fail
    go_ret
    exact ⟨_, _, rfl, HR.out.1, HR.out.2⟩
end Go.Proofs.Ytnjkobljcgjadaa
