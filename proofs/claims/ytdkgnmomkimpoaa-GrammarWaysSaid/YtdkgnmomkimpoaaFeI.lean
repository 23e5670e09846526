/-
  What lies beside a feed; the law's closure that takes a key, at this seat's numbers.
-/
import Derived.Test.YtdkgnmomkimpoaaFeG
namespace Go.Proofs.Ytdkgnmomkimpoaa
open Go Go.RowKit
set_option linter.unusedVariables false

theorem own_cells {w : World} {B sz n b : Nat} {e : TypeId} {v : Value} {xs : List Value} (h : w.ownsRow B e sz v n xs) (hb : v.ownBlock = some b) : ∃ cs fr, w.heap[b]? = some (.cells cs e fr) ∧ B ≤ b := by
  rcases h.2 with ⟨h1, _⟩ | ⟨g, cap, cur, h1, hB, hg, _⟩
  · rw [h1] at hb; cases hb
  · rw [h1] at hb; cases hb; exact ⟨_, _, hg, hB⟩

/-- What leaves a feed as it was: all its own stays. -/
def OMv (w w' : World) : Prop := ∀ (k : Nat) (o : Obj), w.heap[k]? = some o → (∀ (cs : Array Value) (t : TypeId) (fr : Nat × Nat), o = .cells cs t fr → t = 70 ∨ t = 68 ∨ t = 73) → w'.heap[k]? = some o
theorem OMv.of_keep {w w' : World} {u : Option Nat} (h : ∀ (k : Nat) (o : Obj), w.heap[k]? = some o → u ≠ some k → w'.heap[k]? = some o) (hu : ∀ b, u = some b → ∃ cs t fr, w.heap[b]? = some (.cells cs t fr) ∧ t ≠ 70 ∧ t ≠ 68 ∧ t ≠ 73) : OMv w w' := fun k o hk ht => h k o hk fun e => by
  obtain ⟨cs, t, fr, hb, h1, h2, h3⟩ := hu k e
  rw [hk] at hb
  cases hb
  rcases ht cs t fr rfl with h | h | h <;> contradiction
theorem FdS.omv {w w' : World} {B f room : Nat} {S : Fs} (H : FdS w B f room S) (hm : OMv w w') : FdS w' B f room S := by
  obtain ⟨h, c, v, L, HF, h1⟩ := H
  obtain ⟨s, r, hc⟩ := HF.typ
  refine ⟨h, c, v, L, ⟨hm _ _ HF.box (fun cs t fr e => by cases e; exact .inl rfl), hm _ _ HF.wat (fun cs t fr e => by cases e; exact .inr (.inl rfl)), ⟨s, r, hm _ _ hc (fun cs t fr e => by cases e)⟩, ?_, fun x hx => ?_, HF.nd, HF.lo⟩, h1⟩
  · refine own_same HF.own fun b hb => ?_
    obtain ⟨cs, fr, hk, _⟩ := own_cells HF.own hb
    rw [hk]
    exact hm _ _ hk (fun cs' t fr' e => by cases e; exact .inr (.inr rfl))
  · obtain ⟨⟨k, s', r', hb⟩, hn⟩ := HF.pks x hx
    exact ⟨⟨k, s', r', hm _ _ hb (fun cs t fr e => by cases e)⟩, hn⟩

theorem info_int : (Try.prog.info? 3).map (fun i => (i.zero, i.size, i.bytes)) = some (some (.int .i64 0), 1, 8) := by kernel_rfl
/-- A number behind others. -/
theorem app1 {w : World} {B : Nat} {v : Value} {l : List Int} (ho : w.ownsRow B 3 1 v l.length (nums l)) (hn : l.length ≤ 1000000) (x : Int) (hB : B ≤ w.heap.size) :
    ∃ a1 k1 W, (Builtin.append_ #[27, 27] 27 #[v, .slice (some ⟨w.heap.size, 0, none⟩) 1 1]).run Try.prog (w.alloc (.cells #[.int .i64 x] 3)) = .ok (.slice a1 (l.length + 1) k1) W ∧
      W.ownsRow B 3 1 (.slice a1 (l.length + 1) k1) (l ++ [x]).length (nums (l ++ [x])) ∧ (∀ (k : Nat) (o : Obj), w.heap[k]? = some o → v.ownBlock ≠ some k → W.heap[k]? = some o) ∧ Below B w W ∧
      (∀ b, (Value.slice a1 (l.length + 1) k1).ownBlock = some b → v.ownBlock = some b ∨ w.heap.size ≤ b) := by
  obtain ⟨i0, hi0, hz0, hz1, hz2⟩ := info_parts info_int
  have al := t_al w (.cells #[.int .i64 x] 3)
  have hc := heap_alloc_new w (.cells #[.int .i64 x] 3)
  have hz : (w.alloc (.cells #[.int .i64 x] 3)).heap.size = w.heap.size + 1 := by simp
  obtain ⟨v', W, hr, o1, g1, _, l1⟩ := run_append_own_at (P := Try.prog) (w.alloc (.cells #[.int .i64 x] 3)) B 27 27 3 i0 (.int .i64 0) 1 8 Try.underlying27 hi0 hz0 hz1 hz2 rfl (by decide) v l.length (nums l) (own_below ho al) ⟨w.heap.size, 0, none⟩ 1 1 [.int .i64 x] rfl
    (by intro j u hu; rw [Addr.add_lit, Nat.zero_add, cell_at hc]; simpa using hu) (by intro u hu; rw [List.mem_singleton.1 hu]; rfl) (by unfold maxLen; omega) (by omega) (by omega)
  generalize w.alloc (.cells #[.int .i64 x] 3) = w3 at *
  have hf : ∃ a1 k1, v' = .slice a1 (l.length + 1) k1 := by
    rcases o1.2 with ⟨h1, h2'⟩ | ⟨g, cap, cur, h1, _⟩
    · simp at h2'
    · exact ⟨_, _, h1⟩
  obtain ⟨a1, k1, rfl⟩ := hf
  refine ⟨a1, k1, W, hr, ?_, fun k o hk hne => ?_, ?_, fun b hb => ?_⟩
  · rw [List.length_append, ← nums_app]; exact o1
  · have e1 := al.block k (lt_of_heap hk)
    rw [g1.block k (by have := lt_of_heap hk; omega) (fun e => hne e.symm), e1]; exact hk
  · refine (al.mono hB).grown g1 (by omega) (fun k e => ?_)
    obtain ⟨_, _, _, hge⟩ := own_cells ho e
    exact hge
  · rcases l1 with e | e
    · exact .inl (by rw [← e]; exact hb)
    · rw [e] at hb; injection hb with hb; exact .inr (by omega)

theorem FdS.ne0 {w : World} {B f room : Nat} {S : Fs} (H : FdS w B f room S) : ∀ p ∈ S.ps, p ≠ [] := by
  obtain ⟨h, c, v, L, HF, h1, _⟩ := H
  intro p hp
  rw [← h1] at hp
  obtain ⟨x, hx, rfl⟩ := List.mem_map.1 hp
  exact (HF.pks x hx).2
/-- What Next may come to. -/
theorem next_cases {S : Fs} (hne : ∀ p ∈ S.ps, p ≠ []) :
    (S.ty = [] ∧ S.ps = [] ∧ nextF S = ((0, false, 4), S)) ∨ (∃ x t, S.ps = [] ∧ S.ty = x :: t ∧ nextF S = ((x, false, 0), ⟨t, [], 200⟩)) ∨ (S.ps ≠ [] ∧ nextF S = ((0, false, 12), ⟨S.ty, [], 0⟩)) ∨
      ∃ x P t, S.ps = P ++ [x :: t] ∧ nextF S = ((x, true, 0), ⟨S.ty, if t = [] then P else P ++ [t], S.fu - 1⟩) := by
  obtain ⟨ty, ps, fu⟩ := S
  simp only at hne ⊢
  rcases List.eq_nil_or_concat ps with rfl | ⟨P, l, rfl⟩
  · cases ty with
    | nil => exact .inl ⟨rfl, rfl, rfl⟩
    | cons x t => exact .inr (.inl ⟨x, t, rfl, rfl, rfl⟩)
  · rw [List.concat_eq_append] at *
    cases l with
    | nil => exact absurd rfl (hne [] (by simp))
    | cons x t =>
      have hrev : (P ++ [x :: t]).reverse = (x :: t) :: P.reverse := by simp
      unfold nextF
      simp only [hrev]
      by_cases h0 : fu = 0
      · rw [if_pos h0]; exact .inr (.inr (.inl ⟨by simp, rfl⟩))
      · rw [if_neg h0, List.reverse_reverse]; exact .inr (.inr (.inr ⟨x, P, t, rfl, rfl⟩))

/-- What FeedOrder has: the feed f in its box at p, what came at q, what was typed. -/
structure Jo (w : World) (B f p q : Nat) (tv cv : Value) (ty cm : List Int) (S : Fs) : Prop where
  fd : FdS w B f 1000 S
  bp : w.heap[p]? = some (.cells #[pbox f] 23 (0, 0))
  bq : w.heap[q]? = some (.cells #[cv] 27 (0, 0))
  oc : w.ownsRow B 3 1 cv cm.length (nums cm)
  ot : w.ownsRow B 3 1 tv ty.length (nums ty)
  ne : ∀ b, cv.ownBlock = some b → tv.ownBlock ≠ some b
  lo : B ≤ p ∧ B ≤ q

section
variable {w w' : World} {B f p q : Nat} {tv cv : Value} {ty cm : List Int} {S S' : Fs}
theorem Jo.fmv (H : Jo w B f p q tv cv ty cm S) (hf : FdS w' B f 1000 S') (hm : FMv B w w') : Jo w' B f p q tv cv ty cm S' :=
  ⟨hf, (hm.oth _ _ _ _ H.bp (by decide) (by decide) (by decide)).trans H.bp, (hm.oth _ _ _ _ H.bq (by decide) (by decide) (by decide)).trans H.bq,
    own_same H.oc (fun b hb => by obtain ⟨cs, fr, hk, _⟩ := own_cells H.oc hb; exact hm.oth _ _ _ _ hk (by decide) (by decide) (by decide)),
    own_same H.ot (fun b hb => by obtain ⟨cs, fr, hk, _⟩ := own_cells H.ot hb; exact hm.oth _ _ _ _ hk (by decide) (by decide) (by decide)), H.ne, H.lo⟩
theorem Jo.below (H : Jo w B f p q tv cv ty cm S) (hb : Below w.heap.size w w') : Jo w' B f p q tv cv ty cm S :=
  ⟨H.fd.below hb, (hb.block _ (lt_of_heap H.bp)).trans H.bp, (hb.block _ (lt_of_heap H.bq)).trans H.bq, own_below H.oc hb, own_below H.ot hb, H.ne, H.lo⟩

/-- A key more came. -/
theorem Jo.came (H : Jo w B f p q tv cv ty cm S) (hn : cm.length ≤ 1000000) (x : Int) (hB : B ≤ w.heap.size) :
    ∃ a1 k1 W, (Builtin.append_ #[27, 27] 27 #[cv, .slice (some ⟨w.heap.size, 0, none⟩) 1 1]).run Try.prog (w.alloc (.cells #[.int .i64 x] 3)) = .ok (.slice a1 (cm.length + 1) k1) W ∧ W.cell? ⟨q, 0, none⟩ = some cv ∧ W.frozen? ⟨q, 0, none⟩ = false ∧
      Jo (W.setCell ⟨q, 0, none⟩ (.slice a1 (cm.length + 1) k1)) B f p q tv (.slice a1 (cm.length + 1) k1) ty (cm ++ [x]) S ∧ Below B w (W.setCell ⟨q, 0, none⟩ (.slice a1 (cm.length + 1) k1)) := by
  obtain ⟨a1, k1, W, hr, o1, kp, bW, hl⟩ := app1 H.oc hn x hB
  have nq := own_ne H.oc H.bq (by decide)
  have np := own_ne H.oc H.bp (by decide)
  have qW := kp _ _ H.bq nq
  have pW := kp _ _ H.bp np
  have hpq : p ≠ q := fun e => by have := H.bp; rw [e, H.bq] at this; cases this
  refine ⟨a1, k1, W, hr, by rw [cell_at qW]; rfl, unfrozen qW 0, ⟨?_, (heap_set_other hpq).trans pW, heap_set_at qW, own_set o1 (own_ne o1 qW (by decide)), ?_, fun b hb e => ?_, H.lo⟩, bW.setCell (p := ⟨q, 0, none⟩) H.lo.2 _⟩
  · refine (H.fd.omv (OMv.of_keep kp fun b hb => ?_)).omv (OMv.of_keep (u := some q) (fun k o hk hne => (heap_set_other (fun e => hne (by rw [e]))).trans hk) fun b hb => ?_)
    · obtain ⟨cs, fr, hk, _⟩ := own_cells H.oc hb
      exact ⟨cs, _, fr, hk, by decide, by decide, by decide⟩
    · cases hb; exact ⟨_, _, _, qW, by decide, by decide, by decide⟩
  · have otW : W.ownsRow B 3 1 tv ty.length (nums ty) := own_same H.ot (fun b hb => by
      obtain ⟨cs, fr, hk, _⟩ := own_cells H.ot hb
      rw [hk]; exact kp _ _ hk (fun e => H.ne b e hb))
    exact own_set otW (own_ne otW qW (by decide))
  · rcases hl b hb with h | h
    · exact H.ne b h e
    · obtain ⟨cs, fr, hk, _⟩ := own_cells H.ot e
      have := lt_of_heap hk; omega
/-- A key more was typed. -/
theorem Jo.typed (H : Jo w B f p q tv cv ty cm S) (hn : ty.length ≤ 1000000) (x : Int) (hB : B ≤ w.heap.size) :
    ∃ a1 k1 W, (Builtin.append_ #[27, 27] 27 #[tv, .slice (some ⟨w.heap.size, 0, none⟩) 1 1]).run Try.prog (w.alloc (.cells #[.int .i64 x] 3)) = .ok (.slice a1 (ty.length + 1) k1) W ∧
      Jo W B f p q (.slice a1 (ty.length + 1) k1) cv (ty ++ [x]) cm S ∧ Below B w W := by
  obtain ⟨a1, k1, W, hr, o1, kp, bW, hl⟩ := app1 H.ot hn x hB
  refine ⟨a1, k1, W, hr, ⟨H.fd.omv (OMv.of_keep kp fun b hb => ?_), kp _ _ H.bp (own_ne H.ot H.bp (by decide)), kp _ _ H.bq (own_ne H.ot H.bq (by decide)), ?_, o1, fun b hb e => ?_, H.lo⟩, bW⟩
  · obtain ⟨cs, fr, hk, _⟩ := own_cells H.ot hb
    exact ⟨cs, _, fr, hk, by decide, by decide, by decide⟩
  · exact own_same H.oc (fun b hb => by
      obtain ⟨cs, fr, hk, _⟩ := own_cells H.oc hb
      rw [hk]; exact kp _ _ hk (H.ne b hb))
  · rcases hl b e with h | h
    · exact H.ne b hb h
    · obtain ⟨cs, fr, hk, _⟩ := own_cells H.oc hb
      have := lt_of_heap hk; omega
end

attribute [-go_sem] Builtin.append_
set_option maxRecDepth 100000 in
set_option maxHeartbeats 4000000 in
/-- A key is taken. -/
theorem take_of {w : World} {B f p q : Nat} {tv cv : Value} {ty cm : List Int} {S : Fs} (H : Jo w B f p q tv cv ty cm S) (hB : B ≤ w.heap.size) (hn : cm.length ≤ 1000000) :
    Calls Try.prog 20 #[pbox p, pbox q] w fun e w' => e = .returned (.bool (decide ((nextF S).1.2.2 ≠ 4))) ∧
      ∃ cv' cm', Jo w' B f p q tv cv' ty cm' (nextF S).2 ∧ (ty = cm ++ S.ty → ty = cm' ++ (nextF S).2.ty) ∧ Below B w w' ∧ cm'.length ≤ cm.length + 1 := by
  have c0 : w.cell? ⟨p, 0, none⟩ = some (pbox f) := by rw [cell_at H.bp]; rfl
  have HX := fnext H.fd
  have key : ∀ w1 : World, FdS w1 B f 1000 (nextF S).2 → FMv B w w1 → Jo w1 B f p q tv cv ty cm (nextF S).2 := fun w1 h1 h2 => H.fmv h1 h2
  unfold triV at HX
  rcases next_cases H.fd.ne0 with ⟨h1, h2, h3⟩ | ⟨x, t, h1, h2, h3⟩ | ⟨h1, h3⟩ | ⟨x, P, t, h1, h3⟩
  · rw [h3] at HX key ⊢
    have HX := Lib.hid HX
    have HK := Lib.hid key
    clear H key
    go_enter Try.func20, Try.ntmps20
    go_wp2_with fail
    refine HX.out.mono ?_; rintro e w1 ⟨rfl, F1, m1⟩
    have HJ := Lib.hid (And.intro (HK.out w1 F1 m1) m1.low)
    clear F1 m1
    go_wp2_with fail
    go_ret
    exact ⟨rfl, _, _, HJ.out.1, fun h => h, HJ.out.2, by omega⟩
  · rw [h3] at HX key ⊢
    have HX := Lib.hid HX
    have HT := Lib.hid h2
    have HQ : Hid (∀ w1, FdS w1 B f 1000 ⟨t, [], 200⟩ → FMv B w w1 → w1.cell? ⟨q, 0, none⟩ = some cv) := fun w1 h1 h2 => by rw [cell_at (key w1 h1 h2).bq]; rfl
    have HK := Lib.hid (fun w1 h1 h2 => (key w1 h1 h2).came hn x (Nat.le_trans hB h2.low.size))
    clear H key h2
    go_enter Try.func20, Try.ntmps20
    go_wp2_with fail
    refine HX.out.mono ?_; rintro e w1 ⟨rfl, F1, m1⟩
    obtain ⟨a1, k1, W, hr, cW, fW, HJ, bW⟩ := HK.out w1 F1 m1
    have HJ := Lib.hid (And.intro HJ (m1.low.trans bW))
    have cq := HQ.out w1 F1 m1
    clear F1 m1 bW
    go_wp2_with fail
    go_ret
    exact ⟨rfl, _, _, HJ.out.1, fun h => by rw [h, HT.out]; simp, HJ.out.2, by simp⟩
  · rw [h3] at HX key ⊢
    have HX := Lib.hid HX
    have HK := Lib.hid key
    clear H key
    go_enter Try.func20, Try.ntmps20
    go_wp2_with fail
    refine HX.out.mono ?_; rintro e w1 ⟨rfl, F1, m1⟩
    have HJ := Lib.hid (And.intro (HK.out w1 F1 m1) m1.low)
    clear F1 m1
    go_wp2_with fail
    go_ret
    exact ⟨rfl, _, _, HJ.out.1, fun h => h, HJ.out.2, by omega⟩
  · rw [h3] at HX key ⊢
    generalize (if t = [] then P else P ++ [t]) = PT at *
    have HX := Lib.hid HX
    have HK := Lib.hid key
    clear H key
    go_enter Try.func20, Try.ntmps20
    go_wp2_with fail
    refine HX.out.mono ?_; rintro e w1 ⟨rfl, F1, m1⟩
    have HJ := Lib.hid (And.intro (HK.out w1 F1 m1) m1.low)
    clear F1 m1
    go_wp2_with fail
    go_ret
    exact ⟨rfl, _, _, HJ.out.1, fun h => h, HJ.out.2, by omega⟩
end Go.Proofs.Ytdkgnmomkimpoaa
