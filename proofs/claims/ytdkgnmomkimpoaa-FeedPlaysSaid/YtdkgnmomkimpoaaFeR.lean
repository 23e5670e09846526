/-
  The document's feed: New, Type, Push, at this seat's numbers.
-/
import Derived.Test.YtdkgnmomkimpoaaFeQ
namespace Go.Proofs.Ytdkgnmomkimpoaa
open Go Go.RowKit
set_option linter.unusedVariables false

abbrev RwF := Option Addr × Nat × List Int
def pkV (q : RwF) : Value := .slice q.1 q.2.2.length q.2.1
/-- The document's feed: its box at r; what its packs hold lies as in w0. -/
structure Rf (w0 w : World) (B r room : Nat) (tv pv : Value) (S : Fs) (Q : List RwF) : Prop where
  box : w.heap[r]? = some (.cells #[.int .i64 room, tv, pv, .int .i64 S.fu] 34 (0, 0))
  ot : OwnO w B tv S.ty
  op : w.ownsRow B 27 1 pv Q.length (Q.map pkV)
  ps : Q.map (·.2.2) = S.ps
  sq : ∀ q ∈ Q, Sq w0 q.1 q.2.1 q.2.2 ∧ q.2.2 ≠ []
  lo : B ≤ r
/-- What its calls leave as it was. -/
structure RMv (B : Nat) (w w' : World) : Prop where
  low : Below B w w'
  oth : ∀ (k : Nat) (o : Obj), w.heap[k]? = some o → (∀ (cs : Array Value) (t : TypeId) (fr : Nat × Nat), o = .cells cs t fr → t ≠ 34 ∧ t ≠ 27 ∧ t ≠ 3) → w'.heap[k]? = some o
theorem RMv.refl (B : Nat) (w : World) : RMv B w w := ⟨Below.refl _ _, fun _ _ h _ => h⟩
theorem RMv.trans {B : Nat} {a b c : World} (h : RMv B a b) (k : RMv B b c) : RMv B a c := ⟨h.low.trans k.low, fun i o e ht => k.oth i o (h.oth i o e ht) ht⟩
theorem RMv.keep {B : Nat} {w w' : World} {u : Option Nat} (hl : Below B w w') (h : ∀ (k : Nat) (o : Obj), w.heap[k]? = some o → u ≠ some k → w'.heap[k]? = some o) (hu : ∀ b, u = some b → ∃ cs t fr, w.heap[b]? = some (.cells cs t fr) ∧ (t = 34 ∨ t = 27 ∨ t = 3)) : RMv B w w' :=
  ⟨hl, fun k o hk ht => h k o hk fun e => by
    obtain ⟨cs, t, fr, hb, h1⟩ := hu k e
    rw [hk] at hb
    cases hb
    obtain ⟨n1, n2, n3⟩ := ht cs t fr rfl
    rcases h1 with h | h | h <;> contradiction⟩
theorem RMv.set {B p i : Nat} {w : World} {u : Value} {cs : Array Value} {fr : Nat × Nat} (hp : w.heap[p]? = some (.cells cs 34 fr)) (hB : B ≤ p) : RMv B w (w.setCell ⟨p, i, none⟩ u) :=
  RMv.keep (u := some p) ((Below.refl B w).setCell (p := ⟨p, i, none⟩) hB u) (fun k o hk hne => (heap_set_other (fun e => hne (by rw [e]))).trans hk) (fun b hb => by cases hb; exact ⟨_, _, _, hp, .inl rfl⟩)
theorem FdS.rmv {w w' : World} {B B' f room : Nat} {S : Fs} (H : FdS w B f room S) (hm : RMv B' w w') : FdS w' B f room S :=
  H.omv fun k o hk ht => hm.oth k o hk fun cs t fr e => by
    rcases ht cs t fr e with h | h | h <;> subst h <;> exact ⟨by decide, by decide, by decide⟩

section
variable {w0 w w' : World} {B r room : Nat} {tv pv : Value} {S : Fs} {Q : List RwF}
theorem Rf.fmv {B' : Nat} (H : Rf w0 w B r room tv pv S Q) (hm : FMv B' w w') : Rf w0 w' B r room tv pv S Q :=
  ⟨(hm.oth _ _ _ _ H.box (by decide) (by decide) (by decide)).trans H.box,
    H.ot.same (fun b hb => by obtain ⟨cs, fr, hk, _⟩ := H.ot.cells hb; exact hm.oth _ _ _ _ hk (by decide) (by decide) (by decide)),
    own_same H.op (fun b hb => by obtain ⟨cs, fr, hk, _⟩ := own_cells H.op hb; exact hm.oth _ _ _ _ hk (by decide) (by decide) (by decide)), H.ps, H.sq, H.lo⟩
theorem Rf.below (H : Rf w0 w B r room tv pv S Q) (hb : Below w.heap.size w w') : Rf w0 w' B r room tv pv S Q :=
  ⟨(hb.block _ (lt_of_heap H.box)).trans H.box, H.ot.same (fun b h => by obtain ⟨cs, fr, hk, _⟩ := H.ot.cells h; exact hb.block _ (lt_of_heap hk)), own_below H.op hb, H.ps, H.sq, H.lo⟩
theorem Rf.cs (H : Rf w0 w B r room tv pv S Q) : w.cell? ⟨r, 0, none⟩ = some (.int .i64 room) ∧ w.cell? ⟨r, 1, none⟩ = some tv ∧ w.cell? ⟨r, 2, none⟩ = some pv ∧ w.cell? ⟨r, 3, none⟩ = some (.int .i64 S.fu) ∧ w.frozen? ⟨r, 1, none⟩ = false ∧ w.frozen? ⟨r, 2, none⟩ = false ∧ w.frozen? ⟨r, 3, none⟩ = false :=
  ⟨by rw [cell_at H.box]; rfl, by rw [cell_at H.box]; rfl, by rw [cell_at H.box]; rfl, by rw [cell_at H.box]; rfl, unfrozen H.box 1, unfrozen H.box 2, unfrozen H.box 3⟩
theorem Rf.ne (H : Rf w0 w B r room tv pv S Q) : tv.ownBlock ≠ some r ∧ pv.ownBlock ≠ some r ∧ ∀ b, tv.ownBlock = some b → pv.ownBlock ≠ some b := by
  refine ⟨fun e => ?_, own_ne H.op H.box (by decide), fun b hb e => ?_⟩
  · obtain ⟨cs, fr, hk, _⟩ := H.ot.cells e
    rw [H.box] at hk; cases hk
  · obtain ⟨cs, fr, hk, _⟩ := H.ot.cells hb
    obtain ⟨cs', fr', hk', _⟩ := own_cells H.op e
    rw [hk] at hk'; cases hk'

/-- A key more waits. -/
theorem Rf.typed (H : Rf w0 w B r room tv pv S Q) (hn : S.ty.length ≤ 1000000) (x : Int) (hB : B ≤ w.heap.size) :
    ∃ a1 k1 W, (Builtin.append_ #[27, 27] 27 #[tv, .slice (some ⟨w.heap.size, 0, none⟩) 1 1]).run Try.prog (w.alloc (.cells #[.int .i64 x] 3)) = .ok (.slice a1 (S.ty.length + 1) k1) W ∧ W.cell? ⟨r, 1, none⟩ = some tv ∧ W.frozen? ⟨r, 1, none⟩ = false ∧
      Rf w0 (W.setCell ⟨r, 1, none⟩ (.slice a1 (S.ty.length + 1) k1)) B r room (.slice a1 (S.ty.length + 1) k1) pv ⟨S.ty ++ [x], S.ps, S.fu⟩ Q ∧ RMv B w (W.setCell ⟨r, 1, none⟩ (.slice a1 (S.ty.length + 1) k1)) := by
  obtain ⟨a1, k1, W, hr, o1, kp, bW, hl⟩ := H.ot.app hn x hB
  obtain ⟨n1, n2, n3⟩ := H.ne
  have rW := kp _ _ H.box n1
  have nr : (Value.slice a1 (S.ty.length + 1) k1).ownBlock ≠ some r := fun e => by
    obtain ⟨cs, fr, hk, _⟩ := o1.cells e
    rw [rW] at hk; cases hk
  have opW : W.ownsRow B 27 1 pv Q.length (Q.map pkV) := own_same H.op (fun b hb => by
    obtain ⟨cs, fr, hk, _⟩ := own_cells H.op hb
    rw [hk]; exact kp _ _ hk (fun e => n3 b e hb))
  refine ⟨a1, k1, W, hr, by rw [cell_at rW]; rfl, unfrozen rW 1, ⟨heap_set_at rW, o1.same (fun b hb => heap_set_other (fun e => nr (by rw [← e]; exact hb))), own_set opW (own_ne opW rW (by decide)), H.ps, H.sq, H.lo⟩, ?_⟩
  refine (RMv.keep bW kp fun b hb => ?_).trans (RMv.set rW H.lo)
  obtain ⟨cs, fr, hk, _⟩ := H.ot.cells hb
  exact ⟨cs, _, fr, hk, .inr (.inr rfl)⟩

attribute [-go_sem] Builtin.append_
set_option maxRecDepth 100000 in
set_option maxHeartbeats 4000000 in
theorem rtype (H : Rf w0 w B r room tv pv S Q) (hn : S.ty.length ≤ 1000000) (x : Int) (hB : B ≤ w.heap.size) :
    Calls Try.prog 31 #[pbox r, .int .i64 x] w fun e w' => e = .returned (.bool (decide (S.ty.length < room))) ∧ ∃ tv', Rf w0 w' B r room tv' pv ⟨if S.ty.length < room then S.ty ++ [x] else S.ty, S.ps, S.fu⟩ Q ∧ RMv B w w' := by
  obtain ⟨a, k, rfl⟩ := H.ot.form
  have H1 : Rf w0 w.drew B r room (.slice a S.ty.length k) pv S Q := H.below (Below.refl _ _).drew
  obtain ⟨c0, c1, _⟩ := H1.cs
  by_cases hr : S.ty.length < room
  · have d : decide ((room : Int) ≤ (S.ty.length : Int)) = false := decide_eq_false (by omega)
    have H2 := H1.below (Below.refl _ _).drew
    obtain ⟨a1, k1, W, hrun, cW, fW, hJ, hM⟩ := H1.typed hn x hB
    have hrun : (Builtin.append_ #[27, 27] 27 #[.slice a S.ty.length k, .slice (some ⟨w.heap.size, 0, none⟩) 1 1]).run Try.prog (w.alloc (.cells #[.int .i64 x] 3)).drew = .ok (.slice a1 (S.ty.length + 1) k1) W := hrun
    have HP := Lib.hid (And.intro hJ (RMv.trans ⟨(Below.refl B w).drew, fun _ _ h _ => h⟩ hM))
    rw [decide_eq_true hr, if_pos hr]
    generalize S.ty.length = tn at *
    clear hJ hM H H1 H2
    go_enter Try.func31, Try.ntmps31
    go_wp2_with fail
    go_big_region
    go_wp2_with fail
    go_ret
    exact ⟨rfl, _, HP.out⟩
  · have d : decide ((room : Int) ≤ (S.ty.length : Int)) = true := decide_eq_true (by omega)
    have HP := Lib.hid (And.intro H1 (show RMv B w w.drew from ⟨(Below.refl B w).drew, fun _ _ h _ => h⟩))
    rw [decide_eq_false hr, if_neg hr]
    generalize S.ty.length = tn at *
    clear H H1
    go_enter Try.func31, Try.ntmps31
    go_wp2_with fail
    go_big_region
    go_wp2_with fail
    go_ret
    exact ⟨rfl, _, HP.out⟩

theorem info_rows : (Try.prog.info? 27).map (fun i => (i.zero, i.size, i.bytes)) = some (some (.slice none 0 0), 1, 24) := by kernel_rfl
/-- A pack on top. -/
theorem Rf.pushed (H : Rf w0 w B r room tv pv S Q) (q : RwF) (hq : Sq w0 q.1 q.2.1 q.2.2 ∧ q.2.2 ≠ []) (hn : Q.length ≤ 1000) (hB : B ≤ w.heap.size) :
    ∃ a1 k1 W, (Builtin.append_ #[32, 32] 32 #[pv, .slice (some ⟨w.heap.size, 0, none⟩) 1 1]).run Try.prog (w.alloc (.cells #[pkV q] 27)) = .ok (.slice a1 (Q.length + 1) k1) W ∧ W.cell? ⟨r, 2, none⟩ = some pv ∧ W.frozen? ⟨r, 2, none⟩ = false ∧
      Rf w0 (W.setCell ⟨r, 2, none⟩ (.slice a1 (Q.length + 1) k1)) B r room tv (.slice a1 (Q.length + 1) k1) ⟨S.ty, S.ps ++ [q.2.2], S.fu⟩ (Q ++ [q]) ∧ RMv B w (W.setCell ⟨r, 2, none⟩ (.slice a1 (Q.length + 1) k1)) := by
  obtain ⟨i0, hi0, hz0, hz1, hz2⟩ := info_parts info_rows
  obtain ⟨n1, n2, n3⟩ := H.ne
  have al := t_al w (.cells #[pkV q] 27)
  have hc := heap_alloc_new w (.cells #[pkV q] 27)
  have hz : (w.alloc (.cells #[pkV q] 27)).heap.size = w.heap.size + 1 := by simp
  obtain ⟨v', W, hr, o1, g1, _, l1⟩ := run_append_own_at (P := Try.prog) (w.alloc (.cells #[pkV q] 27)) B 32 32 27 i0 (.slice none 0 0) 1 24 Try.underlying32 hi0 hz0 hz1 hz2 rfl (by decide) pv Q.length (Q.map pkV) (own_below H.op al) ⟨w.heap.size, 0, none⟩ 1 1 [pkV q] rfl
    (by intro j u hu; rw [Addr.add_lit, Nat.zero_add, cell_at hc]; simpa using hu) (by intro u hu; rw [List.mem_singleton.1 hu]; rfl) (by unfold maxLen; omega) (by omega) (by omega)
  generalize w.alloc (.cells #[pkV q] 27) = w3 at *
  have hf : ∃ a1 k1, v' = .slice a1 (Q.length + 1) k1 := by
    rcases o1.2 with ⟨h1, h2'⟩ | ⟨g, cap, cur, h1, _⟩
    · simp at h2'
    · exact ⟨_, _, h1⟩
  obtain ⟨a1, k1, rfl⟩ := hf
  have kp : ∀ (k : Nat) (o : Obj), w.heap[k]? = some o → pv.ownBlock ≠ some k → W.heap[k]? = some o := fun k o hk hne => by
    rw [g1.block k (by have := lt_of_heap hk; omega) (fun e => hne e.symm), al.block k (lt_of_heap hk)]; exact hk
  have rW := kp _ _ H.box n2
  have nr := own_ne o1 rW (by decide)
  have bW : Below B w W := (al.mono hB).grown g1 (by omega) (fun k e => by
    obtain ⟨_, _, _, hge⟩ := own_cells H.op e
    exact hge)
  have otW : OwnO W B tv S.ty := H.ot.same (fun b hb => by
    obtain ⟨cs, fr, hk, _⟩ := H.ot.cells hb
    rw [hk]; exact kp _ _ hk (n3 b hb))
  refine ⟨a1, k1, W, hr, by rw [cell_at rW]; rfl, unfrozen rW 2, ⟨heap_set_at rW, otW.same (fun b hb => heap_set_other (fun e => n1 (by rw [← e]; exact hb))), ?_, by rw [List.map_append, H.ps]; rfl, fun x hx => ?_, H.lo⟩, ?_⟩
  · rw [List.length_append, List.map_append]; exact own_set o1 nr
  · rcases List.mem_append.1 hx with hx | hx
    · exact H.sq x hx
    · rw [List.mem_singleton.1 hx]; exact hq
  · refine (RMv.keep bW kp fun b hb => ?_).trans (RMv.set rW H.lo)
    obtain ⟨cs, fr, hk, _⟩ := own_cells H.op hb
    exact ⟨cs, _, fr, hk, .inr (.inl rfl)⟩

set_option maxRecDepth 100000 in
set_option maxHeartbeats 4000000 in
theorem rpush (H : Rf w0 w B r room tv pv S Q) (hB : B ≤ w.heap.size) {a : Option Addr} {k : Nat} {l : List Int} (hs : Sq w0 a k l) (hQ : S.ps.length ≤ 8) :
    Calls Try.prog 32 #[pbox r, .slice a l.length k] w fun e w' => e = .returned (.int .i64 (pushE l S.ps.length)) ∧ ∃ pv' Q', Rf w0 w' B r room tv pv' ⟨S.ty, pushP S.ps l, S.fu⟩ Q' ∧ RMv B w w' := by
  obtain ⟨a', k', rfl⟩ : ∃ a' k', pv = .slice a' Q.length k' := by
    rcases H.op.2 with ⟨h1, h2⟩ | ⟨g, cap, cur, h1, _⟩
    · exact ⟨none, 0, by rw [h1, h2]⟩
    · exact ⟨_, _, h1⟩
  obtain ⟨c0, c1, c2, c3, _⟩ := H.cs
  have eQ : S.ps.length = Q.length := by rw [← H.ps, List.length_map]
  have hnil : (l = []) ↔ l.length = 0 := by rw [List.length_eq_zero_iff]
  have hlm : l.length ≤ maxLen := Nat.le_trans hs.cap hs.capm
  by_cases h1 : 100 < l.length
  · have eE : pushE l S.ps.length = 7 := by unfold pushE; rw [if_pos h1]
    have eP : pushP S.ps l = S.ps := by unfold pushP; rw [if_pos (.inl h1)]
    rw [eE, eP]
    have HP := Lib.hid H
    generalize l.length = n at *
    clear H eE eP hnil
    go_enter Try.func32, Try.ntmps32
    go_wp2_with fail
    go_ret
    exact ⟨rfl, _, _, HP.out, RMv.refl _ _⟩
  · by_cases h2 : l = []
    · have eE : pushE l S.ps.length = 0 := by unfold pushE; rw [if_neg h1, if_pos h2]
      have eP : pushP S.ps l = S.ps := by unfold pushP; rw [if_pos (.inr (.inl h2))]
      rw [eE, eP]
      have HP := Lib.hid H
      have hz : l.length = 0 := hnil.1 h2
      rw [hz]
      clear H eE eP hnil h1 h2 hz
      go_enter Try.func32, Try.ntmps32
      go_wp2_with fail
      go_ret
      exact ⟨rfl, _, _, HP.out, RMv.refl _ _⟩
    · have hp : 0 < l.length := List.length_pos_iff.2 h2
      have d1 : decide ((100 : Int) < (l.length : Int)) = false := decide_eq_false (by omega)
      have d2 : ((l.length : Int) == 0) = false := beq_eq_false_iff_ne.2 (by omega)
      by_cases h3 : S.ps.length = 8
      · have eE : pushE l S.ps.length = 6 := by unfold pushE; rw [if_neg h1, if_neg h2, if_pos h3]
        have eP : pushP S.ps l = S.ps := by unfold pushP; rw [if_pos (.inr (.inr h3))]
        rw [eE, eP]
        have hq8 : Q.length = 8 := by omega
        rw [hq8] at c2
        have HP := Lib.hid H
        generalize l.length = n at *
        clear H eE eP hnil
        go_enter Try.func32, Try.ntmps32
        go_wp2_with fail
        go_ret
        exact ⟨rfl, _, _, HP.out, RMv.refl _ _⟩
      · have eE : pushE l S.ps.length = 0 := by unfold pushE; rw [if_neg h1, if_neg h2, if_neg h3]
        have eP : pushP S.ps l = S.ps ++ [l] := by unfold pushP; rw [if_neg (by intro h; rcases h with h | h | h <;> contradiction)]
        rw [eE, eP]
        obtain ⟨a1, k1, W, hrun, cW, fW, hJ, hM⟩ := H.pushed (a, k, l) ⟨hs, h2⟩ (by omega) hB
        have hrun : (Builtin.append_ #[32, 32] 32 #[.slice a' Q.length k', .slice (some ⟨w.heap.size, 0, none⟩) 1 1]).run Try.prog (w.alloc (.cells #[.slice a l.length k] 27)) = .ok (.slice a1 (Q.length + 1) k1) W := hrun
        have d3 : decide ((7 : Int) < (Q.length : Int)) = false := decide_eq_false (by omega)
        have HP := Lib.hid (And.intro hJ hM)
        generalize l.length = n at *
        generalize Q.length = qn at *
        clear H eE eP hnil hJ hM
        go_enter Try.func32, Try.ntmps32
        go_wp2_with fail
        go_ret
        exact ⟨rfl, ⟨_, _, HP.out.1⟩, HP.out.2⟩

set_option maxRecDepth 100000 in
theorem rnew (x : Int) (w : World) : Calls Try.prog 11 #[.int .i64 x] w fun e w' => ∃ r, e = .returned (pbox r) ∧ Rf w0 w' w.heap.size r (roomOf x) (.slice none 0 0) (.slice none 0 0) ⟨[], [], 200⟩ [] ∧ Below w.heap.size w w' := by
  have e := roomOf_eq x
  generalize roomOf x = n at *
  have HF : Hid (Rf w0 (w.alloc (.cells #[.int .i64 n, .slice none 0 0, .slice none 0 0, .int .i64 200] 34)) w.heap.size w.heap.size n (.slice none 0 0) (.slice none 0 0) ⟨[], [], 200⟩ []) :=
    ⟨heap_alloc_new w _, .inl ⟨rfl, rfl⟩, t_nil _ _ _ _, rfl, fun q hq => (by cases hq), Nat.le_refl _⟩
  have HB := Lib.hid (t_al w (.cells #[.int .i64 n, .slice none 0 0, .slice none 0 0, .int .i64 200] 34))
  rcases (show x < 1 ∨ (1 ≤ x ∧ x ≤ 1000) ∨ 1000 < x by omega) with h | ⟨h1, h2⟩ | h
  · have en : n = 1 := by omega
    subst en
    have d : decide (x < 1) = true := decide_eq_true h
    go_enter Try.func11, Try.ntmps11
    go_wp2_with fail
    go_ret
    exact ⟨_, rfl, HF.out, HB.out⟩
  · have en : x = n := by omega
    subst en
    have d : decide ((n : Int) < 1) = false := decide_eq_false (by omega)
    have d2 : decide ((1000 : Int) < (n : Int)) = false := decide_eq_false (by omega)
    clear e
    go_enter Try.func11, Try.ntmps11
    go_wp2_with fail
    go_ret
    exact ⟨_, rfl, HF.out, HB.out⟩
  · have en : n = 1000 := by omega
    subst en
    have d : decide (x < 1) = false := decide_eq_false (by omega)
    have d2 : decide (1000 < x) = true := decide_eq_true h
    go_enter Try.func11, Try.ntmps11
    go_wp2_with fail
    go_ret
    exact ⟨_, rfl, HF.out, HB.out⟩
end
end Go.Proofs.Ytdkgnmomkimpoaa
