/-
  The document's feed: Next, at this seat's numbers.
-/
import Derived.Test.YtdkgnmomkimpoaaFeR
import Derived.Test.YtdkgnmomkimpoaaFeF
namespace Go.Proofs.Ytdkgnmomkimpoaa
open Go Go.RowKit
set_option linter.unusedVariables false

theorem add_zero' (d : Addr) : d.add 0 = d := by simp [Addr.add]
theorem Sq.first {w : World} {a : Option Addr} {c : Nat} {x : Int} {t : List Int} (h : Sq w a c (x :: t)) : ∃ d, a = some d ∧ w.cell? d = some (.int .i64 x) ∧ d.block < w.heap.size := by
  obtain ⟨d, e, h1, h2⟩ := h.at_ 0 x rfl
  rw [add_zero'] at h1 h2
  exact ⟨d, e, h1, h2⟩
theorem Sq.tail {w : World} {d : Addr} {c : Nat} {x : Int} {t : List Int} (h : Sq w (some d) c (x :: t)) : Sq w (some (d.add 1)) (c - 1) t := by
  refine ⟨fun j y hy => ?_, by have := h.cap; rw [List.length_cons] at this; omega, by have := h.capm; omega⟩
  obtain ⟨d', e, h1, h2⟩ := h.at_ (j + 1) y (by simpa using hy)
  cases e
  exact ⟨_, rfl, by rw [Addr.add_add, Nat.add_comm]; exact h1, by rw [Addr.add_add, Nat.add_comm]; exact h2⟩

section
variable {w0 w w' : World} {B r room : Nat} {tv pv : Value} {S : Fs} {Q : List RwF}
attribute [-go_sem] Builtin.append_
theorem Rf.pform (H : Rf w0 w B r room tv pv S Q) : ∃ a k, pv = .slice a Q.length k := by
  rcases H.op.2 with ⟨h1, h2⟩ | ⟨g, cap, cur, h1, _⟩
  · exact ⟨none, 0, by rw [h1, h2]⟩
  · exact ⟨_, _, h1⟩
/-- The fuel is set. -/
theorem Rf.fuel (H : Rf w0 w B r room tv pv S Q) (n : Nat) : Rf w0 (w.setCell ⟨r, 3, none⟩ (.int .i64 n)) B r room tv pv ⟨S.ty, S.ps, n⟩ Q ∧ RMv B w (w.setCell ⟨r, 3, none⟩ (.int .i64 n)) := by
  obtain ⟨n1, n2, n3⟩ := H.ne
  exact ⟨⟨heap_set_at H.box, H.ot.same (fun b hb => heap_set_other (fun e => n1 (by rw [← e]; exact hb))), own_set H.op (own_ne H.op H.box (by decide)), H.ps, H.sq, H.lo⟩, RMv.set H.box H.lo⟩
/-- The packs are set. -/
theorem Rf.packs (H : Rf w0 w B r room tv pv S Q) {pv' : Value} {Q' : List RwF} (ho : w.ownsRow B 27 1 pv' Q'.length (Q'.map pkV)) (hs : ∀ q ∈ Q', q ∈ Q) :
    Rf w0 (w.setCell ⟨r, 2, none⟩ pv') B r room tv pv' ⟨S.ty, Q'.map (·.2.2), S.fu⟩ Q' ∧ RMv B w (w.setCell ⟨r, 2, none⟩ pv') := by
  obtain ⟨n1, n2, n3⟩ := H.ne
  exact ⟨⟨heap_set_at H.box, H.ot.same (fun b hb => heap_set_other (fun e => n1 (by rw [← e]; exact hb))), own_set ho (own_ne ho H.box (by decide)), rfl, fun q hq => H.sq q (hs q hq), H.lo⟩, RMv.set H.box H.lo⟩
/-- What waits is set. -/
theorem Rf.waits (H : Rf w0 w B r room tv pv S Q) {tv' : Value} {l : List Int} (ho : OwnO w B tv' l) :
    Rf w0 (w.setCell ⟨r, 1, none⟩ tv') B r room tv' pv ⟨l, S.ps, S.fu⟩ Q ∧ RMv B w (w.setCell ⟨r, 1, none⟩ tv') := by
  have n1 : tv'.ownBlock ≠ some r := fun e => by
    obtain ⟨cs, fr, hk, _⟩ := ho.cells e
    rw [H.box] at hk; cases hk
  exact ⟨⟨heap_set_at H.box, ho.same (fun b hb => heap_set_other (fun e => n1 (by rw [← e]; exact hb))), own_set H.op (own_ne H.op H.box (by decide)), H.ps, H.sq, H.lo⟩, RMv.set H.box H.lo⟩

set_option maxRecDepth 100000 in
set_option maxHeartbeats 4000000 in
theorem rnext_none (H : Rf w0 w B r room tv pv S []) (hS : S.ty = []) : Calls Try.prog 33 #[pbox r] w fun e w' => e = .returned (.tuple #[.int .i64 0, .bool false, .int .i64 4]) ∧ w = w' := by
  obtain ⟨ta, tk, rfl⟩ := H.ot.form
  obtain ⟨pa, pk, rfl⟩ := H.pform
  obtain ⟨c0, c1, c2, c3, _⟩ := H.cs
  rw [hS] at c1
  clear H
  go_enter Try.func33, Try.ntmps33
  go_wp2_with fail
  go_ret3
  exact ⟨rfl, rfl⟩

set_option maxRecDepth 100000 in
set_option maxHeartbeats 4000000 in
theorem rnext_typed {x : Int} {t : List Int} (H : Rf w0 w B r room tv pv S []) (hS : S.ty = x :: t) : Calls Try.prog 33 #[pbox r] w fun e w' => e = .returned (.tuple #[.int .i64 x, .bool false, .int .i64 0]) ∧ ∃ tv', Rf w0 w' B r room tv' pv ⟨t, [], 200⟩ [] ∧ RMv B w w' := by
  have hps : S.ps = [] := H.ps.symm
  obtain ⟨pa, pk, rfl⟩ := H.pform
  have ho := H.ot
  rw [hS] at ho
  obtain ⟨g, o, c, rfl, hcell, h2, h3⟩ := ho.at_ (k := 0) rfl
  obtain ⟨h4, m4⟩ := H.waits ho.tail
  obtain ⟨h5, m5⟩ := h4.fuel 200
  obtain ⟨c0, c1, c2, c3, f1, f2, f3⟩ := H.cs
  obtain ⟨d0, d1, d2, d3, e1, e2, e3⟩ := h4.cs
  have HP := Lib.hid (And.intro h5 (m4.trans m5))
  rw [hps] at HP
  rw [Nat.add_zero] at hcell
  rw [List.length_cons] at *
  have hc1 : 1 ≤ c := by omega
  have dz : ((((t.length + 1 : Nat) : Int)) == 0) = false := beq_eq_false_iff_ne.2 (by omega)
  generalize t.length = tn at *
  clear H ho h4 m4 h5 m5
  by_cases hc : c = 1
  · subst hc
    obtain rfl : tn = 0 := by omega
    have e11 : (1 - 1 : Nat) = 0 := rfl
    rw [if_pos rfl, e11] at HP d0 d1 d2 d3 e1 e2 e3
    go_enter Try.func33, Try.ntmps33
    go_wp2_with fail
    go_ret3
    exact ⟨rfl, ⟨_, HP.out.1⟩, HP.out.2⟩
  · rw [if_neg hc] at HP d0 d1 d2 d3 e1 e2 e3
    go_enter Try.func33, Try.ntmps33
    go_wp2_with fail
    go_ret3
    exact ⟨rfl, ⟨_, HP.out.1⟩, HP.out.2⟩

set_option maxRecDepth 100000 in
set_option maxHeartbeats 4000000 in
theorem rnext_out (H : Rf w0 w B r room tv pv S Q) (hQ : Q ≠ []) (hS : S.fu = 0) : Calls Try.prog 33 #[pbox r] w fun e w' => e = .returned (.tuple #[.int .i64 0, .bool false, .int .i64 12]) ∧ Rf w0 w' B r room tv (.slice none 0 0) ⟨S.ty, [], 0⟩ [] ∧ RMv B w w' := by
  obtain ⟨pa, pk, rfl⟩ := H.pform
  obtain ⟨c0, c1, c2, c3, f1, f2, f3⟩ := H.cs
  obtain ⟨h4, m4⟩ := H.packs (pv' := .slice none 0 0) (Q' := []) (t_nil _ _ _ _) (fun q hq => (by cases hq))
  have HP := Lib.hid (And.intro h4 m4)
  rw [hS] at HP c3
  have hp : 0 < Q.length := List.length_pos_iff.2 hQ
  generalize Q.length = qn at *
  clear H h4 m4 hQ
  go_enter Try.func33, Try.ntmps33
  go_wp2_with fail
  go_ret3
  exact ⟨rfl, HP.out⟩
set_option maxRecDepth 100000 in
set_option maxHeartbeats 8000000 in
theorem rnext_pushed {q : RwF} {x : Int} {t : List Int} {n : Nat} (H : Rf w0 w B r room tv pv S (Q ++ [q])) (hq : q.2.2 = x :: t) (hS : S.fu = n + 1) (hn : n < 1000) (hQ : Q.length < 1000) (hB0 : w0.heap.size ≤ B) (hbw : Below w0.heap.size w0 w) (hB : B ≤ w.heap.size) :
    Calls Try.prog 33 #[pbox r] w fun e w' => e = .returned (.tuple #[.int .i64 x, .bool true, .int .i64 0]) ∧ ∃ pv' Q', Rf w0 w' B r room tv pv' ⟨S.ty, if t = [] then Q.map (·.2.2) else Q.map (·.2.2) ++ [t], n⟩ Q' ∧ RMv B w w' := by
  obtain ⟨qa, qc, ql⟩ := q
  simp only at hq
  subst hq
  obtain ⟨pa, pk, rfl⟩ := H.pform
  obtain ⟨c0, c1, c2, c3, f1, f2, f3⟩ := H.cs
  have hsq := (H.sq (qa, qc, x :: t) (by simp)).1
  simp only at hsq
  obtain ⟨d, rfl, hx0, hd⟩ := hsq.first
  have hop := H.op
  have hlen : (Q ++ [((some d, qc, x :: t) : RwF)]).length = Q.length + 1 := by simp
  rw [List.map_append, hlen] at hop
  rw [hlen] at c2
  rw [hS] at c3
  obtain ⟨o1, g, rfl, cg, hk1, hk2⟩ := own_last hop (by simp)
  replace cg : w.cell? ⟨g, Q.length, none⟩ = some (.slice (some d) (t.length + 1) qc) := cg
  obtain ⟨h4, m4⟩ := H.packs o1 (fun q hq => by simp [hq])
  have hcap := hsq.cap
  have hcapm := hsq.capm
  rw [List.length_cons] at hcap
  have b4 : Below w0.heap.size w0 (w.setCell ⟨r, 2, none⟩ (.slice (some ⟨g, 0, none⟩) Q.length pk)) := hbw.trans (m4.low.mono hB0)
  obtain ⟨u0, u1, u2, u3, v1, v2, v3⟩ := h4.cs
  have hB4 : B ≤ (w.setCell ⟨r, 2, none⟩ (.slice (some ⟨g, 0, none⟩) Q.length pk)).heap.size := by rw [size_set]; exact hB
  by_cases ht : t = []
  · subst ht
    obtain ⟨h5, m5⟩ := h4.fuel n
    have b5 := b4.trans (m5.low.mono hB0)
    have x5 := (b5.cell hd).trans hx0
    have HP := Lib.hid (And.intro h5 (m4.trans m5))
    rw [if_pos rfl]
    generalize Q.length = qn at *
    clear H hop o1 h4 m4 h5 m5 b4 b5 hsq hbw
    go_enter Try.func33, Try.ntmps33
    go_wp2_with fail
    go_ret3
    exact ⟨rfl, ⟨_, _, HP.out.1⟩, HP.out.2⟩
  · have hpos : 0 < t.length := List.length_pos_iff.2 ht
    obtain ⟨W1, hW1⟩ : ∃ W1, w.setCell ⟨r, 2, none⟩ (.slice (some ⟨g, 0, none⟩) Q.length pk) = W1 := ⟨_, rfl⟩
    rw [hW1] at h4 m4 b4 u0 u1 u2 u3 v1 v2 v3 hB4
    have dr := (Below.refl W1.heap.size W1).drew
    have h4d := h4.below dr
    obtain ⟨a1, k1, W2, hrun, cW, fW, h5, m5⟩ := h4d.pushed (some (d.add 1), qc - 1, t) ⟨hsq.tail, ht⟩ (by omega) hB4
    have hrun : (Builtin.append_ #[32, 32] 32 #[.slice (some ⟨g, 0, none⟩) Q.length pk, .slice (some ⟨W1.heap.size, 0, none⟩) 1 1]).run Try.prog (W1.alloc (.cells #[.slice (some ⟨d.block, d.off + 1, none⟩) t.length (qc - 1)] 27)).drew = .ok (.slice a1 (Q.length + 1) k1) W2 := hrun
    have m4d : RMv B w W1.drew := m4.trans ⟨(Below.refl B W1).drew, fun _ _ h _ => h⟩
    obtain ⟨W3, hW3⟩ : ∃ W3, W2.setCell ⟨r, 2, none⟩ (.slice a1 (Q.length + 1) k1) = W3 := ⟨_, rfl⟩
    rw [hW3] at h5 m5
    obtain ⟨y0, y1, y2, y3, z1, z2, z3⟩ := h5.cs
    obtain ⟨h6, m6⟩ := h5.fuel n
    have m56 := m4d.trans (m5.trans m6)
    have b6 := hbw.trans (m56.low.mono hB0)
    have x6 := (b6.cell hd).trans hx0
    have u2a : ∀ o, (W1.alloc o).cell? ⟨r, 2, none⟩ = _ := fun o => (World.cell?_alloc_lt W1 o ⟨r, 2, none⟩ (lt_of_heap h4.box)).trans u2
    have HP := Lib.hid (And.intro h6 m56)
    rw [if_neg ht]
    have dl : decide ((1 : Int) < ((t.length + 1 : Nat) : Int)) = true := decide_eq_true (by omega)
    have hq1 : ¬ qc = 1 := by omega
    generalize t.length = tl at *
    generalize Q.length = qn at *
    clear H hop o1 h4 m4 h5 m5 b4 hsq hbw h4d dr m4d h6 m6 m56 b6 ht
    go_enter Try.func33, Try.ntmps33
    go_wp2_with fail
    go_big_region
    go_wp2_with fail
    go_ret3
    exact ⟨rfl, _, _, HP.out.1, HP.out.2⟩
/-- Next hands over the same of both. -/
theorem rnext (H : Rf w0 w B r room tv pv S Q) (hp : S.ps.length ≤ 8) (hf : S.fu ≤ 200) (hB0 : w0.heap.size ≤ B) (hbw : Below w0.heap.size w0 w) (hB : B ≤ w.heap.size) :
    Calls Try.prog 33 #[pbox r] w fun e w' => e = .returned (triV (nextF S).1) ∧ ∃ tv' pv' Q', Rf w0 w' B r room tv' pv' (nextF S).2 Q' ∧ RMv B w w' := by
  have hps := H.ps
  rcases List.eq_nil_or_concat Q with rfl | ⟨Q', q, rfl⟩
  · simp only [List.map_nil] at hps
    obtain ⟨ty, ps, fu⟩ := S
    simp only at hps
    subst hps
    cases ty with
    | nil =>
      refine (rnext_none H rfl).mono ?_
      rintro e w' ⟨rfl, rfl⟩
      exact ⟨rfl, _, _, _, H, RMv.refl _ _⟩
    | cons x t =>
      refine (rnext_typed H rfl).mono ?_
      rintro e w' ⟨rfl, tv', h1, h2⟩
      exact ⟨rfl, _, _, _, h1, h2⟩
  · rw [List.concat_eq_append] at H hps
    have hl := (H.sq q (by simp)).2
    have hQ : (Q' ++ [q]).length ≤ 8 := by rw [← hps, List.length_map] at hp; exact hp
    rw [List.length_append] at hQ
    obtain ⟨x, t, hxt⟩ : ∃ x t, q.2.2 = x :: t := by
      cases h : q.2.2 with
      | nil => exact absurd h hl
      | cons x t => exact ⟨x, t, rfl⟩
    have hrev : S.ps.reverse = (x :: t) :: (Q'.map (·.2.2)).reverse := by rw [← hps]; simp [hxt]
    unfold nextF
    simp only [hrev]
    by_cases h0 : S.fu = 0
    · rw [if_pos h0]
      refine (rnext_out H (by simp) h0).mono ?_
      rintro e w' ⟨rfl, h1, h2⟩
      exact ⟨rfl, _, _, _, h1, h2⟩
    · rw [if_neg h0, List.reverse_reverse]
      obtain ⟨n, hn⟩ : ∃ n, S.fu = n + 1 := ⟨S.fu - 1, by omega⟩
      refine (rnext_pushed H hxt hn (by omega) (by simp at hQ; omega) hB0 hbw hB).mono ?_
      rintro e w' ⟨rfl, pv', Q'', h1, h2⟩
      have e1 : S.fu - 1 = n := by omega
      rw [e1]
      exact ⟨rfl, _, _, _, h1, h2⟩
end
end Go.Proofs.Ytdkgnmomkimpoaa
