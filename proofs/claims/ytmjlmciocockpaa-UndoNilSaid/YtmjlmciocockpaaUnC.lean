/-
  What undo's calls tell of a tree of states; sink, at this seat's numbers.
-/
import Derived.Test.YtmjlmciocockpaaUnB
namespace Go.Proofs.Ytmjlmciocockpaa
open Go Go.RowKit Go.Shelf
set_option linter.unusedVariables false

theorem uhas_of {w : World} {B T s m q : Nat} {t : Qt} {R : List Int} {D : DataW Unit} {L : List Sn} {here last : Int} (h : Us w B T s m q t R D L here last) :
    Calls Try.prog 18 #[pbox T] w fun e w' => e = .returned (pbox s) ∧ w = w' := by
  obtain ⟨c0, _⟩ := h.cells
  clear h
  go_enter Try.func18, Try.ntmps18
  go_wp2_with fail
  go_ret
  exact ⟨rfl, rfl⟩
theorem uhere_of {w : World} {B T s m q : Nat} {t : Qt} {R : List Int} {D : DataW Unit} {L : List Sn} {here last : Int} (h : Us w B T s m q t R D L here last) :
    Calls Try.prog 12 #[pbox T] w fun e w' => e = .returned (.int .i64 here) ∧ w = w' := by
  obtain ⟨_, _, _, c2, _⟩ := h.cells
  have HH := Lib.hid (uhas_of h)
  clear h
  go_enter Try.func12, Try.ntmps12
  go_wp2_with fail
  refine HH.out.mono ?_; rintro e w1 ⟨rfl, rfl⟩
  go_wp2_with fail
  go_ret
  exact ⟨rfl, rfl⟩
theorem ulen_of {w : World} {B T s m q : Nat} {t : Qt} {R : List Int} {D : DataW Unit} {L : List Sn} {here last : Int} (h : Us w B T s m q t R D L here last) :
    Calls Try.prog 13 #[pbox T] w fun e w' => e = .returned (.int .i64 L.length) ∧ w = w' := by
  obtain ⟨_, c0, _⟩ := h.cells
  have hl := h.llen
  have HH := Lib.hid (uhas_of h)
  clear h
  go_enter Try.func13, Try.ntmps13
  go_wp2_with fail
  refine HH.out.mono ?_; rintro e w1 ⟨rfl, rfl⟩
  go_wp2_with fail
  go_ret
  exact ⟨rfl, rfl⟩

/-- A number, if it is one. -/
def orN (x : Int) : Value := .tuple #[.int .i64 (if x = -1 then 0 else x), .bool (!decide (x = -1))]
set_option maxRecDepth 100000 in
theorem uparent_of {w : World} {B T s m q : Nat} {t : Qt} {R : List Int} {D : DataW Unit} {L : List Sn} {here last : Int} (h : Us w B T s m q t R D L here last) {x : Sn} (hx : x ∈ L) :
    Calls Try.prog 9 #[pbox T, .int .i64 x.n] w fun e w' => e = .returned (orN x.up) ∧ w = w' := by
  obtain ⟨_, c0, _⟩ := h.cells
  obtain ⟨l1, l2⟩ := h.look hx
  obtain ⟨s0, s1, s2, s3⟩ := h.state hx
  have HH := Lib.hid (uhas_of h)
  obtain ⟨n, up, nx, b, d⟩ := x
  simp only at l1 l2 s0 s1 s2 s3 ⊢
  clear h hx l1
  unfold orN
  by_cases e : up = -1
  · subst e
    go_enter Try.func9, Try.ntmps9
    go_wp2_with fail
    refine HH.out.mono ?_; rintro e w1 ⟨rfl, rfl⟩
    go_wp2_with fail
    go_ret2
    exact ⟨rfl, rfl⟩
  · have n1 : (up == -1) = false := beq_eq_false_iff_ne.2 e
    rw [if_neg e, decide_eq_false e]
    clear e
    go_enter Try.func9, Try.ntmps9
    go_wp2_with fail
    refine HH.out.mono ?_; rintro e w1 ⟨rfl, rfl⟩
    go_wp2_with fail
    go_ret2
    exact ⟨rfl, rfl⟩
set_option maxRecDepth 100000 in
theorem unext_of {w : World} {B T s m q : Nat} {t : Qt} {R : List Int} {D : DataW Unit} {L : List Sn} {here last : Int} (h : Us w B T s m q t R D L here last) {x : Sn} (hx : x ∈ L) :
    Calls Try.prog 10 #[pbox T, .int .i64 x.n] w fun e w' => e = .returned (orN x.nx) ∧ w = w' := by
  obtain ⟨_, c0, _⟩ := h.cells
  obtain ⟨l1, l2⟩ := h.look hx
  obtain ⟨s0, s1, s2, s3⟩ := h.state hx
  have HH := Lib.hid (uhas_of h)
  obtain ⟨n, up, nx, b, d⟩ := x
  simp only at l1 l2 s0 s1 s2 s3 ⊢
  clear h hx l1
  unfold orN
  by_cases e : nx = -1
  · subst e
    go_enter Try.func10, Try.ntmps10
    go_wp2_with fail
    refine HH.out.mono ?_; rintro e w1 ⟨rfl, rfl⟩
    go_wp2_with fail
    go_ret2
    exact ⟨rfl, rfl⟩
  · have n1 : (nx == -1) = false := beq_eq_false_iff_ne.2 e
    rw [if_neg e, decide_eq_false e]
    clear e
    go_enter Try.func10, Try.ntmps10
    go_wp2_with fail
    refine HH.out.mono ?_; rintro e w1 ⟨rfl, rfl⟩
    go_wp2_with fail
    go_ret2
    exact ⟨rfl, rfl⟩

theorem Us.drew {w : World} {B T s m q : Nat} {t : Qt} {R : List Int} {D : DataW Unit} {L : List Sn} {here last : Int} (h : Us w B T s m q t R D L here last) : Us w.drew B T s m q t R D L here last :=
  h.same rfl rfl rfl (fun _ _ => rfl) (h.que.same fun _ _ => rfl) h.mne h.lo.2.2.2.1

set_option maxRecDepth 100000 in
set_option maxHeartbeats 4000000 in
/-- A state is here whose parent was. -/
theorem sink_of {w : World} {B T s m q : Nat} {t : Qt} {R : List Int} {D : DataW Unit} {L : List Sn} {last : Int} {x y : Sn} (h : Us w B T s m q t R D L y.n last) (hx : x ∈ L) (hy : y ∈ L) (hB : B ≤ w.heap.size) :
    Calls Try.prog 17 #[pbox s, .int .i64 x.n] w fun e w' => e = .returned x.d ∧ Us w' B T s m q t R D (setX L y.b x.n) x.n last ∧ Below B w w' := by
  have h1 := h.drew
  obtain ⟨ct, c0, c1, c2, c3, f2, f3⟩ := h1.cells
  have l1 := (h1.look hy).1
  obtain ⟨s0, s1, s2, s3⟩ := h1.state hy
  have h2 := h1.setNx hy x.n
  have b2 : Below B w (w.drew.setCell ⟨y.b, 1, none⟩ (.int .i64 x.n)) := (Below.refl B w).drew.setCell (p := ⟨y.b, 1, none⟩) (h.lo.2.2.2.2 y hy) _
  obtain ⟨w2, hw2⟩ : ∃ w2, w.drew.setCell ⟨y.b, 1, none⟩ (.int .i64 x.n) = w2 := ⟨_, rfl⟩
  rw [hw2] at h2 b2
  have g2 := h2.cells.2.2.2.2.2.1
  have d2 := h2.cells.2.2.2.1
  have h3 := (h2.put x.n).1
  have b3 : Below B w (w2.setCell ⟨s, 2, none⟩ (.int .i64 x.n)) := b2.setCell (p := ⟨s, 2, none⟩) h.lo.2.1 _
  obtain ⟨w3, hw3⟩ : ∃ w3, w2.setCell ⟨s, 2, none⟩ (.int .i64 x.n) = w3 := ⟨_, rfl⟩
  rw [hw3] at h3 b3
  have hx3 : (if x.b = y.b then setN x x.n else x) ∈ setX L y.b x.n := List.mem_map.2 ⟨x, hx, rfl⟩
  have i0 := h3.cells.2.1
  have l3 := (h3.look hx3).1
  have s4 := (h3.state hx3).2.2.1
  have e1 : (if x.b = y.b then setN x x.n else x).n = x.n := by split <;> rfl
  have e2 : (if x.b = y.b then setN x x.n else x).b = x.b := by split <;> rfl
  have e3 : (if x.b = y.b then setN x x.n else x).d = x.d := by split <;> rfl
  rw [e1, e2] at l3
  rw [e2, e3] at s4
  have HF := Lib.hid (And.intro h3 b3)
  clear e1 e2 e3 hx3 h3 b3 h2 b2 h1 h ct c1 c3 f2 f3 s0 s2 hB
  obtain ⟨xn, xu, xx, xb, xd⟩ := x
  obtain ⟨yn, yu, yx, yb, yd⟩ := y
  simp only at *
  clear hx hy
  go_enter Try.func17, Try.ntmps17
  go_wp2_with fail
  go_big_region
  all_goals
    go_wp2_with fail
    go_ret
    exact ⟨rfl, HF.out⟩

end Go.Proofs.Ytmjlmciocockpaa
