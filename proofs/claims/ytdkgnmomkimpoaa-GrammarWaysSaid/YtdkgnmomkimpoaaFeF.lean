/-
  Next whole; a feed as what it has, at this seat's numbers.
-/
import Derived.Test.YtdkgnmomkimpoaaFeE
namespace Go.Proofs.Ytdkgnmomkimpoaa
open Go Go.RowKit
set_option linter.unusedVariables false

section
variable {w : World} {B f h c room fu : Nat} {v : Value} {ty : List Int} {L : List (Nat × List Int)}

set_option maxRecDepth 100000 in
set_option maxHeartbeats 4000000 in
theorem next_none (H : Fd w B f h c room v [] [] fu) :
    Calls Try.prog 18 #[pbox f] w fun e w' => e = .returned (.tuple #[.int .i64 0, .bool false, .int .i64 4]) ∧ w = w' := by
  obtain ⟨a, k, rfl⟩ := H.form
  obtain ⟨c0, c1, c2, c3, _⟩ := H.cells
  obtain ⟨s, r, hc⟩ := H.typ
  have HC : Hid (w.heap[c]? = some (.chan room #[] false s r false)) := hc
  have HH := Lib.hid (has_of H)
  have heq := eq_chs c
  clear H hc
  go_enter Try.func18, Try.ntmps18
  rw [halt_at 7]
  go_wp2_with fail
  refine HH.out.mono ?_; rintro e w1 ⟨rfl, rfl⟩
  go_wp2_with fail
  refine wp_halt (wp_region_cut 7 0 (Nat.zero_le _) (wpList_nil ?_))
  refine comm_at (cases := #[Conc.rcase c (.int .i64 0)]) (blocking := false) (shape := .select) rfl rfl ?_ (fun fr cs es h => Conc.step_lone_select_default h HC.out) ?_
  · simp [go_sem, execOp, Conc.rcase, Act.eval]
  go_wp2_with fail
  go_ret3
  exact ⟨rfl, rfl⟩

set_option maxRecDepth 100000 in
set_option maxHeartbeats 4000000 in
theorem next_typed {x : Int} {t : List Int} (H : Fd w B f h c room v (x :: t) [] fu) :
    Calls Try.prog 18 #[pbox f] w fun e w' => e = .returned (.tuple #[.int .i64 x, .bool false, .int .i64 0]) ∧ Fd w' B f h c room v t [] 200 ∧ FMv B w w' := by
  obtain ⟨a, k, rfl⟩ := H.form
  obtain ⟨c0, c1, c2, c3, _⟩ := H.cells
  obtain ⟨s, r, hc⟩ := H.typ
  obtain ⟨q1, q2, q3, q4⟩ := H.ne
  have HC := Lib.hid hc
  have HH := Lib.hid (has_of H)
  have heq := eq_chs c
  have boxA : (w.setChan c room (nums t).toArray false s (r + 1) false).heap[f]? = _ := (heap_setCh _ _ _ _ _ _ _ _ q2).trans H.box
  have watA : (w.setChan c room (nums t).toArray false s (r + 1) false).heap[h]? = _ := (heap_setCh _ _ _ _ _ _ _ _ q3).trans H.wat
  have tyA : (w.setChan c room (nums t).toArray false s (r + 1) false).heap[c]? = some (.chan room (nums t).toArray false s (r + 1) false) := Conc.heap_setChan _ _ _ _ _ _ _ _ (lt_of_heap hc)
  have ownA : (w.setChan c room (nums t).toArray false s (r + 1) false).ownsRow B 73 1 (.slice a ([] : List (Nat × List Int)).length k) ([] : List (Nat × List Int)).length (([] : List (Nat × List Int)).map chV) := own_same H.own fun b hb => heap_setCh _ _ _ _ _ _ _ _ (fun e => by
      subst e
      rcases H.own.2 with ⟨h1, _⟩ | ⟨g, cap, cur, h1, _, hg, _⟩
      · rw [h1] at hb; cases hb
      · rw [h1] at hb; injection hb with hb; subst hb; rw [hc] at hg; cases hg)
  have MA : FMv B w (w.setChan c room (nums t).toArray false s (r + 1) false) := FMv.setCh hc H.lo.2.2.1
  generalize hwA : w.setChan c room (nums t).toArray false s (r + 1) false = wA at *
  have cA : wA.cell? ⟨h, 2, none⟩ = some (.int .i64 fu) := by rw [cell_at watA]; rfl
  have cA0 : wA.cell? ⟨h, 0, none⟩ = some (.chan (some c)) := by rw [cell_at watA]; rfl
  have fA := unfrozen watA 2
  have HF : Hid (Fd (wA.setCell ⟨h, 2, none⟩ (.int .i64 200)) B f h c room (.slice a ([] : List (Nat × List Int)).length k) t [] 200) :=
    ⟨(heap_set_other q1).trans boxA, (heap_set_at watA).trans rfl, ⟨s, r + 1, (heap_set_other (Ne.symm q3)).trans tyA⟩, own_set ownA (own_ne ownA watA (by decide)), fun y hy => (by cases hy), List.nodup_nil, ⟨H.lo.1, H.lo.2.1, H.lo.2.2.1, fun y hy => (by cases hy)⟩⟩
  have HM : Hid (FMv B w (wA.setCell ⟨h, 2, none⟩ (.int .i64 200))) := MA.trans (FMv.set watA (.inr (.inl rfl)) H.lo.2.1)
  have ext : (nums (x :: t)).toArray.extract 1 (nums (x :: t)).toArray.size = (nums t).toArray := by simp [nums]; exact List.take_of_length_le (by simp)
  have hd0 : (nums (x :: t)).toArray.getD 0 undef = .int .i64 x := by simp [nums]
  have hsz : 0 < (nums (x :: t)).toArray.size := by simp [nums]
  have HW := Lib.hid hwA
  clear H hc boxA watA tyA ownA MA hwA q1 q2 q3 q4
  go_enter Try.func18, Try.ntmps18
  rw [halt_at 7]
  go_wp2_with fail
  refine HH.out.mono ?_; rintro e w1 ⟨rfl, rfl⟩
  go_wp2_with fail
  refine wp_halt (wp_region_cut 7 0 (Nat.zero_le _) (wpList_nil ?_))
  refine comm_at (cases := #[Conc.rcase c (.int .i64 0)]) (blocking := false) (shape := .select) (v := .tuple #[goInt 0, .bool true, .int .i64 x]) (w₂ := wA) rfl rfl ?_ (fun fr cs es h => ?_) ?_
  · simp [go_sem, execOp, Conc.rcase, Act.eval]
  · have := Conc.step_lone_select_recv_buf h HC.out hsz
    rw [ext, hd0, HW.out] at this
    exact this
  go_wp2_with fail
  go_ret3
  exact ⟨rfl, HF.out, HM.out⟩

set_option maxRecDepth 100000 in
set_option maxHeartbeats 4000000 in
/-- Where there is a pack, Next is pushed. -/
theorem next_pushed {a b e : Value} {Q : World → Prop} (H : Fd w B f h c room v ty L fu) (hL : 0 < L.length)
    (hp : Calls Try.prog 36 #[pbox h] w fun x w' => x = .returned (.tuple #[a, b, e]) ∧ Q w') :
    Calls Try.prog 18 #[pbox f] w fun x w' => x = .returned (.tuple #[a, b, e]) ∧ Q w' := by
  obtain ⟨a', k, rfl⟩ := H.form
  obtain ⟨c0, c1, c2, c3, _⟩ := H.cells
  have HH := Lib.hid (has_of H)
  have HP := Lib.hid hp
  have heq := eq_chs c
  clear H hp
  go_enter Try.func18, Try.ntmps18
  rw [halt_at 7]
  go_wp2_with fail
  refine HH.out.mono ?_; rintro e w1 ⟨rfl, rfl⟩
  go_wp2_with fail
  refine HP.out.mono ?_; rintro e w2 ⟨rfl, hq⟩
  have HQ := Lib.hid hq
  clear hq
  go_wp2_with fail
  go_ret3
  exact ⟨rfl, HQ.out⟩
end

/-- What a feed has. -/
structure Fs where
  ty : List Int
  ps : List (List Int)
  fu : Nat
/-- What Next hands over, and what is left. -/
def nextF (S : Fs) : (Int × Bool × Int) × Fs :=
  match S.ps.reverse with
  | [] => match S.ty with
    | [] => ((0, false, 4), S)
    | x :: t => ((x, false, 0), ⟨t, [], 200⟩)
  | [] :: _ => ((0, false, 0), S)
  | (x :: t) :: R => if S.fu = 0 then ((0, false, 12), ⟨S.ty, [], 0⟩) else ((x, true, 0), ⟨S.ty, if t = [] then R.reverse else R.reverse ++ [t], S.fu - 1⟩)

/-- A feed at f that has S. -/
def FdS (w : World) (B f room : Nat) (S : Fs) : Prop := ∃ h c v L, Fd w B f h c room v S.ty L S.fu ∧ L.map (·.2) = S.ps ∧ S.ps.length ≤ 8 ∧ S.fu ≤ 200
theorem FdS.below {w w' : World} {B f room : Nat} {S : Fs} (H : FdS w B f room S) (hb : Below w.heap.size w w') : FdS w' B f room S := by
  obtain ⟨h, c, v, L, HF, h1⟩ := H
  exact ⟨h, c, v, L, HF.below hb, h1⟩

theorem restL_map (L : List (Nat × List Int)) (b : Nat) (t : List Int) : (restL L b t).map (·.2) = if t = [] then L.map (·.2) else L.map (·.2) ++ [t] := by
  unfold restL; split <;> simp

section
variable {w : World} {B f room : Nat} {S : Fs}
def triV (x : Int × Bool × Int) : Value := .tuple #[.int .i64 x.1, .bool x.2.1, .int .i64 x.2.2]

theorem fnext (H : FdS w B f room S) : Calls Try.prog 18 #[pbox f] w fun e w' => e = .returned (triV (nextF S).1) ∧ FdS w' B f room (nextF S).2 ∧ FMv B w w' := by
  obtain ⟨h, c, v, L, HF, h1, h2, h3⟩ := H
  obtain ⟨ty, ps, fu⟩ := S
  simp only at HF h1 h2 h3
  rcases List.eq_nil_or_concat L with rfl | ⟨L', ⟨b, l⟩, rfl⟩
  · simp only [List.map_nil] at h1
    subst h1
    cases ty with
    | nil =>
      refine (next_none HF).mono ?_
      rintro e w' ⟨rfl, rfl⟩
      exact ⟨rfl, ⟨h, c, v, [], HF, rfl, h2, h3⟩, FMv.refl _ _⟩
    | cons x t =>
      refine (next_typed HF).mono ?_
      rintro e w' ⟨rfl, hF, hM⟩
      exact ⟨rfl, ⟨h, c, v, [], hF, rfl, Nat.zero_le _, Nat.le_refl _⟩, hM⟩
  · rw [List.concat_eq_append] at HF h1
    have hl := (HF.pks (b, l) (by simp)).2
    cases l with
    | nil => exact absurd rfl hl
    | cons x t =>
      have hlen : (L' ++ [(b, x :: t)]).length ≤ 8 := by rw [← h1, List.length_map] at h2; exact h2
      rw [List.length_append] at hlen
      have hrev : ps.reverse = (x :: t) :: (L'.map (·.2)).reverse := by rw [← h1]; simp
      unfold nextF
      simp only [hrev]
      cases fu with
      | zero =>
        refine (next_pushed HF (by simp) (pushed_out HF)).mono ?_
        rintro e w' ⟨rfl, hF, hM⟩
        exact ⟨rfl, ⟨h, c, _, [], hF, rfl, Nat.zero_le _, h3⟩, hM⟩
      | succ n =>
        refine (next_pushed HF (by simp) (pushed_of HF (by omega) (by simp at hlen; omega))).mono ?_
        rintro e w' ⟨rfl, v', hF, hM⟩
        rw [if_neg (Nat.succ_ne_zero n), List.reverse_reverse]
        refine ⟨rfl, ⟨h, c, v', _, hF, restL_map L' b t, ?_, by show n + 1 - 1 ≤ 200; omega⟩, hM⟩
        show (if t = [] then L'.map (·.2) else L'.map (·.2) ++ [t]).length ≤ 8
        simp at hlen
        split <;> simp <;> omega
theorem ftype (H : FdS w B f room S) (x : Int) : Calls Try.prog 17 #[pbox f, .int .i64 x] w fun e w' =>
    e = .returned (.bool (decide (S.ty.length < room))) ∧ FdS w' B f room ⟨if S.ty.length < room then S.ty ++ [x] else S.ty, S.ps, S.fu⟩ ∧ FMv B w w' := by
  obtain ⟨h, c, v, L, HF, h1, h2, h3⟩ := H
  refine (type_of HF x).mono ?_
  rintro e w' ⟨rfl, hF, hM⟩
  exact ⟨rfl, ⟨h, c, v, L, hF, h1, h2, h3⟩, hM⟩
theorem fpush (H : FdS w B f room S) {a : Option Addr} {k : Nat} {l : List Int} (Hl : Sq w a k l) (hl : l.length ≤ 1000000) (hB : B ≤ w.heap.size) :
    Calls Try.prog 19 #[pbox f, .slice a l.length k] w fun e w' => e = .returned (.int .i64 (pushE l S.ps.length)) ∧ FdS w' B f room ⟨S.ty, pushP S.ps l, S.fu⟩ ∧ FMv B w w' := by
  obtain ⟨h, c, v, L, HF, h1, h2, h3⟩ := H
  have e1 : L.length = S.ps.length := by rw [← h1, List.length_map]
  refine (push_of HF Hl hl (by omega) hB).mono ?_
  rintro e w' ⟨rfl, v', L', hF, hm, hM⟩
  rw [e1]
  rw [h1] at hm
  exact ⟨rfl, ⟨h, c, v', L', hF, hm, pushP_len h2 l, h3⟩, hM⟩
theorem fwaits (H : FdS w B f room S) : Calls Try.prog 13 #[pbox f] w fun e w' => e = .returned (.int .i64 S.ty.length) ∧ w = w' := by
  obtain ⟨h, c, v, L, HF, h1, h2, h3⟩ := H
  exact waits_of HF
theorem fpacks (H : FdS w B f room S) : Calls Try.prog 14 #[pbox f] w fun e w' => e = .returned (.int .i64 S.ps.length) ∧ w = w' := by
  obtain ⟨h, c, v, L, HF, h1, h2, h3⟩ := H
  have e1 : L.length = S.ps.length := by rw [← h1, List.length_map]
  rw [← e1]
  exact packs_of HF
theorem ffuel (H : FdS w B f room S) : Calls Try.prog 15 #[pbox f] w fun e w' => e = .returned (.int .i64 S.fu) ∧ w = w' := by
  obtain ⟨h, c, v, L, HF, h1, h2, h3⟩ := H
  exact fuel_of HF
theorem fnew (x : Int) (w : World) : Calls Try.prog 10 #[.int .i64 x] w fun e w' => ∃ f, e = .returned (pbox f) ∧ FdS w' w.heap.size f (roomOf x) ⟨[], [], 200⟩ ∧ Below w.heap.size w w' := by
  refine (new_of x w).mono ?_
  rintro e w' ⟨f, h, c, rfl, hF, hb⟩
  exact ⟨f, rfl, ⟨h, c, _, [], hF, rfl, Nat.zero_le _, Nat.le_refl _⟩, hb⟩
end
end Go.Proofs.Ytdkgnmomkimpoaa
