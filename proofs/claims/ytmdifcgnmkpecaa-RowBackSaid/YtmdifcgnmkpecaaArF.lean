/-
  The contracts of Sub and Join, the program's and the document's own, at this seat's numbers.
-/
import Derived.Test.YtmdifcgnmkpecaaArE
import Derived.WalkLawsBesides
namespace Go.Proofs.Ytmdifcgnmkpecaa
open Go Go.RowKit
set_option linter.unusedVariables false

/-- A part of a span. -/
def subR (x y i j : Int) : Int × Int := if y < 0 then (0, 0) else (x + min (max i 0) y, min (max j (min (max i 0) y)) y - min (max i 0) y)
/-- Two spans as one. -/
def joinB (x y u v : Int) : Bool := decide (0 ≤ y ∧ 0 ≤ v ∧ u = x + y)
def joinR (x y u v : Int) : Int × Int := if joinB x y u v = true then (x, y + v) else (0, 0)

theorem agg_eq {a b c d : Int} (h1 : a = c) (h2 : b = d) : Ending.returned (.agg #[.int .i64 a, .int .i64 b]) = .returned (.agg #[.int .i64 c, .int .i64 d]) := by rw [h1, h2]

set_option maxHeartbeats 1600000 in
theorem sub_no (x y i j : Int) (w : World) (hy : y < 0) :
    Calls Try.prog 63 #[.agg #[.int .i64 x, .int .i64 y], .int .i64 i, .int .i64 j] w fun e w' => e = ret2 (0, 0) ∧ Below w.heap.size w w' := by
  have d1 : decide (y < 0) = true := decide_eq_true hy
  go_enter Try.func63, Try.ntmps63
  go_wp2_with fail
  refine bodyPost_ret (v := .agg #[.int .i64 0, .int .i64 0]) (by simp [results, Try.results63, go_sem]) rfl ⟨rfl, ?_⟩
  exact ((Below.refl _ _).alloc (Nat.le_refl _) _).alloc (by simp) _

set_option maxHeartbeats 1600000 in
theorem sub_yes (x y i j : Int) (w : World) (hy : 0 ≤ y) (hy2 : y ≤ 1099511627776) (hx : -1099511627776 ≤ x) (hx2 : x ≤ 1099511627776) (i0 : -9223372036854775808 ≤ i) (i1 : i ≤ 9223372036854775807) (j0 : -9223372036854775808 ≤ j) (j1 : j ≤ 9223372036854775807) :
    Calls Try.prog 63 #[.agg #[.int .i64 x, .int .i64 y], .int .i64 i, .int .i64 j] w fun e w' => e = ret2 (subR x y i j) ∧ Below w.heap.size w w' := by
  have d1 : decide (y < 0) = false := decide_eq_false (by omega)
  have hr : subR x y i j = (x + min (max i 0) y, min (max j (min (max i 0) y)) y - min (max i 0) y) := by unfold subR; rw [if_neg (by omega)]
  rw [hr]
  clear hr
  go_enter Try.func63, Try.ntmps63
  go_wp2_with fail
  refine bodyPost_ret (v := .agg #[.int .i64 (x + min (max i 0) y), .int .i64 (min (max j (min (max i 0) y)) y - min (max i 0) y)]) (by simp [results, Try.results63, go_sem]) rfl ⟨rfl, ?_⟩
  exact ((Below.refl _ _).alloc (Nat.le_refl _) _).alloc (by simp) _

/-- The premise on a span's numbers. -/
def In40 (x : Int) : Prop := -1099511627776 ≤ x ∧ x ≤ 1099511627776
theorem sub_of (x y i j : Int) (w : World) (hx : In40 x) (hy : In40 y) (hi : -9223372036854775808 ≤ i ∧ i ≤ 9223372036854775807) (hj : -9223372036854775808 ≤ j ∧ j ≤ 9223372036854775807) :
    Calls Try.prog 63 #[.agg #[.int .i64 x, .int .i64 y], .int .i64 i, .int .i64 j] w fun e w' => e = ret2 (subR x y i j) ∧ Below w.heap.size w w' := by
  by_cases h : y < 0
  · rw [show subR x y i j = (0, 0) by unfold subR; rw [if_pos h]]
    exact sub_no x y i j w h
  · exact sub_yes x y i j w (by omega) hy.2 hx.1 hx.2 hi.1 hi.2 hj.1 hj.2

def retJ (r : Int × Int) (b : Bool) : Ending := .returned (.tuple #[.agg #[.int .i64 r.1, .int .i64 r.2], .bool b])
theorem join_ways (x y u v : Int) : (y < 0 ∧ joinB x y u v = false) ∨ (0 ≤ y ∧ v < 0 ∧ joinB x y u v = false) ∨ (0 ≤ y ∧ 0 ≤ v ∧ u ≠ x + y ∧ joinB x y u v = false) ∨ (0 ≤ y ∧ 0 ≤ v ∧ u = x + y ∧ joinB x y u v = true) := by
  unfold joinB; simp only [decide_eq_false_iff_not, decide_eq_true_eq]; omega

set_option maxHeartbeats 1600000 in
theorem join_of (x y u v : Int) (w : World) (hx : In40 x) (hy : In40 y) (hu : In40 u) (hv : In40 v) :
    Calls Try.prog 90 #[.agg #[.int .i64 x, .int .i64 y], .agg #[.int .i64 u, .int .i64 v]] w fun e w' => e = retJ (joinR x y u v) (joinB x y u v) ∧ Below w.heap.size w w' := by
  obtain ⟨x0, x1⟩ := hx
  obtain ⟨y0, y1⟩ := hy
  obtain ⟨v0, v1⟩ := hv
  clear hu
  unfold joinR
  rcases join_ways x y u v with ⟨h1, h⟩ | ⟨h1, h2, h⟩ | ⟨h1, h2, h3, h⟩ | ⟨h1, h2, h3, h⟩
  · rw [h, if_neg (by simp)]
    have d1 : decide (y < 0) = true := decide_eq_true h1
    clear h
    go_enter Try.func90, Try.ntmps90
    go_wp2_with fail
    refine bodyPost_ret (v := .tuple #[.agg #[.int .i64 0, .int .i64 0], .bool false]) (by simp [results, Try.results90, go_sem]) rfl ⟨rfl, ?_⟩
    exact (((Below.refl _ _).alloc (Nat.le_refl _) _).alloc (by simp) _).alloc (by simp; omega) _
  · rw [h, if_neg (by simp)]
    have d1 : decide (y < 0) = false := decide_eq_false (by omega)
    have d2 : decide (v < 0) = true := decide_eq_true h2
    clear h
    go_enter Try.func90, Try.ntmps90
    go_wp2_with fail
    refine bodyPost_ret (v := .tuple #[.agg #[.int .i64 0, .int .i64 0], .bool false]) (by simp [results, Try.results90, go_sem]) rfl ⟨rfl, ?_⟩
    exact (((Below.refl _ _).alloc (Nat.le_refl _) _).alloc (by simp) _).alloc (by simp; omega) _
  · rw [h, if_neg (by simp)]
    have d1 : decide (y < 0) = false := decide_eq_false (by omega)
    have d2 : decide (v < 0) = false := decide_eq_false (by omega)
    have d3 : (u == x + y) = false := by rw [beq_eq_false_iff_ne]; exact h3
    have d4 : (u != x + y) = true := by rw [bne_iff_ne]; exact h3
    clear h h3
    go_enter Try.func90, Try.ntmps90
    go_wp2_with fail
    refine bodyPost_ret (v := .tuple #[.agg #[.int .i64 0, .int .i64 0], .bool false]) (by simp [results, Try.results90, go_sem]) rfl ⟨rfl, ?_⟩
    exact (((Below.refl _ _).alloc (Nat.le_refl _) _).alloc (by simp) _).alloc (by simp; omega) _
  · rw [h, if_pos rfl]
    have d1 : decide (y < 0) = false := decide_eq_false (by omega)
    have d2 : decide (v < 0) = false := decide_eq_false (by omega)
    have d3 : (u == x + y) = true := by rw [beq_iff_eq]; exact h3
    have d4 : (u != x + y) = false := by rw [bne_eq_false_iff_eq]; exact h3
    clear h h3
    go_enter Try.func90, Try.ntmps90
    go_wp2_with fail
    refine bodyPost_ret (v := .tuple #[.agg #[.int .i64 x, .int .i64 (y + v)], .bool true]) (by simp [results, Try.results90, go_sem]) rfl ⟨rfl, ?_⟩
    exact (((Below.refl _ _).alloc (Nat.le_refl _) _).alloc (by simp) _).alloc (by simp; omega) _

end Go.Proofs.Ytmdifcgnmkpecaa
