/-
  [3]int opened, at this seat's numbers.
-/
import Derived.Test.YtofncnommekbjaaLiftT
namespace Go.Proofs.Ytofncnommekbjaa
open Go Go.RowKit Go.ChangeShapes Go.WideShapes Go.Joins
set_option linter.unusedVariables false
set_option maxRecDepth 100000

section
variable {H : Type} {enc : TypeId × Value → H} {W : World}
theorem cells_three : Try.prog.cellsOf 65 = 3 := by kernel_rfl
theorem cells_int3 : Try.prog.cellsOf 3 = 1 := by kernel_rfl
theorem array3 {α : Type} {cs : Array α} (h : cs.size = 3) : ∃ a b c, cs = #[a, b, c] := by
  match cs, h with
  | ⟨[a, b, c]⟩, _ => exact ⟨a, b, c, rfl⟩
theorem open_three {v : Value} {d : DataW H} {p : List MemPlace} (hv : Value.okWide Try.prog W .any 0 65 v) (h : DataW.Trod enc Try.prog W 0 (fun _ => true) true 65 v d p) :
    ∃ x y z : Int, v = .agg #[.int .i64 x, .int .i64 y, .int .i64 z] ∧ (I64 x ∧ I64 y ∧ I64 z) := by
  have hu := Try.underlying65
  simp only [Value.okWide, hu] at hv
  obtain ⟨cs, rfl, hsz, _⟩ := hv
  obtain ⟨c0, c1, c2, rfl⟩ := array3 (hsz.trans cells_three)
  obtain ⟨fuel, hf⟩ := h
  obtain ⟨xs, m, _, _, _, hl, hi⟩ := DataW.trod_array hu hf
  have h0 := hi 0 (by omega)
  have h1 := hi 1 (by omega)
  have h2 := hi 2 (by omega)
  rw [cells_int3] at h0 h1 h2
  obtain ⟨y0, e0⟩ : ∃ y0, xs[0]? = some y0 := ⟨_, List.getElem?_eq_getElem (by omega)⟩
  obtain ⟨y1, e1⟩ : ∃ y1, xs[1]? = some y1 := ⟨_, List.getElem?_eq_getElem (by omega)⟩
  obtain ⟨y2, e2⟩ : ∃ y2, xs[2]? = some y2 := ⟨_, List.getElem?_eq_getElem (by omega)⟩
  rw [e0] at h0
  rw [e1] at h1
  rw [e2] at h2
  simp [Value.cells] at h0 h1 h2
  obtain ⟨x, g0, _, w0⟩ := DataW.trod_int Try.underlying3 h0
  obtain ⟨y, g1, _, w1⟩ := DataW.trod_int Try.underlying3 h1
  obtain ⟨z, g2, _, w2⟩ := DataW.trod_int Try.underlying3 h2
  injection g0 with g0
  injection g1 with g1
  injection g2 with g2
  subst g0 g1 g2
  exact ⟨x, y, z, rfl, bounds_i64 w0, bounds_i64 w1, bounds_i64 w2⟩
end

end Go.Proofs.Ytofncnommekbjaa
