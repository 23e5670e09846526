/-
  [2]int opened, at this seat's numbers; the walk of WalkGoes as the lift wants it.
-/
import Derived.Test.YtofncnommekbjaaLiftT
import Derived.Test.YtofncnommekbjaaWlR
namespace Go.Proofs.Ytofncnommekbjaa
open Go Go.RowKit Go.ChangeShapes Go.WideShapes Go.Joins
set_option linter.unusedVariables false
set_option maxRecDepth 100000

section
variable {H : Type} {enc : TypeId × Value → H} {W : World}
theorem cells_intP : Try.prog.cellsOf 3 = 1 := by kernel_rfl
theorem array2' {α : Type} {cs : Array α} (h : cs.size = 2) : ∃ a b, cs = #[a, b] := by
  match cs, h with
  | ⟨[a, b]⟩, _ => exact ⟨a, b, rfl⟩
theorem cells_pair : Try.prog.cellsOf 57 = 2 := by kernel_rfl
theorem open_pair {v : Value} {d : DataW H} {p : List MemPlace} (hv : Value.okWide Try.prog W .any 0 57 v) (h : DataW.Trod enc Try.prog W 0 (fun _ => true) true 57 v d p) :
    ∃ x y : Int, v = .agg #[.int .i64 x, .int .i64 y] ∧ (-9223372036854775808 ≤ x ∧ x ≤ 9223372036854775807) ∧ (-9223372036854775808 ≤ y ∧ y ≤ 9223372036854775807) := by
  have hu := Try.underlying57
  simp only [Value.okWide, hu] at hv
  obtain ⟨cs, rfl, hsz, _⟩ := hv
  obtain ⟨c0, c1, rfl⟩ := array2' (hsz.trans cells_pair)
  obtain ⟨fuel, hf⟩ := h
  obtain ⟨xs, m, _, _, _, hl, hi⟩ := DataW.trod_array hu hf
  have h0 := hi 0 (by omega)
  have h1 := hi 1 (by omega)
  rw [cells_intP] at h0 h1
  obtain ⟨y0, e0⟩ : ∃ y0, xs[0]? = some y0 := ⟨_, List.getElem?_eq_getElem (by omega)⟩
  obtain ⟨y1, e1⟩ : ∃ y1, xs[1]? = some y1 := ⟨_, List.getElem?_eq_getElem (by omega)⟩
  rw [e0] at h0
  rw [e1] at h1
  simp [Value.cells] at h0 h1
  obtain ⟨x, g0, _, w0⟩ := DataW.trod_int Try.underlying3 h0
  obtain ⟨y, g1, _, w1⟩ := DataW.trod_int Try.underlying3 h1
  injection g0 with g0
  injection g1 with g1
  subst g0 g1
  exact ⟨x, y, rfl, bounds_i64 w0, bounds_i64 w1⟩
end

theorem walkGoes_walk (a : Option Addr) (c : Nat) (l0 : List Int) (I K mo : Int) (w : World) (hl0 : Sl w a c (l0.map (Value.int .i64)) ∧ ∀ x ∈ l0, I64 x) (_ : -9223372036854775808 ≤ I ∧ I ≤ 9223372036854775807) (_ : -9223372036854775808 ≤ K ∧ K ≤ 9223372036854775807) (hk0 : 0 ≤ mo) (hk1 : mo ≤ 255) :
    Calls Try.prog 7 #[.slice a l0.length c, .agg #[.int .i64 I, .int .i64 K], .int .u8 mo] w fun e w' => e = .returned (.bool true) ∧ Below w.heap.size w w' :=
  callsIn_wide.1 (walkGoes_in 0 a c l0 I K mo w hl0.1 hk0 hk1)

end Go.Proofs.Ytofncnommekbjaa
