/-
  Slices of numbers opened, with where they lie, at this seat's numbers.
-/
import Derived.Test.YtofncnommekbjaaLiftT
namespace Go.Proofs.Ytofncnommekbjaa
open Go Go.RowKit Go.ChangeShapes Go.WideShapes Go.Joins
set_option linter.unusedVariables false
set_option maxRecDepth 100000

section
variable {H : Type} {enc : TypeId × Value → H} {W : World}
theorem open_nums2 {v : Value} {d : DataW H} {p : List MemPlace} (hv : Value.okWide Try.prog W .any 0 22 v) (h : DataW.Trod enc Try.prog W 0 (fun _ => true) true 22 v d p) :
    ∃ (a : Option Addr) (c : Nat) (L : List Int), v = .slice a L.length c ∧ (Sl W a c (L.map (Value.int .i64)) ∧ ∀ x ∈ L, I64 x) ∧ ∀ d, a = some d → d.block < W.heap.size := by
  obtain ⟨a, c, L, rfl, h1, h2⟩ := open_nums hv h
  refine ⟨a, c, L, rfl, ⟨h1, h2⟩, fun d hd => ?_⟩
  subst hd
  obtain ⟨g, o, rfl, hg⟩ := form_slice Try.underlying22 hv
  exact hg
end

end Go.Proofs.Ytofncnommekbjaa
