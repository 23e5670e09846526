/-
  Keys with their ways as an argument, opened, at this seat's numbers.
-/
import Derived.Test.YtdkgnmomkimpoaaLiftP
import Derived.Test.YtdkgnmomkimpoaaGrO
namespace Go.Proofs.Ytdkgnmomkimpoaa
open Go Go.RowKit Go.ChangeShapes Go.WideShapes Go.Joins
set_option linter.unusedVariables false
set_option maxRecDepth 100000

section
variable {H : Type} {enc : TypeId × Value → H} {W : World}
theorem open_presses {v : Value} {d : DataW H} {p : List MemPlace} (hv : Value.okWide Try.prog W .any 0 59 v) (h : DataW.Trod enc Try.prog W 0 (fun _ => true) true 59 v d p) :
    ∃ (a : Option Addr) (c : Nat) (L : List PrF), v = .slice a L.length c ∧ PrsIn W a L ∧ c ≤ maxLen ∧ L.length ≤ c := by
  obtain ⟨a0, len0, cap0, rfl⟩ := okWide_slice Try.underlying59 hv
  obtain ⟨fuel, hf⟩ := h
  rcases open_recs (k := 3) Try.underlying59 Try.underlying61 (by kernel_rfl) hf with hcs | ⟨a, len, cap, hcs, hl, hm, hx⟩
  · simp [Value.cells] at hcs
    obtain ⟨rfl, rfl, rfl⟩ := hcs
    exact ⟨none, 0, [], rfl, fun j o ho => by simp at ho, Nat.zero_le _, Nat.le_refl _⟩
  · simp [Value.cells] at hcs
    obtain ⟨rfl, rfl, rfl⟩ := hcs
    obtain ⟨g, o, rfl, hg⟩ := form_slice Try.underlying59 hv
    have each : ∀ i, i < len0 → ∃ q : PrF, W.cell? ⟨g, o + i * 3, none⟩ = some (.int .i64 q.k) ∧ W.cell? ⟨g, o + i * 3 + 1, none⟩ = some (.int .i64 q.way) ∧ W.cell? ⟨g, o + i * 3 + 2, none⟩ = some (.bool q.r) := by
      intro i hi
      obtain ⟨vs, n, hvl, hc, hfl⟩ := hx i hi
      match vs, hvl with
      | [v0, v1, v2], _ =>
        obtain ⟨y0, g0⟩ := hfl 0 _ rfl
        obtain ⟨y1, g1⟩ := hfl 1 _ rfl
        obtain ⟨y2, g2⟩ := hfl 2 _ rfl
        have ci : Try.prog.cellsOf 3 = 1 := cells_int
        have cb : Try.prog.cellsOf 4 = 1 := by kernel_rfl
        simp [ci] at g0 g1
        simp [cb] at g2
        obtain ⟨x0, e0, _, w0⟩ := DataW.trod_int Try.underlying3 g0
        obtain ⟨x1, e1, _, w1⟩ := DataW.trod_int Try.underlying3 g1
        obtain ⟨x2, e2, _⟩ := DataW.trod_bool Try.underlying4 g2
        injection e0 with e0
        injection e1 with e1
        injection e2 with e2
        subst e0 e1 e2
        have c0 := hc 0 (by omega)
        have c1 := hc 1 (by omega)
        have c2 := hc 2 (by omega)
        rw [Addr.add_lit] at c0 c1 c2
        exact ⟨⟨x0, x1, x2⟩, c0, c1, c2⟩
    letI : Inhabited PrF := ⟨⟨0, 0, false⟩⟩
    obtain ⟨q, hq⟩ := Go.Deep.choose_lt each
    have hlen : ((List.range len0).map q).length = len0 := by simp
    refine ⟨some ⟨g, o, none⟩, cap0, (List.range len0).map q, by rw [hlen], fun j z hz => ?_, hm, by rw [hlen]; exact hl⟩
    have hi : j < len0 := by
      have := (List.getElem?_eq_some_iff.1 hz).1
      rwa [hlen] at this
    rw [List.getElem?_map, List.getElem?_range hi] at hz
    simp at hz
    subst hz
    obtain ⟨h0, h1, h2⟩ := hq j hi
    exact ⟨g, o, rfl, hg, h0, h1, h2⟩
end
end Go.Proofs.Ytdkgnmomkimpoaa
