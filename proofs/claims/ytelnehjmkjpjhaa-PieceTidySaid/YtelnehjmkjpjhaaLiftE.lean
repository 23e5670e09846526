/-
  More arguments opened: slices of spans, at this seat's numbers.
-/
import Derived.Test.YtelnehjmkjpjhaaLift
import Derived.Test.YtelnehjmkjpjhaaArI
import Derived.Deep.SlicePairs
namespace Go.Proofs.Ytelnehjmkjpjhaa
open Go Go.RowKit Go.ChangeShapes Go.WideShapes Go.Joins
set_option linter.unusedVariables false
set_option maxRecDepth 100000

/-- A slice of spans that came in. -/
structure SpArg (w : World) (a : Option Addr) (c : Nat) (L : List (Int × Int)) : Prop where
  rd : Rd w 2 a L.length (spC L)
  fits : L.length ≤ c
  cap : c ≤ maxLen
  num : ∀ s ∈ L, (-9223372036854775808 ≤ s.1 ∧ s.1 ≤ 9223372036854775807) ∧ (-9223372036854775808 ≤ s.2 ∧ s.2 ≤ 9223372036854775807)
theorem SpArg.len {w : World} {a : Option Addr} {c : Nat} {L : List (Int × Int)} (h : SpArg w a c L) : (L.length : Int) ≤ 9223372036854775807 := by
  have h1 := h.fits
  have h2 := h.cap
  unfold maxLen at h2
  omega

def intv : Value → Int
  | .int _ n => n
  | _ => 0
theorem spC_inv (l : List (Int × Int)) (j : Nat) (u : Value) (h : (spC l)[j]? = some u) : ∃ i s, l[i]? = some s ∧ ((j = i * 2 ∧ u = .int .i64 s.1) ∨ (j = i * 2 + 1 ∧ u = .int .i64 s.2)) := by
  have hj : j < l.length * 2 := by
    rw [← spC_len]
    exact (List.getElem?_eq_some_iff.1 h).1
  have hi : j / 2 < l.length := by omega
  obtain ⟨h0, h1⟩ := spC_at l (j / 2) l[j / 2] (List.getElem?_eq_getElem hi)
  refine ⟨j / 2, l[j / 2], List.getElem?_eq_getElem hi, ?_⟩
  rcases Nat.mod_two_eq_zero_or_one j with hm | hm
  · left
    have e : j = j / 2 * 2 := by omega
    rw [← e, h] at h0
    injection h0 with h0
    exact ⟨e, h0⟩
  · right
    have e : j = j / 2 * 2 + 1 := by omega
    rw [← e, h] at h1
    injection h1 with h1
    exact ⟨e, h1⟩

section
variable {H : Type} {enc : TypeId × Value → H} {W : World}
theorem spans_core {v : Value} {y : DataW H × List MemPlace} {fuel : Nat} (hf : DataW.trod enc Try.prog W 0 (fun _ => true) true fuel 22 [v] = some y) :
    ∃ (a : Option Addr) (c : Nat) (L : List (Int × Int)), v = .slice a L.length c ∧ SpArg W a c L := by
  rcases Go.Deep.open_slice_pairs Try.underlying22 Try.underlying51 (by kernel_rfl) rfl rfl (by kernel_rfl) (by kernel_rfl) hf with ⟨hcs, _⟩ | ⟨a, len, cap, m, n, V0, V1, D0, D1, P0, P1, hcs, _, hl, hm, hz, _, hcell⟩
  · obtain rfl : v = .slice none 0 0 := by simpa using hcs
    exact ⟨none, 0, [], rfl, ⟨by simp [spC], fun h => absurd h (by simp)⟩, by simp, by unfold maxLen; omega, fun s hs => by simp at hs⟩
  · obtain rfl : v = .slice (some a) len cap := by simpa using hcs
    simp only [if_true] at hz
    subst hz
    have hlen : ((List.range len).map fun i => (intv (V0 i), intv (V1 i))).length = len := by simp
    have each : ∀ i, i < len → W.cell? (a.add (i * 2)) = some (.int .i64 (intv (V0 i))) ∧ W.cell? (a.add (i * 2 + 1)) = some (.int .i64 (intv (V1 i))) ∧ (-9223372036854775808 ≤ intv (V0 i) ∧ intv (V0 i) ≤ 9223372036854775807) ∧ (-9223372036854775808 ≤ intv (V1 i) ∧ intv (V1 i) ≤ 9223372036854775807) := by
      intro i hi
      obtain ⟨c0, c1, t0, t1⟩ := hcell i (by omega)
      obtain ⟨x, e0, _, w0⟩ := DataW.trod_int Try.underlying3 t0
      obtain ⟨y, e1, _, w1⟩ := DataW.trod_int Try.underlying3 t1
      injection e0 with e0
      injection e1 with e1
      rw [e0] at c0
      rw [e1] at c1
      rw [e0, e1]
      exact ⟨c0, c1, bounds_i64 w0, bounds_i64 w1⟩
    refine ⟨some a, m, (List.range len).map fun i => (intv (V0 i), intv (V1 i)), by rw [hlen], ⟨by rw [spC_len], fun hn => ?_⟩, by omega, hm, fun s hs => ?_⟩
    · have hn' : 0 < len := by rw [hlen] at hn; omega
      have h0 := (each 0 hn').1
      have hb := World.block_lt_of_cell? _ _ h0
      have ha : a = ⟨a.block, a.off, none⟩ := Lib.plain_of_cell (by simpa [Addr.add] using h0)
      refine ⟨a.block, a.off, by rw [← ha], by simpa [Addr.add] using hb, fun j u hu => ?_⟩
      obtain ⟨i, s, hs, hj⟩ := spC_inv _ _ _ hu
      have hi : i < len := by
        have := (List.getElem?_eq_some_iff.1 hs).1
        rwa [hlen] at this
      rw [List.getElem?_map, List.getElem?_range hi] at hs
      simp at hs
      subst hs
      obtain ⟨c0, c1, _⟩ := each i hi
      rw [ha, Addr.add_lit] at c0 c1
      rcases hj with ⟨rfl, rfl⟩ | ⟨rfl, rfl⟩
      · exact c0
      · exact c1
    · obtain ⟨i, hi, rfl⟩ := List.mem_map.1 hs
      exact (each i (List.mem_range.1 hi)).2.2
theorem open_spans {v : Value} {d : DataW H} {p : List MemPlace} (hv : Value.okWide Try.prog W .any 0 22 v) (h : DataW.Trod enc Try.prog W 0 (fun _ => true) true 22 v d p) (hlt : ∀ x ∈ p, x.block < W.heap.size) :
    ∃ (a : Option Addr) (c : Nat) (L : List (Int × Int)), v = .slice a L.length c ∧ SpArg W a c L := by
  obtain ⟨a0, len0, cap0, rfl⟩ := okWide_slice Try.underlying22 hv
  obtain ⟨fuel, hf⟩ := h
  exact spans_core (by simpa [Value.cells] using hf)
end

end Go.Proofs.Ytelnehjmkjpjhaa
