/-
  Arguments opened, for the lift of the walks of layer 20, at this seat's numbers.
-/
import Derived.Test.YtnjkobljcgjadaaLiftM
import Derived.Deep.Fields
namespace Go.Proofs.Ytnjkobljcgjadaa
open Go Go.RowKit Go.ChangeShapes Go.WideShapes Go.Joins
set_option linter.unusedVariables false
set_option maxRecDepth 100000
def opC (L : List (Int × Int)) : List Value := L.flatMap fun o => [.int .i64 o.1, .int .i64 o.2]
theorem opC_len (L : List (Int × Int)) : (opC L).length = L.length * 2 := by
  induction L with
  | nil => rfl
  | cons e L ih => unfold opC at *; rw [List.flatMap_cons, List.length_append, ih, List.length_cons]; simp; omega
theorem opC_at {L : List (Int × Int)} {i : Nat} {o : Int × Int} (h : L[i]? = some o) : (opC L)[i * 2]? = some (.int .i64 o.1) ∧ (opC L)[i * 2 + 1]? = some (.int .i64 o.2) := by
  induction L generalizing i with
  | nil => simp at h
  | cons e L ih =>
    cases i with
    | zero => simp at h; subst h; exact ⟨rfl, rfl⟩
    | succ i =>
      have h' := ih (i := i) (by simpa using h)
      rw [show (i + 1) * 2 = i * 2 + 2 by omega]
      exact h'
theorem opC_inv {L : List (Int × Int)} {j : Nat} {u : Value} (h : (opC L)[j]? = some u) : ∃ i o, L[i]? = some o ∧ ((j = i * 2 ∧ u = .int .i64 o.1) ∨ (j = i * 2 + 1 ∧ u = .int .i64 o.2)) := by
  have hj := (List.getElem?_eq_some_iff.1 h).1
  rw [opC_len] at hj
  have hi : j / 2 < L.length := by omega
  have ho : L[j / 2]? = some (L[j / 2]) := List.getElem?_eq_getElem hi
  obtain ⟨h0, h1⟩ := opC_at ho
  refine ⟨j / 2, _, ho, ?_⟩
  rcases Nat.mod_two_eq_zero_or_one j with hm | hm
  · have e : j = j / 2 * 2 := by omega
    rw [← e, h] at h0
    exact .inl ⟨e, Option.some.inj h0⟩
  · have e : j = j / 2 * 2 + 1 := by omega
    rw [← e, h] at h1
    exact .inr ⟨e, Option.some.inj h1⟩
section
variable {H : Type} {enc : TypeId × Value → H} {W : World}
/-- A slice of structs whose fields have one cell each, opened. -/
theorem open_recs {P : Program} {t e : TypeId} {fs : Array Field} {k fuel : Nat} {cs : List Value} {x : DataW H × List MemPlace} (ht : P.underlying t = some (.slice e)) (he : P.underlying e = some (.struct fs)) (ce : P.cellsOf e = k)
    (h : DataW.trod enc P W 0 (fun _ => true) true fuel t cs = some x) :
    (cs = [.slice none 0 0]) ∨ ∃ (a : Addr) (len cap : Nat), cs = [.slice (some a) len cap] ∧ len ≤ cap ∧ cap ≤ maxLen ∧
      ∀ i, i < len → ∃ (vs : List Value) (n : Nat), vs.length = k ∧ (∀ j, j < k → W.cell? (a.add (i * k + j)) = vs[j]?) ∧ ∀ (j : Nat) (f : Field), fs[j]? = some f → ∃ y, DataW.trod enc P W 0 (fun _ => true) true n f.type ((vs.drop f.offset).take (P.cellsOf f.type)) = some y := by
  rcases Go.Deep.open_slice ht h with ⟨h0, _⟩ | ⟨a, len, cap, m, n, D, Pl, rfl, hb, hl, hm, hmm, _, hx⟩
  · exact .inl h0
  right
  simp only [if_true] at hmm
  subst hmm
  refine ⟨a, len, _, rfl, hl, hm, fun i hi => ?_⟩
  obtain ⟨vs, h1, h2⟩ := hx i (by omega)
  rw [ce] at h1
  obtain ⟨_, hlen, hcell⟩ := World.cells?_some h1
  obtain ⟨xs, n', hn', _, _, hxl, hf⟩ := DataW.trod_struct he h2
  refine ⟨vs, n', hlen, fun j hj => ?_, fun j f hj => ?_⟩
  · have := hcell j hj
    rwa [Go.Deep.add_add] at this
  · have hjs : j < xs.length := by
      have := (Array.getElem?_eq_some_iff.1 hj).1
      omega
    exact ⟨xs[j], (hf j f hj).trans (List.getElem?_eq_getElem hjs)⟩
theorem open_ops {v : Value} {d : DataW H} {p : List MemPlace} (hv : Value.okWide Try.prog W .any 0 23 v) (h : DataW.Trod enc Try.prog W 0 (fun _ => true) true 23 v d p) :
    ∃ (a : Option Addr) (c : Nat) (L : List (Int × Int)), v = .slice a L.length c ∧ Rd W 2 a L.length (opC L) ∧ c ≤ maxLen ∧ L.length ≤ c ∧ ∀ o ∈ L, I64 o.1 ∧ I64 o.2 := by
  obtain ⟨a0, len0, cap0, rfl⟩ := okWide_slice Try.underlying23 hv
  obtain ⟨fuel, hf⟩ := h
  rcases open_recs (k := 2) Try.underlying23 Try.underlying29 (by kernel_rfl) hf with hcs | ⟨a, len, cap, hcs, hl, hm, hx⟩
  · simp [Value.cells] at hcs
    obtain ⟨rfl, rfl, rfl⟩ := hcs
    exact ⟨none, 0, [], rfl, ⟨rfl, fun hn => absurd hn (by simp)⟩, Nat.zero_le _, Nat.le_refl _, by simp⟩
  · simp [Value.cells] at hcs
    obtain ⟨rfl, rfl, rfl⟩ := hcs
    obtain ⟨g, o, rfl, hg⟩ := form_slice Try.underlying23 hv
    have each : ∀ i, i < len0 → ∃ q : Int × Int, (W.cell? ⟨g, o + i * 2, none⟩ = some (.int .i64 q.1) ∧ W.cell? ⟨g, o + (i * 2 + 1), none⟩ = some (.int .i64 q.2)) ∧ I64 q.1 ∧ I64 q.2 := by
      intro i hi
      obtain ⟨vs, n, hvl, hc, hfl⟩ := hx i hi
      match vs, hvl with
      | [v0, v1], _ =>
        obtain ⟨y0, g0⟩ := hfl 0 _ rfl
        obtain ⟨y1, g1⟩ := hfl 1 _ rfl
        have ci : Try.prog.cellsOf 3 = 1 := cells_int
        simp [ci] at g0 g1
        obtain ⟨x0, e0, _, w0⟩ := DataW.trod_int Try.underlying3 g0
        obtain ⟨x1, e1, _, w1⟩ := DataW.trod_int Try.underlying3 g1
        injection e0 with e0
        injection e1 with e1
        subst e0 e1
        have c0 := hc 0 (by omega)
        have c1 := hc 1 (by omega)
        rw [Addr.add_lit] at c0 c1
        exact ⟨⟨x0, x1⟩, ⟨c0, c1⟩, bounds_i64 w0, bounds_i64 w1⟩
    obtain ⟨q, hq⟩ := Go.Deep.choose_lt each
    have hlen : ((List.range len0).map q).length = len0 := by simp
    refine ⟨some ⟨g, o, none⟩, cap0, (List.range len0).map q, by rw [hlen], ⟨by rw [opC_len], fun hn => ⟨g, o, rfl, hg, fun j u hu => ?_⟩⟩, hm, by rw [hlen]; exact hl, fun z hz => ?_⟩
    · obtain ⟨i, s, hs, hj⟩ := opC_inv hu
      have hi : i < len0 := by
        have := (List.getElem?_eq_some_iff.1 hs).1
        rwa [hlen] at this
      rw [List.getElem?_map, List.getElem?_range hi] at hs
      simp at hs
      subst hs
      obtain ⟨⟨c0, c1⟩, _⟩ := hq i hi
      rcases hj with ⟨rfl, rfl⟩ | ⟨rfl, rfl⟩
      · exact c0
      · exact c1
    · obtain ⟨i, hi, rfl⟩ := List.mem_map.1 hz
      exact (hq i (List.mem_range.1 hi)).2
end
end Go.Proofs.Ytnjkobljcgjadaa
