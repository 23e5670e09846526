/-
  Arguments opened, for the lift of RegsPlay: calls; at this seat's numbers.
-/
import Derived.Test.YteipnllefifgiaaLiftR
import Derived.Test.YteipnllefifgiaaRgZ
namespace Go.Proofs.Yteipnllefifgiaa
open Go Go.RowKit Go.ChangeShapes Go.WideShapes Go.Joins
set_option linter.unusedVariables false
set_option maxRecDepth 100000

section
variable {H : Type} {enc : TypeId × Value → H} {W : World}
theorem form_slice {P : Program} {t e : TypeId} (ht : P.underlying t = some (.slice e)) {a : Addr} {len cap : Nat} (hv : Value.okWide P W .any 0 t (.slice (some a) len cap)) : ∃ g o, a = ⟨g, o, none⟩ ∧ g < W.heap.size := by
  simp only [Value.okWide, ht, Cell.okWide, Cell.ok] at hv
  obtain ⟨_, _, _, h1, row, cells, h2, _⟩ := hv
  obtain ⟨g, o, s⟩ := a
  simp only at h1 h2
  subst h1
  refine ⟨g, o, rfl, ?_⟩
  rcases Nat.lt_or_ge g W.heap.size with h | h
  · exact h
  · simp [World.shape?, Array.getElem?_eq_none h] at h2
/-- A slice of structs, opened. -/
theorem open_recs {P : Program} {t e : TypeId} {fs : Array Field} {k fuel : Nat} {cs : List Value} {x : DataW H × List MemPlace} (ht : P.underlying t = some (.slice e)) (he : P.underlying e = some (.struct fs)) (ce : P.cellsOf e = k)
    (h : DataW.trod enc P W 0 (fun _ => true) true fuel t cs = some x) :
    (cs = [.slice none 0 0]) ∨ ∃ (a : Addr) (len cap : Nat), cs = [.slice (some a) len cap] ∧ len ≤ cap ∧ cap ≤ maxLen ∧
      ∀ i, i < len → ∃ (vs : List Value) (n : Nat), vs.length = k ∧ (∀ j, j < k → W.cell? (a.add (i * k + j)) = vs[j]?) ∧ ∀ (j : Nat) (f : Field), fs[j]? = some f → ∃ y, DataW.trod enc P W 0 (fun _ => true) true n f.type ((vs.drop f.offset).take (P.cellsOf f.type)) = some y := by
  rcases Go.Deep.open_slice ht h with ⟨h0, _⟩ | ⟨a, len, cap, m, n, D, Pl, rfl, hb, hl, hm, hmm, _, hx⟩
  · exact .inl h0
  right
  simp only [if_true] at hmm
  subst hmm
  refine ⟨a, len, _, rfl, hl, hm, fun i hi => ?_⟩
  obtain ⟨vs, h1, h2⟩ := hx i (by omega)
  rw [ce] at h1
  obtain ⟨_, hlen, hcell⟩ := World.cells?_some h1
  obtain ⟨xs, n', hn', _, _, hxl, hf⟩ := DataW.trod_struct he h2
  refine ⟨vs, n', hlen, fun j hj => ?_, fun j f hj => ?_⟩
  · have := hcell j hj
    rwa [Go.Deep.add_add] at this
  · have hjs : j < xs.length := by
      have := (Array.getElem?_eq_some_iff.1 hj).1
      omega
    exact ⟨xs[j], (hf j f hj).trans (List.getElem?_eq_getElem hjs)⟩
theorem reg_core {n : Nat} {v0 v1 : Value} {y : DataW H × List MemPlace} (h : DataW.trod enc Try.prog W 0 (fun _ => true) true n 28 [v0, v1] = some y) :
    ∃ (k : Int) (a : Option Addr) (c : Nat) (T : List TxM), v0 = .int .i64 k ∧ v1 = .slice a T.length c ∧ TxIn W a T := by
  obtain ⟨xs, n', hn', _, _, hxl, hf⟩ := DataW.trod_struct Try.underlying28 h
  have ci : Try.prog.cellsOf 3 = 1 := cells_int
  have cm : Try.prog.cellsOf 26 = 1 := by kernel_rfl
  have h0 := hf 0 _ rfl
  have h1 := hf 1 _ rfl
  have l0 : 0 < xs.length := by rw [hxl]; decide
  have l1 : 1 < xs.length := by rw [hxl]; decide
  rw [List.getElem?_eq_getElem l0] at h0
  rw [List.getElem?_eq_getElem l1] at h1
  simp [ci] at h0
  simp [cm] at h1
  obtain ⟨k, e0, _, w0⟩ := DataW.trod_int Try.underlying3 h0
  injection e0 with e0
  obtain ⟨a, c, T, e1, hT⟩ := texts_core h1
  exact ⟨k, a, c, T, e0, e1, hT⟩
theorem open_ops {v : Value} {d : DataW H} {p : List MemPlace} (hv : Value.okWide Try.prog W .any 0 22 v) (h : DataW.Trod enc Try.prog W 0 (fun _ => true) true 22 v d p) :
    ∃ (a : Option Addr) (c : Nat) (L : List OpM), v = .slice a L.length c ∧ (OpsIn W a L ∧ L.length ≤ maxLen) := by
  obtain ⟨a0, len0, cap0, rfl⟩ := okWide_slice Try.underlying22 hv
  obtain ⟨fuel, hf⟩ := h
  rcases open_recs (k := 4) Try.underlying22 Try.underlying33 (by kernel_rfl) hf with hcs | ⟨a, len, cap, hcs, hl, hm, hx⟩
  · simp [Value.cells] at hcs
    obtain ⟨rfl, rfl, rfl⟩ := hcs
    exact ⟨none, 0, [], rfl, fun hn => absurd hn (by simp), Nat.zero_le _⟩
  · simp [Value.cells] at hcs
    obtain ⟨rfl, rfl, rfl⟩ := hcs
    obtain ⟨g, o, rfl, hg⟩ := form_slice Try.underlying22 hv
    have each : ∀ i, i < len0 → ∃ q : OpM, W.cell? ⟨g, o + i * 4, none⟩ = some (.int .i64 q.kind) ∧ W.cell? ⟨g, o + i * 4 + 1, none⟩ = some (.int .i64 q.name) ∧ W.cell? ⟨g, o + i * 4 + 2, none⟩ = some (.int .i64 q.k) ∧ W.cell? ⟨g, o + i * 4 + 3, none⟩ = some (.slice q.a q.T.length q.c) ∧ TxIn W q.a q.T := by
      intro i hi
      obtain ⟨vs, n, hvl, hc, hfl⟩ := hx i hi
      match vs, hvl with
      | [v0, v1, v2, v3], _ =>
        obtain ⟨y0, g0⟩ := hfl 0 _ rfl
        obtain ⟨y1, g1⟩ := hfl 1 _ rfl
        obtain ⟨y2, g2⟩ := hfl 2 _ rfl
        have ci : Try.prog.cellsOf 3 = 1 := cells_int
        have cr : Try.prog.cellsOf 28 = 2 := by kernel_rfl
        simp [ci] at g0 g1
        simp [cr] at g2
        obtain ⟨x0, e0, _, w0⟩ := DataW.trod_int Try.underlying3 g0
        obtain ⟨x1, e1, _, w1⟩ := DataW.trod_int Try.underlying3 g1
        obtain ⟨k, a, c, T, e2, e3, hT⟩ := reg_core g2
        injection e0 with e0
        injection e1 with e1
        subst e0 e1 e2 e3
        have c0 := hc 0 (by omega)
        have c1 := hc 1 (by omega)
        have c2 := hc 2 (by omega)
        have c3 := hc 3 (by omega)
        rw [Addr.add_lit] at c0 c1 c2 c3
        exact ⟨⟨x0, x1, k, a, c, T⟩, c0, c1, c2, c3, hT⟩
    letI : Inhabited OpM := ⟨⟨0, 0, 0, none, 0, []⟩⟩
    obtain ⟨q, hq⟩ := Go.Deep.choose_lt each
    have hlen : ((List.range len0).map q).length = len0 := by simp
    refine ⟨some ⟨g, o, none⟩, cap0, (List.range len0).map q, by rw [hlen], fun hn => ⟨g, o, rfl, hg, fun j z hz => ?_⟩, by rw [hlen]; omega⟩
    have hi : j < len0 := by
      have := (List.getElem?_eq_some_iff.1 hz).1
      rwa [hlen] at this
    rw [List.getElem?_map, List.getElem?_range hi] at hz
    simp at hz
    subst hz
    exact hq j hi
end

end Go.Proofs.Yteipnllefifgiaa
