/-
  Feed's calls as an argument, opened, at this seat's numbers.
-/
import Derived.Test.YtdkgnmomkimpoaaLiftM
import Derived.Test.YtdkgnmomkimpoaaFeO
import Derived.Deep.Fields
namespace Go.Proofs.Ytdkgnmomkimpoaa
open Go Go.RowKit Go.ChangeShapes Go.WideShapes Go.Joins
set_option linter.unusedVariables false
set_option maxRecDepth 100000

section
variable {H : Type} {enc : TypeId × Value → H} {W : World}
/-- A slice of structs whose fields have one cell each, opened. -/
theorem open_recs {P : Program} {t e : TypeId} {fs : Array Field} {k fuel : Nat} {cs : List Value} {x : DataW H × List MemPlace} (ht : P.underlying t = some (.slice e)) (he : P.underlying e = some (.struct fs)) (ce : P.cellsOf e = k)
    (h : DataW.trod enc P W 0 (fun _ => true) true fuel t cs = some x) :
    (cs = [.slice none 0 0]) ∨ ∃ (a : Addr) (len cap : Nat), cs = [.slice (some a) len cap] ∧ len ≤ cap ∧ cap ≤ maxLen ∧
      ∀ i, i < len → ∃ (vs : List Value) (n : Nat), vs.length = k ∧ (∀ j, j < k → W.cell? (a.add (i * k + j)) = vs[j]?) ∧ ∀ (j : Nat) (f : Field), fs[j]? = some f → ∃ y, DataW.trod enc P W 0 (fun _ => true) true n f.type ((vs.drop f.offset).take (P.cellsOf f.type)) = some y := by
  rcases Go.Deep.open_slice ht h with ⟨h0, _⟩ | ⟨a, len, cap, m, n, D, Pl, rfl, hb, hl, hm, hmm, _, hx⟩
  · exact .inl h0
  right
  simp only [if_true] at hmm
  subst hmm
  refine ⟨a, len, _, rfl, hl, hm, fun i hi => ?_⟩
  obtain ⟨vs, h1, h2⟩ := hx i (by omega)
  rw [ce] at h1
  obtain ⟨_, hlen, hcell⟩ := World.cells?_some h1
  obtain ⟨xs, n', hn', _, _, hxl, hf⟩ := DataW.trod_struct he h2
  refine ⟨vs, n', hlen, fun j hj => ?_, fun j f hj => ?_⟩
  · have := hcell j hj
    rwa [Go.Deep.add_add] at this
  · have hjs : j < xs.length := by
      have := (Array.getElem?_eq_some_iff.1 hj).1
      omega
    exact ⟨xs[j], (hf j f hj).trans (List.getElem?_eq_getElem hjs)⟩
/-- Keys, wherever they lie. -/
theorem open_keys {v : Value} {n : Nat} {y : DataW H × List MemPlace} (h : DataW.trod enc Try.prog W 0 (fun _ => true) true n 27 [v] = some y) :
    ∃ (a : Option Addr) (c : Nat) (l : List Int), v = .slice a l.length c ∧ Sq W a c l := by
  rcases ChangeShapes.open_ints Try.underlying27 Try.underlying3 cells_int h with ⟨hcs, _⟩ | ⟨a, len, cap, zs, hcs, _, hl, hm, hz, _, hcell, hwf⟩
  · simp at hcs
    subst hcs
    exact ⟨none, 0, [], rfl, fun j x hx => by simp at hx, Nat.le_refl _, Nat.zero_le _⟩
  · simp at hcs
    subst hcs
    simp only [if_true] at hz
    have hlen : (zs.take len).length = len := by simp; omega
    refine ⟨some a, cap, zs.take len, by rw [hlen], fun j x hj => ?_, by rw [hlen]; exact hl, hm⟩
    have hj' : j < len := by have := (List.getElem?_eq_some_iff.1 hj).1; omega
    have hc := hcell j (by omega)
    have e : zs.getD j 0 = x := by
      rw [List.getElem?_take, if_pos hj'] at hj
      rw [List.getD_eq_getElem?_getD, hj]; rfl
    rw [e] at hc
    exact ⟨a, rfl, hc, World.block_lt_of_cell? _ _ hc⟩
theorem open_ops {v : Value} {d : DataW H} {p : List MemPlace} (hv : Value.okWide Try.prog W .any 0 22 v) (h : DataW.Trod enc Try.prog W 0 (fun _ => true) true 22 v d p) :
    ∃ (a : Option Addr) (c : Nat) (L : List OpF), v = .slice a L.length c ∧ OpsIn W a L ∧ c ≤ maxLen ∧ L.length ≤ c := by
  obtain ⟨a0, len0, cap0, rfl⟩ := okWide_slice Try.underlying22 hv
  obtain ⟨fuel, hf⟩ := h
  rcases open_recs (k := 4) Try.underlying22 Try.underlying29 (by kernel_rfl) hf with hcs | ⟨a, len, cap, hcs, hl, hm, hx⟩
  · simp [Value.cells] at hcs
    obtain ⟨rfl, rfl, rfl⟩ := hcs
    exact ⟨none, 0, [], rfl, fun j o ho => by simp at ho, Nat.zero_le _, Nat.le_refl _⟩
  · simp [Value.cells] at hcs
    obtain ⟨rfl, rfl, rfl⟩ := hcs
    obtain ⟨g, o, rfl, hg⟩ := form_slice Try.underlying22 hv
    have each : ∀ i, i < len0 → ∃ q : OpF, W.cell? ⟨g, o + i * 4, none⟩ = some (.int .i64 q.k) ∧ W.cell? ⟨g, o + i * 4 + 1, none⟩ = some (.int .i64 q.x) ∧ W.cell? ⟨g, o + i * 4 + 2, none⟩ = some (.int .i64 q.n) ∧ W.cell? ⟨g, o + i * 4 + 3, none⟩ = some (.slice q.a q.l.length q.c) ∧ Sq W q.a q.c q.l ∧ I64 q.k ∧ I64 q.x ∧ I64 q.n := by
      intro i hi
      obtain ⟨vs, n, hvl, hc, hfl⟩ := hx i hi
      match vs, hvl with
      | [v0, v1, v2, v3], _ =>
        obtain ⟨y0, g0⟩ := hfl 0 _ rfl
        obtain ⟨y1, g1⟩ := hfl 1 _ rfl
        obtain ⟨y2, g2⟩ := hfl 2 _ rfl
        obtain ⟨y3, g3⟩ := hfl 3 _ rfl
        have cb : Try.prog.cellsOf 27 = 1 := by kernel_rfl
        have ci : Try.prog.cellsOf 3 = 1 := cells_int
        simp [ci] at g0 g1 g2
        simp [cb] at g3
        obtain ⟨x0, e0, _, w0⟩ := DataW.trod_int Try.underlying3 g0
        obtain ⟨x1, e1, _, w1⟩ := DataW.trod_int Try.underlying3 g1
        obtain ⟨x2, e2, _, w2⟩ := DataW.trod_int Try.underlying3 g2
        obtain ⟨a3, c3, l3, e3, s3⟩ := open_keys g3
        injection e0 with e0
        injection e1 with e1
        injection e2 with e2
        subst e0 e1 e2 e3
        have c0 := hc 0 (by omega)
        have c1 := hc 1 (by omega)
        have c2 := hc 2 (by omega)
        have c3' := hc 3 (by omega)
        rw [Addr.add_lit] at c0 c1 c2 c3'
        exact ⟨⟨x0, x1, x2, a3, c3, l3⟩, c0, c1, c2, c3', s3, bounds_i64 w0, bounds_i64 w1, bounds_i64 w2⟩
    letI : Inhabited OpF := ⟨⟨0, 0, 0, none, 0, []⟩⟩
    obtain ⟨q, hq⟩ := Go.Deep.choose_lt each
    have hlen : ((List.range len0).map q).length = len0 := by simp
    refine ⟨some ⟨g, o, none⟩, cap0, (List.range len0).map q, by rw [hlen], fun j z hz => ?_, hm, by rw [hlen]; exact hl⟩
    have hi : j < len0 := by
      have := (List.getElem?_eq_some_iff.1 hz).1
      rwa [hlen] at this
    rw [List.getElem?_map, List.getElem?_range hi] at hz
    simp at hz
    subst hz
    obtain ⟨h0, h1, h2, h3, h4, h5⟩ := hq j hi
    exact ⟨g, o, rfl, hg, h0, h1, h2, h3, h4, h5⟩
end
end Go.Proofs.Ytdkgnmomkimpoaa
