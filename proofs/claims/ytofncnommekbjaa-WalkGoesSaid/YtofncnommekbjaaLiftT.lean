/-
  Arguments opened, for the lift of the walks of layers 9 and 10, at this seat's numbers.
-/
import Derived.Test.YtofncnommekbjaaTrA
import Derived.Lib.SmallJoins
import Derived.Deep.Slices
import Derived.Carry
import Derived.OpenShut
import Derived.ShutString
import Derived.ProofKit
import Derived.Shelf.Vars
import Derived.ChangeSlices
import Derived.SliceStrings
namespace Go.Proofs.Ytofncnommekbjaa
open Go Go.RowKit Go.ChangeShapes Go.WideShapes Go.Joins
set_option linter.unusedVariables false
set_option maxRecDepth 100000

/-- A call of layer 9: its kind, place and number, and whether the place is taken as it is. -/
structure OpM where
  kind : Int
  i : Int
  x : Int
  odd : Bool
def opC (L : List OpM) : List Value := L.flatMap fun o => [.int .i64 o.kind, .int .i64 o.i, .int .i64 o.x, .bool o.odd]
theorem opC_len (L : List OpM) : (opC L).length = L.length * 4 := by
  induction L with
  | nil => rfl
  | cons s l ih => simp only [opC, List.flatMap_cons, List.length_append, List.length_cons, List.length_nil] at *; omega
theorem opC_at : ∀ (L : List OpM) (k : Nat) (o : OpM), L[k]? = some o → (opC L)[k * 4]? = some (.int .i64 o.kind) ∧ (opC L)[k * 4 + 1]? = some (.int .i64 o.i) ∧ (opC L)[k * 4 + 2]? = some (.int .i64 o.x) ∧ (opC L)[k * 4 + 3]? = some (.bool o.odd)
  | [], k, o, h => by simp at h
  | p :: L, 0, o, h => by simp at h; subst h; exact ⟨rfl, rfl, rfl, rfl⟩
  | p :: L, k + 1, o, h => by
    have ih := opC_at L k o (by simpa using h)
    have e : ∀ j, (opC (p :: L))[(k + 1) * 4 + j]? = (opC L)[k * 4 + j]? := by
      intro j
      show ([Value.int .i64 p.kind, .int .i64 p.i, .int .i64 p.x, .bool p.odd] ++ opC L)[(k + 1) * 4 + j]? = _
      rw [List.getElem?_append_right (by simp; omega)]
      congr 1; simp; omega
    have e0 := e 0
    simp only [Nat.add_zero] at e0
    rw [e0, e 1, e 2, e 3]
    exact ih
theorem opC_inv (L : List OpM) (j : Nat) (u : Value) (h : (opC L)[j]? = some u) : ∃ i o, L[i]? = some o ∧ ((j = i * 4 ∧ u = .int .i64 o.kind) ∨ (j = i * 4 + 1 ∧ u = .int .i64 o.i) ∨ (j = i * 4 + 2 ∧ u = .int .i64 o.x) ∨ (j = i * 4 + 3 ∧ u = .bool o.odd)) := by
  have hj : j < L.length * 4 := by
    rw [← opC_len]; exact (List.getElem?_eq_some_iff.1 h).1
  obtain ⟨h0, h1, h2, h3⟩ := opC_at L (j / 4) (L[j / 4]'(by omega)) (List.getElem?_eq_getElem (by omega))
  refine ⟨j / 4, _, List.getElem?_eq_getElem (by omega), ?_⟩
  rcases (show j % 4 = 0 ∨ j % 4 = 1 ∨ j % 4 = 2 ∨ j % 4 = 3 by omega) with hm | hm | hm | hm
  · have e : j = j / 4 * 4 := by omega
    rw [← e, h] at h0; exact .inl ⟨e, Option.some.inj h0⟩
  · have e : j = j / 4 * 4 + 1 := by omega
    rw [← e, h] at h1; exact .inr (.inl ⟨e, Option.some.inj h1⟩)
  · have e : j = j / 4 * 4 + 2 := by omega
    rw [← e, h] at h2; exact .inr (.inr (.inl ⟨e, Option.some.inj h2⟩))
  · have e : j = j / 4 * 4 + 3 := by omega
    rw [← e, h] at h3; exact .inr (.inr (.inr ⟨e, Option.some.inj h3⟩))
def intv : Value → Int
  | .int _ n => n
  | _ => 0
def boolw : Value → Bool
  | .bool b => b
  | _ => false
/-- A whole number of Go's int. -/
def I64 (x : Int) : Prop := -9223372036854775808 ≤ x ∧ x ≤ 9223372036854775807

section
variable {H : Type} {enc : TypeId × Value → H} {W : World}
theorem laidOut : laidOutB Try.prog = true := by kernel_rfl
theorem cells_int : Try.prog.cellsOf 3 = 1 := by kernel_rfl
theorem form_slice {P : Program} {t e : TypeId} (ht : P.underlying t = some (.slice e)) {a : Addr} {len cap : Nat} (hv : Value.okWide P W .any 0 t (.slice (some a) len cap)) : ∃ g o, a = ⟨g, o, none⟩ ∧ g < W.heap.size := by
  simp only [Value.okWide, ht, Cell.okWide, Cell.ok] at hv
  obtain ⟨_, _, _, h1, row, cells, h2, _⟩ := hv
  obtain ⟨g, o, s⟩ := a
  simp only at h1 h2
  subst h1
  refine ⟨g, o, rfl, ?_⟩
  rcases Nat.lt_or_ge g W.heap.size with h | h
  · exact h
  · simp [World.shape?, Array.getElem?_eq_none h] at h2
theorem open_nums {v : Value} {d : DataW H} {p : List MemPlace} (hv : Value.okWide Try.prog W .any 0 22 v) (h : DataW.Trod enc Try.prog W 0 (fun _ => true) true 22 v d p) :
    ∃ (a : Option Addr) (c : Nat) (L : List Int), v = .slice a L.length c ∧ Sl W a c (L.map (Value.int .i64)) ∧ ∀ x ∈ L, I64 x := by
  obtain ⟨a0, len0, cap0, rfl⟩ := okWide_slice Try.underlying22 hv
  obtain ⟨fuel, hf⟩ := h
  rcases ChangeShapes.open_ints Try.underlying22 Try.underlying3 cells_int hf with ⟨hcs, _⟩ | ⟨a, len, cap, zs, hcs, _, hl, hm, hz, _, hcell, hwf⟩
  · simp [Value.cells] at hcs
    obtain ⟨rfl, rfl, rfl⟩ := hcs
    exact ⟨none, 0, [], rfl, Sl.none W, by simp⟩
  · simp [Value.cells] at hcs
    obtain ⟨rfl, rfl, rfl⟩ := hcs
    simp only [if_true] at hz
    obtain ⟨g, o, rfl, hg⟩ := form_slice Try.underlying22 hv
    have hlen : (zs.take len0).length = len0 := by simp; omega
    refine ⟨some ⟨g, o, none⟩, cap0, zs.take len0, by rw [hlen], ⟨⟨by simp, fun hn => ⟨g, o, rfl, hg, fun j u hj => ?_⟩⟩, by rw [List.length_map, hlen]; exact hl, hm, fun h => (by cases h), fun d hd => ⟨g, o, by cases hd; rfl⟩, fun u hu => ?_⟩, fun x hx => bounds_i64 (hwf x (List.mem_of_mem_take hx))⟩
    · rw [List.getElem?_map] at hj
      have hj' : j < len0 := by
        rcases Nat.lt_or_ge j len0 with h' | h'
        · exact h'
        · rw [List.getElem?_eq_none (by rw [hlen]; exact h')] at hj; cases hj
      have hc := hcell j (by omega)
      rw [Addr.add_lit] at hc
      rw [hc]
      rw [List.getElem?_take, if_pos hj', List.getElem?_eq_getElem (by omega)] at hj
      rw [List.getD_eq_getElem?_getD, List.getElem?_eq_getElem (by omega)]
      exact hj
    · obtain ⟨x, _, rfl⟩ := List.mem_map.1 hu; rfl
theorem open_texts {v : Value} {d : DataW H} {p : List MemPlace} (hv : Value.okWide Try.prog W .any 0 45 v) (h : DataW.Trod enc Try.prog W 0 (fun _ => true) true 45 v d p) :
    ∃ (a : Option Addr) (c : Nat) (L : List ByteArray), v = .slice a L.length c ∧ Sl W a c (L.map Value.string) ∧ ∀ s ∈ L, s.size ≤ maxLen := by
  obtain ⟨a0, len0, cap0, rfl⟩ := okWide_slice Try.underlying45 hv
  obtain ⟨fuel, hf⟩ := h
  rcases open_strings Try.underlying45 Try.underlying9 (by kernel_rfl) hf with ⟨hcs, _⟩ | ⟨a, len, cap, zs, hcs, _, hl, hm, hz, _, hcell, hwf⟩
  · simp [Value.cells] at hcs
    obtain ⟨rfl, rfl, rfl⟩ := hcs
    exact ⟨none, 0, [], rfl, Sl.none W, by simp⟩
  · simp [Value.cells] at hcs
    obtain ⟨rfl, rfl, rfl⟩ := hcs
    simp only [if_true] at hz
    obtain ⟨g, o, rfl, hg⟩ := form_slice Try.underlying45 hv
    have hlen : (zs.take len0).length = len0 := by simp; omega
    refine ⟨some ⟨g, o, none⟩, cap0, zs.take len0, by rw [hlen], ⟨⟨by simp, fun hn => ⟨g, o, rfl, hg, fun j u hj => ?_⟩⟩, by rw [List.length_map, hlen]; exact hl, hm, fun h => (by cases h), fun d hd => ⟨g, o, by cases hd; rfl⟩, fun u hu => ?_⟩, fun x hx => hwf x (List.mem_of_mem_take hx)⟩
    · rw [List.getElem?_map] at hj
      have hj' : j < len0 := by
        rcases Nat.lt_or_ge j len0 with h' | h'
        · exact h'
        · rw [List.getElem?_eq_none (by rw [hlen]; exact h')] at hj; cases hj
      have hc := hcell j (by omega)
      rw [Addr.add_lit] at hc
      rw [hc]
      rw [List.getElem?_take, if_pos hj', List.getElem?_eq_getElem (by omega)] at hj
      rw [List.getD_eq_getElem?_getD, List.getElem?_eq_getElem (by omega)]
      exact hj
    · obtain ⟨x, _, rfl⟩ := List.mem_map.1 hu; rfl
/-- A slice of structs whose fields have one cell each, opened. -/
theorem open_recs {P : Program} {t e : TypeId} {fs : Array Field} {k fuel : Nat} {cs : List Value} {x : DataW H × List MemPlace} (ht : P.underlying t = some (.slice e)) (he : P.underlying e = some (.struct fs)) (ce : P.cellsOf e = k)
    (h : DataW.trod enc P W 0 (fun _ => true) true fuel t cs = some x) :
    (cs = [.slice none 0 0]) ∨ ∃ (a : Addr) (len cap : Nat), cs = [.slice (some a) len cap] ∧ len ≤ cap ∧ cap ≤ maxLen ∧
      ∀ i, i < len → ∃ (vs : List Value) (n : Nat), vs.length = k ∧ (∀ j, j < k → W.cell? (a.add (i * k + j)) = vs[j]?) ∧ ∀ (j : Nat) (f : Field), fs[j]? = some f → ∃ y, DataW.trod enc P W 0 (fun _ => true) true n f.type ((vs.drop f.offset).take (P.cellsOf f.type)) = some y := by
  rcases Go.Deep.open_slice ht h with ⟨h0, _⟩ | ⟨a, len, cap, m, n, D, Pl, rfl, hb, hl, hm, hmm, _, hx⟩
  · exact .inl h0
  right
  simp only [if_true] at hmm
  subst hmm
  refine ⟨a, len, _, rfl, hl, hm, fun i hi => ?_⟩
  obtain ⟨vs, h1, h2⟩ := hx i (by omega)
  rw [ce] at h1
  obtain ⟨_, hlen, hcell⟩ := World.cells?_some h1
  obtain ⟨xs, n', hn', _, _, hxl, hf⟩ := DataW.trod_struct he h2
  refine ⟨vs, n', hlen, fun j hj => ?_, fun j f hj => ?_⟩
  · have := hcell j hj
    rwa [Go.Deep.add_add] at this
  · have hjs : j < xs.length := by
      have := (Array.getElem?_eq_some_iff.1 hj).1
      omega
    exact ⟨xs[j], (hf j f hj).trans (List.getElem?_eq_getElem hjs)⟩
theorem open_ops {v : Value} {d : DataW H} {p : List MemPlace} (hv : Value.okWide Try.prog W .any 0 23 v) (h : DataW.Trod enc Try.prog W 0 (fun _ => true) true 23 v d p) :
    ∃ (a : Option Addr) (c : Nat) (L : List OpM), v = .slice a L.length c ∧ Rd W 4 a L.length (opC L) ∧ c ≤ maxLen ∧ L.length ≤ c ∧ ∀ o ∈ L, I64 o.kind ∧ I64 o.i ∧ I64 o.x := by
  obtain ⟨a0, len0, cap0, rfl⟩ := okWide_slice Try.underlying23 hv
  obtain ⟨fuel, hf⟩ := h
  rcases open_recs (k := 4) Try.underlying23 Try.underlying31 (by kernel_rfl) hf with hcs | ⟨a, len, cap, hcs, hl, hm, hx⟩
  · simp [Value.cells] at hcs
    obtain ⟨rfl, rfl, rfl⟩ := hcs
    exact ⟨none, 0, [], rfl, ⟨rfl, fun hn => absurd hn (by simp)⟩, Nat.zero_le _, Nat.le_refl _, by simp⟩
  · simp [Value.cells] at hcs
    obtain ⟨rfl, rfl, rfl⟩ := hcs
    obtain ⟨g, o, rfl, hg⟩ := form_slice Try.underlying23 hv
    have each : ∀ i, i < len0 → ∃ q : OpM, (W.cell? ⟨g, o + i * 4, none⟩ = some (.int .i64 q.kind) ∧ W.cell? ⟨g, o + (i * 4 + 1), none⟩ = some (.int .i64 q.i) ∧ W.cell? ⟨g, o + (i * 4 + 2), none⟩ = some (.int .i64 q.x) ∧ W.cell? ⟨g, o + (i * 4 + 3), none⟩ = some (.bool q.odd)) ∧ I64 q.kind ∧ I64 q.i ∧ I64 q.x := by
      intro i hi
      obtain ⟨vs, n, hvl, hc, hfl⟩ := hx i hi
      match vs, hvl with
      | [v0, v1, v2, v3], _ =>
        obtain ⟨y0, g0⟩ := hfl 0 _ rfl
        obtain ⟨y1, g1⟩ := hfl 1 _ rfl
        obtain ⟨y2, g2⟩ := hfl 2 _ rfl
        obtain ⟨y3, g3⟩ := hfl 3 _ rfl
        have cb : Try.prog.cellsOf 4 = 1 := by kernel_rfl
        have ci : Try.prog.cellsOf 3 = 1 := cells_int
        simp [ci] at g0 g1 g2
        simp [cb] at g3
        obtain ⟨x0, e0, _, w0⟩ := DataW.trod_int Try.underlying3 g0
        obtain ⟨x1, e1, _, w1⟩ := DataW.trod_int Try.underlying3 g1
        obtain ⟨x2, e2, _, w2⟩ := DataW.trod_int Try.underlying3 g2
        obtain ⟨x3, e3, _⟩ := DataW.trod_bool Try.underlying4 g3
        injection e0 with e0
        injection e1 with e1
        injection e2 with e2
        injection e3 with e3
        subst e0 e1 e2 e3
        have c0 := hc 0 (by omega)
        have c1 := hc 1 (by omega)
        have c2 := hc 2 (by omega)
        have c3 := hc 3 (by omega)
        rw [Addr.add_lit] at c0 c1 c2 c3
        exact ⟨⟨x0, x1, x2, x3⟩, ⟨c0, c1, c2, c3⟩, bounds_i64 w0, bounds_i64 w1, bounds_i64 w2⟩
    letI : Inhabited OpM := ⟨⟨0, 0, 0, false⟩⟩
    obtain ⟨q, hq⟩ := Go.Deep.choose_lt each
    have hlen : ((List.range len0).map q).length = len0 := by simp
    refine ⟨some ⟨g, o, none⟩, cap0, (List.range len0).map q, by rw [hlen], ⟨by rw [opC_len], fun hn => ⟨g, o, rfl, hg, fun j u hu => ?_⟩⟩, hm, by rw [hlen]; exact hl, fun z hz => ?_⟩
    · obtain ⟨i, s, hs, hj⟩ := opC_inv _ _ _ hu
      have hi : i < len0 := by
        have := (List.getElem?_eq_some_iff.1 hs).1
        rwa [hlen] at this
      rw [List.getElem?_map, List.getElem?_range hi] at hs
      simp at hs
      subst hs
      obtain ⟨⟨c0, c1, c2, c3⟩, _⟩ := hq i hi
      rcases hj with ⟨rfl, rfl⟩ | ⟨rfl, rfl⟩ | ⟨rfl, rfl⟩ | ⟨rfl, rfl⟩
      · exact c0
      · exact c1
      · exact c2
      · exact c3
    · obtain ⟨i, hi, rfl⟩ := List.mem_map.1 hz
      exact (hq i (List.mem_range.1 hi)).2
end

end Go.Proofs.Ytofncnommekbjaa
