/-
  The contract of the law's step, at this seat's numbers.
-/
import Derived.Test.YtofncnommekbjaaTuC
import Derived.Test.YtofncnommekbjaaLiftT
namespace Go.Proofs.Ytofncnommekbjaa
open Go Go.RowKit
set_option linter.unusedVariables false

/-- The place that a call speaks of. -/
def plZ (n : Nat) (i : Int) (odd : Bool) : Int := if odd then i else (i % 18446744073709551616) % ((n : Int) + 1)
/-- The row behind a call. -/
def stL (l : List Int) (o : OpM) : List Int :=
  if o.kind = 0 ∨ o.kind = 1 ∨ o.kind = 2 then insZ l (plZ l.length o.i o.odd) o.x else if o.kind = 3 ∨ o.kind = 4 then delZ l (plZ l.length o.i o.odd) else if o.kind = 5 then setZ l (plZ l.length o.i o.odd) o.x else l
theorem stL_len (l : List Int) (o : OpM) : (stL l o).length ≤ l.length + 1 := by
  unfold stL
  split
  · rw [insZ_len]; split <;> omega
  · split
    · rw [delZ_len]; split <;> omega
    · split
      · rw [setZ_len]; omega
      · omega
theorem pl_walk {n : Nat} {i : Int} (hn : n ≤ 1000000) : IntKind.i64.wrap ((i % 18446744073709551616) % ((n : Int) + 1)) = plZ n i false := by
  have h1 := Int.emod_nonneg (i % 18446744073709551616) (show (n : Int) + 1 ≠ 0 by omega)
  have h2 := Int.emod_lt_of_pos (i % 18446744073709551616) (show (0 : Int) < (n : Int) + 1 by omega)
  show _ = (i % 18446744073709551616) % ((n : Int) + 1)
  rw [IntKind.wrap_i64]; omega

theorem Sl.setBox {w : World} {a : Option Addr} {c p TT : Nat} {u v : Value} {xs : List Value} (h : Sl w a c xs) (hp : w.heap[p]? = some (.cells #[v] TT (0, 0))) (hx : 2 ≤ xs.length ∨ ∀ y ∈ xs, y ≠ v) : Sl (w.setCell ⟨p, 0, Option.none⟩ u) a c xs := by
  refine ⟨⟨h.rd.1, fun hn => ?_⟩, h.cap, h.capm, h.nil, h.form, h.one⟩
  obtain ⟨g, off, rfl, hlt, hc⟩ := h.rd.2 hn
  have hg : g ≠ p := by
    rintro rfl
    rcases hx with h2 | hx
    · have h0 := hc 1 (xs[1]'(by omega)) (List.getElem?_eq_getElem (by omega))
      rw [cell_at hp] at h0
      have h1 := (Array.getElem?_eq_some_iff.1 h0).1
      simp at h1
    · have h0 := hc 0 (xs[0]'hn) (List.getElem?_eq_getElem hn)
      rw [cell_at hp] at h0
      have h1 : off + 0 < 1 := by
        have := (Array.getElem?_eq_some_iff.1 h0).1
        simpa using this
      have h2 : off = 0 := by omega
      subst h2
      exact hx _ (List.getElem_mem hn) (Option.some.inj h0).symm
  refine ⟨g, off, rfl, by rw [size_set]; exact hlt, fun j x hj => ?_⟩
  rw [World.cell?_of_block (w := w) (w' := w.setCell ⟨p, 0, Option.none⟩ u) (a := ⟨g, off + j, Option.none⟩) (heap_set_other hg)]
  exact hc j x hj
theorem In.setBox {w : World} {T p TT : Nat} {u v : Value} (hp : w.heap[p]? = some (.cells #[v] TT (0, 0))) (hT : TT ≠ T) : ∀ (h : Nat) {lo b : Nat} {t : List (El h)}, (h = 0 ∨ 2 ≤ lo) → Ok lo h t → (∀ y ∈ flatL h t, y ≠ v) → In w T h t b → In (w.setCell ⟨p, 0, none⟩ u) T h t b
  | 0, lo, b, t, hlo, hok, hv, H => by
    obtain ⟨a, c, h1, ht, h2⟩ := H
    have hb : b ≠ p := by
      rintro rfl
      rw [h1] at hp
      injection hp with hp
      injection hp with _ hp
      exact hT hp.symm
    have h3 := h2.zero
    exact ⟨a, c, (heap_set_other hb).trans h1, fun d hd => (ht d hd).set, Es.ofSl (h3.setBox hp (.inr (fun y hy => hv y (by have e : flatL 0 t = (t : List Value) := flatL_zero t; exact e.symm ▸ hy))))⟩
  | h + 1, lo, b, ts, hlo, hok, hv, H => by
    obtain ⟨a, c, h1, ht, us, h2, h3, h4⟩ := H
    have hb : b ≠ p := by
      rintro rfl
      rw [h1] at hp
      injection hp with hp
      injection hp with _ hp
      exact hT hp.symm
    have hl := hok.len
    have hlo2 : 2 ≤ lo := by rcases hlo with h | h <;> omega
    refine ⟨a, c, (heap_set_other hb).trans h1, fun d hd => (ht d hd).set, us, h2.setBox hp (.inl (by omega)), h3, fun i x y hx hy => ?_⟩
    obtain ⟨b', rfl, hin⟩ := of_in (h4 i x y hx hy)
    have hi := (List.getElem?_eq_some_iff.1 hx).1
    have hxn : nth ts i = x := nth_some hx
    have hk := hok.kid hi
    rw [hxn] at hk
    refine in_of (In.setBox hp hT h (.inr (by omega)) hk (fun z hz => hv z ?_) hin)
    rw [flat_split hi, hxn]
    simp [hz]
theorem Tin.setBox {w : World} {T p TT : Nat} {u v pv : Value} {L : List Value} (H : Tin w T pv L) (hp : w.heap[p]? = some (.cells #[v] TT (0, 0))) (hT : TT ≠ T) (hv : ∀ y ∈ L, y ≠ v) : Tin (w.setCell ⟨p, 0, none⟩ u) T pv L := by
  rcases H with h | ⟨b, h, t, h1, h2, h3, rfl⟩
  · exact .inl h
  · exact .inr ⟨b, h, t, h1, In.setBox hp hT h (by unfold rlo; by_cases e : h = 0 <;> simp [e]) h3 hv h2, h3, rfl⟩
theorem nums_np (l : List Int) (x : Option Addr) : ∀ y ∈ nums l, y ≠ Value.pointer x := fun y hy h => by
  obtain ⟨z, rfl⟩ := isN_nums l y hy
  cases h
def StPost (a : Option Addr) (m : List Int) (w : World) (e : Ending) (w' : World) : Prop :=
  ∃ y a' c', e = .returned (.tuple #[.agg #[.pointer y], .slice a' m.length c', .bool true]) ∧ Tin w' 95 (.pointer y) (nums m) ∧ Sl w' a' c' (nums m) ∧ (a' = a ∨ ∀ d, a' = some d → TyAt w' d.block) ∧ Below w.heap.size w w'

set_option maxRecDepth 100000 in
set_option maxHeartbeats 4000000 in
theorem step0 {w : World} {x a : Option Addr} {c : Nat} {l : List Int} {I X : Int} {odd : Bool} (H : Tin w 95 (.pointer x) (nums l)) (hS : Sl w a c (nums l)) (hI : I64 I) (hl : l.length ≤ 1000) :
    Calls Try.prog 14 #[.agg #[.pointer x], .slice a l.length c, .agg #[.int .i64 0, .int .i64 I, .int .i64 X, .bool odd]] w (StPost a (insZ l (plZ l.length I odd) X) w) := by
  obtain ⟨w1, hw1, hb1, hz1, hA, hD, hC⟩ := three_blocks w (Obj.cells #[.pointer x] 27) (Obj.cells #[.int .i64 0, .int .i64 I, .int .i64 X, .bool odd] 31) (Obj.cells #[Value.pointer none] 27)
  have HB1 := Lib.hid hb1
  have HT1 := Lib.hid (H.below hb1)
  have HS1 := Lib.hid (hS.below hb1)
  have c0 : w1.cell? ⟨w.heap.size, 0, none⟩ = some (.pointer x) := by rw [cell_at hA]; rfl
  have p0 : w1.cell? ⟨w.heap.size + 1, 0, none⟩ = some (.int .i64 0) := by rw [cell_at hD]; rfl
  have p1 : w1.cell? ⟨w.heap.size + 1, 1, none⟩ = some (.int .i64 I) := by rw [cell_at hD]; rfl
  have p2 : w1.cell? ⟨w.heap.size + 1, 2, none⟩ = some (.int .i64 X) := by rw [cell_at hD]; rfl
  have p3 : w1.cell? ⟨w.heap.size + 1, 3, none⟩ = some (.bool odd) := by rw [cell_at hD]; rfl
  have HCD := Lib.hid (And.intro hA (And.intro hD hC))
  obtain ⟨n, hn⟩ : ∃ n, l.length = n := ⟨_, rfl⟩
  have HN := Lib.hid hn
  have hnl : (nums l).length = n := by rw [nums_len]; exact hn
  obtain ⟨J, hJ⟩ : ∃ J, plZ n I odd = J := ⟨_, rfl⟩
  have hJw : odd = false → IntKind.i64.wrap ((I % 18446744073709551616) % ((n : Int) + 1)) = J := fun ho => by
    rw [pl_walk (by omega), ← ho]; exact hJ
  have hJt : odd = true → I = J := fun ho => by rw [ho] at hJ; exact hJ
  rw [hn] at hl ⊢
  obtain ⟨w2, hw2, hb2, hz2, hh2⟩ := box_eq w1 27 x
  have e0 : w2.cell? ⟨w.heap.size, 0, none⟩ = some (.pointer x) := (hb2.cell (p := ⟨w.heap.size, 0, none⟩) (by show w.heap.size < _; omega)).trans c0
  have r0 : w2.cell? ⟨w.heap.size + 1, 0, none⟩ = some (.int .i64 0) := (hb2.cell (p := ⟨w.heap.size + 1, 0, none⟩) (by show w.heap.size + 1 < _; omega)).trans p0
  have r2 : w2.cell? ⟨w.heap.size + 1, 2, none⟩ = some (.int .i64 X) := (hb2.cell (p := ⟨w.heap.size + 1, 2, none⟩) (by show w.heap.size + 1 < _; omega)).trans p2
  have HT2 := Lib.hid (HT1.out.below hb2)
  have HS2 := Lib.hid (HS1.out.below hb2)
  have HB2 := Lib.hid (HB1.out.trans (hb2.mono HB1.out.size))
  have HC2 := Lib.hid ((hb2.block (w.heap.size + 2) (by omega)).trans hC)
  have HU2 := Lib.hid hh2
  have hzz : w1.heap.size = w.heap.size + 3 := hz1
  have hz22 : w2.heap.size = w.heap.size + 4 := by omega
  have zu := fun i => unfrozen hh2 i
  have cu : w2.cell? ⟨w1.heap.size, 0, none⟩ = some (.pointer x) := by rw [cell_at hh2]; rfl
  rw [hzz] at zu cu HU2 hw2
  have HC1 := Lib.hid (tins_i X J HT2.out (nums_gd _) (by rw [hnl]; omega))
  have HC2c := Lib.hid (fun w' (h : Sl w' a c (nums l)) => nins X l J h (by rw [HN.out]; omega))
  rw [HN.out] at HC2c
  rw [hnl, ← nums_insZ] at HC1
  rw [hJ]
  obtain ⟨M, hM⟩ : ∃ M, insZ l J X = M := ⟨_, rfl⟩
  rw [hM] at HC1 HC2c ⊢
  obtain ⟨bb, hbb⟩ : ∃ bb, decide (0 ≤ J ∧ J ≤ (n : Int)) = bb := ⟨_, rfl⟩
  rw [hbb] at HC1 HC2c
  clear H hS hb1 hA hD hC hI hJ hbb hM hb2 hh2 hz2 hzz HS1 HT1 hn
  have hbq : (bb == bb) = true := by simp
  cases odd
  · have hJ2 : wrap64 ((IntKind.u64.wrap I).tmod ((n : Int) + 1)) = J := by
      rw [← hJw rfl, IntKind.wrap_u64, Int.tmod_eq_emod_of_nonneg (Int.emod_nonneg _ (by omega)), IntKind.wrap_i64]; unfold wrap64; omega
    have hnz : ((n : Int) + 1 == 0) = false := by simp; omega
    have hwn1 : IntKind.i64.wrap ((n : Int) + 1) = (n : Int) + 1 := by rw [IntKind.wrap_i64]; omega
    have hwu1 : IntKind.u64.wrap ((n : Int) + 1) = (n : Int) + 1 := by rw [IntKind.wrap_u64]; omega
    clear hJw hJt
    go_enter Try.func14, Try.ntmps14
    go_upto_region 5 with fail
    go_wp2_with fail
    refine HC1.out.mono ?_; rintro e w3 ⟨y, rfl, hT3, hb3⟩
    have hu3 := (hb3.block (w.heap.size + 3) (by omega)).trans HU2.out
    have hc3 := (hb3.block (w.heap.size + 2) (by omega)).trans HC2.out
    obtain ⟨w4, hw4⟩ : ∃ w4, w3.setCell ⟨w.heap.size + 3, 0, none⟩ (.pointer y) = w4 := ⟨_, rfl⟩
    have zu3 := fun i => unfrozen hu3 i
    have cu3 : w3.cell? ⟨w.heap.size + 3, 0, none⟩ = some (.pointer x) := by rw [cell_at hu3]; rfl
    have hu4 : w4.heap[w.heap.size + 3]? = some (.cells #[.pointer y] 27 (0, 0)) := by rw [← hw4, heap_set_at hu3]; rfl
    have hc4 : w4.heap[w.heap.size + 2]? = some (.cells #[.pointer none] 27 (0, 0)) := by rw [← hw4]; exact (heap_set_other (by omega)).trans hc3
    have hT4 : Tin w4 95 (.pointer y) (nums M) := by rw [← hw4]; exact hT3.setBox hu3 (by decide) (nums_np _ _)
    have hS4 : Sl w4 a c (nums l) := by rw [← hw4]; exact (HS2.out.below hb3).setBox hu3 (.inr (nums_np _ _))
    have hB4 : Below w.heap.size w w4 := by rw [← hw4]; exact (HB2.out.trans (hb3.mono HB2.out.size)).setCell (p := ⟨w.heap.size + 3, 0, none⟩) (by show _ ≤ w.heap.size + 3; omega) _
    have hz4 : w.heap.size + 4 ≤ w4.heap.size := by rw [← hw4, size_set]; have := hb3.size; omega
    have q2 : w4.cell? ⟨w.heap.size + 1, 2, none⟩ = some (.int .i64 X) := by
      rw [← hw4, World.cell?_of_block (w := w3) (a := ⟨w.heap.size + 1, 2, none⟩) (heap_set_other (by show w.heap.size + 1 ≠ w.heap.size + 3; omega))]
      exact (hb3.cell (p := ⟨w.heap.size + 1, 2, none⟩) (by show w.heap.size + 1 < _; omega)).trans r2
    have HT4 := Lib.hid hT4
    have HB4 := Lib.hid hB4
    have HU4 := Lib.hid (And.intro hu4 hc4)
    have HR := Lib.hid (HC2c.out w4 hS4)
    clear hT3 hb3 hu3 hc3 hu4 hc4 hT4 hS4 hB4 HC1 r0 e0
    go_wp2_with fail
    refine HR.out.mono ?_; rintro e w5 ⟨a5, c5, rfl, hS5, hty5, hb5⟩
    have HTy5 := Lib.hid hty5
    clear hty5
    have hu5 := (hb5.block (w.heap.size + 3) (by omega)).trans HU4.out.1
    have hc5 := (hb5.block (w.heap.size + 2) (by omega)).trans HU4.out.2
    have cu5 : w5.cell? ⟨w.heap.size + 3, 0, none⟩ = some (.pointer y) := by rw [cell_at hu5]; rfl
    have zc5 := fun i => unfrozen hc5 i
    have cc5 : w5.cell? ⟨w.heap.size + 2, 0, none⟩ = some (.pointer none) := by rw [cell_at hc5]; rfl
    have HT5 := Lib.hid (HT4.out.below hb5)
    have HS5 := Lib.hid hS5
    have HB5 := Lib.hid (HB4.out.trans (hb5.mono HB4.out.size))
    have HC5 := Lib.hid hc5
    clear hb5 hS5 hu5 hc5 hw4 zu3 cu3 HR q2
    go_wp2_with fail
    have hs := heap_set_at (o := 0) (u := Value.pointer y) HC5.out
    have q0 : (w5.setCell ⟨w.heap.size + 2, 0, none⟩ (Value.pointer y)).cell? ⟨w.heap.size + 2, 0, none⟩ = some (Value.pointer y) := by rw [cell_at hs]; rfl
    exact bodyPost_ret (v := .tuple #[.agg #[.pointer y], .slice a5 M.length c5, .bool true]) (by simp [results, Try.results14, go_sem, q0]) rfl ⟨y, a5, c5, rfl, HT5.out.setBox HC5.out (by decide) (nums_np _ _), HS5.out.setBox HC5.out (.inr (nums_np _ _)), HTy5.out.imp id (fun h d hd => (h d hd).set), HB5.out.setCell (p := ⟨w.heap.size + 2, 0, none⟩) (by show _ ≤ w.heap.size + 2; omega) _⟩
  · obtain rfl : I = J := hJt rfl
    clear hJw hJt
    go_enter Try.func14, Try.ntmps14
    go_upto_region 5 with fail
    go_wp2_with fail
    refine HC1.out.mono ?_; rintro e w3 ⟨y, rfl, hT3, hb3⟩
    have hu3 := (hb3.block (w.heap.size + 3) (by omega)).trans HU2.out
    have hc3 := (hb3.block (w.heap.size + 2) (by omega)).trans HC2.out
    obtain ⟨w4, hw4⟩ : ∃ w4, w3.setCell ⟨w.heap.size + 3, 0, none⟩ (.pointer y) = w4 := ⟨_, rfl⟩
    have zu3 := fun i => unfrozen hu3 i
    have cu3 : w3.cell? ⟨w.heap.size + 3, 0, none⟩ = some (.pointer x) := by rw [cell_at hu3]; rfl
    have hu4 : w4.heap[w.heap.size + 3]? = some (.cells #[.pointer y] 27 (0, 0)) := by rw [← hw4, heap_set_at hu3]; rfl
    have hc4 : w4.heap[w.heap.size + 2]? = some (.cells #[.pointer none] 27 (0, 0)) := by rw [← hw4]; exact (heap_set_other (by omega)).trans hc3
    have hT4 : Tin w4 95 (.pointer y) (nums M) := by rw [← hw4]; exact hT3.setBox hu3 (by decide) (nums_np _ _)
    have hS4 : Sl w4 a c (nums l) := by rw [← hw4]; exact (HS2.out.below hb3).setBox hu3 (.inr (nums_np _ _))
    have hB4 : Below w.heap.size w w4 := by rw [← hw4]; exact (HB2.out.trans (hb3.mono HB2.out.size)).setCell (p := ⟨w.heap.size + 3, 0, none⟩) (by show _ ≤ w.heap.size + 3; omega) _
    have hz4 : w.heap.size + 4 ≤ w4.heap.size := by rw [← hw4, size_set]; have := hb3.size; omega
    have q2 : w4.cell? ⟨w.heap.size + 1, 2, none⟩ = some (.int .i64 X) := by
      rw [← hw4, World.cell?_of_block (w := w3) (a := ⟨w.heap.size + 1, 2, none⟩) (heap_set_other (by show w.heap.size + 1 ≠ w.heap.size + 3; omega))]
      exact (hb3.cell (p := ⟨w.heap.size + 1, 2, none⟩) (by show w.heap.size + 1 < _; omega)).trans r2
    have HT4 := Lib.hid hT4
    have HB4 := Lib.hid hB4
    have HU4 := Lib.hid (And.intro hu4 hc4)
    have HR := Lib.hid (HC2c.out w4 hS4)
    clear hT3 hb3 hu3 hc3 hu4 hc4 hT4 hS4 hB4 HC1 r0 e0
    go_wp2_with fail
    refine HR.out.mono ?_; rintro e w5 ⟨a5, c5, rfl, hS5, hty5, hb5⟩
    have HTy5 := Lib.hid hty5
    clear hty5
    have hu5 := (hb5.block (w.heap.size + 3) (by omega)).trans HU4.out.1
    have hc5 := (hb5.block (w.heap.size + 2) (by omega)).trans HU4.out.2
    have cu5 : w5.cell? ⟨w.heap.size + 3, 0, none⟩ = some (.pointer y) := by rw [cell_at hu5]; rfl
    have zc5 := fun i => unfrozen hc5 i
    have cc5 : w5.cell? ⟨w.heap.size + 2, 0, none⟩ = some (.pointer none) := by rw [cell_at hc5]; rfl
    have HT5 := Lib.hid (HT4.out.below hb5)
    have HS5 := Lib.hid hS5
    have HB5 := Lib.hid (HB4.out.trans (hb5.mono HB4.out.size))
    have HC5 := Lib.hid hc5
    clear hb5 hS5 hu5 hc5 hw4 zu3 cu3 HR q2
    go_wp2_with fail
    have hs := heap_set_at (o := 0) (u := Value.pointer y) HC5.out
    have q0 : (w5.setCell ⟨w.heap.size + 2, 0, none⟩ (Value.pointer y)).cell? ⟨w.heap.size + 2, 0, none⟩ = some (Value.pointer y) := by rw [cell_at hs]; rfl
    exact bodyPost_ret (v := .tuple #[.agg #[.pointer y], .slice a5 M.length c5, .bool true]) (by simp [results, Try.results14, go_sem, q0]) rfl ⟨y, a5, c5, rfl, HT5.out.setBox HC5.out (by decide) (nums_np _ _), HS5.out.setBox HC5.out (.inr (nums_np _ _)), HTy5.out.imp id (fun h d hd => (h d hd).set), HB5.out.setCell (p := ⟨w.heap.size + 2, 0, none⟩) (by show _ ≤ w.heap.size + 2; omega) _⟩

set_option maxRecDepth 100000 in
set_option maxHeartbeats 4000000 in
theorem step1 {w : World} {x a : Option Addr} {c : Nat} {l : List Int} {I X : Int} {odd : Bool} (H : Tin w 95 (.pointer x) (nums l)) (hS : Sl w a c (nums l)) (hI : I64 I) (hl : l.length ≤ 1000) :
    Calls Try.prog 14 #[.agg #[.pointer x], .slice a l.length c, .agg #[.int .i64 1, .int .i64 I, .int .i64 X, .bool odd]] w (StPost a (insZ l (plZ l.length I odd) X) w) := by
  obtain ⟨w1, hw1, hb1, hz1, hA, hD, hC⟩ := three_blocks w (Obj.cells #[.pointer x] 27) (Obj.cells #[.int .i64 1, .int .i64 I, .int .i64 X, .bool odd] 31) (Obj.cells #[Value.pointer none] 27)
  have HB1 := Lib.hid hb1
  have HT1 := Lib.hid (H.below hb1)
  have HS1 := Lib.hid (hS.below hb1)
  have c0 : w1.cell? ⟨w.heap.size, 0, none⟩ = some (.pointer x) := by rw [cell_at hA]; rfl
  have p0 : w1.cell? ⟨w.heap.size + 1, 0, none⟩ = some (.int .i64 1) := by rw [cell_at hD]; rfl
  have p1 : w1.cell? ⟨w.heap.size + 1, 1, none⟩ = some (.int .i64 I) := by rw [cell_at hD]; rfl
  have p2 : w1.cell? ⟨w.heap.size + 1, 2, none⟩ = some (.int .i64 X) := by rw [cell_at hD]; rfl
  have p3 : w1.cell? ⟨w.heap.size + 1, 3, none⟩ = some (.bool odd) := by rw [cell_at hD]; rfl
  have HCD := Lib.hid (And.intro hA (And.intro hD hC))
  obtain ⟨n, hn⟩ : ∃ n, l.length = n := ⟨_, rfl⟩
  have HN := Lib.hid hn
  have hnl : (nums l).length = n := by rw [nums_len]; exact hn
  obtain ⟨J, hJ⟩ : ∃ J, plZ n I odd = J := ⟨_, rfl⟩
  have hJw : odd = false → IntKind.i64.wrap ((I % 18446744073709551616) % ((n : Int) + 1)) = J := fun ho => by
    rw [pl_walk (by omega), ← ho]; exact hJ
  have hJt : odd = true → I = J := fun ho => by rw [ho] at hJ; exact hJ
  rw [hn] at hl ⊢
  obtain ⟨w2, hw2, hb2, hz2, hh2⟩ := box_eq w1 27 x
  have e0 : w2.cell? ⟨w.heap.size, 0, none⟩ = some (.pointer x) := (hb2.cell (p := ⟨w.heap.size, 0, none⟩) (by show w.heap.size < _; omega)).trans c0
  have r0 : w2.cell? ⟨w.heap.size + 1, 0, none⟩ = some (.int .i64 1) := (hb2.cell (p := ⟨w.heap.size + 1, 0, none⟩) (by show w.heap.size + 1 < _; omega)).trans p0
  have r2 : w2.cell? ⟨w.heap.size + 1, 2, none⟩ = some (.int .i64 X) := (hb2.cell (p := ⟨w.heap.size + 1, 2, none⟩) (by show w.heap.size + 1 < _; omega)).trans p2
  have HT2 := Lib.hid (HT1.out.below hb2)
  have HS2 := Lib.hid (HS1.out.below hb2)
  have HB2 := Lib.hid (HB1.out.trans (hb2.mono HB1.out.size))
  have HC2 := Lib.hid ((hb2.block (w.heap.size + 2) (by omega)).trans hC)
  have HU2 := Lib.hid hh2
  have hzz : w1.heap.size = w.heap.size + 3 := hz1
  have hz22 : w2.heap.size = w.heap.size + 4 := by omega
  have zu := fun i => unfrozen hh2 i
  have cu : w2.cell? ⟨w1.heap.size, 0, none⟩ = some (.pointer x) := by rw [cell_at hh2]; rfl
  rw [hzz] at zu cu HU2 hw2
  have HC1 := Lib.hid (tins_i X J HT2.out (nums_gd _) (by rw [hnl]; omega))
  have HC2c := Lib.hid (fun w' (h : Sl w' a c (nums l)) => nins X l J h (by rw [HN.out]; omega))
  rw [HN.out] at HC2c
  rw [hnl, ← nums_insZ] at HC1
  rw [hJ]
  obtain ⟨M, hM⟩ : ∃ M, insZ l J X = M := ⟨_, rfl⟩
  rw [hM] at HC1 HC2c ⊢
  obtain ⟨bb, hbb⟩ : ∃ bb, decide (0 ≤ J ∧ J ≤ (n : Int)) = bb := ⟨_, rfl⟩
  rw [hbb] at HC1 HC2c
  clear H hS hb1 hA hD hC hI hJ hbb hM hb2 hh2 hz2 hzz HS1 HT1 hn
  have hbq : (bb == bb) = true := by simp
  cases odd
  · have hJ2 : wrap64 ((IntKind.u64.wrap I).tmod ((n : Int) + 1)) = J := by
      rw [← hJw rfl, IntKind.wrap_u64, Int.tmod_eq_emod_of_nonneg (Int.emod_nonneg _ (by omega)), IntKind.wrap_i64]; unfold wrap64; omega
    have hnz : ((n : Int) + 1 == 0) = false := by simp; omega
    have hwn1 : IntKind.i64.wrap ((n : Int) + 1) = (n : Int) + 1 := by rw [IntKind.wrap_i64]; omega
    have hwu1 : IntKind.u64.wrap ((n : Int) + 1) = (n : Int) + 1 := by rw [IntKind.wrap_u64]; omega
    clear hJw hJt
    go_enter Try.func14, Try.ntmps14
    go_upto_region 5 with fail
    go_wp2_with fail
    refine HC1.out.mono ?_; rintro e w3 ⟨y, rfl, hT3, hb3⟩
    have hu3 := (hb3.block (w.heap.size + 3) (by omega)).trans HU2.out
    have hc3 := (hb3.block (w.heap.size + 2) (by omega)).trans HC2.out
    obtain ⟨w4, hw4⟩ : ∃ w4, w3.setCell ⟨w.heap.size + 3, 0, none⟩ (.pointer y) = w4 := ⟨_, rfl⟩
    have zu3 := fun i => unfrozen hu3 i
    have cu3 : w3.cell? ⟨w.heap.size + 3, 0, none⟩ = some (.pointer x) := by rw [cell_at hu3]; rfl
    have hu4 : w4.heap[w.heap.size + 3]? = some (.cells #[.pointer y] 27 (0, 0)) := by rw [← hw4, heap_set_at hu3]; rfl
    have hc4 : w4.heap[w.heap.size + 2]? = some (.cells #[.pointer none] 27 (0, 0)) := by rw [← hw4]; exact (heap_set_other (by omega)).trans hc3
    have hT4 : Tin w4 95 (.pointer y) (nums M) := by rw [← hw4]; exact hT3.setBox hu3 (by decide) (nums_np _ _)
    have hS4 : Sl w4 a c (nums l) := by rw [← hw4]; exact (HS2.out.below hb3).setBox hu3 (.inr (nums_np _ _))
    have hB4 : Below w.heap.size w w4 := by rw [← hw4]; exact (HB2.out.trans (hb3.mono HB2.out.size)).setCell (p := ⟨w.heap.size + 3, 0, none⟩) (by show _ ≤ w.heap.size + 3; omega) _
    have hz4 : w.heap.size + 4 ≤ w4.heap.size := by rw [← hw4, size_set]; have := hb3.size; omega
    have q2 : w4.cell? ⟨w.heap.size + 1, 2, none⟩ = some (.int .i64 X) := by
      rw [← hw4, World.cell?_of_block (w := w3) (a := ⟨w.heap.size + 1, 2, none⟩) (heap_set_other (by show w.heap.size + 1 ≠ w.heap.size + 3; omega))]
      exact (hb3.cell (p := ⟨w.heap.size + 1, 2, none⟩) (by show w.heap.size + 1 < _; omega)).trans r2
    have HT4 := Lib.hid hT4
    have HB4 := Lib.hid hB4
    have HU4 := Lib.hid (And.intro hu4 hc4)
    have HR := Lib.hid (HC2c.out w4 hS4)
    clear hT3 hb3 hu3 hc3 hu4 hc4 hT4 hS4 hB4 HC1 r0 e0
    go_wp2_with fail
    refine HR.out.mono ?_; rintro e w5 ⟨a5, c5, rfl, hS5, hty5, hb5⟩
    have HTy5 := Lib.hid hty5
    clear hty5
    have hu5 := (hb5.block (w.heap.size + 3) (by omega)).trans HU4.out.1
    have hc5 := (hb5.block (w.heap.size + 2) (by omega)).trans HU4.out.2
    have cu5 : w5.cell? ⟨w.heap.size + 3, 0, none⟩ = some (.pointer y) := by rw [cell_at hu5]; rfl
    have zc5 := fun i => unfrozen hc5 i
    have cc5 : w5.cell? ⟨w.heap.size + 2, 0, none⟩ = some (.pointer none) := by rw [cell_at hc5]; rfl
    have HT5 := Lib.hid (HT4.out.below hb5)
    have HS5 := Lib.hid hS5
    have HB5 := Lib.hid (HB4.out.trans (hb5.mono HB4.out.size))
    have HC5 := Lib.hid hc5
    clear hb5 hS5 hu5 hc5 hw4 zu3 cu3 HR q2
    go_wp2_with fail
    have hs := heap_set_at (o := 0) (u := Value.pointer y) HC5.out
    have q0 : (w5.setCell ⟨w.heap.size + 2, 0, none⟩ (Value.pointer y)).cell? ⟨w.heap.size + 2, 0, none⟩ = some (Value.pointer y) := by rw [cell_at hs]; rfl
    exact bodyPost_ret (v := .tuple #[.agg #[.pointer y], .slice a5 M.length c5, .bool true]) (by simp [results, Try.results14, go_sem, q0]) rfl ⟨y, a5, c5, rfl, HT5.out.setBox HC5.out (by decide) (nums_np _ _), HS5.out.setBox HC5.out (.inr (nums_np _ _)), HTy5.out.imp id (fun h d hd => (h d hd).set), HB5.out.setCell (p := ⟨w.heap.size + 2, 0, none⟩) (by show _ ≤ w.heap.size + 2; omega) _⟩
  · obtain rfl : I = J := hJt rfl
    clear hJw hJt
    go_enter Try.func14, Try.ntmps14
    go_upto_region 5 with fail
    go_wp2_with fail
    refine HC1.out.mono ?_; rintro e w3 ⟨y, rfl, hT3, hb3⟩
    have hu3 := (hb3.block (w.heap.size + 3) (by omega)).trans HU2.out
    have hc3 := (hb3.block (w.heap.size + 2) (by omega)).trans HC2.out
    obtain ⟨w4, hw4⟩ : ∃ w4, w3.setCell ⟨w.heap.size + 3, 0, none⟩ (.pointer y) = w4 := ⟨_, rfl⟩
    have zu3 := fun i => unfrozen hu3 i
    have cu3 : w3.cell? ⟨w.heap.size + 3, 0, none⟩ = some (.pointer x) := by rw [cell_at hu3]; rfl
    have hu4 : w4.heap[w.heap.size + 3]? = some (.cells #[.pointer y] 27 (0, 0)) := by rw [← hw4, heap_set_at hu3]; rfl
    have hc4 : w4.heap[w.heap.size + 2]? = some (.cells #[.pointer none] 27 (0, 0)) := by rw [← hw4]; exact (heap_set_other (by omega)).trans hc3
    have hT4 : Tin w4 95 (.pointer y) (nums M) := by rw [← hw4]; exact hT3.setBox hu3 (by decide) (nums_np _ _)
    have hS4 : Sl w4 a c (nums l) := by rw [← hw4]; exact (HS2.out.below hb3).setBox hu3 (.inr (nums_np _ _))
    have hB4 : Below w.heap.size w w4 := by rw [← hw4]; exact (HB2.out.trans (hb3.mono HB2.out.size)).setCell (p := ⟨w.heap.size + 3, 0, none⟩) (by show _ ≤ w.heap.size + 3; omega) _
    have hz4 : w.heap.size + 4 ≤ w4.heap.size := by rw [← hw4, size_set]; have := hb3.size; omega
    have q2 : w4.cell? ⟨w.heap.size + 1, 2, none⟩ = some (.int .i64 X) := by
      rw [← hw4, World.cell?_of_block (w := w3) (a := ⟨w.heap.size + 1, 2, none⟩) (heap_set_other (by show w.heap.size + 1 ≠ w.heap.size + 3; omega))]
      exact (hb3.cell (p := ⟨w.heap.size + 1, 2, none⟩) (by show w.heap.size + 1 < _; omega)).trans r2
    have HT4 := Lib.hid hT4
    have HB4 := Lib.hid hB4
    have HU4 := Lib.hid (And.intro hu4 hc4)
    have HR := Lib.hid (HC2c.out w4 hS4)
    clear hT3 hb3 hu3 hc3 hu4 hc4 hT4 hS4 hB4 HC1 r0 e0
    go_wp2_with fail
    refine HR.out.mono ?_; rintro e w5 ⟨a5, c5, rfl, hS5, hty5, hb5⟩
    have HTy5 := Lib.hid hty5
    clear hty5
    have hu5 := (hb5.block (w.heap.size + 3) (by omega)).trans HU4.out.1
    have hc5 := (hb5.block (w.heap.size + 2) (by omega)).trans HU4.out.2
    have cu5 : w5.cell? ⟨w.heap.size + 3, 0, none⟩ = some (.pointer y) := by rw [cell_at hu5]; rfl
    have zc5 := fun i => unfrozen hc5 i
    have cc5 : w5.cell? ⟨w.heap.size + 2, 0, none⟩ = some (.pointer none) := by rw [cell_at hc5]; rfl
    have HT5 := Lib.hid (HT4.out.below hb5)
    have HS5 := Lib.hid hS5
    have HB5 := Lib.hid (HB4.out.trans (hb5.mono HB4.out.size))
    have HC5 := Lib.hid hc5
    clear hb5 hS5 hu5 hc5 hw4 zu3 cu3 HR q2
    go_wp2_with fail
    have hs := heap_set_at (o := 0) (u := Value.pointer y) HC5.out
    have q0 : (w5.setCell ⟨w.heap.size + 2, 0, none⟩ (Value.pointer y)).cell? ⟨w.heap.size + 2, 0, none⟩ = some (Value.pointer y) := by rw [cell_at hs]; rfl
    exact bodyPost_ret (v := .tuple #[.agg #[.pointer y], .slice a5 M.length c5, .bool true]) (by simp [results, Try.results14, go_sem, q0]) rfl ⟨y, a5, c5, rfl, HT5.out.setBox HC5.out (by decide) (nums_np _ _), HS5.out.setBox HC5.out (.inr (nums_np _ _)), HTy5.out.imp id (fun h d hd => (h d hd).set), HB5.out.setCell (p := ⟨w.heap.size + 2, 0, none⟩) (by show _ ≤ w.heap.size + 2; omega) _⟩

set_option maxRecDepth 100000 in
set_option maxHeartbeats 4000000 in
theorem step2 {w : World} {x a : Option Addr} {c : Nat} {l : List Int} {I X : Int} {odd : Bool} (H : Tin w 95 (.pointer x) (nums l)) (hS : Sl w a c (nums l)) (hI : I64 I) (hl : l.length ≤ 1000) :
    Calls Try.prog 14 #[.agg #[.pointer x], .slice a l.length c, .agg #[.int .i64 2, .int .i64 I, .int .i64 X, .bool odd]] w (StPost a (insZ l (plZ l.length I odd) X) w) := by
  obtain ⟨w1, hw1, hb1, hz1, hA, hD, hC⟩ := three_blocks w (Obj.cells #[.pointer x] 27) (Obj.cells #[.int .i64 2, .int .i64 I, .int .i64 X, .bool odd] 31) (Obj.cells #[Value.pointer none] 27)
  have HB1 := Lib.hid hb1
  have HT1 := Lib.hid (H.below hb1)
  have HS1 := Lib.hid (hS.below hb1)
  have c0 : w1.cell? ⟨w.heap.size, 0, none⟩ = some (.pointer x) := by rw [cell_at hA]; rfl
  have p0 : w1.cell? ⟨w.heap.size + 1, 0, none⟩ = some (.int .i64 2) := by rw [cell_at hD]; rfl
  have p1 : w1.cell? ⟨w.heap.size + 1, 1, none⟩ = some (.int .i64 I) := by rw [cell_at hD]; rfl
  have p2 : w1.cell? ⟨w.heap.size + 1, 2, none⟩ = some (.int .i64 X) := by rw [cell_at hD]; rfl
  have p3 : w1.cell? ⟨w.heap.size + 1, 3, none⟩ = some (.bool odd) := by rw [cell_at hD]; rfl
  have HCD := Lib.hid (And.intro hA (And.intro hD hC))
  obtain ⟨n, hn⟩ : ∃ n, l.length = n := ⟨_, rfl⟩
  have HN := Lib.hid hn
  have hnl : (nums l).length = n := by rw [nums_len]; exact hn
  obtain ⟨J, hJ⟩ : ∃ J, plZ n I odd = J := ⟨_, rfl⟩
  have hJw : odd = false → IntKind.i64.wrap ((I % 18446744073709551616) % ((n : Int) + 1)) = J := fun ho => by
    rw [pl_walk (by omega), ← ho]; exact hJ
  have hJt : odd = true → I = J := fun ho => by rw [ho] at hJ; exact hJ
  rw [hn] at hl ⊢
  obtain ⟨w2, hw2, hb2, hz2, hh2⟩ := box_eq w1 27 x
  have e0 : w2.cell? ⟨w.heap.size, 0, none⟩ = some (.pointer x) := (hb2.cell (p := ⟨w.heap.size, 0, none⟩) (by show w.heap.size < _; omega)).trans c0
  have r0 : w2.cell? ⟨w.heap.size + 1, 0, none⟩ = some (.int .i64 2) := (hb2.cell (p := ⟨w.heap.size + 1, 0, none⟩) (by show w.heap.size + 1 < _; omega)).trans p0
  have r2 : w2.cell? ⟨w.heap.size + 1, 2, none⟩ = some (.int .i64 X) := (hb2.cell (p := ⟨w.heap.size + 1, 2, none⟩) (by show w.heap.size + 1 < _; omega)).trans p2
  have HT2 := Lib.hid (HT1.out.below hb2)
  have HS2 := Lib.hid (HS1.out.below hb2)
  have HB2 := Lib.hid (HB1.out.trans (hb2.mono HB1.out.size))
  have HC2 := Lib.hid ((hb2.block (w.heap.size + 2) (by omega)).trans hC)
  have HU2 := Lib.hid hh2
  have hzz : w1.heap.size = w.heap.size + 3 := hz1
  have hz22 : w2.heap.size = w.heap.size + 4 := by omega
  have zu := fun i => unfrozen hh2 i
  have cu : w2.cell? ⟨w1.heap.size, 0, none⟩ = some (.pointer x) := by rw [cell_at hh2]; rfl
  rw [hzz] at zu cu HU2 hw2
  have HC1 := Lib.hid (tins_i X J HT2.out (nums_gd _) (by rw [hnl]; omega))
  have HC2c := Lib.hid (fun w' (h : Sl w' a c (nums l)) => nins X l J h (by rw [HN.out]; omega))
  rw [HN.out] at HC2c
  rw [hnl, ← nums_insZ] at HC1
  rw [hJ]
  obtain ⟨M, hM⟩ : ∃ M, insZ l J X = M := ⟨_, rfl⟩
  rw [hM] at HC1 HC2c ⊢
  obtain ⟨bb, hbb⟩ : ∃ bb, decide (0 ≤ J ∧ J ≤ (n : Int)) = bb := ⟨_, rfl⟩
  rw [hbb] at HC1 HC2c
  clear H hS hb1 hA hD hC hI hJ hbb hM hb2 hh2 hz2 hzz HS1 HT1 hn
  have hbq : (bb == bb) = true := by simp
  cases odd
  · have hJ2 : wrap64 ((IntKind.u64.wrap I).tmod ((n : Int) + 1)) = J := by
      rw [← hJw rfl, IntKind.wrap_u64, Int.tmod_eq_emod_of_nonneg (Int.emod_nonneg _ (by omega)), IntKind.wrap_i64]; unfold wrap64; omega
    have hnz : ((n : Int) + 1 == 0) = false := by simp; omega
    have hwn1 : IntKind.i64.wrap ((n : Int) + 1) = (n : Int) + 1 := by rw [IntKind.wrap_i64]; omega
    have hwu1 : IntKind.u64.wrap ((n : Int) + 1) = (n : Int) + 1 := by rw [IntKind.wrap_u64]; omega
    clear hJw hJt
    go_enter Try.func14, Try.ntmps14
    go_upto_region 5 with fail
    go_wp2_with fail
    refine HC1.out.mono ?_; rintro e w3 ⟨y, rfl, hT3, hb3⟩
    have hu3 := (hb3.block (w.heap.size + 3) (by omega)).trans HU2.out
    have hc3 := (hb3.block (w.heap.size + 2) (by omega)).trans HC2.out
    obtain ⟨w4, hw4⟩ : ∃ w4, w3.setCell ⟨w.heap.size + 3, 0, none⟩ (.pointer y) = w4 := ⟨_, rfl⟩
    have zu3 := fun i => unfrozen hu3 i
    have cu3 : w3.cell? ⟨w.heap.size + 3, 0, none⟩ = some (.pointer x) := by rw [cell_at hu3]; rfl
    have hu4 : w4.heap[w.heap.size + 3]? = some (.cells #[.pointer y] 27 (0, 0)) := by rw [← hw4, heap_set_at hu3]; rfl
    have hc4 : w4.heap[w.heap.size + 2]? = some (.cells #[.pointer none] 27 (0, 0)) := by rw [← hw4]; exact (heap_set_other (by omega)).trans hc3
    have hT4 : Tin w4 95 (.pointer y) (nums M) := by rw [← hw4]; exact hT3.setBox hu3 (by decide) (nums_np _ _)
    have hS4 : Sl w4 a c (nums l) := by rw [← hw4]; exact (HS2.out.below hb3).setBox hu3 (.inr (nums_np _ _))
    have hB4 : Below w.heap.size w w4 := by rw [← hw4]; exact (HB2.out.trans (hb3.mono HB2.out.size)).setCell (p := ⟨w.heap.size + 3, 0, none⟩) (by show _ ≤ w.heap.size + 3; omega) _
    have hz4 : w.heap.size + 4 ≤ w4.heap.size := by rw [← hw4, size_set]; have := hb3.size; omega
    have q2 : w4.cell? ⟨w.heap.size + 1, 2, none⟩ = some (.int .i64 X) := by
      rw [← hw4, World.cell?_of_block (w := w3) (a := ⟨w.heap.size + 1, 2, none⟩) (heap_set_other (by show w.heap.size + 1 ≠ w.heap.size + 3; omega))]
      exact (hb3.cell (p := ⟨w.heap.size + 1, 2, none⟩) (by show w.heap.size + 1 < _; omega)).trans r2
    have HT4 := Lib.hid hT4
    have HB4 := Lib.hid hB4
    have HU4 := Lib.hid (And.intro hu4 hc4)
    have HR := Lib.hid (HC2c.out w4 hS4)
    clear hT3 hb3 hu3 hc3 hu4 hc4 hT4 hS4 hB4 HC1 r0 e0
    go_wp2_with fail
    refine HR.out.mono ?_; rintro e w5 ⟨a5, c5, rfl, hS5, hty5, hb5⟩
    have HTy5 := Lib.hid hty5
    clear hty5
    have hu5 := (hb5.block (w.heap.size + 3) (by omega)).trans HU4.out.1
    have hc5 := (hb5.block (w.heap.size + 2) (by omega)).trans HU4.out.2
    have cu5 : w5.cell? ⟨w.heap.size + 3, 0, none⟩ = some (.pointer y) := by rw [cell_at hu5]; rfl
    have zc5 := fun i => unfrozen hc5 i
    have cc5 : w5.cell? ⟨w.heap.size + 2, 0, none⟩ = some (.pointer none) := by rw [cell_at hc5]; rfl
    have HT5 := Lib.hid (HT4.out.below hb5)
    have HS5 := Lib.hid hS5
    have HB5 := Lib.hid (HB4.out.trans (hb5.mono HB4.out.size))
    have HC5 := Lib.hid hc5
    clear hb5 hS5 hu5 hc5 hw4 zu3 cu3 HR q2
    go_wp2_with fail
    have hs := heap_set_at (o := 0) (u := Value.pointer y) HC5.out
    have q0 : (w5.setCell ⟨w.heap.size + 2, 0, none⟩ (Value.pointer y)).cell? ⟨w.heap.size + 2, 0, none⟩ = some (Value.pointer y) := by rw [cell_at hs]; rfl
    exact bodyPost_ret (v := .tuple #[.agg #[.pointer y], .slice a5 M.length c5, .bool true]) (by simp [results, Try.results14, go_sem, q0]) rfl ⟨y, a5, c5, rfl, HT5.out.setBox HC5.out (by decide) (nums_np _ _), HS5.out.setBox HC5.out (.inr (nums_np _ _)), HTy5.out.imp id (fun h d hd => (h d hd).set), HB5.out.setCell (p := ⟨w.heap.size + 2, 0, none⟩) (by show _ ≤ w.heap.size + 2; omega) _⟩
  · obtain rfl : I = J := hJt rfl
    clear hJw hJt
    go_enter Try.func14, Try.ntmps14
    go_upto_region 5 with fail
    go_wp2_with fail
    refine HC1.out.mono ?_; rintro e w3 ⟨y, rfl, hT3, hb3⟩
    have hu3 := (hb3.block (w.heap.size + 3) (by omega)).trans HU2.out
    have hc3 := (hb3.block (w.heap.size + 2) (by omega)).trans HC2.out
    obtain ⟨w4, hw4⟩ : ∃ w4, w3.setCell ⟨w.heap.size + 3, 0, none⟩ (.pointer y) = w4 := ⟨_, rfl⟩
    have zu3 := fun i => unfrozen hu3 i
    have cu3 : w3.cell? ⟨w.heap.size + 3, 0, none⟩ = some (.pointer x) := by rw [cell_at hu3]; rfl
    have hu4 : w4.heap[w.heap.size + 3]? = some (.cells #[.pointer y] 27 (0, 0)) := by rw [← hw4, heap_set_at hu3]; rfl
    have hc4 : w4.heap[w.heap.size + 2]? = some (.cells #[.pointer none] 27 (0, 0)) := by rw [← hw4]; exact (heap_set_other (by omega)).trans hc3
    have hT4 : Tin w4 95 (.pointer y) (nums M) := by rw [← hw4]; exact hT3.setBox hu3 (by decide) (nums_np _ _)
    have hS4 : Sl w4 a c (nums l) := by rw [← hw4]; exact (HS2.out.below hb3).setBox hu3 (.inr (nums_np _ _))
    have hB4 : Below w.heap.size w w4 := by rw [← hw4]; exact (HB2.out.trans (hb3.mono HB2.out.size)).setCell (p := ⟨w.heap.size + 3, 0, none⟩) (by show _ ≤ w.heap.size + 3; omega) _
    have hz4 : w.heap.size + 4 ≤ w4.heap.size := by rw [← hw4, size_set]; have := hb3.size; omega
    have q2 : w4.cell? ⟨w.heap.size + 1, 2, none⟩ = some (.int .i64 X) := by
      rw [← hw4, World.cell?_of_block (w := w3) (a := ⟨w.heap.size + 1, 2, none⟩) (heap_set_other (by show w.heap.size + 1 ≠ w.heap.size + 3; omega))]
      exact (hb3.cell (p := ⟨w.heap.size + 1, 2, none⟩) (by show w.heap.size + 1 < _; omega)).trans r2
    have HT4 := Lib.hid hT4
    have HB4 := Lib.hid hB4
    have HU4 := Lib.hid (And.intro hu4 hc4)
    have HR := Lib.hid (HC2c.out w4 hS4)
    clear hT3 hb3 hu3 hc3 hu4 hc4 hT4 hS4 hB4 HC1 r0 e0
    go_wp2_with fail
    refine HR.out.mono ?_; rintro e w5 ⟨a5, c5, rfl, hS5, hty5, hb5⟩
    have HTy5 := Lib.hid hty5
    clear hty5
    have hu5 := (hb5.block (w.heap.size + 3) (by omega)).trans HU4.out.1
    have hc5 := (hb5.block (w.heap.size + 2) (by omega)).trans HU4.out.2
    have cu5 : w5.cell? ⟨w.heap.size + 3, 0, none⟩ = some (.pointer y) := by rw [cell_at hu5]; rfl
    have zc5 := fun i => unfrozen hc5 i
    have cc5 : w5.cell? ⟨w.heap.size + 2, 0, none⟩ = some (.pointer none) := by rw [cell_at hc5]; rfl
    have HT5 := Lib.hid (HT4.out.below hb5)
    have HS5 := Lib.hid hS5
    have HB5 := Lib.hid (HB4.out.trans (hb5.mono HB4.out.size))
    have HC5 := Lib.hid hc5
    clear hb5 hS5 hu5 hc5 hw4 zu3 cu3 HR q2
    go_wp2_with fail
    have hs := heap_set_at (o := 0) (u := Value.pointer y) HC5.out
    have q0 : (w5.setCell ⟨w.heap.size + 2, 0, none⟩ (Value.pointer y)).cell? ⟨w.heap.size + 2, 0, none⟩ = some (Value.pointer y) := by rw [cell_at hs]; rfl
    exact bodyPost_ret (v := .tuple #[.agg #[.pointer y], .slice a5 M.length c5, .bool true]) (by simp [results, Try.results14, go_sem, q0]) rfl ⟨y, a5, c5, rfl, HT5.out.setBox HC5.out (by decide) (nums_np _ _), HS5.out.setBox HC5.out (.inr (nums_np _ _)), HTy5.out.imp id (fun h d hd => (h d hd).set), HB5.out.setCell (p := ⟨w.heap.size + 2, 0, none⟩) (by show _ ≤ w.heap.size + 2; omega) _⟩

set_option maxRecDepth 100000 in
set_option maxHeartbeats 4000000 in
theorem step3 {w : World} {x a : Option Addr} {c : Nat} {l : List Int} {I X : Int} {odd : Bool} (H : Tin w 95 (.pointer x) (nums l)) (hS : Sl w a c (nums l)) (hI : I64 I) (hl : l.length ≤ 1000) :
    Calls Try.prog 14 #[.agg #[.pointer x], .slice a l.length c, .agg #[.int .i64 3, .int .i64 I, .int .i64 X, .bool odd]] w (StPost a (delZ l (plZ l.length I odd)) w) := by
  obtain ⟨w1, hw1, hb1, hz1, hA, hD, hC⟩ := three_blocks w (Obj.cells #[.pointer x] 27) (Obj.cells #[.int .i64 3, .int .i64 I, .int .i64 X, .bool odd] 31) (Obj.cells #[Value.pointer none] 27)
  have HB1 := Lib.hid hb1
  have HT1 := Lib.hid (H.below hb1)
  have HS1 := Lib.hid (hS.below hb1)
  have c0 : w1.cell? ⟨w.heap.size, 0, none⟩ = some (.pointer x) := by rw [cell_at hA]; rfl
  have p0 : w1.cell? ⟨w.heap.size + 1, 0, none⟩ = some (.int .i64 3) := by rw [cell_at hD]; rfl
  have p1 : w1.cell? ⟨w.heap.size + 1, 1, none⟩ = some (.int .i64 I) := by rw [cell_at hD]; rfl
  have p2 : w1.cell? ⟨w.heap.size + 1, 2, none⟩ = some (.int .i64 X) := by rw [cell_at hD]; rfl
  have p3 : w1.cell? ⟨w.heap.size + 1, 3, none⟩ = some (.bool odd) := by rw [cell_at hD]; rfl
  have HCD := Lib.hid (And.intro hA (And.intro hD hC))
  obtain ⟨n, hn⟩ : ∃ n, l.length = n := ⟨_, rfl⟩
  have HN := Lib.hid hn
  have hnl : (nums l).length = n := by rw [nums_len]; exact hn
  obtain ⟨J, hJ⟩ : ∃ J, plZ n I odd = J := ⟨_, rfl⟩
  have hJw : odd = false → IntKind.i64.wrap ((I % 18446744073709551616) % ((n : Int) + 1)) = J := fun ho => by
    rw [pl_walk (by omega), ← ho]; exact hJ
  have hJt : odd = true → I = J := fun ho => by rw [ho] at hJ; exact hJ
  rw [hn] at hl ⊢
  obtain ⟨w2, hw2, hb2, hz2, hh2⟩ := box_eq w1 27 x
  have e0 : w2.cell? ⟨w.heap.size, 0, none⟩ = some (.pointer x) := (hb2.cell (p := ⟨w.heap.size, 0, none⟩) (by show w.heap.size < _; omega)).trans c0
  have r0 : w2.cell? ⟨w.heap.size + 1, 0, none⟩ = some (.int .i64 3) := (hb2.cell (p := ⟨w.heap.size + 1, 0, none⟩) (by show w.heap.size + 1 < _; omega)).trans p0
  have r2 : w2.cell? ⟨w.heap.size + 1, 2, none⟩ = some (.int .i64 X) := (hb2.cell (p := ⟨w.heap.size + 1, 2, none⟩) (by show w.heap.size + 1 < _; omega)).trans p2
  have HT2 := Lib.hid (HT1.out.below hb2)
  have HS2 := Lib.hid (HS1.out.below hb2)
  have HB2 := Lib.hid (HB1.out.trans (hb2.mono HB1.out.size))
  have HC2 := Lib.hid ((hb2.block (w.heap.size + 2) (by omega)).trans hC)
  have HU2 := Lib.hid hh2
  have hzz : w1.heap.size = w.heap.size + 3 := hz1
  have hz22 : w2.heap.size = w.heap.size + 4 := by omega
  have zu := fun i => unfrozen hh2 i
  have cu : w2.cell? ⟨w1.heap.size, 0, none⟩ = some (.pointer x) := by rw [cell_at hh2]; rfl
  rw [hzz] at zu cu HU2 hw2
  have HC1 := Lib.hid (tdel_i J HT2.out (nums_gd _) (by rw [hnl]; omega))
  have HC2c := Lib.hid (fun w' (h : Sl w' a c (nums l)) => ndel l J h (by rw [HN.out]; omega))
  rw [HN.out] at HC2c
  rw [hnl, ← nums_delZ] at HC1
  rw [hJ]
  obtain ⟨M, hM⟩ : ∃ M, delZ l J = M := ⟨_, rfl⟩
  rw [hM] at HC1 HC2c ⊢
  obtain ⟨bb, hbb⟩ : ∃ bb, decide (0 ≤ J ∧ J < (n : Int)) = bb := ⟨_, rfl⟩
  rw [hbb] at HC1 HC2c
  clear H hS hb1 hA hD hC hI hJ hbb hM hb2 hh2 hz2 hzz HS1 HT1 hn
  have hbq : (bb == bb) = true := by simp
  cases odd
  · have hJ2 : wrap64 ((IntKind.u64.wrap I).tmod ((n : Int) + 1)) = J := by
      rw [← hJw rfl, IntKind.wrap_u64, Int.tmod_eq_emod_of_nonneg (Int.emod_nonneg _ (by omega)), IntKind.wrap_i64]; unfold wrap64; omega
    have hnz : ((n : Int) + 1 == 0) = false := by simp; omega
    have hwn1 : IntKind.i64.wrap ((n : Int) + 1) = (n : Int) + 1 := by rw [IntKind.wrap_i64]; omega
    have hwu1 : IntKind.u64.wrap ((n : Int) + 1) = (n : Int) + 1 := by rw [IntKind.wrap_u64]; omega
    clear hJw hJt
    go_enter Try.func14, Try.ntmps14
    go_upto_region 5 with fail
    go_wp2_with fail
    refine HC1.out.mono ?_; rintro e w3 ⟨y, rfl, hT3, hb3⟩
    have hu3 := (hb3.block (w.heap.size + 3) (by omega)).trans HU2.out
    have hc3 := (hb3.block (w.heap.size + 2) (by omega)).trans HC2.out
    obtain ⟨w4, hw4⟩ : ∃ w4, w3.setCell ⟨w.heap.size + 3, 0, none⟩ (.pointer y) = w4 := ⟨_, rfl⟩
    have zu3 := fun i => unfrozen hu3 i
    have cu3 : w3.cell? ⟨w.heap.size + 3, 0, none⟩ = some (.pointer x) := by rw [cell_at hu3]; rfl
    have hu4 : w4.heap[w.heap.size + 3]? = some (.cells #[.pointer y] 27 (0, 0)) := by rw [← hw4, heap_set_at hu3]; rfl
    have hc4 : w4.heap[w.heap.size + 2]? = some (.cells #[.pointer none] 27 (0, 0)) := by rw [← hw4]; exact (heap_set_other (by omega)).trans hc3
    have hT4 : Tin w4 95 (.pointer y) (nums M) := by rw [← hw4]; exact hT3.setBox hu3 (by decide) (nums_np _ _)
    have hS4 : Sl w4 a c (nums l) := by rw [← hw4]; exact (HS2.out.below hb3).setBox hu3 (.inr (nums_np _ _))
    have hB4 : Below w.heap.size w w4 := by rw [← hw4]; exact (HB2.out.trans (hb3.mono HB2.out.size)).setCell (p := ⟨w.heap.size + 3, 0, none⟩) (by show _ ≤ w.heap.size + 3; omega) _
    have hz4 : w.heap.size + 4 ≤ w4.heap.size := by rw [← hw4, size_set]; have := hb3.size; omega
    have q2 : w4.cell? ⟨w.heap.size + 1, 2, none⟩ = some (.int .i64 X) := by
      rw [← hw4, World.cell?_of_block (w := w3) (a := ⟨w.heap.size + 1, 2, none⟩) (heap_set_other (by show w.heap.size + 1 ≠ w.heap.size + 3; omega))]
      exact (hb3.cell (p := ⟨w.heap.size + 1, 2, none⟩) (by show w.heap.size + 1 < _; omega)).trans r2
    have HT4 := Lib.hid hT4
    have HB4 := Lib.hid hB4
    have HU4 := Lib.hid (And.intro hu4 hc4)
    have HR := Lib.hid (HC2c.out w4 hS4)
    clear hT3 hb3 hu3 hc3 hu4 hc4 hT4 hS4 hB4 HC1 r0 e0
    go_wp2_with fail
    refine HR.out.mono ?_; rintro e w5 ⟨a5, c5, rfl, hS5, hty5, hb5⟩
    have HTy5 := Lib.hid hty5
    clear hty5
    have hu5 := (hb5.block (w.heap.size + 3) (by omega)).trans HU4.out.1
    have hc5 := (hb5.block (w.heap.size + 2) (by omega)).trans HU4.out.2
    have cu5 : w5.cell? ⟨w.heap.size + 3, 0, none⟩ = some (.pointer y) := by rw [cell_at hu5]; rfl
    have zc5 := fun i => unfrozen hc5 i
    have cc5 : w5.cell? ⟨w.heap.size + 2, 0, none⟩ = some (.pointer none) := by rw [cell_at hc5]; rfl
    have HT5 := Lib.hid (HT4.out.below hb5)
    have HS5 := Lib.hid hS5
    have HB5 := Lib.hid (HB4.out.trans (hb5.mono HB4.out.size))
    have HC5 := Lib.hid hc5
    clear hb5 hS5 hu5 hc5 hw4 zu3 cu3 HR q2
    go_wp2_with fail
    have hs := heap_set_at (o := 0) (u := Value.pointer y) HC5.out
    have q0 : (w5.setCell ⟨w.heap.size + 2, 0, none⟩ (Value.pointer y)).cell? ⟨w.heap.size + 2, 0, none⟩ = some (Value.pointer y) := by rw [cell_at hs]; rfl
    exact bodyPost_ret (v := .tuple #[.agg #[.pointer y], .slice a5 M.length c5, .bool true]) (by simp [results, Try.results14, go_sem, q0]) rfl ⟨y, a5, c5, rfl, HT5.out.setBox HC5.out (by decide) (nums_np _ _), HS5.out.setBox HC5.out (.inr (nums_np _ _)), HTy5.out.imp id (fun h d hd => (h d hd).set), HB5.out.setCell (p := ⟨w.heap.size + 2, 0, none⟩) (by show _ ≤ w.heap.size + 2; omega) _⟩
  · obtain rfl : I = J := hJt rfl
    clear hJw hJt
    go_enter Try.func14, Try.ntmps14
    go_upto_region 5 with fail
    go_wp2_with fail
    refine HC1.out.mono ?_; rintro e w3 ⟨y, rfl, hT3, hb3⟩
    have hu3 := (hb3.block (w.heap.size + 3) (by omega)).trans HU2.out
    have hc3 := (hb3.block (w.heap.size + 2) (by omega)).trans HC2.out
    obtain ⟨w4, hw4⟩ : ∃ w4, w3.setCell ⟨w.heap.size + 3, 0, none⟩ (.pointer y) = w4 := ⟨_, rfl⟩
    have zu3 := fun i => unfrozen hu3 i
    have cu3 : w3.cell? ⟨w.heap.size + 3, 0, none⟩ = some (.pointer x) := by rw [cell_at hu3]; rfl
    have hu4 : w4.heap[w.heap.size + 3]? = some (.cells #[.pointer y] 27 (0, 0)) := by rw [← hw4, heap_set_at hu3]; rfl
    have hc4 : w4.heap[w.heap.size + 2]? = some (.cells #[.pointer none] 27 (0, 0)) := by rw [← hw4]; exact (heap_set_other (by omega)).trans hc3
    have hT4 : Tin w4 95 (.pointer y) (nums M) := by rw [← hw4]; exact hT3.setBox hu3 (by decide) (nums_np _ _)
    have hS4 : Sl w4 a c (nums l) := by rw [← hw4]; exact (HS2.out.below hb3).setBox hu3 (.inr (nums_np _ _))
    have hB4 : Below w.heap.size w w4 := by rw [← hw4]; exact (HB2.out.trans (hb3.mono HB2.out.size)).setCell (p := ⟨w.heap.size + 3, 0, none⟩) (by show _ ≤ w.heap.size + 3; omega) _
    have hz4 : w.heap.size + 4 ≤ w4.heap.size := by rw [← hw4, size_set]; have := hb3.size; omega
    have q2 : w4.cell? ⟨w.heap.size + 1, 2, none⟩ = some (.int .i64 X) := by
      rw [← hw4, World.cell?_of_block (w := w3) (a := ⟨w.heap.size + 1, 2, none⟩) (heap_set_other (by show w.heap.size + 1 ≠ w.heap.size + 3; omega))]
      exact (hb3.cell (p := ⟨w.heap.size + 1, 2, none⟩) (by show w.heap.size + 1 < _; omega)).trans r2
    have HT4 := Lib.hid hT4
    have HB4 := Lib.hid hB4
    have HU4 := Lib.hid (And.intro hu4 hc4)
    have HR := Lib.hid (HC2c.out w4 hS4)
    clear hT3 hb3 hu3 hc3 hu4 hc4 hT4 hS4 hB4 HC1 r0 e0
    go_wp2_with fail
    refine HR.out.mono ?_; rintro e w5 ⟨a5, c5, rfl, hS5, hty5, hb5⟩
    have HTy5 := Lib.hid hty5
    clear hty5
    have hu5 := (hb5.block (w.heap.size + 3) (by omega)).trans HU4.out.1
    have hc5 := (hb5.block (w.heap.size + 2) (by omega)).trans HU4.out.2
    have cu5 : w5.cell? ⟨w.heap.size + 3, 0, none⟩ = some (.pointer y) := by rw [cell_at hu5]; rfl
    have zc5 := fun i => unfrozen hc5 i
    have cc5 : w5.cell? ⟨w.heap.size + 2, 0, none⟩ = some (.pointer none) := by rw [cell_at hc5]; rfl
    have HT5 := Lib.hid (HT4.out.below hb5)
    have HS5 := Lib.hid hS5
    have HB5 := Lib.hid (HB4.out.trans (hb5.mono HB4.out.size))
    have HC5 := Lib.hid hc5
    clear hb5 hS5 hu5 hc5 hw4 zu3 cu3 HR q2
    go_wp2_with fail
    have hs := heap_set_at (o := 0) (u := Value.pointer y) HC5.out
    have q0 : (w5.setCell ⟨w.heap.size + 2, 0, none⟩ (Value.pointer y)).cell? ⟨w.heap.size + 2, 0, none⟩ = some (Value.pointer y) := by rw [cell_at hs]; rfl
    exact bodyPost_ret (v := .tuple #[.agg #[.pointer y], .slice a5 M.length c5, .bool true]) (by simp [results, Try.results14, go_sem, q0]) rfl ⟨y, a5, c5, rfl, HT5.out.setBox HC5.out (by decide) (nums_np _ _), HS5.out.setBox HC5.out (.inr (nums_np _ _)), HTy5.out.imp id (fun h d hd => (h d hd).set), HB5.out.setCell (p := ⟨w.heap.size + 2, 0, none⟩) (by show _ ≤ w.heap.size + 2; omega) _⟩

set_option maxRecDepth 100000 in
set_option maxHeartbeats 4000000 in
theorem step4 {w : World} {x a : Option Addr} {c : Nat} {l : List Int} {I X : Int} {odd : Bool} (H : Tin w 95 (.pointer x) (nums l)) (hS : Sl w a c (nums l)) (hI : I64 I) (hl : l.length ≤ 1000) :
    Calls Try.prog 14 #[.agg #[.pointer x], .slice a l.length c, .agg #[.int .i64 4, .int .i64 I, .int .i64 X, .bool odd]] w (StPost a (delZ l (plZ l.length I odd)) w) := by
  obtain ⟨w1, hw1, hb1, hz1, hA, hD, hC⟩ := three_blocks w (Obj.cells #[.pointer x] 27) (Obj.cells #[.int .i64 4, .int .i64 I, .int .i64 X, .bool odd] 31) (Obj.cells #[Value.pointer none] 27)
  have HB1 := Lib.hid hb1
  have HT1 := Lib.hid (H.below hb1)
  have HS1 := Lib.hid (hS.below hb1)
  have c0 : w1.cell? ⟨w.heap.size, 0, none⟩ = some (.pointer x) := by rw [cell_at hA]; rfl
  have p0 : w1.cell? ⟨w.heap.size + 1, 0, none⟩ = some (.int .i64 4) := by rw [cell_at hD]; rfl
  have p1 : w1.cell? ⟨w.heap.size + 1, 1, none⟩ = some (.int .i64 I) := by rw [cell_at hD]; rfl
  have p2 : w1.cell? ⟨w.heap.size + 1, 2, none⟩ = some (.int .i64 X) := by rw [cell_at hD]; rfl
  have p3 : w1.cell? ⟨w.heap.size + 1, 3, none⟩ = some (.bool odd) := by rw [cell_at hD]; rfl
  have HCD := Lib.hid (And.intro hA (And.intro hD hC))
  obtain ⟨n, hn⟩ : ∃ n, l.length = n := ⟨_, rfl⟩
  have HN := Lib.hid hn
  have hnl : (nums l).length = n := by rw [nums_len]; exact hn
  obtain ⟨J, hJ⟩ : ∃ J, plZ n I odd = J := ⟨_, rfl⟩
  have hJw : odd = false → IntKind.i64.wrap ((I % 18446744073709551616) % ((n : Int) + 1)) = J := fun ho => by
    rw [pl_walk (by omega), ← ho]; exact hJ
  have hJt : odd = true → I = J := fun ho => by rw [ho] at hJ; exact hJ
  rw [hn] at hl ⊢
  obtain ⟨w2, hw2, hb2, hz2, hh2⟩ := box_eq w1 27 x
  have e0 : w2.cell? ⟨w.heap.size, 0, none⟩ = some (.pointer x) := (hb2.cell (p := ⟨w.heap.size, 0, none⟩) (by show w.heap.size < _; omega)).trans c0
  have r0 : w2.cell? ⟨w.heap.size + 1, 0, none⟩ = some (.int .i64 4) := (hb2.cell (p := ⟨w.heap.size + 1, 0, none⟩) (by show w.heap.size + 1 < _; omega)).trans p0
  have r2 : w2.cell? ⟨w.heap.size + 1, 2, none⟩ = some (.int .i64 X) := (hb2.cell (p := ⟨w.heap.size + 1, 2, none⟩) (by show w.heap.size + 1 < _; omega)).trans p2
  have HT2 := Lib.hid (HT1.out.below hb2)
  have HS2 := Lib.hid (HS1.out.below hb2)
  have HB2 := Lib.hid (HB1.out.trans (hb2.mono HB1.out.size))
  have HC2 := Lib.hid ((hb2.block (w.heap.size + 2) (by omega)).trans hC)
  have HU2 := Lib.hid hh2
  have hzz : w1.heap.size = w.heap.size + 3 := hz1
  have hz22 : w2.heap.size = w.heap.size + 4 := by omega
  have zu := fun i => unfrozen hh2 i
  have cu : w2.cell? ⟨w1.heap.size, 0, none⟩ = some (.pointer x) := by rw [cell_at hh2]; rfl
  rw [hzz] at zu cu HU2 hw2
  have HC1 := Lib.hid (tdel_i J HT2.out (nums_gd _) (by rw [hnl]; omega))
  have HC2c := Lib.hid (fun w' (h : Sl w' a c (nums l)) => ndel l J h (by rw [HN.out]; omega))
  rw [HN.out] at HC2c
  rw [hnl, ← nums_delZ] at HC1
  rw [hJ]
  obtain ⟨M, hM⟩ : ∃ M, delZ l J = M := ⟨_, rfl⟩
  rw [hM] at HC1 HC2c ⊢
  obtain ⟨bb, hbb⟩ : ∃ bb, decide (0 ≤ J ∧ J < (n : Int)) = bb := ⟨_, rfl⟩
  rw [hbb] at HC1 HC2c
  clear H hS hb1 hA hD hC hI hJ hbb hM hb2 hh2 hz2 hzz HS1 HT1 hn
  have hbq : (bb == bb) = true := by simp
  cases odd
  · have hJ2 : wrap64 ((IntKind.u64.wrap I).tmod ((n : Int) + 1)) = J := by
      rw [← hJw rfl, IntKind.wrap_u64, Int.tmod_eq_emod_of_nonneg (Int.emod_nonneg _ (by omega)), IntKind.wrap_i64]; unfold wrap64; omega
    have hnz : ((n : Int) + 1 == 0) = false := by simp; omega
    have hwn1 : IntKind.i64.wrap ((n : Int) + 1) = (n : Int) + 1 := by rw [IntKind.wrap_i64]; omega
    have hwu1 : IntKind.u64.wrap ((n : Int) + 1) = (n : Int) + 1 := by rw [IntKind.wrap_u64]; omega
    clear hJw hJt
    go_enter Try.func14, Try.ntmps14
    go_upto_region 5 with fail
    go_wp2_with fail
    refine HC1.out.mono ?_; rintro e w3 ⟨y, rfl, hT3, hb3⟩
    have hu3 := (hb3.block (w.heap.size + 3) (by omega)).trans HU2.out
    have hc3 := (hb3.block (w.heap.size + 2) (by omega)).trans HC2.out
    obtain ⟨w4, hw4⟩ : ∃ w4, w3.setCell ⟨w.heap.size + 3, 0, none⟩ (.pointer y) = w4 := ⟨_, rfl⟩
    have zu3 := fun i => unfrozen hu3 i
    have cu3 : w3.cell? ⟨w.heap.size + 3, 0, none⟩ = some (.pointer x) := by rw [cell_at hu3]; rfl
    have hu4 : w4.heap[w.heap.size + 3]? = some (.cells #[.pointer y] 27 (0, 0)) := by rw [← hw4, heap_set_at hu3]; rfl
    have hc4 : w4.heap[w.heap.size + 2]? = some (.cells #[.pointer none] 27 (0, 0)) := by rw [← hw4]; exact (heap_set_other (by omega)).trans hc3
    have hT4 : Tin w4 95 (.pointer y) (nums M) := by rw [← hw4]; exact hT3.setBox hu3 (by decide) (nums_np _ _)
    have hS4 : Sl w4 a c (nums l) := by rw [← hw4]; exact (HS2.out.below hb3).setBox hu3 (.inr (nums_np _ _))
    have hB4 : Below w.heap.size w w4 := by rw [← hw4]; exact (HB2.out.trans (hb3.mono HB2.out.size)).setCell (p := ⟨w.heap.size + 3, 0, none⟩) (by show _ ≤ w.heap.size + 3; omega) _
    have hz4 : w.heap.size + 4 ≤ w4.heap.size := by rw [← hw4, size_set]; have := hb3.size; omega
    have q2 : w4.cell? ⟨w.heap.size + 1, 2, none⟩ = some (.int .i64 X) := by
      rw [← hw4, World.cell?_of_block (w := w3) (a := ⟨w.heap.size + 1, 2, none⟩) (heap_set_other (by show w.heap.size + 1 ≠ w.heap.size + 3; omega))]
      exact (hb3.cell (p := ⟨w.heap.size + 1, 2, none⟩) (by show w.heap.size + 1 < _; omega)).trans r2
    have HT4 := Lib.hid hT4
    have HB4 := Lib.hid hB4
    have HU4 := Lib.hid (And.intro hu4 hc4)
    have HR := Lib.hid (HC2c.out w4 hS4)
    clear hT3 hb3 hu3 hc3 hu4 hc4 hT4 hS4 hB4 HC1 r0 e0
    go_wp2_with fail
    refine HR.out.mono ?_; rintro e w5 ⟨a5, c5, rfl, hS5, hty5, hb5⟩
    have HTy5 := Lib.hid hty5
    clear hty5
    have hu5 := (hb5.block (w.heap.size + 3) (by omega)).trans HU4.out.1
    have hc5 := (hb5.block (w.heap.size + 2) (by omega)).trans HU4.out.2
    have cu5 : w5.cell? ⟨w.heap.size + 3, 0, none⟩ = some (.pointer y) := by rw [cell_at hu5]; rfl
    have zc5 := fun i => unfrozen hc5 i
    have cc5 : w5.cell? ⟨w.heap.size + 2, 0, none⟩ = some (.pointer none) := by rw [cell_at hc5]; rfl
    have HT5 := Lib.hid (HT4.out.below hb5)
    have HS5 := Lib.hid hS5
    have HB5 := Lib.hid (HB4.out.trans (hb5.mono HB4.out.size))
    have HC5 := Lib.hid hc5
    clear hb5 hS5 hu5 hc5 hw4 zu3 cu3 HR q2
    go_wp2_with fail
    have hs := heap_set_at (o := 0) (u := Value.pointer y) HC5.out
    have q0 : (w5.setCell ⟨w.heap.size + 2, 0, none⟩ (Value.pointer y)).cell? ⟨w.heap.size + 2, 0, none⟩ = some (Value.pointer y) := by rw [cell_at hs]; rfl
    exact bodyPost_ret (v := .tuple #[.agg #[.pointer y], .slice a5 M.length c5, .bool true]) (by simp [results, Try.results14, go_sem, q0]) rfl ⟨y, a5, c5, rfl, HT5.out.setBox HC5.out (by decide) (nums_np _ _), HS5.out.setBox HC5.out (.inr (nums_np _ _)), HTy5.out.imp id (fun h d hd => (h d hd).set), HB5.out.setCell (p := ⟨w.heap.size + 2, 0, none⟩) (by show _ ≤ w.heap.size + 2; omega) _⟩
  · obtain rfl : I = J := hJt rfl
    clear hJw hJt
    go_enter Try.func14, Try.ntmps14
    go_upto_region 5 with fail
    go_wp2_with fail
    refine HC1.out.mono ?_; rintro e w3 ⟨y, rfl, hT3, hb3⟩
    have hu3 := (hb3.block (w.heap.size + 3) (by omega)).trans HU2.out
    have hc3 := (hb3.block (w.heap.size + 2) (by omega)).trans HC2.out
    obtain ⟨w4, hw4⟩ : ∃ w4, w3.setCell ⟨w.heap.size + 3, 0, none⟩ (.pointer y) = w4 := ⟨_, rfl⟩
    have zu3 := fun i => unfrozen hu3 i
    have cu3 : w3.cell? ⟨w.heap.size + 3, 0, none⟩ = some (.pointer x) := by rw [cell_at hu3]; rfl
    have hu4 : w4.heap[w.heap.size + 3]? = some (.cells #[.pointer y] 27 (0, 0)) := by rw [← hw4, heap_set_at hu3]; rfl
    have hc4 : w4.heap[w.heap.size + 2]? = some (.cells #[.pointer none] 27 (0, 0)) := by rw [← hw4]; exact (heap_set_other (by omega)).trans hc3
    have hT4 : Tin w4 95 (.pointer y) (nums M) := by rw [← hw4]; exact hT3.setBox hu3 (by decide) (nums_np _ _)
    have hS4 : Sl w4 a c (nums l) := by rw [← hw4]; exact (HS2.out.below hb3).setBox hu3 (.inr (nums_np _ _))
    have hB4 : Below w.heap.size w w4 := by rw [← hw4]; exact (HB2.out.trans (hb3.mono HB2.out.size)).setCell (p := ⟨w.heap.size + 3, 0, none⟩) (by show _ ≤ w.heap.size + 3; omega) _
    have hz4 : w.heap.size + 4 ≤ w4.heap.size := by rw [← hw4, size_set]; have := hb3.size; omega
    have q2 : w4.cell? ⟨w.heap.size + 1, 2, none⟩ = some (.int .i64 X) := by
      rw [← hw4, World.cell?_of_block (w := w3) (a := ⟨w.heap.size + 1, 2, none⟩) (heap_set_other (by show w.heap.size + 1 ≠ w.heap.size + 3; omega))]
      exact (hb3.cell (p := ⟨w.heap.size + 1, 2, none⟩) (by show w.heap.size + 1 < _; omega)).trans r2
    have HT4 := Lib.hid hT4
    have HB4 := Lib.hid hB4
    have HU4 := Lib.hid (And.intro hu4 hc4)
    have HR := Lib.hid (HC2c.out w4 hS4)
    clear hT3 hb3 hu3 hc3 hu4 hc4 hT4 hS4 hB4 HC1 r0 e0
    go_wp2_with fail
    refine HR.out.mono ?_; rintro e w5 ⟨a5, c5, rfl, hS5, hty5, hb5⟩
    have HTy5 := Lib.hid hty5
    clear hty5
    have hu5 := (hb5.block (w.heap.size + 3) (by omega)).trans HU4.out.1
    have hc5 := (hb5.block (w.heap.size + 2) (by omega)).trans HU4.out.2
    have cu5 : w5.cell? ⟨w.heap.size + 3, 0, none⟩ = some (.pointer y) := by rw [cell_at hu5]; rfl
    have zc5 := fun i => unfrozen hc5 i
    have cc5 : w5.cell? ⟨w.heap.size + 2, 0, none⟩ = some (.pointer none) := by rw [cell_at hc5]; rfl
    have HT5 := Lib.hid (HT4.out.below hb5)
    have HS5 := Lib.hid hS5
    have HB5 := Lib.hid (HB4.out.trans (hb5.mono HB4.out.size))
    have HC5 := Lib.hid hc5
    clear hb5 hS5 hu5 hc5 hw4 zu3 cu3 HR q2
    go_wp2_with fail
    have hs := heap_set_at (o := 0) (u := Value.pointer y) HC5.out
    have q0 : (w5.setCell ⟨w.heap.size + 2, 0, none⟩ (Value.pointer y)).cell? ⟨w.heap.size + 2, 0, none⟩ = some (Value.pointer y) := by rw [cell_at hs]; rfl
    exact bodyPost_ret (v := .tuple #[.agg #[.pointer y], .slice a5 M.length c5, .bool true]) (by simp [results, Try.results14, go_sem, q0]) rfl ⟨y, a5, c5, rfl, HT5.out.setBox HC5.out (by decide) (nums_np _ _), HS5.out.setBox HC5.out (.inr (nums_np _ _)), HTy5.out.imp id (fun h d hd => (h d hd).set), HB5.out.setCell (p := ⟨w.heap.size + 2, 0, none⟩) (by show _ ≤ w.heap.size + 2; omega) _⟩

set_option maxRecDepth 100000 in
set_option maxHeartbeats 4000000 in
theorem step5 {w : World} {x a : Option Addr} {c : Nat} {l : List Int} {I X : Int} {odd : Bool} (H : Tin w 95 (.pointer x) (nums l)) (hS : Sl w a c (nums l)) (hI : I64 I) (hl : l.length ≤ 1000) :
    Calls Try.prog 14 #[.agg #[.pointer x], .slice a l.length c, .agg #[.int .i64 5, .int .i64 I, .int .i64 X, .bool odd]] w (StPost a (setZ l (plZ l.length I odd) X) w) := by
  obtain ⟨w1, hw1, hb1, hz1, hA, hD, hC⟩ := three_blocks w (Obj.cells #[.pointer x] 27) (Obj.cells #[.int .i64 5, .int .i64 I, .int .i64 X, .bool odd] 31) (Obj.cells #[Value.pointer none] 27)
  have HB1 := Lib.hid hb1
  have HT1 := Lib.hid (H.below hb1)
  have HS1 := Lib.hid (hS.below hb1)
  have c0 : w1.cell? ⟨w.heap.size, 0, none⟩ = some (.pointer x) := by rw [cell_at hA]; rfl
  have p0 : w1.cell? ⟨w.heap.size + 1, 0, none⟩ = some (.int .i64 5) := by rw [cell_at hD]; rfl
  have p1 : w1.cell? ⟨w.heap.size + 1, 1, none⟩ = some (.int .i64 I) := by rw [cell_at hD]; rfl
  have p2 : w1.cell? ⟨w.heap.size + 1, 2, none⟩ = some (.int .i64 X) := by rw [cell_at hD]; rfl
  have p3 : w1.cell? ⟨w.heap.size + 1, 3, none⟩ = some (.bool odd) := by rw [cell_at hD]; rfl
  have HCD := Lib.hid (And.intro hA (And.intro hD hC))
  obtain ⟨n, hn⟩ : ∃ n, l.length = n := ⟨_, rfl⟩
  have HN := Lib.hid hn
  have hnl : (nums l).length = n := by rw [nums_len]; exact hn
  obtain ⟨J, hJ⟩ : ∃ J, plZ n I odd = J := ⟨_, rfl⟩
  have hJw : odd = false → IntKind.i64.wrap ((I % 18446744073709551616) % ((n : Int) + 1)) = J := fun ho => by
    rw [pl_walk (by omega), ← ho]; exact hJ
  have hJt : odd = true → I = J := fun ho => by rw [ho] at hJ; exact hJ
  rw [hn] at hl ⊢
  obtain ⟨w2, hw2, hb2, hz2, hh2⟩ := box_eq w1 27 x
  have e0 : w2.cell? ⟨w.heap.size, 0, none⟩ = some (.pointer x) := (hb2.cell (p := ⟨w.heap.size, 0, none⟩) (by show w.heap.size < _; omega)).trans c0
  have r0 : w2.cell? ⟨w.heap.size + 1, 0, none⟩ = some (.int .i64 5) := (hb2.cell (p := ⟨w.heap.size + 1, 0, none⟩) (by show w.heap.size + 1 < _; omega)).trans p0
  have r2 : w2.cell? ⟨w.heap.size + 1, 2, none⟩ = some (.int .i64 X) := (hb2.cell (p := ⟨w.heap.size + 1, 2, none⟩) (by show w.heap.size + 1 < _; omega)).trans p2
  have HT2 := Lib.hid (HT1.out.below hb2)
  have HS2 := Lib.hid (HS1.out.below hb2)
  have HB2 := Lib.hid (HB1.out.trans (hb2.mono HB1.out.size))
  have HC2 := Lib.hid ((hb2.block (w.heap.size + 2) (by omega)).trans hC)
  have HU2 := Lib.hid hh2
  have hzz : w1.heap.size = w.heap.size + 3 := hz1
  have hz22 : w2.heap.size = w.heap.size + 4 := by omega
  have zu := fun i => unfrozen hh2 i
  have cu : w2.cell? ⟨w1.heap.size, 0, none⟩ = some (.pointer x) := by rw [cell_at hh2]; rfl
  rw [hzz] at zu cu HU2 hw2
  have HC1 := Lib.hid (tset_i X J HT2.out (nums_gd _) (by rw [hnl]; omega))
  have HC2c := Lib.hid (fun w' (h : Sl w' a c (nums l)) => nset X l J h (by rw [HN.out]; omega))
  rw [HN.out] at HC2c
  rw [hnl, ← nums_setZ] at HC1
  rw [hJ]
  obtain ⟨M, hM⟩ : ∃ M, setZ l J X = M := ⟨_, rfl⟩
  rw [hM] at HC1 HC2c ⊢
  obtain ⟨bb, hbb⟩ : ∃ bb, decide (0 ≤ J ∧ J < (n : Int)) = bb := ⟨_, rfl⟩
  rw [hbb] at HC1 HC2c
  clear H hS hb1 hA hD hC hI hJ hbb hM hb2 hh2 hz2 hzz HS1 HT1 hn
  have hbq : (bb == bb) = true := by simp
  cases odd
  · have hJ2 : wrap64 ((IntKind.u64.wrap I).tmod ((n : Int) + 1)) = J := by
      rw [← hJw rfl, IntKind.wrap_u64, Int.tmod_eq_emod_of_nonneg (Int.emod_nonneg _ (by omega)), IntKind.wrap_i64]; unfold wrap64; omega
    have hnz : ((n : Int) + 1 == 0) = false := by simp; omega
    have hwn1 : IntKind.i64.wrap ((n : Int) + 1) = (n : Int) + 1 := by rw [IntKind.wrap_i64]; omega
    have hwu1 : IntKind.u64.wrap ((n : Int) + 1) = (n : Int) + 1 := by rw [IntKind.wrap_u64]; omega
    clear hJw hJt
    go_enter Try.func14, Try.ntmps14
    go_upto_region 5 with fail
    go_wp2_with fail
    refine HC1.out.mono ?_; rintro e w3 ⟨y, rfl, hT3, hb3⟩
    have hu3 := (hb3.block (w.heap.size + 3) (by omega)).trans HU2.out
    have hc3 := (hb3.block (w.heap.size + 2) (by omega)).trans HC2.out
    obtain ⟨w4, hw4⟩ : ∃ w4, w3.setCell ⟨w.heap.size + 3, 0, none⟩ (.pointer y) = w4 := ⟨_, rfl⟩
    have zu3 := fun i => unfrozen hu3 i
    have cu3 : w3.cell? ⟨w.heap.size + 3, 0, none⟩ = some (.pointer x) := by rw [cell_at hu3]; rfl
    have hu4 : w4.heap[w.heap.size + 3]? = some (.cells #[.pointer y] 27 (0, 0)) := by rw [← hw4, heap_set_at hu3]; rfl
    have hc4 : w4.heap[w.heap.size + 2]? = some (.cells #[.pointer none] 27 (0, 0)) := by rw [← hw4]; exact (heap_set_other (by omega)).trans hc3
    have hT4 : Tin w4 95 (.pointer y) (nums M) := by rw [← hw4]; exact hT3.setBox hu3 (by decide) (nums_np _ _)
    have hS4 : Sl w4 a c (nums l) := by rw [← hw4]; exact (HS2.out.below hb3).setBox hu3 (.inr (nums_np _ _))
    have hB4 : Below w.heap.size w w4 := by rw [← hw4]; exact (HB2.out.trans (hb3.mono HB2.out.size)).setCell (p := ⟨w.heap.size + 3, 0, none⟩) (by show _ ≤ w.heap.size + 3; omega) _
    have hz4 : w.heap.size + 4 ≤ w4.heap.size := by rw [← hw4, size_set]; have := hb3.size; omega
    have q2 : w4.cell? ⟨w.heap.size + 1, 2, none⟩ = some (.int .i64 X) := by
      rw [← hw4, World.cell?_of_block (w := w3) (a := ⟨w.heap.size + 1, 2, none⟩) (heap_set_other (by show w.heap.size + 1 ≠ w.heap.size + 3; omega))]
      exact (hb3.cell (p := ⟨w.heap.size + 1, 2, none⟩) (by show w.heap.size + 1 < _; omega)).trans r2
    have HT4 := Lib.hid hT4
    have HB4 := Lib.hid hB4
    have HU4 := Lib.hid (And.intro hu4 hc4)
    have HR := Lib.hid (HC2c.out w4 hS4)
    clear hT3 hb3 hu3 hc3 hu4 hc4 hT4 hS4 hB4 HC1 r0 e0
    go_wp2_with fail
    refine HR.out.mono ?_; rintro e w5 ⟨a5, c5, rfl, hS5, hty5, hb5⟩
    have HTy5 := Lib.hid hty5
    clear hty5
    have hu5 := (hb5.block (w.heap.size + 3) (by omega)).trans HU4.out.1
    have hc5 := (hb5.block (w.heap.size + 2) (by omega)).trans HU4.out.2
    have cu5 : w5.cell? ⟨w.heap.size + 3, 0, none⟩ = some (.pointer y) := by rw [cell_at hu5]; rfl
    have zc5 := fun i => unfrozen hc5 i
    have cc5 : w5.cell? ⟨w.heap.size + 2, 0, none⟩ = some (.pointer none) := by rw [cell_at hc5]; rfl
    have HT5 := Lib.hid (HT4.out.below hb5)
    have HS5 := Lib.hid hS5
    have HB5 := Lib.hid (HB4.out.trans (hb5.mono HB4.out.size))
    have HC5 := Lib.hid hc5
    clear hb5 hS5 hu5 hc5 hw4 zu3 cu3 HR q2
    go_wp2_with fail
    have hs := heap_set_at (o := 0) (u := Value.pointer y) HC5.out
    have q0 : (w5.setCell ⟨w.heap.size + 2, 0, none⟩ (Value.pointer y)).cell? ⟨w.heap.size + 2, 0, none⟩ = some (Value.pointer y) := by rw [cell_at hs]; rfl
    exact bodyPost_ret (v := .tuple #[.agg #[.pointer y], .slice a5 M.length c5, .bool true]) (by simp [results, Try.results14, go_sem, q0]) rfl ⟨y, a5, c5, rfl, HT5.out.setBox HC5.out (by decide) (nums_np _ _), HS5.out.setBox HC5.out (.inr (nums_np _ _)), HTy5.out.imp id (fun h d hd => (h d hd).set), HB5.out.setCell (p := ⟨w.heap.size + 2, 0, none⟩) (by show _ ≤ w.heap.size + 2; omega) _⟩
  · obtain rfl : I = J := hJt rfl
    clear hJw hJt
    go_enter Try.func14, Try.ntmps14
    go_upto_region 5 with fail
    go_wp2_with fail
    refine HC1.out.mono ?_; rintro e w3 ⟨y, rfl, hT3, hb3⟩
    have hu3 := (hb3.block (w.heap.size + 3) (by omega)).trans HU2.out
    have hc3 := (hb3.block (w.heap.size + 2) (by omega)).trans HC2.out
    obtain ⟨w4, hw4⟩ : ∃ w4, w3.setCell ⟨w.heap.size + 3, 0, none⟩ (.pointer y) = w4 := ⟨_, rfl⟩
    have zu3 := fun i => unfrozen hu3 i
    have cu3 : w3.cell? ⟨w.heap.size + 3, 0, none⟩ = some (.pointer x) := by rw [cell_at hu3]; rfl
    have hu4 : w4.heap[w.heap.size + 3]? = some (.cells #[.pointer y] 27 (0, 0)) := by rw [← hw4, heap_set_at hu3]; rfl
    have hc4 : w4.heap[w.heap.size + 2]? = some (.cells #[.pointer none] 27 (0, 0)) := by rw [← hw4]; exact (heap_set_other (by omega)).trans hc3
    have hT4 : Tin w4 95 (.pointer y) (nums M) := by rw [← hw4]; exact hT3.setBox hu3 (by decide) (nums_np _ _)
    have hS4 : Sl w4 a c (nums l) := by rw [← hw4]; exact (HS2.out.below hb3).setBox hu3 (.inr (nums_np _ _))
    have hB4 : Below w.heap.size w w4 := by rw [← hw4]; exact (HB2.out.trans (hb3.mono HB2.out.size)).setCell (p := ⟨w.heap.size + 3, 0, none⟩) (by show _ ≤ w.heap.size + 3; omega) _
    have hz4 : w.heap.size + 4 ≤ w4.heap.size := by rw [← hw4, size_set]; have := hb3.size; omega
    have q2 : w4.cell? ⟨w.heap.size + 1, 2, none⟩ = some (.int .i64 X) := by
      rw [← hw4, World.cell?_of_block (w := w3) (a := ⟨w.heap.size + 1, 2, none⟩) (heap_set_other (by show w.heap.size + 1 ≠ w.heap.size + 3; omega))]
      exact (hb3.cell (p := ⟨w.heap.size + 1, 2, none⟩) (by show w.heap.size + 1 < _; omega)).trans r2
    have HT4 := Lib.hid hT4
    have HB4 := Lib.hid hB4
    have HU4 := Lib.hid (And.intro hu4 hc4)
    have HR := Lib.hid (HC2c.out w4 hS4)
    clear hT3 hb3 hu3 hc3 hu4 hc4 hT4 hS4 hB4 HC1 r0 e0
    go_wp2_with fail
    refine HR.out.mono ?_; rintro e w5 ⟨a5, c5, rfl, hS5, hty5, hb5⟩
    have HTy5 := Lib.hid hty5
    clear hty5
    have hu5 := (hb5.block (w.heap.size + 3) (by omega)).trans HU4.out.1
    have hc5 := (hb5.block (w.heap.size + 2) (by omega)).trans HU4.out.2
    have cu5 : w5.cell? ⟨w.heap.size + 3, 0, none⟩ = some (.pointer y) := by rw [cell_at hu5]; rfl
    have zc5 := fun i => unfrozen hc5 i
    have cc5 : w5.cell? ⟨w.heap.size + 2, 0, none⟩ = some (.pointer none) := by rw [cell_at hc5]; rfl
    have HT5 := Lib.hid (HT4.out.below hb5)
    have HS5 := Lib.hid hS5
    have HB5 := Lib.hid (HB4.out.trans (hb5.mono HB4.out.size))
    have HC5 := Lib.hid hc5
    clear hb5 hS5 hu5 hc5 hw4 zu3 cu3 HR q2
    go_wp2_with fail
    have hs := heap_set_at (o := 0) (u := Value.pointer y) HC5.out
    have q0 : (w5.setCell ⟨w.heap.size + 2, 0, none⟩ (Value.pointer y)).cell? ⟨w.heap.size + 2, 0, none⟩ = some (Value.pointer y) := by rw [cell_at hs]; rfl
    exact bodyPost_ret (v := .tuple #[.agg #[.pointer y], .slice a5 M.length c5, .bool true]) (by simp [results, Try.results14, go_sem, q0]) rfl ⟨y, a5, c5, rfl, HT5.out.setBox HC5.out (by decide) (nums_np _ _), HS5.out.setBox HC5.out (.inr (nums_np _ _)), HTy5.out.imp id (fun h d hd => (h d hd).set), HB5.out.setCell (p := ⟨w.heap.size + 2, 0, none⟩) (by show _ ≤ w.heap.size + 2; omega) _⟩

set_option maxRecDepth 100000 in
set_option maxHeartbeats 4000000 in
theorem stepN {w : World} {x a : Option Addr} {c : Nat} {l : List Int} {K : Int} {I X : Int} {odd : Bool} (k0 : (K == 0) = false) (k1 : (K == 1) = false) (k2 : (K == 2) = false) (k3 : (K == 3) = false) (k4 : (K == 4) = false) (k5 : (K == 5) = false) (H : Tin w 95 (.pointer x) (nums l)) (hS : Sl w a c (nums l)) (hI : I64 I) (hl : l.length ≤ 1000) :
    Calls Try.prog 14 #[.agg #[.pointer x], .slice a l.length c, .agg #[.int .i64 K, .int .i64 I, .int .i64 X, .bool odd]] w (StPost a (l) w) := by
  obtain ⟨w1, hw1, hb1, hz1, hA, hD, hC⟩ := three_blocks w (Obj.cells #[.pointer x] 27) (Obj.cells #[.int .i64 K, .int .i64 I, .int .i64 X, .bool odd] 31) (Obj.cells #[Value.pointer none] 27)
  have HB1 := Lib.hid hb1
  have HT1 := Lib.hid (H.below hb1)
  have HS1 := Lib.hid (hS.below hb1)
  have c0 : w1.cell? ⟨w.heap.size, 0, none⟩ = some (.pointer x) := by rw [cell_at hA]; rfl
  have p0 : w1.cell? ⟨w.heap.size + 1, 0, none⟩ = some (.int .i64 K) := by rw [cell_at hD]; rfl
  have p1 : w1.cell? ⟨w.heap.size + 1, 1, none⟩ = some (.int .i64 I) := by rw [cell_at hD]; rfl
  have p2 : w1.cell? ⟨w.heap.size + 1, 2, none⟩ = some (.int .i64 X) := by rw [cell_at hD]; rfl
  have p3 : w1.cell? ⟨w.heap.size + 1, 3, none⟩ = some (.bool odd) := by rw [cell_at hD]; rfl
  have HCD := Lib.hid (And.intro hA (And.intro hD hC))
  obtain ⟨n, hn⟩ : ∃ n, l.length = n := ⟨_, rfl⟩
  have HN := Lib.hid hn
  have hnl : (nums l).length = n := by rw [nums_len]; exact hn
  obtain ⟨J, hJ⟩ : ∃ J, plZ n I odd = J := ⟨_, rfl⟩
  have hJw : odd = false → IntKind.i64.wrap ((I % 18446744073709551616) % ((n : Int) + 1)) = J := fun ho => by
    rw [pl_walk (by omega), ← ho]; exact hJ
  have hJt : odd = true → I = J := fun ho => by rw [ho] at hJ; exact hJ
  rw [hn] at hl ⊢
  obtain ⟨w2, hw2, hb2, hz2, hh2⟩ := box_eq w1 27 x
  have e0 : w2.cell? ⟨w.heap.size, 0, none⟩ = some (.pointer x) := (hb2.cell (p := ⟨w.heap.size, 0, none⟩) (by show w.heap.size < _; omega)).trans c0
  have r0 : w2.cell? ⟨w.heap.size + 1, 0, none⟩ = some (.int .i64 K) := (hb2.cell (p := ⟨w.heap.size + 1, 0, none⟩) (by show w.heap.size + 1 < _; omega)).trans p0
  have r2 : w2.cell? ⟨w.heap.size + 1, 2, none⟩ = some (.int .i64 X) := (hb2.cell (p := ⟨w.heap.size + 1, 2, none⟩) (by show w.heap.size + 1 < _; omega)).trans p2
  have HT2 := Lib.hid (HT1.out.below hb2)
  have HS2 := Lib.hid (HS1.out.below hb2)
  have HB2 := Lib.hid (HB1.out.trans (hb2.mono HB1.out.size))
  have HC2 := Lib.hid ((hb2.block (w.heap.size + 2) (by omega)).trans hC)
  have HU2 := Lib.hid hh2
  have hzz : w1.heap.size = w.heap.size + 3 := hz1
  have hz22 : w2.heap.size = w.heap.size + 4 := by omega
  have zu := fun i => unfrozen hh2 i
  have cu : w2.cell? ⟨w1.heap.size, 0, none⟩ = some (.pointer x) := by rw [cell_at hh2]; rfl
  rw [hzz] at zu cu HU2 hw2
  obtain ⟨bb, hbb⟩ : ∃ bb, true = bb := ⟨_, rfl⟩
  clear H hS hb1 hA hD hC hI hJ hbb hb2 hh2 hz2 hzz HS1 HT1 hn
  have hbq : (bb == bb) = true := by simp
  cases odd
  · have hJ2 : wrap64 ((IntKind.u64.wrap I).tmod ((n : Int) + 1)) = J := by
      rw [← hJw rfl, IntKind.wrap_u64, Int.tmod_eq_emod_of_nonneg (Int.emod_nonneg _ (by omega)), IntKind.wrap_i64]; unfold wrap64; omega
    have hnz : ((n : Int) + 1 == 0) = false := by simp; omega
    have hwn1 : IntKind.i64.wrap ((n : Int) + 1) = (n : Int) + 1 := by rw [IntKind.wrap_i64]; omega
    have hwu1 : IntKind.u64.wrap ((n : Int) + 1) = (n : Int) + 1 := by rw [IntKind.wrap_u64]; omega
    clear hJw hJt
    go_enter Try.func14, Try.ntmps14
    go_upto_region 5 with fail
    have HT3 := Lib.hid HT2.out
    have rc2 : w2.cell? ⟨w.heap.size + 2, 0, none⟩ = some (.pointer none) := by rw [cell_at HC2.out]; rfl
    have zc2 := fun i => unfrozen HC2.out i
    go_wp2_with fail
    have hs := heap_set_at (o := 0) (u := Value.pointer x) HC2.out
    have q0 : (w2.setCell ⟨w.heap.size + 2, 0, none⟩ (Value.pointer x)).cell? ⟨w.heap.size + 2, 0, none⟩ = some (Value.pointer x) := by rw [cell_at hs]; rfl
    exact bodyPost_ret (v := .tuple #[.agg #[.pointer x], .slice a n c, .bool true]) (by simp [results, Try.results14, go_sem, q0]) rfl ⟨x, a, c, by rw [HN.out], HT2.out.setBox HC2.out (by decide) (nums_np _ _), HS2.out.setBox HC2.out (.inr (nums_np _ _)), .inl rfl, HB2.out.setCell (p := ⟨w.heap.size + 2, 0, none⟩) (by show _ ≤ w.heap.size + 2; omega) _⟩
  · obtain rfl : I = J := hJt rfl
    clear hJw hJt
    go_enter Try.func14, Try.ntmps14
    go_upto_region 5 with fail
    have HT3 := Lib.hid HT2.out
    have rc2 : w2.cell? ⟨w.heap.size + 2, 0, none⟩ = some (.pointer none) := by rw [cell_at HC2.out]; rfl
    have zc2 := fun i => unfrozen HC2.out i
    go_wp2_with fail
    have hs := heap_set_at (o := 0) (u := Value.pointer x) HC2.out
    have q0 : (w2.setCell ⟨w.heap.size + 2, 0, none⟩ (Value.pointer x)).cell? ⟨w.heap.size + 2, 0, none⟩ = some (Value.pointer x) := by rw [cell_at hs]; rfl
    exact bodyPost_ret (v := .tuple #[.agg #[.pointer x], .slice a n c, .bool true]) (by simp [results, Try.results14, go_sem, q0]) rfl ⟨x, a, c, by rw [HN.out], HT2.out.setBox HC2.out (by decide) (nums_np _ _), HS2.out.setBox HC2.out (.inr (nums_np _ _)), .inl rfl, HB2.out.setCell (p := ⟨w.heap.size + 2, 0, none⟩) (by show _ ≤ w.heap.size + 2; omega) _⟩

theorem step_of {w : World} {x a : Option Addr} {c : Nat} {l : List Int} (o : OpM) (H : Tin w 95 (.pointer x) (nums l)) (hS : Sl w a c (nums l)) (hI : I64 o.i) (hl : l.length ≤ 1000) :
    Calls Try.prog 14 #[.agg #[.pointer x], .slice a l.length c, .agg #[.int .i64 o.kind, .int .i64 o.i, .int .i64 o.x, .bool o.odd]] w (StPost a (stL l o) w) := by
  obtain ⟨K, I, X, odd⟩ := o
  unfold stL
  simp only
  by_cases h0 : K = 0
  · subst h0; rw [if_pos (.inl rfl)]; exact step0 H hS hI hl
  by_cases h1 : K = 1
  · subst h1; rw [if_pos (.inr (.inl rfl))]; exact step1 H hS hI hl
  by_cases h2 : K = 2
  · subst h2; rw [if_pos (.inr (.inr rfl))]; exact step2 H hS hI hl
  rw [if_neg (by omega)]
  by_cases h3 : K = 3
  · subst h3; rw [if_pos (.inl rfl)]; exact step3 H hS hI hl
  by_cases h4 : K = 4
  · subst h4; rw [if_pos (.inr rfl)]; exact step4 H hS hI hl
  rw [if_neg (by omega)]
  by_cases h5 : K = 5
  · subst h5; rw [if_pos rfl]; exact step5 H hS hI hl
  rw [if_neg h5]
  have f : ∀ j : Int, K ≠ j → (K == j) = false := fun j h => by simpa using h
  exact stepN (f 0 h0) (f 1 h1) (f 2 h2) (f 3 h3) (f 4 h4) (f 5 h5) H hS hI hl

end Go.Proofs.Ytofncnommekbjaa
