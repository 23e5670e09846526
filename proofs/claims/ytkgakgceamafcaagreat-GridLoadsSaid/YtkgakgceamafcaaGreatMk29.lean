/-
  Texts of this seat, put together (a claim holds few texts): GeD, GeE, GeF.
-/
import Derived.Test.YtkgakgceamafcaaGreatMk28

namespace Go.Proofs.YtkgakgceamafcaaGreat
open Go Go.RowKit Go.Shelf
set_option linter.unusedVariables false

/-- The program's grid of a file, or of none. -/
def GpF (l : List UInt8) (px : Option Addr) (tb : Bool) (en : Int) (p : Nat) (w : World) : Prop :=
  (glEr l ≠ 0 ∧ px = none ∧ tb = false ∧ en = 2 ∧ ∃ B, Ar w B p []) ∨
  (glEr l = 0 ∧ tb = tailP (allP l 0) ∧ en = frsP (allP l 0) ∧ ∃ (Ls : List R3) (Cs : List (List CelM)) (B : Nat), Tin w 194 (.pointer px) (rws Ls) ∧ Ls.length = (allP l 0).length ∧ GrIn w l Ls Cs ∧ FileOf Ls Cs (allP l 0) ∧ Ar w B p l)
/-- The document's. -/
def GdF (l : List UInt8) (B : Nat) (a : Option Addr) (n c : Nat) (tb : Bool) (en : Int) (w : World) : Prop :=
  (glEr l ≠ 0 ∧ a = none ∧ n = 0 ∧ c = 0 ∧ tb = false ∧ en = 2) ∨
  (glEr l = 0 ∧ tb = tailP (allP l 0) ∧ en = frsP (allP l 0) ∧ n = (allP l 0).length ∧ ∃ (Ls : List R3), Ls.length = n ∧ w.ownsRow B 116 3 (.slice a n c) n (cs3 (rws Ls)) ∧ DgIn w B Ls (cellsG l (allP l 0)) ∧ EndsAs Ls (allP l 0))
theorem GpF.below {l : List UInt8} {px : Option Addr} {tb : Bool} {en : Int} {p : Nat} {w w' : World} (h : GpF l px tb en p w) (hb : Below w.heap.size w w') : GpF l px tb en p w' := by
  rcases h with ⟨h0, h1, h2, h3, B, h4⟩ | ⟨h0, h1, h2, Ls, Cs, B, h3, h4, h5, h6, h7⟩
  · exact Or.inl ⟨h0, h1, h2, h3, B, h4.below hb⟩
  · exact Or.inr ⟨h0, h1, h2, Ls, Cs, B, h3.below hb, h4, h5.below hb, h6, h7.below hb⟩
theorem GdF.below {l : List UInt8} {B : Nat} {a : Option Addr} {n c : Nat} {tb : Bool} {en : Int} {w w' : World} (h : GdF l B a n c tb en w) (hb : Below w.heap.size w w') : GdF l B a n c tb en w' := by
  rcases h with h | ⟨h0, h1, h2, h3, Ls, h4, h5, h6, h7⟩
  · exact Or.inl h
  · exact Or.inr ⟨h0, h1, h2, h3, Ls, h4, own_below h5 hb, h6.below hb, h7⟩
theorem GpF.setT {l : List UInt8} {px : Option Addr} {tb : Bool} {en : Int} {p b o : Nat} {u : Value} {cs : Array Value} {T : TypeId} {w : World} (h : GpF l px tb en p w) (hb : w.heap[b]? = some (.cells cs T (0, 0))) (h1 : T ≠ 124) (h2 : T ≠ 5) (h3 : T ≠ 59) (h4 : T ≠ 61) (h5 : T ≠ 194) (h6 : ¬ okT T) : GpF l px tb en p (w.setCell ⟨b, o, none⟩ u) := by
  rcases h with ⟨k0, k1, k2, k3, B, k4⟩ | ⟨k0, k1, k2, Ls, Cs, B, k3, k4, k5, k6, k7⟩
  · exact Or.inl ⟨k0, k1, k2, k3, B, k4.set hb h1 h2⟩
  · exact Or.inr ⟨k0, k1, k2, Ls, Cs, B, k3.setT hb h5 h6, k4, k5.setT hb h3 h4, k6, k7.set hb h1 h2⟩
theorem GdF.setT {l : List UInt8} {B : Nat} {a : Option Addr} {n c b o : Nat} {tb : Bool} {en : Int} {u : Value} {cs : Array Value} {T : TypeId} {fr : Nat × Nat} {w : World} (h : GdF l B a n c tb en w) (hb : w.heap[b]? = some (.cells cs T fr)) (h1 : T ≠ 116) (h2 : T ≠ 51) : GdF l B a n c tb en (w.setCell ⟨b, o, none⟩ u) := by
  rcases h with h | ⟨k0, k1, k2, k3, Ls, k4, k5, k6, k7⟩
  · exact Or.inl h
  · exact Or.inr ⟨k0, k1, k2, k3, Ls, k4, own_set k5 (own_ne k5 hb (fun e => h1 e.symm)), k6.setT hb h2, k7⟩
theorem gp_of {l : List UInt8} {w w' : World} {e : Ending} (h : GlPost l w e w') : ∃ (px : Option Addr) (tb : Bool) (en : Int) (p : Nat), e = .returned (.tuple #[.agg #[.pointer px, .bool tb, .int .i64 en], .pointer (some ⟨p, 0, none⟩), .int .i64 (glEr l)]) ∧ GpF l px tb en p w' ∧ Below w.heap.size w w' := by
  rcases h with ⟨h0, p, B, rfl, hA, hB⟩ | ⟨h0, px, p, Ls, Cs, rfl, h1, h2, h3, h4, h5, h6⟩
  · exact ⟨none, false, 2, p, rfl, Or.inl ⟨h0, rfl, rfl, rfl, B, hA⟩, hB⟩
  · exact ⟨px, _, _, p, by rw [h0], Or.inr ⟨h0, rfl, rfl, Ls, Cs, _, h1, h2, h3, h4, h5⟩, h6⟩
theorem gd_of {l : List UInt8} {w w' : World} {e : Ending} (h : RGlPost l w e w') : ∃ (a : Option Addr) (n c : Nat) (tb : Bool) (en : Int), e = .returned (.tuple #[.agg #[.slice a n c, .bool tb, .int .i64 en], .int .i64 (glEr l)]) ∧ GdF l w.heap.size a n c tb en w' ∧ Below w.heap.size w w' := by
  rcases h with ⟨hb, ⟨h0, rfl⟩ | ⟨h0, a, c, n, Ls, h1, h2, rfl, h3, h4, h5⟩⟩
  · exact ⟨none, 0, 0, false, 2, rfl, Or.inl ⟨h0, rfl, rfl, rfl, rfl, rfl⟩, hb⟩
  · exact ⟨a, n, c, _, _, by rw [h0], Or.inr ⟨h0, rfl, rfl, h1, Ls, h2, h3, h4, h5⟩, hb⟩
/-- What Begun tells. -/
def BgPost (l : List UInt8) (w : World) (e : Ending) (w' : World) : Prop :=
  ∃ (px : Option Addr) (tb : Bool) (en : Int) (p : Nat) (a : Option Addr) (n c : Nat) (td : Bool) (ed : Int), e = .returned (.tuple #[.agg #[.pointer px, .bool tb, .int .i64 en], .pointer (some ⟨p, 0, none⟩), .agg #[.slice a n c, .bool td, .int .i64 ed], .bool (glEr l == 0)]) ∧
    GpF l px tb en p w' ∧ GdF l w.heap.size a n c td ed w' ∧ Below w.heap.size w w'
theorem GdF.mono {l : List UInt8} {B B' : Nat} {a : Option Addr} {n c : Nat} {tb : Bool} {en : Int} {w : World} (h : GdF l B' a n c tb en w) (hB : B ≤ B') : GdF l B a n c tb en w := by
  rcases h with h | ⟨k0, k1, k2, k3, Ls, k4, k5, k6, k7⟩
  · exact Or.inl h
  · exact Or.inr ⟨k0, k1, k2, k3, Ls, k4, own_mono k5 hB, k6.mono hB, k7⟩

theorem okd11 : ¬ okT 35 := by unfold okT; decide
/-- Both results are put into their boxes. -/
theorem six_of {l : List UInt8} {px a : Option Addr} {tb td : Bool} {en ed : Int} {p n c b0 b1 B : Nat} {w w6 : World} (h01 : b1 ≠ b0) (h10 : b0 ≠ b1) (H0 : w6.heap[b0]? = some (.cells #[.pointer none, .bool false, .int .i64 0] 27 (0, 0))) (H1 : w6.heap[b1]? = some (.cells #[.slice none 0 0, .bool false, .int .i64 0] 35 (0, 0)))
    (hF : GpF l px tb en p w6) (hD : GdF l B a n c td ed w6) (hB : Below B w w6) (hB0 : B ≤ b0) (hB1 : B ≤ b1) {W : World} (hW : W = ((((((w6.setCell ⟨b0, 0, none⟩ (.pointer px)).setCell ⟨b0, 1, none⟩ (.bool tb)).setCell ⟨b0, 2, none⟩ (.int .i64 en)).setCell ⟨b1, 0, none⟩ (.slice a n c)).setCell ⟨b1, 1, none⟩ (.bool td)).setCell ⟨b1, 2, none⟩ (.int .i64 ed)).drew) :
    (W.cell? ⟨b0, 0, none⟩ = some (.pointer px) ∧ W.cell? ⟨b0, 1, none⟩ = some (.bool tb) ∧ W.cell? ⟨b0, 2, none⟩ = some (.int .i64 en) ∧ W.cell? ⟨b1, 0, none⟩ = some (.slice a n c) ∧ W.cell? ⟨b1, 1, none⟩ = some (.bool td) ∧ W.cell? ⟨b1, 2, none⟩ = some (.int .i64 ed)) ∧ GpF l px tb en p W ∧ GdF l B a n c td ed W ∧ Below B w W := by
  have step : ∀ {w1 : World} {x1 x2 x3 : Value} {cs : Array Value} (b o : Nat) (u : Value), (b = b0 ∨ b = b1) → w1.heap[b0]? = some (.cells #[x1, x2, x3] 27 (0, 0)) → w1.heap[b1]? = some (.cells cs 35 (0, 0)) → GpF l px tb en p w1 ∧ GdF l B a n c td ed w1 ∧ Below B w w1 → GpF l px tb en p (w1.setCell ⟨b, o, none⟩ u) ∧ GdF l B a n c td ed (w1.setCell ⟨b, o, none⟩ u) ∧ Below B w (w1.setCell ⟨b, o, none⟩ u) := by
    intro w1 x1 x2 x3 cs b o u hb e0 e1 ⟨k1, k2, k3⟩
    rcases hb with rfl | rfl
    · exact ⟨k1.setT e0 (by decide) (by decide) (by decide) (by decide) (by decide) okT_grid, k2.setT e0 (by decide) (by decide), k3.setCell (p := ⟨b, o, none⟩) hB0 u⟩
    · exact ⟨k1.setT e1 (by decide) (by decide) (by decide) (by decide) (by decide) okd11, k2.setT e1 (by decide) (by decide), k3.setCell (p := ⟨b, o, none⟩) hB1 u⟩
  have g1 := heap_set_at (o := 0) (u := .pointer px) H0
  have h1 := (heap_set_other (w := w6) (o := 0) (u := .pointer px) h01).trans H1
  have k1 := step b0 0 (.pointer px) (Or.inl rfl) H0 H1 ⟨hF, hD, hB⟩
  generalize w6.setCell ⟨b0, 0, none⟩ (.pointer px) = v1 at *
  have g2 := heap_set_at (o := 1) (u := .bool tb) g1
  have h2 := (heap_set_other (w := v1) (o := 1) (u := .bool tb) h01).trans h1
  have k2 := step b0 1 (.bool tb) (Or.inl rfl) g1 h1 k1
  generalize v1.setCell ⟨b0, 1, none⟩ (.bool tb) = v2 at *
  have g3 := heap_set_at (o := 2) (u := .int .i64 en) g2
  have h3 := (heap_set_other (w := v2) (o := 2) (u := .int .i64 en) h01).trans h2
  have k3 := step b0 2 (.int .i64 en) (Or.inl rfl) g2 h2 k2
  generalize v2.setCell ⟨b0, 2, none⟩ (.int .i64 en) = v3 at *
  have h4 := heap_set_at (o := 0) (u := .slice a n c) h3
  have g4 := (heap_set_other (w := v3) (o := 0) (u := .slice a n c) h10).trans g3
  have k4 := step b1 0 (.slice a n c) (Or.inr rfl) g3 h3 k3
  generalize v3.setCell ⟨b1, 0, none⟩ (.slice a n c) = v4 at *
  have h5 := heap_set_at (o := 1) (u := .bool td) h4
  have g5 := (heap_set_other (w := v4) (o := 1) (u := .bool td) h10).trans g4
  have k5 := step b1 1 (.bool td) (Or.inr rfl) g4 h4 k4
  generalize v4.setCell ⟨b1, 1, none⟩ (.bool td) = v5 at *
  have h6 := heap_set_at (o := 2) (u := .int .i64 ed) h5
  have g6 := (heap_set_other (w := v5) (o := 2) (u := .int .i64 ed) h10).trans g5
  have k6 := step b1 2 (.int .i64 ed) (Or.inr rfl) g5 h5 k5
  generalize v5.setCell ⟨b1, 2, none⟩ (.int .i64 ed) = v6 at *
  subst hW
  exact ⟨⟨(cell_at g6 0).trans rfl, (cell_at g6 1).trans rfl, (cell_at g6 2).trans rfl, (cell_at h6 0).trans rfl, (cell_at h6 1).trans rfl, (cell_at h6 2).trans rfl⟩, k6.1.below (Below.refl _ v6).drew, k6.2.1.below (Below.refl _ v6).drew, k6.2.2.drew⟩

set_option maxRecDepth 100000 in
set_option maxHeartbeats 4000000 in
theorem begun_of (l : List UInt8) (w : World) (hl : l.length ≤ 1000000) : Calls Tryz.prog 18 #[.string (strOf l)] w (BgPost l w) := by
  obtain ⟨N, hN⟩ : ∃ N, l.length = N := ⟨_, rfl⟩
  rw [hN] at hl
  obtain ⟨w1, hw1⟩ : ∃ w1, w1 = allocs w [Obj.cells #[Value.pointer none, Value.bool false, Value.int .i64 0] 27, Obj.cells #[Value.slice none 0 0, Value.bool false, Value.int .i64 0] 35] := ⟨_, rfl⟩
  have HB1 : Hid (Below w.heap.size w w1) := by rw [hw1]; exact Lib.hid (allocs_below _ w)
  have hzw : w1.heap.size > w.heap.size + 1 := by rw [hw1, allocs_size]; simp
  have HH0 : Hid (w1.heap[w.heap.size]? = some (.cells #[Value.pointer none, Value.bool false, Value.int .i64 0] 27 (0, 0))) := by rw [hw1]; exact Lib.hid (allocs_at _ w 0 _ rfl)
  have HH1 : Hid (w1.heap[w.heap.size + 1]? = some (.cells #[Value.slice none 0 0, Value.bool false, Value.int .i64 0] 35 (0, 0))) := by rw [hw1]; exact Lib.hid (allocs_at _ w 1 _ rfl)
  obtain ⟨cp, W2, hq, hcap, hr, hb2, hz2⟩ : ∃ cp W2, (convert 9 32 (.string (strOf l))).run Tryz.prog w1 = .ok (.slice (some ⟨w1.heap.size, 0, none⟩) N cp) W2 ∧ (N ≤ cp ∧ cp ≤ maxLen) ∧ Rd W2 1 (some ⟨w1.heap.size, 0, none⟩) l.length (bc l) ∧ Below w1.heap.size w1 W2 ∧ w1.heap.size < W2.heap.size := by
    obtain ⟨cap, W, h1, h2, h3⟩ := held_of (strOf l) w1 (by show l.length ≤ _; rw [hN]; unfold maxLen; omega)
    subst hN
    exact ⟨cap, W, h1, ⟨h2.fits, h2.cap⟩, rd_held h2, h3, h2.lies⟩
  have HGl := Lib.hid (gload_of hr hN hcap.1 hcap.2)
  have HRl := Lib.hid (fun v : World => rgload_of (s := strOf l) (l := l) rfl (by rw [hN]; exact hl) v)
  have HB2 := Lib.hid (HB1.out.trans (hb2.mono HB1.out.size))
  have HH02 := Lib.hid ((hb2.block w.heap.size (by omega)).trans HH0.out)
  have HH12 := Lib.hid ((hb2.block (w.heap.size + 1) (by omega)).trans HH1.out)
  have HQ := Lib.hid hq
  clear hr hb2 hN hq HH0 HH1 HB1 hcap
  obtain ⟨K, hK⟩ : ∃ K, glEr l = K := ⟨_, rfl⟩
  have HKK := Lib.hid hK
  unfold BgPost
  rw [hK]
  clear hK
  have hq := HQ.out
  generalize strOf l = s at *
  go_enter Tryz.func18, Tryz.ntmps18
  go_upto_region 1 with fail
  rw [show (w.alloc (Obj.cells #[Value.pointer none, Value.bool false, Value.int .i64 0] 27)).alloc (Obj.cells #[Value.slice none 0 0, Value.bool false, Value.int .i64 0] 35) = w1 from hw1.symm]
  clear hw1
  go_wp2_with fail
  refine HGl.out.mono ?_; rintro e w3 hp
  obtain ⟨px, tb, en, p, rfl, hF, hb3⟩ := gp_of hp
  rw [HKK.out]
  have hz3 := hb3.size
  have al := t_al w3 (Obj.cells #[.pointer px, .bool tb, .int .i64 en] 27)
  have hh := heap_alloc_new w3 (Obj.cells #[.pointer px, .bool tb, .int .i64 en] 27)
  have bb := hb3.trans (al.mono hb3.size)
  have HF4 := Lib.hid (hF.below al)
  have H64 := Lib.hid hh
  have HB4 := Lib.hid (HB2.out.trans (bb.mono HB2.out.size))
  have HH04 := Lib.hid ((bb.block w.heap.size (by omega)).trans HH02.out)
  have HH14 := Lib.hid ((bb.block (w.heap.size + 1) (by omega)).trans HH12.out)
  have hz4 := lt_of_heap H64.out
  clear hp hF hb3 al hh bb HGl hq HB2 HH02 HH12
  go_upto_region 2 with fail
  generalize w3.alloc (Obj.cells #[.pointer px, .bool tb, .int .i64 en] 27) = w4 at *
  go_wp2_with fail
  refine (HRl.out w4).mono ?_; rintro e w5 hp
  obtain ⟨a, n, c, td, ed, rfl, hD, hb5⟩ := gd_of hp
  rw [HKK.out]
  have hz5 := hb5.size
  have al := t_al w5 (Obj.cells #[.slice a n c, .bool td, .int .i64 ed] 35)
  have hh := heap_alloc_new w5 (Obj.cells #[.slice a n c, .bool td, .int .i64 ed] 35)
  have bb := hb5.trans (al.mono hb5.size)
  have HF6 := Lib.hid (HF4.out.below bb)
  have HD6 := Lib.hid ((hD.below al).mono (B := w.heap.size) (by have := HB4.out.size; omega))
  have h66 := (bb.block w3.heap.size (lt_of_heap H64.out)).trans H64.out
  have HB6 := Lib.hid (HB4.out.trans (bb.mono HB4.out.size))
  have h06 := (bb.block w.heap.size (lt_of_heap HH04.out)).trans HH04.out
  have h16 := (bb.block (w.heap.size + 1) (lt_of_heap HH14.out)).trans HH14.out
  clear hp hD hb5 al bb HRl HF4 H64 HB4 HH04 HH14
  go_upto_region 3 with fail
  generalize w5.alloc (Obj.cells #[.slice a n c, .bool td, .int .i64 ed] 35) = w6 at *
  have a0 : w6.cell? ⟨w3.heap.size, 0, none⟩ = some (.pointer px) := (cell_at h66 0).trans rfl
  have a1 : w6.cell? ⟨w3.heap.size, 1, none⟩ = some (.bool tb) := (cell_at h66 1).trans rfl
  have a2 : w6.cell? ⟨w3.heap.size, 2, none⟩ = some (.int .i64 en) := (cell_at h66 2).trans rfl
  have b0 : w6.cell? ⟨w5.heap.size, 0, none⟩ = some (.slice a n c) := (cell_at hh 0).trans rfl
  have b1 : w6.cell? ⟨w5.heap.size, 1, none⟩ = some (.bool td) := (cell_at hh 1).trans rfl
  have b2 : w6.cell? ⟨w5.heap.size, 2, none⟩ = some (.int .i64 ed) := (cell_at hh 2).trans rfl
  have r0 : w6.cell? ⟨w.heap.size, 0, none⟩ = some (.pointer none) := (cell_at h06 0).trans rfl
  have r1 : w6.cell? ⟨w.heap.size, 1, none⟩ = some (.bool false) := (cell_at h06 1).trans rfl
  have r2 : w6.cell? ⟨w.heap.size, 2, none⟩ = some (.int .i64 0) := (cell_at h06 2).trans rfl
  have s0 : w6.cell? ⟨w.heap.size + 1, 0, none⟩ = some (.slice none 0 0) := (cell_at h16 0).trans rfl
  have s1 : w6.cell? ⟨w.heap.size + 1, 1, none⟩ = some (.bool false) := (cell_at h16 1).trans rfl
  have s2 : w6.cell? ⟨w.heap.size + 1, 2, none⟩ = some (.int .i64 0) := (cell_at h16 2).trans rfl
  have z0 := fun i => unfrozen h06 i
  have z1 := fun i => unfrozen h16 i
  have H06 := Lib.hid h06
  have H16 := Lib.hid h16
  clear h66 hh h06 h16 HQ HKK
  have n1 : w3.heap.size ≠ w.heap.size := by omega
  have n2 : w3.heap.size ≠ w.heap.size + 1 := by omega
  have n3 : w5.heap.size ≠ w.heap.size := by omega
  have n4 : w5.heap.size ≠ w.heap.size + 1 := by omega
  by_cases h0 : K = 0
  · subst h0
    go_big_region
    go_wp2_with fail
    obtain ⟨W7, hW7⟩ : ∃ W7, W7 = ((((((w6.setCell ⟨w.heap.size, 0, none⟩ (.pointer px)).setCell ⟨w.heap.size, 1, none⟩ (.bool tb)).setCell ⟨w.heap.size, 2, none⟩ (.int .i64 en)).setCell ⟨w.heap.size + 1, 0, none⟩ (.slice a n c)).setCell ⟨w.heap.size + 1, 1, none⟩ (.bool td)).setCell ⟨w.heap.size + 1, 2, none⟩ (.int .i64 ed)).drew := ⟨_, rfl⟩
    obtain ⟨⟨q0, q1, q2, q3, q4, q5⟩, hF, hD, hB⟩ := six_of (show w.heap.size + 1 ≠ w.heap.size by omega) (show w.heap.size ≠ w.heap.size + 1 by omega) H06.out H16.out HF6.out HD6.out HB6.out (Nat.le_refl _) (Nat.le_succ _) hW7
    rw [← hW7]
    clear hW7
    exact bodyPost_ret (v := .tuple #[.agg #[.pointer px, .bool tb, .int .i64 en], .pointer (some ⟨p, 0, none⟩), .agg #[.slice a n c, .bool td, .int .i64 ed], .bool true]) (by simp [results, Tryz.results18, go_sem, q0, q1, q2, q3, q4, q5]) rfl ⟨px, tb, en, p, a, n, c, td, ed, rfl, hF, hD, hB⟩
  · have kq : (K == 0) = false := by simpa using h0
    go_big_region
    go_wp2_with fail
    obtain ⟨W7, hW7⟩ : ∃ W7, W7 = ((((((w6.setCell ⟨w.heap.size, 0, none⟩ (.pointer px)).setCell ⟨w.heap.size, 1, none⟩ (.bool tb)).setCell ⟨w.heap.size, 2, none⟩ (.int .i64 en)).setCell ⟨w.heap.size + 1, 0, none⟩ (.slice a n c)).setCell ⟨w.heap.size + 1, 1, none⟩ (.bool td)).setCell ⟨w.heap.size + 1, 2, none⟩ (.int .i64 ed)).drew := ⟨_, rfl⟩
    obtain ⟨⟨q0, q1, q2, q3, q4, q5⟩, hF, hD, hB⟩ := six_of (show w.heap.size + 1 ≠ w.heap.size by omega) (show w.heap.size ≠ w.heap.size + 1 by omega) H06.out H16.out HF6.out HD6.out HB6.out (Nat.le_refl _) (Nat.le_succ _) hW7
    rw [← hW7]
    clear hW7
    exact bodyPost_ret (v := .tuple #[.agg #[.pointer px, .bool tb, .int .i64 en], .pointer (some ⟨p, 0, none⟩), .agg #[.slice a n c, .bool td, .int .i64 ed], .bool false]) (by simp [results, Tryz.results18, go_sem, q0, q1, q2, q3, q4, q5]) rfl ⟨px, tb, en, p, a, n, c, td, ed, by rw [kq], hF, hD, hB⟩
end Go.Proofs.YtkgakgceamafcaaGreat

namespace Go.Proofs.YtkgakgceamafcaaGreat
open Go Go.RowKit Go.Shelf
set_option linter.unusedVariables false

set_option maxRecDepth 100000 in
set_option maxHeartbeats 1000000 in
theorem gln_of {w : World} {px : Option Addr} {L : List Value} {n : Nat} (tl : Bool) (en : Int) (H : Tin w 194 (.pointer px) L) (hn : L.length = n) :
    Calls Tryz.prog 15 #[.agg #[.pointer px, .bool tl, .int .i64 en]] w fun e w' => e = .returned (.int .i64 n) ∧ Below w.heap.size w w' := by
  have hh := heap_alloc_new w (Obj.cells #[.pointer px, .bool tl, .int .i64 en] 27)
  have al := t_al w (Obj.cells #[.pointer px, .bool tl, .int .i64 en] 27)
  obtain ⟨w1, hw1⟩ : ∃ w1, w.alloc (Obj.cells #[.pointer px, .bool tl, .int .i64 en] 27) = w1 := ⟨_, rfl⟩
  rw [hw1] at hh al
  have c0 : w1.cell? ⟨w.heap.size, 0, none⟩ = some (.pointer px) := (cell_at hh 0).trans rfl
  have HL := Lib.hid (len_i (H.below al))
  rw [hn] at HL
  have AL := Lib.hid al
  clear hh al H hn
  go_enter Tryz.func15, Tryz.ntmps15
  go_wp2_with fail
  refine HL.out.mono ?_; rintro e w2 ⟨rfl, hb2⟩
  have HB := Lib.hid (AL.out.trans (hb2.mono AL.out.size))
  clear hb2
  go_wp2_with fail
  go_ret
  exact ⟨rfl, HB.out⟩

set_option maxRecDepth 100000 in
set_option maxHeartbeats 1000000 in
theorem grow_yes {w : World} {px : Option Addr} {Ls : List R3} {i : Nat} {r : R3} (tl : Bool) (en : Int) (H : Tin w 194 (.pointer px) (rws Ls)) (hr : Ls[i]? = some r) (hf : Ls.length ≤ 100000) :
    Calls Tryz.prog 52 #[.agg #[.pointer px, .bool tl, .int .i64 en], .int .i64 i] w fun e w' => e = .returned (.tuple #[.agg #[.slice r.a r.n r.c, .int .i64 r.e, .bool r.b], .bool true]) ∧ Below w.heap.size w w' := by
  obtain ⟨w1, hw1, hb1, hz1, hA, hC⟩ := two_blocks w (Obj.cells #[.pointer px, .bool tl, .int .i64 en] 27) (Obj.cells #[.slice none 0 0, .int .i64 0, .bool false] 103)
  have hi := (List.getElem?_eq_some_iff.1 hr).1
  have HAt := Lib.hid (atyes_i i (H.below hb1) (by rw [rws_len]; exact hi) (by rw [rws_len]; exact hf))
  have HG : Hid ((rws Ls)[i]? = some (.agg #[.slice r.a r.n r.c, .int .i64 r.e, .bool r.b])) := Lib.hid (by unfold rws; rw [List.getElem?_map, hr]; rfl)
  have c0 : w1.cell? ⟨w.heap.size, 0, none⟩ = some (.pointer px) := by rw [cell_at hA]; rfl
  have HB := Lib.hid hb1
  have HC := Lib.hid hC
  obtain ⟨ra, rn, rc, re, rb⟩ := r
  clear H hb1 hC hA hi hr
  go_enter Tryz.func52, Tryz.ntmps52
  go_upto_region 1 with fail
  go_wp2_with fail
  refine HAt.out.mono ?_; rintro e w2 ⟨⟨x, hx, rfl⟩, hb2⟩
  obtain rfl : x = .agg #[.slice ra rn rc, .int .i64 re, .bool rb] := by
    have := HG.out.symm.trans hx
    simpa using this.symm
  have HB2 := Lib.hid (HB.out.trans (hb2.mono (by omega)))
  have hc2 := (hb2.block (w.heap.size + 1) (by omega)).trans HC.out
  have HC2 := Lib.hid hc2
  have zz := fun i => unfrozen hc2 i
  have r0 : w2.cell? ⟨w.heap.size + 1, 0, none⟩ = some (.slice none 0 0) := by rw [cell_at hc2]; rfl
  have r1 : w2.cell? ⟨w.heap.size + 1, 1, none⟩ = some (.int .i64 0) := by rw [cell_at hc2]; rfl
  have r2 : w2.cell? ⟨w.heap.size + 1, 2, none⟩ = some (.bool false) := by rw [cell_at hc2]; rfl
  clear hb2 hc2 HAt hx HG
  go_wp2_with fail
  obtain ⟨w4, hw4, s0, s1, s2, hb4⟩ := row_set (v0 := .slice ra rn rc) (v1 := .int .i64 re) (v2 := .bool rb) HC2.out HB2.out (Nat.le_succ _)
  rw [hw4]
  exact bodyPost_ret (v := .tuple #[.agg #[.slice ra rn rc, .int .i64 re, .bool rb], .bool true]) (by simp [results, Tryz.results52, go_sem, s0, s1, s2]) rfl ⟨rfl, hb4⟩
end Go.Proofs.YtkgakgceamafcaaGreat

namespace Go.Proofs.YtkgakgceamafcaaGreat
open Go Go.RowKit Go.Shelf
set_option linter.unusedVariables false

/-- Rows that end as others, and are hidden as they are. -/
def AsRows (Ls Ds : List R3) : Prop := ∀ (k : Nat) (r d : R3), Ls[k]? = some r → Ds[k]? = some d → d.e = r.e ∧ d.b = r.b
theorem AsRows.snoc {Ls Ds : List R3} {r d : R3} (h : AsRows Ls Ds) (hr : Ls[Ds.length]? = some r) (h1 : d.e = r.e) (h2 : d.b = r.b) : AsRows Ls (Ds ++ [d]) := by
  intro k r' d' e1 e2
  rcases Nat.lt_or_ge k Ds.length with hk | hk
  · rw [List.getElem?_append_left hk] at e2
    exact h k r' d' e1 e2
  · have hk0 : k = Ds.length := by
      have := (List.getElem?_eq_some_iff.1 e2).1
      rw [List.length_append, List.length_singleton] at this
      omega
    rw [List.getElem?_append_right hk, hk0, Nat.sub_self] at e2
    rw [hk0, hr] at e1
    simp at e1 e2
    subst e1 e2
    exact ⟨h1, h2⟩
/-- What Plain's loop keeps. -/
def GplJ (l : List UInt8) (Ls : List R3) (Cs : List (List CelM)) (w w1 : World) (tl : Bool) (en : Int) (n : Nat) (v6 : Value) (wr : World) : Prop :=
  ∃ (k : Nat) (a : Option Addr) (c : Nat) (Ds : List R3), v6 = .int .i64 (k : Int) ∧ k ≤ n ∧ Ds.length = k ∧ wr.heap[w.heap.size + 2]? = some (.cells #[.slice a k c, .bool tl, .int .i64 en] 35 (0, 0)) ∧
    wr.ownsRow w1.heap.size 116 3 (.slice a k c) k (cs3 (rws Ds)) ∧ DgIn wr w1.heap.size Ds ((Cs.take k).map fun ms => ms.map (rc l)) ∧ AsRows Ls Ds ∧ w1.grownBy wr (some (w.heap.size + 2))
theorem one3 (a : Option Addr) (n c : Nat) (e : Int) (b : Bool) : ∀ u ∈ [Value.slice a n c, .int .i64 e, .bool b], u.oneCell' = true := by
  intro u hu
  simp only [List.mem_cons, List.not_mem_nil, or_false] at hu
  rcases hu with rfl | rfl | rfl <;> rfl

set_option maxRecDepth 100000 in
set_option maxHeartbeats 8000000 in
theorem gplain_of {w : World} {px : Option Addr} {tl : Bool} {en : Int} {p B n : Nat} {l : List UInt8} {Ls : List R3} {Cs : List (List CelM)} (H : Tin w 194 (.pointer px) (rws Ls)) (hG : GrIn w l Ls Cs) (hA : Ar w B p l) (hl : l.length ≤ 16384) (hn : Ls.length = n) (hn4 : n ≤ 400) (hcl : ∀ ms ∈ Cs, ms.length ≤ 1000) :
    Calls Tryz.prog 13 #[.pointer (some ⟨p, 0, none⟩), .agg #[.pointer px, .bool tl, .int .i64 en]] w fun e w' => ∃ (a : Option Addr) (c : Nat) (Ds : List R3), e = .returned (.agg #[.slice a n c, .bool tl, .int .i64 en]) ∧ Ds.length = n ∧
      w'.ownsRow w.heap.size 116 3 (.slice a n c) n (cs3 (rws Ds)) ∧ DgIn w' w.heap.size Ds (Cs.map fun ms => ms.map (rc l)) ∧ AsRows Ls Ds ∧ Below w.heap.size w w' := by
  obtain ⟨i0, hi0, hz0, hz1, hz2⟩ := info_parts info_drow
  obtain ⟨w1, hw1⟩ : ∃ w1, w1 = allocs w [Obj.cells #[.pointer px, .bool tl, .int .i64 en] 27, Obj.cells #[Value.slice none 0 0, Value.bool false, Value.int .i64 0] 35, Obj.cells #[Value.slice none 0 0, Value.bool tl, Value.int .i64 en] 35] := ⟨_, rfl⟩
  have HB1 : Hid (Below w.heap.size w w1) := by rw [hw1]; exact Lib.hid (allocs_below _ w)
  have hzw : w1.heap.size > w.heap.size + 2 := by rw [hw1, allocs_size]; simp
  have h00 : w1.heap[w.heap.size]? = some (.cells #[.pointer px, .bool tl, .int .i64 en] 27 (0, 0)) := by rw [hw1]; exact allocs_at _ w 0 _ rfl
  have HH0 := Lib.hid h00
  have HH1 : Hid (w1.heap[w.heap.size + 1]? = some (.cells #[Value.slice none 0 0, Value.bool false, Value.int .i64 0] 35 (0, 0))) := by rw [hw1]; exact Lib.hid (allocs_at _ w 1 _ rfl)
  have HH2 : Hid (w1.heap[w.heap.size + 2]? = some (.cells #[Value.slice none 0 0, Value.bool tl, Value.int .i64 en] 35 (0, 0))) := by rw [hw1]; exact Lib.hid (allocs_at _ w 2 _ rfl)
  have HT := Lib.hid H
  have HGr := Lib.hid hG
  have HA := Lib.hid hA
  have HNn := Lib.hid hn
  have HCl := Lib.hid hcl
  have hh0 := heap_alloc_new w (Obj.cells #[.pointer px, .bool tl, .int .i64 en] 27)
  clear H hG hA hn hcl h00 hh0
  go_enter Tryz.func13, Tryz.ntmps13
  go_upto_region 2 with fail
  rw [show ((w.alloc (Obj.cells #[.pointer px, .bool tl, .int .i64 en] 27)).alloc (Obj.cells #[Value.slice none 0 0, Value.bool false, Value.int .i64 0] 35)).alloc (Obj.cells #[Value.slice none 0 0, Value.bool tl, Value.int .i64 en] 35) = w1 from hw1.symm]
  clear hw1
  go_wp2_with fail
  go_loopw [6] (fun v6 wr => GplJ l Ls Cs w w1 tl en n v6 wr) (fun v6 _ => n - (intOf v6).toNat)
  case atStart => exact ⟨0, none, 0, [], rfl, Nat.zero_le _, rfl, HH2.out, own_nil _ _ _ _, DgIn.nil _ _, (fun k r d h1 h2 => by simp at h2), kx_refl _ _⟩
  case round =>
    obtain ⟨k, a, c, Ds, rfl, hk, hkl, hbx, how, hdg, has, hkx⟩ := hrel
    have HKL := Lib.hid hkl
    have HBX := Lib.hid hbx
    have HOW := Lib.hid how
    have HDG := Lib.hid hdg
    have HAS := Lib.hid has
    have HKX := Lib.hid hkx
    have hzr : w1.heap.size ≤ wr.heap.size := hkx.size
    have HBw := Lib.hid (kx_to HB1.out hkx (by omega))
    have hb0 := (hkx.block w.heap.size (by omega) (by simp)).trans HH0.out
    have u0 : wr.cell? ⟨w.heap.size, 0, none⟩ = some (.pointer px) := by rw [cell_at hb0]; rfl
    have u1 : wr.cell? ⟨w.heap.size, 1, none⟩ = some (.bool tl) := by rw [cell_at hb0]; rfl
    have u2 : wr.cell? ⟨w.heap.size, 2, none⟩ = some (.int .i64 en) := by rw [cell_at hb0]; rfl
    have HB0 := Lib.hid hb0
    have HLn := Lib.hid (gln_of (n := n) tl en (HT.out.below HBw.out) (by rw [rws_len]; exact HNn.out))
    clear hbx how hdg has hkx hkl hb0
    by_cases hlt : k < n
    · have dk : decide (k < n) = true := decide_eq_true hlt
      have dk1 : decide ((k : Int) < 1000) = true := decide_eq_true (by omega)
      have dk2 : decide (k < 1000) = true := decide_eq_true (by omega)
      obtain ⟨r, hr⟩ : ∃ r, Ls[k]? = some r := ⟨_, List.getElem?_eq_getElem (by rw [HNn.out]; exact hlt)⟩
      obtain ⟨ms, hms⟩ : ∃ ms, Cs[k]? = some ms := ⟨_, List.getElem?_eq_getElem (by have := HGr.out.len; have := HNn.out; omega)⟩
      have HR := Lib.hid hr
      have HMs := Lib.hid hms
      have HRo := Lib.hid (HGr.out.row k r ms hr hms)
      have hcm : ms.length ≤ 1000 := HCl.out ms (List.mem_of_getElem? hms)
      obtain ⟨ra, rn, rc', re, rb⟩ := r
      clear hr hms
      go_wp2_with fail
      refine HLn.out.mono ?_; rintro e w2 ⟨rfl, hb2⟩
      have hb0 := (hb2.block _ (lt_of_heap HB0.out)).trans HB0.out
      have v0 : w2.cell? ⟨w.heap.size, 0, none⟩ = some (.pointer px) := by rw [cell_at hb0]; rfl
      have v1 : w2.cell? ⟨w.heap.size, 1, none⟩ = some (.bool tl) := by rw [cell_at hb0]; rfl
      have v2 : w2.cell? ⟨w.heap.size, 2, none⟩ = some (.int .i64 en) := by rw [cell_at hb0]; rfl
      have HBw2 := Lib.hid (HBw.out.trans (hb2.mono HBw.out.size))
      have HBX2 := Lib.hid ((hb2.block _ (lt_of_heap HBX.out)).trans HBX.out)
      have HOW2 := Lib.hid (own_below HOW.out hb2)
      have HDG2 := Lib.hid (HDG.out.below hb2)
      have HKX2 := Lib.hid (kx_below HKX.out hb2)
      have HRw := Lib.hid (grow_yes tl en (HT.out.below HBw2.out) HR.out (by rw [HNn.out]; omega))
      clear hb2 hb0 u0 u1 u2 HLn HBX HOW HDG HKX HBw HB0
      go_wp2_with fail
      refine HRw.out.mono ?_; rintro e w3 ⟨rfl, hb3⟩
      simp only at HRo ⊢
      obtain ⟨m, hm⟩ : ∃ m, ms.length = m := ⟨_, rfl⟩
      have hrn : rn = m := HRo.out.1.trans hm
      subst hrn
      obtain ⟨m, hmn⟩ : ∃ m, m = rn := ⟨_, rfl⟩
      subst hmn
      have HM := Lib.hid hm
      have al := t_al w3 (Obj.cells #[.slice ra m rc', .int .i64 re, .bool rb] 103)
      have bb := hb3.trans (al.mono hb3.size)
      have HBw5 := Lib.hid (HBw2.out.trans (bb.mono HBw2.out.size))
      have HBX5 := Lib.hid ((bb.block _ (lt_of_heap HBX2.out)).trans HBX2.out)
      have HOW5 := Lib.hid (own_below HOW2.out bb)
      have HDG5 := Lib.hid (HDG2.out.below bb)
      have HKX5 := Lib.hid (kx_below HKX2.out bb)
      have hfn := heap_alloc_new w3 (Obj.cells #[.slice ra m rc', .int .i64 re, .bool rb] 103)
      clear hb3 al bb v0 v1 v2 HRw HBX2 HOW2 HDG2 HKX2 HBw2 hm
      go_upto_region 6 with fail
      generalize w3.alloc (Obj.cells #[.slice ra m rc', .int .i64 re, .bool rb] 103) = w5 at *
      have hltb : w.heap.size + 2 < w5.heap.size := lt_of_heap HBX5.out
      have hz5 : w1.heap.size ≤ w5.heap.size := HKX5.out.size
      have HPl : Hid (∀ w', Below w5.heap.size w5 w' → Calls Tryz.prog 53 #[.pointer (some ⟨p, 0, none⟩), .agg #[.slice ra m rc', .int .i64 re, .bool rb]] w' fun e' w'' => ∃ a' c', e' = .returned (.agg #[.slice a' m c', .int .i64 re, .bool rb]) ∧ w''.ownsRow w'.heap.size 51 3 (.slice a' m c') m (rcC (ms.map (rc l))) ∧ Below w'.heap.size w' w'') := by
        have h1 := HM.out
        subst h1
        exact Lib.hid (fun w' hb => rplain_of ((HA.out.below HBw5.out).below hb) hl ((HRo.out.2.below HBw5.out).below hb) hcm)
      have hb0 : Below w5.heap.size w5 w5.drew := (Below.refl _ _).drew
      have kb : w5.cell? ⟨w.heap.size + 1 + 1, 0, none⟩ = some (.slice a k c) := by rw [cell_at HBX5.out]; rfl
      have kb0 : w5.drew.cell? ⟨w.heap.size + 1 + 1, 0, none⟩ = some (.slice a k c) := kb
      have c0 : w5.drew.cell? ⟨w3.heap.size, 0, none⟩ = some (.slice ra m rc') := show w5.cell? ⟨w3.heap.size, 0, none⟩ = some (.slice ra m rc') by rw [cell_at hfn]; rfl
      have c1 : w5.drew.cell? ⟨w3.heap.size, 1, none⟩ = some (.int .i64 re) := show w5.cell? ⟨w3.heap.size, 1, none⟩ = some (.int .i64 re) by rw [cell_at hfn]; rfl
      have c2 : w5.drew.cell? ⟨w3.heap.size, 2, none⟩ = some (.bool rb) := show w5.cell? ⟨w3.heap.size, 2, none⟩ = some (.bool rb) by rw [cell_at hfn]; rfl
      clear hfn
      go_region_law (first
        | (refine step_append_lies _ rfl (.tmp 31) (.tmp 35) 33 rfl w1.heap.size 116 i0 (.agg #[.slice none 0 0, .int .i64 0, .bool false]) 3 40 Tryz.underlying33 hi0 hz0 hz1 hz2 rfl (by decide) (.slice a k c) k (cs3 (rws Ds)) rfl HO5.out ⟨w4.heap.size, 0, none⟩ 1 1 [.slice a5 m c5, .int .i64 re, .bool rb] rfl rfl HN5.out HON.out (by decide) (by unfold maxLen; omega) (by omega) HZ5.out _ rfl ?_; intro g6 cap6 w6 ho6 hg6 hat6 hlt6; have HO6 := Lib.hid ho6; have HG6 := Lib.hid hg6; have hh6 := (HG6.out.block (w.heap.size + 1 + 1) (lt_of_heap HH5.out) (fun e' => HNE.out e'.symm)).trans HH5.out; have zz := (fun i => unfrozen hh6 i); have kb6 : w6.cell? ⟨w.heap.size + 1 + 1, 0, none⟩ = some (.slice a k c) := (by rw [cell_at hh6]; rfl); have HH6 := Lib.hid hh6; clear ho6 hg6 hat6 hh6)
        | (go_simp; go_at_call 53; refine (HPl.out _ hb0).mono ?_; rintro e' w4 ⟨a5, c5, rfl, ho5, hb4⟩; have hs4 := hb0.trans (hb4.mono (Nat.le_refl _)); have kb4 := (hs4.cell (p := ⟨w.heap.size + 1 + 1, 0, none⟩) hltb).trans kb; have al4 := t_al w4 (Obj.cells #[.slice a5 m c5, .int .i64 re, .bool rb] 116); have hs5 := hs4.trans (al4.mono hs4.size); have kb5 := (hs5.cell (p := ⟨w.heap.size + 1 + 1, 0, none⟩) hltb).trans kb; have HO5 := Lib.hid ((own_below HOW5.out hs4).alloc (Obj.cells #[.slice a5 m c5, .int .i64 re, .bool rb] 116)); have HN5 := Lib.hid (World.news_of_block (heap_alloc_new w4 (Obj.cells #[.slice a5 m c5, .int .i64 re, .bool rb] 116))); have HH5 := Lib.hid ((hs5.block _ hltb).trans HBX5.out); have HNE := Lib.hid (own_ne HO5.out HH5.out (by decide)); have HON := Lib.hid (one3 a5 m c5 re rb); have HZ5 := Lib.hid (show w1.heap.size ≤ (w4.alloc (Obj.cells #[.slice a5 m c5, .int .i64 re, .bool rb] 116)).heap.size by rw [World.size_alloc]; have := hs4.size; omega); have HS5 := Lib.hid hs5; have HC5 := Lib.hid (own_mono (own_below ho5 al4) (show w1.heap.size ≤ w5.drew.heap.size from hz5)); clear hb4 al4 ho5))
      all_goals
        go_wp2_with fail
        go_roundw
        case rel =>
          have htk : Cs.take (k + 1) = Cs.take k ++ [ms] := by rw [List.take_add_one, HMs.out]; rfl
          refine ⟨k + 1, some ⟨g6, 0, none⟩, cap6, Ds ++ [⟨a5, m, c5, re, rb⟩], rfl, by omega, by rw [List.length_append, HKL.out]; rfl, ?_, ?_, ?_, HAS.out.snoc (r := ⟨ra, m, rc', re, rb⟩) (by rw [HKL.out]; exact HR.out) rfl rfl, ?_⟩
          · rw [show w.heap.size + 2 = w.heap.size + 1 + 1 from rfl, heap_set_at HH6.out]; rfl
          · rw [rws_app, cs3_app]
            exact own_set HO6.out (own_ne HO6.out HH6.out (by decide))
          · rw [htk, List.map_append]
            exact ((((HDG5.out.below HS5.out).grown HO5.out (by decide) HG6.out).snoc (r := ⟨a5, m, c5, re, rb⟩) (L := ms.map (rc l)) (by rw [List.length_map]; exact HM.out.symm) (own_grown HC5.out HO5.out (by decide) HG6.out)).setT HH6.out (by decide))
          · exact kx_set (kx_own (kx_below HKX5.out HS5.out) HG6.out (fun q hq => (HO5.out.lt q hq).1))
        case measure => simp [intOf]; omega
    · have dk : decide (k < n) = false := decide_eq_false hlt
      obtain rfl : k = n := by omega
      have htk : Cs.take k = Cs := by rw [List.take_of_length_le (by have := HGr.out.len; have := HNn.out; omega)]
      have h1 := (HKX.out.block (w.heap.size + 1) (by omega) (by simp)).trans HH1.out
      have H1r := Lib.hid h1
      have hdg := HDG.out
      rw [htk] at hdg
      have HDx := Lib.hid hdg
      clear h1 hdg htk
      go_wp2_with fail
      refine HLn.out.mono ?_; rintro e w2 ⟨rfl, hb2⟩
      have hh1 := (hb2.block _ (lt_of_heap H1r.out)).trans H1r.out
      have hh2 := (hb2.block _ (lt_of_heap HBX.out)).trans HBX.out
      have HHw := Lib.hid hh1
      have zz := fun i => unfrozen hh1 i
      have r0 : w2.cell? ⟨w.heap.size + 1, 0, none⟩ = some (.slice none 0 0) := by rw [cell_at hh1]; rfl
      have r1 : w2.cell? ⟨w.heap.size + 1, 1, none⟩ = some (.bool false) := by rw [cell_at hh1]; rfl
      have r2 : w2.cell? ⟨w.heap.size + 1, 2, none⟩ = some (.int .i64 0) := by rw [cell_at hh1]; rfl
      have x0 : w2.cell? ⟨w.heap.size + 1 + 1, 0, none⟩ = some (.slice a k c) := by rw [cell_at hh2]; rfl
      have x1 : w2.cell? ⟨w.heap.size + 1 + 1, 1, none⟩ = some (.bool tl) := by rw [cell_at hh2]; rfl
      have x2 : w2.cell? ⟨w.heap.size + 1 + 1, 2, none⟩ = some (.int .i64 en) := by rw [cell_at hh2]; rfl
      have HBe := Lib.hid (HBw.out.trans (hb2.mono HBw.out.size))
      have HOe := Lib.hid (own_mono (own_below HOW.out hb2) (show w.heap.size ≤ w1.heap.size by omega))
      have HDe := Lib.hid ((HDx.out.below hb2).mono (show w.heap.size ≤ w1.heap.size by omega))
      clear hh1 hh2 hb2 u0 u1 u2 HLn
      go_wp2_with fail
      obtain ⟨w4, hw4, s0, s1, s2, hb4⟩ := row_set (v0 := .slice a k c) (v1 := .bool tl) (v2 := .int .i64 en) HHw.out HBe.out (Nat.le_succ _)
      have hoe : w4.ownsRow w.heap.size 116 3 (.slice a k c) k (cs3 (rws Ds)) := by
        rw [← hw4]
        have n0 := own_ne HOe.out HHw.out (by decide)
        exact own_set (own_set (own_set HOe.out n0) n0) n0
      have hde : DgIn w4 w.heap.size Ds (Cs.map fun ms => ms.map (rc l)) := by
        rw [← hw4]
        exact ((HDe.out.setT HHw.out (by decide)).setT (heap_set_at HHw.out) (by decide)).setT (heap_set_at (heap_set_at HHw.out)) (by decide)
      rw [hw4]
      exact bodyPost_ret (v := .agg #[.slice a k c, .bool tl, .int .i64 en]) (by simp [results, Tryz.results13, go_sem, s0, s1, s2]) rfl ⟨a, c, Ds, rfl, HKL.out, hoe, hde, HAS.out, hb4⟩
end Go.Proofs.YtkgakgceamafcaaGreat
