/-
  Contracts of layer 9, trees of ints: Split; at this seat's numbers.
-/
import Derived.Test.YtofncnommekbjaaTrT
namespace Go.Proofs.Ytofncnommekbjaa
open Go Go.RowKit
set_option linter.unusedVariables false

/-- A place of a row. -/
def heldN (I : Int) (n : Nat) : Nat := if I ≤ 0 then 0 else if (n : Int) ≤ I then n else I.toNat
/-- Two cells that a region reads. -/
def C2 (p q : Addr) (u v : Value) (w : World) : Prop := w.cell? p = some u ∧ w.cell? q = some v
theorem C2.under {g o g' o' : Nat} {u v : Value} {w w' : World} (h : C2 ⟨g, o, none⟩ ⟨g', o', none⟩ u v w) (hb : Below w.heap.size w w') : C2 ⟨g, o, none⟩ ⟨g', o', none⟩ u v w' :=
  ⟨(hb.cell (p := ⟨g, o, none⟩) (World.block_lt_of_cell? _ _ h.1)).trans h.1, (hb.cell (p := ⟨g', o', none⟩) (World.block_lt_of_cell? _ _ h.2)).trans h.2⟩
theorem C2.alloc {g o g' o' : Nat} {u v : Value} {w : World} (h : C2 ⟨g, o, none⟩ ⟨g', o', none⟩ u v w) (x : Obj) : C2 ⟨g, o, none⟩ ⟨g', o', none⟩ u v (w.alloc x) := h.under (t_al w x)
theorem C2.set {g o g' o' B : Nat} {u v x : Value} {w : World} (h : C2 ⟨g, o, none⟩ ⟨g', o', none⟩ u v w) (h1 : Hid (g ≠ B ∧ g' ≠ B)) : C2 ⟨g, o, none⟩ ⟨g', o', none⟩ u v (w.setCell ⟨B, 0, none⟩ x) := by
  refine ⟨?_, ?_⟩
  · rw [World.cell?_of_block (w := w) (w' := w.setCell ⟨B, 0, none⟩ x) (a := ⟨g, o, none⟩) (heap_set_other h1.out.1)]; exact h.1
  · rw [World.cell?_of_block (w := w) (w' := w.setCell ⟨B, 0, none⟩ x) (a := ⟨g', o', none⟩) (heap_set_other h1.out.2)]; exact h.2
/-- Two results stored. -/
theorem two_set {w8 : World} {B n T TT : Nat} {x y : Option Addr} {L M : List Value} (h1 : w8.heap[B]? = some (.cells #[Value.pointer none] TT (0, 0))) (h2 : w8.heap[B + 1]? = some (.cells #[Value.pointer none] TT (0, 0))) (hT : TT ≠ T)
    (H : Tin w8 T (.pointer x) L) (K : Tin w8 T (.pointer y) M) (hg : Gd L) (hg' : Gd M) (hn : n ≤ B) :
    Tin ((w8.setCell ⟨B, 0, none⟩ (.pointer x)).setCell ⟨B + 1, 0, none⟩ (.pointer y)) T (.pointer x) L ∧ Tin ((w8.setCell ⟨B, 0, none⟩ (.pointer x)).setCell ⟨B + 1, 0, none⟩ (.pointer y)) T (.pointer y) M ∧ Below n w8 ((w8.setCell ⟨B, 0, none⟩ (.pointer x)).setCell ⟨B + 1, 0, none⟩ (.pointer y)) ∧
    ((w8.setCell ⟨B, 0, none⟩ (.pointer x)).setCell ⟨B + 1, 0, none⟩ (.pointer y)).cell? ⟨B, 0, none⟩ = some (.pointer x) ∧ ((w8.setCell ⟨B, 0, none⟩ (.pointer x)).setCell ⟨B + 1, 0, none⟩ (.pointer y)).cell? ⟨B + 1, 0, none⟩ = some (.pointer y) := by
  have k1 : (w8.setCell ⟨B, 0, none⟩ (Value.pointer x)).heap[B]? = some (.cells #[Value.pointer x] TT (0, 0)) := by rw [heap_set_at h1]; rfl
  have k2 : (w8.setCell ⟨B, 0, none⟩ (Value.pointer x)).heap[B + 1]? = some (.cells #[Value.pointer none] TT (0, 0)) := (heap_set_other (by omega)).trans h2
  have m1 := (heap_set_other (w := w8.setCell ⟨B, 0, none⟩ (Value.pointer x)) (p := B + 1) (b := B) (o := 0) (u := Value.pointer y) (by omega)).trans k1
  have m2 : ((w8.setCell ⟨B, 0, none⟩ (Value.pointer x)).setCell ⟨B + 1, 0, none⟩ (Value.pointer y)).heap[B + 1]? = some (.cells #[Value.pointer y] TT (0, 0)) := by rw [heap_set_at k2]; rfl
  refine ⟨(H.setNil h1 hT hg).setNil k2 hT hg, (K.setNil h1 hT hg').setNil k2 hT hg', ?_, by rw [cell_at m1]; rfl, by rw [cell_at m2]; rfl⟩
  exact ((Below.refl n w8).setCell (p := ⟨B, 0, none⟩) hn _).setCell (p := ⟨B + 1, 0, none⟩) (by show n ≤ B + 1; omega) _
/-- What Split tells. -/
def SpPost (L : List Value) (k : Nat) (w : World) (e : Ending) (w' : World) : Prop :=
  ∃ x y, e = .returned (.tuple #[.agg #[.pointer x], .agg #[.pointer y]]) ∧ Tin w' 95 (.pointer x) (L.take k) ∧ Tin w' 95 (.pointer y) (L.drop k) ∧ Below w.heap.size w w'
theorem gd_take {L : List Value} (h : Gd L) (k : Nat) : Gd (L.take k) := fun v hv => h v (List.mem_of_mem_take hv)
theorem gd_drop {L : List Value} (h : Gd L) (k : Nat) : Gd (L.drop k) := fun v hv => h v (List.mem_of_mem_drop hv)

set_option maxRecDepth 100000 in
set_option maxHeartbeats 1000000 in
/-- Split at an end. -/
theorem splitend_i {w : World} {pv : Value} {L : List Value} (I : Int) (H : Tin w 95 pv L) (hg : Gd L) (hI : I ≤ 0 ∨ (L.length : Int) ≤ I) :
    Calls Try.prog 18 #[.agg #[pv], .int .i64 I] w (SpPost L (heldN I L.length) w) := by
  obtain ⟨w1, hw1, hb1, hz1, hA, hD, hC⟩ := three_blocks w (Obj.cells #[pv] 27) (Obj.cells #[Value.pointer none] 27) (Obj.cells #[Value.pointer none] 27)
  have HLn := Lib.hid (len_i (H.below hb1))
  have HHw := Lib.hid (H.below hb1)
  obtain ⟨x, rfl⟩ := H.ptr
  have c0 : w1.cell? ⟨w.heap.size, 0, none⟩ = some (.pointer x) := by rw [cell_at hA]; rfl
  have HB := Lib.hid hb1
  have HA := Lib.hid hA
  have HC := Lib.hid hC
  have HD := Lib.hid hD
  by_cases h0 : I ≤ 0
  · have d0 : decide (I ≤ 0) = true := decide_eq_true h0
    have hk : heldN I L.length = 0 := by unfold heldN; rw [if_pos h0]
    rw [hk]
    have zz := fun i => unfrozen hC i
    have r0 : w1.cell? ⟨w.heap.size + 2, 0, none⟩ = some (.pointer none) := by rw [cell_at hC]; rfl
    have zd := fun i => unfrozen hD i
    have r1 : w1.cell? ⟨w.heap.size + 1, 0, none⟩ = some (.pointer none) := by rw [cell_at hD]; rfl
    have k2 : (w1.setCell ⟨w.heap.size + 1, 0, none⟩ (Value.pointer none)).heap[w.heap.size + 2]? = some (.cells #[Value.pointer none] 27 (0, 0)) := (heap_set_other (by omega)).trans hC
    have zk := fun i => unfrozen k2 i
    have rk : (w1.setCell ⟨w.heap.size + 1, 0, none⟩ (Value.pointer none)).cell? ⟨w.heap.size + 2, 0, none⟩ = some (.pointer none) := by rw [cell_at k2]; rfl
    clear hA hD hC hb1 H HLn k2
    go_enter Try.func18, Try.ntmps18
    go_upto_region 2 with fail
    go_region
    all_goals
      go_wp2_with fail
      obtain ⟨q1, q2, q3, q4, q5⟩ := two_set (x := none) (y := x) (n := w.heap.size) (T := 95) (L := []) HD.out HC.out (by decide) (.inl ⟨rfl, rfl⟩) HHw.out (fun v hv => by simp at hv) hg (by omega)
      exact bodyPost_ret (v := .tuple #[.agg #[.pointer none], .agg #[.pointer x]]) (by simp [results, Try.results18, go_sem, q4, q5]) rfl ⟨none, x, rfl, q1.below (Below.refl _ _).drew, q2.below (Below.refl _ _).drew, HB.out.trans q3.drew⟩
  · have d0 : decide (I ≤ 0) = false := decide_eq_false h0
    have hI2 : (L.length : Int) ≤ I := by omega
    have hk : heldN I L.length = L.length := by unfold heldN; rw [if_neg h0, if_pos hI2]
    rw [hk]
    have HTk : Hid (L.take L.length = L ∧ L.drop L.length = []) := Lib.hid ⟨List.take_length, List.drop_length⟩
    generalize L.length = n at *
    have d1 : decide ((n : Int) ≤ I) = true := decide_eq_true hI2
    clear hA hD hC hb1 H
    go_enter Try.func18, Try.ntmps18
    go_upto_region 3 with fail
    go_wp2_with fail
    refine HLn.out.mono ?_; rintro e w2 ⟨rfl, hb2⟩
    have hA := (hb2.block _ (by omega)).trans HA.out
    have hC := (hb2.block _ (by omega)).trans HC.out
    have hD := (hb2.block _ (by omega)).trans HD.out
    have zz := fun i => unfrozen hC i
    have r0 : w2.cell? ⟨w.heap.size + 2, 0, none⟩ = some (.pointer none) := by rw [cell_at hC]; rfl
    have zd := fun i => unfrozen hD i
    have r1 : w2.cell? ⟨w.heap.size + 1, 0, none⟩ = some (.pointer none) := by rw [cell_at hD]; rfl
    have k2 : (w2.setCell ⟨w.heap.size + 1, 0, none⟩ (Value.pointer x)).heap[w.heap.size + 2]? = some (.cells #[Value.pointer none] 27 (0, 0)) := (heap_set_other (by omega)).trans hC
    have zk := fun i => unfrozen k2 i
    have rk : (w2.setCell ⟨w.heap.size + 1, 0, none⟩ (Value.pointer x)).cell? ⟨w.heap.size + 2, 0, none⟩ = some (.pointer none) := by rw [cell_at k2]; rfl
    have rA : w2.cell? ⟨w.heap.size, 0, none⟩ = some (.pointer x) := by rw [cell_at hA]; rfl
    have HT2 := Lib.hid (HHw.out.below hb2)
    have HB2 := Lib.hid (HB.out.trans (hb2.mono (by omega)))
    have HC2 := Lib.hid hC
    have HD2 := Lib.hid hD
    clear hA hD hC hb2 k2 HLn c0
    go_wp2_with fail
    obtain ⟨q1, q2, q3, q4, q5⟩ := two_set (x := x) (y := none) (n := w.heap.size) (T := 95) (M := []) HD2.out HC2.out (by decide) HT2.out (.inl ⟨rfl, rfl⟩) hg (fun v hv => by simp at hv) (by omega)
    exact bodyPost_ret (v := .tuple #[.agg #[.pointer x], .agg #[.pointer none]]) (by simp [results, Try.results18, go_sem, q4, q5]) rfl ⟨x, none, rfl, by rw [HTk.out.1]; exact q1, by rw [HTk.out.2]; exact q2, HB2.out.trans q3⟩

set_option maxRecDepth 100000 in
set_option maxHeartbeats 1000000 in
/-- Split of a leaf. -/
theorem splitleaf_i {w : World} {b i : Nat} {L : List Value} (hin : In w 95 0 (v0 L) b) (hok : Ok 1 0 (v0 L)) (hg : Gd L) (hi0 : 0 < i) (hi : i < L.length) :
    Calls Try.prog 18 #[.agg #[ptr b], .int .i64 i] w (SpPost L i w) := by
  obtain ⟨w1, hw1, hb1, hz1, hA, hD, hC⟩ := three_blocks w (Obj.cells #[ptr b] 27) (Obj.cells #[Value.pointer none] 27) (Obj.cells #[Value.pointer none] 27)
  have hfl : flatL 0 (v0 L) = L := flatL_zero L
  have H1 := hin.below hb1
  have HLn := Lib.hid (len_i (pv := ptr b) (L := L) (.inr ⟨b, 0, v0 L, rfl, H1, hok, hfl.symm⟩))
  have HLf := Lib.hid (fun w' (hb : Below w1.heap.size w1 w') => isleaf_i (H1.below hb))
  obtain ⟨a, c, k0, k1, hsl0⟩ := H1.items
  have hsl : Sl w1 a c L := hsl0
  have k1 : w1.cell? ⟨b, 1, none⟩ = some (.slice a L.length c) := k1
  obtain ⟨g, o, rfl, hgz, _⟩ := hsl.rd.2 (by omega)
  have h6 : 1 ≤ L.length ∧ L.length ≤ 6 := hok.len
  have hcap := hsl.cap
  have c0 : w1.cell? ⟨w.heap.size, 0, none⟩ = some (ptr b) := by rw [cell_at hA]; rfl
  have HB := Lib.hid hb1
  have HA := Lib.hid hA
  have hbz := hin.lt
  obtain ⟨n, hn⟩ : ∃ n, L.length = n := ⟨_, rfl⟩
  have hn6 : n ≤ 6 := by rw [← hn]; exact h6.2
  have HO1 : Hid (∀ w', Below w1.heap.size w1 w' → Calls Try.prog 12 #[.slice (some ⟨g, o, none⟩) i c] w' fun e w'' => ∃ x, e = .returned (.agg #[.pointer x]) ∧ Tin w'' 95 (.pointer x) (L.take i) ∧ Below w'.heap.size w' w'') := by
    refine Lib.hid (fun w' hb => ?_)
    refine (of_i ((hsl.below hb).take i) (by rw [List.length_take]; omega) (by omega) (gd_take hg i)).mono ?_
    rintro e w'' ⟨pv, rfl, hT, hb2⟩
    obtain ⟨x, rfl⟩ := hT.ptr
    exact ⟨x, rfl, hT, hb2⟩
  have HO2 : Hid (∀ w', Below w1.heap.size w1 w' → Calls Try.prog 12 #[.slice (some ⟨g, o + i, none⟩) (n - i) (c - i)] w' fun e w'' => ∃ x, e = .returned (.agg #[.pointer x]) ∧ Tin w'' 95 (.pointer x) (L.drop i) ∧ Below w'.heap.size w' w'') := by
    refine Lib.hid (fun w' hb => ?_)
    refine (of_i ((hsl.below hb).drop (i := i) (by omega) ⟨g, o + i, none⟩ (fun _ => rfl) ⟨g, o + i, rfl⟩) (by rw [List.length_drop, hn]) (by omega) (gd_drop hg i)).mono ?_
    rintro e w'' ⟨pv, rfl, hT, hb2⟩
    obtain ⟨x, rfl⟩ := hT.ptr
    exact ⟨x, rfl, hT, hb2⟩
  rw [hn] at hi hcap HLn k1
  have d0 : decide ((i : Int) ≤ 0) = false := decide_eq_false (by omega)
  have d1 : decide ((n : Int) ≤ (i : Int)) = false := decide_eq_false (by omega)
  have e0 : (0 : Int) ≤ (i : Int) := by omega
  have e1 : (i : Int) ≤ (n : Int) := by omega
  have e2 : (i : Int) ≤ (c : Int) := by omega
  have e3 : (n : Int) ≤ (c : Int) := by omega
  have e4 : ¬ ((c : Int) - (i : Int) = 0) := by omega
  have e5 : c - i ≠ 0 := by omega
  have HGd := Lib.hid (And.intro (gd_take hg i) (gd_drop hg i))
  have hbz1 : b < w1.heap.size := by omega
  have HCD := Lib.hid (And.intro hC hD)
  have hpost : SpPost L i w = SpPost L i w := rfl
  unfold SpPost
  generalize L.take i = LA at *
  generalize L.drop i = LB at *
  clear hin hok hfl H1 hsl0 hsl hn h6 hb1 hA hC hD hpost hg
  go_enter Try.func18, Try.ntmps18
  go_upto_region 3 with fail
  go_wp2_with fail
  refine HLn.out.mono ?_; rintro e w2 ⟨rfl, hb2⟩
  have c0 := (hb2.cell (p := ⟨w.heap.size, 0, none⟩) (by show w.heap.size < _; omega)).trans c0
  have k0 := (hb2.cell (p := ⟨b, 0, none⟩) hbz1).trans k0
  have k1 := (hb2.cell (p := ⟨b, 1, none⟩) hbz1).trans k1
  have HLf2 := Lib.hid (HLf.out w2 hb2)
  have HB2 := Lib.hid hb2
  have HC2 := Lib.hid ((hb2.block _ (by omega)).trans HCD.out.1)
  have HD2 := Lib.hid ((hb2.block _ (by omega)).trans HCD.out.2)
  clear hb2 HLn HLf
  go_wp2_with fail
  refine HLf2.out.mono ?_; rintro e w3 ⟨rfl, rfl⟩
  go_upto_region 6 with fail
  have ld0 := fun w' (h : C2 ⟨w.heap.size, 0, none⟩ ⟨b, 1, none⟩ (ptr b) (.slice (some ⟨g, o, none⟩) n c) w') => h.1
  have ld1 := fun w' (h : C2 ⟨w.heap.size, 0, none⟩ ⟨b, 1, none⟩ (ptr b) (.slice (some ⟨g, o, none⟩) n c) w') => h.2
  have hs0 : C2 ⟨w.heap.size, 0, none⟩ ⟨b, 1, none⟩ (ptr b) (.slice (some ⟨g, o, none⟩) n c) w2.drew := ⟨c0, k1⟩
  have HNE1 : Hid (w.heap.size ≠ w.heap.size + 1 ∧ b ≠ w.heap.size + 1) := Lib.hid ⟨by omega, by omega⟩
  have HNE2 : Hid (w.heap.size ≠ w.heap.size + 2 ∧ b ≠ w.heap.size + 2) := Lib.hid ⟨by omega, by omega⟩
  have HNE3 : Hid (w.heap.size ≠ w.heap.size + 1 + 1 ∧ b ≠ w.heap.size + 1 + 1) := Lib.hid ⟨by omega, by omega⟩
  have HB3 : Hid (Below w1.heap.size w1 w2.drew) := Lib.hid HB2.out.drew
  clear c0 k0 k1
  go_region_held_law (fun w' => C2 ⟨w.heap.size, 0, none⟩ ⟨b, 1, none⟩ (ptr b) (.slice (some ⟨g, o, none⟩) n c) w')
    (first | assumption | exact C2.set (by assumption) (by assumption))
    ((first
      | (go_at_call 12; have XX := HB5; clear XX; refine (HO2.out _ HB5.out).mono ?_; rintro e w6 ⟨x6, rfl, ht6, hb6⟩; have hs6 := hs5.under hb6; have HT6 := Lib.hid ht6; have HT56 := Lib.hid (HT5.out.below hb6); have HB6 := Lib.hid (HB5.out.trans (hb6.mono HB5.out.size)); have hc6 := (hb6.block _ (lt_of_heap HC5.out)).trans HC5.out; have hd6 := (hb6.block _ (lt_of_heap HD5.out)).trans HD5.out; have HC6 := Lib.hid hc6; have HD6 := Lib.hid hd6; have z6 := fun i => unfrozen hd6 i; have l6 : w6.cell? ⟨w.heap.size + 1, 0, none⟩ = some (.pointer none) := (by rw [cell_at hd6]; rfl); have hk6 : (w6.setCell ⟨w.heap.size + 1, 0, none⟩ (Value.pointer x5)).heap[w.heap.size + 2]? = some (.cells #[Value.pointer none] 27 (0, 0)) := (heap_set_other (by omega)).trans hc6; have z7 := fun i => unfrozen hk6 i; have l7 : (w6.setCell ⟨w.heap.size + 1, 0, none⟩ (Value.pointer x5)).cell? ⟨w.heap.size + 2, 0, none⟩ = some (.pointer none) := (by rw [cell_at hk6]; rfl); clear hb6 ht6 hc6 hd6 hk6)
      | (go_at_call 12; refine (HO1.out _ HB3.out).mono ?_; rintro e w5 ⟨x5, rfl, ht5, hb5⟩; have hs5 := hs0.under hb5; have HT5 := Lib.hid ht5; have HB5 := Lib.hid (HB3.out.trans (hb5.mono HB3.out.size)); have HC5 := Lib.hid ((hb5.block _ (lt_of_heap HC2.out)).trans HC2.out); have HD5 := Lib.hid ((hb5.block _ (lt_of_heap HD2.out)).trans HD2.out); clear hb5 ht5)))
  all_goals
    clear ld0 ld1 hs0 hs5 hs6
    go_wp2_with fail
    obtain ⟨q1, q2, q3, q4, q5⟩ := two_set (x := x5) (y := x6) (n := w.heap.size) (T := 95) HD6.out HC6.out (by decide) HT56.out HT6.out HGd.out.1 HGd.out.2 (by omega)
    exact bodyPost_ret (v := .tuple #[.agg #[.pointer x5], .agg #[.pointer x6]]) (by simp [results, Try.results18, go_sem, q4, q5]) rfl ⟨x5, x6, rfl, q1, q2, HB.out.trans ((HB6.out.mono (by omega)).trans q3)⟩

end Go.Proofs.Ytofncnommekbjaa
