/-
  The contracts of bytes.Equal and of cell's Same in full, at this seat's numbers.
-/
import Derived.Test.YtmdifcgnmkpecaaCeE
import Derived.Deep.RegionHeld3
import Derived.Deep.QuietTactic
import Derived.BigQuiet
namespace Go.Proofs.Ytmdifcgnmkpecaa
open Go Go.RowKit
set_option linter.unusedVariables false

theorem strOf_beq (l m : List UInt8) : ((strOf l).toList == (strOf m).toList) = decide (l = m) := by
  have e : ∀ l, (strOf l).toList = l := fun l => by rw [ByteArray.toList_eq]; rfl
  rw [e, e]
  by_cases h : l = m
  · subst h; simp
  · rw [decide_eq_false h]; simpa using h

set_option maxRecDepth 100000 in
theorem bequal_of {w : World} {B1 B2 : Nat} {a1 a2 : Option Addr} {c1 c2 : Nat} {l m : List UInt8} (h1 : w.ownsRow B1 5 1 (.slice a1 l.length c1) l.length (bc l)) (h2 : w.ownsRow B2 5 1 (.slice a2 m.length c2) m.length (bc m)) :
    Calls Try.prog 67 #[.slice a1 l.length c1, .slice a2 m.length c2] w fun e w' => e = .returned (.bool (decide (l = m))) ∧ w = w' := by
  have s1 := string_own h1
  have s2 := string_own h2
  have HQ := Lib.hid (strOf_beq l m)
  clear h1 h2
  generalize strOf l = x at *
  generalize strOf m = y at *
  generalize decide (l = m) = r at *
  generalize l.length = n1 at *
  generalize m.length = n2 at *
  go_enter Try.func67, Try.ntmps67
  go_wp2_with fail
  go_ret
  exact ⟨by rw [HQ.out] <;> rfl, rfl⟩

set_option maxRecDepth 100000 in
set_option maxHeartbeats 2000000 in
/-- Two written cells are the same if their bytes are; two kept ones, if their raw bytes are, too. -/
theorem csame_alike {w : World} {B p : Nat} {l : List UInt8} {a0 a1 : Option Addr} {n0 c0 n1 c1 : Nat} {x0 y0 x1 y1 : Int} {t0 t1 : List Int} (k : Bool) (h : Ar w B p l) (hl : l.length ≤ 16384) (hx0 : Tx w (.slice a0 n0 c0) t0) (hx1 : Tx w (.slice a1 n1 c1) t1) (hi0 : InL l t0) (hi1 : InL l t1) :
    Calls Try.prog 29 #[.pointer (some ⟨p, 0, none⟩), cellV a0 n0 c0 x0 y0 k, cellV a1 n1 c1 x1 y1 k] w fun e w' => e = .returned (.bool (decide (atL l t0 = atL l t1) && (!k || decide (subL l x0 y0 = subL l x1 y1)))) ∧ Below w.heap.size w w' := by
  obtain ⟨w1, hw1⟩ : ∃ w1, w1 = allocs w [Obj.cells #[Value.slice a0 n0 c0, Value.int .i64 x0, Value.int .i64 y0, Value.bool k] 50, Obj.cells #[Value.slice a1 n1 c1, Value.int .i64 x1, Value.int .i64 y1, Value.bool k] 50] := ⟨_, rfl⟩
  have HB1 : Hid (Below w.heap.size w w1) := by rw [hw1]; exact Lib.hid (allocs_below _ w)
  have hzw : w1.heap.size > w.heap.size + 1 := by rw [hw1, allocs_size]; simp
  have h0 : w1.heap[w.heap.size]? = some (.cells #[Value.slice a0 n0 c0, Value.int .i64 x0, Value.int .i64 y0, Value.bool k] 50 (0, 0)) := by rw [hw1]; exact allocs_at _ w 0 _ rfl
  have h1 : w1.heap[w.heap.size + 1]? = some (.cells #[Value.slice a1 n1 c1, Value.int .i64 x1, Value.int .i64 y1, Value.bool k] 50 (0, 0)) := by rw [hw1]; exact allocs_at _ w 1 _ rfl
  have ld00 := fun w' (h : Below w1.heap.size w1 w') => (h.cell (p := ⟨w.heap.size, 0, none⟩) (by simp only; omega)).trans (show w1.cell? ⟨w.heap.size, 0, none⟩ = some (.slice a0 n0 c0) by rw [cell_at h0]; rfl)
  have ld01 := fun w' (h : Below w1.heap.size w1 w') => (h.cell (p := ⟨w.heap.size, 1, none⟩) (by simp only; omega)).trans (show w1.cell? ⟨w.heap.size, 1, none⟩ = some (.int .i64 x0) by rw [cell_at h0]; rfl)
  have ld02 := fun w' (h : Below w1.heap.size w1 w') => (h.cell (p := ⟨w.heap.size, 2, none⟩) (by simp only; omega)).trans (show w1.cell? ⟨w.heap.size, 2, none⟩ = some (.int .i64 y0) by rw [cell_at h0]; rfl)
  have ld03 := fun w' (h : Below w1.heap.size w1 w') => (h.cell (p := ⟨w.heap.size, 3, none⟩) (by simp only; omega)).trans (show w1.cell? ⟨w.heap.size, 3, none⟩ = some (.bool k) by rw [cell_at h0]; rfl)
  have ld10 := fun w' (h : Below w1.heap.size w1 w') => (h.cell (p := ⟨w.heap.size + 1, 0, none⟩) (by simp only; omega)).trans (show w1.cell? ⟨w.heap.size + 1, 0, none⟩ = some (.slice a1 n1 c1) by rw [cell_at h1]; rfl)
  have ld11 := fun w' (h : Below w1.heap.size w1 w') => (h.cell (p := ⟨w.heap.size + 1, 1, none⟩) (by simp only; omega)).trans (show w1.cell? ⟨w.heap.size + 1, 1, none⟩ = some (.int .i64 x1) by rw [cell_at h1]; rfl)
  have ld12 := fun w' (h : Below w1.heap.size w1 w') => (h.cell (p := ⟨w.heap.size + 1, 2, none⟩) (by simp only; omega)).trans (show w1.cell? ⟨w.heap.size + 1, 2, none⟩ = some (.int .i64 y1) by rw [cell_at h1]; rfl)
  have ld13 := fun w' (h : Below w1.heap.size w1 w') => (h.cell (p := ⟨w.heap.size + 1, 3, none⟩) (by simp only; omega)).trans (show w1.cell? ⟨w.heap.size + 1, 3, none⟩ = some (.bool k) by rw [cell_at h1]; rfl)
  have HF0 := Lib.hid (fun w' (hb : Below w1.heap.size w1 w') => cbytes_of x0 y0 k (h.below (HB1.out.trans (hb.mono (by omega)))) hl (hx0.below (HB1.out.trans (hb.mono (by omega)))) hi0)
  have HF1 := Lib.hid (fun w' (hb : Below w1.heap.size w1 w') => cbytes_of x1 y1 k (h.below (HB1.out.trans (hb.mono (by omega)))) hl (hx1.below (HB1.out.trans (hb.mono (by omega)))) hi1)
  have HG0 := Lib.hid (fun w' (hb : Below w1.heap.size w1 w') => abytes_of (h.below (HB1.out.trans (hb.mono (by omega)))) hl x0 y0)
  have HG1 := Lib.hid (fun w' (hb : Below w1.heap.size w1 w') => abytes_of (h.below (HB1.out.trans (hb.mono (by omega)))) hl x1 y1)
  have hb0 : Below w1.heap.size w1 w1.drew := (Below.refl _ _).drew
  generalize atL l t0 = f0 at *
  generalize atL l t1 = f1 at *
  generalize subL l x0 y0 = r0 at *
  generalize subL l x1 y1 = r1 at *
  clear h hx0 hx1 h0 h1 hi0 hi1
  have HEq := Lib.hid (fun (w' : World) (B1 B2 : Nat) (b1 b2 : Option Addr) (d1 d2 : Nat) (z1 : w'.ownsRow B1 5 1 (.slice b1 f0.length d1) f0.length (bc f0)) (z2 : w'.ownsRow B2 5 1 (.slice b2 f1.length d2) f1.length (bc f1)) => bequal_of z1 z2)
  have HEr := Lib.hid (fun (w' : World) (B1 B2 : Nat) (b1 b2 : Option Addr) (d1 d2 : Nat) (z1 : w'.ownsRow B1 5 1 (.slice b1 r0.length d1) r0.length (bc r0)) (z2 : w'.ownsRow B2 5 1 (.slice b2 r1.length d2) r1.length (bc r1)) => bequal_of z1 z2)
  generalize decide (f0 = f1) = q at *
  generalize decide (r0 = r1) = qr at *
  go_enter Try.func29, Try.ntmps29
  go_upto_region 1 with fail
  rw [show (w.alloc (Obj.cells #[Value.slice a0 n0 c0, Value.int .i64 x0, Value.int .i64 y0, Value.bool k] 50)).alloc (Obj.cells #[Value.slice a1 n1 c1, Value.int .i64 x1, Value.int .i64 y1, Value.bool k] 50) = w1 from hw1.symm]
  clear hw1
  cases k with
  | false =>
    go_region_held3 (fun w' => Below w1.heap.size w1 w')
      (first | assumption)
      ((first
        | (go_at_call 67; refine (HEq.out w3 _ _ _ _ _ _ HO23.out HO3.out).mono ?_; rintro e w4 ⟨rfl, rfl⟩)
        | (go_at_call 52; have y := hs2; clear y; refine (HF1.out w2 hs2).mono ?_; rintro e w3 ⟨b3, d3, rfl, ho3, hb3⟩; have HO3 := Lib.hid ho3; have HO23 := Lib.hid (own_below HO2.out hb3); have hs3 := hs2.trans (hb3.mono hs2.size); clear ho3 hb3)
        | (go_at_call 52; refine (HF0.out _ (by assumption)).mono ?_; rintro e w2 ⟨b2, d2, rfl, ho2, hb2⟩; have HO2 := Lib.hid ho2; have hs2 := hb0.trans (hb2.mono hb0.size); clear ho2 hb2)))
    cases q
    · go_wp2_with fail
      go_ret
      exact ⟨rfl, HB1.out.trans (hs3.mono (by omega))⟩
    · have hd3 := hs3.drew
      clear HF0 HF1 HEq HO2 HO3 HO23 hb0 hs2
      go_upto_region 3 with fail
      go_quiet (fail)
      all_goals
        go_wp2_with fail
        go_ret
        exact ⟨by simp, HB1.out.trans (Below.mono (by first | exact hd3 | exact below_draw1 hs3 _) (by omega))⟩
  | true =>
    go_region_held3 (fun w' => Below w1.heap.size w1 w')
      (first | assumption)
      ((first
        | (go_at_call 67; refine (HEq.out w3 _ _ _ _ _ _ HO23.out HO3.out).mono ?_; rintro e w4 ⟨rfl, rfl⟩)
        | (go_at_call 52; have y := hs2; clear y; refine (HF1.out w2 hs2).mono ?_; rintro e w3 ⟨b3, d3, rfl, ho3, hb3⟩; have HO3 := Lib.hid ho3; have HO23 := Lib.hid (own_below HO2.out hb3); have hs3 := hs2.trans (hb3.mono hs2.size); clear ho3 hb3)
        | (go_at_call 52; refine (HF0.out _ (by assumption)).mono ?_; rintro e w2 ⟨b2, d2, rfl, ho2, hb2⟩; have HO2 := Lib.hid ho2; have hs2 := hb0.trans (hb2.mono hb0.size); clear ho2 hb2)))
    cases q
    · go_wp2_with fail
      go_ret
      exact ⟨rfl, HB1.out.trans (hs3.mono (by omega))⟩
    · have hd3 := hs3.drew
      clear HF0 HF1 HEq HO2 HO3 HO23 hb0 hs2
      go_upto_region 3 with fail
      go_region_held3 (fun w' => Below w1.heap.size w1 w')
       (first | assumption)
       ((first
         | (go_at_call 67; refine (HEr.out w6 _ _ _ _ _ _ HO56.out HO6.out).mono ?_; rintro e w7 ⟨rfl, rfl⟩)
         | (go_at_call 53; have y := hs5; clear y; refine (HG1.out w5 hs5).mono ?_; rintro e w6 ⟨b6, d6, rfl, ho6, hb6⟩; have HO6 := Lib.hid ho6; have HO56 := Lib.hid (own_below HO5.out hb6); have hs6 := hs5.trans (hb6.mono hs5.size); clear ho6 hb6)
         | (go_at_call 53; refine (HG0.out _ hd3).mono ?_; rintro e w5 ⟨b5, d5, rfl, ho5, hb5⟩; have HO5 := Lib.hid ho5; have hs5 := hd3.trans (hb5.mono hd3.size); clear ho5 hb5)))
      go_wp2_with fail
      go_ret
      exact ⟨by simp, HB1.out.trans (hs6.mono (by omega))⟩

set_option maxRecDepth 100000 in
set_option maxHeartbeats 1000000 in
/-- A written cell and a kept one are not the same. -/
theorem csame_diff2 {w : World} {a0 a1 : Option Addr} {n0 c0 n1 c1 : Nat} {x0 y0 x1 y1 : Int} (z : Value) :
    Calls Try.prog 29 #[z, cellV a0 n0 c0 x0 y0 false, cellV a1 n1 c1 x1 y1 true] w fun e w' => e = .returned (.bool false) ∧ Below w.heap.size w w' := by
  obtain ⟨w1, hw1⟩ : ∃ w1, w1 = allocs w [Obj.cells #[Value.slice a0 n0 c0, Value.int .i64 x0, Value.int .i64 y0, Value.bool false] 50, Obj.cells #[Value.slice a1 n1 c1, Value.int .i64 x1, Value.int .i64 y1, Value.bool true] 50] := ⟨_, rfl⟩
  have HB1 : Hid (Below w.heap.size w w1) := by rw [hw1]; exact Lib.hid (allocs_below _ w)
  have h0 : w1.heap[w.heap.size]? = some (.cells #[Value.slice a0 n0 c0, Value.int .i64 x0, Value.int .i64 y0, Value.bool false] 50 (0, 0)) := by rw [hw1]; exact allocs_at _ w 0 _ rfl
  have h1 : w1.heap[w.heap.size + 1]? = some (.cells #[Value.slice a1 n1 c1, Value.int .i64 x1, Value.int .i64 y1, Value.bool true] 50 (0, 0)) := by rw [hw1]; exact allocs_at _ w 1 _ rfl
  have k0 : w1.cell? ⟨w.heap.size, 3, none⟩ = some (.bool false) := by rw [cell_at h0]; rfl
  have k1 : w1.cell? ⟨w.heap.size + 1, 3, none⟩ = some (.bool true) := by rw [cell_at h1]; rfl
  have hb0 : Below w1.heap.size w1 w1.drew := (Below.refl _ _).drew
  have ld0 := fun w' (h : Below w1.heap.size w1 w') => (h.cell (p := ⟨w.heap.size, 3, none⟩) (lt_of_heap h0)).trans k0
  have ld1 := fun w' (h : Below w1.heap.size w1 w') => (h.cell (p := ⟨w.heap.size + 1, 3, none⟩) (lt_of_heap h1)).trans k1
  clear h0 h1
  go_enter Try.func29, Try.ntmps29
  go_upto_region 1 with fail
  rw [show (w.alloc (Obj.cells #[Value.slice a0 n0 c0, Value.int .i64 x0, Value.int .i64 y0, Value.bool false] 50)).alloc (Obj.cells #[Value.slice a1 n1 c1, Value.int .i64 x1, Value.int .i64 y1, Value.bool true] 50) = w1 from hw1.symm]
  clear hw1
  go_quiet (fail)
  all_goals
    go_wp2_with fail
    go_ret
    exact ⟨rfl, below_draw1 HB1.out _⟩

end Go.Proofs.Ytmdifcgnmkpecaa
