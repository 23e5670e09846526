/-
  The contracts of cell's Write, Put and Same as far as the example and CellBack need them, at this seat's numbers.
-/
import Derived.Test.YtmdifcgnmkpecaaCeA
import Derived.Deep.QuietTactic
import Derived.BigQuiet
namespace Go.Proofs.Ytmdifcgnmkpecaa
open Go Go.RowKit
set_option linter.unusedVariables false

set_option maxRecDepth 100000 in
set_option maxHeartbeats 1000000 in
theorem cwrite_few {w : World} {a0 : Option Addr} {n0 c0 : Nat} {x y : Int} {k : Bool} {a : Option Addr} {n c : Nat} {t : List Int} (z : Value) (hx : Tx w (.slice a n c) t) (hl : t.length ≤ 400) (hn : (canon t).length ≤ 32) :
    Calls Try.prog 26 #[cellV a0 n0 c0 x y k, z, .agg #[.slice a n c]] w fun e w' => e = .returned (.tuple #[cellV a n c 0 0 false, .int .i64 0]) ∧ Below w.heap.size w w' := by
  obtain ⟨w1, hw1⟩ : ∃ w1, w1 = allocs w [Obj.cells #[Value.slice a0 n0 c0, Value.int .i64 x, Value.int .i64 y, Value.bool k] 50, Obj.cells #[Value.slice a n c] 48, Obj.cells #[Value.slice none 0 0, Value.int .i64 0, Value.int .i64 0, Value.bool false] 50] := ⟨_, rfl⟩
  have HB1 : Hid (Below w.heap.size w w1) := by rw [hw1]; exact Lib.hid (allocs_below _ w)
  have hzw : w1.heap.size > w.heap.size + 2 := by rw [hw1, allocs_size]; simp
  have h0 : w1.heap[w.heap.size + 1]? = some (.cells #[Value.slice a n c] 48 (0, 0)) := by rw [hw1]; exact allocs_at _ w 1 _ rfl
  have HH1 : Hid (w1.heap[w.heap.size + 2]? = some (.cells #[Value.slice none 0 0, Value.int .i64 0, Value.int .i64 0, Value.bool false] 50 (0, 0))) := by rw [hw1]; exact Lib.hid (allocs_at _ w 2 _ rfl)
  have k1 : w1.cell? ⟨w.heap.size + 1, 0, none⟩ = some (.slice a n c) := by rw [cell_at h0]; rfl
  have H0 := Lib.hid h0
  have HX1 := Lib.hid (hx.below HB1.out)
  have HL := Lib.hid (tlen_of HX1.out)
  have d : decide ((400 : Int) < (t.length : Int)) = false := decide_eq_false (by omega)
  have d' : decide (400 < t.length) = false := decide_eq_false (by omega)
  clear h0 hx
  go_enter Try.func26, Try.ntmps26
  go_upto_region 1 with fail
  rw [show ((w.alloc (Obj.cells #[Value.slice a0 n0 c0, Value.int .i64 x, Value.int .i64 y, Value.bool k] 50)).alloc (Obj.cells #[Value.slice a n c] 48)).alloc (Obj.cells #[Value.slice none 0 0, Value.int .i64 0, Value.int .i64 0, Value.bool false] 50) = w1 from hw1.symm]
  clear hw1
  go_wp2_with fail
  refine HL.out.mono ?_; rintro e w2 ⟨rfl, hb2⟩
  have HB2 := Lib.hid (HB1.out.trans (hb2.mono (by omega)))
  have HH2 := Lib.hid ((hb2.block _ (by omega)).trans HH1.out)
  have h0 := (hb2.block _ (by omega)).trans H0.out
  have k2 : w2.cell? ⟨w.heap.size + 1, 0, none⟩ = some (.slice a n c) := by rw [cell_at h0]; rfl
  have HX2 := Lib.hid (HX1.out.below hb2)
  have hz2 : w2.heap.size > w.heap.size + 2 := by have := hb2.size; omega
  have HT := Lib.hid (tidy_few z HX2.out hn)
  clear hb2 h0 k1 HL HB1 HH1 H0 HX1 hzw
  go_wp2_with fail
  refine HT.out.mono ?_; rintro e w3 ⟨rfl, hb3⟩
  have al := below_al w3 (Obj.cells #[Value.slice a n c] 48)
  have hb4 := hb3.trans (al.mono hb3.size)
  have HB4 := Lib.hid (HB2.out.trans (hb4.mono (by omega)))
  have HH4 := Lib.hid ((hb4.block _ (by omega)).trans HH2.out)
  have k4 : (w3.alloc (Obj.cells #[Value.slice a n c] 48)).cell? ⟨w3.heap.size, 0, none⟩ = some (.slice a n c) := by rw [cell_at (heap_alloc_new w3 _)]; rfl
  have hz4 : (w3.alloc (Obj.cells #[Value.slice a n c] 48)).heap.size > w.heap.size + 2 := by have := hb4.size; omega
  have HOf := Lib.hid (ceof_of (w := w3.alloc (Obj.cells #[Value.slice a n c] 48)) a n c)
  clear hb3 al hb4 k2 HT HB2 HH2 HX2 hz2
  go_wp2_with fail
  refine HOf.out.mono ?_; rintro e w5 ⟨rfl, hb5⟩
  have HB5 := Lib.hid (HB4.out.trans (hb5.mono (by omega)))
  have hh5 := (hb5.block _ (by omega)).trans HH4.out
  have z5 := fun i => unfrozen hh5 i
  have p0 : w5.cell? ⟨w.heap.size + 1 + 1, 0, none⟩ = some (.slice none 0 0) := by rw [cell_at hh5]; rfl
  have p1 : w5.cell? ⟨w.heap.size + 1 + 1, 1, none⟩ = some (.int .i64 0) := by rw [cell_at hh5]; rfl
  have p2 : w5.cell? ⟨w.heap.size + 1 + 1, 2, none⟩ = some (.int .i64 0) := by rw [cell_at hh5]; rfl
  have p3 : w5.cell? ⟨w.heap.size + 1 + 1, 3, none⟩ = some (.bool false) := by rw [cell_at hh5]; rfl
  have HH5 := Lib.hid hh5
  clear hb5 hh5 HOf HB4 HH4 k4 hz4
  go_wp2_with fail
  have hs := set4_at HH5.out (.slice a n c) (.int .i64 0) (.int .i64 0) (.bool false)
  have hB := set4_below HB5.out (show w.heap.size ≤ w.heap.size + 1 + 1 by omega) (.slice a n c) (.int .i64 0) (.int .i64 0) (.bool false)
  have q0 : (set4 w5 (w.heap.size + 1 + 1) (.slice a n c) (.int .i64 0) (.int .i64 0) (.bool false)).cell? ⟨w.heap.size + 1 + 1, 0, none⟩ = some (.slice a n c) := by rw [cell_at hs]; rfl
  have q1 : (set4 w5 (w.heap.size + 1 + 1) (.slice a n c) (.int .i64 0) (.int .i64 0) (.bool false)).cell? ⟨w.heap.size + 1 + 1, 1, none⟩ = some (.int .i64 0) := by rw [cell_at hs]; rfl
  have q2 : (set4 w5 (w.heap.size + 1 + 1) (.slice a n c) (.int .i64 0) (.int .i64 0) (.bool false)).cell? ⟨w.heap.size + 1 + 1, 2, none⟩ = some (.int .i64 0) := by rw [cell_at hs]; rfl
  have q3 : (set4 w5 (w.heap.size + 1 + 1) (.slice a n c) (.int .i64 0) (.int .i64 0) (.bool false)).cell? ⟨w.heap.size + 1 + 1, 3, none⟩ = some (.bool false) := by rw [cell_at hs]; rfl
  unfold set4 at hB q0 q1 q2 q3
  exact bodyPost_ret (v := .tuple #[cellV a n c 0 0 false, .int .i64 0]) (by simp [results, Try.results26, go_sem, q0, q1, q2, q3]) rfl ⟨rfl, hB⟩

set_option maxRecDepth 100000 in
set_option maxHeartbeats 1000000 in
/-- A kept cell and a written one are not the same. -/
theorem csame_diff {w : World} {a0 a1 : Option Addr} {n0 c0 n1 c1 : Nat} {x0 y0 x1 y1 : Int} (z : Value) :
    Calls Try.prog 29 #[z, cellV a0 n0 c0 x0 y0 true, cellV a1 n1 c1 x1 y1 false] w fun e w' => e = .returned (.bool false) ∧ Below w.heap.size w w' := by
  obtain ⟨w1, hw1⟩ : ∃ w1, w1 = allocs w [Obj.cells #[Value.slice a0 n0 c0, Value.int .i64 x0, Value.int .i64 y0, Value.bool true] 50, Obj.cells #[Value.slice a1 n1 c1, Value.int .i64 x1, Value.int .i64 y1, Value.bool false] 50] := ⟨_, rfl⟩
  have HB1 : Hid (Below w.heap.size w w1) := by rw [hw1]; exact Lib.hid (allocs_below _ w)
  have h0 : w1.heap[w.heap.size]? = some (.cells #[Value.slice a0 n0 c0, Value.int .i64 x0, Value.int .i64 y0, Value.bool true] 50 (0, 0)) := by rw [hw1]; exact allocs_at _ w 0 _ rfl
  have h1 : w1.heap[w.heap.size + 1]? = some (.cells #[Value.slice a1 n1 c1, Value.int .i64 x1, Value.int .i64 y1, Value.bool false] 50 (0, 0)) := by rw [hw1]; exact allocs_at _ w 1 _ rfl
  have k0 : w1.cell? ⟨w.heap.size, 3, none⟩ = some (.bool true) := by rw [cell_at h0]; rfl
  have k1 : w1.cell? ⟨w.heap.size + 1, 3, none⟩ = some (.bool false) := by rw [cell_at h1]; rfl
  have hb0 : Below w1.heap.size w1 w1.drew := (Below.refl _ _).drew
  have ld0 := fun w' (h : Below w1.heap.size w1 w') => (h.cell (p := ⟨w.heap.size, 3, none⟩) (lt_of_heap h0)).trans k0
  have ld1 := fun w' (h : Below w1.heap.size w1 w') => (h.cell (p := ⟨w.heap.size + 1, 3, none⟩) (lt_of_heap h1)).trans k1
  clear h0 h1
  go_enter Try.func29, Try.ntmps29
  go_upto_region 1 with fail
  rw [show (w.alloc (Obj.cells #[Value.slice a0 n0 c0, Value.int .i64 x0, Value.int .i64 y0, Value.bool true] 50)).alloc (Obj.cells #[Value.slice a1 n1 c1, Value.int .i64 x1, Value.int .i64 y1, Value.bool false] 50) = w1 from hw1.symm]
  clear hw1
  go_quiet (fail)
  all_goals
    go_wp2_with fail
    go_ret
    exact ⟨rfl, below_draw1 HB1.out _⟩

end Go.Proofs.Ytmdifcgnmkpecaa
