/-
  Range, All and Index at a tree that is one leaf.
-/
import Derived.Test.YtofncnommekbjaaWkF
namespace Go.Proofs.Ytofncnommekbjaa
open Go Go.RowKit Go.Shelf
set_option linter.unusedVariables false

set_option maxRecDepth 100000 in
set_option maxHeartbeats 2000000 in
theorem range_i {w : World} {b : Nat} {xs : List Int} (HT : Tin w 95 (ptr b) (nums xs)) (hl : xs.length ≤ 1000000) :
    Calls Try.prog 29 #[.agg #[ptr b], .int .i64 0, .int .i64 xs.length] w fun e w' => ∃ w1, Below w.heap.size w w1 ∧ Five w1 b xs.length 69 70 w' ∧ e = .returned (.func (.func 90) #[] #[pbox w1.heap.size, pbox (w1.heap.size + 1), pbox (w1.heap.size + 2), pbox (w1.heap.size + 3), pbox (w1.heap.size + 4)]) := by
  have hh := World.alloc_heap_new w (Obj.cells #[ptr b] 27)
  have al := t_al w (Obj.cells #[ptr b] 27)
  obtain ⟨w1, hw1⟩ : ∃ w1, w.alloc (Obj.cells #[ptr b] 27) = w1 := ⟨_, rfl⟩
  rw [hw1] at hh al
  have c0 : w1.cell? ⟨w.heap.size, 0, none⟩ = some (ptr b) := (cell_at hh 0).trans rfl
  have HR := Lib.hid (thru_i (HT.below al) hl 69 70)
  have AL := Lib.hid al
  clear hh al HT
  go_enter Try.func29, Try.ntmps29
  go_wp2_with fail
  refine HR.out.mono ?_; rintro e w2 ⟨rfl, F5⟩
  go_wp2_with fail
  go_ret
  exact ⟨w1, AL.out, F5, rfl⟩

end Go.Proofs.Ytofncnommekbjaa
