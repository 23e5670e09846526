/-
  The walk of the statement ArenaSpans, at this seat's numbers.
-/
import Derived.Test.YtmdifcgnmkpecaaArF
import Derived.Deep.RegionHeld3
import Derived.Deep.DeepCutAuto
namespace Go.Proofs.Ytmdifcgnmkpecaa
open Go Go.RowKit
set_option linter.unusedVariables false

def I64 (x : Int) : Prop := -9223372036854775808 ≤ x ∧ x ≤ 9223372036854775807
/-- One of four numbers. -/
def l4 (x y u v : Int) : Nat → Int
  | 0 => x
  | 1 => y
  | 2 => u
  | _ => v

theorem SpB.draw {w : World} {b : Nat} {x y : Int} (h : SpB w b x y) (n : Nat) : SpB (w.drewN n) b x y := ⟨h.blk⟩
theorem bcell {W w1 : World} (hb : Below W.heap.size W w1) : (∀ b o, b < W.heap.size → w1.cell? ⟨b, o, none⟩ = W.cell? ⟨b, o, none⟩) ∧ (∀ b o, b < W.heap.size → w1.frozen? ⟨b, o, none⟩ = W.frozen? ⟨b, o, none⟩) :=
  ⟨fun b o h => hb.cell (p := ⟨b, o, none⟩) h, fun b o h => hb.frozen (p := ⟨b, o, none⟩) h⟩
/-- A contract, said from an older world on. -/
theorem chain_of {W w : World} {f : FuncId} {args : Array Value} {e0 : Ending} (h : Calls Try.prog f args w fun e w' => e = e0 ∧ Below w.heap.size w w') (hw : Below W.heap.size W w) :
    Calls Try.prog f args w fun e w' => e = e0 ∧ Below W.heap.size W w' ∧ Below w.heap.size w w' :=
  h.mono fun _ _ ⟨he, hb⟩ => ⟨he, hw.trans (hb.mono hw.size), hb⟩
theorem cell_set_same {w : World} {p : Addr} {a u : Value} (h : w.cell? p = some a) : (w.setCell p u).cell? p = some u := World.cell?_setCell_same _ _ _ h
theorem two_c0 {w : World} {b : Nat} {a : Value} (h : w.cell? ⟨b, 0, none⟩ = some a) (u v : Value) : ((w.setCell ⟨b, 0, none⟩ u).setCell ⟨b, 1, none⟩ v).cell? ⟨b, 0, none⟩ = some u := by
  rw [World.cell?_setCell_other _ _ _ _ (by simp)]
  exact cell_set_same h
theorem two_c1 {w : World} {b : Nat} {a : Value} (h : w.cell? ⟨b, 1, none⟩ = some a) (u v : Value) : ((w.setCell ⟨b, 0, none⟩ u).setCell ⟨b, 1, none⟩ v).cell? ⟨b, 1, none⟩ = some v := by
  refine cell_set_same (a := a) ?_
  rw [World.cell?_setCell_other _ _ _ _ (by simp)]
  exact h
theorem boxes (w : World) (x y u v : Int) (o3 o4 : Obj) (n : Nat) :
    let W := ((((w.alloc (Obj.cells #[Value.int IntKind.i64 x, Value.int IntKind.i64 y] 39)).alloc (Obj.cells #[Value.int IntKind.i64 u, Value.int IntKind.i64 v] 39)).alloc o3).drewN n).alloc o4
    Below w.heap.size w W ∧ SpB W w.heap.size x y ∧ SpB W (w.heap.size + 1) u v ∧ W.heap[w.heap.size + 3]? = some o4 ∧ W.heap.size = w.heap.size + 4 := by
  have al : ∀ (w : World) o, Below w.heap.size w (w.alloc o) := fun w o => (Below.refl _ w).alloc (Nat.le_refl _) o
  have e := SpB.new (w.alloc (Obj.cells #[Value.int IntKind.i64 x, Value.int IntKind.i64 y] 39)) u v
  rw [World.size_alloc] at e
  refine ⟨(below_draw1 (((al w _).alloc (by simp) _).alloc (by simp; omega) _) n).alloc (by simp; omega) _, ((((SpB.new w x y).below (al _ _)).below (al _ _)).draw n).below (al _ _), ((e.below (al _ _)).draw n).below (al _ _), ?_, by simp⟩
  have := heap_alloc_new ((((w.alloc (Obj.cells #[Value.int IntKind.i64 x, Value.int IntKind.i64 y] 39)).alloc (Obj.cells #[Value.int IntKind.i64 u, Value.int IntKind.i64 v] 39)).alloc o3).drewN n) o4
  simpa using this

end Go.Proofs.Ytmdifcgnmkpecaa
