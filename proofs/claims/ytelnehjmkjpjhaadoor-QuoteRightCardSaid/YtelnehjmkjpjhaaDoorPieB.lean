/-
  The contract of piece.Of, at this seat's numbers.
-/
import Derived.Test.YtelnehjmkjpjhaaDoorPieA
namespace Go.Proofs.YtelnehjmkjpjhaaDoor
open Go Go.RowKit
set_option linter.unusedVariables false

/-- A span of few bytes, not empty. -/
def Ok1 (q : Int × Int) : Prop := In40 q.1 ∧ In40 q.2 ∧ 1 ≤ q.2

theorem joinS_len (l : List (Int × Int)) (s : Int × Int) : (joinS l s).length ≤ l.length + 1 := by
  unfold joinS
  split
  · omega
  · rcases glue_cases l s with ⟨rfl, h⟩ | ⟨l0, q, rfl, h⟩
    · rw [h]; simp
    · rw [h]; split <;> simp

theorem own_mono {w : World} {B B' n s : Nat} {e : TypeId} {v : Value} {xs : List Value} (h : w.ownsRow B' e s v n xs) (hB : B ≤ B') : w.ownsRow B e s v n xs :=
  ⟨h.1, h.2.imp id fun ⟨g, cap, cur, e1, e2, r⟩ => ⟨g, cap, cur, e1, Nat.le_trans hB e2, r⟩⟩
theorem ofS_take {l : List (Int × Int)} {k : Nat} (h : k < l.length) : ofS (l.take (k + 1)) = joinS (ofS (l.take k)) (l[k].1, l[k].2) := by
  rw [List.take_succ_eq_append_getElem h, ofS_snoc]

theorem lenS_take {l : List (Int × Int)} {k : Nat} (h : k < l.length) : lenS (l.take (k + 1)) = lenS (l.take k) + l[k].2 := by
  rw [List.take_succ_eq_append_getElem h, lenS_append, lenS_one]

end Go.Proofs.YtelnehjmkjpjhaaDoor
