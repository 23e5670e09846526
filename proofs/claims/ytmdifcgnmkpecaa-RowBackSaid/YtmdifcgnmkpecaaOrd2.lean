/-
  A region that draws its order: what has come up keeps its values, where only what has come up is asked to.
-/
import Derived.Test.YtmdifcgnmkpecaaOrd
namespace Go.Proofs.Ytmdifcgnmkpecaa
open Go Go.RowKit
set_option linter.unusedVariables false

theorem Mid.step2 {md : Region.Mode} {ops : Array Oper} {a0 : Act} {R : Nat → Value → World → Prop} {Inv : Array Bool → World → Prop} {listed : Array Bool} {a : Act} {w w' : World} {i : Nat} {o : Oper} {v : Value}
    (hg : Mid ops a0 R Inv listed a w) (hf : opsFine md ops a0.tmps.size = true) (ho : ops[i]? = some o)
    (hm : ∀ j u, listed.getD j false = true → R j u w → R j u w') (hv : R i v w') (hi : Inv (listed.setIfInBounds i true) w') : Mid ops a0 R Inv (listed.setIfInBounds i true) (a.put o.dst v) w' := by
  have hil : i < listed.size := by rw [hg.full]; exact (Array.getElem?_eq_some_iff.1 ho).1
  refine ⟨?_, ?_, by simp [hg.full], fun d hd => ?_, fun j o' d hj hd hl => ?_, hi⟩
  · cases hx : o.dst <;> simp [Act.put, hg.defers]
  · cases hx : o.dst <;> simp [Act.put, hg.size]
  · have hne := hd i o ho
    cases hx : o.dst with
    | none => simp only [Act.put]; exact hg.old d hd
    | some d' =>
      simp only [Act.put, getD_set]
      rw [if_neg (fun h => hne (by rw [hx, h.1]))]
      exact hg.old d hd
  · rw [listed_set hil] at hl
    by_cases hji : j = i
    · subst hji
      rw [ho] at hj
      injection hj with hj
      subst hj
      rw [hd]
      simp only [Act.put, getD_set]
      rw [if_pos ⟨trivial, by rw [hg.size]; exact fine_in hf ho hd⟩]
      exact hv
    · rw [if_neg hji] at hl
      have h0 := hm j _ hl (hg.val j o' d hj hd hl)
      cases hx : o.dst with
      | none => simp only [Act.put]; exact h0
      | some d' =>
        simp only [Act.put, getD_set]
        rw [if_neg (fun h => hji (fine_one hf hj ho hd (by rw [hx, h.1])))]
        exact h0

theorem Mid.op2 {P : Program} {ops : Array Oper} {Q : Exit → Act → World → Prop} {a0 : Act} {R : Nat → Value → World → Prop} {Inv : Array Bool → World → Prop} {listed : Array Bool} {a : Act} {w : World} {i : Nat} {o : Oper}
    (hg : Mid ops a0 R Inv listed a w) (hf : opsFine .any ops a0.tmps.size = true) (ho : ops[i]? = some o) (hw : Region.wanted o (yielded ops a.tmps) = true)
    (h : ∀ K' : Act → World → Prop, Hid (∀ v w', (∀ j u, listed.getD j false = true → R j u w → R j u w') → R i v w' → Inv (listed.setIfInBounds i true) w' → K' (a.put o.dst v) w') → Oper.wp P o a w K' Q) :
    wpOp P ops Q i (fun a' w' => Mid ops a0 R Inv (listed.setIfInBounds i true) a' w') a w :=
  wpOp_want ho hw (h _ (fun v w' hm hv hi => hg.step2 hf ho hm hv hi))
/-- Another mark than the one that is set. -/
theorem mark_other {L : Array Bool} {i j : Nat} (h : j ≠ i) : (L.setIfInBounds i true).getD j false = L.getD j false := by
  rw [Array.getD_eq_getD_getElem?, Array.getD_eq_getD_getElem?, Array.getElem?_setIfInBounds, if_neg (fun e => h e.symm)]
theorem mark_none (n j : Nat) : (Array.replicate n false).getD j false = false := by
  rw [Array.getD_eq_getD_getElem?, Array.getElem?_replicate]; split <;> rfl
theorem getD_of_ready {L : Array Bool} {j : Nat} (h : L.getD j true = false) : L.getD j false = false := by
  rw [Array.getD_eq_getD_getElem?] at h ⊢
  cases hx : L[j]? with
  | none => rfl
  | some b => rw [hx] at h; simpa using h
/-- The operations of a region. -/
def regOps (n : Nat) : Code → Option (Array Oper)
  | .region id ops _ => if id = n then some ops else none
  | .seq a b => match regOps n a with | some o => some o | none => regOps n b
  | .cond _ a b => match regOps n a with | some o => some o | none => regOps n b
  | .block _ c => regOps n c
  | .loop c => regOps n c
  | .scope c => regOps n c
  | _ => none

end Go.Proofs.Ytmdifcgnmkpecaa
