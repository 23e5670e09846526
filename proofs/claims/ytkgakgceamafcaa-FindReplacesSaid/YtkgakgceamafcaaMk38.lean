/-
  Texts of this seat, put together (a claim holds few texts): OrdI.
-/
import Derived.Test.YtkgakgceamafcaaMk37
import Derived.OrdersIn
import Derived.RangeFuncCalls
import Derived.OwnWalkIn

namespace Go.Proofs.Ytkgakgceamafcaa
open Go Go.RowKit
set_option linter.unusedVariables false

/-- An operation that defers nothing: in the open, and in a round. -/
theorem opIn_of {o : Oper} {l n : Nat} {P : Program} {a : Act} {w : World} {K : Act → World → Prop} {Q : Exit → Act → World → Prop} (hd : ∀ c, o.op ≠ .defer c) (h : Oper.wp P o a w K Q) : Oper.wpIn (Fence.wide.inRound l) n P o a w K Q := by
  unfold Oper.wp at h
  unfold Oper.wpIn
  refine ⟨fun _ _ => trivial, ?_⟩
  rw [Oper.semAt_plain _ _ _ hd]
  generalize (execOp a.eval o).run P w = r at h
  have hw : (Fence.wide.inRound l).depth.isSome = true → 1 ≤ n := fun h => by simp [Fence.wide] at h
  cases r with
  | ok x w' =>
    cases x with
    | value v => exact h
    | skip => exact h
    | defer d => exact h
    | enter f args => exact ⟨hw, CallsIn.inRound l (callsIn_wide.2 h)⟩
    | row row args => exact ⟨hw, fun c cs _ => let ⟨v, w', r, s⟩ := h c cs; ⟨v, w', r, stepsIn_wide.2 s⟩⟩
    | _ => exact h.elim
  | halt x w' =>
    cases x with
    | panic v => exact h
    | _ => exact h.elim

/-- One operation, carried out in the open. -/
def wpOpP (P : Program) (ops : Array Oper) (Q : Exit → Act → World → Prop) (i : Nat) (K : Act → World → Prop) (a : Act) (w : World) : Prop :=
  match ops[i]? with
  | none => K a w
  | some o => if Region.wanted o (yielded ops a.tmps) then o.wp P a w K Q else K (a.put o.dst undef) w

theorem wpAnyIn_inv {l n : Nat} {P : Program} {md : Region.Mode} {ops : Array Oper} {Q : Exit → Act → World → Prop} (hd : ∀ (i : Nat) (o : Oper), ops[i]? = some o → ∀ c, o.op ≠ .defer c) (I : Array Bool → Act → World → Prop)
    (hstep : ∀ i listed a w, I listed a w → i ∈ Region.ready md ops listed → wpOpP P ops Q i (fun a' w' => I (listed.setIfInBounds i true) a' w') a w)
    (hend : ∀ listed a w, I listed a w → Region.ready md ops listed = [] → Q .normal a w) :
    ∀ (fuel : Nat) (listed : Array Bool) (a : Act) (w : World), leftN ops.size listed ≤ fuel → I listed a w → wpAnyIn (Fence.wide.inRound l) n P md ops Q fuel listed a w := by
  intro fuel
  induction fuel with
  | zero =>
    intro listed a w hf hI
    have he : Region.ready md ops listed = [] := by
      rw [List.eq_nil_iff_forall_not_mem]
      intro i hi
      obtain ⟨h1, h2, _⟩ := ready_spec hi
      have := leftN_lt h1 h2
      omega
    exact ⟨he, hend listed a w hI he⟩
  | succ fuel ih =>
    intro listed a w hf hI
    refine ⟨hend listed a w hI, fun i hi => ?_⟩
    obtain ⟨h1, h2, _⟩ := ready_spec hi
    have hlt := leftN_lt h1 h2
    have hs := hstep i listed a w hI hi
    unfold wpOpP at hs
    unfold wpOpIn
    split
    · rename_i e
      rw [e] at hs
      exact ih _ a w (by omega) hs
    · rename_i o e
      rw [e] at hs
      simp only at hs
      split
      · rename_i hw
        rw [if_pos hw] at hs
        exact opIn_of (hd i o e) (Oper.wp_mono (fun a' w' h => ih _ a' w' (by omega) h) hs)
      · rename_i hw
        rw [if_neg hw] at hs
        exact ⟨fun _ _ => trivial, ih _ _ w (by omega) hs⟩

def noDefer (ops : Array Oper) : Bool := ops.all fun o => match o.op with
  | .defer _ => false
  | _ => true
theorem noDefer_at {ops : Array Oper} (h : noDefer ops = true) (i : Nat) (o : Oper) (ho : ops[i]? = some o) (c : _) : o.op ≠ .defer c := fun e => by
  unfold noDefer at h
  rw [Array.all_eq_true'] at h
  have := h o (Array.mem_of_getElem? ho)
  rw [e] at this
  simp at this

/-- THE LAW, in a round. -/
theorem wpIn_region_good {l n : Nat} {P : Program} {id : Nat} {ops : Array Oper} {Q : Exit → Act → World → Prop} {a0 : Act} {w : World} (hm : P.follows .mixedOrders = true) (hnd : noDefer ops = true) (R : Nat → Value → World → Prop) (Inv : Array Bool → World → Prop)
    (hf : opsFine .any ops a0.tmps.size = true) (h0 : Inv (Array.replicate ops.size false) w.drew)
    (hstep : ∀ i listed a w, Mid ops a0 R Inv listed a w → i ∈ Region.ready .any ops listed → wpOpP P ops Q i (fun a' w' => Mid ops a0 R Inv (listed.setIfInBounds i true) a' w') a w)
    (hend : ∀ listed a w, Mid ops a0 R Inv listed a w → (∀ i, i < ops.size → listed.getD i false = true) → Q .normal a w) : (Code.region id ops true).wpIn (Fence.wide.inRound l) n P Q a0 w := by
  refine wpIn_region_any hm (wpAnyIn_inv (noDefer_at hnd) (Mid ops a0 R Inv) hstep (fun listed a w hg hr => hend listed a w hg (fun i hi => ?_)) _ _ a0 _ (leftN_all _) ⟨rfl, rfl, by simp, fun _ _ => rfl, fun i o d hi hd hl => ?_, h0⟩)
  · have := all_listed hr (fine_back hf) i hi
    rw [Array.getD_eq_getD_getElem?] at this ⊢
    cases hx : listed[i]? with
    | some b => rw [hx] at this; simpa using this
    | none =>
      have h1 := Array.getElem?_eq_none_iff.1 hx
      have := hg.full
      omega
  · have hil := (Array.getElem?_eq_some_iff.1 hi).1
    rw [Array.getD_eq_getD_getElem?] at hl
    simp [hil] at hl

theorem Mid.opI {P : Program} {ops : Array Oper} {Q : Exit → Act → World → Prop} {a0 : Act} {R : Nat → Value → World → Prop} {Inv : Array Bool → World → Prop} {listed : Array Bool} {a : Act} {w : World} {i : Nat} {o : Oper}
    (hg : Mid ops a0 R Inv listed a w) (hf : opsFine .any ops a0.tmps.size = true) (ho : ops[i]? = some o) (hw : Region.wanted o (yielded ops a.tmps) = true)
    (h : ∀ K' : Act → World → Prop, Hid (∀ v w', (∀ j u, listed.getD j false = true → R j u w → R j u w') → R i v w' → Inv (listed.setIfInBounds i true) w' → K' (a.put o.dst v) w') → Oper.wp P o a w K' Q) :
    wpOpP P ops Q i (fun a' w' => Mid ops a0 R Inv (listed.setIfInBounds i true) a' w') a w := by
  unfold wpOpP
  rw [ho]
  simp only
  rw [if_pos hw]
  exact h _ (fun v w' hm hv hi => hg.step2 hf ho hm hv hi)
theorem dep_set {md : Region.Mode} {ops : Array Oper} {listed : Array Bool} {i : Nat} {o : Oper} (ho : ops[i]? = some o) (hr : i ∈ Region.ready md ops listed) (j : Nat) (hw : (o.after.any fun e => Region.binds md e && e.on == j) = true) : listed.getD j false = true := by
  obtain ⟨_, _, h⟩ := ready_spec hr
  rw [Array.any_eq_true'] at hw
  obtain ⟨e, he, hb⟩ := hw
  rw [Bool.and_eq_true, beq_iff_eq] at hb
  rw [← hb.2]
  exact h o ho e he hb.1
theorem mark_self {L : Array Bool} {i : Nat} (h : i < L.size) : (L.setIfInBounds i true).getD i false = true := by
  rw [Array.getD_eq_getD_getElem?, Array.getElem?_setIfInBounds, if_pos rfl, if_pos h]; rfl
theorem mark_on {L : Array Bool} {i j : Nat} (h : L.getD j false = true) : (L.setIfInBounds i true).getD j false = true := by
  by_cases e : j = i
  · subst e
    refine mark_self ?_
    rcases Nat.lt_or_ge j L.size with h' | h'
    · exact h'
    · rw [Array.getD_eq_getD_getElem?, Array.getElem?_eq_none h'] at h; cases h
  · rw [mark_other e]; exact h
/-- The operations of a region, in the body of a range over a function too. -/
def regOpsF (n : Nat) : Code → Option (Array Oper)
  | .region id ops _ => if id = n then some ops else none
  | .seq a b => match regOpsF n a with | some o => some o | none => regOpsF n b
  | .cond _ a b => match regOpsF n a with | some o => some o | none => regOpsF n b
  | .block _ c => regOpsF n c
  | .loop c => regOpsF n c
  | .scope c => regOpsF n c
  | .rangeFunc _ _ a b => match regOpsF n a with | some o => some o | none => regOpsF n b
  | _ => none

end Go.Proofs.Ytkgakgceamafcaa
