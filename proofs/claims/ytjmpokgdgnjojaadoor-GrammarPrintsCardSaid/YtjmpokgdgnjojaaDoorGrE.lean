/-
  Key of a parser, at this seat's numbers.
-/
import Derived.Test.YtjmpokgdgnjojaaDoorGrD
import Derived.Test.YtjmpokgdgnjojaaDoorFeI
import Derived.Deep.MidRow
namespace Go.Proofs.YtjmpokgdgnjojaaDoor
open Go Go.RowKit
set_option linter.unusedVariables false

/-- What takes the next key comes to. -/
def stepF (st : Option Stp) (c : Cm) (k way : Int) (r : Bool) : Option Stp × Int × Cm :=
  match st with
  | none => begF c k way r
  | some .begin => begF c k way r
  | some .register => regF c k
  | some .letter => letF c k
  | some .behindOp => bopF c k
  | some .behindI => iF c k
  | some .behindG => gF c k way
  | some (.count a n o) => cntF c a n o k way r
def c0M : Cm := ⟨0, 0, 0, 0, 0⟩
/-- A parser: what was begun, what is made, who takes the next key. -/
structure Ps where
  bg : List Int
  c : Cm
  st : Option Stp
def p0M : Ps := ⟨[], c0M, none⟩
/-- What Key comes to. -/
def keyF (S : Ps) (k way : Int) (r : Bool) : (Cm × Int × Int) × Ps :=
  if k = 27 then ((c0M, 0, 0), p0M) else
  let x := stepF S.st S.c k way r
  if x.2.1 = 0 then (match x.1 with
    | some st => ((c0M, 0, 0), ⟨S.bg ++ [k], x.2.2, some st⟩)
    | none => ((x.2.2, 1, 0), p0M)) else ((c0M, 2, x.2.1), p0M)
def stOk : Option Stp → Prop
  | some (.count a n _) => (1 ≤ a ∧ a ≤ 9999) ∧ 0 ≤ n ∧ n ≤ 9999
  | _ => True
/-- A parser at p that has S; v is what was begun. -/
structure PsIn (w : World) (B p : Nat) (v : Value) (S : Ps) : Prop where
  pr : ∃ nx, Pr w p v S.c nx ∧ StV w (fun b => v.ownBlock ≠ some b) nx S.st
  ow : w.ownsRow B 3 1 v S.bg.length (nums S.bg)
  ct : 0 ≤ S.c.ct ∧ S.c.ct ≤ 9999
  ok : stOk S.st
  lo : B ≤ p
/-- What a parser's calls leave as it was. -/
structure KMv (B p : Nat) (v v' : Value) (w w' : World) : Prop where
  low : Below B w w'
  oth : ∀ (k : Nat) (o : Obj), w.heap[k]? = some o → k ≠ p → v.ownBlock ≠ some k → w'.heap[k]? = some o
  new : ∀ b, v'.ownBlock = some b → v.ownBlock = some b ∨ w.heap.size ≤ b
theorem GMv.low' {B p : Nat} {w w' : World} (h : GMv p w w') (hB : B ≤ p) (hw : B ≤ w.heap.size) : Below B w w' :=
  ⟨h.low.os, h.low.tape, h.low.output, h.low.size, fun k hk => h.oth k (Nat.lt_of_lt_of_le hk hw) (by omega)⟩

section
variable {w w' : World} {B p : Nat} {v : Value} {S : Ps}
theorem PsIn.below (H : PsIn w B p v S) (hb : Below w.heap.size w w') : PsIn w' B p v S := by
  obtain ⟨⟨nx, h1, h3⟩, h2, h4, h5, h6⟩ := H
  exact ⟨⟨nx, h1.below hb, h3.gmv (GMv.of_below hb) h1⟩, own_below h2 hb, h4, h5, h6⟩
/-- A step of the parser. -/
theorem take_step (H : PsIn w B p v S) {nx : Value} (h1 : Pr w p v S.c nx) {X : Nat → Prop} (h3 : StV w X nx S.st) (k way : Int) (r : Bool) :
    (S.st = none → Calls Tryd.prog 15 #[cmP p, pressV k way r] w (SRes w p v nx (stepF S.st S.c k way r))) ∧
    (S.st ≠ none → ∃ g lb, nx = .func (.func g) #[] lb ∧ Calls Tryd.prog g (#[cmP p, pressV k way r] ++ lb) w (SRes w p v nx (stepF S.st S.c k way r)) ∧ (∀ args W, (callFunc g args).run Tryd.prog W = .ok (.enter g args) W)) := by
  have hct := H.ct
  have hok := H.ok
  refine ⟨fun e => by rw [e]; exact begin_of h1 hct k way r, fun hne => ?_⟩
  cases hst : S.st with
  | none => exact absurd hst hne
  | some st =>
    rw [hst] at h3 hok
    cases st with
    | begin => exact ⟨_, _, h3, begin_of h1 hct k way r, enters_of Tryd.func15 rfl rfl⟩
    | register => exact ⟨_, _, h3, register_of h1 k way r, enters_of Tryd.func27 rfl rfl⟩
    | letter => exact ⟨_, _, h3, letter_of h1 k way r, enters_of Tryd.func44 rfl rfl⟩
    | behindOp => exact ⟨_, _, h3, behindOp_of h1 hct k way r, enters_of Tryd.func45 rfl rfl⟩
    | behindI => exact ⟨_, _, h3, behindI_of h1 k way r, enters_of Tryd.func59 rfl rfl⟩
    | behindG => exact ⟨_, _, h3, behindG_of h1 k way r, enters_of Tryd.func52 rfl rfl⟩
    | count a n o =>
      obtain ⟨b3, b4, b5, e, hc3, hc4, hc5, _⟩ := h3
      exact ⟨_, _, e, count_of h1 ⟨hc3, hc4, hc5⟩ hct hok.1 hok.2 k way r, enters_of Tryd.func40 rfl rfl⟩

theorem eq_fnil (w : World) : (binOp .eql 42 .nilFunc .nilFunc).run Tryd.prog w = .ok (.bool true) w := by kernel_rfl
theorem eq_fsome (g : Nat) (lb : Array Value) (w : World) : (binOp .eql 42 (.func (.func g) #[] lb) .nilFunc).run Tryd.prog w = .ok (.bool false) w := by kernel_rfl
theorem ne_fnil (w : World) : (binOp .neq 42 .nilFunc .nilFunc).run Tryd.prog w = .ok (.bool false) w := by kernel_rfl
theorem ne_fsome (g : Nat) (lb : Array Value) (w : World) : (binOp .neq 42 (.func (.func g) #[] lb) .nilFunc).run Tryd.prog w = .ok (.bool true) w := by kernel_rfl
abbrev cmV (c : Cm) : Value := .agg #[.int .i64 c.op, .int .i64 c.vb, .int .i64 c.ct, .int .i64 c.rg, .int .i64 c.ch]
abbrev cmO (c : Cm) : Obj := .cells #[.int .i64 c.op, .int .i64 c.vb, .int .i64 c.ct, .int .i64 c.rg, .int .i64 c.ch] 23

set_option maxRecDepth 100000 in
theorem reset_nil (w : World) : Calls Tryd.prog 14 #[.pointer none] w fun e w' => e = .returned (.tuple #[]) ∧ w = w' := by
  go_enter Tryd.func14, Tryd.ntmps14
  go_wp2_with fail
  go_end0
  exact ⟨rfl, rfl⟩
set_option maxRecDepth 100000 in
theorem reset_of {bg nx : Value} {c : Cm} (H : Pr w p bg c nx) : Calls Tryd.prog 14 #[pbox p] w fun e w' => e = .returned (.tuple #[]) ∧ Pr w' p (.slice none 0 0) c0M .nilFunc ∧ GMv p w w' ∧ w'.heap.size = w.heap.size := by
  have HP : Hid (Pr (w.setRow p (prC (.slice none 0 0) c0M .nilFunc)) p (.slice none 0 0) c0M .nilFunc ∧ GMv p w (w.setRow p (prC (.slice none 0 0) c0M .nilFunc)) ∧ (w.setRow p (prC (.slice none 0 0) c0M .nilFunc)).heap.size = w.heap.size) := by
    have hz : (w.setRow p (prC (.slice none 0 0) c0M .nilFunc)).heap.size = w.heap.size := by simp [World.setRow]
    exact ⟨setRow_heap w p _ _ _ _ H, ⟨⟨rfl, rfl, rfl, Nat.le_of_eq hz.symm, fun k hk => absurd hk (Nat.not_lt_zero _)⟩, fun k _ hk => setRow_other w p k _ hk⟩, hz⟩
  have HH := Lib.hid H
  clear H
  go_enter Tryd.func14, Tryd.ntmps14
  go_wp2_with (refine wpList_store_row rfl 44 _ _ rfl p (prC (.slice none 0 0) c0M .nilFunc) rfl rfl 44 _ HH.out (by kernel_rfl) rfl (by kernel_rfl) ?_)
  go_end0
  exact ⟨rfl, HP.out⟩
end
end Go.Proofs.YtjmpokgdgnjojaaDoor
