/-
  A range over a function, where the iterator ranges over functions itself, or keeps cells of its own: D tells the blocks that are the iterator's (and those of the walks within), which a round leaves as they lie; what a round's word says stands whatever lies in them.
-/
import Derived.Test.YtmjlmciocockpaaLfA
import Derived.Deep.Onto
import Derived.RangeFuncNested
import Derived.RangeFuncBound
import Derived.RangeFuncCalls
import Derived.RangeFuncLeaves
import Derived.Shelf.Abstract
import Derived.Shelf.RegionOpen
import Derived.OwnWalkIn
import Derived.TacticsInMore
import Derived.LoopNIn
import Derived.LoopIn
namespace Go.Proofs.Ytmjlmciocockpaa
open Go Go.RowKit Go.Shelf
set_option linter.unusedVariables false

abbrev Bls := Nat → Prop
/-- Blocks of D have been turned, and new ones made, at most. -/
structure Moves (D : Bls) (W W' : World) : Prop where
  os : W'.os = W.os
  tape : W'.tape = W.tape
  output : W'.output = W.output
  size : W.heap.size ≤ W'.heap.size
  block : ∀ k, k < W.heap.size → ¬ D k → W'.heap[k]? = W.heap[k]?
theorem Moves.below {D : Bls} {W W' : World} (h : Below W.heap.size W W') : Moves D W W' := ⟨h.os, h.tape, h.output, h.size, fun k hk _ => h.block k hk⟩
theorem Moves.put {D : Bls} {W : World} {l : Nat} (o : Obj) (hl : D l) : Moves D W (W.putObj l o) :=
  ⟨(grownBy_putObj' W l o).os, (grownBy_putObj' W l o).tape, (grownBy_putObj' W l o).output, (grownBy_putObj' W l o).size, fun k hk hd => (grownBy_putObj' W l o).block k hk (fun e => by cases e; exact hd hl)⟩
theorem Moves.mono {D D' : Bls} {W W' : World} (h : Moves D W W') (hd : ∀ k, D k → D' k) : Moves D' W W' := ⟨h.os, h.tape, h.output, h.size, fun k hk hn => h.block k hk (fun e => hn (hd k e))⟩
theorem Moves.cell {D : Bls} {W W' : World} (h : Moves D W W') {b : Nat} {o : Nat} (hb : b < W.heap.size) (hd : ¬ D b) : W'.cell? ⟨b, o, none⟩ = W.cell? ⟨b, o, none⟩ := by
  have := h.block b hb hd
  simp only [World.cell?, this]
/-- What the blocks of D hold is as it was. -/
def Same (D : Bls) (W W' : World) : Prop := ∀ k, D k → W'.heap[k]? = W.heap[k]?
theorem Same.refl (D : Bls) (W : World) : Same D W W := fun _ _ => rfl
theorem Same.trans {D : Bls} {W W' W'' : World} (h : Same D W W') (h' : Same D W' W'') : Same D W W'' := fun k hk => (h' k hk).trans (h k hk)
theorem Same.mono {D D' : Bls} {W W' : World} (h : Same D W W') (hd : ∀ k, D' k → D k) : Same D' W W' := fun k hk => h k (hd k hk)
theorem Same.below {D : Bls} {W W' : World} (h : Below W.heap.size W W') (hd : ∀ k, D k → k < W.heap.size) : Same D W W' := fun k hk => h.block k (hd k hk)
theorem Same.cell {D : Bls} {W W' : World} (h : Same D W W') {b : Nat} {o : Nat} (hd : D b) : W'.cell? ⟨b, o, none⟩ = W.cell? ⟨b, o, none⟩ := by
  have := h b hd
  simp only [World.cell?, this]
/-- Those blocks are there. -/
def Have (D : Bls) (W : World) : Prop := ∀ k, D k → k < W.heap.size
/-- What stands whatever the blocks of D are turned into; and new blocks may come to them. -/
def Firm {β : Type} (J : β → Bls → World → Prop) : Prop := ∀ s D D' W W', J s D W → Moves D W W' → (∀ k, D' k → D k ∨ W.heap.size ≤ k) → J s D' W'
theorem Firm.go {β : Type} {J : β → Bls → World → Prop} (h : Firm J) {s : β} {D : Bls} {W W' : World} (hs : J s D W) (hm : Moves D W W') : J s D W' := h s D D W W' hs hm (fun _ hk => .inl hk)
theorem Firm.below {β : Type} {J : β → Bls → World → Prop} (h : Firm J) {s : β} {D : Bls} {W W' : World} (hs : J s D W) (hb : Below W.heap.size W W') : J s D W' := h.go hs (Moves.below hb)
/-- An iterator's contract: whatever the rounds' word is, if it stands firm. -/
def Iter {α : Type} (F : Fence) (n : Nat) (P : Program) (g : Nat) (lb : Array Value) (encs : α → Array Value) (n₀ : Nat) (S Sp : List α → Prop) (N : List α → α → Prop) (D0 : Bls) (w : World) : Prop :=
  ∀ (l : Nat) (J Jx : List α → Bls → World → Prop) (W : World), Below w.heap.size w W → Firm J → Firm Jx →
    (∀ pre x D W1, J pre D W1 → Have D W1 → N pre x → YieldAt F (n - 1) P l (encs x) W1 fun e W' => Same D W1 W' ∧
      ((e = .returned (.bool true) ∧ J (pre ++ [x]) D W' ∧ Below n₀ W1 W') ∨ (e = .returned (.bool false) ∧ Jx (pre ++ [x]) D W'))) →
    J [] D0 W →
    CallsIn F n P g (#[.func (.yield l) #[] #[]] ++ lb) W fun e W' => (∃ v, e = .returned v) ∧ ((∃ xs D, S xs ∧ J xs D W') ∨ (∃ pre D, Sp pre ∧ Jx pre D W'))

/-- What the body of a round owes. -/
def roundPost {α : Type} (n₀ : Nat) (E : Bls) (I : List α → Bls → World → Prop) (Ix : Code → List α → Bls → World → Prop) (s : List α) (U : World) : Exit → Act → World → Prop
  | .normal, _, Z => Same E U Z ∧ Below n₀ U Z ∧ I s E Z
  | .ret, _, Z => Same E U Z ∧ Ix .ret s E Z
  | .exit id, _, Z => Same E U Z ∧ Ix (.exit id) s E Z
  | .goto t, _, Z => Same E U Z ∧ Ix (.goto t) s E Z
  | .panic _, _, _ => False
  | .outgrown, _, _ => False

theorem round_of {α : Type} {F : Fence} {m : Nat} {P : Program} {l n₀ d : Nat} {N : List α → α → Prop} {fn : FuncId} {assign body : Code} {ps : Array Tmp} {tmps : Array Value} {encs : α → Array Value} {W : World} {D : Bls}
    {rec : LoopState → Option Code → Loop} (hrec : rec = fun st pe => { state := st, pending := pe, fn, tmps := tmps, params := ps, assign, body, defers := d })
    (hfn : F.fn fn) (hps : ∀ x, (encs x).size = ps.size) (hn : n₀ ≤ l) (hl : W.heap[l]? = some (.loop (rec .ready none))) (hD : D l) (hbd : Have D W)
    (I : List α → Bls → World → Prop) (Ix : Code → List α → Bls → World → Prop) (hI : Firm I) (hIx : ∀ c, Firm (Ix c)) (Ax : α → Act → Bls → World → Prop)
    (hAx : ∀ x a' E V r o, Ax x a' E V → V.heap[l]? = some (.loop r) → Ax x a' E (V.putObj l o))
    (hassign : ∀ (pre : List α) (x : α) (E : Bls) (W : World) (K : Act → World → Prop), I pre E W → Have E W → (∀ a' E' W', (∀ k, E k → E' k) → Have E' W' → Same E W W' → Below n₀ W W' → I pre E' W' → Ax x a' E' W' → K a' W') →
      assign.wpIn (F.inRound l) m P (Exit.then K (fun _ _ _ => False)) { tmps := (ps.zip (encs x)).foldl (fun t (p, v) => t.setIfInBounds p v) tmps, defers := [] } W)
    (hbody : ∀ (pre : List α) (x : α) (a' : Act) (E : Bls) (W : World), E l → (∃ r, W.heap[l]? = some (.loop r)) → Have E W → I pre E W → Ax x a' E W → N pre x → body.wpIn (F.inRound l) m P (roundPost n₀ E I Ix (pre ++ [x]) W) a' W)
    (pre : List α) (x : α) (hi : I pre D W) (hN : N pre x) :
    YieldAt F m P l (encs x) W fun e W' => (∀ k, D k → k ≠ l → W'.heap[k]? = W.heap[k]?) ∧
      ((e = .returned (.bool true) ∧ I (pre ++ [x]) D W' ∧ W'.heap[l]? = some (.loop (rec .ready none)) ∧ Below n₀ W W') ∨
      (e = .returned (.bool false) ∧ ∃ c, Ix c (pre ++ [x]) D W' ∧ W'.heap[l]? = some (.loop (rec .done (some c))))) := by
  have hy := run_yield (P := P) (args := encs x) hl (by rw [hrec]; exact hps x)
  rw [hrec] at hy
  refine ⟨fn, _, assign, body, hy, roundIn_of_wpIn hfn (hassign pre x D W _ hi hbd fun a' E V hsub hbE hsame hbel hiV hax => ?_)⟩
  have hlV := (hsame l hD).trans hl
  have hEl := hsub l hD
  refine ⟨_, run_beginRound hlV (by rw [hrec]), ?_⟩
  obtain ⟨U, hU⟩ : ∃ U, V.putObj l (.loop { rec .ready none with state := .busy }) = U := ⟨_, rfl⟩
  rw [hU]
  have hlU : U.heap[l]? = some (.loop { rec .ready none with state := .busy }) := by rw [← hU]; exact World.putObj_heap_same (Array.getElem?_eq_some_iff.1 hlV).1
  have hiU : I pre E U := by rw [← hU]; exact hI.go hiV (Moves.put _ hEl)
  have haU : Ax x a' E U := by rw [← hU]; exact hAx _ _ _ _ _ _ hax hlV
  have hbU : Have E U := fun k hk => by rw [← hU]; exact Nat.lt_of_lt_of_le (hbE k hk) (grownBy_putObj' V l _).size
  have put (w1 : World) (o : Obj) : Below n₀ w1 (w1.putObj l o) :=
    ⟨(grownBy_putObj' w1 l o).os, (grownBy_putObj' w1 l o).tape, (grownBy_putObj' w1 l o).output, (grownBy_putObj' w1 l o).size, fun k hk => World.putObj_heap_other (by omega)⟩
  have hbelU : Below n₀ W U := by rw [← hU]; exact hbel.trans (put _ _)
  have saU : ∀ k, D k → k ≠ l → U.heap[k]? = W.heap[k]? := fun k hk hkl => by rw [← hU]; exact (World.putObj_heap_other hkl).trans (hsame k hk)
  refine wpIn_mono (hbody pre x a' E U hEl ⟨_, hlU⟩ hbU hiU haU hN) ?_
  have ends (jump : Option Code) (Z : World) (hk : Same E U Z) :
      (Instr.endRound l jump).run P Z = .ok (.bool jump.isNone) (Z.putObj l (.loop (rec (if jump.isNone then .ready else .done) jump))) ∧
      (Z.putObj l (.loop (rec (if jump.isNone then .ready else .done) jump))).heap[l]? = some (.loop (rec (if jump.isNone then .ready else .done) jump)) ∧
      (∀ k, D k → k ≠ l → (Z.putObj l (.loop (rec (if jump.isNone then .ready else .done) jump))).heap[k]? = W.heap[k]?) := by
    have hlZ := (hk l hEl).trans hlU
    have he := run_endRound (P := P) jump hlZ
    rw [hrec] at he ⊢
    rw [hrec] at hlZ
    exact ⟨he, World.putObj_heap_same (Array.getElem?_eq_some_iff.1 hlZ).1, fun k h1 h2 => (World.putObj_heap_other h2).trans ((hk k (hsub k h1)).trans (saU k h1 h2))⟩
  have away (c : Code) (Z : World) (hk : Same E U Z) (hx : Ix c (pre ++ [x]) E Z) :
      ∃ v Z', (Instr.endRound l (some c)).run P Z = .ok v Z' ∧ ((∀ k, D k → k ≠ l → Z'.heap[k]? = W.heap[k]?) ∧
        ((Ending.returned v = .returned (.bool true) ∧ I (pre ++ [x]) D Z' ∧ Z'.heap[l]? = some (.loop (rec .ready none)) ∧ Below n₀ W Z') ∨
        (Ending.returned v = .returned (.bool false) ∧ ∃ c, Ix c (pre ++ [x]) D Z' ∧ Z'.heap[l]? = some (.loop (rec .done (some c)))))) := by
    obtain ⟨h1, h2, h3⟩ := ends (some c) Z hk
    exact ⟨_, _, h1, h3, .inr ⟨rfl, c, hIx c _ _ _ _ _ hx (Moves.put _ hEl) (fun k h => .inl (hsub k h)), h2⟩⟩
  rintro e a3 Z hp
  cases e with
  | normal =>
    obtain ⟨hk, hb, hx⟩ := hp
    obtain ⟨h1, h2, h3⟩ := ends none Z hk
    exact ⟨_, _, h1, h3, .inl ⟨rfl, hI _ _ _ _ _ hx (Moves.put _ hEl) (fun k h => .inl (hsub k h)), h2, hbelU.trans (hb.trans (put _ _))⟩⟩
  | ret => exact away .ret Z hp.1 hp.2
  | exit id => exact away (.exit id) Z hp.1 hp.2
  | goto t => exact away (.goto t) Z hp.1 hp.2
  | panic ch => exact hp.elim
  | outgrown => exact hp.elim

end Go.Proofs.Ytmjlmciocockpaa
