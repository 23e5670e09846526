/-
  A range over such an iterator of pairs, where the round's two variables are slots of the frame: no frame need be written out.
-/
import Derived.Test.YtofncnommekbjaaWkC
namespace Go.Proofs.Ytofncnommekbjaa
open Go Go.RowKit Go.Shelf
set_option linter.unusedVariables false

/-- The frame of a round: the pair in the law's slots and in the variables'. -/
def two (a : Act) (ps : Array Tmp) (s1 s2 : Nat) (x : Nat × Int) : Act :=
  { tmps := (((ps.zip (encP x)).foldl (fun t (p, v) => t.setIfInBounds p v) a.tmps).setIfInBounds s1 (.int .i64 (x.1 : Int))).setIfInBounds s2 (.int .i64 x.2), defers := [] }

theorem range_two {F : Fence} {n : Nat} {P : Program} {g : Operand} {ps : Array Tmp} {assign body : Code} {Q : Exit → Act → World → Prop} {a : Act} {w : World}
    (hro : F.round = none) (h1 : F.depth.isSome = true → 1 ≤ n) {gf : Nat} {lb : Array Value} (hg : a.eval g = .func (.func gf) #[] lb) (hFg : F.fn gf) (eg : ∀ args w, (callFunc gf args).run P w = .ok (.enter gf args) w)
    {n₀ : Nat} {S Sp : List (Nat × Int) → Prop} {N : List (Nat × Int) → Nat × Int → Prop} {D0 : Bls} {w0 : World} (hseq : Iter F (n - 1) P gf lb encP n₀ S Sp N D0 w0) (hn : n₀ ≤ w.heap.size) (hb0 : Below w0.heap.size w0 w) (hD0 : Have D0 w) (hps : ps.size = 2) (s1 s2 : Nat)
    (I : List (Nat × Int) → Bls → World → Prop) (Ix : Code → List (Nat × Int) → Bls → World → Prop) (hI : Firm I) (hIx : ∀ c, Firm (Ix c)) (h0 : I [] D0 w)
    (hassign : ∀ (l : Nat) (x : Nat × Int) (W : World) (K : Act → World → Prop), K (two a ps s1 s2 x) W →
      assign.wpIn (F.inRound l) (n - 1 - 1) P (Exit.then K (fun _ _ _ => False)) { tmps := (ps.zip (encP x)).foldl (fun t (p, v) => t.setIfInBounds p v) a.tmps, defers := [] } W)
    (hbody : ∀ (l : Nat) (pre : List (Nat × Int)) (x : Nat × Int) (E : Bls) (W : World), Have E W → I pre E W → N pre x → body.wpIn (F.inRound l) (n - 1 - 1) P (roundPost n₀ E I Ix (pre ++ [x]) W) (two a ps s1 s2 x) W)
    (hdone : ∀ (d : Nat) (xs : List (Nat × Int)) (E : Bls) (W : World), w.heap.size ≤ d → E d → S xs → I xs E W → W.heap[d]? = some (.deferred (some [])) → Q .normal { a with defers := { target := .collected d, args := #[] } :: a.defers } W)
    (hstop : ∀ (d : Nat) (c : Code) (pre : List (Nat × Int)) (E : Bls) (W : World), w.heap.size ≤ d → E d → Sp pre → Ix c pre E W → W.heap[d]? = some (.deferred (some [])) → c.wpIn F n P Q { a with defers := { target := .collected d, args := #[] } :: a.defers } W) :
    (Code.rangeFunc g ps assign body).wpIn F n P Q a w :=
  range_outer hro h1 hg hFg eg hseq hn hb0 hD0 (fun x => by rw [hps]; rfl) I Ix hI hIx h0 (fun x a' _ _ => a' = two a ps s1 s2 x) (fun x a' E V l r o h _ => h)
    (fun l pre x E W K _ hi hE hK => hassign l x W K (hK _ E W (fun _ h => h) hE (Same.refl _ _) (Below.refl _ _) hi rfl))
    (fun l pre x a' E W _ _ hE hi ha hN => by rw [ha]; exact hbody l pre x E W hE hi hN) hdone hstop

/-- A range whose ends, broken off or not, come to one. -/
theorem range_join {F : Fence} {n : Nat} {P : Program} {g : Operand} {ps : Array Tmp} {assign body : Code} {Q : Exit → Act → World → Prop} {id : Nat} {a : Act} {w : World}
    (hro : F.round = none) (h1 : F.depth.isSome = true → 1 ≤ n) {gf : Nat} {lb : Array Value} (hg : a.eval g = .func (.func gf) #[] lb) (hFg : F.fn gf) (eg : ∀ args w, (callFunc gf args).run P w = .ok (.enter gf args) w)
    {n₀ : Nat} {S Sp : List (Nat × Int) → Prop} {N : List (Nat × Int) → Nat × Int → Prop} {D0 : Bls} {w0 : World} (hseq : Iter F (n - 1) P gf lb encP n₀ S Sp N D0 w0) (hn : n₀ ≤ w.heap.size) (hb0 : Below w0.heap.size w0 w) (hD0 : Have D0 w) (hps : ps.size = 2) (s1 s2 : Nat)
    (I : List (Nat × Int) → Bls → World → Prop) (Ix : Code → List (Nat × Int) → Bls → World → Prop) (Fin : World → Prop) (hI : Firm I) (hIx : ∀ c, Firm (Ix c)) (h0 : I [] D0 w)
    (hd : ∀ xs E W, S xs → I xs E W → Fin W) (hs : ∀ c pre E W, Sp pre → Ix c pre E W → c = .exit id ∧ Fin W)
    (hassign : ∀ (l : Nat) (x : Nat × Int) (W : World) (K : Act → World → Prop), K (two a ps s1 s2 x) W →
      assign.wpIn (F.inRound l) (n - 1 - 1) P (Exit.then K (fun _ _ _ => False)) { tmps := (ps.zip (encP x)).foldl (fun t (p, v) => t.setIfInBounds p v) a.tmps, defers := [] } W)
    (hbody : ∀ (l : Nat) (pre : List (Nat × Int)) (x : Nat × Int) (E : Bls) (W : World), Have E W → I pre E W → N pre x → body.wpIn (F.inRound l) (n - 1 - 1) P (roundPost n₀ E I Ix (pre ++ [x]) W) (two a ps s1 s2 x) W)
    (hend : ∀ (d : Nat) (W : World), w.heap.size ≤ d → Fin W → W.heap[d]? = some (.deferred (some [])) → Q .normal { a with defers := { target := .collected d, args := #[] } :: a.defers } W) :
    (Code.rangeFunc g ps assign body).wpIn F n P (Exit.inBlock id Q) a w :=
  range_two hro h1 hg hFg eg hseq hn hb0 hD0 hps s1 s2 I Ix hI hIx h0 hassign hbody
    (fun d xs E W hl _ hS hi hK => hend d W hl (hd xs E W hS hi) hK)
    (fun d c pre E W hl _ hS hi hK => by
      obtain ⟨rfl, hf⟩ := hs c pre E W hS hi
      refine wpIn_exit ?_
      simp only [Exit.inBlock, if_true]
      exact hend d W hl hf hK)

end Go.Proofs.Ytofncnommekbjaa
