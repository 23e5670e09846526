/-
  The two laws for ranges over such iterators: in a function's own body, and in the body of another such loop.
-/
import Derived.Test.YtmjlmciocockpaaLqA
namespace Go.Proofs.Ytmjlmciocockpaa
open Go Go.RowKit Go.Shelf
set_option linter.unusedVariables false

theorem lt_of_at {w : World} {k : Nat} {o : Obj} (h : w.heap[k]? = some o) : k < w.heap.size := (Array.getElem?_eq_some_iff.1 h).1

theorem range_outer {α : Type} {F : Fence} {n : Nat} {P : Program} {g : Operand} {ps : Array Tmp} {assign body : Code} {Q : Exit → Act → World → Prop} {a : Act} {w : World}
    (hro : F.round = none) (h1 : F.depth.isSome = true → 1 ≤ n) {gf : Nat} {lb : Array Value} (hg : a.eval g = .func (.func gf) #[] lb) (hFg : F.fn gf) (eg : ∀ args w, (callFunc gf args).run P w = .ok (.enter gf args) w)
    {encs : α → Array Value} {n₀ : Nat} {S Sp : List α → Prop} {N : List α → α → Prop} {D0 : Bls} {w0 : World} (hseq : Iter F (n - 1) P gf lb encs n₀ S Sp N D0 w0) (hn : n₀ ≤ w.heap.size) (hb0 : Below w0.heap.size w0 w) (hD0 : Have D0 w) (hps : ∀ x, (encs x).size = ps.size)
    (I : List α → Bls → World → Prop) (Ix : Code → List α → Bls → World → Prop) (hI : Firm I) (hIx : ∀ c, Firm (Ix c)) (h0 : I [] D0 w) (Ax : α → Act → Bls → World → Prop)
    (hAx : ∀ x a' E V l r o, Ax x a' E V → V.heap[l]? = some (.loop r) → Ax x a' E (V.putObj l o))
    (hassign : ∀ (l : Nat) (pre : List α) (x : α) (E : Bls) (W : World) (K : Act → World → Prop), w.heap.size ≤ l → I pre E W → Have E W → (∀ a' E' W', (∀ k, E k → E' k) → Have E' W' → Same E W W' → Below n₀ W W' → I pre E' W' → Ax x a' E' W' → K a' W') →
      assign.wpIn (F.inRound l) (n - 1 - 1) P (Exit.then K (fun _ _ _ => False)) { tmps := (ps.zip (encs x)).foldl (fun t (p, v) => t.setIfInBounds p v) a.tmps, defers := [] } W)
    (hbody : ∀ (l : Nat) (pre : List α) (x : α) (a' : Act) (E : Bls) (W : World), E l → (∃ r, W.heap[l]? = some (.loop r)) → Have E W → I pre E W → Ax x a' E W → N pre x → body.wpIn (F.inRound l) (n - 1 - 1) P (roundPost n₀ E I Ix (pre ++ [x]) W) a' W)
    (hdone : ∀ (d : Nat) (xs : List α) (E : Bls) (W : World), w.heap.size ≤ d → E d → S xs → I xs E W → W.heap[d]? = some (.deferred (some [])) → Q .normal { a with defers := { target := .collected d, args := #[] } :: a.defers } W)
    (hstop : ∀ (d : Nat) (c : Code) (pre : List α) (E : Bls) (W : World), w.heap.size ≤ d → E d → Sp pre → Ix c pre E W → W.heap[d]? = some (.deferred (some [])) → c.wpIn F n P Q { a with defers := { target := .collected d, args := #[] } :: a.defers } W) :
    (Code.rangeFunc g ps assign body).wpIn F n P Q a w := by
  refine wpIn_rangeFunc fun fn hfn => ?_
  rw [hro]
  obtain ⟨rec, hrec⟩ : ∃ rec : LoopState → Option Code → Loop, rec = fun st pe => { state := st, pending := pe, fn, tmps := a.tmps, params := ps, assign, body, defers := w.heap.size } := ⟨_, rfl⟩
  have hnew1 := World.alloc_heap_new w (.deferred (some []))
  have hnew2 := World.alloc_heap_new (w.alloc (.deferred (some []))) (.loop (rec .ready none))
  have hol := (t_al (w.alloc (.deferred (some []))) (.loop (rec .ready none))).block w.heap.size (by simp)
  have hsz : ((w.alloc (.deferred (some []))).alloc (.loop (rec .ready none))).heap.size = w.heap.size + 2 := by simp
  have hen := run_enterLoop_outer (P := P) (w := w) fn a.tmps ps assign body
  have hrd : (.loop { state := .ready, pending := none, fn, tmps := a.tmps, params := ps, assign, body, defers := w.heap.size } : Obj) = .loop (rec .ready none) := by rw [hrec]
  rw [hrd] at hen
  have hbw : Below w.heap.size w ((w.alloc (.deferred (some []))).alloc (.loop (rec .ready none))) := (t_al w _).trans ((t_al _ _).mono (by simp))
  generalize (w.alloc (.deferred (some []))).alloc (.loop (rec .ready none)) = V at *
  rw [World.size_alloc] at hnew2
  have hD : V.heap[w.heap.size]? = some (.deferred (some [])) := hol.trans hnew1
  obtain ⟨L, hL⟩ : ∃ L : Bls, L = fun k => k = w.heap.size ∨ k = w.heap.size + 1 := ⟨_, rfl⟩
  have L0 : L w.heap.size := by rw [hL]; exact .inl rfl
  have L1 : L (w.heap.size + 1) := by rw [hL]; exact .inr rfl
  have Lx : ∀ k, L k → k = w.heap.size ∨ k = w.heap.size + 1 := fun k hk => by rw [hL] at hk; exact hk
  clear hL hol hnew1 hrd
  have hI1 : I [] (fun k => D0 k ∨ L k) V := hI _ _ _ _ _ h0 (Moves.below hbw) (fun k hk => hk.elim .inl (fun h => .inr (by rcases Lx k h with h | h <;> omega)))
  refine ⟨w.heap.size + 1, _, V, { target := .fn (.func gf) lb, args := #[.func (.yield (w.heap.size + 1)) #[] #[]] }, V, gf, #[.func (.yield (w.heap.size + 1)) #[] #[]] ++ lb, V, hen, by simp only [resolve, hg]; simp [go_sem], ?_, by simp [invoke, go_sem, eg], h1, ?_⟩
  · intro f' hf'; simp [Target.leads] at hf'; subst hf'; exact hFg
  have firm {β : Type} {Y : β → Bls → World → Prop} (hY : Firm Y) (st : LoopState) (pe : Option Code) : Firm (fun (pre : β) (D : Bls) (W : World) => Y pre (fun k => D k ∨ L k) W ∧ W.heap[w.heap.size + 1]? = some (.loop (rec st pe)) ∧ W.heap[w.heap.size]? = some (.deferred (some [])) ∧ (∀ k, L k → ¬ D k)) := by
    rintro s D D' A A' ⟨h1, h2, h3, h4⟩ hm hd
    refine ⟨hY _ _ _ _ _ h1 (hm.mono fun _ h => .inl h) (fun k hk => hk.elim (fun h => (hd k h).elim (fun h => .inl (.inl h)) .inr) (fun h => .inl (.inr h))), (hm.block _ (lt_of_at h2) (h4 _ L1)).trans h2, (hm.block _ (lt_of_at h3) (h4 _ L0)).trans h3, fun k hk hD' => ?_⟩
    rcases hd k hD' with h | h
    · exact h4 k hk h
    · have i1 := lt_of_at h2
      have i2 := lt_of_at h3
      rcases Lx k hk with e | e <;> omega
  refine (hseq (w.heap.size + 1)
    (fun pre D W => I pre (fun k => D k ∨ L k) W ∧ W.heap[w.heap.size + 1]? = some (.loop (rec .ready none)) ∧ W.heap[w.heap.size]? = some (.deferred (some [])) ∧ (∀ k, L k → ¬ D k))
    (fun pre D W => ∃ c, Ix c pre (fun k => D k ∨ L k) W ∧ W.heap[w.heap.size + 1]? = some (.loop (rec .done (some c))) ∧ W.heap[w.heap.size]? = some (.deferred (some [])) ∧ (∀ k, L k → ¬ D k))
    V (hb0.trans (hbw.mono hb0.size)) (firm hI _ _)
    (fun s D D' A A' ⟨c, hs⟩ hm hd => ⟨c, firm (hIx c) _ _ s D D' A A' hs hm hd⟩) ?_ ⟨hI1, hnew2, hD, fun k hk hd => by have := hD0 k hd; rcases Lx k hk with e | e <;> omega⟩).mono ?_
  · rintro pre x D W ⟨hi, hl, hk, hLD⟩ hbd hN
    refine (round_of hrec hfn hps (by omega) hl (D := fun k => D k ∨ L k) (.inr L1) (fun k h => h.elim (hbd k) (fun h => by rcases Lx k h with e | e; rw [e]; exact lt_of_at hk; rw [e]; exact lt_of_at hl)) I Ix hI hIx Ax (fun x a' E V r o => hAx x a' E V _ r o) (fun pre x E W K => hassign _ pre x E W K (by omega)) (fun pre x a' E W => hbody _ pre x a' E W) pre x hi hN).mono ?_
    rintro e W' ⟨hs, (⟨rfl, h2, h3, h4⟩ | ⟨rfl, c, h2, h3⟩)⟩
    · exact ⟨fun k hkD => hs k (.inl hkD) (fun e => hLD _ L1 (by rw [e] at hkD; exact hkD)), .inl ⟨rfl, ⟨h2, h3, (hs _ (.inr L0) (by omega)).trans hk, hLD⟩, h4⟩⟩
    · exact ⟨fun k hkD => hs k (.inl hkD) (fun e => hLD _ L1 (by rw [e] at hkD; exact hkD)), .inr ⟨rfl, c, h2, h3, (hs _ (.inr L0) (by omega)).trans hk, hLD⟩⟩
  · rintro e W2 ⟨⟨v, rfl⟩, (⟨xs, D, hS, hi, hl, hk, _⟩ | ⟨pre, D, hSp, c, hi, hl, hk, _⟩)⟩
    · have he := run_endLoop (P := P) hl (by rw [hrec]; simp)
      rw [hrec] at he
      exact ⟨none, _, he, hdone _ xs _ _ (Nat.le_refl _) (.inr L0) hS (hI.go hi (Moves.put _ (.inr L1))) ((World.putObj_heap_other (by omega)).trans hk)⟩
    · have he := run_endLoop (P := P) hl (by rw [hrec]; simp)
      rw [hrec] at he
      exact ⟨some c, _, he, hstop _ c pre _ _ (Nat.le_refl _) (.inr L0) hSp ((hIx c).go hi (Moves.put _ (.inr L1))) ((World.putObj_heap_other (by omega)).trans hk)⟩

theorem range_inner {α : Type} {F : Fence} {n : Nat} {P : Program} {g : Operand} {ps : Array Tmp} {assign body : Code} {Q : Exit → Act → World → Prop} {a : Act} {w : World}
    {l₀ : Nat} {r₀ : Loop} (hro : F.round = some l₀) (hl₀ : w.heap[l₀]? = some (.loop r₀)) (h1 : F.depth.isSome = true → 1 ≤ n) {gf : Nat} {lb : Array Value} (hg : a.eval g = .func (.func gf) #[] lb) (hFg : F.fn gf) (eg : ∀ args w, (callFunc gf args).run P w = .ok (.enter gf args) w)
    {encs : α → Array Value} {n₀ : Nat} {S Sp : List α → Prop} {N : List α → α → Prop} {D0 : Bls} {w0 : World} (hseq : Iter F (n - 1) P gf lb encs n₀ S Sp N D0 w0) (hn : n₀ ≤ w.heap.size) (hb0 : Below w0.heap.size w0 w) (hD0 : Have D0 w) (hps : ∀ x, (encs x).size = ps.size)
    (I : List α → Bls → World → Prop) (Ix : Code → List α → Bls → World → Prop) (hI : Firm I) (hIx : ∀ c, Firm (Ix c)) (h0 : I [] D0 w) (Ax : α → Act → Bls → World → Prop)
    (hAx : ∀ x a' E V l r o, Ax x a' E V → V.heap[l]? = some (.loop r) → Ax x a' E (V.putObj l o))
    (hassign : ∀ (l : Nat) (pre : List α) (x : α) (E : Bls) (W : World) (K : Act → World → Prop), w.heap.size ≤ l → I pre E W → Have E W → (∀ a' E' W', (∀ k, E k → E' k) → Have E' W' → Same E W W' → Below n₀ W W' → I pre E' W' → Ax x a' E' W' → K a' W') →
      assign.wpIn (F.inRound l) (n - 1 - 1) P (Exit.then K (fun _ _ _ => False)) { tmps := (ps.zip (encs x)).foldl (fun t (p, v) => t.setIfInBounds p v) a.tmps, defers := [] } W)
    (hbody : ∀ (l : Nat) (pre : List α) (x : α) (a' : Act) (E : Bls) (W : World), E l → (∃ r, W.heap[l]? = some (.loop r)) → Have E W → I pre E W → Ax x a' E W → N pre x → body.wpIn (F.inRound l) (n - 1 - 1) P (roundPost n₀ E I Ix (pre ++ [x]) W) a' W)
    (hdone : ∀ (xs : List α) (E : Bls) (W : World), S xs → I xs E W → Q .normal a W)
    (hstop : ∀ (c : Code) (pre : List α) (E : Bls) (W : World), Sp pre → Ix c pre E W → c.wpIn F n P Q a W) :
    (Code.rangeFunc g ps assign body).wpIn F n P Q a w := by
  refine wpIn_rangeFunc fun fn hfn => ?_
  rw [hro]
  obtain ⟨rec, hrec⟩ : ∃ rec : LoopState → Option Code → Loop, rec = fun st pe => { state := st, pending := pe, fn, tmps := a.tmps, params := ps, assign, body, defers := r₀.defers } := ⟨_, rfl⟩
  have hnew := World.alloc_heap_new w (.loop (rec .ready none))
  have hsz : (w.alloc (.loop (rec .ready none))).heap.size = w.heap.size + 1 := by simp
  have hen := run_enterLoop_inner (P := P) hl₀ fn a.tmps ps assign body
  have hrd : (.loop { state := .ready, pending := none, fn, tmps := a.tmps, params := ps, assign, body, defers := r₀.defers } : Obj) = .loop (rec .ready none) := by rw [hrec]
  rw [hrd] at hen
  have hbw : Below w.heap.size w (w.alloc (.loop (rec .ready none))) := t_al w _
  generalize w.alloc (.loop (rec .ready none)) = V at *
  obtain ⟨L, hL⟩ : ∃ L : Bls, L = fun k => k = w.heap.size := ⟨_, rfl⟩
  have L1 : L w.heap.size := by rw [hL]
  have Lx : ∀ k, L k → k = w.heap.size := fun k hk => by rw [hL] at hk; exact hk
  clear hL hrd
  have hI1 : I [] (fun k => D0 k ∨ L k) V := hI _ _ _ _ _ h0 (Moves.below hbw) (fun k hk => hk.elim .inl (fun h => .inr (by have := Lx k h; omega)))
  refine ⟨w.heap.size, _, V, { target := .fn (.func gf) lb, args := #[.func (.yield w.heap.size) #[] #[]] }, V, gf, #[.func (.yield w.heap.size) #[] #[]] ++ lb, V, hen, by simp only [resolve, hg]; simp [go_sem], ?_, by simp [invoke, go_sem, eg], h1, ?_⟩
  · intro f' hf'; simp [Target.leads] at hf'; subst hf'; exact hFg
  have firm {β : Type} {Y : β → Bls → World → Prop} (hY : Firm Y) (st : LoopState) (pe : Option Code) : Firm (fun (pre : β) (D : Bls) (W : World) => Y pre (fun k => D k ∨ L k) W ∧ W.heap[w.heap.size]? = some (.loop (rec st pe)) ∧ (∀ k, L k → ¬ D k)) := by
    rintro s D D' A A' ⟨h1, h2, h4⟩ hm hd
    refine ⟨hY _ _ _ _ _ h1 (hm.mono fun _ h => .inl h) (fun k hk => hk.elim (fun h => (hd k h).elim (fun h => .inl (.inl h)) .inr) (fun h => .inl (.inr h))), (hm.block _ (lt_of_at h2) (h4 _ L1)).trans h2, fun k hk hD' => ?_⟩
    rcases hd k hD' with h | h
    · exact h4 k hk h
    · have i1 := lt_of_at h2
      have := Lx k hk
      omega
  refine (hseq w.heap.size
    (fun pre D W => I pre (fun k => D k ∨ L k) W ∧ W.heap[w.heap.size]? = some (.loop (rec .ready none)) ∧ (∀ k, L k → ¬ D k))
    (fun pre D W => ∃ c, Ix c pre (fun k => D k ∨ L k) W ∧ W.heap[w.heap.size]? = some (.loop (rec .done (some c))) ∧ (∀ k, L k → ¬ D k))
    V (hb0.trans (hbw.mono hb0.size)) (firm hI _ _)
    (fun s D D' A A' ⟨c, hs⟩ hm hd => ⟨c, firm (hIx c) _ _ s D D' A A' hs hm hd⟩) ?_ ⟨hI1, hnew, fun k hk hd => by have := hD0 k hd; have := Lx k hk; omega⟩).mono ?_
  · rintro pre x D W ⟨hi, hl, hLD⟩ hbd hN
    refine (round_of hrec hfn hps hn hl (D := fun k => D k ∨ L k) (.inr L1) (fun k h => h.elim (hbd k) (fun h => by rw [Lx k h]; exact lt_of_at hl)) I Ix hI hIx Ax (fun x a' E V r o => hAx x a' E V _ r o) (fun pre x E W K => hassign _ pre x E W K (Nat.le_refl _)) (fun pre x a' E W => hbody _ pre x a' E W) pre x hi hN).mono ?_
    rintro e W' ⟨hs, (⟨rfl, h2, h3, h4⟩ | ⟨rfl, c, h2, h3⟩)⟩
    · exact ⟨fun k hkD => hs k (.inl hkD) (fun e => hLD _ L1 (by rw [e] at hkD; exact hkD)), .inl ⟨rfl, ⟨h2, h3, hLD⟩, h4⟩⟩
    · exact ⟨fun k hkD => hs k (.inl hkD) (fun e => hLD _ L1 (by rw [e] at hkD; exact hkD)), .inr ⟨rfl, c, h2, h3, hLD⟩⟩
  · rintro e W2 ⟨⟨v, rfl⟩, (⟨xs, D, hS, hi, hl, _⟩ | ⟨pre, D, hSp, c, hi, hl, _⟩)⟩
    · have he := run_endLoop (P := P) hl (by rw [hrec]; simp)
      rw [hrec] at he
      exact ⟨none, _, he, hdone xs _ _ hS (hI.go hi (Moves.put _ (.inr L1)))⟩
    · have he := run_endLoop (P := P) hl (by rw [hrec]; simp)
      rw [hrec] at he
      exact ⟨some c, _, he, hstop c pre _ _ hSp ((hIx c).go hi (Moves.put _ (.inr L1)))⟩

end Go.Proofs.Ytmjlmciocockpaa
