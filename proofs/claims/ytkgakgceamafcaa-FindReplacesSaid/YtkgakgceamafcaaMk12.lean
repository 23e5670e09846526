/-
  Texts of this seat, put together (a claim holds few texts): WgB, WgC, WgP.
-/
import Derived.Test.YtkgakgceamafcaaMk11
import Derived.Sort.BigQuietIn

namespace Go.Proofs.Ytkgakgceamafcaa
open Go Go.RowKit Go.Shelf
set_option linter.unusedVariables false

theorem lt_of_at {w : World} {k : Nat} {o : Obj} (h : w.heap[k]? = some o) : k < w.heap.size := (Array.getElem?_eq_some_iff.1 h).1

theorem range_outer {α : Type} {F : Fence} {n : Nat} {P : Program} {g : Operand} {ps : Array Tmp} {assign body : Code} {Q : Exit → Act → World → Prop} {a : Act} {w : World}
    (hro : F.round = none) (h1 : F.depth.isSome = true → 1 ≤ n) {gf : Nat} {lb : Array Value} (hg : a.eval g = .func (.func gf) #[] lb) (hFg : F.fn gf) (eg : ∀ args w, (callFunc gf args).run P w = .ok (.enter gf args) w)
    {encs : α → Array Value} {n₀ : Nat} {S Sp : List α → Prop} {N : List α → α → Prop} {D0 : Bls} {w0 : World} (hseq : Iter F (n - 1) P gf lb encs n₀ S Sp N D0 w0) (hn : n₀ ≤ w.heap.size) (hb0 : Below w0.heap.size w0 w) (hD0 : Have D0 w) (hps : ∀ x, (encs x).size = ps.size)
    (I : List α → Bls → World → Prop) (Ix : Code → List α → Bls → World → Prop) (hI : Firm I) (hIx : ∀ c, Firm (Ix c)) (h0 : I [] D0 w) (Ax : α → Act → Bls → World → Prop)
    (hAx : ∀ x a' E V l r o, Ax x a' E V → V.heap[l]? = some (.loop r) → Ax x a' E (V.putObj l o))
    (hassign : ∀ (l : Nat) (pre : List α) (x : α) (E : Bls) (W : World) (K : Act → World → Prop), w.heap.size ≤ l → I pre E W → Have E W → (∀ a' E' W', (∀ k, E k → E' k) → Have E' W' → Same E W W' → Below n₀ W W' → I pre E' W' → Ax x a' E' W' → K a' W') →
      assign.wpIn (F.inRound l) (n - 1 - 1) P (Exit.then K (fun _ _ _ => False)) { tmps := (ps.zip (encs x)).foldl (fun t (p, v) => t.setIfInBounds p v) a.tmps, defers := [] } W)
    (hbody : ∀ (l : Nat) (pre : List α) (x : α) (a' : Act) (E : Bls) (W : World), E l → (∃ r, W.heap[l]? = some (.loop r)) → Have E W → I pre E W → Ax x a' E W → N pre x → body.wpIn (F.inRound l) (n - 1 - 1) P (roundPost n₀ E I Ix (pre ++ [x]) W) a' W)
    (hdone : ∀ (d : Nat) (xs : List α) (E : Bls) (W : World), w.heap.size ≤ d → E d → S xs → I xs E W → W.heap[d]? = some (.deferred (some [])) → Q .normal { a with defers := { target := .collected d, args := #[] } :: a.defers } W)
    (hstop : ∀ (d : Nat) (c : Code) (pre : List α) (E : Bls) (W : World), w.heap.size ≤ d → E d → Sp pre → Ix c pre E W → W.heap[d]? = some (.deferred (some [])) → c.wpIn F n P Q { a with defers := { target := .collected d, args := #[] } :: a.defers } W) :
    (Code.rangeFunc g ps assign body).wpIn F n P Q a w := by
  refine wpIn_rangeFunc fun fn hfn => ?_
  rw [hro]
  obtain ⟨rec, hrec⟩ : ∃ rec : LoopState → Option Code → Loop, rec = fun st pe => { state := st, pending := pe, fn, tmps := a.tmps, params := ps, assign, body, defers := w.heap.size } := ⟨_, rfl⟩
  have hnew1 := World.alloc_heap_new w (.deferred (some []))
  have hnew2 := World.alloc_heap_new (w.alloc (.deferred (some []))) (.loop (rec .ready none))
  have hol := (t_al (w.alloc (.deferred (some []))) (.loop (rec .ready none))).block w.heap.size (by simp)
  have hsz : ((w.alloc (.deferred (some []))).alloc (.loop (rec .ready none))).heap.size = w.heap.size + 2 := by simp
  have hen := run_enterLoop_outer (P := P) (w := w) fn a.tmps ps assign body
  have hrd : (.loop { state := .ready, pending := none, fn, tmps := a.tmps, params := ps, assign, body, defers := w.heap.size } : Obj) = .loop (rec .ready none) := by rw [hrec]
  rw [hrd] at hen
  have hbw : Below w.heap.size w ((w.alloc (.deferred (some []))).alloc (.loop (rec .ready none))) := (t_al w _).trans ((t_al _ _).mono (by simp))
  generalize (w.alloc (.deferred (some []))).alloc (.loop (rec .ready none)) = V at *
  rw [World.size_alloc] at hnew2
  have hD : V.heap[w.heap.size]? = some (.deferred (some [])) := hol.trans hnew1
  obtain ⟨L, hL⟩ : ∃ L : Bls, L = fun k => k = w.heap.size ∨ k = w.heap.size + 1 := ⟨_, rfl⟩
  have L0 : L w.heap.size := by rw [hL]; exact .inl rfl
  have L1 : L (w.heap.size + 1) := by rw [hL]; exact .inr rfl
  have Lx : ∀ k, L k → k = w.heap.size ∨ k = w.heap.size + 1 := fun k hk => by rw [hL] at hk; exact hk
  clear hL hol hnew1 hrd
  have hI1 : I [] (fun k => D0 k ∨ L k) V := hI _ _ _ _ _ h0 (Moves.below hbw) (fun k hk => hk.elim .inl (fun h => .inr (by rcases Lx k h with h | h <;> omega)))
  refine ⟨w.heap.size + 1, _, V, { target := .fn (.func gf) lb, args := #[.func (.yield (w.heap.size + 1)) #[] #[]] }, V, gf, #[.func (.yield (w.heap.size + 1)) #[] #[]] ++ lb, V, hen, by simp only [resolve, hg]; simp [go_sem], ?_, by simp [invoke, go_sem, eg], h1, ?_⟩
  · intro f' hf'; simp [Target.leads] at hf'; subst hf'; exact hFg
  have firm {β : Type} {Y : β → Bls → World → Prop} (hY : Firm Y) (st : LoopState) (pe : Option Code) : Firm (fun (pre : β) (D : Bls) (W : World) => Y pre (fun k => D k ∨ L k) W ∧ W.heap[w.heap.size + 1]? = some (.loop (rec st pe)) ∧ W.heap[w.heap.size]? = some (.deferred (some [])) ∧ (∀ k, L k → ¬ D k)) := by
    rintro s D D' A A' ⟨h1, h2, h3, h4⟩ hm hd
    refine ⟨hY _ _ _ _ _ h1 (hm.mono fun _ h => .inl h) (fun k hk => hk.elim (fun h => (hd k h).elim (fun h => .inl (.inl h)) .inr) (fun h => .inl (.inr h))), (hm.block _ (lt_of_at h2) (h4 _ L1)).trans h2, (hm.block _ (lt_of_at h3) (h4 _ L0)).trans h3, fun k hk hD' => ?_⟩
    rcases hd k hD' with h | h
    · exact h4 k hk h
    · have i1 := lt_of_at h2
      have i2 := lt_of_at h3
      rcases Lx k hk with e | e <;> omega
  refine (hseq (w.heap.size + 1)
    (fun pre D W => I pre (fun k => D k ∨ L k) W ∧ W.heap[w.heap.size + 1]? = some (.loop (rec .ready none)) ∧ W.heap[w.heap.size]? = some (.deferred (some [])) ∧ (∀ k, L k → ¬ D k))
    (fun pre D W => ∃ c, Ix c pre (fun k => D k ∨ L k) W ∧ W.heap[w.heap.size + 1]? = some (.loop (rec .done (some c))) ∧ W.heap[w.heap.size]? = some (.deferred (some [])) ∧ (∀ k, L k → ¬ D k))
    V (hb0.trans (hbw.mono hb0.size)) (firm hI _ _)
    (fun s D D' A A' ⟨c, hs⟩ hm hd => ⟨c, firm (hIx c) _ _ s D D' A A' hs hm hd⟩) ?_ ⟨hI1, hnew2, hD, fun k hk hd => by have := hD0 k hd; rcases Lx k hk with e | e <;> omega⟩).mono ?_
  · rintro pre x D W ⟨hi, hl, hk, hLD⟩ hbd hN
    refine (round_of hrec hfn hps (by omega) hl (D := fun k => D k ∨ L k) (.inr L1) (fun k h => h.elim (hbd k) (fun h => by rcases Lx k h with e | e; rw [e]; exact lt_of_at hk; rw [e]; exact lt_of_at hl)) I Ix hI hIx Ax (fun x a' E V r o => hAx x a' E V _ r o) (fun pre x E W K => hassign _ pre x E W K (by omega)) (fun pre x a' E W => hbody _ pre x a' E W) pre x hi hN).mono ?_
    rintro e W' ⟨hs, (⟨rfl, h2, h3, h4⟩ | ⟨rfl, c, h2, h3⟩)⟩
    · exact ⟨fun k hkD => hs k (.inl hkD) (fun e => hLD _ L1 (by rw [e] at hkD; exact hkD)), .inl ⟨rfl, ⟨h2, h3, (hs _ (.inr L0) (by omega)).trans hk, hLD⟩, h4⟩⟩
    · exact ⟨fun k hkD => hs k (.inl hkD) (fun e => hLD _ L1 (by rw [e] at hkD; exact hkD)), .inr ⟨rfl, c, h2, h3, (hs _ (.inr L0) (by omega)).trans hk, hLD⟩⟩
  · rintro e W2 ⟨⟨v, rfl⟩, (⟨xs, D, hS, hi, hl, hk, _⟩ | ⟨pre, D, hSp, c, hi, hl, hk, _⟩)⟩
    · have he := run_endLoop (P := P) hl (by rw [hrec]; simp)
      rw [hrec] at he
      exact ⟨none, _, he, hdone _ xs _ _ (Nat.le_refl _) (.inr L0) hS (hI.go hi (Moves.put _ (.inr L1))) ((World.putObj_heap_other (by omega)).trans hk)⟩
    · have he := run_endLoop (P := P) hl (by rw [hrec]; simp)
      rw [hrec] at he
      exact ⟨some c, _, he, hstop _ c pre _ _ (Nat.le_refl _) (.inr L0) hSp ((hIx c).go hi (Moves.put _ (.inr L1))) ((World.putObj_heap_other (by omega)).trans hk)⟩

theorem range_inner {α : Type} {F : Fence} {n : Nat} {P : Program} {g : Operand} {ps : Array Tmp} {assign body : Code} {Q : Exit → Act → World → Prop} {a : Act} {w : World}
    {l₀ : Nat} {r₀ : Loop} (hro : F.round = some l₀) (hl₀ : w.heap[l₀]? = some (.loop r₀)) (h1 : F.depth.isSome = true → 1 ≤ n) {gf : Nat} {lb : Array Value} (hg : a.eval g = .func (.func gf) #[] lb) (hFg : F.fn gf) (eg : ∀ args w, (callFunc gf args).run P w = .ok (.enter gf args) w)
    {encs : α → Array Value} {n₀ : Nat} {S Sp : List α → Prop} {N : List α → α → Prop} {D0 : Bls} {w0 : World} (hseq : Iter F (n - 1) P gf lb encs n₀ S Sp N D0 w0) (hn : n₀ ≤ w.heap.size) (hb0 : Below w0.heap.size w0 w) (hD0 : Have D0 w) (hps : ∀ x, (encs x).size = ps.size)
    (I : List α → Bls → World → Prop) (Ix : Code → List α → Bls → World → Prop) (hI : Firm I) (hIx : ∀ c, Firm (Ix c)) (h0 : I [] D0 w) (Ax : α → Act → Bls → World → Prop)
    (hAx : ∀ x a' E V l r o, Ax x a' E V → V.heap[l]? = some (.loop r) → Ax x a' E (V.putObj l o))
    (hassign : ∀ (l : Nat) (pre : List α) (x : α) (E : Bls) (W : World) (K : Act → World → Prop), w.heap.size ≤ l → I pre E W → Have E W → (∀ a' E' W', (∀ k, E k → E' k) → Have E' W' → Same E W W' → Below n₀ W W' → I pre E' W' → Ax x a' E' W' → K a' W') →
      assign.wpIn (F.inRound l) (n - 1 - 1) P (Exit.then K (fun _ _ _ => False)) { tmps := (ps.zip (encs x)).foldl (fun t (p, v) => t.setIfInBounds p v) a.tmps, defers := [] } W)
    (hbody : ∀ (l : Nat) (pre : List α) (x : α) (a' : Act) (E : Bls) (W : World), E l → (∃ r, W.heap[l]? = some (.loop r)) → Have E W → I pre E W → Ax x a' E W → N pre x → body.wpIn (F.inRound l) (n - 1 - 1) P (roundPost n₀ E I Ix (pre ++ [x]) W) a' W)
    (hdone : ∀ (xs : List α) (E : Bls) (W : World), S xs → I xs E W → Q .normal a W)
    (hstop : ∀ (c : Code) (pre : List α) (E : Bls) (W : World), Sp pre → Ix c pre E W → c.wpIn F n P Q a W) :
    (Code.rangeFunc g ps assign body).wpIn F n P Q a w := by
  refine wpIn_rangeFunc fun fn hfn => ?_
  rw [hro]
  obtain ⟨rec, hrec⟩ : ∃ rec : LoopState → Option Code → Loop, rec = fun st pe => { state := st, pending := pe, fn, tmps := a.tmps, params := ps, assign, body, defers := r₀.defers } := ⟨_, rfl⟩
  have hnew := World.alloc_heap_new w (.loop (rec .ready none))
  have hsz : (w.alloc (.loop (rec .ready none))).heap.size = w.heap.size + 1 := by simp
  have hen := run_enterLoop_inner (P := P) hl₀ fn a.tmps ps assign body
  have hrd : (.loop { state := .ready, pending := none, fn, tmps := a.tmps, params := ps, assign, body, defers := r₀.defers } : Obj) = .loop (rec .ready none) := by rw [hrec]
  rw [hrd] at hen
  have hbw : Below w.heap.size w (w.alloc (.loop (rec .ready none))) := t_al w _
  generalize w.alloc (.loop (rec .ready none)) = V at *
  obtain ⟨L, hL⟩ : ∃ L : Bls, L = fun k => k = w.heap.size := ⟨_, rfl⟩
  have L1 : L w.heap.size := by rw [hL]
  have Lx : ∀ k, L k → k = w.heap.size := fun k hk => by rw [hL] at hk; exact hk
  clear hL hrd
  have hI1 : I [] (fun k => D0 k ∨ L k) V := hI _ _ _ _ _ h0 (Moves.below hbw) (fun k hk => hk.elim .inl (fun h => .inr (by have := Lx k h; omega)))
  refine ⟨w.heap.size, _, V, { target := .fn (.func gf) lb, args := #[.func (.yield w.heap.size) #[] #[]] }, V, gf, #[.func (.yield w.heap.size) #[] #[]] ++ lb, V, hen, by simp only [resolve, hg]; simp [go_sem], ?_, by simp [invoke, go_sem, eg], h1, ?_⟩
  · intro f' hf'; simp [Target.leads] at hf'; subst hf'; exact hFg
  have firm {β : Type} {Y : β → Bls → World → Prop} (hY : Firm Y) (st : LoopState) (pe : Option Code) : Firm (fun (pre : β) (D : Bls) (W : World) => Y pre (fun k => D k ∨ L k) W ∧ W.heap[w.heap.size]? = some (.loop (rec st pe)) ∧ (∀ k, L k → ¬ D k)) := by
    rintro s D D' A A' ⟨h1, h2, h4⟩ hm hd
    refine ⟨hY _ _ _ _ _ h1 (hm.mono fun _ h => .inl h) (fun k hk => hk.elim (fun h => (hd k h).elim (fun h => .inl (.inl h)) .inr) (fun h => .inl (.inr h))), (hm.block _ (lt_of_at h2) (h4 _ L1)).trans h2, fun k hk hD' => ?_⟩
    rcases hd k hD' with h | h
    · exact h4 k hk h
    · have i1 := lt_of_at h2
      have := Lx k hk
      omega
  refine (hseq w.heap.size
    (fun pre D W => I pre (fun k => D k ∨ L k) W ∧ W.heap[w.heap.size]? = some (.loop (rec .ready none)) ∧ (∀ k, L k → ¬ D k))
    (fun pre D W => ∃ c, Ix c pre (fun k => D k ∨ L k) W ∧ W.heap[w.heap.size]? = some (.loop (rec .done (some c))) ∧ (∀ k, L k → ¬ D k))
    V (hb0.trans (hbw.mono hb0.size)) (firm hI _ _)
    (fun s D D' A A' ⟨c, hs⟩ hm hd => ⟨c, firm (hIx c) _ _ s D D' A A' hs hm hd⟩) ?_ ⟨hI1, hnew, fun k hk hd => by have := hD0 k hd; have := Lx k hk; omega⟩).mono ?_
  · rintro pre x D W ⟨hi, hl, hLD⟩ hbd hN
    refine (round_of hrec hfn hps hn hl (D := fun k => D k ∨ L k) (.inr L1) (fun k h => h.elim (hbd k) (fun h => by rw [Lx k h]; exact lt_of_at hl)) I Ix hI hIx Ax (fun x a' E V r o => hAx x a' E V _ r o) (fun pre x E W K => hassign _ pre x E W K (Nat.le_refl _)) (fun pre x a' E W => hbody _ pre x a' E W) pre x hi hN).mono ?_
    rintro e W' ⟨hs, (⟨rfl, h2, h3, h4⟩ | ⟨rfl, c, h2, h3⟩)⟩
    · exact ⟨fun k hkD => hs k (.inl hkD) (fun e => hLD _ L1 (by rw [e] at hkD; exact hkD)), .inl ⟨rfl, ⟨h2, h3, hLD⟩, h4⟩⟩
    · exact ⟨fun k hkD => hs k (.inl hkD) (fun e => hLD _ L1 (by rw [e] at hkD; exact hkD)), .inr ⟨rfl, c, h2, h3, hLD⟩⟩
  · rintro e W2 ⟨⟨v, rfl⟩, (⟨xs, D, hS, hi, hl, _⟩ | ⟨pre, D, hSp, c, hi, hl, _⟩)⟩
    · have he := run_endLoop (P := P) hl (by rw [hrec]; simp)
      rw [hrec] at he
      exact ⟨none, _, he, hdone xs _ _ hS (hI.go hi (Moves.put _ (.inr L1)))⟩
    · have he := run_endLoop (P := P) hl (by rw [hrec]; simp)
      rw [hrec] at he
      exact ⟨some c, _, he, hstop c pre _ _ hSp ((hIx c).go hi (Moves.put _ (.inr L1)))⟩

end Go.Proofs.Ytkgakgceamafcaa

namespace Go.Proofs.Ytkgakgceamafcaa
open Go Go.RowKit Go.Shelf
set_option linter.unusedVariables false
attribute [local go_sem] Oper.semAt_some

/-- A row of cells, as it lies in memory. -/
structure R3 where
  a : Option Addr
  n : Nat
  c : Nat
  e : Int
  b : Bool
def r3V (r : R3) : Value := .agg #[.slice r.a r.n r.c, .int .i64 r.e, .bool r.b]
def rws (l : List R3) : List Value := l.map r3V
theorem rws_len (l : List R3) : (rws l).length = l.length := by simp [rws]
theorem rws_app (a b : List R3) : rws (a ++ b) = rws a ++ rws b := by simp [rws]
theorem rws_is (l : List R3) : ∀ u ∈ rws l, Is3 u := by
  intro u hu
  obtain ⟨r, _, rfl⟩ := List.mem_map.1 hu
  exact ⟨_, _, _, _, _, rfl⟩
theorem rws_gd (l : List R3) : Gd (rws l) := gd_is3 (rws_is l)
theorem S3.atR {w : World} {a : Option Addr} {c k : Nat} {xs : List R3} {r : R3} (h : S3 w a c (rws xs)) (hr : xs[k]? = some r) :
    ∃ g o, a = some ⟨g, o, Option.none⟩ ∧ g < w.heap.size ∧ w.cell? ⟨g, o + k * 3, Option.none⟩ = some (.slice r.a r.n r.c) ∧ w.cell? ⟨g, o + k * 3 + 1, Option.none⟩ = some (.int .i64 r.e) ∧ w.cell? ⟨g, o + k * 3 + 2, Option.none⟩ = some (.bool r.b) := by
  have hv : (rws xs)[k]? = some (r3V r) := by unfold rws; rw [List.getElem?_map, hr]; rfl
  obtain ⟨g, o, a', n', c', e, b, h1, h2, h3, h4, h5, h6⟩ := h.at hv
  unfold r3V row3 at h3
  injection h3 with h3
  simp at h3
  obtain ⟨⟨rfl, rfl, rfl⟩, rfl, rfl⟩ := h3
  exact ⟨g, o, h1, h2, h4, h5, h6⟩

def pairs (xs : List R3) : List (Nat × R3) := (List.range xs.length).map fun k => (k, xs.getD k ⟨none, 0, 0, 0, false⟩)
theorem pairs_len (xs : List R3) : (pairs xs).length = xs.length := by simp [pairs]
theorem pairs_at {xs : List R3} {k : Nat} {x : R3} (h : xs[k]? = some x) : (pairs xs)[k]? = some (k, x) := by
  have hk := (List.getElem?_eq_some_iff.1 h).1
  unfold pairs
  rw [List.getElem?_map, List.getElem?_range hk]
  simp [List.getD, h]
theorem take_snoc {α : Type} {l : List α} {k : Nat} {x : α} (h : l[k]? = some x) : l.take k ++ [x] = l.take (k + 1) := by rw [List.take_add_one, h]; rfl
def encP (x : Nat × R3) : Array Value := #[.int .i64 (x.1 : Int), r3V x.2]

def spotV (b : Nat) (f : Nat) : Value := .agg #[.pointer (some ⟨b, 0, none⟩), .int .i64 (f : Int)]

abbrev pbox (b : Nat) : Value := .pointer (some ⟨b, 0, none⟩)
abbrev fnv (k : Nat) : Value := .func (.func k) #[] #[]

theorem allocs_w : ∀ (os : List Obj) (w : World), Below w.heap.size w (os.foldl World.alloc w) ∧ (os.foldl World.alloc w).heap.size = w.heap.size + os.length ∧ ∀ i, i < os.length → (os.foldl World.alloc w).heap[w.heap.size + i]? = os[i]?
  | [], w => ⟨Below.refl _ _, rfl, fun i h => by simp at h⟩
  | o :: os, w => by
    obtain ⟨h1, h2, h3⟩ := allocs_w os (w.alloc o)
    rw [World.size_alloc] at h1 h2 h3
    have hb := t_al w o
    refine ⟨hb.trans (h1.mono (by omega)), by rw [List.foldl_cons, h2, List.length_cons]; omega, fun i hi => ?_⟩
    rw [List.foldl_cons]
    match i with
    | 0 => exact (h1.block _ (by omega)).trans (World.alloc_heap_new w o)
    | i + 1 =>
      rw [show w.heap.size + (i + 1) = w.heap.size + 1 + i by omega]
      exact h3 i (by simp at hi; omega)

theorem Same.lt {D : Bls} {w W : World} (h : Same D w W) (hD : Have D w) {k : Nat} (hk : D k) : k < W.heap.size := by
  have h1 := h k hk
  rw [Array.getElem?_eq_getElem (hD k hk)] at h1
  exact lt_of_at h1
/-- What a loop over an iterator within an iterator keeps, beside its own word: the blocks of D1, and what lies below n₀. -/
def Keep {α β : Type} (J : β → Bls → World → Prop) (f : α → β) (D1 : Bls) (w2 : World) (n₀ : Nat) : α → Bls → World → Prop :=
  fun s E W => (∀ k, E k → n₀ ≤ k ∧ ¬ D1 k) ∧ Below n₀ w2 W ∧ Same D1 w2 W ∧ J (f s) (fun k => E k ∨ D1 k) W
theorem Keep.firm {α β : Type} {J : β → Bls → World → Prop} (hJ : Firm J) (f : α → β) {D1 : Bls} {w2 : World} {n₀ : Nat} (hn : n₀ ≤ w2.heap.size) (hD : Have D1 w2) : Firm (Keep J f D1 w2 n₀) := by
  rintro s D D' W W' ⟨h1, h2, h3, h4⟩ hm hd
  have hsz := h2.size
  refine ⟨fun k hk => (hd k hk).elim (h1 k) (fun h => ⟨by omega, fun h' => by have := hD k h'; omega⟩), ⟨hm.os.trans h2.os, hm.tape.trans h2.tape, hm.output.trans h2.output, Nat.le_trans h2.size hm.size, fun k hk => (hm.block k (by omega) (fun h => by have := (h1 k h).1; omega)).trans (h2.block k hk)⟩, fun k hk => (hm.block k (h3.lt hD hk) (fun h => (h1 k h).2 hk)).trans (h3 k hk), hJ _ _ _ _ _ h4 (hm.mono fun _ h => .inl h) (fun k hk => hk.elim (fun h => (hd k h).elim (fun h => .inl (.inl h)) .inr) (fun h => .inl (.inr h)))⟩
def KeepX {α γ : Type} (Jx : List γ → Bls → World → Prop) (Sp : α → List γ → Prop) (D1 : Bls) (w2 : World) : Code → α → Bls → World → Prop :=
  fun c s E W => c = .ret ∧ (∀ k, D1 k → ¬ E k) ∧ Same D1 w2 W ∧ ∃ q, Sp s q ∧ Jx q (fun k => E k ∨ D1 k) W
theorem KeepX.firm {α γ : Type} {Jx : List γ → Bls → World → Prop} (hJ : Firm Jx) (Sp : α → List γ → Prop) {D1 : Bls} {w2 : World} (hD : Have D1 w2) (c : Code) : Firm (KeepX (α := α) Jx Sp D1 w2 c) := by
  rintro s D D' W W' ⟨h0, h1, h3, q, hq, h4⟩ hm hd
  refine ⟨h0, fun k hk h => (hd k h).elim (h1 k hk) (fun h => by have := h3.lt hD hk; omega), fun k hk => (hm.block k (h3.lt hD hk) (h1 k hk)).trans (h3 k hk), q, hq, hJ _ _ _ _ _ h4 (hm.mono fun _ h => .inl h) (fun k hk => hk.elim (fun h => (hd k h).elim (fun h => .inl (.inl h)) .inr) (fun h => .inl (.inr h)))⟩
theorem pairs_inv {xs : List R3} {j k : Nat} {x : R3} (h : (pairs xs)[j]? = some (k, x)) : k = j ∧ xs[j]? = some x := by
  have hj := (List.getElem?_eq_some_iff.1 h).1
  rw [pairs_len] at hj
  have h2 : xs[j]? = some xs[j] := List.getElem?_eq_getElem hj
  have h3 := pairs_at h2
  rw [h3] at h
  injection h with h
  injection h with h4 h5
  exact ⟨h4.symm, by rw [h2, h5]⟩
theorem cell_put {V : World} {l b o : Nat} {r : Loop} {x : Obj} {v : Value} (h : V.cell? ⟨b, o, none⟩ = some v) (hl : V.heap[l]? = some (.loop r)) : (V.putObj l x).cell? ⟨b, o, none⟩ = some v :=
  cell_kept h (grownBy_putObj' V l x) (fun r' e => by cases e; exact ⟨_, hl, rfl⟩)

end Go.Proofs.Ytkgakgceamafcaa

namespace Go.Proofs.Ytkgakgceamafcaa
open Go Go.RowKit Go.Shelf
set_option linter.unusedVariables false

/-- An iterator's contract, where the rounds' word tells what the iterator reads. -/
def IterQ {α : Type} (Qr : World → Prop) (F : Fence) (n : Nat) (P : Program) (g : Nat) (lb : Array Value) (encs : α → Array Value) (n₀ : Nat) (S Sp : List α → Prop) (N : List α → α → Prop) (D0 : Bls) (w : World) : Prop :=
  ∀ (l : Nat) (J Jx : List α → Bls → World → Prop) (W : World), Below w.heap.size w W → Firm J → Firm Jx → (∀ s D W1, J s D W1 → Qr W1) →
    (∀ pre x D W1, J pre D W1 → Have D W1 → N pre x → YieldAt F (n - 1) P l (encs x) W1 fun e W' => Same D W1 W' ∧
      ((e = .returned (.bool true) ∧ J (pre ++ [x]) D W' ∧ Below n₀ W1 W') ∨ (e = .returned (.bool false) ∧ Jx (pre ++ [x]) D W'))) →
    J [] D0 W →
    CallsIn F n P g (#[.func (.yield l) #[] #[]] ++ lb) W fun e W' => (∃ v, e = .returned v) ∧ ((∃ xs D, S xs ∧ J xs D W') ∨ (∃ pre D, Sp pre ∧ Jx pre D W'))

theorem range_outerQ {α : Type} {F : Fence} {n : Nat} {P : Program} {g : Operand} {ps : Array Tmp} {assign body : Code} {Q : Exit → Act → World → Prop} {a : Act} {w : World}
    (hro : F.round = none) (h1 : F.depth.isSome = true → 1 ≤ n) {gf : Nat} {lb : Array Value} (hg : a.eval g = .func (.func gf) #[] lb) (hFg : F.fn gf) (eg : ∀ args w, (callFunc gf args).run P w = .ok (.enter gf args) w)
    {encs : α → Array Value} {n₀ : Nat} {S Sp : List α → Prop} {N : List α → α → Prop} {D0 : Bls} {w0 : World} {Qr : World → Prop} (hseq : IterQ Qr F (n - 1) P gf lb encs n₀ S Sp N D0 w0) (hn : n₀ ≤ w.heap.size) (hb0 : Below w0.heap.size w0 w) (hD0 : Have D0 w) (hps : ∀ x, (encs x).size = ps.size)
    (I : List α → Bls → World → Prop) (Ix : Code → List α → Bls → World → Prop) (hI : Firm I) (hIx : ∀ c, Firm (Ix c)) (hQ : ∀ s E W, I s E W → Qr W) (h0 : I [] D0 w) (Ax : α → Act → Bls → World → Prop)
    (hAx : ∀ x a' E V l r o, Ax x a' E V → V.heap[l]? = some (.loop r) → Ax x a' E (V.putObj l o))
    (hassign : ∀ (l : Nat) (pre : List α) (x : α) (E : Bls) (W : World) (K : Act → World → Prop), w.heap.size ≤ l → I pre E W → Have E W → (∀ a' E' W', (∀ k, E k → E' k) → Have E' W' → Same E W W' → Below n₀ W W' → I pre E' W' → Ax x a' E' W' → K a' W') →
      assign.wpIn (F.inRound l) (n - 1 - 1) P (Exit.then K (fun _ _ _ => False)) { tmps := (ps.zip (encs x)).foldl (fun t (p, v) => t.setIfInBounds p v) a.tmps, defers := [] } W)
    (hbody : ∀ (l : Nat) (pre : List α) (x : α) (a' : Act) (E : Bls) (W : World), E l → (∃ r, W.heap[l]? = some (.loop r)) → Have E W → I pre E W → Ax x a' E W → N pre x → body.wpIn (F.inRound l) (n - 1 - 1) P (roundPost n₀ E I Ix (pre ++ [x]) W) a' W)
    (hdone : ∀ (d : Nat) (xs : List α) (E : Bls) (W : World), w.heap.size ≤ d → E d → S xs → I xs E W → W.heap[d]? = some (.deferred (some [])) → Q .normal { a with defers := { target := .collected d, args := #[] } :: a.defers } W)
    (hstop : ∀ (d : Nat) (c : Code) (pre : List α) (E : Bls) (W : World), w.heap.size ≤ d → E d → Sp pre → Ix c pre E W → W.heap[d]? = some (.deferred (some [])) → c.wpIn F n P Q { a with defers := { target := .collected d, args := #[] } :: a.defers } W) :
    (Code.rangeFunc g ps assign body).wpIn F n P Q a w := by
  refine wpIn_rangeFunc fun fn hfn => ?_
  rw [hro]
  obtain ⟨rec, hrec⟩ : ∃ rec : LoopState → Option Code → Loop, rec = fun st pe => { state := st, pending := pe, fn, tmps := a.tmps, params := ps, assign, body, defers := w.heap.size } := ⟨_, rfl⟩
  have hnew1 := World.alloc_heap_new w (.deferred (some []))
  have hnew2 := World.alloc_heap_new (w.alloc (.deferred (some []))) (.loop (rec .ready none))
  have hol := (t_al (w.alloc (.deferred (some []))) (.loop (rec .ready none))).block w.heap.size (by simp)
  have hsz : ((w.alloc (.deferred (some []))).alloc (.loop (rec .ready none))).heap.size = w.heap.size + 2 := by simp
  have hen := run_enterLoop_outer (P := P) (w := w) fn a.tmps ps assign body
  have hrd : (.loop { state := .ready, pending := none, fn, tmps := a.tmps, params := ps, assign, body, defers := w.heap.size } : Obj) = .loop (rec .ready none) := by rw [hrec]
  rw [hrd] at hen
  have hbw : Below w.heap.size w ((w.alloc (.deferred (some []))).alloc (.loop (rec .ready none))) := (t_al w _).trans ((t_al _ _).mono (by simp))
  generalize (w.alloc (.deferred (some []))).alloc (.loop (rec .ready none)) = V at *
  rw [World.size_alloc] at hnew2
  have hD : V.heap[w.heap.size]? = some (.deferred (some [])) := hol.trans hnew1
  obtain ⟨L, hL⟩ : ∃ L : Bls, L = fun k => k = w.heap.size ∨ k = w.heap.size + 1 := ⟨_, rfl⟩
  have L0 : L w.heap.size := by rw [hL]; exact .inl rfl
  have L1 : L (w.heap.size + 1) := by rw [hL]; exact .inr rfl
  have Lx : ∀ k, L k → k = w.heap.size ∨ k = w.heap.size + 1 := fun k hk => by rw [hL] at hk; exact hk
  clear hL hol hnew1 hrd
  have hI1 : I [] (fun k => D0 k ∨ L k) V := hI _ _ _ _ _ h0 (Moves.below hbw) (fun k hk => hk.elim .inl (fun h => .inr (by rcases Lx k h with h | h <;> omega)))
  refine ⟨w.heap.size + 1, _, V, { target := .fn (.func gf) lb, args := #[.func (.yield (w.heap.size + 1)) #[] #[]] }, V, gf, #[.func (.yield (w.heap.size + 1)) #[] #[]] ++ lb, V, hen, by simp only [resolve, hg]; simp [go_sem], ?_, by simp [invoke, go_sem, eg], h1, ?_⟩
  · intro f' hf'; simp [Target.leads] at hf'; subst hf'; exact hFg
  have firm {β : Type} {Y : β → Bls → World → Prop} (hY : Firm Y) (st : LoopState) (pe : Option Code) : Firm (fun (pre : β) (D : Bls) (W : World) => Y pre (fun k => D k ∨ L k) W ∧ W.heap[w.heap.size + 1]? = some (.loop (rec st pe)) ∧ W.heap[w.heap.size]? = some (.deferred (some [])) ∧ (∀ k, L k → ¬ D k)) := by
    rintro s D D' A A' ⟨h1, h2, h3, h4⟩ hm hd
    refine ⟨hY _ _ _ _ _ h1 (hm.mono fun _ h => .inl h) (fun k hk => hk.elim (fun h => (hd k h).elim (fun h => .inl (.inl h)) .inr) (fun h => .inl (.inr h))), (hm.block _ (lt_of_at h2) (h4 _ L1)).trans h2, (hm.block _ (lt_of_at h3) (h4 _ L0)).trans h3, fun k hk hD' => ?_⟩
    rcases hd k hD' with h | h
    · exact h4 k hk h
    · have i1 := lt_of_at h2
      have i2 := lt_of_at h3
      rcases Lx k hk with e | e <;> omega
  refine (hseq (w.heap.size + 1)
    (fun pre D W => I pre (fun k => D k ∨ L k) W ∧ W.heap[w.heap.size + 1]? = some (.loop (rec .ready none)) ∧ W.heap[w.heap.size]? = some (.deferred (some [])) ∧ (∀ k, L k → ¬ D k))
    (fun pre D W => ∃ c, Ix c pre (fun k => D k ∨ L k) W ∧ W.heap[w.heap.size + 1]? = some (.loop (rec .done (some c))) ∧ W.heap[w.heap.size]? = some (.deferred (some [])) ∧ (∀ k, L k → ¬ D k))
    V (hb0.trans (hbw.mono hb0.size)) (firm hI _ _)
    (fun s D D' A A' ⟨c, hs⟩ hm hd => ⟨c, firm (hIx c) _ _ s D D' A A' hs hm hd⟩) (fun s D W h => hQ s _ W h.1) ?_ ⟨hI1, hnew2, hD, fun k hk hd => by have := hD0 k hd; rcases Lx k hk with e | e <;> omega⟩).mono ?_
  · rintro pre x D W ⟨hi, hl, hk, hLD⟩ hbd hN
    refine (round_of hrec hfn hps (by omega) hl (D := fun k => D k ∨ L k) (.inr L1) (fun k h => h.elim (hbd k) (fun h => by rcases Lx k h with e | e; rw [e]; exact lt_of_at hk; rw [e]; exact lt_of_at hl)) I Ix hI hIx Ax (fun x a' E V r o => hAx x a' E V _ r o) (fun pre x E W K => hassign _ pre x E W K (by omega)) (fun pre x a' E W => hbody _ pre x a' E W) pre x hi hN).mono ?_
    rintro e W' ⟨hs, (⟨rfl, h2, h3, h4⟩ | ⟨rfl, c, h2, h3⟩)⟩
    · exact ⟨fun k hkD => hs k (.inl hkD) (fun e => hLD _ L1 (by rw [e] at hkD; exact hkD)), .inl ⟨rfl, ⟨h2, h3, (hs _ (.inr L0) (by omega)).trans hk, hLD⟩, h4⟩⟩
    · exact ⟨fun k hkD => hs k (.inl hkD) (fun e => hLD _ L1 (by rw [e] at hkD; exact hkD)), .inr ⟨rfl, c, h2, h3, (hs _ (.inr L0) (by omega)).trans hk, hLD⟩⟩
  · rintro e W2 ⟨⟨v, rfl⟩, (⟨xs, D, hS, hi, hl, hk, _⟩ | ⟨pre, D, hSp, c, hi, hl, hk, _⟩)⟩
    · have he := run_endLoop (P := P) hl (by rw [hrec]; simp)
      rw [hrec] at he
      exact ⟨none, _, he, hdone _ xs _ _ (Nat.le_refl _) (.inr L0) hS (hI.go hi (Moves.put _ (.inr L1))) ((World.putObj_heap_other (by omega)).trans hk)⟩
    · have he := run_endLoop (P := P) hl (by rw [hrec]; simp)
      rw [hrec] at he
      exact ⟨some c, _, he, hstop _ c pre _ _ (Nat.le_refl _) (.inr L0) hSp ((hIx c).go hi (Moves.put _ (.inr L1))) ((World.putObj_heap_other (by omega)).trans hk)⟩


end Go.Proofs.Ytkgakgceamafcaa
