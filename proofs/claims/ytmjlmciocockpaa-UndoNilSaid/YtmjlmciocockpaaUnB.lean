/-
  A tree of states in memory; what lies beside it stays; its lookups.
-/
import Derived.Test.YtmjlmciocockpaaUnA
namespace Go.Proofs.Ytmjlmciocockpaa
open Go Go.RowKit Go.Shelf
set_option linter.unusedVariables false

/-- A state's place as a map's element. -/
def pel : Value → Option (DataW Unit × List MemPlace)
  | .pointer none => some (dI (-1), [])
  | .pointer (some ⟨b, 0, none⟩) => some (dI b, [])
  | _ => none
theorem pel_box (b : Nat) : pel (pbox b) = some (dI b, []) := rfl
theorem pel_inv {v : Value} {b : Nat} {ps : List MemPlace} (h : pel v = some (dI b, ps)) : v = pbox b := by
  unfold pel at h
  split at h
  · have := (Prod.mk.inj (Option.some.inj h)).1
    unfold dI at this
    simp at this
  · have := (Prod.mk.inj (Option.some.inj h)).1
    unfold dI at this
    rename_i b'
    simp at this
    have e : b' = b := by omega
    subst e
    rfl
  · cases h
theorem pel_none {v : Value} {ps : List MemPlace} (h : pel v = some (dI (-1), ps)) : v = .pointer none := by
  unfold pel at h
  split at h
  · rfl
  · have := (Prod.mk.inj (Option.some.inj h)).1
    unfold dI at this
    simp at this
  · cases h

/-- A state: its number, its parent, its next one, its block, its delta. -/
structure Sn where
  n : Int
  up : Int
  nx : Int
  b : Nat
  d : Value
abbrev stC (x : Sn) : Array Value := #[.int .i64 x.up, .int .i64 x.nx, x.d]

/-- A tree of states: its box at T, what it has at s, its map m, its queue q; all above B. -/
structure Us (w : World) (B T s m q : Nat) (t : Qt) (R : List Int) (D : DataW Unit) (L : List Sn) (here last : Int) : Prop where
  box : w.heap[T]? = some (.cells #[pbox s] 43 (0, 0))
  sta : w.heap[s]? = some (.cells #[.map (some m), pbox q, .int .i64 here, .int .i64 last] 50 (0, 0))
  map : w.ownsMap Try.prog 3 pel m L.length D
  siz : Maps.size D = L.length
  que : QIn w q t R
  sts : ∀ x ∈ L, Maps.has D (kI x.n) = true ∧ D.atKey (kI x.n) (dI (-1)) = dI x.b ∧ w.heap[x.b]? = some (.cells (stC x) 61 (0, 0)) ∧ Wf x.n
  non : ∀ z, (∀ x ∈ L, x.n ≠ z) → Maps.has D (kI z) = false
  inj : ∀ x ∈ L, ∀ y ∈ L, x.b = y.b → x = y
  mne : ¬ inQ q t m
  lo : B ≤ T ∧ B ≤ s ∧ B ≤ m ∧ (∀ b, inQ q t b → B ≤ b) ∧ ∀ x ∈ L, B ≤ x.b

theorem inQ_not {w : World} {q b : Nat} {t : Qt} {R : List Int} {cs : Array Value} {T : TypeId} {fr : Nat × Nat} (h : QIn w q t R) (hb : w.heap[b]? = some (.cells cs T fr)) (h1 : T ≠ 75) (h2 : T ≠ 72) (h3 : T ≠ 3) : ¬ inQ q t b := by
  intro hi
  rcases t with _ | ⟨p, m, g⟩
  · rcases hi with rfl | ⟨p, m, g, e, _⟩
    · rw [h.1] at hb
      injection hb with hb
      injection hb with _ e _
      exact h1 e.symm
    · cases e
  · obtain ⟨k1, _, c, D, k2⟩ := h
    rcases hi with rfl | ⟨p', m', g', e, hi⟩
    · rw [k1] at hb
      injection hb with hb
      injection hb with _ e _
      exact h1 e.symm
    · injection e with e; injection e with e1 e2; injection e2 with e2 e3
      subst e1; subst e2; subst e3
      rcases hi with rfl | rfl | hi
      · rw [k2.box] at hb
        injection hb with hb
        injection hb with _ e _
        exact h2 e.symm
      · obtain ⟨es, clock, hm⟩ := k2.map.obj
        rw [hm] at hb
        cases hb
      · exact own_ne k2.own hb (fun e => h3 e.symm) (by rw [adr_own]; exact hi)

theorem Us.mobj {w : World} {B T s m q : Nat} {t : Qt} {R : List Int} {D : DataW Unit} {L : List Sn} {here last : Int} (h : Us w B T s m q t R D L here last) : ∃ es clock, w.heap[m]? = some (.map es clock) := by
  obtain ⟨es, clock, hb, _⟩ := h.map
  exact ⟨es, clock, hb⟩
theorem Us.ne {w : World} {B T s m q : Nat} {t : Qt} {R : List Int} {D : DataW Unit} {L : List Sn} {here last : Int} (h : Us w B T s m q t R D L here last) :
    T ≠ s ∧ T ≠ m ∧ s ≠ m ∧ (∀ x ∈ L, x.b ≠ T ∧ x.b ≠ s ∧ x.b ≠ m) ∧ ¬ inQ q t T ∧ ¬ inQ q t s ∧ ∀ x ∈ L, ¬ inQ q t x.b := by
  obtain ⟨es, clock, hm⟩ := h.mobj
  refine ⟨fun e => ?_, fun e => ?_, fun e => ?_, fun x hx => ⟨fun e => ?_, fun e => ?_, fun e => ?_⟩, inQ_not h.que h.box (by decide) (by decide) (by decide), inQ_not h.que h.sta (by decide) (by decide) (by decide), fun x hx => inQ_not h.que (h.sts x hx).2.2.1 (by decide) (by decide) (by decide)⟩
  · have := h.box; rw [e, h.sta] at this; simp at this
  · have := h.box; rw [e, hm] at this; cases this
  · have := h.sta; rw [e, hm] at this; cases this
  · have := (h.sts x hx).2.2.1; rw [e, h.box] at this; simp at this
  · have := (h.sts x hx).2.2.1; rw [e, h.sta] at this; simp at this
  · have := (h.sts x hx).2.2.1; rw [e, hm] at this; cases this
theorem Us.lt {w : World} {B T s m q : Nat} {t : Qt} {R : List Int} {D : DataW Unit} {L : List Sn} {here last : Int} (h : Us w B T s m q t R D L here last) :
    T < w.heap.size ∧ s < w.heap.size ∧ m < w.heap.size ∧ (∀ b, inQ q t b → b < w.heap.size) ∧ ∀ x ∈ L, x.b < w.heap.size :=
  ⟨lt_of_heap h.box, lt_of_heap h.sta, h.map.lt, h.que.lt, fun x hx => lt_of_heap (h.sts x hx).2.2.1⟩
/-- Where its blocks stay, it stays. -/
theorem Us.same {w w' : World} {B T s m q : Nat} {t t' : Qt} {R R' : List Int} {D : DataW Unit} {L : List Sn} {here last : Int} (h : Us w B T s m q t R D L here last) (hT : w'.heap[T]? = w.heap[T]?) (hs : w'.heap[s]? = w.heap[s]?) (hm : w'.heap[m]? = w.heap[m]?) (hx : ∀ x ∈ L, w'.heap[x.b]? = w.heap[x.b]?)
    (hq : QIn w' q t' R') (hmn : ¬ inQ q t' m) (hlo : ∀ b, inQ q t' b → B ≤ b) : Us w' B T s m q t' R' D L here last := by
  refine ⟨hT.trans h.box, hs.trans h.sta, ?_, h.siz, hq, fun x hxl => ?_, h.non, h.inj, hmn, ⟨h.lo.1, h.lo.2.1, h.lo.2.2.1, hlo, h.lo.2.2.2.2⟩⟩
  · obtain ⟨es, clock, hb, r⟩ := h.map
    exact ⟨es, clock, hm.trans hb, r⟩
  · obtain ⟨h1, h2, h3, h4⟩ := h.sts x hxl
    exact ⟨h1, h2, (hx x hxl).trans h3, h4⟩
theorem Us.below {w w' : World} {B T s m q : Nat} {t : Qt} {R : List Int} {D : DataW Unit} {L : List Sn} {here last : Int} (h : Us w B T s m q t R D L here last) (hb : Below w.heap.size w w') : Us w' B T s m q t R D L here last := by
  obtain ⟨l1, l2, l3, l4, l5⟩ := h.lt
  exact h.same (hb.block _ l1) (hb.block _ l2) (hb.block _ l3) (fun x hx => hb.block _ (l5 x hx)) (h.que.below hb) h.mne h.lo.2.2.2.1
theorem Us.mq {w w' : World} {B T s m q : Nat} {t t' : Qt} {R R' : List Int} {D : DataW Unit} {L : List Sn} {here last : Int} (h : Us w B T s m q t R D L here last) (hq : QIn w' q t' R') (hm : Mq q t t' w w') (hB : B ≤ w.heap.size) : Us w' B T s m q t' R' D L here last ∧ Below B w w' := by
  obtain ⟨l1, l2, l3, l4, l5⟩ := h.lt
  obtain ⟨_, _, _, _, n1, n2, n3⟩ := h.ne
  refine ⟨h.same (hm.rest _ l1 n1) (hm.rest _ l2 n2) (hm.rest _ l3 h.mne) (fun x hx => hm.rest _ (l5 x hx) (n3 x hx)) hq (fun e => ?_) (hm.base h.lo.2.2.2.1 hB), hm.below h.lo.2.2.2.1 hB⟩
  rcases hm.new m e with e' | e'
  · exact h.mne e'
  · omega

/-- What a lookup tells. -/
theorem Us.look {w : World} {B T s m q : Nat} {t : Qt} {R : List Int} {D : DataW Unit} {L : List Sn} {here last : Int} (h : Us w B T s m q t R D L here last) {x : Sn} (hx : x ∈ L) :
    (Instr.lookup 47 (.map (some m)) (.int .i64 x.n) false).run Try.prog w = .ok (pbox x.b) w ∧ (Instr.lookup 47 (.map (some m)) (.int .i64 x.n) true).run Try.prog w = .ok (.tuple #[pbox x.b, .bool true]) w := by
  obtain ⟨h1, h2, h3, h4⟩ := h.sts x hx
  constructor
  · obtain ⟨v, ps, hr, hv⟩ := World.ownsMap.lookup (t := 47) h.map lawI Try.underlying47 (zeroS w) (zd := dI (-1)) (zp := []) rfl (keyI h4)
    rw [h2] at hv
    rw [hr, pel_inv hv]
  · obtain ⟨v, ps, hr, hv⟩ := World.ownsMap.look_ok (t := 47) h.map lawI Try.underlying47 (zeroS w) (zd := dI (-1)) (zp := []) rfl (keyI h4)
    rw [h2] at hv
    rw [hr, pel_inv hv, h1]
theorem Us.llen {w : World} {B T s m q : Nat} {t : Qt} {R : List Int} {D : DataW Unit} {L : List Sn} {here last : Int} (h : Us w B T s m q t R D L here last) (ty : TypeId) :
    (Builtin.len_ #[47] ty #[.map (some m)]).run Try.prog w = .ok (.int .i64 L.length) w := by
  have := World.ownsMap.len (t := 47) h.map Try.underlying47 ty
  rwa [h.siz] at this
theorem Us.cells {w : World} {B T s m q : Nat} {t : Qt} {R : List Int} {D : DataW Unit} {L : List Sn} {here last : Int} (h : Us w B T s m q t R D L here last) :
    w.cell? ⟨T, 0, none⟩ = some (pbox s) ∧ w.cell? ⟨s, 0, none⟩ = some (.map (some m)) ∧ w.cell? ⟨s, 1, none⟩ = some (pbox q) ∧ w.cell? ⟨s, 2, none⟩ = some (.int .i64 here) ∧ w.cell? ⟨s, 3, none⟩ = some (.int .i64 last) ∧ w.frozen? ⟨s, 2, none⟩ = false ∧ w.frozen? ⟨s, 3, none⟩ = false :=
  ⟨by rw [cell_at h.box]; rfl, by rw [cell_at h.sta]; rfl, by rw [cell_at h.sta]; rfl, by rw [cell_at h.sta]; rfl, by rw [cell_at h.sta]; rfl, unfrozen h.sta 2, unfrozen h.sta 3⟩
theorem Us.state {w : World} {B T s m q : Nat} {t : Qt} {R : List Int} {D : DataW Unit} {L : List Sn} {here last : Int} (h : Us w B T s m q t R D L here last) {x : Sn} (hx : x ∈ L) :
    w.cell? ⟨x.b, 0, none⟩ = some (.int .i64 x.up) ∧ w.cell? ⟨x.b, 1, none⟩ = some (.int .i64 x.nx) ∧ w.cell? ⟨x.b, 2, none⟩ = some x.d ∧ w.frozen? ⟨x.b, 1, none⟩ = false := by
  have h3 := (h.sts x hx).2.2.1
  exact ⟨by rw [cell_at h3]; rfl, by rw [cell_at h3]; rfl, by rw [cell_at h3]; rfl, unfrozen h3 1⟩

/-- The number of what is here, or the last one, turns. -/
theorem Us.put {w : World} {B T s m q : Nat} {t : Qt} {R : List Int} {D : DataW Unit} {L : List Sn} {here last : Int} (h : Us w B T s m q t R D L here last) (x : Int) :
    Us (w.setCell ⟨s, 2, none⟩ (.int .i64 x)) B T s m q t R D L x last ∧ Us (w.setCell ⟨s, 3, none⟩ (.int .i64 x)) B T s m q t R D L here x := by
  obtain ⟨e1, e2, e3, e4, e5, e6, e7⟩ := h.ne
  have hq : ∀ (o : Nat), QIn (w.setCell ⟨s, o, none⟩ (.int .i64 x)) q t R := fun o => h.que.same fun b hb => heap_set_other (fun e => e6 (e ▸ hb))
  refine ⟨⟨?_, ?_, h.map.setCell (a := ⟨s, 2, none⟩) (Ne.symm e3) _, h.siz, hq 2, fun y hy => ?_, h.non, h.inj, h.mne, h.lo⟩, ⟨?_, ?_, h.map.setCell (a := ⟨s, 3, none⟩) (Ne.symm e3) _, h.siz, hq 3, fun y hy => ?_, h.non, h.inj, h.mne, h.lo⟩⟩
  · rw [heap_set_other e1]; exact h.box
  · rw [heap_set_at h.sta]; rfl
  · obtain ⟨h1, h2, h3, h4⟩ := h.sts y hy
    exact ⟨h1, h2, by rw [heap_set_other (e4 y hy).2.1]; exact h3, h4⟩
  · rw [heap_set_other e1]; exact h.box
  · rw [heap_set_at h.sta]; rfl
  · obtain ⟨h1, h2, h3, h4⟩ := h.sts y hy
    exact ⟨h1, h2, by rw [heap_set_other (e4 y hy).2.1]; exact h3, h4⟩

/-- A state's next one turns. -/
def setN (x : Sn) (n : Int) : Sn := { x with nx := n }
def setX (L : List Sn) (b : Nat) (n : Int) : List Sn := L.map fun x => if x.b = b then setN x n else x
theorem setX_len (L : List Sn) (b : Nat) (n : Int) : (setX L b n).length = L.length := List.length_map _
theorem setX_mem {L : List Sn} {b : Nat} {n : Int} {x : Sn} (h : x ∈ setX L b n) : ∃ y ∈ L, x.n = y.n ∧ x.up = y.up ∧ x.b = y.b ∧ x.d = y.d ∧ x.nx = if y.b = b then n else y.nx := by
  obtain ⟨y, hy, rfl⟩ := List.mem_map.1 h
  refine ⟨y, hy, ?_⟩
  by_cases e : y.b = b
  · rw [if_pos e]
    exact ⟨rfl, rfl, rfl, rfl, (if_pos e).symm⟩
  · rw [if_neg e]
    exact ⟨rfl, rfl, rfl, rfl, (if_neg e).symm⟩
theorem Us.setNx {w : World} {B T s m q : Nat} {t : Qt} {R : List Int} {D : DataW Unit} {L : List Sn} {here last : Int} (h : Us w B T s m q t R D L here last) {y : Sn} (hy : y ∈ L) (n : Int) :
    Us (w.setCell ⟨y.b, 1, none⟩ (.int .i64 n)) B T s m q t R D (setX L y.b n) here last := by
  obtain ⟨e1, e2, e3, e4, e5, e6, e7⟩ := h.ne
  obtain ⟨f1, f2, f3⟩ := e4 y hy
  refine ⟨?_, ?_, ?_, by rw [setX_len]; exact h.siz, h.que.same fun b hb => heap_set_other (fun e => e7 y hy (e ▸ hb)), fun x hx => ?_, fun z hz => h.non z fun x hx => ?_, fun x hx x' hx' e => ?_, h.mne, ⟨h.lo.1, h.lo.2.1, h.lo.2.2.1, h.lo.2.2.2.1, fun x hx => ?_⟩⟩
  · rw [heap_set_other (Ne.symm f1)]; exact h.box
  · rw [heap_set_other (Ne.symm f2)]; exact h.sta
  · rw [setX_len]; exact h.map.setCell (a := ⟨y.b, 1, none⟩) (Ne.symm f3) _
  · obtain ⟨z, hz, g1, g2, g3, g4, g5⟩ := setX_mem hx
    obtain ⟨h1, h2, h3, h4⟩ := h.sts z hz
    refine ⟨by rw [g1]; exact h1, by rw [g1, g3]; exact h2, ?_, by rw [g1]; exact h4⟩
    by_cases e : z.b = y.b
    · rw [g3, e]
      obtain rfl := h.inj z hz y hy e
      rw [heap_set_at h3]
      rw [if_pos rfl] at g5
      show some (Obj.cells #[.int .i64 z.up, .int .i64 n, z.d] _ _) = some (Obj.cells #[.int .i64 x.up, .int .i64 x.nx, x.d] _ _)
      rw [g2, g4, g5]
    · rw [if_neg e] at g5
      rw [g3, heap_set_other e, h3]
      show some (Obj.cells #[.int .i64 z.up, .int .i64 z.nx, z.d] _ _) = some (Obj.cells #[.int .i64 x.up, .int .i64 x.nx, x.d] _ _)
      rw [g2, g4, g5]
  · have : (if x.b = y.b then setN x n else x) ∈ setX L y.b n := List.mem_map.2 ⟨x, hx, rfl⟩
    have := hz _ this
    by_cases e : x.b = y.b
    · rw [if_pos e] at this; exact this
    · rw [if_neg e] at this; exact this
  · obtain ⟨z, hz, rfl⟩ := List.mem_map.1 hx
    obtain ⟨z', hz', rfl⟩ := List.mem_map.1 hx'
    have e' : z.b = z'.b := by
      have k1 : ∀ u : Sn, (if u.b = y.b then setN u n else u).b = u.b := fun u => by split <;> rfl
      simp only [k1] at e
      exact e
    rw [h.inj z hz z' hz' e']
  · obtain ⟨z, hz, _, _, g3, _⟩ := setX_mem hx
    rw [g3]; exact h.lo.2.2.2.2 z hz

end Go.Proofs.Ytmjlmciocockpaa
