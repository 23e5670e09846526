/-
  The contract of the arena's Add, at this seat's numbers.
-/
import Derived.Test.YtmjlmciocockpaaArB
namespace Go.Proofs.Ytmjlmciocockpaa
open Go Go.RowKit
set_option linter.unusedVariables false

theorem own_ne {w : World} {B : Nat} {e t : TypeId} {size n : Nat} {v : Value} {xs : List Value} {b : Nat} {cs : Array Value} {fr : Nat × Nat} (h : w.ownsRow B e size v n xs) (hb : w.heap[b]? = some (.cells cs t fr)) (hne : e ≠ t) : v.ownBlock ≠ some b := by
  rcases h.2 with ⟨rfl, _⟩ | ⟨g, cap, cur, rfl, _, hh, _⟩
  · simp [Value.ownBlock]
  · intro he
    have : g = b := by simpa [Value.ownBlock] using he
    subst this
    rw [hh] at hb
    injection hb with hb
    injection hb with _ ht
    exact hne ht

theorem heap_set_other {w : World} {p b o : Nat} {u : Value} (h : b ≠ p) : (w.setCell ⟨p, o, none⟩ u).heap[b]? = w.heap[b]? := Below.heap_setCell w ⟨p, o, none⟩ u b h
theorem heap_set_at {w : World} {p o : Nat} {u : Value} {cs : Array Value} {t : TypeId} {fr : Nat × Nat} (h : w.heap[p]? = some (.cells cs t fr)) : (w.setCell ⟨p, o, none⟩ u).heap[p]? = some (.cells (cs.setIfInBounds o u) t fr) := by
  simp [World.setCell, Array.getElem?_modify, h]
theorem heap_mid (w : World) (o o' : Obj) : ((w.alloc o).alloc o').heap[w.heap.size]? = some o :=
  ((Below.refl (w.heap.size + 1) (w.alloc o)).alloc (by simp) o').block w.heap.size (by omega) |>.trans (heap_alloc_new w o)
theorem size_set {w : World} {p o : Nat} {u : Value} : (w.setCell ⟨p, o, none⟩ u).heap.size = w.heap.size := by simp [World.setCell]

theorem own_set {w : World} {B : Nat} {e : TypeId} {size n : Nat} {v : Value} {xs : List Value} {b o : Nat} {u : Value} (h : w.ownsRow B e size v n xs) (hne : v.ownBlock ≠ some b) : (w.setCell ⟨b, o, none⟩ u).ownsRow B e size v n xs :=
  h.kept (row := some b) ⟨rfl, rfl, rfl, by rw [size_set]; exact Nat.le_refl _, fun k hk hn => heap_set_other (fun e => hn (by rw [e]))⟩ (.inr hne)
theorem own_below {w w' : World} {base size n : Nat} {e : TypeId} {v : Value} {xs : List Value} (h : w.ownsRow base e size v n xs) (hb : Below w.heap.size w w') : w'.ownsRow base e size v n xs :=
  h.kept (row := none) ⟨hb.os, hb.tape, hb.output, hb.size, fun k hk _ => hb.block k hk⟩ (by cases v.ownBlock <;> simp)
theorem own_turned {B : Nat} {w w' : World} {base size n : Nat} {e : TypeId} {v : Value} {xs : List Value} (h : w.ownsRow base e size v n xs) (ht : Turned B w w') (h1 : e ≠ 160) (h2 : e ≠ 5) : w'.ownsRow base e size v n xs := by
  refine ⟨h.1, ?_⟩
  rcases h.2 with h0 | ⟨g, cap, cur, e1, e2, e3, e4⟩
  · exact .inl h0
  · refine .inr ⟨g, cap, cur, e1, e2, (ht.rest g (lt_of_heap e3) (fun cs hc => ?_) (fun cs hc => ?_)).trans e3, e4⟩
    · rw [e3] at hc; injection hc with hc; injection hc with _ hc; exact h1 hc
    · rw [e3] at hc; injection hc with hc; injection hc with _ hc; exact h2 hc

theorem Ar.set {w : World} {B p : Nat} {l : List UInt8} {b o : Nat} {u : Value} {cs : Array Value} {t : TypeId} (h : Ar w B p l) (hb : w.heap[b]? = some (.cells cs t (0, 0))) (h1 : t ≠ 160) (h2 : t ≠ 5) : Ar (w.setCell ⟨b, o, none⟩ u) B p l := by
  obtain ⟨a, c, e1, e2, e3, e4⟩ := h
  refine ⟨a, c, e1, ?_, own_set e3 (own_ne e3 hb (fun e => h2 e.symm)), e4⟩
  rw [heap_set_other]
  · exact e2
  · rintro rfl
    rw [e2] at hb
    injection hb with hb
    injection hb with _ hb
    exact h1 hb.symm

section
variable {B : Nat} {w0 w w' : World}
theorem Turned.refl (w : World) : Turned B w w := ⟨Below.refl _ _, Nat.le_refl _, fun _ _ _ _ => rfl⟩
theorem Turned.then_below (h : Turned B w0 w) (hb : Below w.heap.size w w') (hB : B ≤ w.heap.size) : Turned B w0 w' := h.trans (Turned.of_below hb hB)
theorem Turned.grown {v : Value} {n : Nat} {xs : List Value} (h : Turned B w0 w) (hB : B ≤ w.heap.size) (ho : w.ownsRow B 5 1 v n xs) (hg : w.grownBy w' v.ownBlock) : Turned B w0 w' :=
  ⟨h.low.grown hg hB (fun k hk => (ho.lt k hk).1), Nat.le_trans h.size hg.size, fun b hb h1 h2 => by
    have e := h.rest b hb h1 h2
    rw [← e]
    refine hg.block b (Nat.lt_of_lt_of_le hb h.size) (fun eb => ?_)
    rcases ho.2 with ⟨rfl, _⟩ | ⟨g, cap, cur, rfl, _, hh, _⟩
    · simp [Value.ownBlock] at eb
    · have : b = g := by simpa [Value.ownBlock] using eb
      subst this
      exact h2 cur (by rw [← e]; exact hh)⟩
theorem Turned.set_new {b o : Nat} {u : Value} (h : Turned B w0 w) (hB : B ≤ w0.heap.size) (hb : w0.heap.size ≤ b) : Turned B w0 (w.setCell ⟨b, o, none⟩ u) :=
  ⟨h.low.setCell (p := ⟨b, o, none⟩) (Nat.le_trans hB hb) u, by rw [size_set]; exact h.size, fun i hi h1 h2 => by rw [heap_set_other (by omega)]; exact h.rest i hi h1 h2⟩
theorem Turned.set_arena {p o : Nat} {u : Value} {cs : Array Value} (h : Turned B w0 w) (hB : B ≤ p) (hp : w.heap[p]? = some (.cells cs 160 (0, 0))) : Turned B w0 (w.setCell ⟨p, o, none⟩ u) :=
  ⟨h.low.setCell (p := ⟨p, o, none⟩) hB u, by rw [size_set]; exact h.size, fun i hi h1 h2 => by
    have e := h.rest i hi h1 h2
    rw [heap_set_other]
    · exact e
    · rintro rfl
      exact h1 cs (by rw [← e]; exact hp)⟩
end

end Go.Proofs.Ytmjlmciocockpaa
