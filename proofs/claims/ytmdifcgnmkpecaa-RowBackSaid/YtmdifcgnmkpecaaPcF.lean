/-
  The contracts of piece's Slice: its closure, each and place; at this seat's numbers.
-/
import Derived.Test.YtmdifcgnmkpecaaPieC
import Derived.Test.YtmdifcgnmkpecaaPcP
import Derived.Deep.RegionHeldLaw
import Derived.Deep.AppendLies
namespace Go.Proofs.Ytmdifcgnmkpecaa
open Go Go.RowKit
set_option linter.unusedVariables false

/-- A text in memory, from a block on: its places. -/
def TxB (B : Nat) (w : World) (v : Value) (t : List Int) : Prop := ∃ a c, v = .slice a (canon t).length c ∧ Rd w 2 a (canon t).length (spC (canon t)) ∧ Sm t ∧ (∀ d, a = some d → B ≤ d.block) ∧ (a = none → c = 0) ∧ (∀ d, a = some d → ∃ cs, w.heap[d.block]? = some (.cells cs 39 (0, 0)))
abbrev Tx (w : World) (v : Value) (t : List Int) : Prop := TxB 0 w v t
theorem TxB.below {B : Nat} {w w' : World} {v : Value} {t : List Int} (h : TxB B w v t) (hb : Below w.heap.size w w') : TxB B w' v t := by
  obtain ⟨a, c, h1, h2, h3, h4, h5, h6⟩ := h
  exact ⟨a, c, h1, h2.below hb, h3, h4, h5, fun d hd => by obtain ⟨cs, h7⟩ := h6 d hd; exact ⟨cs, (hb.block _ (lt_of_heap h7)).trans h7⟩⟩
theorem TxB.mono {B B' : Nat} {w : World} {v : Value} {t : List Int} (h : TxB B' w v t) (hB : B ≤ B') : TxB B w v t := by
  obtain ⟨a, c, h1, h2, h3, h4, h5, h6⟩ := h
  exact ⟨a, c, h1, h2, h3, fun d hd => Nat.le_trans hB (h4 d hd), h5, h6⟩
theorem TxB.tx {B : Nat} {w : World} {v : Value} {t : List Int} (h : TxB B w v t) : Tx w v t := h.mono (Nat.zero_le _)
theorem Rd.set {w : World} {s n : Nat} {a : Option Addr} {xs : List Value} (h : Rd w s a n xs) {b o : Nat} {u : Value} (hb : ∀ d, a = some d → d.block ≠ b) : Rd (w.setCell ⟨b, o, none⟩ u) s a n xs := by
  refine ⟨h.1, fun hn => ?_⟩
  obtain ⟨g, off, rfl, hlt, hc⟩ := h.2 hn
  refine ⟨g, off, rfl, by rw [size_set]; exact hlt, fun j x hj => ?_⟩
  rw [World.cell?_of_block (w := w) (w' := w.setCell ⟨b, o, none⟩ u) (a := ⟨g, off + j, none⟩) (heap_set_other (hb ⟨g, off, none⟩ rfl))]
  exact hc j x hj
theorem TxB.set {B : Nat} {w : World} {v u : Value} {t : List Int} {b o : Nat} (h : TxB B w v t) (hb : b < B) : TxB B (w.setCell ⟨b, o, none⟩ u) v t := by
  obtain ⟨a, c, h1, h2, h3, h4, h5, h6⟩ := h
  exact ⟨a, c, h1, h2.set (fun d hd => by have := h4 d hd; omega), h3, h4, h5, fun d hd => by obtain ⟨cs, h7⟩ := h6 d hd; exact ⟨cs, (heap_set_other (by have := h4 d hd; omega)).trans h7⟩⟩
theorem own_formC {w : World} {B sz n c : Nat} {e : TypeId} {a : Option Addr} {xs : List Value} (h : w.ownsRow B e sz (.slice a n c) n xs) : (a = none ∧ n = 0 ∧ c = 0) ∨ ∃ g, a = some ⟨g, 0, none⟩ ∧ B ≤ g ∧ g < w.heap.size := by
  rcases h.2 with ⟨h1, h2⟩ | ⟨g, cap, cur, h1, hb, hg, _⟩
  · simp only [Value.slice.injEq] at h1
    exact .inl ⟨h1.1, by omega, h1.2.2⟩
  · simp only [Value.slice.injEq] at h1
    exact .inr ⟨g, h1.1, hb, lt_of_heap hg⟩
theorem own_cellsAt {w : World} {B sz n c : Nat} {e : TypeId} {d : Addr} {xs : List Value} (h : w.ownsRow B e sz (.slice (some d) n c) n xs) : ∃ cs, w.heap[d.block]? = some (.cells cs e (0, 0)) := by
  rcases h.2 with ⟨h1, h2⟩ | ⟨g, cap, cur, h1, hb, hg, _⟩
  · simp at h1
  · simp only [Value.slice.injEq, Option.some.injEq] at h1
    rw [h1.1]; exact ⟨cur, hg⟩
theorem own_rd {w : World} {B n c s : Nat} {e : TypeId} {a : Option Addr} {xs : List Value} (h : w.ownsRow B e s (.slice a n c) n xs) : Rd w s a n xs := by
  refine ⟨h.1, fun hn => ?_⟩
  rcases own_form h with ⟨_, h0⟩ | ⟨g, rfl, _, hlt⟩
  · omega
  · refine ⟨g, 0, rfl, hlt, fun j u hu => ?_⟩
    have := h.cells (g := g) rfl j u hu
    rwa [Addr.add_lit] at this

theorem heap_turned {B b : Nat} {w w' : World} {e : TypeId} {cs : Array Value} (h : w.heap[b]? = some (.cells cs e (0, 0))) (ht : Turned B w w') (h1 : e ≠ 121) (h2 : e ≠ 5) : w'.heap[b]? = some (.cells cs e (0, 0)) := by
  refine (ht.rest b (lt_of_heap h) (fun cs hc => ?_) (fun cs hc => ?_)).trans h
  · rw [h] at hc; injection hc with hc; injection hc with _ hc; exact h1 hc
  · rw [h] at hc; injection hc with hc; injection hc with _ hc; exact h2 hc
theorem Rd.turned {B : Nat} {w w' : World} {s n : Nat} {a : Option Addr} {xs : List Value} {e : TypeId} (h : Rd w s a n xs) (ht : Turned B w w') (hc : ∀ d, a = some d → ∃ cs, w.heap[d.block]? = some (.cells cs e (0, 0))) (h1 : e ≠ 121) (h2 : e ≠ 5) : Rd w' s a n xs := by
  refine ⟨h.1, fun hn => ?_⟩
  obtain ⟨g, off, rfl, hlt, hx⟩ := h.2 hn
  obtain ⟨cs, hh⟩ := hc _ rfl
  refine ⟨g, off, rfl, Nat.lt_of_lt_of_le hlt ht.size, fun j x hj => ?_⟩
  rw [World.cell?_of_block (w := w) (w' := w') (a := ⟨g, off + j, none⟩) ((heap_turned hh ht h1 h2).trans hh.symm)]
  exact hx j x hj
theorem TxB.turned {B B' : Nat} {w w' : World} {v : Value} {t : List Int} (h : TxB B w v t) (ht : Turned B' w w') : TxB B w' v t := by
  obtain ⟨a, c, h1, h2, h3, h4, h5, h6⟩ := h
  exact ⟨a, c, h1, h2.turned ht h6 (by decide) (by decide), h3, h4, h5, fun d hd => by obtain ⟨cs, h7⟩ := h6 d hd; exact ⟨cs, heap_turned h7 ht (by decide) (by decide)⟩⟩

theorem tof_of {w : World} {a : Option Addr} {c : Nat} {l : List (Int × Int)} (hr : Rd w 2 a l.length (spC l)) (hl : l.length ≤ 100000)
    (h40 : ∀ s ∈ l, In40 s.1 ∧ (1 ≤ s.2 → In40 s.2)) (hs : Sm (ex l)) :
    Calls Try.prog 24 #[.slice a l.length c] w fun e w' => ∃ v', e = .returned (.agg #[v']) ∧ TxB w.heap.size w' v' (ex l) ∧ Below w.heap.size w w' := by
  refine (pof_of hr hl h40 (fun k q hq => ?_)).mono ?_
  · have := ofS_take_ok l hs k q hq
    unfold Ok1 In40; omega
  · rintro e w' ⟨v', rfl, ho, hb⟩
    rw [ofS_canon] at ho
    obtain ⟨a', c', rfl⟩ := own_slice ho
    exact ⟨_, rfl, ⟨a', c', rfl, own_rd ho, hs, fun d hd => by subst hd; rcases own_form ho with ⟨h0, _⟩ | ⟨g, hg, hBg, _⟩ <;> simp_all, fun hd => (by subst hd; rcases own_formC ho with ⟨_, _, h0⟩ | ⟨g, hg, _⟩ <;> simp_all), fun d hd => (by subst hd; exact own_cellsAt ho)⟩, hb⟩

theorem tlen_of {w : World} {v : Value} {t : List Int} (h : Tx w v t) :
    Calls Try.prog 55 #[.agg #[v]] w fun e w' => e = .returned (.int .i64 (t.length : Int)) ∧ Below w.heap.size w w' := by
  obtain ⟨a, c, rfl, hr, hs, _, _⟩ := h
  have hc := canon_count t
  have := plen_of (c := c) hr (by have := hs.1; omega) (fun k => by
    have := lenS_take_ok (canon_full t) (by rw [ex_canon]; exact hs.1) k
    omega)
  rwa [lenS_canon] at this

theorem place_of {w : World} {v : Value} {t : List Int} (i : Int) (h : Tx w v t) (hi : I64 i) :
    Calls Try.prog 60 #[.agg #[v], .int .i64 i] w fun e w' => e = .returned (.int .i64 (plc t.length i)) ∧ Below w.heap.size w w' := by
  have al := below_al w (Obj.cells #[v] 48)
  have HL := Lib.hid (tlen_of (h.below al))
  have HB := Lib.hid al
  have hz0 := al.size
  obtain ⟨a, c, rfl, hr, hs, _, _⟩ := h
  have c0 : (w.alloc (Obj.cells #[Value.slice a (canon t).length c] 48)).cell? ⟨w.heap.size, 0, none⟩ = some (.slice a (canon t).length c) := by rw [cell_at (heap_alloc_new w _)]; rfl
  have hn := hs.1
  obtain ⟨i1, i2⟩ := hi
  clear hr hs al
  go_enter Try.func60, Try.ntmps60
  go_wp2_with fail
  refine HL.out.mono ?_; rintro e w2 ⟨rfl, hb2⟩
  have HB2 := Lib.hid (HB.out.trans (hb2.mono hz0))
  clear hb2
  go_wp2_with fail
  go_ret
  exact ⟨rfl, HB2.out⟩

/-- Blocks made one behind the other. -/
def allocs (w : World) : List Obj → World
  | [] => w
  | o :: l => allocs (w.alloc o) l
theorem allocs_size : ∀ (l : List Obj) (w : World), (allocs w l).heap.size = w.heap.size + l.length
  | [], w => rfl
  | o :: l, w => by rw [allocs, allocs_size l, World.size_alloc, List.length_cons]; omega
theorem allocs_below : ∀ (l : List Obj) (w : World), Below w.heap.size w (allocs w l)
  | [], w => Below.refl _ w
  | o :: l, w => (below_al w o).trans ((allocs_below l (w.alloc o)).mono (by rw [World.size_alloc]; omega))
theorem allocs_at : ∀ (l : List Obj) (w : World) (k : Nat) (o : Obj), l[k]? = some o → (allocs w l).heap[w.heap.size + k]? = some o
  | [], w, k, o, h => by simp at h
  | o :: l, w, 0, o', h => by
    simp only [List.getElem?_cons_zero, Option.some.injEq] at h
    subst h
    rw [allocs, Nat.add_zero, (allocs_below l (w.alloc o)).block w.heap.size (by rw [World.size_alloc]; omega)]
    exact heap_alloc_new w o
  | o :: l, w, k + 1, o', h => by
    rw [List.getElem?_cons_succ] at h
    have := allocs_at l (w.alloc o) k o' h
    rw [World.size_alloc] at this
    rw [allocs, show w.heap.size + (k + 1) = w.heap.size + 1 + k by omega]
    exact this

end Go.Proofs.Ytmdifcgnmkpecaa
