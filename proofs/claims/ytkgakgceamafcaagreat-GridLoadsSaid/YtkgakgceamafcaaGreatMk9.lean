/-
  Texts of this seat, put together (a claim holds few texts): PieC, PcP, PcF, ScP.
-/
import Derived.Test.YtkgakgceamafcaaGreatMk8
import Derived.Lib.SliceRun
import Derived.Deep.RegionHeldLaw
import Derived.Deep.AppendLies

namespace Go.Proofs.YtkgakgceamafcaaGreat
open Go Go.RowKit
set_option linter.unusedVariables false

theorem spC_one (l : List (Int × Int)) : ∀ u ∈ spC l, u.oneCell' = true := by
  intro u hu
  unfold spC at hu
  rw [List.mem_flatMap] at hu
  obtain ⟨s, _, hs⟩ := hu
  simp only [List.mem_cons, List.not_mem_nil, or_false] at hs
  rcases hs with rfl | rfl <;> rfl
theorem own_empty {w : World} {B g : Nat} {e : TypeId} (s : Nat) (hB : B ≤ g) (h : w.heap[g]? = some (.cells #[] e (0, 0))) : w.ownsRow B e s (.slice (some ⟨g, 0, none⟩) 0 0) 0 [] :=
  ⟨by simp, .inr ⟨g, 0, #[], rfl, hB, h, Nat.le_refl _, Nat.zero_le _, by simp, by simp⟩⟩

end Go.Proofs.YtkgakgceamafcaaGreat

set_option linter.unusedVariables false
namespace Go.Proofs.YtkgakgceamafcaaGreat

/-- A text of few places. -/
def Sm (t : List Int) : Prop := t.length ≤ 20000 ∧ ∀ x ∈ t, 0 ≤ x ∧ x ≤ 1073741824

theorem revRec {α : Type} {P : List α → Prop} (nil : P []) (snoc : ∀ l x, P l → P (l ++ [x])) (l : List α) : P l := by
  have h : ∀ (l : List α), P l.reverse := by
    intro l
    induction l with
    | nil => exact nil
    | cons x l ih => rw [List.reverse_cons]; exact snoc _ _ ih
  have := h l.reverse
  rwa [List.reverse_reverse] at this

theorem canon_ok : ∀ (t : List Int), (∀ x ∈ t, 0 ≤ x ∧ x ≤ 1073741824) → ∀ q ∈ canon t, 0 ≤ q.1 ∧ q.1 ≤ 1073741824 ∧ 1 ≤ q.2 ∧ q.2 ≤ (t.length : Int) := by
  intro t
  induction t using revRec with
  | nil => intro _ q hq; simp [canon] at hq
  | snoc t x ih =>
    intro h q hq
    have h0 := ih (fun y hy => h y (by simp [hy]))
    have hx := h x (by simp)
    rw [canon_snoc] at hq
    rw [List.length_append, List.length_singleton]
    rcases glue_cases (canon t) (x, 1) with ⟨hc, hg⟩ | ⟨l, p, hc, hg⟩
    · rw [hg] at hq; simp at hq; subst hq; simp only; omega
    · rw [hg] at hq
      have hp := h0 p (by rw [hc]; simp)
      split at hq
      · rcases List.mem_append.1 hq with hq | hq
        · have := h0 q (by rw [hc]; simp [hq]); omega
        · simp at hq; subst hq; simp only; omega
      · rcases List.mem_append.1 hq with hq | hq
        · have := h0 q (by rw [hc]; exact hq); omega
        · simp at hq; subst hq; simp only; omega

theorem ex_take (l : List Sp) (k : Nat) : ∃ r, ex l = ex (l.take k) ++ r :=
  ⟨ex (l.drop k), by rw [← ex_append, List.take_append_drop]⟩
theorem ofS_take_ok (l : List Sp) (h : Sm (ex l)) (k : Nat) : ∀ q ∈ ofS (l.take k), 0 ≤ q.1 ∧ q.1 ≤ 1073741824 ∧ 1 ≤ q.2 ∧ q.2 ≤ 20000 := by
  intro q hq
  rw [ofS_canon] at hq
  obtain ⟨r, hr⟩ := ex_take l k
  have hl := h.1
  have h1 := canon_ok (ex (l.take k)) (fun x hx => h.2 x (by rw [hr]; simp [hx])) q hq
  rw [hr, List.length_append] at hl
  omega
theorem full_take {l : List Sp} (h : Full l) (k : Nat) : Full (l.take k) := fun q hq => h q (List.mem_of_mem_take hq)
theorem lenS_take_ok {l : List Sp} (h : Full l) (hl : (ex l).length ≤ 20000) (k : Nat) : 0 ≤ lenS (l.take k) ∧ lenS (l.take k) ≤ 20000 := by
  obtain ⟨r, hr⟩ := ex_take l k
  rw [hr, List.length_append] at hl
  rw [lenS_full _ (full_take h k)]
  omega
theorem Sm.nil : Sm [] := ⟨by simp, fun x hx => by simp at hx⟩
theorem Sm.append {t u : List Int} (h : Sm t) (k : Sm u) (hl : t.length + u.length ≤ 20000) : Sm (t ++ u) :=
  ⟨by simp; omega, fun x hx => (List.mem_append.1 hx).elim (h.2 x) (k.2 x)⟩
theorem Sm.slice {t : List Int} (h : Sm t) (i j : Int) : Sm (slI t i j) := by
  have hm : ∀ x ∈ slI t i j, x ∈ t := fun x hx => List.mem_of_mem_take (List.mem_of_mem_drop hx)
  refine ⟨?_, fun x hx => h.2 x (hm x hx)⟩
  have h1 : (slI t i j).length ≤ t.length := by unfold slI; simp only [List.length_drop, List.length_take]; omega
  have := h.1
  omega
theorem slI_len_le (t : List Int) (i j : Int) : (slI t i j).length ≤ t.length := by unfold slI; simp only [List.length_drop, List.length_take]; omega
theorem canon_at_bounds {t : List Int} (h : Sm t) : ∀ q ∈ canon t, 0 ≤ q.1 ∧ q.1 ≤ 1073741824 ∧ 1 ≤ q.2 ∧ q.2 ≤ 20000 := by
  intro q hq
  have := canon_ok t h.2 q hq
  have := h.1
  omega
theorem plc_in (n : Nat) (i : Int) : 0 ≤ plc n i ∧ plc n i ≤ n := by unfold plc; omega
theorem delI_app (t : List Int) (i j : Int) : delI t i j = slI t 0 i ++ slI t (max i j) t.length := rfl
theorem parts_take : ∀ (l : List Sp) (f i j : Int) (k : Nat), parts (l.take k) f i j = (parts l f i j).take k
  | [], f, i, j, k => by simp [parts]
  | s :: l, f, i, j, 0 => by simp [parts]
  | s :: l, f, i, j, k + 1 => by simp [parts, parts_take l]
theorem parts_take_succ {l : List Sp} {i j : Int} {k : Nat} (h : k < l.length) : (parts l 0 i j).take (k + 1) = (parts l 0 i j).take k ++ [subS l[k] (i - lenS (l.take k)) (j - lenS (l.take k))] := by
  rw [← parts_take, List.take_succ_eq_append_getElem h, parts_append, parts_take]
  simp [parts]

theorem mem_ex {l : List Sp} {x : Int} (h : x ∈ ex l) : ∃ s ∈ l, s.1 ≤ x ∧ x < s.1 + s.2 := by
  unfold ex at h
  rw [List.mem_flatMap] at h
  obtain ⟨s, hs, hx⟩ := h
  unfold ex1 at hx
  rw [List.mem_map] at hx
  obtain ⟨i, hi, rfl⟩ := hx
  rw [List.mem_range] at hi
  exact ⟨s, hs, by omega, by omega⟩

end Go.Proofs.YtkgakgceamafcaaGreat

namespace Go.Proofs.YtkgakgceamafcaaGreat
open Go Go.RowKit
set_option linter.unusedVariables false

/-- A text in memory, from a block on: its places. -/
def TxB (B : Nat) (w : World) (v : Value) (t : List Int) : Prop := ∃ a c, v = .slice a (canon t).length c ∧ Rd w 2 a (canon t).length (spC (canon t)) ∧ Sm t ∧ (∀ d, a = some d → B ≤ d.block) ∧ (a = none → c = 0) ∧ (∀ d, a = some d → ∃ cs, w.heap[d.block]? = some (.cells cs 59 (0, 0)))
abbrev Tx (w : World) (v : Value) (t : List Int) : Prop := TxB 0 w v t
theorem TxB.below {B : Nat} {w w' : World} {v : Value} {t : List Int} (h : TxB B w v t) (hb : Below w.heap.size w w') : TxB B w' v t := by
  obtain ⟨a, c, h1, h2, h3, h4, h5, h6⟩ := h
  exact ⟨a, c, h1, h2.below hb, h3, h4, h5, fun d hd => by obtain ⟨cs, h7⟩ := h6 d hd; exact ⟨cs, (hb.block _ (lt_of_heap h7)).trans h7⟩⟩
theorem TxB.mono {B B' : Nat} {w : World} {v : Value} {t : List Int} (h : TxB B' w v t) (hB : B ≤ B') : TxB B w v t := by
  obtain ⟨a, c, h1, h2, h3, h4, h5, h6⟩ := h
  exact ⟨a, c, h1, h2, h3, fun d hd => Nat.le_trans hB (h4 d hd), h5, h6⟩
theorem TxB.tx {B : Nat} {w : World} {v : Value} {t : List Int} (h : TxB B w v t) : Tx w v t := h.mono (Nat.zero_le _)
theorem Rd.set {w : World} {s n : Nat} {a : Option Addr} {xs : List Value} (h : Rd w s a n xs) {b o : Nat} {u : Value} (hb : ∀ d, a = some d → d.block ≠ b) : Rd (w.setCell ⟨b, o, none⟩ u) s a n xs := by
  refine ⟨h.1, fun hn => ?_⟩
  obtain ⟨g, off, rfl, hlt, hc⟩ := h.2 hn
  refine ⟨g, off, rfl, by rw [size_set]; exact hlt, fun j x hj => ?_⟩
  rw [World.cell?_of_block (w := w) (w' := w.setCell ⟨b, o, none⟩ u) (a := ⟨g, off + j, none⟩) (heap_set_other (hb ⟨g, off, none⟩ rfl))]
  exact hc j x hj
theorem TxB.set {B : Nat} {w : World} {v u : Value} {t : List Int} {b o : Nat} (h : TxB B w v t) (hb : b < B) : TxB B (w.setCell ⟨b, o, none⟩ u) v t := by
  obtain ⟨a, c, h1, h2, h3, h4, h5, h6⟩ := h
  exact ⟨a, c, h1, h2.set (fun d hd => by have := h4 d hd; omega), h3, h4, h5, fun d hd => by obtain ⟨cs, h7⟩ := h6 d hd; exact ⟨cs, (heap_set_other (by have := h4 d hd; omega)).trans h7⟩⟩
theorem own_formC {w : World} {B sz n c : Nat} {e : TypeId} {a : Option Addr} {xs : List Value} (h : w.ownsRow B e sz (.slice a n c) n xs) : (a = none ∧ n = 0 ∧ c = 0) ∨ ∃ g, a = some ⟨g, 0, none⟩ ∧ B ≤ g ∧ g < w.heap.size := by
  rcases h.2 with ⟨h1, h2⟩ | ⟨g, cap, cur, h1, hb, hg, _⟩
  · simp only [Value.slice.injEq] at h1
    exact .inl ⟨h1.1, by omega, h1.2.2⟩
  · simp only [Value.slice.injEq] at h1
    exact .inr ⟨g, h1.1, hb, lt_of_heap hg⟩
theorem own_cellsAt {w : World} {B sz n c : Nat} {e : TypeId} {d : Addr} {xs : List Value} (h : w.ownsRow B e sz (.slice (some d) n c) n xs) : ∃ cs, w.heap[d.block]? = some (.cells cs e (0, 0)) := by
  rcases h.2 with ⟨h1, h2⟩ | ⟨g, cap, cur, h1, hb, hg, _⟩
  · simp at h1
  · simp only [Value.slice.injEq, Option.some.injEq] at h1
    rw [h1.1]; exact ⟨cur, hg⟩
theorem own_rd {w : World} {B n c s : Nat} {e : TypeId} {a : Option Addr} {xs : List Value} (h : w.ownsRow B e s (.slice a n c) n xs) : Rd w s a n xs := by
  refine ⟨h.1, fun hn => ?_⟩
  rcases own_form h with ⟨_, h0⟩ | ⟨g, rfl, _, hlt⟩
  · omega
  · refine ⟨g, 0, rfl, hlt, fun j u hu => ?_⟩
    have := h.cells (g := g) rfl j u hu
    rwa [Addr.add_lit] at this

theorem heap_turned {B b : Nat} {w w' : World} {e : TypeId} {cs : Array Value} (h : w.heap[b]? = some (.cells cs e (0, 0))) (ht : Turned B w w') (h1 : e ≠ 124) (h2 : e ≠ 5) : w'.heap[b]? = some (.cells cs e (0, 0)) := by
  refine (ht.rest b (lt_of_heap h) (fun cs hc => ?_) (fun cs hc => ?_)).trans h
  · rw [h] at hc; injection hc with hc; injection hc with _ hc; exact h1 hc
  · rw [h] at hc; injection hc with hc; injection hc with _ hc; exact h2 hc
theorem Rd.turned {B : Nat} {w w' : World} {s n : Nat} {a : Option Addr} {xs : List Value} {e : TypeId} (h : Rd w s a n xs) (ht : Turned B w w') (hc : ∀ d, a = some d → ∃ cs, w.heap[d.block]? = some (.cells cs e (0, 0))) (h1 : e ≠ 124) (h2 : e ≠ 5) : Rd w' s a n xs := by
  refine ⟨h.1, fun hn => ?_⟩
  obtain ⟨g, off, rfl, hlt, hx⟩ := h.2 hn
  obtain ⟨cs, hh⟩ := hc _ rfl
  refine ⟨g, off, rfl, Nat.lt_of_lt_of_le hlt ht.size, fun j x hj => ?_⟩
  rw [World.cell?_of_block (w := w) (w' := w') (a := ⟨g, off + j, none⟩) ((heap_turned hh ht h1 h2).trans hh.symm)]
  exact hx j x hj
theorem TxB.turned {B B' : Nat} {w w' : World} {v : Value} {t : List Int} (h : TxB B w v t) (ht : Turned B' w w') : TxB B w' v t := by
  obtain ⟨a, c, h1, h2, h3, h4, h5, h6⟩ := h
  exact ⟨a, c, h1, h2.turned ht h6 (by decide) (by decide), h3, h4, h5, fun d hd => by obtain ⟨cs, h7⟩ := h6 d hd; exact ⟨cs, heap_turned h7 ht (by decide) (by decide)⟩⟩

theorem tof_of {w : World} {a : Option Addr} {c : Nat} {l : List (Int × Int)} (hr : Rd w 2 a l.length (spC l)) (hl : l.length ≤ 100000)
    (h40 : ∀ s ∈ l, In40 s.1 ∧ (1 ≤ s.2 → In40 s.2)) (hs : Sm (ex l)) :
    Calls Tryz.prog 146 #[.slice a l.length c] w fun e w' => ∃ v', e = .returned (.agg #[v']) ∧ TxB w.heap.size w' v' (ex l) ∧ Below w.heap.size w w' := by
  refine (pof_of hr hl h40 (fun k q hq => ?_)).mono ?_
  · have := ofS_take_ok l hs k q hq
    unfold Ok1 In40; omega
  · rintro e w' ⟨v', rfl, ho, hb⟩
    rw [ofS_canon] at ho
    obtain ⟨a', c', rfl⟩ := own_slice ho
    exact ⟨_, rfl, ⟨a', c', rfl, own_rd ho, hs, fun d hd => by subst hd; rcases own_form ho with ⟨h0, _⟩ | ⟨g, hg, hBg, _⟩ <;> simp_all, fun hd => (by subst hd; rcases own_formC ho with ⟨_, _, h0⟩ | ⟨g, hg, _⟩ <;> simp_all), fun d hd => (by subst hd; exact own_cellsAt ho)⟩, hb⟩

theorem tlen_of {w : World} {v : Value} {t : List Int} (h : Tx w v t) :
    Calls Tryz.prog 100 #[.agg #[v]] w fun e w' => e = .returned (.int .i64 (t.length : Int)) ∧ Below w.heap.size w w' := by
  obtain ⟨a, c, rfl, hr, hs, _, _⟩ := h
  have hc := canon_count t
  have := plen_of (c := c) hr (by have := hs.1; omega) (fun k => by
    have := lenS_take_ok (canon_full t) (by rw [ex_canon]; exact hs.1) k
    omega)
  rwa [lenS_canon] at this

/-- Blocks made one behind the other. -/
def allocs (w : World) : List Obj → World
  | [] => w
  | o :: l => allocs (w.alloc o) l
theorem allocs_size : ∀ (l : List Obj) (w : World), (allocs w l).heap.size = w.heap.size + l.length
  | [], w => rfl
  | o :: l, w => by rw [allocs, allocs_size l, World.size_alloc, List.length_cons]; omega
theorem allocs_below : ∀ (l : List Obj) (w : World), Below w.heap.size w (allocs w l)
  | [], w => Below.refl _ w
  | o :: l, w => (below_al w o).trans ((allocs_below l (w.alloc o)).mono (by rw [World.size_alloc]; omega))
theorem allocs_at : ∀ (l : List Obj) (w : World) (k : Nat) (o : Obj), l[k]? = some o → (allocs w l).heap[w.heap.size + k]? = some o
  | [], w, k, o, h => by simp at h
  | o :: l, w, 0, o', h => by
    simp only [List.getElem?_cons_zero, Option.some.injEq] at h
    subst h
    rw [allocs, Nat.add_zero, (allocs_below l (w.alloc o)).block w.heap.size (by rw [World.size_alloc]; omega)]
    exact heap_alloc_new w o
  | o :: l, w, k + 1, o', h => by
    rw [List.getElem?_cons_succ] at h
    have := allocs_at l (w.alloc o) k o' h
    rw [World.size_alloc] at this
    rw [allocs, show w.heap.size + (k + 1) = w.heap.size + 1 + k by omega]
    exact this

end Go.Proofs.YtkgakgceamafcaaGreat

set_option linter.unusedVariables false
namespace Go.Proofs.YtkgakgceamafcaaGreat

/-- A byte of a row of bytes; beyond its end 0. -/
def lb (l : List UInt8) (i : Nat) : Int := ((l.getD i 0).toNat : Int)
/-- A byte ends a field. -/
def mkB (c : Int) : Bool := decide (c = 44 ∨ c = 13 ∨ c = 10)
/-- Does a mark stand at a place, or nothing? -/
def mkAt (l : List UInt8) (i : Nat) : Bool := decide (l.length ≤ i) || mkB (lb l i)
/-- Does a quote stand there? -/
def quAt (l : List UInt8) (i : Nat) : Bool := decide (i < l.length) && decide (lb l i = 34)

theorem mkAt_no {l : List UInt8} {i : Nat} (h : mkAt l i = false) : i < l.length ∧ mkB (lb l i) = false := by
  unfold mkAt at h; simp only [Bool.or_eq_false_iff, decide_eq_false_iff_not] at h; exact ⟨by omega, h.2⟩
theorem mkAt_in {l : List UInt8} {i : Nat} (h : i < l.length) : mkAt l i = mkB (lb l i) := by
  unfold mkAt; rw [decide_eq_false (by omega), Bool.false_or]
theorem mkAt_out {l : List UInt8} {i : Nat} (h : l.length ≤ i) : mkAt l i = true := by
  unfold mkAt; rw [decide_eq_true h, Bool.true_or]
theorem quAt_yes {l : List UInt8} {i : Nat} (h : quAt l i = true) : i < l.length ∧ lb l i = 34 := by
  unfold quAt at h; simpa using h
theorem quAt_in {l : List UInt8} {i : Nat} (h : i < l.length) : quAt l i = decide (lb l i = 34) := by
  unfold quAt; rw [decide_eq_true h, Bool.true_and]
theorem quAt_out {l : List UInt8} {i : Nat} (h : l.length ≤ i) : quAt l i = false := by
  unfold quAt; rw [decide_eq_false (by omega), Bool.false_and]

/-- The next mark. -/
def till (l : List UInt8) (i : Nat) : Nat := if h : mkAt l i = true then i else till l (i + 1)
termination_by l.length - i
decreasing_by have := mkAt_no (by simpa using h); omega
theorem till_stop {l : List UInt8} {i : Nat} (h : mkAt l i = true) : till l i = i := by rw [till, dif_pos h]
theorem till_step {l : List UInt8} {i : Nat} (h : mkAt l i = false) : till l i = till l (i + 1) := by rw [till, dif_neg (by simp [h])]
theorem till_spec (l : List UInt8) : ∀ n i, l.length - i = n → i ≤ till l i ∧ mkAt l (till l i) = true ∧ (i ≤ l.length → till l i ≤ l.length) ∧ ∀ j, i ≤ j → j < till l i → mkAt l j = false
  | n, i, hn => by
    by_cases h : mkAt l i = true
    · rw [till_stop h]; exact ⟨Nat.le_refl _, h, id, fun j a b => by omega⟩
    · have h := Bool.eq_false_iff.2 h
      have hi := mkAt_no h
      rw [till_step h]
      obtain ⟨a, b, c, d⟩ := till_spec l (l.length - (i + 1)) (i + 1) rfl
      refine ⟨by omega, b, fun _ => c (by omega), fun j h1 h2 => ?_⟩
      by_cases e : j = i
      · subst e; exact h
      · exact d j (by omega) h2
termination_by n => n
decreasing_by omega
theorem till_ge (l : List UInt8) (i : Nat) : i ≤ till l i := (till_spec l _ i rfl).1
theorem till_mark (l : List UInt8) (i : Nat) : mkAt l (till l i) = true := (till_spec l _ i rfl).2.1
theorem till_le {l : List UInt8} {i : Nat} (h : i ≤ l.length) : till l i ≤ l.length := (till_spec l _ i rfl).2.2.1 h
theorem till_before {l : List UInt8} {i j : Nat} (h : i ≤ j) (h2 : j < till l i) : mkAt l j = false := (till_spec l _ i rfl).2.2.2 j h h2

/-- The next quote, or the end. -/
def untQ (l : List UInt8) (i : Nat) : Nat := if h : i < l.length ∧ quAt l i = false then untQ l (i + 1) else i
termination_by l.length - i
decreasing_by omega
theorem untQ_step {l : List UInt8} {i : Nat} (h : i < l.length) (h2 : quAt l i = false) : untQ l i = untQ l (i + 1) := by rw [untQ, dif_pos ⟨h, h2⟩]
theorem untQ_end {l : List UInt8} {i : Nat} (h : l.length ≤ i) : untQ l i = i := by rw [untQ, dif_neg (by omega)]
theorem untQ_stop {l : List UInt8} {i : Nat} (h : quAt l i = true) : untQ l i = i := by rw [untQ, dif_neg (by simp [h])]
theorem untQ_spec (l : List UInt8) : ∀ n i, l.length - i = n → i ≤ untQ l i ∧ (i ≤ l.length → untQ l i ≤ l.length ∧ (untQ l i < l.length → quAt l (untQ l i) = true)) ∧ ∀ j, i ≤ j → j < untQ l i → quAt l j = false
  | n, i, hn => by
    by_cases h : i < l.length
    · by_cases h2 : quAt l i = true
      · rw [untQ_stop h2]; exact ⟨Nat.le_refl _, fun a => ⟨a, fun _ => h2⟩, fun j a b => by omega⟩
      · have h2 := Bool.eq_false_iff.2 h2
        rw [untQ_step h h2]
        obtain ⟨a, b, d⟩ := untQ_spec l (l.length - (i + 1)) (i + 1) rfl
        refine ⟨by omega, fun _ => b (by omega), fun j h1 h3 => ?_⟩
        by_cases e : j = i
        · subst e; exact h2
        · exact d j (by omega) h3
    · rw [untQ_end (by omega)]; exact ⟨Nat.le_refl _, fun a => ⟨a, fun b => by omega⟩, fun j a b => by omega⟩
termination_by n => n
decreasing_by omega
theorem untQ_ge (l : List UInt8) (i : Nat) : i ≤ untQ l i := (untQ_spec l _ i rfl).1
theorem untQ_le {l : List UInt8} {i : Nat} (h : i ≤ l.length) : untQ l i ≤ l.length := ((untQ_spec l _ i rfl).2.1 h).1
theorem untQ_quote {l : List UInt8} {i : Nat} (h : i ≤ l.length) (h2 : untQ l i < l.length) : quAt l (untQ l i) = true := ((untQ_spec l _ i rfl).2.1 h).2 h2
theorem untQ_before {l : List UInt8} {i j : Nat} (h : i ≤ j) (h2 : j < untQ l i) : quAt l j = false := (untQ_spec l _ i rfl).2.2 j h h2

/-- Within quotes, from a place on: the places of the value's bytes, where the closing quote stands, and whether there is one. -/
def inQ (l : List UInt8) (i : Nat) : List Int × Nat × Bool :=
  if h : i < l.length then
    if quAt l i = true then
      if quAt l (i + 1) = true then ((i : Int) :: (inQ l (i + 2)).1, (inQ l (i + 2)).2) else ([], i, true)
    else ((i : Int) :: (inQ l (i + 1)).1, (inQ l (i + 1)).2)
  else ([], i, false)
termination_by l.length - i
theorem inQ_end {l : List UInt8} {i : Nat} (h : l.length ≤ i) : inQ l i = ([], i, false) := by rw [inQ, dif_neg (by omega)]
theorem inQ_byte {l : List UInt8} {i : Nat} (h : i < l.length) (h2 : quAt l i = false) : inQ l i = ((i : Int) :: (inQ l (i + 1)).1, (inQ l (i + 1)).2) := by rw [inQ, dif_pos h, if_neg (by simp [h2])]
theorem inQ_two {l : List UInt8} {i : Nat} (h2 : quAt l i = true) (h3 : quAt l (i + 1) = true) : inQ l i = ((i : Int) :: (inQ l (i + 2)).1, (inQ l (i + 2)).2) := by rw [inQ, dif_pos (quAt_yes h2).1, if_pos h2, if_pos h3]
theorem inQ_stop {l : List UInt8} {i : Nat} (h2 : quAt l i = true) (h3 : quAt l (i + 1) = false) : inQ l i = ([], i, true) := by rw [inQ, dif_pos (quAt_yes h2).1, if_pos h2, if_neg (by simp [h3])]
theorem inQ_spec (l : List UInt8) : ∀ n i, l.length - i = n → i ≤ l.length → i ≤ (inQ l i).2.1 ∧ (inQ l i).2.1 ≤ l.length ∧ ((inQ l i).2.2 = true → quAt l (inQ l i).2.1 = true) ∧ ((inQ l i).2.2 = false → (inQ l i).2.1 = l.length) ∧ (∀ x ∈ (inQ l i).1, (i : Int) ≤ x ∧ x < (inQ l i).2.1) ∧ (inQ l i).1.length ≤ (inQ l i).2.1 - i
  | n, i, hn, hi => by
    by_cases h : i < l.length
    · by_cases h2 : quAt l i = true
      · by_cases h3 : quAt l (i + 1) = true
        · rw [inQ_two h2 h3]
          have hl := (quAt_yes h3).1
          obtain ⟨a, b, c, d, e, f⟩ := inQ_spec l (l.length - (i + 2)) (i + 2) rfl (by omega)
          refine ⟨by show i ≤ (inQ l (i + 2)).2.1; omega, b, c, d, fun x hx => ?_, by show ((i : Int) :: (inQ l (i + 2)).1).length ≤ _; rw [List.length_cons]; show _ ≤ (inQ l (i + 2)).2.1 - i; omega⟩
          rcases List.mem_cons.1 hx with rfl | hx
          · exact ⟨by omega, by show _ < ((inQ l (i + 2)).2.1 : Int); omega⟩
          · have := e x hx
            exact ⟨by omega, this.2⟩
        · rw [inQ_stop h2 (Bool.eq_false_iff.2 h3)]
          exact ⟨Nat.le_refl _, by show i ≤ _; omega, fun _ => h2, (fun hc => by cases hc), (fun x hx => by cases hx), by simp⟩
      · have h2 := Bool.eq_false_iff.2 h2
        rw [inQ_byte h h2]
        obtain ⟨a, b, c, d, e, f⟩ := inQ_spec l (l.length - (i + 1)) (i + 1) rfl (by omega)
        refine ⟨by show i ≤ (inQ l (i + 1)).2.1; omega, b, c, d, fun x hx => ?_, by show ((i : Int) :: (inQ l (i + 1)).1).length ≤ _; rw [List.length_cons]; show _ ≤ (inQ l (i + 1)).2.1 - i; omega⟩
        rcases List.mem_cons.1 hx with rfl | hx
        · exact ⟨by omega, by show _ < ((inQ l (i + 1)).2.1 : Int); omega⟩
        · have := e x hx
          exact ⟨by omega, this.2⟩
    · rw [inQ_end (by omega)]
      exact ⟨Nat.le_refl _, by show i ≤ _; omega, (fun hc => by cases hc), (fun _ => by show i = _; omega), (fun x hx => by cases hx), by simp⟩
termination_by n => n
decreasing_by all_goals omega

/-- Is a quote among these places? -/
def hasQ (l : List UInt8) (i j : Nat) : Bool := decide (∃ k, k < j ∧ i ≤ k ∧ quAt l k = true)
theorem hasQ_nil (l : List UInt8) (i : Nat) : hasQ l i i = false := by
  unfold hasQ; simp only [decide_eq_false_iff_not]; rintro ⟨k, a, b, _⟩; omega
theorem hasQ_step (l : List UInt8) (i j : Nat) (h : i ≤ j) : hasQ l i (j + 1) = (hasQ l i j || quAt l j) := by
  unfold hasQ
  rw [Bool.eq_iff_iff]
  simp only [Bool.or_eq_true, decide_eq_true_eq]
  constructor
  · rintro ⟨k, a, b, c⟩
    by_cases e : k = j
    · subst e; exact .inr c
    · exact .inl ⟨k, by omega, b, c⟩
  · rintro (⟨k, a, b, c⟩ | c)
    · exact ⟨k, by omega, b, c⟩
    · exact ⟨j, by omega, h, c⟩

/-- The places from one to another. -/
def pls (i j : Nat) : List Int := ex1 ((i : Int), (j : Int) - (i : Int))
theorem pls_eq (i j : Nat) (h : i ≤ j) : pls i j = ex1 ((i : Int), ((j - i : Nat) : Int)) := by unfold pls; congr 2; omega
theorem pls_nil (i : Nat) : pls i i = [] := ex1_zero _ _ (by omega)
theorem pls_snoc (i j : Nat) (h : i ≤ j) : pls i (j + 1) = pls i j ++ [(j : Int)] := by
  rw [pls_eq i (j + 1) (by omega), pls_eq i j h, show j + 1 - i = (j - i) + 1 by omega, ex1_succ]
  congr 2; omega
theorem pls_mem {i j : Nat} (h : i ≤ j) {x : Int} (hx : x ∈ pls i j) : (i : Int) ≤ x ∧ x < j := by
  rw [pls_eq i j h, ex1_nat] at hx
  obtain ⟨k, hk, rfl⟩ := List.mem_map.1 hx
  have := List.mem_range.1 hk
  omega
theorem pls_len (i j : Nat) : (pls i j).length = j - i := by unfold pls; rw [ex1_len]; simp
theorem pls_cons (i j : Nat) (h : i < j) : pls i j = (i : Int) :: pls (i + 1) j := by
  rw [pls_eq i j (by omega), pls_eq (i + 1) j (by omega)]
  have := ex1_add (i : Int) 1 (j - (i + 1))
  rw [show ((1 : Nat) : Int) = 1 from rfl, ex1_one] at this
  rw [show ((j - i : Nat) : Int) = (1 : Int) + ((j - (i + 1) : Nat) : Int) by omega, this]
  rfl

/-- A field: from where to where, its kind, the places of its value's bytes. -/
structure Fd where
  from_ : Nat
  to_ : Nat
  kind : Int
  pl : List Int

def fieldP (l : List UInt8) (i : Nat) : Fd :=
  if quAt l i = true then
    if (inQ l (i + 1)).2.2 = true then
      ⟨i, till l ((inQ l (i + 1)).2.1 + 1), if (inQ l (i + 1)).2.1 + 1 < till l ((inQ l (i + 1)).2.1 + 1) then 3 else 1, (inQ l (i + 1)).1 ++ pls ((inQ l (i + 1)).2.1 + 1) (till l ((inQ l (i + 1)).2.1 + 1))⟩
    else ⟨i, l.length, 4, (inQ l (i + 1)).1⟩
  else ⟨i, till l i, if hasQ l i (till l i) = true then 2 else 0, pls i (till l i)⟩

theorem fieldP_from (l : List UInt8) (i : Nat) : (fieldP l i).from_ = i := by
  unfold fieldP; split
  · split <;> rfl
  · rfl
theorem fieldP_spec {l : List UInt8} {i : Nat} (hi : i ≤ l.length) : i ≤ (fieldP l i).to_ ∧ (fieldP l i).to_ ≤ l.length ∧ mkAt l (fieldP l i).to_ = true ∧ (0 ≤ (fieldP l i).kind ∧ (fieldP l i).kind ≤ 4) ∧ (∀ x ∈ (fieldP l i).pl, (i : Int) ≤ x ∧ x < l.length) ∧ (fieldP l i).pl.length ≤ (fieldP l i).to_ - i := by
  unfold fieldP
  split
  · rename_i h
    have hl := (quAt_yes h).1
    obtain ⟨a, b, c, d, e, f⟩ := inQ_spec l _ (i + 1) rfl (by omega)
    split
    · rename_i h2
      have hq := (quAt_yes (c h2)).1
      have t1 := till_ge l ((inQ l (i + 1)).2.1 + 1)
      have t2 := till_le (l := l) (i := (inQ l (i + 1)).2.1 + 1) (by omega)
      refine ⟨by show i ≤ till _ _; omega, t2, till_mark _ _, by dsimp only; split <;> exact ⟨by decide, by decide⟩, fun x hx => ?_, ?_⟩
      · rcases List.mem_append.1 hx with hx | hx
        · have := e x hx; omega
        · have := pls_mem t1 hx; omega
      · show ((inQ l (i + 1)).1 ++ pls _ _).length ≤ till _ _ - i
        rw [List.length_append, pls_len]; omega
    · rename_i h2
      have := d (Bool.eq_false_iff.2 h2)
      refine ⟨by show i ≤ l.length; omega, Nat.le_refl _, mkAt_out (Nat.le_refl _), ⟨by show (0:Int) ≤ 4; decide, by show (4:Int) ≤ 4; decide⟩, fun x hx => ?_, ?_⟩
      · have := e x hx; omega
      · show (inQ l (i + 1)).1.length ≤ l.length - i; omega
  · have t1 := till_ge l i
    have t2 := till_le hi
    refine ⟨t1, t2, till_mark _ _, by dsimp only; split <;> exact ⟨by decide, by decide⟩, fun x hx => ?_, ?_⟩
    · have := pls_mem t1 hx; omega
    · show (pls _ _).length ≤ till l i - i; rw [pls_len]; omega

/-- The fields of a row, and where the last one ends. -/
def fieldsP (l : List UInt8) (i : Nat) : List Fd × Nat :=
  if h : (fieldP l i).to_ < l.length ∧ lb l (fieldP l i).to_ = 44 ∧ i ≤ (fieldP l i).to_ then
    (fieldP l i :: (fieldsP l ((fieldP l i).to_ + 1)).1, (fieldsP l ((fieldP l i).to_ + 1)).2)
  else ([fieldP l i], (fieldP l i).to_)
termination_by l.length - i
theorem fieldsP_more {l : List UInt8} {i : Nat} (hi : i ≤ l.length) (h : (fieldP l i).to_ < l.length) (h2 : lb l (fieldP l i).to_ = 44) : fieldsP l i = (fieldP l i :: (fieldsP l ((fieldP l i).to_ + 1)).1, (fieldsP l ((fieldP l i).to_ + 1)).2) := by
  rw [fieldsP, dif_pos ⟨h, h2, (fieldP_spec hi).1⟩]
theorem fieldsP_last {l : List UInt8} {i : Nat} (h : ¬ ((fieldP l i).to_ < l.length ∧ lb l (fieldP l i).to_ = 44)) : fieldsP l i = ([fieldP l i], (fieldP l i).to_) := by
  rw [fieldsP, dif_neg (fun hh => h ⟨hh.1, hh.2.1⟩)]
theorem fieldsP_spec (l : List UInt8) : ∀ n i, l.length - i = n → i ≤ l.length → i ≤ (fieldsP l i).2 ∧ (fieldsP l i).2 ≤ l.length ∧ mkAt l (fieldsP l i).2 = true ∧ ¬ ((fieldsP l i).2 < l.length ∧ lb l (fieldsP l i).2 = 44) ∧ (fieldsP l i).1.length ≤ l.length - i + 1
  | n, i, hn, hi => by
    obtain ⟨a, b, c, _⟩ := fieldP_spec hi
    by_cases h : (fieldP l i).to_ < l.length ∧ lb l (fieldP l i).to_ = 44
    · rw [fieldsP_more hi h.1 h.2]
      obtain ⟨a', b', c', d', e'⟩ := fieldsP_spec l (l.length - ((fieldP l i).to_ + 1)) ((fieldP l i).to_ + 1) rfl (by omega)
      refine ⟨by show i ≤ (fieldsP l ((fieldP l i).to_ + 1)).2; omega, b', c', d', ?_⟩
      show (_ :: (fieldsP l ((fieldP l i).to_ + 1)).1).length ≤ _
      rw [List.length_cons]; omega
    · rw [fieldsP_last h]
      exact ⟨a, b, c, h, by simp⟩
termination_by n => n
decreasing_by omega

/-- How a line ends whose last field ends there. -/
def endP (l : List UInt8) (i : Nat) : Int := if l.length ≤ i then 0 else if lb l i = 10 then 1 else if i + 1 < l.length ∧ lb l (i + 1) = 10 then 2 else 3
/-- How many bytes an end has. -/
def markN (e : Int) : Nat := if e = 1 then 1 else if e = 2 then 2 else if e = 3 then 1 else 0

/-- The row from a place on: fields, end, the place behind. -/
structure Rw where
  fs : List Fd
  fin : Int
  next : Nat
def rowP (l : List UInt8) (i : Nat) : Rw := ⟨(fieldsP l i).1, endP l (fieldsP l i).2, (fieldsP l i).2 + markN (endP l (fieldsP l i).2)⟩

theorem endP_spec {l : List UInt8} {i : Nat} (h : mkAt l i = true) (h2 : ¬ (i < l.length ∧ lb l i = 44)) (hi : i ≤ l.length) :
    (endP l i = 0 ∧ l.length = i) ∨ (endP l i = 1 ∧ i < l.length ∧ lb l i = 10) ∨ (endP l i = 2 ∧ i + 1 < l.length ∧ lb l i = 13 ∧ lb l (i + 1) = 10) ∨ (endP l i = 3 ∧ i < l.length ∧ lb l i = 13 ∧ ¬ (i + 1 < l.length ∧ lb l (i + 1) = 10)) := by
  unfold endP
  by_cases a : l.length ≤ i
  · rw [if_pos a]; exact .inl ⟨rfl, by omega⟩
  · rw [if_neg a]
    rw [mkAt_in (by omega)] at h
    unfold mkB at h
    simp only [decide_eq_true_eq] at h
    by_cases b : lb l i = 10
    · rw [if_pos b]; exact .inr (.inl ⟨rfl, by omega, b⟩)
    · rw [if_neg b]
      by_cases c : i + 1 < l.length ∧ lb l (i + 1) = 10
      · rw [if_pos c]; exact .inr (.inr (.inl ⟨rfl, c.1, by omega, c.2⟩))
      · rw [if_neg c]; exact .inr (.inr (.inr ⟨rfl, by omega, by omega, c⟩))
theorem rowP_next {l : List UInt8} {i : Nat} (hi : i < l.length) : i < (rowP l i).next ∧ (rowP l i).next ≤ l.length := by
  obtain ⟨a, b, c, d, _⟩ := fieldsP_spec l _ i rfl (by omega)
  unfold rowP
  simp only
  rcases endP_spec c d b with ⟨e, f⟩ | ⟨e, f, _⟩ | ⟨e, f, _⟩ | ⟨e, f, _⟩ <;> rw [e] <;> simp only [markN] <;> simp <;> omega

/-- All rows from a place on. -/
def allP (l : List UInt8) (i : Nat) : List Rw := if h : i < l.length then rowP l i :: allP l (rowP l i).next else []
termination_by l.length - i
decreasing_by have := rowP_next h; omega
theorem allP_end {l : List UInt8} {i : Nat} (h : l.length ≤ i) : allP l i = [] := by rw [allP, dif_neg (by omega)]
theorem allP_more {l : List UInt8} {i : Nat} (h : i < l.length) : allP l i = rowP l i :: allP l (rowP l i).next := by rw [allP, dif_pos h]

/-- A stretch behind others, unless it is empty. -/
def putL (l : List (Int × Int)) (i j : Nat) : List (Int × Int) := if i = j then l else l ++ [((i : Int), (j : Int) - i)]
theorem putL_len (l : List (Int × Int)) (i j : Nat) : (putL l i j).length ≤ l.length + 1 := by unfold putL; split <;> simp

theorem canon_put (t : List Int) (i j : Nat) (h : i ≤ j) (ht : ∀ x ∈ t, x + 1 < i) : canon (t ++ pls i j) = putL (canon t) i j := by
  have e : canon (t ++ pls i j) = joinS (canon t) ((i : Int), (j : Int) - i) := by
    unfold canon pls
    rw [List.foldl_append, fold_span]
  rw [e]
  unfold joinS putL
  by_cases hij : i = j
  · subst hij; rw [if_pos (by simp), if_pos rfl]
  · rw [if_neg (by simp; omega), if_neg hij]
    rcases glue_cases (canon t) ((i : Int), (j : Int) - i) with ⟨h1, h2⟩ | ⟨l, q, h1, h2⟩
    · rw [h2, h1]; rfl
    · rw [h2, h1, if_neg]
      intro hq
      have hf := canon_full t q (by rw [h1]; simp)
      have hm : q.1 + (q.2 - 1) ∈ t := by
        rw [← ex_canon t, h1, ex_append, ex_one]
        refine List.mem_append.2 (.inr ?_)
        unfold ex1
        refine List.mem_map.2 ⟨(q.2 - 1).toNat, List.mem_range.2 (by omega), by omega⟩
      have := ht _ hm
      simp only at hq
      omega
theorem canon_nil : canon [] = [] := rfl
theorem canon_pls (i j : Nat) (h : i ≤ j) : canon (pls i j) = putL [] i j := by
  have := canon_put [] i j h (by simp)
  rwa [List.nil_append, canon_nil] at this

/-- From the place behind an opening quote, or behind two quotes: to the next quote. -/
theorem inQ_untQ (l : List UInt8) : ∀ n i, l.length - i = n → i ≤ l.length →
    (untQ l i = l.length → inQ l i = (pls i l.length, l.length, false)) ∧
    (untQ l i < l.length → quAt l (untQ l i + 1) = true → inQ l i = (pls i (untQ l i + 1) ++ (inQ l (untQ l i + 2)).1, (inQ l (untQ l i + 2)).2)) ∧
    (untQ l i < l.length → quAt l (untQ l i + 1) = false → inQ l i = (pls i (untQ l i), untQ l i, true))
  | n, i, hn, hi => by
    by_cases h : i < l.length
    · by_cases h2 : quAt l i = true
      · rw [untQ_stop h2]
        refine ⟨fun e => by omega, fun _ h3 => ?_, fun _ h3 => ?_⟩
        · rw [inQ_two h2 h3, pls_snoc i i (Nat.le_refl _), pls_nil]; rfl
        · rw [inQ_stop h2 h3, pls_nil]
      · have h2 := Bool.eq_false_iff.2 h2
        obtain ⟨a, b, c⟩ := inQ_untQ l (l.length - (i + 1)) (i + 1) rfl (by omega)
        have hg := untQ_ge l (i + 1)
        rw [untQ_step h h2, inQ_byte h h2]
        refine ⟨fun e => ?_, fun e h3 => ?_, fun e h3 => ?_⟩
        · rw [a e, pls_cons i l.length h]
        · rw [b e h3, pls_cons i (untQ l (i + 1) + 1) (by omega)]; rfl
        · rw [c e h3, pls_cons i (untQ l (i + 1)) (by omega)]
    · obtain rfl : i = l.length := by omega
      rw [untQ_end (Nat.le_refl _)]
      refine ⟨fun _ => by rw [inQ_end (Nat.le_refl _), pls_nil], fun e => by omega, fun e => by omega⟩
termination_by n => n
decreasing_by omega

/-- Is there a quote between two places? -/
theorem hasQ_iff (l : List UInt8) (i j : Nat) (hj : j ≤ l.length) : hasQ l i j = true ↔ ∃ k, k < ((l.drop i).take (j - i)).length ∧ lb ((l.drop i).take (j - i)) k = 34 := by
  unfold hasQ
  simp only [decide_eq_true_eq]
  have hl : ((l.drop i).take (j - i)).length = j - i := by simp; omega
  rw [hl]
  constructor
  · rintro ⟨k, a, b, c⟩
    refine ⟨k - i, by omega, ?_⟩
    have := (quAt_yes c).2
    unfold lb at this ⊢
    rw [List.getD_eq_getElem?_getD, List.getElem?_take, if_pos (by omega), List.getElem?_drop, show i + (k - i) = k by omega, ← List.getD_eq_getElem?_getD]
    exact this
  · rintro ⟨k, a, b⟩
    refine ⟨i + k, by omega, by omega, ?_⟩
    rw [quAt_in (by omega)]
    unfold lb at b ⊢
    rw [List.getD_eq_getElem?_getD, List.getElem?_take, if_pos (by omega), List.getElem?_drop, ← List.getD_eq_getElem?_getD] at b
    simpa using b

end Go.Proofs.YtkgakgceamafcaaGreat
