/-
  Texts of this seat, put together (a claim holds few texts): PcP, PcF, ScB.
-/
import Derived.Test.YtkgakgceamafcaaMk22
import Derived.Deep.RegionHeldLaw
import Derived.Deep.AppendLies

set_option linter.unusedVariables false
namespace Go.Proofs.Ytkgakgceamafcaa

/-- A text of few places. -/
def Sm (t : List Int) : Prop := t.length ≤ 20000 ∧ ∀ x ∈ t, 0 ≤ x ∧ x ≤ 1073741824

theorem revRec {α : Type} {P : List α → Prop} (nil : P []) (snoc : ∀ l x, P l → P (l ++ [x])) (l : List α) : P l := by
  have h : ∀ (l : List α), P l.reverse := by
    intro l
    induction l with
    | nil => exact nil
    | cons x l ih => rw [List.reverse_cons]; exact snoc _ _ ih
  have := h l.reverse
  rwa [List.reverse_reverse] at this

theorem canon_ok : ∀ (t : List Int), (∀ x ∈ t, 0 ≤ x ∧ x ≤ 1073741824) → ∀ q ∈ canon t, 0 ≤ q.1 ∧ q.1 ≤ 1073741824 ∧ 1 ≤ q.2 ∧ q.2 ≤ (t.length : Int) := by
  intro t
  induction t using revRec with
  | nil => intro _ q hq; simp [canon] at hq
  | snoc t x ih =>
    intro h q hq
    have h0 := ih (fun y hy => h y (by simp [hy]))
    have hx := h x (by simp)
    rw [canon_snoc] at hq
    rw [List.length_append, List.length_singleton]
    rcases glue_cases (canon t) (x, 1) with ⟨hc, hg⟩ | ⟨l, p, hc, hg⟩
    · rw [hg] at hq; simp at hq; subst hq; simp only; omega
    · rw [hg] at hq
      have hp := h0 p (by rw [hc]; simp)
      split at hq
      · rcases List.mem_append.1 hq with hq | hq
        · have := h0 q (by rw [hc]; simp [hq]); omega
        · simp at hq; subst hq; simp only; omega
      · rcases List.mem_append.1 hq with hq | hq
        · have := h0 q (by rw [hc]; exact hq); omega
        · simp at hq; subst hq; simp only; omega

theorem ex_take (l : List Sp) (k : Nat) : ∃ r, ex l = ex (l.take k) ++ r :=
  ⟨ex (l.drop k), by rw [← ex_append, List.take_append_drop]⟩
theorem ofS_take_ok (l : List Sp) (h : Sm (ex l)) (k : Nat) : ∀ q ∈ ofS (l.take k), 0 ≤ q.1 ∧ q.1 ≤ 1073741824 ∧ 1 ≤ q.2 ∧ q.2 ≤ 20000 := by
  intro q hq
  rw [ofS_canon] at hq
  obtain ⟨r, hr⟩ := ex_take l k
  have hl := h.1
  have h1 := canon_ok (ex (l.take k)) (fun x hx => h.2 x (by rw [hr]; simp [hx])) q hq
  rw [hr, List.length_append] at hl
  omega
theorem full_take {l : List Sp} (h : Full l) (k : Nat) : Full (l.take k) := fun q hq => h q (List.mem_of_mem_take hq)
theorem lenS_take_ok {l : List Sp} (h : Full l) (hl : (ex l).length ≤ 20000) (k : Nat) : 0 ≤ lenS (l.take k) ∧ lenS (l.take k) ≤ 20000 := by
  obtain ⟨r, hr⟩ := ex_take l k
  rw [hr, List.length_append] at hl
  rw [lenS_full _ (full_take h k)]
  omega
theorem Sm.nil : Sm [] := ⟨by simp, fun x hx => by simp at hx⟩
theorem Sm.append {t u : List Int} (h : Sm t) (k : Sm u) (hl : t.length + u.length ≤ 20000) : Sm (t ++ u) :=
  ⟨by simp; omega, fun x hx => (List.mem_append.1 hx).elim (h.2 x) (k.2 x)⟩
theorem Sm.slice {t : List Int} (h : Sm t) (i j : Int) : Sm (slI t i j) := by
  have hm : ∀ x ∈ slI t i j, x ∈ t := fun x hx => List.mem_of_mem_take (List.mem_of_mem_drop hx)
  refine ⟨?_, fun x hx => h.2 x (hm x hx)⟩
  have h1 : (slI t i j).length ≤ t.length := by unfold slI; simp only [List.length_drop, List.length_take]; omega
  have := h.1
  omega
theorem slI_len_le (t : List Int) (i j : Int) : (slI t i j).length ≤ t.length := by unfold slI; simp only [List.length_drop, List.length_take]; omega
theorem canon_at_bounds {t : List Int} (h : Sm t) : ∀ q ∈ canon t, 0 ≤ q.1 ∧ q.1 ≤ 1073741824 ∧ 1 ≤ q.2 ∧ q.2 ≤ 20000 := by
  intro q hq
  have := canon_ok t h.2 q hq
  have := h.1
  omega
theorem plc_in (n : Nat) (i : Int) : 0 ≤ plc n i ∧ plc n i ≤ n := by unfold plc; omega
theorem delI_app (t : List Int) (i j : Int) : delI t i j = slI t 0 i ++ slI t (max i j) t.length := rfl
theorem parts_take : ∀ (l : List Sp) (f i j : Int) (k : Nat), parts (l.take k) f i j = (parts l f i j).take k
  | [], f, i, j, k => by simp [parts]
  | s :: l, f, i, j, 0 => by simp [parts]
  | s :: l, f, i, j, k + 1 => by simp [parts, parts_take l]
theorem parts_take_succ {l : List Sp} {i j : Int} {k : Nat} (h : k < l.length) : (parts l 0 i j).take (k + 1) = (parts l 0 i j).take k ++ [subS l[k] (i - lenS (l.take k)) (j - lenS (l.take k))] := by
  rw [← parts_take, List.take_succ_eq_append_getElem h, parts_append, parts_take]
  simp [parts]

theorem mem_ex {l : List Sp} {x : Int} (h : x ∈ ex l) : ∃ s ∈ l, s.1 ≤ x ∧ x < s.1 + s.2 := by
  unfold ex at h
  rw [List.mem_flatMap] at h
  obtain ⟨s, hs, hx⟩ := h
  unfold ex1 at hx
  rw [List.mem_map] at hx
  obtain ⟨i, hi, rfl⟩ := hx
  rw [List.mem_range] at hi
  exact ⟨s, hs, by omega, by omega⟩

end Go.Proofs.Ytkgakgceamafcaa

namespace Go.Proofs.Ytkgakgceamafcaa
open Go Go.RowKit
set_option linter.unusedVariables false

/-- A text in memory, from a block on: its places. -/
def TxB (B : Nat) (w : World) (v : Value) (t : List Int) : Prop := ∃ a c, v = .slice a (canon t).length c ∧ Rd w 2 a (canon t).length (spC (canon t)) ∧ Sm t ∧ (∀ d, a = some d → B ≤ d.block) ∧ (a = none → c = 0) ∧ (∀ d, a = some d → ∃ cs, w.heap[d.block]? = some (.cells cs 91 (0, 0)))
abbrev Tx (w : World) (v : Value) (t : List Int) : Prop := TxB 0 w v t
theorem TxB.below {B : Nat} {w w' : World} {v : Value} {t : List Int} (h : TxB B w v t) (hb : Below w.heap.size w w') : TxB B w' v t := by
  obtain ⟨a, c, h1, h2, h3, h4, h5, h6⟩ := h
  exact ⟨a, c, h1, h2.below hb, h3, h4, h5, fun d hd => by obtain ⟨cs, h7⟩ := h6 d hd; exact ⟨cs, (hb.block _ (lt_of_heap h7)).trans h7⟩⟩
theorem TxB.mono {B B' : Nat} {w : World} {v : Value} {t : List Int} (h : TxB B' w v t) (hB : B ≤ B') : TxB B w v t := by
  obtain ⟨a, c, h1, h2, h3, h4, h5, h6⟩ := h
  exact ⟨a, c, h1, h2, h3, fun d hd => Nat.le_trans hB (h4 d hd), h5, h6⟩
theorem TxB.tx {B : Nat} {w : World} {v : Value} {t : List Int} (h : TxB B w v t) : Tx w v t := h.mono (Nat.zero_le _)
theorem Rd.set {w : World} {s n : Nat} {a : Option Addr} {xs : List Value} (h : Rd w s a n xs) {b o : Nat} {u : Value} (hb : ∀ d, a = some d → d.block ≠ b) : Rd (w.setCell ⟨b, o, none⟩ u) s a n xs := by
  refine ⟨h.1, fun hn => ?_⟩
  obtain ⟨g, off, rfl, hlt, hc⟩ := h.2 hn
  refine ⟨g, off, rfl, by rw [size_set]; exact hlt, fun j x hj => ?_⟩
  rw [World.cell?_of_block (w := w) (w' := w.setCell ⟨b, o, none⟩ u) (a := ⟨g, off + j, none⟩) (heap_set_other (hb ⟨g, off, none⟩ rfl))]
  exact hc j x hj
theorem TxB.set {B : Nat} {w : World} {v u : Value} {t : List Int} {b o : Nat} (h : TxB B w v t) (hb : b < B) : TxB B (w.setCell ⟨b, o, none⟩ u) v t := by
  obtain ⟨a, c, h1, h2, h3, h4, h5, h6⟩ := h
  exact ⟨a, c, h1, h2.set (fun d hd => by have := h4 d hd; omega), h3, h4, h5, fun d hd => by obtain ⟨cs, h7⟩ := h6 d hd; exact ⟨cs, (heap_set_other (by have := h4 d hd; omega)).trans h7⟩⟩
theorem own_formC {w : World} {B sz n c : Nat} {e : TypeId} {a : Option Addr} {xs : List Value} (h : w.ownsRow B e sz (.slice a n c) n xs) : (a = none ∧ n = 0 ∧ c = 0) ∨ ∃ g, a = some ⟨g, 0, none⟩ ∧ B ≤ g ∧ g < w.heap.size := by
  rcases h.2 with ⟨h1, h2⟩ | ⟨g, cap, cur, h1, hb, hg, _⟩
  · simp only [Value.slice.injEq] at h1
    exact .inl ⟨h1.1, by omega, h1.2.2⟩
  · simp only [Value.slice.injEq] at h1
    exact .inr ⟨g, h1.1, hb, lt_of_heap hg⟩
theorem own_cellsAt {w : World} {B sz n c : Nat} {e : TypeId} {d : Addr} {xs : List Value} (h : w.ownsRow B e sz (.slice (some d) n c) n xs) : ∃ cs, w.heap[d.block]? = some (.cells cs e (0, 0)) := by
  rcases h.2 with ⟨h1, h2⟩ | ⟨g, cap, cur, h1, hb, hg, _⟩
  · simp at h1
  · simp only [Value.slice.injEq, Option.some.injEq] at h1
    rw [h1.1]; exact ⟨cur, hg⟩
theorem own_rd {w : World} {B n c s : Nat} {e : TypeId} {a : Option Addr} {xs : List Value} (h : w.ownsRow B e s (.slice a n c) n xs) : Rd w s a n xs := by
  refine ⟨h.1, fun hn => ?_⟩
  rcases own_form h with ⟨_, h0⟩ | ⟨g, rfl, _, hlt⟩
  · omega
  · refine ⟨g, 0, rfl, hlt, fun j u hu => ?_⟩
    have := h.cells (g := g) rfl j u hu
    rwa [Addr.add_lit] at this

theorem heap_turned {B b : Nat} {w w' : World} {e : TypeId} {cs : Array Value} (h : w.heap[b]? = some (.cells cs e (0, 0))) (ht : Turned B w w') (h1 : e ≠ 87) (h2 : e ≠ 5) : w'.heap[b]? = some (.cells cs e (0, 0)) := by
  refine (ht.rest b (lt_of_heap h) (fun cs hc => ?_) (fun cs hc => ?_)).trans h
  · rw [h] at hc; injection hc with hc; injection hc with _ hc; exact h1 hc
  · rw [h] at hc; injection hc with hc; injection hc with _ hc; exact h2 hc
theorem Rd.turned {B : Nat} {w w' : World} {s n : Nat} {a : Option Addr} {xs : List Value} {e : TypeId} (h : Rd w s a n xs) (ht : Turned B w w') (hc : ∀ d, a = some d → ∃ cs, w.heap[d.block]? = some (.cells cs e (0, 0))) (h1 : e ≠ 87) (h2 : e ≠ 5) : Rd w' s a n xs := by
  refine ⟨h.1, fun hn => ?_⟩
  obtain ⟨g, off, rfl, hlt, hx⟩ := h.2 hn
  obtain ⟨cs, hh⟩ := hc _ rfl
  refine ⟨g, off, rfl, Nat.lt_of_lt_of_le hlt ht.size, fun j x hj => ?_⟩
  rw [World.cell?_of_block (w := w) (w' := w') (a := ⟨g, off + j, none⟩) ((heap_turned hh ht h1 h2).trans hh.symm)]
  exact hx j x hj
theorem TxB.turned {B B' : Nat} {w w' : World} {v : Value} {t : List Int} (h : TxB B w v t) (ht : Turned B' w w') : TxB B w' v t := by
  obtain ⟨a, c, h1, h2, h3, h4, h5, h6⟩ := h
  exact ⟨a, c, h1, h2.turned ht h6 (by decide) (by decide), h3, h4, h5, fun d hd => by obtain ⟨cs, h7⟩ := h6 d hd; exact ⟨cs, heap_turned h7 ht (by decide) (by decide)⟩⟩

theorem tof_of {w : World} {a : Option Addr} {c : Nat} {l : List (Int × Int)} (hr : Rd w 2 a l.length (spC l)) (hl : l.length ≤ 100000)
    (h40 : ∀ s ∈ l, In40 s.1 ∧ (1 ≤ s.2 → In40 s.2)) (hs : Sm (ex l)) :
    Calls Try.prog 54 #[.slice a l.length c] w fun e w' => ∃ v', e = .returned (.agg #[v']) ∧ TxB w.heap.size w' v' (ex l) ∧ Below w.heap.size w w' := by
  refine (pof_of hr hl h40 (fun k q hq => ?_)).mono ?_
  · have := ofS_take_ok l hs k q hq
    unfold Ok1 In40; omega
  · rintro e w' ⟨v', rfl, ho, hb⟩
    rw [ofS_canon] at ho
    obtain ⟨a', c', rfl⟩ := own_slice ho
    exact ⟨_, rfl, ⟨a', c', rfl, own_rd ho, hs, fun d hd => by subst hd; rcases own_form ho with ⟨h0, _⟩ | ⟨g, hg, hBg, _⟩ <;> simp_all, fun hd => (by subst hd; rcases own_formC ho with ⟨_, _, h0⟩ | ⟨g, hg, _⟩ <;> simp_all), fun d hd => (by subst hd; exact own_cellsAt ho)⟩, hb⟩

theorem tlen_of {w : World} {v : Value} {t : List Int} (h : Tx w v t) :
    Calls Try.prog 43 #[.agg #[v]] w fun e w' => e = .returned (.int .i64 (t.length : Int)) ∧ Below w.heap.size w w' := by
  obtain ⟨a, c, rfl, hr, hs, _, _⟩ := h
  have hc := canon_count t
  have := plen_of (c := c) hr (by have := hs.1; omega) (fun k => by
    have := lenS_take_ok (canon_full t) (by rw [ex_canon]; exact hs.1) k
    omega)
  rwa [lenS_canon] at this

/-- Blocks made one behind the other. -/
def allocs (w : World) : List Obj → World
  | [] => w
  | o :: l => allocs (w.alloc o) l
theorem allocs_size : ∀ (l : List Obj) (w : World), (allocs w l).heap.size = w.heap.size + l.length
  | [], w => rfl
  | o :: l, w => by rw [allocs, allocs_size l, World.size_alloc, List.length_cons]; omega
theorem allocs_below : ∀ (l : List Obj) (w : World), Below w.heap.size w (allocs w l)
  | [], w => Below.refl _ w
  | o :: l, w => (below_al w o).trans ((allocs_below l (w.alloc o)).mono (by rw [World.size_alloc]; omega))
theorem allocs_at : ∀ (l : List Obj) (w : World) (k : Nat) (o : Obj), l[k]? = some o → (allocs w l).heap[w.heap.size + k]? = some o
  | [], w, k, o, h => by simp at h
  | o :: l, w, 0, o', h => by
    simp only [List.getElem?_cons_zero, Option.some.injEq] at h
    subst h
    rw [allocs, Nat.add_zero, (allocs_below l (w.alloc o)).block w.heap.size (by rw [World.size_alloc]; omega)]
    exact heap_alloc_new w o
  | o :: l, w, k + 1, o', h => by
    rw [List.getElem?_cons_succ] at h
    have := allocs_at l (w.alloc o) k o' h
    rw [World.size_alloc] at this
    rw [allocs, show w.heap.size + (k + 1) = w.heap.size + 1 + k by omega]
    exact this

end Go.Proofs.Ytkgakgceamafcaa

namespace Go.Proofs.Ytkgakgceamafcaa
open Go Go.RowKit
set_option linter.unusedVariables false

theorem span_of (i j : Nat) (h : i ≤ j) (hj : j ≤ 1000000) (w : World) :
    Calls Try.prog 74 #[.int .i64 i, .int .i64 j] w fun e w' => e = .returned (.agg #[.int .i64 i, .int .i64 ((j : Int) - i)]) ∧ Below w.heap.size w w' := by
  go_enter Try.func74, Try.ntmps74
  go_wp2_with fail
  refine bodyPost_ret (v := .agg #[.int .i64 i, .int .i64 ((j : Int) - i)]) (by simp [results, Try.results74, go_sem]) rfl ⟨rfl, ?_⟩
  exact (Below.refl _ _).alloc (Nat.le_refl _) _

set_option maxRecDepth 100000 in
set_option maxHeartbeats 1600000 in
theorem put_of {w : World} {B c : Nat} {a : Option Addr} {l : List (Int × Int)} (ho : w.ownsRow B 91 2 (.slice a l.length c) l.length (spC l)) (hB : B ≤ w.heap.size) (i j : Nat) (hij : i ≤ j) (hj : j ≤ 1000000) (hl : l.length ≤ 1000000) :
    Calls Try.prog 75 #[.slice a l.length c, .int .i64 i, .int .i64 j] w fun e w' => ∃ a' c', e = .returned (.slice a' (putL l i j).length c') ∧ w'.ownsRow B 91 2 (.slice a' (putL l i j).length c') (putL l i j).length (spC (putL l i j)) ∧ Below B w w' ∧ w.heap.size ≤ w'.heap.size := by
  unfold putL
  by_cases h : i = j
  · rw [if_pos h]
    subst h
    have HO := Lib.hid ho
    clear ho
    go_enter Try.func75, Try.ntmps75
    go_wp2_with fail
    go_ret
    exact ⟨_, _, rfl, HO.out, Below.refl _ _, Nat.le_refl _⟩
  · rw [if_neg h]
    obtain ⟨i0, hi0, hz0, hz1, hz2⟩ := info_parts info_span
    have d1 : (i == j) = false := by simpa using h
    have d1' : ((i : Int) == (j : Int)) = false := by simp; omega
    have HS := Lib.hid (span_of i j hij hj)
    have HO := Lib.hid ho
    have HBB := Lib.hid hB
    have hsn := spC_snoc l ((i : Int), (j : Int) - (i : Int))
    have HSN := Lib.hid hsn
    have hln : (l ++ [((i : Int), (j : Int) - (i : Int))]).length = l.length + 1 := by simp
    have HLN := Lib.hid hln
    clear ho hB h hsn hln
    generalize (j : Int) - (i : Int) = y at *
    go_enter Try.func75, Try.ntmps75
    go_wp2_with fail
    refine (HS.out _).mono ?_; rintro e w1 ⟨rfl, hb⟩
    have HO1 := Lib.hid (own_below HO.out hb)
    have HB1 := Lib.hid (hb.mono HBB.out)
    have hz1 := hb.size
    clear hb HS
    generalize spC l = sl at *
    generalize l.length = n at *
    have hBw := HBB.out
    go_wp2_with (first
      | (at_builtin; refine wpList_append_own _ rfl (.tmp 11) (.tmp 15) 92 rfl B 91 i0 (.agg #[.int .i64 0, .int .i64 0]) 2 16 Try.underlying92 hi0 hz0 (by assumption) hz2 rfl (by decide) (.slice a n c) n sl rfl (HO1.out.alloc _) ⟨w1.heap.size, 0, none⟩ 1 1 [.int .i64 i, .int .i64 y] rfl rfl ?c1 ?c2 ?c3 ?c4 ?c5 ?_)
      | fail)
    case c1 =>
      intro j u hj
      rw [Addr.add_lit, Nat.zero_add]
      rw [cell_at (heap_alloc_new w1 _)]
      simpa using hj
    case c2 =>
      intro u hu
      simp only [List.mem_cons, List.not_mem_nil, or_false] at hu
      rcases hu with rfl | rfl <;> rfl
    case c3 => unfold maxLen; omega
    case c4 => omega
    case c5 => simp only [World.size_alloc]; omega
    intro v7 wB ho7 hg7 _
    obtain ⟨a7, c7, rfl⟩ := own_slice ho7
    have HO7 := Lib.hid ho7
    have HG7 := Lib.hid hg7
    have HBelow : Hid (Below B w wB) := ((HB1.out.alloc (by omega) _).grown hg7 (by simp only [World.size_alloc]; omega) (fun q hq => (HO1.out.lt q hq).1))
    clear ho7 hg7
    go_wp2_with fail
    go_ret
    exact ⟨a7, c7, by rw [HLN.out] <;> rfl, by rw [HLN.out, HSN.out]; exact HO7.out, HBelow.out, by have := HG7.out.size; simp only [World.size_alloc] at this; omega⟩

/-- The bytes of an end. -/
def markS (x : Int) : ByteArray := if x = 1 then ⟨#[10]⟩ else if x = 2 then ⟨#[13, 10]⟩ else if x = 3 then ⟨#[13]⟩ else ⟨#[]⟩
theorem mark_of (x : Int) (w : World) : Calls Try.prog 53 #[.int .i64 x] w fun e w' => e = .returned (.string (markS x)) ∧ w = w' := by
  unfold markS
  by_cases h1 : x = 1
  · subst h1
    go_enter Try.func53, Try.ntmps53
    go_wp2_with fail
    go_ret
    exact ⟨rfl, rfl⟩
  · rw [if_neg h1]
    have d1 : (x == 1) = false := by simpa using h1
    by_cases h2 : x = 2
    · subst h2
      go_enter Try.func53, Try.ntmps53
      go_wp2_with fail
      go_ret
      exact ⟨rfl, rfl⟩
    · rw [if_neg h2]
      have d2 : (x == 2) = false := by simpa using h2
      by_cases h3 : x = 3
      · subst h3
        go_enter Try.func53, Try.ntmps53
        go_wp2_with fail
        go_ret
        exact ⟨rfl, rfl⟩
      · rw [if_neg h3]
        have d3 : (x == 3) = false := by simpa using h3
        clear h1 h2 h3
        go_enter Try.func53, Try.ntmps53
        go_wp2_with fail
        go_ret
        exact ⟨rfl, rfl⟩

/-- May a field of a right file be of this kind? -/
def fineB (x : Int) : Bool := decide (x = 0 ∨ x = 1)
theorem lineEnd_of {w : World} {a : Option Addr} {c : Nat} {l : List UInt8} (hr : Rd w 1 a l.length (bc l)) (hl : l.length ≤ 1000000) (i : Nat) (hi : i ≤ l.length) :
    Calls Try.prog 52 #[.slice a l.length c, .int .i64 i] w fun e w' => e = .returned (.int .i64 (endP l i)) ∧ w = w' := by
  unfold endP
  by_cases h1 : l.length ≤ i
  · rw [if_pos h1]
    obtain rfl : i = l.length := by omega
    clear hr hi h1
    go_enter Try.func52, Try.ntmps52
    go_wp2_with fail
    go_ret
    exact ⟨rfl, rfl⟩
  · rw [if_neg h1]
    have d1 : (i == l.length) = false := by simp; omega
    have d1' : ((i : Int) == (l.length : Int)) = false := by simp; omega
    have hlt : i < l.length := by omega
    obtain ⟨b, off, rfl, hb, hc⟩ := rd_at hr hlt
    by_cases h2 : lb l i = 10
    · rw [if_pos h2]
      rw [h2] at hc
      clear hr h1 h2
      go_enter Try.func52, Try.ntmps52
      go_wp2_with fail
      go_ret
      exact ⟨rfl, rfl⟩
    · rw [if_neg h2]
      have d2 : (lb l i == 10) = false := by simpa using h2
      by_cases h3 : i + 1 < l.length
      · obtain ⟨b', off', e, hb', hc'⟩ := rd_at hr h3
        obtain ⟨rfl, rfl⟩ : b = b' ∧ off = off' := by simpa using e
        have d3 : decide (i + 1 < l.length) = true := decide_eq_true h3
        have d3' : decide ((i : Int) + 1 < (l.length : Int)) = true := decide_eq_true (by omega)
        by_cases h4 : lb l (i + 1) = 10
        · rw [if_pos ⟨h3, h4⟩]
          rw [h4] at hc'
          clear hr h1 h2 h4 e hb'
          generalize lb l i = x at *
          go_enter Try.func52, Try.ntmps52
          go_wp2_with fail
          go_ret
          exact ⟨rfl, rfl⟩
        · rw [if_neg (fun hh => h4 hh.2)]
          have d4 : (lb l (i + 1) == 10) = false := by simpa using h4
          clear hr h1 h2 h4 e hb'
          generalize lb l i = x at *
          generalize lb l (i + 1) = y at *
          go_enter Try.func52, Try.ntmps52
          go_wp2_with fail
          go_ret
          exact ⟨rfl, rfl⟩
      · rw [if_neg (fun hh => h3 hh.1)]
        have d3 : decide (i + 1 < l.length) = false := decide_eq_false h3
        have d3' : decide ((i : Int) + 1 < (l.length : Int)) = false := decide_eq_false (by omega)
        clear hr h1 h2 h3
        generalize lb l i = x at *
        go_enter Try.func52, Try.ntmps52
        go_wp2_with fail
        go_ret
        exact ⟨rfl, rfl⟩

/-- Some number. -/
def SomeIdx (w : World) (e : Ending) (w' : World) : Prop := ∃ r : Nat, e = .returned (.int .i64 r) ∧ w = w'
theorem idx_no {w : World} {a : Option Addr} {c : Nat} {l : List UInt8} (hr : Rd w 1 a l.length (bc l)) (hl : l.length ≤ 1000000) (x : Int) (h : ∀ k, k < l.length → lb l k ≠ x) :
    Calls Try.prog 83 #[.slice a l.length c, .int .u8 x] w fun e w' => e = .returned (.int .i64 (-1)) ∧ w = w' := by
  have HR := Lib.hid hr
  have HX := Lib.hid h
  clear hr h
  go_enter Try.func83, Try.ntmps83
  go_wp2_with fail
  go_loop [8] (fun v => ∃ k : Nat, k ≤ l.length ∧ v = .int .i64 k) (fun v => l.length - (intOf v).toNat)
  case atStart => exact ⟨0, by omega, rfl⟩
  case round =>
    obtain ⟨k, hk, rfl⟩ := hrel
    by_cases hlt : k < l.length
    · have dk : decide (k < l.length) = true := decide_eq_true hlt
      obtain ⟨b, off, rfl, hb, hc⟩ := rd_at HR.out hlt
      have hm := HX.out k hlt
      have d1 : (x == lb l k) = false := by simp; omega
      clear hm
      generalize lb l k = y at *
      go_wp2_with fail
      go_round
      case rel => exact ⟨k + 1, hlt, by go_num⟩
      case measure => simp [intOf]; omega
    · have dk : decide (k < l.length) = false := decide_eq_false hlt
      go_wp2_with fail
      go_ret
      exact ⟨rfl, rfl⟩
theorem idx_yes {w : World} {a : Option Addr} {c : Nat} {l : List UInt8} (hr : Rd w 1 a l.length (bc l)) (hl : l.length ≤ 1000000) (x : Int) (h : ∃ k, k < l.length ∧ lb l k = x) :
    Calls Try.prog 83 #[.slice a l.length c, .int .u8 x] w (SomeIdx w) := by
  have HR := Lib.hid hr
  obtain ⟨q, hq, hqx⟩ := h
  have HQ := Lib.hid hqx
  clear hr hqx
  go_enter Try.func83, Try.ntmps83
  go_wp2_with fail
  go_loop [8] (fun v => ∃ k : Nat, k ≤ q ∧ v = .int .i64 k) (fun v => l.length - (intOf v).toNat)
  case atStart => exact ⟨0, by omega, rfl⟩
  case round =>
    obtain ⟨k, hk, rfl⟩ := hrel
    have hlt : k < l.length := by omega
    have dk : decide (k < l.length) = true := decide_eq_true hlt
    obtain ⟨b, off, rfl, hb, hc⟩ := rd_at HR.out hlt
    by_cases hm : lb l k = x
    · have d1 : (x == lb l k) = true := by simp; omega
      clear hm HQ
      generalize lb l k = y at *
      go_wp2_with fail
      go_ret
      exact ⟨k, rfl, rfl⟩
    · have d1 : (x == lb l k) = false := by simp; omega
      have hkq : k < q := by
        have := HQ.out
        rcases Nat.lt_or_ge k q with h | h
        · exact h
        · obtain rfl : k = q := by omega
          exact absurd this hm
      clear hm HQ
      generalize lb l k = y at *
      go_wp2_with fail
      go_round
      case rel => exact ⟨k + 1, hkq, by go_num⟩
      case measure => simp [intOf]; omega
theorem contains_no {w : World} {a : Option Addr} {c n : Nat} {l : List UInt8} (hr : Rd w 1 a l.length (bc l)) (hl : l.length ≤ 1000000) (hn : n = l.length) (x : Int) (h : ∀ k, k < l.length → lb l k ≠ x) :
    Calls Try.prog 77 #[.slice a n c, .int .u8 x] w fun e w' => e = .returned (.bool false) ∧ w = w' := by
  subst hn
  have HC := Lib.hid (idx_no (c := c) hr hl x h)
  clear hr h
  go_enter Try.func77, Try.ntmps77
  go_wp2_with (go_at_call 83; refine HC.out.mono ?_; rintro e w' ⟨rfl, rfl⟩)
  go_ret
  exact ⟨rfl, rfl⟩
theorem contains_yes {w : World} {a : Option Addr} {c n : Nat} {l : List UInt8} (hr : Rd w 1 a l.length (bc l)) (hl : l.length ≤ 1000000) (hn : n = l.length) (x : Int) (h : ∃ k, k < l.length ∧ lb l k = x) :
    Calls Try.prog 77 #[.slice a n c, .int .u8 x] w fun e w' => e = .returned (.bool true) ∧ w = w' := by
  subst hn
  have HC := Lib.hid (idx_yes (c := c) hr hl x h)
  clear hr h
  go_enter Try.func77, Try.ntmps77
  go_wp2_with (go_at_call 83; refine HC.out.mono ?_; rintro e w' ⟨r, rfl, rfl⟩; have hr0 : decide ((0 : Int) ≤ (r : Int)) = true := decide_eq_true (by omega))
  go_ret
  exact ⟨rfl, rfl⟩

end Go.Proofs.Ytkgakgceamafcaa
