/-
  The contracts of the arena's New, Add, first and Keep, at this seat's numbers.
-/
import Derived.Test.YtmdifcgnmkpecaaArC
import Derived.Test.YtmdifcgnmkpecaaShelf
import Derived.Lib.IndexMore
namespace Go.Proofs.Ytmdifcgnmkpecaa
open Go Go.RowKit
set_option linter.unusedVariables false

/-- What Add answers, and leaves. -/
def addR (l t : List UInt8) : Int × Int × Int := if 16384 - (l.length : Int) < t.length then (0, 0, 6) else if t.length = 0 then (0, 0, 0) else (l.length, t.length, 0)
def addL (l t : List UInt8) : List UInt8 := if 16384 - (l.length : Int) < t.length then l else l ++ t
def ret3 (r : Int × Int × Int) : Ending := .returned (.tuple #[.agg #[.int .i64 r.1, .int .i64 r.2.1], .int .i64 r.2.2])
/-- What a call that may turn the arena at p leaves. -/
def ArPost (r : Int × Int × Int) (l' : List UInt8) (B p : Nat) (w : World) (e : Ending) (w' : World) : Prop := e = ret3 r ∧ Ar w' B p l' ∧ Turned B w w'

theorem add_of {w : World} {B p : Nat} {l t : List UInt8} (h : Ar w B p l) (hl : l.length ≤ 16384) (a : Option Addr) (c : Nat) (hB : B ≤ w.heap.size) (ht : Rd w 1 a t.length (bc t)) (htl : t.length ≤ maxLen) :
    Calls Try.prog 21 #[.pointer (some ⟨p, 0, none⟩), .slice a t.length c] w (ArPost (addR l t) (addL l t) B p w) := by
  by_cases h1 : 16384 - (l.length : Int) < t.length
  · refine (add_full h hl a t.length c htl (by omega)).mono ?_
    rintro e w' ⟨rfl, hb⟩
    refine ⟨by unfold addR; rw [if_pos h1]; rfl, ?_, Turned.of_below hb hB⟩
    unfold addL; rw [if_pos h1]; exact h.below hb
  · by_cases h2 : t.length = 0
    · have h3 := add_none h hl a c
      rw [h2]
      refine h3.mono ?_
      rintro e w' ⟨rfl, hb⟩
      refine ⟨by unfold addR; rw [if_neg h1, if_pos h2]; rfl, ?_, Turned.of_below hb hB⟩
      unfold addL; rw [if_neg h1, List.eq_nil_of_length_eq_zero h2, List.append_nil]; exact h.below hb
    · obtain ⟨b, off, rfl, hb, hc⟩ := ht.2 (by omega)
      refine (add_yes h hl b off c hB hb hc (by omega) (by omega)).mono ?_
      rintro e w' ⟨rfl, hA, hT⟩
      refine ⟨by unfold addR; rw [if_neg h1, if_neg h2]; rfl, ?_, hT⟩
      unfold addL; rw [if_neg h1]; exact hA

/-- The bytes, as numbers. -/
def nums (l : List UInt8) : List Int := l.map fun b => (b.toNat : Int)
theorem nums_len (l : List UInt8) : (nums l).length = l.length := by simp [nums]
theorem nums_cells (l : List UInt8) : (nums l).map (Value.int .u8) = bc l := by simp [nums, bc, Function.comp_def]
theorem nums_lt (l : List UInt8) : ∀ x ∈ nums l, 0 ≤ x ∧ x < 256 := by
  intro x hx
  simp [nums] at hx
  obtain ⟨b, _, rfl⟩ := hx
  have := b.toNat_lt
  omega
theorem nums_bytes (l : List UInt8) : Lib.bytesOf (nums l) = l := by
  unfold nums Lib.bytesOf
  rw [List.map_map]
  conv => rhs; rw [← List.map_id l]
  apply List.map_congr_left
  intro b _
  simp
theorem nums_at {l : List UInt8} {i : Nat} (hi : i < l.length) : (bc l)[i]? = some (.int .u8 ((nums l).getD i 0)) := by
  unfold bc nums
  rw [List.getElem?_map, List.getElem?_eq_getElem hi, List.getD_eq_getElem?_getD, List.getElem?_map, List.getElem?_eq_getElem hi]
  rfl

theorem own_slice {w : World} {B : Nat} {e : TypeId} {v : Value} {n : Nat} {xs : List Value} {s : Nat} (h : w.ownsRow B e s v n xs) : ∃ a c, v = .slice a n c := by
  rcases h.2 with ⟨rfl, rfl⟩ | ⟨g, cap, cur, rfl, _⟩
  · exact ⟨none, 0, rfl⟩
  · exact ⟨_, cap, rfl⟩

theorem clone_rd {w : World} {t : List UInt8} (a : Option Addr) (c : Nat) (ht : Rd w 1 a t.length (bc t)) (hl : t.length ≤ 140737488355328) :
    Calls Try.prog 51 #[.slice a t.length c] w (BytesPost t w) := by
  cases a with
  | none =>
    have h0 : t.length = 0 := by
      rcases Nat.eq_zero_or_pos t.length with h | h
      · exact h
      · obtain ⟨b, off, e, _⟩ := ht.2 h; cases e
    refine (Try.bytes_Clone_nil t.length c w).mono ?_
    rintro e w' ⟨rfl, rfl⟩
    obtain rfl := List.eq_nil_of_length_eq_zero h0
    exact ⟨none, 0, rfl, ⟨by simp [bc], .inl ⟨rfl, rfl⟩⟩, Below.refl _ _⟩
  | some ad =>
    refine (Try.bytes_Clone_at ad t.length c (nums t) w (nums_len t) hl (fun i hi => ?_)).mono ?_
    · obtain ⟨b, off, e, _, hc⟩ := ht.2 (by omega)
      injection e with e
      subst e
      rw [Addr.add_lit]
      exact hc i _ (nums_at hi)
    · rintro e w' ⟨v', rfl, h2, h3, h4⟩
      rw [nums_cells] at h2
      obtain ⟨a', c', rfl⟩ := own_slice h2
      exact ⟨a', c', rfl, h2, h4⟩

theorem new_big (v : Option Addr) (m c : Nat) (w : World) (hm : m ≤ maxLen) (h : 4096 < m) :
    Calls Try.prog 11 #[.slice v m c] w fun e w' => e = .returned (.tuple #[.pointer none, .int .i64 8]) ∧ w = w' := by
  unfold maxLen at hm
  go_enter Try.func11, Try.ntmps11
  go_wp2_with fail
  go_ret2
  exact ⟨rfl, rfl⟩
theorem new_of {w : World} {t : List UInt8} (a : Option Addr) (c : Nat) (ht : Rd w 1 a t.length (bc t)) (hl : t.length ≤ 4096) :
    Calls Try.prog 11 #[.slice a t.length c] w fun e w' => ∃ p, e = .returned (.tuple #[.pointer (some ⟨p, 0, none⟩), .int .i64 0]) ∧ Ar w' w.heap.size p t ∧ Below w.heap.size w w' := by
  have HC := Lib.hid (clone_rd a c ht (by omega))
  clear ht
  go_enter Try.func11, Try.ntmps11
  go_wp2_with fail
  refine HC.out.mono ?_
  rintro e w1 ⟨a', c', rfl, hown, hb⟩
  have HO := Lib.hid hown
  have HB := Lib.hid hb
  clear hown hb HC
  go_wp2_with fail
  go_ret2
  have hs := HB.out.size
  exact ⟨w1.heap.size, rfl, ⟨a', c', hs, heap_alloc_new _ _, HO.out.alloc _, by omega⟩, HB.out.alloc hs _⟩

/-- The first place at which bytes stand, as a span. -/
def firstR (l t : List UInt8) : Int × Int := if t.length = 0 ∨ Lib.index l t < 0 then (0, 0) else (Lib.index l t, t.length)
def ret2 (r : Int × Int) : Ending := .returned (.agg #[.int .i64 r.1, .int .i64 r.2])

theorem first_nil (v : Value) (w : World) : Calls Try.prog 107 #[.pointer none, v] w fun e w' => e = ret2 (0, 0) ∧ Below w.heap.size w w' := by
  go_enter Try.func107, Try.ntmps107
  go_wp2_with fail
  refine bodyPost_ret (v := .agg #[.int .i64 0, .int .i64 0]) (by simp [results, Try.results107, go_sem]) rfl ⟨rfl, ?_⟩
  exact (Below.refl _ _).alloc (Nat.le_refl _) _

theorem index_of {w : World} {l t : List UInt8} (a a2 : Option Addr) (c c2 : Nat) (h1 : Rd w 1 a l.length (bc l)) (hlc : l.length ≤ c) (h2 : Rd w 1 a2 t.length (bc t)) (hl : l.length ≤ 16384) (ht : t.length ≤ maxLen) (htp : 0 < t.length) (hn : a = none → c = 0) {m : Int} (hm : w.cell? ⟨0, 0, none⟩ = some (.int .i64 m)) :
    Calls Try.prog 113 #[.slice a l.length c, .slice a2 t.length c2] w fun e w' => e = .returned (.int .i64 (Lib.index l t)) ∧ ∃ q, w.drewN q = w' := by
  -- (this text is for seats with the arena's search: function 107)
  unfold maxLen at ht
  obtain ⟨b2, off2, rfl, hb2, hc2⟩ := h2.2 htp
  cases a with
  | none =>
    have h0 : l.length = 0 := by
      rcases Nat.eq_zero_or_pos l.length with h | h
      · exact h
      · obtain ⟨b, off, e, _⟩ := h1.2 h; cases e
    obtain rfl := List.eq_nil_of_length_eq_zero h0
    obtain rfl := hn rfl
    refine (Try.bytes_Index_nil (some ⟨b2, off2, none⟩) t.length c2 w ht (fun h => ⟨b2, off2, _, rfl, by simpa using hc2 0 _ (nums_at (by omega))⟩)).mono ?_
    rintro e w' ⟨rfl, rfl⟩
    refine ⟨?_, 0, rfl⟩
    rw [if_neg (by omega)]
    have : t ≠ [] := by rintro rfl; simp at htp
    simp [Lib.index, this]
  | some ad =>
    refine (Try.bytes_Index_at ad ⟨b2, off2, none⟩ l.length c t.length c2 (nums l) (nums t) m w (nums_len l) (nums_len t) (nums_lt l) (nums_lt t) (fun i hi => ?_) (fun i hi => ?_) hlc (by omega) ht hm).mono ?_
    · obtain ⟨b, off, e, _, hc⟩ := h1.2 (by omega)
      injection e with e
      subst e
      rw [Addr.add_lit]
      exact hc i _ (nums_at hi)
    · rw [Addr.add_lit]
      exact hc2 i _ (nums_at hi)
    · rintro e w' ⟨rfl, q, rfl⟩
      rw [nums_bytes, nums_bytes]
      exact ⟨rfl, q, rfl⟩

theorem Ar.cell0 {w : World} {B p : Nat} {l : List UInt8} (h : Ar w B p l) : ∃ a c, w.cell? ⟨p, 0, none⟩ = some (.slice a l.length c) ∧ Rd w 1 a l.length (bc l) ∧ l.length ≤ c ∧ c ≤ maxLen ∧ p < w.heap.size ∧ (a = none → c = 0) := by
  obtain ⟨a, c, h1, h2, h3, h4⟩ := h
  obtain ⟨a', c', h5, h6, h7, h8, h9⟩ := Ar.cell ⟨a, c, h1, h2, h3, h4⟩
  refine ⟨a', c', h5, h6, h7, h8, h9, fun hn => ?_⟩
  rw [cell_at h2] at h5
  injection h5 with h5
  injection h5 with e1 _ e2
  subst e1 e2
  rcases h3.2 with ⟨e, _⟩ | ⟨g, cap, cur, e, _⟩
  · injection e
  · rw [hn] at e; injection e with e; cases e

set_option maxHeartbeats 800000 in
theorem first_of {w : World} {B p : Nat} {l t : List UInt8} (h : Ar w B p l) (hl : l.length ≤ 16384) (a : Option Addr) (c : Nat) (ht : Rd w 1 a t.length (bc t)) (htl : t.length ≤ maxLen) {m : Int} (hm : w.cell? ⟨0, 0, none⟩ = some (.int .i64 m)) (h0 : 0 < w.heap.size) :
    Calls Try.prog 107 #[.pointer (some ⟨p, 0, none⟩), .slice a t.length c] w fun e w' => e = ret2 (firstR l t) ∧ Below w.heap.size w w' := by
  by_cases h2 : t.length = 0
  · rw [h2]
    have hr : firstR l t = (0, 0) := by unfold firstR; rw [if_pos (.inl h2)]
    rw [hr]
    clear ht hm
    go_enter Try.func107, Try.ntmps107
    go_wp2_with fail
    refine bodyPost_ret (v := .agg #[.int .i64 0, .int .i64 0]) (by simp [results, Try.results107, go_sem]) rfl ⟨rfl, ?_⟩
    exact (Below.refl _ _).alloc (Nat.le_refl _) _
  · have hb : Below w.heap.size w (w.alloc (.cells #[.int .i64 0, .int .i64 0] 39)) := (Below.refl _ w).alloc (Nat.le_refl _) _
    obtain ⟨a1, c1, hc1, hr1, hl1, hl2, hp, hn⟩ := (h.below hb).cell0
    have hi := index_of a1 a c1 c hr1 hl1 (ht.below hb) hl htl (by omega) hn (m := m) (by rw [hb.cell (p := ⟨0, 0, none⟩) h0]; exact hm)
    have HI := Lib.hid hi
    have d2 : ((t.length : Int) == 0) = false := by rw [beq_eq_false_iff_ne]; omega
    unfold maxLen at htl
    clear hi hm hr1 ht h hb
    by_cases h3 : Lib.index l t < 0
    · have hr : firstR l t = (0, 0) := by unfold firstR; rw [if_pos (.inr h3)]
      rw [hr]
      generalize Lib.index l t = x at *
      go_enter Try.func107, Try.ntmps107
      go_wp2_with fail
      refine HI.out.mono ?_
      rintro e w1 ⟨rfl, q, rfl⟩
      have d3 : decide (x < 0) = true := decide_eq_true h3
      go_wp2_with fail
      refine bodyPost_ret (v := .agg #[.int .i64 0, .int .i64 0]) (by simp [results, Try.results107, go_sem]) rfl ⟨rfl, ?_⟩
      exact ((below_draw1 ((Below.refl _ _).alloc (Nat.le_refl _) _) _).setCell (p := ⟨w.heap.size, 0, none⟩) (Nat.le_refl _) _).setCell (p := ⟨w.heap.size, 1, none⟩) (Nat.le_refl _) _
    · have hr : firstR l t = (Lib.index l t, (t.length : Int)) := by unfold firstR; rw [if_neg (by omega)]
      rw [hr]
      generalize Lib.index l t = x at *
      go_enter Try.func107, Try.ntmps107
      go_wp2_with fail
      refine HI.out.mono ?_
      rintro e w1 ⟨rfl, q, rfl⟩
      have d3 : decide (x < 0) = false := decide_eq_false (by omega)
      go_wp2_with fail
      refine bodyPost_ret (v := .agg #[.int .i64 x, .int .i64 t.length]) (by simp [results, Try.results107, go_sem]) rfl ⟨rfl, ?_⟩
      exact ((below_draw1 ((Below.refl _ _).alloc (Nat.le_refl _) _) _).setCell (p := ⟨w.heap.size, 0, none⟩) (Nat.le_refl _) _).setCell (p := ⟨w.heap.size, 1, none⟩) (Nat.le_refl _) _

/-- What Keep answers, and leaves. -/
def keepR (l t : List UInt8) : Int × Int × Int := if t.length = 0 ∨ Lib.index l t < 0 then addR l t else (Lib.index l t, t.length, 0)
def keepL (l t : List UInt8) : List UInt8 := if t.length = 0 ∨ Lib.index l t < 0 then addL l t else l

/-- A span's block, and what becomes of it. -/
structure SpB (w : World) (b : Nat) (x y : Int) : Prop where
  blk : w.heap[b]? = some (.cells #[.int .i64 x, .int .i64 y] 39 (0, 0))
theorem SpB.c0 {w : World} {b : Nat} {x y : Int} (h : SpB w b x y) : w.cell? ⟨b, 0, none⟩ = some (.int .i64 x) := by rw [cell_at h.blk]; rfl
theorem SpB.c1 {w : World} {b : Nat} {x y : Int} (h : SpB w b x y) : w.cell? ⟨b, 1, none⟩ = some (.int .i64 y) := by rw [cell_at h.blk]; rfl
theorem SpB.f {w : World} {b : Nat} {x y : Int} (h : SpB w b x y) (i : Nat) : w.frozen? ⟨b, i, none⟩ = false := unfrozen h.blk i
theorem SpB.lt {w : World} {b : Nat} {x y : Int} (h : SpB w b x y) : b < w.heap.size := lt_of_heap h.blk
theorem SpB.new (w : World) (x y : Int) : SpB (w.alloc (.cells #[.int .i64 x, .int .i64 y] 39)) w.heap.size x y := ⟨heap_alloc_new _ _⟩
theorem SpB.below {w w' : World} {b : Nat} {x y : Int} (h : SpB w b x y) (hb : Below w.heap.size w w') : SpB w' b x y := ⟨(hb.block b h.lt).trans h.blk⟩
theorem SpB.turned {B : Nat} {w w' : World} {b : Nat} {x y : Int} (h : SpB w b x y) (ht : Turned B w w') : SpB w' b x y :=
  ⟨(ht.rest b h.lt (fun cs hc => by rw [h.blk] at hc; injection hc with hc; injection hc with _ hc; exact absurd hc (by decide)) (fun cs hc => by rw [h.blk] at hc; injection hc with hc; injection hc with _ hc; exact absurd hc (by decide))).trans h.blk⟩
theorem SpB.both {w : World} {b : Nat} {x' y' x y : Int} (h : SpB w b x' y') : SpB ((w.setCell ⟨b, 0, none⟩ (.int .i64 x)).setCell ⟨b, 1, none⟩ (.int .i64 y)) b x y :=
  ⟨by rw [heap_set_at (heap_set_at h.blk)]; rfl⟩
theorem below_two {w0 w : World} {b : Nat} (h : Below w0.heap.size w0 w) (hb : w0.heap.size ≤ b) (u v : Value) : Below w0.heap.size w0 ((w.setCell ⟨b, 0, none⟩ u).setCell ⟨b, 1, none⟩ v) :=
  (h.setCell (p := ⟨b, 0, none⟩) hb u).setCell (p := ⟨b, 1, none⟩) hb v
theorem turned_two {B : Nat} {w0 w : World} {b : Nat} (h : Turned B w0 w) (hB : B ≤ w0.heap.size) (hb : w0.heap.size ≤ b) (u v : Value) : Turned B w0 ((w.setCell ⟨b, 0, none⟩ u).setCell ⟨b, 1, none⟩ v) :=
  (h.set_new hB hb).set_new hB hb

set_option maxHeartbeats 800000 in
theorem keep_nil (v : Value) (w : World) : Calls Try.prog 91 #[.pointer none, v] w fun e w' => e = .returned (.tuple #[.agg #[.int .i64 0, .int .i64 0], .int .i64 2]) ∧ Below w.heap.size w w' := by
  have HC := Lib.hid (fun w => first_nil v w)
  have HD := Lib.hid (fun w => add_nil v w)
  unfold ret2 at HC
  go_enter Try.func91, Try.ntmps91
  go_wp2_with fail
  refine (HC.out _).mono ?_; rintro e w1 ⟨rfl, hb⟩
  have S1 := (SpB.new w 0 0).below hb
  have HB := Lib.hid (((Below.refl _ w).alloc (Nat.le_refl _) _).trans (hb.mono (by simp)))
  have hs1 : w.heap.size < w1.heap.size := S1.lt
  clear hb HC
  go_wp2_with fail
  refine (HD.out _).mono ?_; rintro e w2 ⟨rfl, hb⟩
  have HB2 := Lib.hid ((HB.out.alloc HB.out.size _).trans (hb.mono (by simp; omega)))
  have S2 := (S1.below ((Below.refl _ w1).alloc (Nat.le_refl _) (.cells #[.int .i64 0, .int .i64 0] 39))).below hb
  have y0 := S2.c0
  have y1 := S2.c1
  have y2 := S2.f 0
  have y3 := S2.f 1
  clear hb S2
  go_wp2_with fail
  refine bodyPost_ret (v := .tuple #[.agg #[.int .i64 0, .int .i64 0], .int .i64 2]) (by simp [results, Try.results91, go_sem, y0, y1]) rfl ⟨rfl, ?_⟩
  exact below_two HB2.out (Nat.le_refl _) _ _

set_option maxHeartbeats 1600000 in
theorem keep_of {w : World} {B p : Nat} {l t : List UInt8} (h : Ar w B p l) (hl : l.length ≤ 16384) (a : Option Addr) (c : Nat) (hB : B ≤ w.heap.size) (ht : Rd w 1 a t.length (bc t)) (htl : t.length ≤ maxLen) {m : Int} (hm : w.cell? ⟨0, 0, none⟩ = some (.int .i64 m)) (h0 : 0 < w.heap.size) :
    Calls Try.prog 91 #[.pointer (some ⟨p, 0, none⟩), .slice a t.length c] w (ArPost (keepR l t) (keepL l t) B p w) := by
  have hb0 : Below w.heap.size w (w.alloc (.cells #[.int .i64 0, .int .i64 0] 39)) := (Below.refl _ w).alloc (Nat.le_refl _) _
  have HC := Lib.hid (first_of (h.below hb0) hl a c (ht.below hb0) htl (m := m) (by rw [hb0.cell (p := ⟨0, 0, none⟩) h0]; exact hm) (by simp))
  have HA := Lib.hid (fun w1 (hb1 : Below w.heap.size w w1) => add_of (h.below hb1) hl a c (Nat.le_trans hB hb1.size) (ht.below hb1) htl)
  have HH := Lib.hid h
  unfold ret2 at HC
  clear hb0 hm ht h
  unfold keepR keepL
  by_cases hk : t.length = 0 ∨ Lib.index l t < 0
  · rw [if_pos hk, if_pos hk]
    rw [show firstR l t = (0, 0) by unfold firstR; rw [if_pos hk]] at HC
    clear hk
    unfold ArPost ret3 at *
    generalize addR l t = r at *
    generalize addL l t = l' at *
    go_enter Try.func91, Try.ntmps91
    go_wp2_with fail
    refine HC.out.mono ?_; rintro e w1 ⟨rfl, hb⟩
    have S1 := (SpB.new w 0 0).below hb
    have HB := Lib.hid (((Below.refl _ w).alloc (Nat.le_refl _) _).trans (hb.mono (by simp)))
    have hs1 : w.heap.size < w1.heap.size := S1.lt
    clear hb HC
    go_wp2_with fail
    refine (HA.out _ (HB.out.alloc HB.out.size _)).mono ?_; rintro e w2 ⟨rfl, hA, hT⟩
    have S2 := (S1.below ((Below.refl _ w1).alloc (Nat.le_refl _) (.cells #[.int .i64 0, .int .i64 0] 39))).turned hT
    have y0 := S2.c0
    have y1 := S2.c1
    have y2 := S2.f 0
    have y3 := S2.f 1
    have HT2 := Lib.hid ((Turned.of_below (HB.out.alloc HB.out.size _) hB).trans hT)
    have HA2 := Lib.hid hA
    have HS2 := Lib.hid S2
    clear hA hT S2
    go_wp2_with fail
    refine bodyPost_ret (v := .tuple #[.agg #[.int .i64 r.1, .int .i64 r.2.1], .int .i64 r.2.2]) (by simp [results, Try.results91, go_sem, y0, y1]) rfl ⟨rfl, ?_, ?_⟩
    · exact (HA2.out.set HS2.out.blk (by decide) (by decide)).set (heap_set_at HS2.out.blk) (by decide) (by decide)
    · exact turned_two HT2.out hB (Nat.le_refl _) _ _
  · rw [if_neg hk, if_neg hk]
    rw [show firstR l t = (Lib.index l t, (t.length : Int)) by unfold firstR; rw [if_neg hk]] at HC
    unfold ArPost ret3 at *
    have hn : 0 < t.length := by omega
    generalize Lib.index l t = x at *
    unfold maxLen at htl
    have d2 : ((t.length : Int) == 0) = false := by rw [beq_eq_false_iff_ne]; omega
    clear hk HA
    go_enter Try.func91, Try.ntmps91
    go_wp2_with fail
    refine HC.out.mono ?_; rintro e w1 ⟨rfl, hb⟩
    have S1 := (SpB.new w 0 0).below hb
    have y0 := S1.c0
    have y1 := S1.c1
    have y2 := S1.f 0
    have y3 := S1.f 1
    have HB := Lib.hid (((Below.refl _ w).alloc (Nat.le_refl _) _).trans (hb.mono (by simp)))
    have hs1 : w.heap.size < w1.heap.size := S1.lt
    clear hb HC
    go_wp2_with fail
    have S2 := S1.both (x := x) (y := t.length)
    have S3 := S2.below ((Below.refl _ _).alloc (Nat.le_refl _) (.cells #[.int .i64 x, .int .i64 t.length] 39))
    refine bodyPost_ret (v := .tuple #[.agg #[.int .i64 x, .int .i64 t.length], .int .i64 0]) (by simp [results, Try.results91, go_sem, S3.c0, S3.c1]) rfl ⟨rfl, ?_, ?_⟩
    · exact (((HH.out.below HB.out).set S1.blk (by decide) (by decide)).set (heap_set_at S1.blk) (by decide) (by decide)).below ((Below.refl _ _).alloc (Nat.le_refl _) _)
    · exact (turned_two (Turned.of_below HB.out hB) hB (Nat.le_refl _) _ _).then_below ((Below.refl _ _).alloc (Nat.le_refl _) _) (by simp; omega)

end Go.Proofs.Ytmdifcgnmkpecaa
