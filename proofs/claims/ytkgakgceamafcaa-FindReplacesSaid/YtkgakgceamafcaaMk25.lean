/-
  Texts of this seat, put together (a claim holds few texts): PcW, QuA, QuB, CeA, CeB.
-/
import Derived.Test.YtkgakgceamafcaaMk24
import Derived.Deep.QuietTactic
import Derived.BigQuiet

namespace Go.Proofs.Ytkgakgceamafcaa
open Go Go.RowKit
set_option linter.unusedVariables false

theorem keepR_err (l f : List UInt8) (h : (keepR l f).2.2 ≠ 0) : (keepR l f).2.2 = 6 ∧ keepL l f = l ∧ (16384 : Int) - l.length < f.length := by
  unfold keepR keepL at *
  split at h
  · rename_i hc
    rw [if_pos hc, if_pos hc]
    unfold addR addL at *
    split at h
    · rename_i h1
      rw [if_pos h1, if_pos h1]
      exact ⟨rfl, rfl, h1⟩
    · split at h <;> simp at h
  · simp at h
theorem keepR_ok (l f : List UInt8) (hl : l.length ≤ 16384) (h : (keepR l f).2.2 = 0) :
    ∃ i : Nat, (keepR l f).1 = (i : Int) ∧ (keepR l f).2.1 = (f.length : Int) ∧ i + f.length ≤ (keepL l f).length ∧ (keepL l f).length ≤ 16384 ∧ ((keepL l f).drop i).take f.length = f := by
  unfold keepR keepL at *
  by_cases hc : f.length = 0 ∨ Lib.index l f < 0
  · rw [if_pos hc] at h ⊢
    rw [if_pos hc]
    unfold addR addL at *
    by_cases h1 : (16384 : Int) - l.length < f.length
    · rw [if_pos h1] at h; simp at h
    · rw [if_neg h1]
      rw [if_neg h1]
      by_cases h2 : f.length = 0
      · rw [if_pos h2]
        obtain rfl := List.eq_nil_of_length_eq_zero h2
        exact ⟨0, rfl, by simp, by simp, by simp; omega, by simp⟩
      · rw [if_neg h2]
        exact ⟨l.length, rfl, rfl, by simp, by simp; omega, by simp⟩
  · rw [if_neg hc] at h ⊢
    rw [if_neg hc]
    rcases Lib.index_spec l f with ⟨h1, _⟩ | ⟨i, h1, h2, h3, _⟩
    · omega
    · have hr := Lib.index_room l f (by omega)
      rw [h1] at hr
      refine ⟨i, h1, rfl, by omega, hl, ?_⟩
      unfold Lib.occAt at h3
      have hp := List.isPrefixOf_iff_prefix.1 h3
      exact (List.prefix_iff_eq_take.1 hp).symm

/-- What Tidy tells of a text of many spans. -/
def TidyPost (l f : List UInt8) (B p : Nat) (w : World) (e : Ending) (w' : World) : Prop :=
  Ar w' B p (keepL l f) ∧ Turned B w w' ∧
  (((keepR l f).2.2 ≠ 0 ∧ e = .returned (.tuple #[.agg #[.slice none 0 0], .int .i64 (keepR l f).2.2])) ∨
   ((keepR l f).2.2 = 0 ∧ ∃ a n c, e = .returned (.tuple #[.agg #[.slice a n c], .int .i64 0]) ∧ TxB w.heap.size w' (.slice a n c) (ex [((keepR l f).1, (f.length : Int))])))
theorem sm_kept {i n : Nat} (h : i + n ≤ 16384) : Sm (ex [((i : Int), (n : Int))]) := by
  rw [ex_one, ex1_nat]
  refine ⟨by simp; omega, fun x hx => ?_⟩
  rw [List.mem_map] at hx
  obtain ⟨k, hk, rfl⟩ := hx
  rw [List.mem_range] at hk
  omega
theorem of_one {w : World} {b c : Nat} {fr : Nat × Nat} {ty : TypeId} {i n : Nat} (h : w.heap[b]? = some (.cells #[.int .i64 i, .int .i64 n] ty fr)) (hin : i + n ≤ 16384) :
    Calls Try.prog 54 #[.slice (some ⟨b, 0, none⟩) 1 c] w fun e w' => ∃ a m c', e = .returned (.agg #[.slice a m c']) ∧ TxB w.heap.size w' (.slice a m c') (ex [((i : Int), (n : Int))]) ∧ Below w.heap.size w w' := by
  have hr : Rd w 2 (some ⟨b, 0, none⟩) [((i : Int), (n : Int))].length (spC [((i : Int), (n : Int))]) := ⟨by simp [spC_len], fun _ => ⟨b, 0, rfl, lt_of_heap h, fun j u hj => by rw [Nat.zero_add, cell_at h]; simpa [spC] using hj⟩⟩
  refine (tof_of (c := c) hr (by simp) (by intro s hs; obtain rfl := List.mem_singleton.1 hs; unfold In40; simp only; omega) (sm_kept hin)).mono ?_
  rintro e w' ⟨v', rfl, hx, hb⟩
  have hx2 := hx
  obtain ⟨a, c', rfl, -, -, -, -⟩ := hx2
  exact ⟨a, _, c', rfl, hx, hb⟩

end Go.Proofs.Ytkgakgceamafcaa

namespace Go.Proofs.Ytkgakgceamafcaa
open Go Go.RowKit
set_option linter.unusedVariables false

/-- A text with this byte needs quotes. -/
def spB (c : Int) : Bool := decide (c = 44 ∨ c = 34 ∨ c = 13 ∨ c = 10)
def needsP (l : List UInt8) : Bool := decide (∃ k, k < l.length ∧ spB (lb l k) = true)
def dupB (c : UInt8) : List UInt8 := if (c.toNat : Int) = 34 then [c, c] else [c]
/-- A text as a field. -/
def putP (l : List UInt8) : List UInt8 := if needsP l = true then 34 :: (l.flatMap dupB ++ [34]) else l
def endedP (c : Int) : Int := if c = 44 then 0 else if c = 13 then 4 else 5
/-- To which place a byte leads. -/
def nextP (p c : Int) : Int :=
  if p = 2 then (if c = 34 then 3 else 2)
  else if p = 4 then (if c = 10 then 0 else 5)
  else if p = 0 then (if c = 34 then 2 else if spB c = true then endedP c else 1)
  else if p = 1 then (if spB c = true then endedP c else 1)
  else if p = 3 then (if c = 34 then 2 else endedP c)
  else 5
def runP (l : List UInt8) : Int := l.foldl (fun p c => nextP p (c.toNat : Int)) 0
/-- At which places a right file may end. -/
def mayP (p : Int) : Bool := decide (p = 0 ∨ p = 1 ∨ p = 3)
/-- Is a file right? -/
def rightP (l : List UInt8) : Bool := mayP (runP l)
theorem endedP_range (c : Int) : 0 ≤ endedP c ∧ endedP c ≤ 5 := by unfold endedP; split <;> (try split) <;> omega
theorem nextP_range (p c : Int) : 0 ≤ nextP p c ∧ nextP p c ≤ 5 := by
  have := endedP_range c
  unfold nextP
  repeat' split
  all_goals omega
theorem runP_range (l : List UInt8) : 0 ≤ runP l ∧ runP l ≤ 5 := by
  rcases List.eq_nil_or_concat l with rfl | ⟨l0, c, rfl⟩
  · exact ⟨by decide, by decide⟩
  · rw [List.concat_eq_append]
    unfold runP
    rw [List.foldl_append]
    exact nextP_range _ _
theorem runP_take {l : List UInt8} {k : Nat} (h : k < l.length) : runP (l.take (k + 1)) = nextP (runP (l.take k)) (lb l k) := by
  rw [List.take_succ_eq_append_getElem h]
  unfold runP
  rw [List.foldl_append]
  unfold lb
  rw [List.getD_eq_getElem?_getD, List.getElem?_eq_getElem h]
  rfl

end Go.Proofs.Ytkgakgceamafcaa

namespace Go.Proofs.Ytkgakgceamafcaa
open Go Go.RowKit
set_option linter.unusedVariables false

theorem dup_take {l : List UInt8} {k : Nat} (h : k < l.length) : (l.take (k + 1)).flatMap dupB = (l.take k).flatMap dupB ++ dupB l[k] := by
  rw [List.take_succ_eq_append_getElem h, List.flatMap_append]; simp
theorem dup_len (l : List UInt8) : (l.flatMap dupB).length ≤ 2 * l.length := by
  induction l with
  | nil => simp
  | cons c l ih =>
    have : (dupB c).length ≤ 2 := by unfold dupB; split <;> simp
    rw [List.flatMap_cons, List.length_append, List.length_cons]; omega
theorem lb_el {l : List UInt8} {k : Nat} (h : k < l.length) : lb l k = (l[k].toNat : Int) := by
  unfold lb; rw [List.getD_eq_getElem?_getD, List.getElem?_eq_getElem h]; rfl
theorem dup_yes {l : List UInt8} {k : Nat} (h : k < l.length) (h2 : lb l k = 34) : bc (dupB l[k]) = [.int .u8 34, .int .u8 34] := by
  rw [lb_el h] at h2
  unfold dupB; rw [if_pos h2]; unfold bc; simp [h2]
theorem dup_no {l : List UInt8} {k : Nat} (h : k < l.length) (h2 : lb l k ≠ 34) : bc (dupB l[k]) = [.int .u8 (lb l k)] := by
  have h3 := lb_el h
  rw [h3] at h2 ⊢
  unfold dupB; rw [if_neg h2]; rfl
theorem own_byte {w : World} {B g : Nat} {e : TypeId} {x : Value} (hB : B ≤ g) (h : w.heap[g]? = some (.cells #[x] e (0, 0))) : w.ownsRow B e 1 (.slice (some ⟨g, 0, none⟩) 1 1) 1 [x] :=
  ⟨rfl, .inr ⟨g, 1, #[x], rfl, hB, h, Nat.le_refl _, (by unfold maxLen; omega), rfl, rfl⟩⟩

/-- What is there at the head of Put's loop. -/
def PutJ (l : List UInt8) (w : World) (v3 v14 : Value) (wr : World) : Prop := ∃ (k n : Nat) (a : Option Addr) (c : Nat) (xs : List Value), v14 = .int .i64 k ∧ k ≤ l.length ∧ v3 = .slice a n c ∧ n = (34 :: (l.take k).flatMap dupB).length ∧ xs = bc (34 :: (l.take k).flatMap dupB) ∧ wr.ownsRow w.heap.size 5 1 (.slice a n c) n xs ∧ Below w.heap.size w wr

end Go.Proofs.Ytkgakgceamafcaa

namespace Go.Proofs.Ytkgakgceamafcaa
open Go Go.RowKit
set_option linter.unusedVariables false

/-- A cell. -/
abbrev cellV (a : Option Addr) (n c : Nat) (x y : Int) (k : Bool) : Value := .agg #[.slice a n c, .int .i64 x, .int .i64 y, .bool k]
/-- A block of four cells that are written. -/
def set4 (w : World) (b : Nat) (u0 u1 u2 u3 : Value) : World := (((w.setCell ⟨b, 0, none⟩ u0).setCell ⟨b, 1, none⟩ u1).setCell ⟨b, 2, none⟩ u2).setCell ⟨b, 3, none⟩ u3
theorem set4_at {w : World} {b T : Nat} {a0 a1 a2 a3 : Value} (h : w.heap[b]? = some (.cells #[a0, a1, a2, a3] T (0, 0))) (u0 u1 u2 u3 : Value) : (set4 w b u0 u1 u2 u3).heap[b]? = some (.cells #[u0, u1, u2, u3] T (0, 0)) := by
  unfold set4
  rw [heap_set_at (heap_set_at (heap_set_at (heap_set_at h)))]; rfl
theorem set4_below {B b : Nat} {a w : World} (h : Below B a w) (hb : B ≤ b) (u0 u1 u2 u3 : Value) : Below B a (set4 w b u0 u1 u2 u3) := by
  unfold set4
  exact (((h.setCell (p := ⟨b, 0, none⟩) hb _).setCell (p := ⟨b, 1, none⟩) hb _).setCell (p := ⟨b, 2, none⟩) hb _).setCell (p := ⟨b, 3, none⟩) hb _
theorem TxB.set4 {B b : Nat} {w : World} {v : Value} {t : List Int} (h : TxB B w v t) (hb : b < B) (u0 u1 u2 u3 : Value) : TxB B (set4 w b u0 u1 u2 u3) v t := (((h.set hb).set hb).set hb).set hb
theorem Ar.set4 {w : World} {B p b T : Nat} {l : List UInt8} {a0 a1 a2 a3 : Value} (h : Ar w B p l) (hb : w.heap[b]? = some (.cells #[a0, a1, a2, a3] T (0, 0))) (h1 : T ≠ 87) (h2 : T ≠ 5) (u0 u1 u2 u3 : Value) : Ar (set4 w b u0 u1 u2 u3) B p l :=
  (((h.set hb h1 h2).set (heap_set_at hb) h1 h2).set (heap_set_at (heap_set_at hb)) h1 h2).set (heap_set_at (heap_set_at (heap_set_at hb))) h1 h2

set_option maxRecDepth 100000 in
theorem cbytes_of {w : World} {B p : Nat} {l : List UInt8} {a : Option Addr} {n c : Nat} {t : List Int} (x y : Int) (k : Bool) (h : Ar w B p l) (hl : l.length ≤ 16384) (hx : Tx w (.slice a n c) t) (hin : InL l t) :
    Calls Try.prog 62 #[cellV a n c x y k, .pointer (some ⟨p, 0, none⟩)] w (BytesPost (atL l t) w) := by
  have al := below_al w (Obj.cells #[Value.slice a n c, Value.int .i64 x, Value.int .i64 y, Value.bool k] 98)
  have HF := Lib.hid (pflat_of (h.below al) hl (hx.below al) hin)
  have HB := Lib.hid al
  have k0 : (w.alloc (Obj.cells #[Value.slice a n c, Value.int .i64 x, Value.int .i64 y, Value.bool k] 98)).cell? ⟨w.heap.size, 0, none⟩ = some (.slice a n c) := by rw [cell_at (heap_alloc_new w _)]; rfl
  have hz : (w.alloc (Obj.cells #[Value.slice a n c, Value.int .i64 x, Value.int .i64 y, Value.bool k] 98)).heap.size ≥ w.heap.size := al.size
  clear h hx al
  generalize atL l t = f at *
  go_enter Try.func62, Try.ntmps62
  go_wp2_with fail
  refine HF.out.mono ?_; rintro e w2 ⟨a2, c2, rfl, ho2, hb2⟩
  have HO := Lib.hid (own_mono ho2 hz)
  have HB2 := Lib.hid (HB.out.trans (hb2.mono hz))
  clear ho2 hb2
  go_wp2_with fail
  go_ret
  exact ⟨a2, c2, rfl, HO.out, HB2.out⟩

/-- What a drawn region keeps that ends in a store into one variable of four cells. -/
def SxC (T b : Nat) (w1 w : World) : Prop := Below b w1 w ∧ ∃ x0 x1 x2 x3, w.heap[b]? = some (.cells #[x0, x1, x2, x3] T (0, 0))
theorem SxC.under {T b : Nat} {w1 w w' : World} (h : SxC T b w1 w) (hb : Below w.heap.size w w') : SxC T b w1 w' := by
  obtain ⟨h1, x0, x1, x2, x3, h2⟩ := h
  exact ⟨h1.trans (hb.mono (Nat.le_of_lt (lt_of_heap h2))), x0, x1, x2, x3, (hb.block b (lt_of_heap h2)).trans h2⟩
theorem SxC.set {T b : Nat} {w1 w : World} {u0 u1 u2 u3 : Value} (h : SxC T b w1 w) : SxC T b w1 ((((w.setCell ⟨b, 0, none⟩ u0).setCell ⟨b, 1, none⟩ u1).setCell ⟨b, 2, none⟩ u2).setCell ⟨b, 3, none⟩ u3) := by
  obtain ⟨h1, x0, x1, x2, x3, h2⟩ := h
  exact ⟨set4_below h1 (Nat.le_refl _) _ _ _ _, u0, u1, u2, u3, set4_at h2 _ _ _ _⟩
theorem SxC.cell {T b g o : Nat} {w1 w : World} (h : SxC T b w1 w) (hg : g < b) : w.cell? ⟨g, o, none⟩ = w1.cell? ⟨g, o, none⟩ := h.1.cell (p := ⟨g, o, none⟩) hg

set_option maxRecDepth 100000 in
set_option maxHeartbeats 1000000 in
theorem cload_of {w : World} {x y k : Int} {a : Option Addr} {c : Nat} {L : List Sp} (hr : Rd w 2 a L.length (spC L)) (hl : L.length ≤ 100000) (h40 : ∀ s ∈ L, In40 s.1 ∧ (1 ≤ s.2 → In40 s.2)) (hs : Sm (ex L)) :
    Calls Try.prog 42 #[.agg #[.int .i64 x, .int .i64 y, .int .i64 k, .slice a L.length c]] w fun e w' => ∃ a' n' c', e = .returned (cellV a' n' c' x y true) ∧ TxB w.heap.size w' (.slice a' n' c') (ex L) ∧ Below w.heap.size w w' := by
  obtain ⟨w1, hw1⟩ : ∃ w1, w1 = allocs w [Obj.cells #[Value.int .i64 x, Value.int .i64 y, Value.int .i64 k, Value.slice a L.length c] 94, Obj.cells #[Value.slice none 0 0, Value.int .i64 0, Value.int .i64 0, Value.bool false] 98] := ⟨_, rfl⟩
  have HB1 : Hid (Below w.heap.size w w1) := by rw [hw1]; exact Lib.hid (allocs_below _ w)
  have hzw : w1.heap.size > w.heap.size + 1 := by rw [hw1, allocs_size]; simp
  have h0 : w1.heap[w.heap.size]? = some (.cells #[Value.int .i64 x, Value.int .i64 y, Value.int .i64 k, Value.slice a L.length c] 94 (0, 0)) := by rw [hw1]; exact allocs_at _ w 0 _ rfl
  have h1 : w1.heap[w.heap.size + 1]? = some (.cells #[Value.slice none 0 0, Value.int .i64 0, Value.int .i64 0, Value.bool false] 98 (0, 0)) := by rw [hw1]; exact allocs_at _ w 1 _ rfl
  have S0 : SxC 98 (w.heap.size + 1) w1 w1.drew := ⟨(Below.refl _ _).drew, _, _, _, _, h1⟩
  have ld0 := fun w' (h : SxC 98 (w.heap.size + 1) w1 w') => (h.cell (g := w.heap.size) (o := 0) (by omega)).trans (show w1.cell? ⟨w.heap.size, 0, none⟩ = some (.int .i64 x) by rw [cell_at h0]; rfl)
  have ld1 := fun w' (h : SxC 98 (w.heap.size + 1) w1 w') => (h.cell (g := w.heap.size) (o := 1) (by omega)).trans (show w1.cell? ⟨w.heap.size, 1, none⟩ = some (.int .i64 y) by rw [cell_at h0]; rfl)
  have ld3 := fun w' (h : SxC 98 (w.heap.size + 1) w1 w') => (h.cell (g := w.heap.size) (o := 3) (by omega)).trans (show w1.cell? ⟨w.heap.size, 3, none⟩ = some (.slice a L.length c) by rw [cell_at h0]; rfl)
  have HOf : Hid (∀ w', Below (w.heap.size + 1) w1 w' → Calls Try.prog 54 #[.slice a L.length c] w' fun e w2 => ∃ a n c, e = .returned (.agg #[.slice a n c]) ∧ TxB w'.heap.size w2 (.slice a n c) (ex L) ∧ Below w'.heap.size w' w2) := fun w' h => by
    refine (tof_of (c := c) (hr.below (HB1.out.trans (h.mono (by omega)))) hl h40 hs).mono ?_
    rintro e w2 ⟨v', rfl, hx, hb⟩
    have hx2 := hx
    obtain ⟨a2, c2, rfl, -, -, -, -⟩ := hx2
    exact ⟨a2, _, c2, rfl, hx, hb⟩
  clear h0 h1 hr
  go_enter Try.func42, Try.ntmps42
  go_upto_region 1 with fail
  rw [show (w.alloc (Obj.cells #[Value.int .i64 x, Value.int .i64 y, Value.int .i64 k, Value.slice a L.length c] 94)).alloc (Obj.cells #[Value.slice none 0 0, Value.int .i64 0, Value.int .i64 0, Value.bool false] 98) = w1 from hw1.symm]
  clear hw1
  go_region_held_law (fun w' => SxC 98 (w.heap.size + 1) w1 w')
    (first | assumption | exact SxC.set (by assumption))
    ((go_at_call 54; refine (HOf.out w1.drew S0.1).mono ?_; rintro e w2 ⟨a2, n2, c2, rfl, hx2, hb2⟩; have hs2 := S0.under hb2; have HX2 := Lib.hid hx2; have HB2 := Lib.hid hb2; obtain ⟨hlow, y0, y1, y2, y3, hh2⟩ := id hs2; have z2 := fun i => unfrozen hh2 i; have p0 : w2.cell? ⟨w.heap.size + 1, 0, none⟩ = some y0 := (by rw [cell_at hh2]; rfl); have p1 : w2.cell? ⟨w.heap.size + 1, 1, none⟩ = some y1 := (by rw [cell_at hh2]; rfl); have p2 : w2.cell? ⟨w.heap.size + 1, 2, none⟩ = some y2 := (by rw [cell_at hh2]; rfl); have p3 : w2.cell? ⟨w.heap.size + 1, 3, none⟩ = some y3 := (by rw [cell_at hh2]; rfl); have HH2 := Lib.hid hh2; have HLo := Lib.hid hlow; clear hx2 hb2 hh2 hlow))
  all_goals
    go_wp2_with fail
    have hs := set4_at HH2.out (.slice a2 n2 c2) (.int .i64 x) (.int .i64 y) (.bool true)
    have hB := set4_below (HB1.out.trans (HLo.out.mono (by omega))) (show w.heap.size ≤ w.heap.size + 1 by omega) (.slice a2 n2 c2) (.int .i64 x) (.int .i64 y) (.bool true)
    have hX := HX2.out.set4 (b := w.heap.size + 1) (show w.heap.size + 1 < w1.drew.heap.size from hzw) (.slice a2 n2 c2) (.int .i64 x) (.int .i64 y) (.bool true)
    have q0 : (set4 w2 (w.heap.size + 1) (.slice a2 n2 c2) (.int .i64 x) (.int .i64 y) (.bool true)).cell? ⟨w.heap.size + 1, 0, none⟩ = some (.slice a2 n2 c2) := by rw [cell_at hs]; rfl
    have q1 : (set4 w2 (w.heap.size + 1) (.slice a2 n2 c2) (.int .i64 x) (.int .i64 y) (.bool true)).cell? ⟨w.heap.size + 1, 1, none⟩ = some (.int .i64 x) := by rw [cell_at hs]; rfl
    have q2 : (set4 w2 (w.heap.size + 1) (.slice a2 n2 c2) (.int .i64 x) (.int .i64 y) (.bool true)).cell? ⟨w.heap.size + 1, 2, none⟩ = some (.int .i64 y) := by rw [cell_at hs]; rfl
    have q3 : (set4 w2 (w.heap.size + 1) (.slice a2 n2 c2) (.int .i64 x) (.int .i64 y) (.bool true)).cell? ⟨w.heap.size + 1, 3, none⟩ = some (.bool true) := by rw [cell_at hs]; rfl
    unfold set4 at hB q0 q1 q2 q3 hX
    exact bodyPost_ret (v := cellV a2 n2 c2 x y true) (by simp [results, Try.results42, go_sem, q0, q1, q2, q3]) rfl ⟨a2, n2, c2, rfl, hX.mono (by show w.heap.size ≤ w1.heap.size; omega), hB⟩

end Go.Proofs.Ytkgakgceamafcaa

namespace Go.Proofs.Ytkgakgceamafcaa
open Go Go.RowKit
set_option linter.unusedVariables false


end Go.Proofs.Ytkgakgceamafcaa
