/-
  The contracts of cell's Of, Load, Bytes, Print, Empty and Write, at this seat's numbers.
-/
import Derived.Test.YtmdifcgnmkpecaaPcW
import Derived.Test.YtmdifcgnmkpecaaQuB
namespace Go.Proofs.Ytmdifcgnmkpecaa
open Go Go.RowKit
set_option linter.unusedVariables false

/-- A cell. -/
abbrev cellV (a : Option Addr) (n c : Nat) (x y : Int) (k : Bool) : Value := .agg #[.slice a n c, .int .i64 x, .int .i64 y, .bool k]
/-- A block of four cells that are written. -/
def set4 (w : World) (b : Nat) (u0 u1 u2 u3 : Value) : World := (((w.setCell ⟨b, 0, none⟩ u0).setCell ⟨b, 1, none⟩ u1).setCell ⟨b, 2, none⟩ u2).setCell ⟨b, 3, none⟩ u3
theorem set4_at {w : World} {b T : Nat} {a0 a1 a2 a3 : Value} (h : w.heap[b]? = some (.cells #[a0, a1, a2, a3] T (0, 0))) (u0 u1 u2 u3 : Value) : (set4 w b u0 u1 u2 u3).heap[b]? = some (.cells #[u0, u1, u2, u3] T (0, 0)) := by
  unfold set4
  rw [heap_set_at (heap_set_at (heap_set_at (heap_set_at h)))]; rfl
theorem set4_below {B b : Nat} {a w : World} (h : Below B a w) (hb : B ≤ b) (u0 u1 u2 u3 : Value) : Below B a (set4 w b u0 u1 u2 u3) := by
  unfold set4
  exact (((h.setCell (p := ⟨b, 0, none⟩) hb _).setCell (p := ⟨b, 1, none⟩) hb _).setCell (p := ⟨b, 2, none⟩) hb _).setCell (p := ⟨b, 3, none⟩) hb _
theorem TxB.set4 {B b : Nat} {w : World} {v : Value} {t : List Int} (h : TxB B w v t) (hb : b < B) (u0 u1 u2 u3 : Value) : TxB B (set4 w b u0 u1 u2 u3) v t := (((h.set hb).set hb).set hb).set hb
theorem Ar.set4 {w : World} {B p b T : Nat} {l : List UInt8} {a0 a1 a2 a3 : Value} (h : Ar w B p l) (hb : w.heap[b]? = some (.cells #[a0, a1, a2, a3] T (0, 0))) (h1 : T ≠ 121) (h2 : T ≠ 5) (u0 u1 u2 u3 : Value) : Ar (set4 w b u0 u1 u2 u3) B p l :=
  (((h.set hb h1 h2).set (heap_set_at hb) h1 h2).set (heap_set_at (heap_set_at hb)) h1 h2).set (heap_set_at (heap_set_at (heap_set_at hb))) h1 h2

set_option maxRecDepth 100000 in
theorem ceof_of {w : World} (a : Option Addr) (n c : Nat) :
    Calls Try.prog 28 #[.agg #[.slice a n c]] w fun e w' => e = .returned (cellV a n c 0 0 false) ∧ Below w.heap.size w w' := by
  obtain ⟨w1, hw1⟩ : ∃ w1, w1 = allocs w [Obj.cells #[Value.slice a n c] 48, Obj.cells #[Value.slice none 0 0, Value.int .i64 0, Value.int .i64 0, Value.bool false] 50] := ⟨_, rfl⟩
  have HB1 : Hid (Below w.heap.size w w1) := by rw [hw1]; exact Lib.hid (allocs_below _ w)
  have h0 : w1.heap[w.heap.size]? = some (.cells #[Value.slice a n c] 48 (0, 0)) := by rw [hw1]; exact allocs_at _ w 0 _ rfl
  have h1 : w1.heap[w.heap.size + 1]? = some (.cells #[Value.slice none 0 0, Value.int .i64 0, Value.int .i64 0, Value.bool false] 50 (0, 0)) := by rw [hw1]; exact allocs_at _ w 1 _ rfl
  have k0 : w1.cell? ⟨w.heap.size, 0, none⟩ = some (.slice a n c) := by rw [cell_at h0]; rfl
  have k1 : w1.cell? ⟨w.heap.size + 1, 0, none⟩ = some (.slice none 0 0) := by rw [cell_at h1]; rfl
  have k2 : w1.cell? ⟨w.heap.size + 1, 1, none⟩ = some (.int .i64 0) := by rw [cell_at h1]; rfl
  have k3 : w1.cell? ⟨w.heap.size + 1, 2, none⟩ = some (.int .i64 0) := by rw [cell_at h1]; rfl
  have k4 : w1.cell? ⟨w.heap.size + 1, 3, none⟩ = some (.bool false) := by rw [cell_at h1]; rfl
  have z1 := fun i => unfrozen h1 i
  have H1 := Lib.hid h1
  clear h0 h1
  go_enter Try.func28, Try.ntmps28
  go_upto_region 1 with fail
  rw [show (w.alloc (Obj.cells #[Value.slice a n c] 48)).alloc (Obj.cells #[Value.slice none 0 0, Value.int .i64 0, Value.int .i64 0, Value.bool false] 50) = w1 from hw1.symm]
  clear hw1
  go_wp2_with fail
  have hs := set4_at H1.out (.slice a n c) (.int .i64 0) (.int .i64 0) (.bool false)
  have hB := set4_below HB1.out (show w.heap.size ≤ w.heap.size + 1 by omega) (.slice a n c) (.int .i64 0) (.int .i64 0) (.bool false)
  have q0 : (set4 w1 (w.heap.size + 1) (.slice a n c) (.int .i64 0) (.int .i64 0) (.bool false)).cell? ⟨w.heap.size + 1, 0, none⟩ = some (.slice a n c) := by rw [cell_at hs]; rfl
  have q1 : (set4 w1 (w.heap.size + 1) (.slice a n c) (.int .i64 0) (.int .i64 0) (.bool false)).cell? ⟨w.heap.size + 1, 1, none⟩ = some (.int .i64 0) := by rw [cell_at hs]; rfl
  have q2 : (set4 w1 (w.heap.size + 1) (.slice a n c) (.int .i64 0) (.int .i64 0) (.bool false)).cell? ⟨w.heap.size + 1, 2, none⟩ = some (.int .i64 0) := by rw [cell_at hs]; rfl
  have q3 : (set4 w1 (w.heap.size + 1) (.slice a n c) (.int .i64 0) (.int .i64 0) (.bool false)).cell? ⟨w.heap.size + 1, 3, none⟩ = some (.bool false) := by rw [cell_at hs]; rfl
  unfold set4 at hB q0 q1 q2 q3
  exact bodyPost_ret (v := cellV a n c 0 0 false) (by simp [results, Try.results28, go_sem, q0, q1, q2, q3]) rfl ⟨rfl, hB⟩

set_option maxRecDepth 100000 in
theorem cbytes_of {w : World} {B p : Nat} {l : List UInt8} {a : Option Addr} {n c : Nat} {t : List Int} (x y : Int) (k : Bool) (h : Ar w B p l) (hl : l.length ≤ 16384) (hx : Tx w (.slice a n c) t) (hin : InL l t) :
    Calls Try.prog 52 #[cellV a n c x y k, .pointer (some ⟨p, 0, none⟩)] w (BytesPost (atL l t) w) := by
  have al := below_al w (Obj.cells #[Value.slice a n c, Value.int .i64 x, Value.int .i64 y, Value.bool k] 50)
  have HF := Lib.hid (pflat_of (h.below al) hl (hx.below al) hin)
  have HB := Lib.hid al
  have k0 : (w.alloc (Obj.cells #[Value.slice a n c, Value.int .i64 x, Value.int .i64 y, Value.bool k] 50)).cell? ⟨w.heap.size, 0, none⟩ = some (.slice a n c) := by rw [cell_at (heap_alloc_new w _)]; rfl
  have hz : (w.alloc (Obj.cells #[Value.slice a n c, Value.int .i64 x, Value.int .i64 y, Value.bool k] 50)).heap.size ≥ w.heap.size := al.size
  clear h hx al
  generalize atL l t = f at *
  go_enter Try.func52, Try.ntmps52
  go_wp2_with fail
  refine HF.out.mono ?_; rintro e w2 ⟨a2, c2, rfl, ho2, hb2⟩
  have HO := Lib.hid (own_mono ho2 hz)
  have HB2 := Lib.hid (HB.out.trans (hb2.mono hz))
  clear ho2 hb2
  go_wp2_with fail
  go_ret
  exact ⟨a2, c2, rfl, HO.out, HB2.out⟩

set_option maxRecDepth 100000 in
theorem cempty_of {w : World} {a : Option Addr} {n c : Nat} {t : List Int} (x y : Int) (k : Bool) (hx : Tx w (.slice a n c) t) :
    Calls Try.prog 18 #[cellV a n c x y k] w fun e w' => e = .returned (.bool (decide (t = []))) ∧ Below w.heap.size w w' := by
  have al := below_al w (Obj.cells #[Value.slice a n c, Value.int .i64 x, Value.int .i64 y, Value.bool k] 50)
  have HL := Lib.hid (tlen_of (hx.below al))
  have HB := Lib.hid al
  have k0 : (w.alloc (Obj.cells #[Value.slice a n c, Value.int .i64 x, Value.int .i64 y, Value.bool k] 50)).cell? ⟨w.heap.size, 0, none⟩ = some (.slice a n c) := by rw [cell_at (heap_alloc_new w _)]; rfl
  have hd : Hid (decide (t = []) = ((t.length : Int) == 0)) := by
    show _ = _
    cases t with
    | nil => simp
    | cons x t => simp; omega
  clear hx al
  generalize (t.length : Int) = m at *
  generalize decide (t = []) = bb at *
  go_enter Try.func18, Try.ntmps18
  go_wp2_with fail
  refine HL.out.mono ?_; rintro e w2 ⟨rfl, hb2⟩
  have HB2 := Lib.hid (HB.out.trans (hb2.mono HB.out.size))
  clear hb2
  go_wp2_with fail
  go_ret
  exact ⟨by rw [hd.out] <;> rfl, HB2.out⟩

set_option maxRecDepth 100000 in
theorem cprint_kept {w : World} {B p : Nat} {l : List UInt8} {a : Option Addr} {n c : Nat} (x y : Int) (h : Ar w B p l) (hl : l.length ≤ 16384) :
    Calls Try.prog 17 #[cellV a n c x y true, .pointer (some ⟨p, 0, none⟩)] w (BytesPost (subL l x y) w) := by
  have al := below_al w (Obj.cells #[Value.slice a n c, Value.int .i64 x, Value.int .i64 y, Value.bool true] 50)
  have HF := Lib.hid (abytes_of (h.below al) hl x y)
  have HB := Lib.hid al
  have k1 : (w.alloc (Obj.cells #[Value.slice a n c, Value.int .i64 x, Value.int .i64 y, Value.bool true] 50)).cell? ⟨w.heap.size, 1, none⟩ = some (.int .i64 x) := by rw [cell_at (heap_alloc_new w _)]; rfl
  have k2 : (w.alloc (Obj.cells #[Value.slice a n c, Value.int .i64 x, Value.int .i64 y, Value.bool true] 50)).cell? ⟨w.heap.size, 2, none⟩ = some (.int .i64 y) := by rw [cell_at (heap_alloc_new w _)]; rfl
  have k3 : (w.alloc (Obj.cells #[Value.slice a n c, Value.int .i64 x, Value.int .i64 y, Value.bool true] 50)).cell? ⟨w.heap.size, 3, none⟩ = some (.bool true) := by rw [cell_at (heap_alloc_new w _)]; rfl
  have hz : (w.alloc (Obj.cells #[Value.slice a n c, Value.int .i64 x, Value.int .i64 y, Value.bool true] 50)).heap.size ≥ w.heap.size := al.size
  clear h al
  generalize subL l x y = f at *
  go_enter Try.func17, Try.ntmps17
  go_wp2_with fail
  refine HF.out.mono ?_; rintro e w2 ⟨a2, c2, rfl, ho2, hb2⟩
  have HO := Lib.hid (own_mono ho2 hz)
  have HB2 := Lib.hid (HB.out.trans (hb2.mono hz))
  clear ho2 hb2
  go_wp2_with fail
  go_ret
  exact ⟨a2, c2, rfl, HO.out, HB2.out⟩

set_option maxRecDepth 100000 in
theorem cprint_text {w : World} {B p : Nat} {l : List UInt8} {a : Option Addr} {n c : Nat} {t : List Int} (x y : Int) (h : Ar w B p l) (hl : l.length ≤ 16384) (hx : Tx w (.slice a n c) t) (hin : InL l t) :
    Calls Try.prog 17 #[cellV a n c x y false, .pointer (some ⟨p, 0, none⟩)] w (BytesPost (putP (atL l t)) w) := by
  have al := below_al w (Obj.cells #[Value.slice a n c, Value.int .i64 x, Value.int .i64 y, Value.bool false] 50)
  have HF := Lib.hid (cbytes_of x y false (h.below al) hl (hx.below al) hin)
  have hfl : (atL l t).length ≤ 20000 := by
    obtain ⟨_, _, _, _, hs, _⟩ := hx
    rw [atL_len]; exact hs.1
  have HB := Lib.hid al
  have k0 : (w.alloc (Obj.cells #[Value.slice a n c, Value.int .i64 x, Value.int .i64 y, Value.bool false] 50)).cell? ⟨w.heap.size, 0, none⟩ = some (.slice a n c) := by rw [cell_at (heap_alloc_new w _)]; rfl
  have k1 : (w.alloc (Obj.cells #[Value.slice a n c, Value.int .i64 x, Value.int .i64 y, Value.bool false] 50)).cell? ⟨w.heap.size, 1, none⟩ = some (.int .i64 x) := by rw [cell_at (heap_alloc_new w _)]; rfl
  have k2 : (w.alloc (Obj.cells #[Value.slice a n c, Value.int .i64 x, Value.int .i64 y, Value.bool false] 50)).cell? ⟨w.heap.size, 2, none⟩ = some (.int .i64 y) := by rw [cell_at (heap_alloc_new w _)]; rfl
  have k3 : (w.alloc (Obj.cells #[Value.slice a n c, Value.int .i64 x, Value.int .i64 y, Value.bool false] 50)).cell? ⟨w.heap.size, 3, none⟩ = some (.bool false) := by rw [cell_at (heap_alloc_new w _)]; rfl
  have hz : (w.alloc (Obj.cells #[Value.slice a n c, Value.int .i64 x, Value.int .i64 y, Value.bool false] 50)).heap.size ≥ w.heap.size := al.size
  clear h hx al
  generalize atL l t = f at *
  go_enter Try.func17, Try.ntmps17
  go_wp2_with fail
  refine HF.out.mono ?_; rintro e w2 ⟨a2, c2, rfl, ho2, hb2⟩
  have HP := Lib.hid (qput_of (c := c2) (own_rd ho2) (by omega))
  have HB2 := Lib.hid (HB.out.trans (hb2.mono hz))
  have hz2 : w2.heap.size ≥ w.heap.size := HB2.out.size
  clear ho2 hb2 k0 k1 k2 k3
  generalize putP f = g at *
  go_wp2_with fail
  refine HP.out.mono ?_; rintro e w3 ⟨a3, c3, rfl, ho3, hb3⟩
  have HO := Lib.hid (own_mono ho3 hz2)
  have HB3 := Lib.hid (HB2.out.trans (hb3.mono hz2))
  clear ho3 hb3
  go_wp2_with fail
  go_ret
  exact ⟨a3, c3, rfl, HO.out, HB3.out⟩

/-- What a drawn region keeps that ends in a store into one variable of four cells. -/
def SxC (T b : Nat) (w1 w : World) : Prop := Below b w1 w ∧ ∃ x0 x1 x2 x3, w.heap[b]? = some (.cells #[x0, x1, x2, x3] T (0, 0))
theorem SxC.under {T b : Nat} {w1 w w' : World} (h : SxC T b w1 w) (hb : Below w.heap.size w w') : SxC T b w1 w' := by
  obtain ⟨h1, x0, x1, x2, x3, h2⟩ := h
  exact ⟨h1.trans (hb.mono (Nat.le_of_lt (lt_of_heap h2))), x0, x1, x2, x3, (hb.block b (lt_of_heap h2)).trans h2⟩
theorem SxC.set {T b : Nat} {w1 w : World} {u0 u1 u2 u3 : Value} (h : SxC T b w1 w) : SxC T b w1 ((((w.setCell ⟨b, 0, none⟩ u0).setCell ⟨b, 1, none⟩ u1).setCell ⟨b, 2, none⟩ u2).setCell ⟨b, 3, none⟩ u3) := by
  obtain ⟨h1, x0, x1, x2, x3, h2⟩ := h
  exact ⟨set4_below h1 (Nat.le_refl _) _ _ _ _, u0, u1, u2, u3, set4_at h2 _ _ _ _⟩
theorem SxC.cell {T b g o : Nat} {w1 w : World} (h : SxC T b w1 w) (hg : g < b) : w.cell? ⟨g, o, none⟩ = w1.cell? ⟨g, o, none⟩ := h.1.cell (p := ⟨g, o, none⟩) hg

set_option maxRecDepth 100000 in
set_option maxHeartbeats 1000000 in
theorem cload_of {w : World} {x y k : Int} {a : Option Addr} {c : Nat} {L : List Sp} (hr : Rd w 2 a L.length (spC L)) (hl : L.length ≤ 100000) (h40 : ∀ s ∈ L, In40 s.1 ∧ (1 ≤ s.2 → In40 s.2)) (hs : Sm (ex L)) :
    Calls Try.prog 14 #[.agg #[.int .i64 x, .int .i64 y, .int .i64 k, .slice a L.length c]] w fun e w' => ∃ a' n' c', e = .returned (cellV a' n' c' x y true) ∧ TxB w.heap.size w' (.slice a' n' c') (ex L) ∧ Below w.heap.size w w' := by
  obtain ⟨w1, hw1⟩ : ∃ w1, w1 = allocs w [Obj.cells #[Value.int .i64 x, Value.int .i64 y, Value.int .i64 k, Value.slice a L.length c] 42, Obj.cells #[Value.slice none 0 0, Value.int .i64 0, Value.int .i64 0, Value.bool false] 50] := ⟨_, rfl⟩
  have HB1 : Hid (Below w.heap.size w w1) := by rw [hw1]; exact Lib.hid (allocs_below _ w)
  have hzw : w1.heap.size > w.heap.size + 1 := by rw [hw1, allocs_size]; simp
  have h0 : w1.heap[w.heap.size]? = some (.cells #[Value.int .i64 x, Value.int .i64 y, Value.int .i64 k, Value.slice a L.length c] 42 (0, 0)) := by rw [hw1]; exact allocs_at _ w 0 _ rfl
  have h1 : w1.heap[w.heap.size + 1]? = some (.cells #[Value.slice none 0 0, Value.int .i64 0, Value.int .i64 0, Value.bool false] 50 (0, 0)) := by rw [hw1]; exact allocs_at _ w 1 _ rfl
  have S0 : SxC 50 (w.heap.size + 1) w1 w1.drew := ⟨(Below.refl _ _).drew, _, _, _, _, h1⟩
  have ld0 := fun w' (h : SxC 50 (w.heap.size + 1) w1 w') => (h.cell (g := w.heap.size) (o := 0) (by omega)).trans (show w1.cell? ⟨w.heap.size, 0, none⟩ = some (.int .i64 x) by rw [cell_at h0]; rfl)
  have ld1 := fun w' (h : SxC 50 (w.heap.size + 1) w1 w') => (h.cell (g := w.heap.size) (o := 1) (by omega)).trans (show w1.cell? ⟨w.heap.size, 1, none⟩ = some (.int .i64 y) by rw [cell_at h0]; rfl)
  have ld3 := fun w' (h : SxC 50 (w.heap.size + 1) w1 w') => (h.cell (g := w.heap.size) (o := 3) (by omega)).trans (show w1.cell? ⟨w.heap.size, 3, none⟩ = some (.slice a L.length c) by rw [cell_at h0]; rfl)
  have HOf : Hid (∀ w', Below (w.heap.size + 1) w1 w' → Calls Try.prog 24 #[.slice a L.length c] w' fun e w2 => ∃ a n c, e = .returned (.agg #[.slice a n c]) ∧ TxB w'.heap.size w2 (.slice a n c) (ex L) ∧ Below w'.heap.size w' w2) := fun w' h => by
    refine (tof_of (c := c) (hr.below (HB1.out.trans (h.mono (by omega)))) hl h40 hs).mono ?_
    rintro e w2 ⟨v', rfl, hx, hb⟩
    have hx2 := hx
    obtain ⟨a2, c2, rfl, -, -, -, -⟩ := hx2
    exact ⟨a2, _, c2, rfl, hx, hb⟩
  clear h0 h1 hr
  go_enter Try.func14, Try.ntmps14
  go_upto_region 1 with fail
  rw [show (w.alloc (Obj.cells #[Value.int .i64 x, Value.int .i64 y, Value.int .i64 k, Value.slice a L.length c] 42)).alloc (Obj.cells #[Value.slice none 0 0, Value.int .i64 0, Value.int .i64 0, Value.bool false] 50) = w1 from hw1.symm]
  clear hw1
  go_region_held_law (fun w' => SxC 50 (w.heap.size + 1) w1 w')
    (first | assumption | exact SxC.set (by assumption))
    ((go_at_call 24; refine (HOf.out w1.drew S0.1).mono ?_; rintro e w2 ⟨a2, n2, c2, rfl, hx2, hb2⟩; have hs2 := S0.under hb2; have HX2 := Lib.hid hx2; have HB2 := Lib.hid hb2; obtain ⟨hlow, y0, y1, y2, y3, hh2⟩ := id hs2; have z2 := fun i => unfrozen hh2 i; have p0 : w2.cell? ⟨w.heap.size + 1, 0, none⟩ = some y0 := (by rw [cell_at hh2]; rfl); have p1 : w2.cell? ⟨w.heap.size + 1, 1, none⟩ = some y1 := (by rw [cell_at hh2]; rfl); have p2 : w2.cell? ⟨w.heap.size + 1, 2, none⟩ = some y2 := (by rw [cell_at hh2]; rfl); have p3 : w2.cell? ⟨w.heap.size + 1, 3, none⟩ = some y3 := (by rw [cell_at hh2]; rfl); have HH2 := Lib.hid hh2; have HLo := Lib.hid hlow; clear hx2 hb2 hh2 hlow))
  all_goals
    go_wp2_with fail
    have hs := set4_at HH2.out (.slice a2 n2 c2) (.int .i64 x) (.int .i64 y) (.bool true)
    have hB := set4_below (HB1.out.trans (HLo.out.mono (by omega))) (show w.heap.size ≤ w.heap.size + 1 by omega) (.slice a2 n2 c2) (.int .i64 x) (.int .i64 y) (.bool true)
    have hX := HX2.out.set4 (b := w.heap.size + 1) (show w.heap.size + 1 < w1.drew.heap.size from hzw) (.slice a2 n2 c2) (.int .i64 x) (.int .i64 y) (.bool true)
    have q0 : (set4 w2 (w.heap.size + 1) (.slice a2 n2 c2) (.int .i64 x) (.int .i64 y) (.bool true)).cell? ⟨w.heap.size + 1, 0, none⟩ = some (.slice a2 n2 c2) := by rw [cell_at hs]; rfl
    have q1 : (set4 w2 (w.heap.size + 1) (.slice a2 n2 c2) (.int .i64 x) (.int .i64 y) (.bool true)).cell? ⟨w.heap.size + 1, 1, none⟩ = some (.int .i64 x) := by rw [cell_at hs]; rfl
    have q2 : (set4 w2 (w.heap.size + 1) (.slice a2 n2 c2) (.int .i64 x) (.int .i64 y) (.bool true)).cell? ⟨w.heap.size + 1, 2, none⟩ = some (.int .i64 y) := by rw [cell_at hs]; rfl
    have q3 : (set4 w2 (w.heap.size + 1) (.slice a2 n2 c2) (.int .i64 x) (.int .i64 y) (.bool true)).cell? ⟨w.heap.size + 1, 3, none⟩ = some (.bool true) := by rw [cell_at hs]; rfl
    unfold set4 at hB q0 q1 q2 q3 hX
    exact bodyPost_ret (v := cellV a2 n2 c2 x y true) (by simp [results, Try.results14, go_sem, q0, q1, q2, q3]) rfl ⟨a2, n2, c2, rfl, hX.mono (by show w.heap.size ≤ w1.heap.size; omega), hB⟩

end Go.Proofs.Ytmdifcgnmkpecaa
