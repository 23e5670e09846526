/-
  The walk of the arena's example, and of the statement ArenaNil, at this seat's numbers.
-/
import Derived.Test.YtkggeknfdjbheaaArD
namespace Go.Proofs.Ytkggeknfdjbheaa
open Go Go.RowKit
set_option linter.unusedVariables false

/-- What the library's search reads: one of its variables, whatever it holds. -/
def ML (w : World) : Prop := 0 < w.heap.size ∧ ∃ m, w.cell? ⟨0, 0, none⟩ = some (.int .i64 m)
theorem ML.below {B : Nat} {w w' : World} (h : ML w) (hb : Below B w w') (hB : 0 < B) : ML w' := by
  obtain ⟨h1, m, h2⟩ := h
  exact ⟨Nat.lt_of_lt_of_le h1 hb.size, m, (hb.cell (p := ⟨0, 0, none⟩) hB).trans h2⟩

/-- A block of bytes that stands in memory reads as these. -/
theorem rd_new {w : World} {b : Nat} {t : List UInt8} {fr : Nat × Nat} {ty : TypeId} (h : w.heap[b]? = some (.cells (bc t).toArray ty fr)) : Rd w 1 (some ⟨b, 0, none⟩) t.length (bc t) :=
  ⟨by rw [bc_len]; omega, fun hn => ⟨b, 0, rfl, lt_of_heap h, fun j u hu => by rw [Nat.zero_add, cell_at h]; simpa using hu⟩⟩

theorem ex_new {w : World} {b c : Nat} {fr : Nat × Nat} {ty : TypeId} (h : w.heap[b]? = some (.cells #[.int .u8 120] ty fr)) :
    Calls Try.prog 12 #[.slice (some ⟨b, 0, none⟩) 1 c] w fun e w' => ∃ p, e = .returned (.tuple #[.pointer (some ⟨p, 0, none⟩), .int .i64 0]) ∧ Ar w' w.heap.size p [120] ∧ Below w.heap.size w w' :=
  new_of (t := [120]) _ c (rd_new (t := [120]) h) (by decide)
theorem ex_add {w : World} {B p b c : Nat} {fr : Nat × Nat} {ty : TypeId} (hA : Ar w B p [120]) (hB : B ≤ w.heap.size) (h : w.heap[b]? = some (.cells #[.int .u8 97, .int .u8 98] ty fr)) :
    Calls Try.prog 28 #[.pointer (some ⟨p, 0, none⟩), .slice (some ⟨b, 0, none⟩) 2 c] w fun e w' => e = .returned (.tuple #[.agg #[.int .i64 1, .int .i64 2], .int .i64 0]) ∧ Ar w' B p [120, 97, 98] ∧ Turned B w w' :=
  add_of (t := [97, 98]) hA (by decide) _ c hB (rd_new (t := [97, 98]) h) (by decide)
theorem ex_keep {w : World} {B p b c : Nat} {fr : Nat × Nat} {ty : TypeId} (hA : Ar w B p [120, 97, 98]) (hB : B ≤ w.heap.size) (hm : ML w) (h : w.heap[b]? = some (.cells #[.int .u8 98] ty fr)) :
    Calls Try.prog 29 #[.pointer (some ⟨p, 0, none⟩), .slice (some ⟨b, 0, none⟩) 1 c] w fun e w' => e = .returned (.tuple #[.agg #[.int .i64 2, .int .i64 1], .int .i64 0]) ∧ Ar w' B p [120, 97, 98] ∧ Turned B w w' := by
  obtain ⟨h0, m, hm⟩ := hm
  have := keep_of (t := [98]) hA (by decide) _ c hB (rd_new (t := [98]) h) (by decide) hm h0
  have e1 : keepR [120, 97, 98] [98] = (2, 1, 0) := by decide
  have e2 : keepL [120, 97, 98] [98] = [120, 97, 98] := by decide
  rw [e1, e2] at this
  exact this
theorem ex_len {w : World} {B p : Nat} (hA : Ar w B p [120, 97, 98]) :
    Calls Try.prog 16 #[.pointer (some ⟨p, 0, none⟩)] w fun e w' => e = .returned (.int .i64 3) ∧ w = w' := len_of hA
theorem own_form {w : World} {B sz n c : Nat} {e : TypeId} {a : Option Addr} {xs : List Value} (h : w.ownsRow B e sz (.slice a n c) n xs) : (a = none ∧ n = 0) ∨ ∃ g, a = some ⟨g, 0, none⟩ ∧ B ≤ g ∧ g < w.heap.size := by
  rcases h.2 with ⟨e, h0⟩ | ⟨g, cap, cur, e, h1, h2, _⟩
  · injection e with e1
    exact .inl ⟨e1, h0⟩
  · injection e with e1
    exact .inr ⟨g, e1, h1, lt_of_heap h2⟩
theorem string_own {w : World} {B : Nat} {a : Option Addr} {c : Nat} {l : List UInt8} (h : w.ownsRow B 5 1 (.slice a l.length c) l.length (bc l)) :
    (convert 30 9 (.slice a l.length c)).run Try.prog w = .ok (.string (strOf l)) w := by
  rcases own_form h with ⟨rfl, h0⟩ | ⟨g, rfl, _, hlt⟩
  · obtain rfl := List.eq_nil_of_length_eq_zero h0
    exact run_convert_bytes_nil w 30 5 Try.underlying30 Try.underlying5 0 c 9 Try.underlying9
  · refine string_of (strOf l) w g 0 c (fun j hj => ?_)
    have hj' : j < l.length := hj
    have := h.cells (g := g) rfl j _ (nums_at hj')
    rw [Addr.add_lit] at this
    rw [this]
    unfold bt strOf nums
    simp [List.getD_eq_getElem?_getD, List.getElem?_map, List.getElem?_eq_getElem hj']
theorem ex_bytes {w : World} {B p : Nat} (hA : Ar w B p [120, 97, 98]) :
    Calls Try.prog 23 #[.pointer (some ⟨p, 0, none⟩), .agg #[.int .i64 1, .int .i64 2]] w fun e w' => ∃ a c, e = .returned (.slice a 2 c) ∧ (convert 30 9 (.slice a 2 c)).run Try.prog w' = .ok (.string ⟨#[97, 98]⟩) w' ∧ Below w.heap.size w w' := by
  refine (abytes_of hA (by decide) 1 2).mono ?_
  rintro e w' ⟨a, c, rfl, ho, hb⟩
  exact ⟨a, c, rfl, string_own (l := [97, 98]) ho, hb⟩

set_option maxHeartbeats 1600000 in
theorem awake3_of (w : World) (hm : ML w) : Calls Try.prog 14 #[] w fun e w' => e = .returned (.bool true) ∧ Below w.heap.size w w' := by
  have hcv := conv_at
  have HM := Lib.hid hm
  have h0 := hm.1
  clear hm
  go_enter Try.func14, Try.ntmps14
  go_wp2_with fail
  refine (ex_new (heap_alloc_new _ _)).mono ?_
  rintro e w1 ⟨p, rfl, hA, hb⟩
  have HB1 := Lib.hid (((Below.refl _ w).alloc (Nat.le_refl _) _).trans (hb.mono (by simp)))
  have hs1 := hb.size
  have hs0 : w.heap.size ≤ (w.alloc (Obj.cells #[Value.int IntKind.u8 120] 5 (1, 2))).heap.size := by simp
  have HA := Lib.hid hA
  generalize (w.alloc (Obj.cells #[Value.int IntKind.u8 120] 5 (1, 2))).heap.size = B at *
  clear hA hb
  go_wp2_with fail
  refine (ex_add (HA.out.below ((Below.refl _ w1).alloc (Nat.le_refl _) _)) (by simp; omega) (heap_alloc_new _ _)).mono ?_
  rintro e w2 ⟨rfl, hA2, hT2⟩
  have HA2 := Lib.hid hA2
  have HT2 := Lib.hid ((Turned.of_below ((Below.refl _ w1).alloc (Nat.le_refl _) _) hs1).trans hT2)
  have hz2 : w1.heap.size ≤ w2.heap.size := HT2.out.size
  have HB2 := Lib.hid (HB1.out.trans (HT2.out.low.mono hs0))
  clear hA2 hT2
  go_wp2_with fail
  have S3 := SpB.new w2 1 2
  have HA3 := Lib.hid (HA2.out.below ((Below.refl _ w2).alloc (Nat.le_refl _) (.cells #[.int .i64 1, .int .i64 2] 24)))
  have HT3 := Lib.hid (Turned.of_below ((Below.refl _ w2).alloc (Nat.le_refl _) (.cells #[.int .i64 1, .int .i64 2] 24)) (Nat.le_trans hs1 hz2))
  have S4 := S3.below ((Below.refl _ _).alloc (Nat.le_refl _) (.cells #[.int .u8 98] 5 (1, 2)))
  have HA4 := Lib.hid (HA3.out.below ((Below.refl _ _).alloc (Nat.le_refl _) (.cells #[.int .u8 98] 5 (1, 2))))
  have HT4 := Lib.hid (HT3.out.trans (Turned.of_below ((Below.refl _ _).alloc (Nat.le_refl _) (.cells #[.int .u8 98] 5 (1, 2))) (by simp; omega)))
  have HK : Hid (((w2.alloc (.cells #[.int .i64 1, .int .i64 2] 24)).alloc (.cells #[.int .u8 98] 5 (1, 2))).heap[w2.heap.size + 1]? = some (.cells #[.int .u8 98] 5 (1, 2))) := by
    have := heap_alloc_new (w2.alloc (.cells #[.int .i64 1, .int .i64 2] 24)) (.cells #[.int .u8 98] 5 (1, 2))
    rw [World.size_alloc] at this
    exact this
  refine (ex_keep HA4.out (by simp; omega) ((HM.out.below (HB2.out.trans (HT4.out.low.mono hs0)) h0)) HK.out).mono ?_
  rintro e w5 ⟨rfl, hA5, hT5⟩
  have S5 := S4.turned hT5
  have HA5 := Lib.hid hA5
  have HB5 := Lib.hid (HB2.out.trans ((HT4.out.trans hT5).low.mono hs0))
  have hz5 : w2.heap.size < w5.heap.size := S5.lt
  clear hA5 hT5 S3 S4 HA4 HT4 HA3 HT3 HA2 HT2
  have u0 := S5.c0
  have u1 := S5.c1
  go_wp2_with fail
  have HA6 := HA5.out.below ((Below.refl _ w5).alloc (Nat.le_refl _) (.cells #[.int .i64 2, .int .i64 1] 24))
  refine (ex_len HA6).mono ?_
  rintro e w6 ⟨rfl, rfl⟩
  have HA7 := Lib.hid HA6
  clear HA6
  go_wp2_with fail
  refine (ex_bytes HA7.out).mono ?_
  rintro e w7 ⟨a, c, rfl, hstr, hb⟩
  have HB7 := Lib.hid ((HB5.out.alloc HB5.out.size _).trans (hb.mono (by simp; omega)))
  clear hb
  go_wp2_with fail
  go_ret
  exact ⟨rfl, HB7.out⟩

set_option maxHeartbeats 1600000 in
theorem arenaNil_walk (v : Value) (x y : Int) (w : World) (hx : -9223372036854775808 ≤ x ∧ x ≤ 9223372036854775807) (hy : -9223372036854775808 ≤ y ∧ y ≤ 9223372036854775807) (hm : ML w) :
    Calls Try.prog 6 #[v, .agg #[.int .i64 x, .int .i64 y]] w fun e w' => e = .returned (.bool true) ∧ Below w.heap.size w w' := by
  have HM := Lib.hid hm
  have h0 := hm.1
  clear hm hx hy
  have HA := Lib.hid (fun w => add_nil v w)
  have HK := Lib.hid (fun w => keep_nil v w)
  go_enter Try.func6, Try.ntmps6
  go_wp2_with fail
  refine (HA.out _).mono ?_; rintro e w1 ⟨rfl, hb⟩
  have S1 := (SpB.new w x y).below hb
  have HB1 := Lib.hid (((Below.refl _ w).alloc (Nat.le_refl _) _).trans (hb.mono (by simp)))
  have hz1 : w.heap.size < w1.heap.size := S1.lt
  clear hb
  go_wp2_with fail
  have S1' := S1.below ((Below.refl _ w1).alloc (Nat.le_refl _) (.cells #[.int .i64 0, .int .i64 0] 24))
  have Z1 := SpB.new w1 0 0
  have HB1' := Lib.hid (HB1.out.alloc HB1.out.size (.cells #[.int .i64 0, .int .i64 0] 24))
  refine (HK.out _).mono ?_; rintro e w2 ⟨rfl, hb⟩
  have S2 := S1'.below hb
  have Z2 := Z1.below hb
  have HB2 := Lib.hid (HB1'.out.trans (hb.mono HB1'.out.size))
  have hz2 : w1.heap.size < w2.heap.size := Z2.lt
  have u0 := S2.c0
  have u1 := S2.c1
  have z0 := Z2.c0
  have z1 := Z2.c1
  clear hb S1' Z1 HB1' HB1 S1
  have hz3 : w.heap.size < w2.heap.size := S2.lt
  have hm2 := HM.out.below HB2.out h0
  have HM2 := Lib.hid (hm2.below ((Below.refl _ w2).alloc (Nat.le_refl _) (.cells #[.int .i64 0, .int .i64 0] 24)) hm2.1)
  have HB2' := Lib.hid (HB2.out.alloc HB2.out.size (.cells #[.int .i64 0, .int .i64 0] 24))
  clear hm2
  have HBy := Lib.hid (fun w => bytes_nil x y w)
  go_wp2_with (first
    | (go_at_call 18; refine (byte_nil _ _).mono ?_; rintro e w' ⟨rfl, rfl⟩)
    | (go_at_call 16; refine (len_nil _).mono ?_; rintro e w' ⟨rfl, rfl⟩)
    | (go_at_call 17; refine (room_nil _).mono ?_; rintro e w' ⟨rfl, rfl⟩)
    | (go_at_call 20; fail)
    | fail)
  refine (right_nil x y _).mono ?_; rintro e w3 ⟨rfl, hb⟩
  have hz4 := hb.size
  simp only [World.size_alloc] at hz4
  have v0 : w3.cell? ⟨w.heap.size, 0, none⟩ = some (.int .i64 x) := by rw [hb.cell (p := ⟨w.heap.size, 0, none⟩) (by simp; omega), World.cell?_alloc_lt _ _ ⟨w.heap.size, 0, none⟩ hz3]; exact u0
  have v1 : w3.cell? ⟨w.heap.size, 1, none⟩ = some (.int .i64 y) := by rw [hb.cell (p := ⟨w.heap.size, 1, none⟩) (by simp; omega), World.cell?_alloc_lt _ _ ⟨w.heap.size, 1, none⟩ hz3]; exact u1
  have HB3 := Lib.hid (HB2'.out.trans (hb.mono (by simp; omega)))
  have HM3 := Lib.hid (HM2.out.below hb (by simp))
  clear hb
  go_wp2_with fail
  refine (HBy.out _).mono ?_; rintro e w4 ⟨a, c, rfl, _, hb⟩
  have HB4 := Lib.hid (HB3.out.trans (hb.mono HB3.out.size))
  have HM4 := Lib.hid (HM3.out.below hb HM3.out.1)
  clear hb
  go_wp2_with (first
    | (go_at_call 16; refine (len_nil _).mono ?_; rintro e w' ⟨rfl, rfl⟩)
    | (go_at_call 17; refine (room_nil _).mono ?_; rintro e w' ⟨rfl, rfl⟩)
    | fail)
  refine (awake3_of _ HM4.out).mono ?_; rintro e w5 ⟨rfl, hb⟩
  have HB5 := Lib.hid (HB4.out.trans (hb.mono HB4.out.size))
  clear hb
  go_wp2_with fail
  go_ret
  exact ⟨rfl, HB5.out⟩

end Go.Proofs.Ytkggeknfdjbheaa
