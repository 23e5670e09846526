/-
  The example of layer 7, at this seat's numbers.
-/
import Derived.Test.YtmdifcgnmkpecaaCeB
import Derived.Test.YtmdifcgnmkpecaaScI
namespace Go.Proofs.Ytmdifcgnmkpecaa
open Go Go.RowKit
set_option linter.unusedVariables false

/-- The example's bytes: a letter within quotes. -/
def exC : List UInt8 := [34, 97, 34]
def exCF : Fd := ⟨0, 3, 1, [1]⟩
theorem exCF_eq : fieldP exC 0 = exCF := by
  have q : inQ exC 1 = ([1], 2, true) := by
    rw [inQ_byte (by decide) (by decide), inQ_stop (by decide) (by decide)]; rfl
  have t : till exC 3 = 3 := by rw [till_stop (by decide)]
  unfold fieldP
  rw [if_pos (by decide), q]
  simp only [t]
  rfl
theorem exCR : (rowP exC 0).fs = [exCF] := by
  have f : fieldsP exC 0 = ([exCF], 3) := by rw [fieldsP_last (by rw [exCF_eq]; decide), exCF_eq]; rfl
  unfold rowP; rw [f]
/-- What One tells of the example. -/
theorem exCOne_of {w : World} {g c : Nat} {fr : Nat × Nat} {ty : TypeId} (hc : 3 ≤ c) (hc2 : c ≤ maxLen) (h : w.heap[g]? = some (.cells #[.int .u8 34, .int .u8 97, .int .u8 34] ty fr)) :
    Calls Try.prog 20 #[.slice (some ⟨g, 0, none⟩) 3 c, .int .i64 0] w fun e w' => ∃ (g5 c5 : Nat) (a1 : Option Addr) (c1 : Nat) (f m : Int), e = .returned (.tuple #[.agg #[.slice (some ⟨g5, 0, none⟩) 1 c5, .int .i64 f], .int .i64 m]) ∧
      w'.cell? ⟨g5, 0, none⟩ = some (.int .i64 0) ∧ w'.cell? ⟨g5, 1, none⟩ = some (.int .i64 3) ∧ w'.cell? ⟨g5, 2, none⟩ = some (.int .i64 1) ∧ w'.cell? ⟨g5, 3, none⟩ = some (.slice a1 1 c1) ∧ Rd w' 2 a1 1 (spC [(1, 1)]) ∧ Below w.heap.size w w' := by
  have hr : Rd w 1 (some ⟨g, 0, none⟩) exC.length (bc exC) := rd_new (t := exC) h
  refine (one_of (l := exC) (c := c) hr (lt_of_heap h) (by decide) hc hc2 0 (by decide)).mono ?_
  rintro e w' ⟨ps, a, c', rfl, hm, ho, hi, hb⟩
  rw [exCR] at hm
  have hl1 : ps.length = 1 := by have := congrArg List.length hm; simpa using this
  obtain ⟨⟨F, pa, pc⟩, rfl⟩ := List.length_eq_one_iff.1 hl1
  obtain rfl : F = exCF := by simpa using hm
  have hp1 := hi (exCF, pa, pc) (by simp)
  rcases own_form ho with ⟨_, h0⟩ | ⟨g', rfl, _, _⟩
  · exact absurd h0 (by simp)
  exact ⟨g', c', pa, pc, _, _, rfl, own_cells ho rfl, own_cells ho rfl, own_cells ho rfl, own_cells ho rfl, own_rd hp1, hb⟩

theorem sm_one : Sm (ex [((1 : Int), (1 : Int))]) := sm_kept (i := 1) (n := 1) (by decide)
theorem in_one : InL exC (ex [((1 : Int), (1 : Int))]) := by
  intro x hx
  have : x = 1 := by simpa [ex, ex1] using hx
  subst this
  decide
theorem exC_text : atL exC (ex [((1 : Int), (1 : Int))]) = [97] := by decide
theorem exC_raw : subL exC 0 3 = exC := by decide
theorem putP_a : putP [97] = [97] := by decide

theorem new_exC {w : World} {g c : Nat} {fr : Nat × Nat} {ty : TypeId} (h : w.heap[g]? = some (.cells #[.int .u8 34, .int .u8 97, .int .u8 34] ty fr)) :
    Calls Try.prog 11 #[.slice (some ⟨g, 0, none⟩) 3 c] w fun e w' => ∃ p, e = .returned (.tuple #[.pointer (some ⟨p, 0, none⟩), .int .i64 0]) ∧ Ar w' w.heap.size p exC ∧ Below w.heap.size w w' := by
  have hr : Rd w 1 (some ⟨g, 0, none⟩) exC.length (bc exC) := rd_new (t := exC) h
  exact new_of (t := exC) (some ⟨g, 0, none⟩) c hr (by decide)

theorem ex7_kept {w : World} {B p : Nat} {a : Option Addr} {n c : Nat} (h : Ar w B p exC) :
    Calls Try.prog 17 #[cellV a n c 0 3 true, .pointer (some ⟨p, 0, none⟩)] w fun e w' => ∃ a c, e = .returned (.slice a 3 c) ∧ (convert 27 9 (.slice a 3 c)).run Try.prog w' = .ok (.string ⟨#[34, 97, 34]⟩) w' ∧ Below w.heap.size w w' := by
  refine (cprint_kept 0 3 h (by decide)).mono ?_
  rintro e w' ⟨a, c, rfl, ho, hb⟩
  rw [exC_raw] at ho ⊢
  exact ⟨a, c, rfl, string_own (l := exC) ho, hb⟩
theorem ex7_text {w : World} {B p : Nat} {a : Option Addr} {n c : Nat} (h : Ar w B p exC) (hx : Tx w (.slice a n c) (ex [((1 : Int), (1 : Int))])) :
    Calls Try.prog 17 #[cellV a n c 0 0 false, .pointer (some ⟨p, 0, none⟩)] w fun e w' => ∃ a c, e = .returned (.slice a 1 c) ∧ (convert 27 9 (.slice a 1 c)).run Try.prog w' = .ok (.string ⟨#[97]⟩) w' ∧ Below w.heap.size w w' := by
  refine (cprint_text 0 0 h (by decide) hx in_one).mono ?_
  rintro e w' ⟨a, c, rfl, ho, hb⟩
  rw [exC_text, putP_a] at ho ⊢
  exact ⟨a, c, rfl, string_own (l := [97]) ho, hb⟩
theorem ex7_bytes {w : World} {B p : Nat} {a : Option Addr} {n c : Nat} (h : Ar w B p exC) (hx : Tx w (.slice a n c) (ex [((1 : Int), (1 : Int))])) :
    Calls Try.prog 52 #[cellV a n c 0 3 true, .pointer (some ⟨p, 0, none⟩)] w fun e w' => ∃ a c, e = .returned (.slice a 1 c) ∧ (convert 27 9 (.slice a 1 c)).run Try.prog w' = .ok (.string ⟨#[97]⟩) w' ∧ Below w.heap.size w w' := by
  refine (cbytes_of 0 3 true h (by decide) hx in_one).mono ?_
  rintro e w' ⟨a, c, rfl, ho, hb⟩
  rw [exC_text] at ho ⊢
  exact ⟨a, c, rfl, string_own (l := [97]) ho, hb⟩

set_option maxRecDepth 100000 in
set_option maxHeartbeats 2000000 in
theorem awake7_of (w : World) : Calls Try.prog 19 #[] w fun e w' => e = .returned (.bool true) ∧ Below w.heap.size w w' := by
  have hcv := conv_at
  have al := below_al w (Obj.cells #[Value.int IntKind.u8 34, Value.int IntKind.u8 97, Value.int IntKind.u8 34] 5 (3, 4))
  have HB1 := Lib.hid al
  have HA1 := Lib.hid (heap_alloc_new w (Obj.cells #[Value.int IntKind.u8 34, Value.int IntKind.u8 97, Value.int IntKind.u8 34] 5 (3, 4)))
  have hz1 : w.heap.size < (w.alloc (Obj.cells #[Value.int IntKind.u8 34, Value.int IntKind.u8 97, Value.int IntKind.u8 34] 5 (3, 4))).heap.size := by simp
  clear al
  go_enter Try.func19, Try.ntmps19
  go_wp2_with fail
  generalize w.alloc (Obj.cells #[Value.int IntKind.u8 34, Value.int IntKind.u8 97, Value.int IntKind.u8 34] 5 (3, 4)) = w1 at *
  refine (new_exC (c := 3) HA1.out).mono ?_
  rintro e w2 ⟨p, rfl, hA2, hb2⟩
  have HA2 := Lib.hid ((hb2.block _ hz1).trans HA1.out)
  have HR2 := Lib.hid hA2
  have HB2 := Lib.hid (HB1.out.trans (hb2.mono (Nat.le_of_lt hz1)))
  have hz2 : w.heap.size < w2.heap.size := Nat.lt_of_lt_of_le hz1 hb2.size
  clear hA2 hb2 hz1 HB1 HA1
  go_wp2_with fail
  refine (exCOne_of (c := 3) (by decide) (by decide) HA2.out).mono ?_
  rintro e w3 ⟨g5, c5, a1, c1, f, m, rfl, q0, q1, q2, q3, hrd, hb3⟩
  have HR3 := Lib.hid (HR2.out.below hb3)
  have HB3 := Lib.hid (HB2.out.trans (hb3.mono (Nat.le_of_lt hz2)))
  have hz3 : w.heap.size < w3.heap.size := Nat.lt_of_lt_of_le hz2 hb3.size
  have al := below_al w3 (Obj.cells #[Value.slice (some ⟨g5, 0, none⟩) 1 c5, Value.int .i64 f] 34)
  have hg5 := World.block_lt_of_cell? _ _ q0
  have r0 := (al.cell (p := ⟨g5, 0, none⟩) hg5).trans q0
  have r1 := (al.cell (p := ⟨g5, 1, none⟩) hg5).trans q1
  have r2 := (al.cell (p := ⟨g5, 2, none⟩) hg5).trans q2
  have r3 := (al.cell (p := ⟨g5, 3, none⟩) hg5).trans q3
  have t0 : (w3.alloc (Obj.cells #[Value.slice (some ⟨g5, 0, none⟩) 1 c5, Value.int .i64 f] 34)).cell? ⟨w3.heap.size, 0, none⟩ = some (.slice (some ⟨g5, 0, none⟩) 1 c5) := by rw [cell_at (heap_alloc_new w3 _)]; rfl
  have t1 : (w3.alloc (Obj.cells #[Value.slice (some ⟨g5, 0, none⟩) 1 c5, Value.int .i64 f] 34)).cell? ⟨w3.heap.size, 1, none⟩ = some (.int .i64 f) := by rw [cell_at (heap_alloc_new w3 _)]; rfl
  have HRD := Lib.hid (hrd.below al)
  have HR4 := Lib.hid (HR3.out.below al)
  have HB4 := Lib.hid (HB3.out.trans (al.mono (Nat.le_of_lt hz3)))
  have hz4 : w.heap.size ≤ (w3.alloc (Obj.cells #[Value.slice (some ⟨g5, 0, none⟩) 1 c5, Value.int .i64 f] 34)).heap.size := HB4.out.size
  clear hrd hb3 al q0 q1 q2 q3 hg5 HA2 HR2 HB2 HR3 HB3
  have HLd := Lib.hid (cload_of (x := 0) (y := 3) (k := 1) (c := c1) (L := [((1 : Int), (1 : Int))]) HRD.out (by simp) (by intro s hs; obtain rfl := List.mem_singleton.1 hs; unfold In40; decide) sm_one)
  go_wp2_with (go_at_call 14; refine HLd.out.mono ?_; rintro e w5 ⟨a6, n6, c6, rfl, hx5, hb5⟩)
  have al := below_al w5 (Obj.cells #[Value.slice a6 n6 c6, Value.int .i64 0, Value.int .i64 3, Value.bool true] 50)
  have HX6 := Lib.hid (hx5.tx.below al)
  have HR6 := Lib.hid ((HR4.out.below hb5).below al)
  have HB6 := Lib.hid ((HB4.out.trans (hb5.mono hz4)).trans (al.mono (HB4.out.trans (hb5.mono hz4)).size))
  have hz6 := HB6.out.size
  have hy6 : w5.heap.size < (w5.alloc (Obj.cells #[Value.slice a6 n6 c6, Value.int .i64 0, Value.int .i64 3, Value.bool true] 50)).heap.size := by simp
  have HW := Lib.hid (cwrite_few (a0 := a6) (n0 := n6) (c0 := c6) (x := 0) (y := 3) (k := true) (Value.pointer (some ⟨p, 0, none⟩)) HX6.out (by decide) (by decide))
  have s0 : (w5.alloc (Obj.cells #[Value.slice a6 n6 c6, Value.int .i64 0, Value.int .i64 3, Value.bool true] 50)).cell? ⟨w5.heap.size, 0, none⟩ = some (Value.slice a6 n6 c6) := by rw [cell_at (heap_alloc_new w5 _)]; rfl
  have s1 : (w5.alloc (Obj.cells #[Value.slice a6 n6 c6, Value.int .i64 0, Value.int .i64 3, Value.bool true] 50)).cell? ⟨w5.heap.size, 1, none⟩ = some (Value.int .i64 0) := by rw [cell_at (heap_alloc_new w5 _)]; rfl
  have s2 : (w5.alloc (Obj.cells #[Value.slice a6 n6 c6, Value.int .i64 0, Value.int .i64 3, Value.bool true] 50)).cell? ⟨w5.heap.size, 2, none⟩ = some (Value.int .i64 3) := by rw [cell_at (heap_alloc_new w5 _)]; rfl
  have s3 : (w5.alloc (Obj.cells #[Value.slice a6 n6 c6, Value.int .i64 0, Value.int .i64 3, Value.bool true] 50)).cell? ⟨w5.heap.size, 3, none⟩ = some (Value.bool true) := by rw [cell_at (heap_alloc_new w5 _)]; rfl
  clear hx5 hb5 al r0 r1 r2 r3 t0 t1 HRD HR4 HB4 hz4 HLd hz3 hz2
  go_wp2_with fail
  refine HW.out.mono ?_; rintro e w7 ⟨rfl, hb7⟩
  have al := below_al w7 (Obj.cells #[Value.slice a6 n6 c6, Value.int .i64 0, Value.int .i64 0, Value.bool false] 50)
  have hb8 := hb7.trans (al.mono hb7.size)
  have HX8 := Lib.hid (HX6.out.below hb8)
  have HR8 := Lib.hid (HR6.out.below hb8)
  have HB8 := Lib.hid (HB6.out.trans (hb8.mono hz6))
  have HS0 := Lib.hid ((hb8.cell (p := ⟨w5.heap.size, 0, none⟩) hy6).trans s0)
  have HS1 := Lib.hid ((hb8.cell (p := ⟨w5.heap.size, 1, none⟩) hy6).trans s1)
  have HS2 := Lib.hid ((hb8.cell (p := ⟨w5.heap.size, 2, none⟩) hy6).trans s2)
  have HS3 := Lib.hid ((hb8.cell (p := ⟨w5.heap.size, 3, none⟩) hy6).trans s3)
  have HT0 : Hid ((w7.alloc (Obj.cells #[Value.slice a6 n6 c6, Value.int .i64 0, Value.int .i64 0, Value.bool false] 50)).cell? ⟨w7.heap.size, 0, none⟩ = some (Value.slice a6 n6 c6)) := Lib.hid (by rw [cell_at (heap_alloc_new w7 _)]; rfl)
  have HT1 : Hid ((w7.alloc (Obj.cells #[Value.slice a6 n6 c6, Value.int .i64 0, Value.int .i64 0, Value.bool false] 50)).cell? ⟨w7.heap.size, 1, none⟩ = some (Value.int .i64 0)) := Lib.hid (by rw [cell_at (heap_alloc_new w7 _)]; rfl)
  have HT2 : Hid ((w7.alloc (Obj.cells #[Value.slice a6 n6 c6, Value.int .i64 0, Value.int .i64 0, Value.bool false] 50)).cell? ⟨w7.heap.size, 2, none⟩ = some (Value.int .i64 0)) := Lib.hid (by rw [cell_at (heap_alloc_new w7 _)]; rfl)
  have HT3 : Hid ((w7.alloc (Obj.cells #[Value.slice a6 n6 c6, Value.int .i64 0, Value.int .i64 0, Value.bool false] 50)).cell? ⟨w7.heap.size, 3, none⟩ = some (Value.bool false)) := Lib.hid (by rw [cell_at (heap_alloc_new w7 _)]; rfl)
  have hy8 : w5.heap.size < (w7.alloc (Obj.cells #[Value.slice a6 n6 c6, Value.int .i64 0, Value.int .i64 0, Value.bool false] 50)).heap.size := Nat.lt_of_lt_of_le hy6 hb8.size
  have hy7 : w7.heap.size < (w7.alloc (Obj.cells #[Value.slice a6 n6 c6, Value.int .i64 0, Value.int .i64 0, Value.bool false] 50)).heap.size := by simp
  have hz8 := HB8.out.size
  clear al hb8 hb7 HX6 HR6 HB6 hz6 hy6 HW s0 s1 s2 s3
  have HP := Lib.hid (ex7_kept (a := a6) (n := n6) (c := c6) HR8.out)
  have HQ0 := Lib.hid (Below.refl (w7.alloc (Obj.cells #[Value.slice a6 n6 c6, Value.int .i64 0, Value.int .i64 0, Value.bool false] 50)).heap.size (w7.alloc (Obj.cells #[Value.slice a6 n6 c6, Value.int .i64 0, Value.int .i64 0, Value.bool false] 50)))
  have s0 := HS0.out
  have s1 := HS1.out
  have s2 := HS2.out
  have s3 := HS3.out
  go_wp2_with fail
  generalize hgen : (w7.alloc (Obj.cells #[Value.slice a6 n6 c6, Value.int .i64 0, Value.int .i64 0, Value.bool false] 50)) = w8 at *
  clear hgen
  refine HP.out.mono ?_; rintro e w9 ⟨a9, c9, rfl, hst9, hb9⟩
  clear s0 s1 s2 s3
  have s0 := (hb9.cell (p := ⟨w5.heap.size, 0, none⟩) hy8).trans HS0.out
  have q0 := (hb9.cell (p := ⟨w7.heap.size, 0, none⟩) hy7).trans HT0.out
  have s1 := (hb9.cell (p := ⟨w5.heap.size, 1, none⟩) hy8).trans HS1.out
  have q1 := (hb9.cell (p := ⟨w7.heap.size, 1, none⟩) hy7).trans HT1.out
  have s2 := (hb9.cell (p := ⟨w5.heap.size, 2, none⟩) hy8).trans HS2.out
  have q2 := (hb9.cell (p := ⟨w7.heap.size, 2, none⟩) hy7).trans HT2.out
  have s3 := (hb9.cell (p := ⟨w5.heap.size, 3, none⟩) hy8).trans HS3.out
  have q3 := (hb9.cell (p := ⟨w7.heap.size, 3, none⟩) hy7).trans HT3.out
  have HQ9 := Lib.hid hb9
  have HP2 := Lib.hid (ex7_text (HR8.out.below hb9) (HX8.out.below hb9))
  clear hb9
  go_wp2_with fail
  refine HP2.out.mono ?_; rintro e w10 ⟨a10, c10, rfl, hst10, hb10⟩
  have hq10 := HQ9.out.trans (hb10.mono HQ9.out.size)
  clear s0 s1 s2 s3 q0 q1 q2 q3 hst9
  have s0 := (hq10.cell (p := ⟨w5.heap.size, 0, none⟩) hy8).trans HS0.out
  have q0 := (hq10.cell (p := ⟨w7.heap.size, 0, none⟩) hy7).trans HT0.out
  have s1 := (hq10.cell (p := ⟨w5.heap.size, 1, none⟩) hy8).trans HS1.out
  have q1 := (hq10.cell (p := ⟨w7.heap.size, 1, none⟩) hy7).trans HT1.out
  have s2 := (hq10.cell (p := ⟨w5.heap.size, 2, none⟩) hy8).trans HS2.out
  have q2 := (hq10.cell (p := ⟨w7.heap.size, 2, none⟩) hy7).trans HT2.out
  have s3 := (hq10.cell (p := ⟨w5.heap.size, 3, none⟩) hy8).trans HS3.out
  have q3 := (hq10.cell (p := ⟨w7.heap.size, 3, none⟩) hy7).trans HT3.out
  have HQ10 := Lib.hid hq10
  have HP3 := Lib.hid (ex7_bytes (HR8.out.below hq10) (HX8.out.below hq10))
  clear hb10 hq10
  go_wp2_with fail
  refine HP3.out.mono ?_; rintro e w11 ⟨a11, c11, rfl, hst11, hb11⟩
  have hq11 := HQ10.out.trans (hb11.mono HQ10.out.size)
  clear s0 s1 s2 s3 q0 q1 q2 q3 hst10
  have s0 := (hq11.cell (p := ⟨w5.heap.size, 0, none⟩) hy8).trans HS0.out
  have q0 := (hq11.cell (p := ⟨w7.heap.size, 0, none⟩) hy7).trans HT0.out
  have s1 := (hq11.cell (p := ⟨w5.heap.size, 1, none⟩) hy8).trans HS1.out
  have q1 := (hq11.cell (p := ⟨w7.heap.size, 1, none⟩) hy7).trans HT1.out
  have s2 := (hq11.cell (p := ⟨w5.heap.size, 2, none⟩) hy8).trans HS2.out
  have q2 := (hq11.cell (p := ⟨w7.heap.size, 2, none⟩) hy7).trans HT2.out
  have s3 := (hq11.cell (p := ⟨w5.heap.size, 3, none⟩) hy8).trans HS3.out
  have q3 := (hq11.cell (p := ⟨w7.heap.size, 3, none⟩) hy7).trans HT3.out
  have HQ11 := Lib.hid hq11
  have HP4 := Lib.hid (csame_diff (w := w11) (a0 := a6) (a1 := a6) (n0 := n6) (c0 := c6) (n1 := n6) (c1 := c6) (x0 := 0) (y0 := 3) (x1 := 0) (y1 := 0) (Value.pointer (some ⟨p, 0, none⟩)))
  clear hb11 hq11
  go_wp2_with fail
  refine HP4.out.mono ?_; rintro e w12 ⟨rfl, hb12⟩
  have HQ12 := Lib.hid (HQ11.out.trans (hb12.mono HQ11.out.size))
  clear hb12
  go_wp2_with fail
  go_ret
  exact ⟨rfl, HB8.out.trans (HQ12.out.mono hz8)⟩

end Go.Proofs.Ytmdifcgnmkpecaa
