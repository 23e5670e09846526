/-
  Texts of this seat, put together (a claim holds few texts): ScE.
-/
import Derived.Test.YtkgakgceamafcaaMk26
import Derived.StillTailTactics

namespace Go.Proofs.Ytkgakgceamafcaa
open Go Go.RowKit
set_option linter.unusedVariables false

set_option maxRecDepth 100000 in
set_option maxHeartbeats 1600000 in
theorem field_of {w : World} {b off : Nat} {c : Nat} {l : List UInt8} (hr : Rd w 1 (some ⟨b, off, none⟩) l.length (bc l)) (hbw : b < w.heap.size) (hl : l.length ≤ 1000000) (hlc : l.length ≤ c) (hc : c ≤ maxLen) (i : Nat) (hi : i ≤ l.length) :
    Calls Try.prog 51 #[.slice (some ⟨b, off, none⟩) l.length c, .int .i64 i] w (FdPost (fieldP l i) w) := by
  have al := below_al w (Obj.cells #[Value.int IntKind.i64 0, Value.int IntKind.i64 0, Value.int IntKind.i64 0, Value.slice none 0 0] 94)
  have hz1 : w.heap.size < (w.alloc (Obj.cells #[Value.int IntKind.i64 0, Value.int IntKind.i64 0, Value.int IntKind.i64 0, Value.slice none 0 0] 94)).heap.size := by simp
  have HA := Lib.hid (heap_alloc_new w (Obj.cells #[Value.int IntKind.i64 0, Value.int IntKind.i64 0, Value.int IntKind.i64 0, Value.slice none 0 0] 94))
  have HB1 := Lib.hid al
  have HR := Lib.hid (hr.below al)
  have hbw1 : b < (w.alloc (Obj.cells #[Value.int IntKind.i64 0, Value.int IntKind.i64 0, Value.int IntKind.i64 0, Value.slice none 0 0] 94)).heap.size := by omega
  clear al hr
  by_cases hq : quAt l i = true
  · have HC := Lib.hid (quoted_of (c := c) HR.out hbw1 hl i hq)
    have HQ := Lib.hid (quoteAt_yes (c := c) HR.out hl i hq)
    clear hq HR
    generalize fieldP l i = F at *
    go_enter Try.func51, Try.ntmps51
    go_wp2_with fail
    generalize w.alloc (Obj.cells #[Value.int IntKind.i64 0, Value.int IntKind.i64 0, Value.int IntKind.i64 0, Value.slice none 0 0] 94) = w1 at *
    refine HQ.out.mono ?_; rintro e w1 ⟨rfl, rfl⟩
    go_wp2_with fail
    refine HC.out.mono ?_; rintro e w2 ⟨a', c', rfl, ho2, hb2⟩
    have HO2 := Lib.hid (own_mono ho2 (Nat.le_of_lt hz1))
    have HB2 := Lib.hid (HB1.out.trans (hb2.mono (Nat.le_of_lt hz1)))
    have HA2 := Lib.hid ((hb2.block w.heap.size hz1).trans HA.out)
    clear ho2 hb2 HQ HC HB1 HA
    generalize hm : (canon F.pl).length = m at *
    have HM := Lib.hid hm
    clear hm
    have y0 : w2.cell? ⟨w.heap.size, 0, none⟩ = some (.int .i64 0) := by rw [cell_at HA2.out]; rfl
    have y1 : w2.cell? ⟨w.heap.size, 1, none⟩ = some (.int .i64 0) := by rw [cell_at HA2.out]; rfl
    have y2 : w2.cell? ⟨w.heap.size, 2, none⟩ = some (.int .i64 0) := by rw [cell_at HA2.out]; rfl
    have y3 : w2.cell? ⟨w.heap.size, 3, none⟩ = some (.slice none 0 0) := by rw [cell_at HA2.out]; rfl
    have z0 := unfrozen HA2.out 0
    have z1 := unfrozen HA2.out 1
    have z2 := unfrozen HA2.out 2
    have z3 := unfrozen HA2.out 3
    have Q4 := Lib.hid (four_cells HA2.out (.int .i64 F.from_) (.int .i64 ((F.to_ : Int) - F.from_)) (.int .i64 F.kind) (.slice a' m c'))
    unfold fdV
    go_wp2_with fail
    have q0 := Q4.out 0 (.int .i64 F.from_) rfl
    have q1 := Q4.out 1 (.int .i64 ((F.to_ : Int) - F.from_)) rfl
    have q2 := Q4.out 2 (.int .i64 F.kind) rfl
    have q3 := Q4.out 3 (.slice a' m c') rfl
    refine bodyPost_ret (v := .tuple #[.agg #[.int .i64 F.from_, .int .i64 ((F.to_ : Int) - F.from_), .int .i64 F.kind, .slice a' m c'], .int .i64 F.to_]) (by simp [results, Try.results51, go_sem, q0, q1, q2, q3]) rfl ?_
    refine ⟨a', c', by unfold fdV; rw [HM.out], ?_, four_below HB2.out (Nat.le_refl _) _ _ _ _⟩
    rw [HM.out]
    exact four_own HA2.out HO2.out (by decide) _ _ _ _
  · have hq := Bool.eq_false_iff.2 hq
    have HC := Lib.hid (plain_of (c := c) HR.out hbw1 hl hlc hc i hi hq)
    have HQ := Lib.hid (quoteAt_no (c := c) HR.out hl i hq)
    clear hq HR
    generalize fieldP l i = F at *
    go_enter Try.func51, Try.ntmps51
    go_wp2_with fail
    generalize w.alloc (Obj.cells #[Value.int IntKind.i64 0, Value.int IntKind.i64 0, Value.int IntKind.i64 0, Value.slice none 0 0] 94) = w1 at *
    refine HQ.out.mono ?_; rintro e w1 ⟨rfl, rfl⟩
    go_wp2_with fail
    refine HC.out.mono ?_; rintro e w2 ⟨a', c', rfl, ho2, hb2⟩
    have HO2 := Lib.hid (own_mono ho2 (Nat.le_of_lt hz1))
    have HB2 := Lib.hid (HB1.out.trans (hb2.mono (Nat.le_of_lt hz1)))
    have HA2 := Lib.hid ((hb2.block w.heap.size hz1).trans HA.out)
    clear ho2 hb2 HQ HC HB1 HA
    generalize hm : (canon F.pl).length = m at *
    have HM := Lib.hid hm
    clear hm
    have y0 : w2.cell? ⟨w.heap.size, 0, none⟩ = some (.int .i64 0) := by rw [cell_at HA2.out]; rfl
    have y1 : w2.cell? ⟨w.heap.size, 1, none⟩ = some (.int .i64 0) := by rw [cell_at HA2.out]; rfl
    have y2 : w2.cell? ⟨w.heap.size, 2, none⟩ = some (.int .i64 0) := by rw [cell_at HA2.out]; rfl
    have y3 : w2.cell? ⟨w.heap.size, 3, none⟩ = some (.slice none 0 0) := by rw [cell_at HA2.out]; rfl
    have z0 := unfrozen HA2.out 0
    have z1 := unfrozen HA2.out 1
    have z2 := unfrozen HA2.out 2
    have z3 := unfrozen HA2.out 3
    have Q4 := Lib.hid (four_cells HA2.out (.int .i64 F.from_) (.int .i64 ((F.to_ : Int) - F.from_)) (.int .i64 F.kind) (.slice a' m c'))
    unfold fdV
    go_wp2_with fail
    have q0 := Q4.out 0 (.int .i64 F.from_) rfl
    have q1 := Q4.out 1 (.int .i64 ((F.to_ : Int) - F.from_)) rfl
    have q2 := Q4.out 2 (.int .i64 F.kind) rfl
    have q3 := Q4.out 3 (.slice a' m c') rfl
    refine bodyPost_ret (v := .tuple #[.agg #[.int .i64 F.from_, .int .i64 ((F.to_ : Int) - F.from_), .int .i64 F.kind, .slice a' m c'], .int .i64 F.to_]) (by simp [results, Try.results51, go_sem, q0, q1, q2, q3]) rfl ?_
    refine ⟨a', c', by unfold fdV; rw [HM.out], ?_, four_below HB2.out (Nat.le_refl _) _ _ _ _⟩
    rw [HM.out]
    exact four_own HA2.out HO2.out (by decide) _ _ _ _

end Go.Proofs.Ytkgakgceamafcaa
