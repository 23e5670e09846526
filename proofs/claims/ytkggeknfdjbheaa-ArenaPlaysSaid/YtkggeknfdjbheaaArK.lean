/-
  The contract of put, at this seat's numbers.
-/
import Derived.Test.YtkggeknfdjbheaaArJ
import Derived.Test.YtkggeknfdjbheaaArG
namespace Go.Proofs.Ytkggeknfdjbheaa
open Go Go.RowKit
set_option linter.unusedVariables false

/-- What calls that turn both arenas leave of older memory. -/
structure Kept2 (B q : Nat) (w w' : World) : Prop where
  low : Below B w w'
  size : w.heap.size ≤ w'.heap.size
  rest : ∀ b, b < w.heap.size → b ≠ q → (∀ cs, w.heap[b]? ≠ some (.cells cs 98 (0, 0))) → (∀ cs, w.heap[b]? ≠ some (.cells cs 5 (0, 0))) → w'.heap[b]? = w.heap[b]?
theorem Kept2.of_turned {B q : Nat} {w w' : World} (h : Turned B w w') : Kept2 B q w w' := ⟨h.low, h.size, fun b hb _ h1 h2 => h.rest b hb h1 h2⟩
theorem Kept2.of_below {B q : Nat} {w w' : World} (h : Below w.heap.size w w') (hB : B ≤ w.heap.size) : Kept2 B q w w' := Kept2.of_turned (Turned.of_below h hB)
theorem Kept2.of_only {B q : Nat} {w w' : World} (h : w.grownBy w' (some q)) (hB : B ≤ w.heap.size) (hq : B ≤ q) : Kept2 B q w w' :=
  ⟨⟨h.os, h.tape, h.output, h.size, fun b hb => h.block b (by omega) (fun e => by injection e with e; omega)⟩, h.size, fun b hb hn _ _ => h.block b hb (fun e => hn (by injection e))⟩
theorem Kept2.trans {B q : Nat} {a b c : World} (h : Kept2 B q a b) (k : Kept2 B q b c) : Kept2 B q a c :=
  ⟨h.low.trans k.low, Nat.le_trans h.size k.size, fun i hi hn h1 h2 => by
    have e := h.rest i hi hn h1 h2
    rw [← e]
    exact k.rest i (Nat.lt_of_lt_of_le hi h.size) hn (by rw [e]; exact h1) (by rw [e]; exact h2)⟩
theorem SpB.kept {B q : Nat} {w w' : World} {b : Nat} {x y : Int} (h : SpB w b x y) (hn : b ≠ q) (ht : Kept2 B q w w') : SpB w' b x y :=
  ⟨(ht.rest b h.lt hn (fun cs hc => by rw [h.blk] at hc; injection hc with hc; injection hc with _ hc; exact absurd hc (by decide)) (fun cs hc => by rw [h.blk] at hc; injection hc with hc; injection hc with _ hc; exact absurd hc (by decide))).trans h.blk⟩

/-- What put leaves. -/
def PutPost (l' : List UInt8) (B p q : Nat) (w : World) (e : Ending) (w' : World) : Prop := e = .returned (.bool true) ∧ Ar w' B p l' ∧ RA w' B q l' ∧ Kept2 B q w w'

set_option maxHeartbeats 4000000 in
set_option maxRecDepth 100000 in
theorem put_keep {w : World} {B p q : Nat} {l : List UInt8} (t : List UInt8) (hA : Ar w B p l) (hR : RA w B q l) (hl : l.length ≤ 16384) (ht : t.length ≤ 5000) (hB : B ≤ w.heap.size) (hm : ML w) (hB0 : 0 < B) :
    Calls Try.prog 15 #[.pointer (some ⟨p, 0, none⟩), .pointer (some ⟨q, 0, none⟩), .string (strOf t), .bool true] w (PutPost (keepL l t) B p q w) := by
  have hzt : (strOf t).size = t.length := rfl
  have hdt : (strOf t).data.toList = t := rfl
  obtain ⟨cap, W1, hconv, hheld, hb1⟩ := held_of (strOf t) w (by unfold maxLen; omega)
  obtain ⟨h0, m, hm⟩ := hm.below hb1 hm.1
  have hz1 := hb1.size
  have hrd := rd_held hheld
  rw [hdt] at hrd
  rw [hzt] at hconv
  have HK := Lib.hid (keep_of (hA.below hb1) hl _ cap (by omega) hrd (by unfold maxLen; omega) hm h0)
  have HRK := Lib.hid (fun w (h : RA w B q l) => rkeep_of (t := t) h hl (by omega))
  have HR1 := Lib.hid (hR.below hb1)
  have HB1 := Lib.hid hb1
  have HBq := Lib.hid hR.base
  clear hheld hrd hm h0 hb1 hA hR hzt hdt
  unfold ArPost RPost ret3 at *
  generalize keepR l t = r at *
  generalize keepL l t = l' at *
  go_enter Try.func15, Try.ntmps15
  go_wp2_with fail
  refine HK.out.mono ?_; rintro e w2 ⟨rfl, hA2, hT2⟩
  have HA2 := Lib.hid hA2
  have HR2 := Lib.hid (HR1.out.turned hT2)
  have HK2 := Lib.hid ((Kept2.of_below (q := q) HB1.out hB).trans (Kept2.of_turned hT2))
  have hz2 := hT2.size
  clear hA2 hT2 hconv
  have S2 := SpB.new w2 r.1 r.2.1
  have HA3 := Lib.hid (HA2.out.below (below_al2 w2 (Obj.cells #[Value.int IntKind.i64 r.1, Value.int IntKind.i64 r.2.1] 24)))
  have HR3 := Lib.hid (HR2.out.below (below_al2 w2 (Obj.cells #[Value.int IntKind.i64 r.1, Value.int IntKind.i64 r.2.1] 24)))
  have hqw : q < w2.heap.size := HR2.out.lt
  go_wp2_with fail
  refine (HRK.out _ HR3.out).mono ?_; rintro e w4 ⟨rfl, hR4, hG4⟩
  have HA4 := Lib.hid (HA3.out.only HR3.out.blk (by decide) (by decide) hG4)
  have HR4 := Lib.hid hR4
  have S4 : SpB w4 w2.heap.size r.1 r.2.1 := ⟨(hG4.block _ (by simp) (fun e => by injection e with e; omega)).trans S2.blk⟩
  have HK4 := Lib.hid ((HK2.out.trans (Kept2.of_below (below_al2 w2 (Obj.cells #[Value.int IntKind.i64 r.1, Value.int IntKind.i64 r.2.1] 24)) (by omega))).trans (Kept2.of_only hG4 (by simp only [World.size_alloc]; omega) HBq.out))
  have hz4 := hG4.size
  simp only [World.size_alloc] at hz4
  clear hR4 hG4 S2 HA3 HR3 HA2 HR2 HK2
  go_upto_region 4 with fail
  have S5 := S4.below (below_al2 w4 (Obj.cells #[Value.int IntKind.i64 r.1, Value.int IntKind.i64 r.2.1] 44))
  have Q5 := SqB.new w4 r.1 r.2.1
  have HA5 := Lib.hid (HA4.out.below (below_al2 w4 (Obj.cells #[Value.int IntKind.i64 r.1, Value.int IntKind.i64 r.2.1] 44)))
  have HR5 := Lib.hid (HR4.out.below (below_al2 w4 (Obj.cells #[Value.int IntKind.i64 r.1, Value.int IntKind.i64 r.2.1] 44)))
  have HK5 := Lib.hid (HK4.out.trans (Kept2.of_below (below_al2 w4 (Obj.cells #[Value.int IntKind.i64 r.1, Value.int IntKind.i64 r.2.1] 44)) (by omega)))
  have hz5 : B ≤ (w4.alloc (Obj.cells #[Value.int IntKind.i64 r.1, Value.int IntKind.i64 r.2.1] 44)).heap.size := by simp only [World.size_alloc]; omega
  generalize w4.alloc (Obj.cells #[Value.int IntKind.i64 r.1, Value.int IntKind.i64 r.2.1] 44) = w5 at *
  have ld1 := fun w' (hb : Below w5.heap.size w5 w') => (S5.below (w' := w') hb).c0
  have ld2 := fun w' (hb : Below w5.heap.size w5 w') => (S5.below (w' := w') hb).c1
  have ld3 := fun w' (hb : Below w5.heap.size w5 w') => (Q5.below (w' := w') hb).c0
  have ld4 := fun w' (hb : Below w5.heap.size w5 w') => (Q5.below (w' := w') hb).c1
  have HO := Lib.hid (ours_chain (W := w5))
  have hb0 : Below w5.heap.size w5 w5.drew := (Below.refl _ w5).drew
  clear S4 S5 Q5
  go_region_held3 (fun w' => Below w5.heap.size w5 w') (first | assumption)
    ((go_at_call 22; refine (HO.out r.1 r.2.1 _ (by assumption)).mono ?_; rintro e w' ⟨rfl, hB', hb'⟩; clear hb'))
  all_goals
    go_wp2_with fail
    go_ret
    exact ⟨rfl, HA5.out.below (by assumption), HR5.out.below (by assumption), HK5.out.trans (Kept2.of_below (by assumption) hz5)⟩

set_option maxHeartbeats 4000000 in
set_option maxRecDepth 100000 in
theorem put_add {w : World} {B p q : Nat} {l : List UInt8} (t : List UInt8) (hA : Ar w B p l) (hR : RA w B q l) (hl : l.length ≤ 16384) (ht : t.length ≤ 5000) (hB : B ≤ w.heap.size) :
    Calls Try.prog 15 #[.pointer (some ⟨p, 0, none⟩), .pointer (some ⟨q, 0, none⟩), .string (strOf t), .bool false] w (PutPost (addL l t) B p q w) := by
  have hzt : (strOf t).size = t.length := rfl
  have hdt : (strOf t).data.toList = t := rfl
  obtain ⟨cap, W1, hconv, hheld, hb1⟩ := held_of (strOf t) w (by unfold maxLen; omega)
  have hz1 := hb1.size
  have hrd := rd_held hheld
  rw [hdt] at hrd
  rw [hzt] at hconv
  have HK := Lib.hid (add_of (hA.below hb1) hl _ cap (by omega) hrd (by unfold maxLen; omega))
  have HRK := Lib.hid (fun w (h : RA w B q l) => radd_of (t := t) h hl (by unfold maxLen; omega))
  have HR1 := Lib.hid (hR.below hb1)
  have HB1 := Lib.hid hb1
  have HBq := Lib.hid hR.base
  clear hheld hrd hb1 hA hR hzt hdt
  unfold ArPost RPost ret3 at *
  generalize addR l t = r at *
  generalize addL l t = l' at *
  go_enter Try.func15, Try.ntmps15
  go_wp2_with fail
  refine HK.out.mono ?_; rintro e w2 ⟨rfl, hA2, hT2⟩
  have HA2 := Lib.hid hA2
  have HR2 := Lib.hid (HR1.out.turned hT2)
  have HK2 := Lib.hid ((Kept2.of_below (q := q) HB1.out hB).trans (Kept2.of_turned hT2))
  have hz2 := hT2.size
  clear hA2 hT2 hconv
  have S2 := SpB.new w2 r.1 r.2.1
  have HA3 := Lib.hid (HA2.out.below (below_al2 w2 (Obj.cells #[Value.int IntKind.i64 r.1, Value.int IntKind.i64 r.2.1] 24)))
  have HR3 := Lib.hid (HR2.out.below (below_al2 w2 (Obj.cells #[Value.int IntKind.i64 r.1, Value.int IntKind.i64 r.2.1] 24)))
  have hqw : q < w2.heap.size := HR2.out.lt
  go_wp2_with fail
  refine (HRK.out _ HR3.out).mono ?_; rintro e w4 ⟨rfl, hR4, hG4⟩
  have HA4 := Lib.hid (HA3.out.only HR3.out.blk (by decide) (by decide) hG4)
  have HR4 := Lib.hid hR4
  have S4 : SpB w4 w2.heap.size r.1 r.2.1 := ⟨(hG4.block _ (by simp) (fun e => by injection e with e; omega)).trans S2.blk⟩
  have HK4 := Lib.hid ((HK2.out.trans (Kept2.of_below (below_al2 w2 (Obj.cells #[Value.int IntKind.i64 r.1, Value.int IntKind.i64 r.2.1] 24)) (by omega))).trans (Kept2.of_only hG4 (by simp only [World.size_alloc]; omega) HBq.out))
  have hz4 := hG4.size
  simp only [World.size_alloc] at hz4
  clear hR4 hG4 S2 HA3 HR3 HA2 HR2 HK2
  go_upto_region 7 with fail
  have S5 := S4.below (below_al2 w4 (Obj.cells #[Value.int IntKind.i64 r.1, Value.int IntKind.i64 r.2.1] 44))
  have Q5 := SqB.new w4 r.1 r.2.1
  have HA5 := Lib.hid (HA4.out.below (below_al2 w4 (Obj.cells #[Value.int IntKind.i64 r.1, Value.int IntKind.i64 r.2.1] 44)))
  have HR5 := Lib.hid (HR4.out.below (below_al2 w4 (Obj.cells #[Value.int IntKind.i64 r.1, Value.int IntKind.i64 r.2.1] 44)))
  have HK5 := Lib.hid (HK4.out.trans (Kept2.of_below (below_al2 w4 (Obj.cells #[Value.int IntKind.i64 r.1, Value.int IntKind.i64 r.2.1] 44)) (by omega)))
  have hz5 : B ≤ (w4.alloc (Obj.cells #[Value.int IntKind.i64 r.1, Value.int IntKind.i64 r.2.1] 44)).heap.size := by simp only [World.size_alloc]; omega
  generalize w4.alloc (Obj.cells #[Value.int IntKind.i64 r.1, Value.int IntKind.i64 r.2.1] 44) = w5 at *
  have ld1 := fun w' (hb : Below w5.heap.size w5 w') => (S5.below (w' := w') hb).c0
  have ld2 := fun w' (hb : Below w5.heap.size w5 w') => (S5.below (w' := w') hb).c1
  have ld3 := fun w' (hb : Below w5.heap.size w5 w') => (Q5.below (w' := w') hb).c0
  have ld4 := fun w' (hb : Below w5.heap.size w5 w') => (Q5.below (w' := w') hb).c1
  have HO := Lib.hid (ours_chain (W := w5))
  have hb0 : Below w5.heap.size w5 w5.drew := (Below.refl _ w5).drew
  clear S4 S5 Q5
  go_region_held3 (fun w' => Below w5.heap.size w5 w') (first | assumption)
    ((go_at_call 22; refine (HO.out r.1 r.2.1 _ (by assumption)).mono ?_; rintro e w' ⟨rfl, hB', hb'⟩; clear hb'))
  all_goals
    go_wp2_with fail
    go_ret
    exact ⟨rfl, HA5.out.below (by assumption), HR5.out.below (by assumption), HK5.out.trans (Kept2.of_below (by assumption) hz5)⟩

theorem addL_le {l t : List UInt8} (h : l.length ≤ 16384) : (addL l t).length ≤ 16384 := by
  unfold addL
  split
  · exact h
  · rw [List.length_append]; omega
theorem keepL_le {l t : List UInt8} (h : l.length ≤ 16384) : (keepL l t).length ≤ 16384 := by
  unfold keepL
  split
  · exact addL_le h
  · exact h

/-- put, whichever way. -/
theorem put_of (B p q : Nat) (l t : List UInt8) (b : Bool) (hl : l.length ≤ 16384) (ht : t.length ≤ 5000) (hB0 : 0 < B) :
    ∃ l' : List UInt8, l'.length ≤ 16384 ∧ ∀ w : World, Ar w B p l → RA w B q l → B ≤ w.heap.size → ML w → Calls Try.prog 15 #[.pointer (some ⟨p, 0, none⟩), .pointer (some ⟨q, 0, none⟩), .string (strOf t), .bool b] w (PutPost l' B p q w) := by
  cases b
  · exact ⟨_, addL_le hl, fun w hA hR hB _ => put_add t hA hR hl ht hB⟩
  · exact ⟨_, keepL_le hl, fun w hA hR hB hm => put_keep t hA hR hl ht hB hm hB0⟩

end Go.Proofs.Ytkggeknfdjbheaa
