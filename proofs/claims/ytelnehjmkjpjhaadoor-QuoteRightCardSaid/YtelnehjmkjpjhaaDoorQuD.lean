/-
  The example of layer 6, and the walk of QuoteReads, at this seat's numbers.
-/
import Derived.Test.YtelnehjmkjpjhaaDoorQuC
import Derived.Test.YtelnehjmkjpjhaaDoorScI
namespace Go.Proofs.YtelnehjmkjpjhaaDoor
open Go Go.RowKit
set_option linter.unusedVariables false

theorem cut6_of (s : ByteArray) (n : Nat) (w : World) (hs : s.size ≤ maxLen) (hn : n ≤ maxLen) :
    Calls Tryd.prog 5 #[.string s, .int .i64 n] w fun e w' => e = .returned (.string (cutS s n)) ∧ w = w' := by
  unfold maxLen at hs hn
  by_cases h : n < s.size
  · have e : cutS s n = s.extract 0 n := by unfold cutS; rw [if_pos h]
    rw [e]
    clear e
    go_enter Tryd.func5, Tryd.ntmps5
    go_wp2
    go_ret
    exact ⟨rfl, rfl⟩
  · have e : cutS s n = s := by unfold cutS; rw [if_neg h]
    rw [e]
    clear e
    go_enter Tryd.func5, Tryd.ntmps5
    go_wp2
    go_ret
    exact ⟨rfl, rfl⟩

def exQ : List UInt8 := [34, 120, 34, 121, 44, 122]
theorem exQ_eq : (fieldP exQ 0).kind = 3 ∧ atL exQ (fieldP exQ 0).pl = [120, 121] := by
  have q : inQ exQ 1 = ([1], 2, true) := by
    rw [inQ_byte (by decide) (by decide), inQ_stop (by decide) (by decide)]; rfl
  have t : till exQ 3 = 4 := by rw [till_step (by decide), till_stop (by decide)]
  have f : fieldP exQ 0 = ⟨0, 4, 3, [1, 3]⟩ := by
    unfold fieldP
    rw [if_pos (by decide), q]
    simp only [t]
    rfl
  rw [f]; exact ⟨rfl, rfl⟩
/-- What the example's Read hands back. -/
def ExR (w : World) (e : Ending) (w' : World) : Prop := ∃ a c, e = .returned (.tuple #[.slice a 2 c, .int .i64 3]) ∧ (∀ w3, Below w'.heap.size w' w3 → (convert 28 9 (.slice a 2 c)).run Tryd.prog w3 = .ok (.string ⟨#[120, 121]⟩) w3) ∧ Below w.heap.size w w'
theorem exR_of {w : World} {g c : Nat} {fr : Nat × Nat} {ty : TypeId} (hc : 6 ≤ c) (hc2 : c ≤ maxLen) (h : w.heap[g]? = some (.cells #[.int .u8 34, .int .u8 120, .int .u8 34, .int .u8 121, .int .u8 44, .int .u8 122] ty fr)) :
    Calls Tryd.prog 18 #[.slice (some ⟨g, 0, none⟩) 6 c] w (ExR w) := by
  have hr : Rd w 1 (some ⟨g, 0, none⟩) exQ.length (bc exQ) := rd_new (t := exQ) h
  refine (qread_of (l := exQ) (c := c) hr (by decide) hc hc2).mono ?_
  rintro e w' ⟨a, n, c', rfl, hn, ho, hb⟩
  rw [exQ_eq.2] at hn ho
  rw [exQ_eq.1]
  obtain rfl : n = 2 := hn
  exact ⟨a, c', rfl, fun w3 h3 => string_own (l := [120, 121]) (own_below ho h3), hb⟩
theorem exPut : putP [97, 34, 98] = [34, 97, 34, 34, 98, 34] := by decide
/-- What the example's Put hands back. -/
def ExP (w : World) (e : Ending) (w' : World) : Prop := ∃ a c, e = .returned (.slice a 6 c) ∧ (convert 28 9 (.slice a 6 c)).run Tryd.prog w' = .ok (.string ⟨#[34, 97, 34, 34, 98, 34]⟩) w' ∧ Below w.heap.size w w'
theorem exP_of {w : World} {g c : Nat} {fr : Nat × Nat} {ty : TypeId} (h : w.heap[g]? = some (.cells #[.int .u8 97, .int .u8 34, .int .u8 98] ty fr)) :
    Calls Tryd.prog 16 #[.slice (some ⟨g, 0, none⟩) 3 c] w (ExP w) := by
  have hr : Rd w 1 (some ⟨g, 0, none⟩) ([97, 34, 98] : List UInt8).length (bc [97, 34, 98]) := rd_new (t := [97, 34, 98]) h
  refine (qput_of (l := [97, 34, 98]) (c := c) hr (by decide)).mono ?_
  rintro e w' ⟨a, c', rfl, ho, hb⟩
  rw [exPut] at ho ⊢
  exact ⟨a, c', rfl, string_own (l := [34, 97, 34, 34, 98, 34]) ho, hb⟩
theorem exY_of {w : World} {g c : Nat} {fr : Nat × Nat} {ty : TypeId} (hm : MayT w) (h : w.heap[g]? = some (.cells #[.int .u8 97, .int .u8 44, .int .u8 98, .int .u8 13, .int .u8 10, .int .u8 99] ty fr)) :
    Calls Tryd.prog 7 #[.slice (some ⟨g, 0, none⟩) 6 c] w fun e w' => e = .returned (.bool true) ∧ w = w' := by
  have hr : Rd w 1 (some ⟨g, 0, none⟩) ([97, 44, 98, 13, 10, 99] : List UInt8).length (bc [97, 44, 98, 13, 10, 99]) := rd_new (t := [97, 44, 98, 13, 10, 99]) h
  exact qright_of (l := [97, 44, 98, 13, 10, 99]) (c := c) hr (by decide) hm
theorem exN_of {w : World} {g c : Nat} {fr : Nat × Nat} {ty : TypeId} (hm : MayT w) (h : w.heap[g]? = some (.cells #[.int .u8 97, .int .u8 10, .int .u8 98] ty fr)) :
    Calls Tryd.prog 7 #[.slice (some ⟨g, 0, none⟩) 3 c] w fun e w' => e = .returned (.bool false) ∧ w = w' := by
  have hr : Rd w 1 (some ⟨g, 0, none⟩) ([97, 10, 98] : List UInt8).length (bc [97, 10, 98]) := rd_new (t := [97, 10, 98]) h
  exact qright_of (l := [97, 10, 98]) (c := c) hr (by decide) hm

set_option maxHeartbeats 1600000 in
theorem awake6_of (w : World) (hm : MayT w) : Calls Tryd.prog 11 #[] w fun e w' => e = .returned (.bool true) ∧ Below w.heap.size w w' := by
  have hcv := conv_at
  have HM := Lib.hid hm
  have h0 := hm.1
  clear hm
  go_enter Tryd.func11, Tryd.ntmps11
  go_wp2_with fail
  have al := below_al w (Obj.cells #[Value.int IntKind.u8 34, Value.int IntKind.u8 120, Value.int IntKind.u8 34, Value.int IntKind.u8 121, Value.int IntKind.u8 44, Value.int IntKind.u8 122] 5 (6, 7))
  refine (exR_of (by decide) (by decide) (heap_alloc_new w _)).mono ?_
  rintro e w2 ⟨a1, c1, rfl, hst, hb2⟩
  have HB2 := Lib.hid (al.trans (hb2.mono al.size))
  have HST := Lib.hid hst
  clear hst hb2 al
  go_wp2_with fail
  have al2 := below_al w2 (Obj.cells #[Value.int IntKind.u8 97, Value.int IntKind.u8 34, Value.int IntKind.u8 98] 5 (3, 4))
  refine (exP_of (heap_alloc_new w2 _)).mono ?_
  rintro e w3 ⟨a2, c2, rfl, hst2, hb3⟩
  have hb23 := al2.trans (hb3.mono al2.size)
  have hst1 := HST.out w3 hb23
  have HB3 := Lib.hid (HB2.out.trans (hb23.mono HB2.out.size))
  have HM3 := Lib.hid (HM.out.below HB3.out h0)
  clear hb3 al2 hb23
  go_wp2_with fail
  have al3 := below_al w3 (Obj.cells #[Value.int IntKind.u8 97, Value.int IntKind.u8 44, Value.int IntKind.u8 98, Value.int IntKind.u8 13, Value.int IntKind.u8 10, Value.int IntKind.u8 99] 5 (6, 7))
  refine (exY_of (HM3.out.below al3 HM3.out.1) (heap_alloc_new w3 _)).mono ?_
  rintro e w4 ⟨rfl, rfl⟩
  have al4 := al3.alloc (by simp) (Obj.cells #[Value.int IntKind.u8 97, Value.int IntKind.u8 10, Value.int IntKind.u8 98] 5 (3, 4))
  have HA4 := Lib.hid al4
  clear al4 hst1 hst2
  go_wp2_with fail
  have hn := heap_alloc_new (w3.alloc (Obj.cells #[Value.int IntKind.u8 97, Value.int IntKind.u8 44, Value.int IntKind.u8 98, Value.int IntKind.u8 13, Value.int IntKind.u8 10, Value.int IntKind.u8 99] 5 (6, 7))) (Obj.cells #[Value.int IntKind.u8 97, Value.int IntKind.u8 10, Value.int IntKind.u8 98] 5 (3, 4))
  rw [World.size_alloc] at hn
  refine (exN_of (HM3.out.below HA4.out HM3.out.1) hn).mono ?_
  rintro e w5 ⟨rfl, rfl⟩
  have HB5 := Lib.hid (HB3.out.trans (HA4.out.mono HB3.out.size))
  clear hn al3
  go_wp2_with fail
  go_ret
  exact ⟨rfl, HB5.out⟩

end Go.Proofs.YtelnehjmkjpjhaaDoor
