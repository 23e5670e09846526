/-
  Texts of this seat, put together (a claim holds few texts): ScO.
-/
import Derived.Test.YtkgakgceamafcaaGreatMk23

namespace Go.Proofs.YtkgakgceamafcaaGreat
open Go Go.RowKit
set_option linter.unusedVariables false

/-- What the document's field hands back. -/
def RfPost (F : Fd) (w : World) (e : Ending) (w' : World) : Prop :=
  ∃ a c, e = .returned (fdV F (.slice a F.pl.length c)) ∧ w'.ownsRow w.heap.size 3 1 (.slice a F.pl.length c) F.pl.length (inC F.pl) ∧ Below w.heap.size w w'

/-- The loop over the bytes of a field without quotes. -/
def RfJ (l : List UInt8) (i j : Nat) (a : Option Addr) (n c : Nat) (t : List Int) (w : World) (v7 : Value) (wr : World) : Prop := ∃ (k : Nat) (kd : Int), i ≤ k ∧ k ≤ j ∧ v7 = .int .i64 k ∧ kd = (if hasQ l i k = true then 2 else 0) ∧
  wr.heap[w.heap.size]? = some (.cells #[.int .i64 0, .int .i64 0, .int .i64 0, .slice none 0 0] 190 (0, 0)) ∧
  wr.heap[w.heap.size + 1]? = some (.cells #[.int .i64 i, .int .i64 ((j : Int) - i), .int .i64 kd, .slice a n c] 190 (0, 0)) ∧
  wr.ownsRow (w.heap.size + 2) 3 1 (.slice a n c) n (inC t) ∧ Below w.heap.size w wr ∧ w.heap.size + 2 ≤ wr.heap.size
/-- The loop over the bytes of a field with quotes. -/
def RqJ (l : List UInt8) (i : Nat) (w : World) (v8 : Value) (wr : World) : Prop := ∃ (k : Nat) (t : List Int) (a : Option Addr) (c : Nat), i < k ∧ k ≤ l.length ∧ v8 = .int .i64 k ∧ (inQ l (i + 1)).1 = t ++ (inQ l k).1 ∧ (inQ l (i + 1)).2 = (inQ l k).2 ∧ t.length ≤ k ∧
  wr.heap[w.heap.size]? = some (.cells #[.int .i64 0, .int .i64 0, .int .i64 0, .slice none 0 0] 190 (0, 0)) ∧
  wr.heap[w.heap.size + 1]? = some (.cells #[.int .i64 0, .int .i64 0, .int .i64 0, .slice a t.length c] 190 (0, 0)) ∧
  wr.ownsRow (w.heap.size + 2) 3 1 (.slice a t.length c) t.length (inC t) ∧ Below w.heap.size w wr ∧ w.heap.size + 2 ≤ wr.heap.size

theorem places_nil (i j : Nat) (hij : i ≤ j) (hj : j ≤ 1000000) (w : World) :
    Calls Tryz.prog 177 #[.slice none 0 0, .int .i64 i, .int .i64 j] w fun e w' => ∃ a' c', e = .returned (.slice a' (pls i j).length c') ∧ w'.ownsRow w.heap.size 3 1 (.slice a' (pls i j).length c') (pls i j).length (inC (pls i j)) ∧ Below w.heap.size w w' ∧ w.heap.size ≤ w'.heap.size :=
  places_of (own_nil w w.heap.size 3 1) (Nat.le_refl _) i j hij hj (by simp) (t := [])
theorem two_fields (w : World) (x y : Obj) : ((w.alloc x).alloc y).heap[w.heap.size]? = some x ∧ ((w.alloc x).alloc y).heap[w.heap.size + 1]? = some y ∧ ((w.alloc x).alloc y).heap.size = w.heap.size + 2 ∧ Below w.heap.size w ((w.alloc x).alloc y) := by
  refine ⟨heap_mid _ _ _, ?_, by simp, (below_al w x).alloc (by simp) y⟩
  have h := heap_alloc_new (w.alloc x) y
  rwa [World.size_alloc] at h

set_option maxRecDepth 100000 in
set_option maxHeartbeats 4000000 in
theorem rfield_plain {s : ByteArray} {l : List UInt8} (hs : s.data.toList = l) (hl : l.length ≤ 1000000) (i : Nat) (hi : i ≤ l.length) (hq : quAt l i = false) (w : World) :
    Calls Tryz.prog 150 #[.string s, .int .i64 i] w (RfPost (fieldP l i) w) := by
  obtain ⟨k2, k3, k4⟩ := plain_kind hq
  have k1 := fieldP_from l i
  have ht1 := till_ge l i
  have ht2 := till_le hi
  have HS := Lib.hid hs
  have HQ := Lib.hid (fun w => rquote_no hs hl i hq w)
  have HT := Lib.hid (fun w => rtill_of hs hl i hi w)
  generalize till l i = j at *
  generalize fieldP l i = F at *
  have K1 := Lib.hid k1
  have K2 := Lib.hid k2
  have K3 := Lib.hid k3
  have K4 := Lib.hid k4
  obtain ⟨b4, b5, hz, hb⟩ := two_fields w (Obj.cells #[Value.int IntKind.i64 0, Value.int IntKind.i64 0, Value.int IntKind.i64 0, Value.slice none 0 0] 190) (Obj.cells #[Value.int IntKind.i64 0, Value.int IntKind.i64 0, Value.int IntKind.i64 0, Value.slice none 0 0] 190)
  have H4 := Lib.hid b4
  have H5 := Lib.hid b5
  have HB := Lib.hid hb
  clear k1 k2 k3 k4 hs hq b4 b5 hb
  go_enter Tryz.func150, Tryz.ntmps150
  go_upto_region 2 with fail
  generalize (w.alloc (Obj.cells #[Value.int IntKind.i64 0, Value.int IntKind.i64 0, Value.int IntKind.i64 0, Value.slice none 0 0] 190)).alloc (Obj.cells #[Value.int IntKind.i64 0, Value.int IntKind.i64 0, Value.int IntKind.i64 0, Value.slice none 0 0] 190) = w1 at *
  have HZ := Lib.hid hz
  have hz' : w.heap.size + 1 < w1.heap.size := by omega
  clear hz
  go_wp2_with fail
  refine (HQ.out _).mono ?_; rintro e wx ⟨rfl, rfl⟩
  go_wp2_with fail
  refine (HT.out _).mono ?_; rintro e wx ⟨rfl, rfl⟩
  clear HQ HT
  have y0 : w1.cell? ⟨w.heap.size + 1, 0, none⟩ = some (.int .i64 0) := by rw [cell_at H5.out]; rfl
  have y1 : w1.cell? ⟨w.heap.size + 1, 1, none⟩ = some (.int .i64 0) := by rw [cell_at H5.out]; rfl
  have y2 : w1.cell? ⟨w.heap.size + 1, 2, none⟩ = some (.int .i64 0) := by rw [cell_at H5.out]; rfl
  have y3 : w1.cell? ⟨w.heap.size + 1, 3, none⟩ = some (.slice none 0 0) := by rw [cell_at H5.out]; rfl
  have z0 := unfrozen H5.out 0
  have z1 := unfrozen H5.out 1
  have z2 := unfrozen H5.out 2
  have z3 := unfrozen H5.out 3
  have H5A : Hid (((w1.setCell ⟨w.heap.size + 1, 0, none⟩ (.int .i64 i)).setCell ⟨w.heap.size + 1, 1, none⟩ (.int .i64 ((j : Int) - i))).heap[w.heap.size + 1]? = some (.cells #[.int .i64 i, .int .i64 ((j : Int) - i), .int .i64 0, .slice none 0 0] 190 (0, 0))) := heap_set_at (heap_set_at H5.out)
  have H4A : Hid (((w1.setCell ⟨w.heap.size + 1, 0, none⟩ (.int .i64 i)).setCell ⟨w.heap.size + 1, 1, none⟩ (.int .i64 ((j : Int) - i))).heap[w.heap.size]? = some (.cells #[.int .i64 0, .int .i64 0, .int .i64 0, .slice none 0 0] 190 (0, 0))) := (heap_set_other (by omega)).trans ((heap_set_other (by omega)).trans H4.out)
  have HBA := Lib.hid (below_two HB.out (b := w.heap.size + 1) (by omega) (.int .i64 i) (.int .i64 ((j : Int) - i)))
  have hzA : ((w1.setCell ⟨w.heap.size + 1, 0, none⟩ (.int .i64 i)).setCell ⟨w.heap.size + 1, 1, none⟩ (.int .i64 ((j : Int) - i))).heap.size = w.heap.size + 2 := by simp only [size_set]; exact HZ.out
  go_upto_region 5 with fail
  clear y0 y1 y2 y3 z0 z1 z2 z3 H4 H5
  generalize (w1.setCell ⟨w.heap.size + 1, 0, none⟩ (.int .i64 i)).setCell ⟨w.heap.size + 1, 1, none⟩ (.int .i64 ((j : Int) - i)) = wA at *
  have HPL := Lib.hid (places_nil i j ht1 (by omega) wA)
  have HZA := Lib.hid hzA
  clear hzA
  go_wp2_with fail
  refine HPL.out.mono ?_; rintro e wB ⟨a', c', rfl, hoB, hbB, hzB⟩
  have HOB : Hid (wB.ownsRow (w.heap.size + 2) 3 1 (.slice a' (pls i j).length c') (pls i j).length (inC (pls i j))) := by rw [← HZA.out]; exact hoB
  have H5B := Lib.hid ((hbB.block (w.heap.size + 1) (by have := HZA.out; omega)).trans H5A.out)
  have H4B := Lib.hid ((hbB.block w.heap.size (by have := HZA.out; omega)).trans H4A.out)
  have HBB := Lib.hid (HBA.out.trans (hbB.mono HBA.out.size))
  have hzB' : w.heap.size + 2 ≤ wB.heap.size := by have := HZA.out; omega
  clear hoB hbB hzB HPL H5A H4A HBA HZA
  generalize hm : (pls i j).length = m at *
  have HM := Lib.hid hm
  clear hm
  have y0 : wB.cell? ⟨w.heap.size + 1, 0, none⟩ = some (.int .i64 i) := by rw [cell_at H5B.out]; rfl
  have y1 : wB.cell? ⟨w.heap.size + 1, 1, none⟩ = some (.int .i64 ((j : Int) - i)) := by rw [cell_at H5B.out]; rfl
  have y2 : wB.cell? ⟨w.heap.size + 1, 2, none⟩ = some (.int .i64 0) := by rw [cell_at H5B.out]; rfl
  have y3 : wB.cell? ⟨w.heap.size + 1, 3, none⟩ = some (.slice none 0 0) := by rw [cell_at H5B.out]; rfl
  have z0 := unfrozen H5B.out 0
  have z1 := unfrozen H5B.out 1
  have z2 := unfrozen H5B.out 2
  have z3 := unfrozen H5B.out 3
  go_upto_region 6 with fail
  have HJ : Hid (RfJ l i j a' m c' (pls i j) w (.int .i64 i) (wB.setCell ⟨w.heap.size + 1, 3, none⟩ (.slice a' m c'))) :=
    ⟨i, 0, Nat.le_refl _, ht1, rfl, by rw [hasQ_nil]; rfl, (heap_set_other (by omega)).trans H4B.out, heap_set_at H5B.out, own_set HOB.out (own_ne HOB.out H5B.out (by decide)), HBB.out.setCell (p := ⟨w.heap.size + 1, 3, none⟩) (by show w.heap.size ≤ w.heap.size + 1; omega) _, by rw [size_set]; exact hzB'⟩
  clear y0 y1 y2 y3 z0 z1 z2 z3 H4B H5B HOB HBB hzB'
  generalize wB.setCell ⟨w.heap.size + 1, 3, none⟩ (.slice a' m c') = wC at *
  go_wp2_with fail
  go_loopw [7] (fun v7 wr => RfJ l i j a' m c' (pls i j) w v7 wr) (fun v7 _ => j - (intOf v7).toNat)
  case atStart => exact HJ.out
  case round =>
    obtain ⟨k, kd, hik, hkj, rfl, hkd, h4, h5, ho, hb, hzr⟩ := hrel
    have H4z := Lib.hid h4
    have H5z := Lib.hid h5
    have HO := Lib.hid ho
    have HBz := Lib.hid hb
    have HKD := Lib.hid hkd
    clear h4 h5 ho hb hkd HJ
    by_cases hlt : k < j
    · have dk : decide (k < j) = true := decide_eq_true hlt
      have dk' : decide ((k : Int) < (j : Int)) = true := decide_eq_true (by omega)
      have hst := hasQ_step l i k hik
      by_cases hqk : quAt l k = true
      · have HQ := Lib.hid (fun w => rquote_yes HS.out hl k hqk w)
        have HK2 := Lib.hid (show (2 : Int) = (if hasQ l i (k + 1) = true then 2 else 0) by rw [hst, hqk, Bool.or_true]; rfl)
        clear hst hqk
        have y0 : wr.cell? ⟨w.heap.size + 1, 0, none⟩ = some (.int .i64 i) := by rw [cell_at H5z.out]; rfl
        have y1 : wr.cell? ⟨w.heap.size + 1, 1, none⟩ = some (.int .i64 ((j : Int) - i)) := by rw [cell_at H5z.out]; rfl
        have y2 : wr.cell? ⟨w.heap.size + 1, 2, none⟩ = some (.int .i64 kd) := by rw [cell_at H5z.out]; rfl
        have y3 : wr.cell? ⟨w.heap.size + 1, 3, none⟩ = some (.slice a' m c') := by rw [cell_at H5z.out]; rfl
        have z0 := unfrozen H5z.out 0
        have z1 := unfrozen H5z.out 1
        have z2 := unfrozen H5z.out 2
        have z3 := unfrozen H5z.out 3
        go_wp2_with (go_at_call 175; refine (HQ.out _).mono ?_; rintro e w' ⟨rfl, rfl⟩)
        go_roundw
        case rel => exact ⟨k + 1, 2, by omega, hlt, by go_num, HK2.out, (heap_set_other (by omega)).trans H4z.out, heap_set_at H5z.out, own_set HO.out (own_ne HO.out H5z.out (by decide)), HBz.out.setCell (p := ⟨w.heap.size + 1, 2, none⟩) (by show w.heap.size ≤ w.heap.size + 1; omega) _, by rw [size_set]; exact hzr⟩
        case measure => simp [intOf]; omega
      · have hqk := Bool.eq_false_iff.2 hqk
        have HQ := Lib.hid (fun w => rquote_no HS.out hl k hqk w)
        have HK2 := Lib.hid (show kd = (if hasQ l i (k + 1) = true then 2 else 0) by rw [hst, hqk, Bool.or_false]; exact HKD.out)
        clear hst hqk
        go_wp2_with (go_at_call 175; refine (HQ.out _).mono ?_; rintro e w' ⟨rfl, rfl⟩)
        go_roundw
        case rel => exact ⟨k + 1, kd, by omega, hlt, by go_num, HK2.out, H4z.out, H5z.out, HO.out, HBz.out, hzr⟩
        case measure => simp [intOf]; omega
    · have dk : decide (k < j) = false := decide_eq_false hlt
      have dk' : decide ((k : Int) < (j : Int)) = false := decide_eq_false (by omega)
      obtain rfl : k = j := by omega
      have x0 : wr.cell? ⟨w.heap.size, 0, none⟩ = some (.int .i64 0) := by rw [cell_at H4z.out]; rfl
      have x1 : wr.cell? ⟨w.heap.size, 1, none⟩ = some (.int .i64 0) := by rw [cell_at H4z.out]; rfl
      have x2 : wr.cell? ⟨w.heap.size, 2, none⟩ = some (.int .i64 0) := by rw [cell_at H4z.out]; rfl
      have x3 : wr.cell? ⟨w.heap.size, 3, none⟩ = some (.slice none 0 0) := by rw [cell_at H4z.out]; rfl
      have o0 := unfrozen H4z.out 0
      have o1 := unfrozen H4z.out 1
      have o2 := unfrozen H4z.out 2
      have o3 := unfrozen H4z.out 3
      have y0 : wr.cell? ⟨w.heap.size + 1, 0, none⟩ = some (.int .i64 i) := by rw [cell_at H5z.out]; rfl
      have y1 : wr.cell? ⟨w.heap.size + 1, 1, none⟩ = some (.int .i64 ((k : Int) - i)) := by rw [cell_at H5z.out]; rfl
      have y2 : wr.cell? ⟨w.heap.size + 1, 2, none⟩ = some (.int .i64 kd) := by rw [cell_at H5z.out]; rfl
      have y3 : wr.cell? ⟨w.heap.size + 1, 3, none⟩ = some (.slice a' m c') := by rw [cell_at H5z.out]; rfl
      have Q4 := Lib.hid (four_cells H4z.out (.int .i64 i) (.int .i64 ((k : Int) - i)) (.int .i64 kd) (.slice a' m c'))
      go_wp2_with fail
      have q0 := Q4.out 0 (.int .i64 i) rfl
      have q1 := Q4.out 1 (.int .i64 ((k : Int) - i)) rfl
      have q2 := Q4.out 2 (.int .i64 kd) rfl
      have q3 := Q4.out 3 (.slice a' m c') rfl
      refine bodyPost_ret (v := .agg #[.int .i64 i, .int .i64 ((k : Int) - i), .int .i64 kd, .slice a' m c']) (by simp [results, Tryz.results150, go_sem, q0, q1, q2, q3]) rfl ?_
      refine ⟨a', c', ?_, ?_, four_below HBz.out (Nat.le_refl _) _ _ _ _⟩
      · rw [fdV_eq (i := (i : Int)) (j := (k : Int) - i) (k := kd) (by rw [K1.out]) (by rw [K2.out]) (by rw [K3.out, HKD.out]), K4.out, HM.out]
      · rw [K4.out, HM.out]
        exact own_mono (four_own H4z.out HO.out (by decide) _ _ _ _) (by omega)

end Go.Proofs.YtkgakgceamafcaaGreat
