/-
  GrammarMoves, at this seat's numbers.
-/
import Derived.Test.YtdkgnmomkimpoaaGrH
import Derived.Lib.OthersKept
namespace Go.Proofs.Ytdkgnmomkimpoaa
open Go Go.RowKit
set_option linter.unusedVariables false

/-- What is wanted of the first i characters. -/
def wantB (m : Int) (i : Nat) : Bool := decide (m = 26471) || ((s_mot.data.toList.take i).any fun b => decide ((b.toNat : Int) = m))
theorem wantB_succ (m : Int) {i : Nat} {b : UInt8} (h : s_mot.data.toList[i]? = some b) : wantB m (i + 1) = (wantB m i || decide ((b.toNat : Int) = m)) := by
  unfold wantB
  rw [List.take_add_one, h, List.any_append, Bool.or_assoc]
  simp
theorem wantB_end (m : Int) : wantB m 15 = (inS s_mot m || decide (m = 26471)) := by
  unfold wantB inS
  have e : s_mot.data.toList.take 15 = s_mot.data.toList := by rfl
  rw [e, Bool.or_comm]

set_option maxRecDepth 100000 in
set_option maxHeartbeats 8000000 in
theorem grammarMoves_walk (m k : Int) (w : World) : Calls Try.prog 9 #[.int .i64 m, .int .i64 k] w fun e w' => e = .returned (.bool true) ∧ Below w.heap.size w w' := by
  have HR := Lib.hid (reset_nil w)
  have HK := Lib.hid (key_nil k 0 false w)
  have HM := Lib.hid (fun w => gmoves_of m w)
  have HP := Lib.hid (fun w => pending_nil w)
  have HA := Lib.hid (fun w => awake24_of w)
  go_enter Try.func9, Try.ntmps9
  go_wp2_with fail
  refine HR.out.mono ?_; rintro e _ ⟨rfl, rfl⟩
  go_wp2_with fail
  refine HK.out.mono ?_; rintro e w1 ⟨rfl, b1⟩
  have HB1 := Lib.hid b1
  clear b1
  have z1 : (w1.alloc z5O).heap.size = w1.heap.size + 1 := by simp
  have hb0 : Below w.heap.size w ((w1.alloc z5O).iter s_mot 0) := by
    have := HB1.out.alloc HB1.out.size z5O
    exact this.alloc (by rw [z1]; have := HB1.out.size; omega) _
  have HI0 : Hid (((w1.alloc z5O).iter s_mot 0).heap[w1.heap.size + 1]? = some (.stringIter s_mot 0)) := by
    show _ = _
    rw [← z1]; exact World.iter_heap _ s_mot 0
  have HC0 : Hid (((w1.alloc z5O).iter s_mot 0).heap[w1.heap.size]? = some (cmO c0M)) := by
    show _ = _
    exact heap_mid w1 z5O _
  have HB0 := Lib.hid hb0
  have HQ := Lib.hid HB1.out.size
  have hbeq : ∀ x : Int, (m == x) = decide (m = x) := fun x => by rw [Bool.eq_iff_iff]; simp
  clear z1 hb0
  unfold keyV c0M
  go_wp2_with fail
  generalize hq : w1.heap.size = q at *
  clear hbeq
  go_loopw [9] (fun v9 wr => ∃ i : Nat, i ≤ 15 ∧ v9 = .bool (wantB m i) ∧ wr.heap[q + 1]? = some (.stringIter s_mot i) ∧ wr.heap[q]? = some (cmO c0M) ∧ Below w.heap.size w wr) (fun _ wr => 15 - wr.iterPos (q + 1))
  case atStart => exact ⟨0, by omega, by unfold wantB; simp, HI0.out, HC0.out, HB0.out⟩
  case round =>
    obtain ⟨i, hi, rfl, hit, hc, hb⟩ := hrel
    have hqs := HQ.out
    by_cases hlt : i < 15
    · obtain ⟨b, hbb⟩ : ∃ b, s_mot.data.toList[i]? = some b := ⟨_, List.getElem?_eq_getElem (show i < s_mot.data.toList.length from hlt)⟩
      have hsz : i < s_mot.size := hlt
      have hb128 : b.toNat < 128 := by
        have : (s_mot.data.toList.all fun c => decide (c.toNat < 128)) = true := rfl
        simpa using List.all_eq_true.1 this b (List.mem_of_getElem? hbb)
      have hge : s_mot[i]'hsz = b := by
        have e : s_mot.data.toList[i]? = some (s_mot[i]'hsz) := List.getElem?_eq_getElem (show i < s_mot.data.toList.length from hlt)
        rw [e] at hbb; exact Option.some.inj hbb
      have hdec : Utf8.decode s_mot i = (b.toNat, 1) := by rw [decode_ascii s_mot i hsz (by rw [hge]; exact hb128), hge]
      have hnx : ∀ t, (Instr.next (.pointer (some ⟨q + 1, 0, none⟩)) true t).run Try.prog wr = .ok (.tuple #[.bool true, .int .i64 i, .int .i32 b.toNat]) (wr.iterAt (q + 1) s_mot (i + 1)) := fun t => by
        have := Lib.run_next_any_at (P := Try.prog) wr (q + 1) s_mot i t hit hsz
        rw [hdec] at this; exact this
      have hit2 := Lib.iterAt_heap wr (q + 1) s_mot i (i + 1) hit
      have hc2 := (Lib.iterAt_other wr (q + 1) q s_mot (i + 1) (by omega)).trans hc
      have hb2 := Lib.below_iterAt hb (show w.heap.size ≤ q + 1 by omega) s_mot (i + 1)
      have HM1 : 15 - (wr.iterAt (q + 1) s_mot (i + 1)).iterPos (q + 1) < 15 - wr.iterPos (q + 1) := by
        simp only [World.iterPos, hit2, hit]; omega
      have hws := wantB_succ m hbb
      generalize hw2 : wr.iterAt (q + 1) s_mot (i + 1) = w2 at *
      have HF := Lib.hid (And.intro hit2 (And.intro hc2 (And.intro hb2 HM1)))
      have HW := Lib.hid hws
      clear hit hit2 hc hc2 hb hb2 HM1 hw2 hws hdec hge hbb hsz
      generalize wantB m i = wb at *
      cases wb with
      | true =>
        go_wp2_with fail
        go_roundw
        case rel => exact ⟨i + 1, by omega, by rw [HW.out]; rfl, HF.out.1, HF.out.2.1, HF.out.2.2.1⟩
        case measure => exact HF.out.2.2.2
      | false =>
        have hwr : wrap64 (b.toNat : Int) = (b.toNat : Int) := by unfold wrap64; omega
        by_cases hm : (b.toNat : Int) = m
        · have d : (m == (b.toNat : Int)) = true := by rw [hm]; simp
          rw [decide_eq_true hm] at HW
          go_wp2_with fail
          go_roundw
          case rel => exact ⟨i + 1, by omega, by rw [HW.out]; rfl, HF.out.1, HF.out.2.1, HF.out.2.2.1⟩
          case measure => exact HF.out.2.2.2
        · have d : (m == (b.toNat : Int)) = false := beq_eq_false_iff_ne.2 (Ne.symm hm)
          rw [decide_eq_false hm] at HW
          go_wp2_with fail
          go_roundw
          case rel => exact ⟨i + 1, by omega, by rw [HW.out]; rfl, HF.out.1, HF.out.2.1, HF.out.2.2.1⟩
          case measure => exact HF.out.2.2.2
    · obtain rfl : i = 15 := by omega
      have hnx : ∀ t, (Instr.next (.pointer (some ⟨q + 1, 0, none⟩)) true t).run Try.prog wr = .ok (.tuple #[.bool false]) wr := fun t => Lib.run_next_end_at wr (q + 1) s_mot 15 t hit (by decide)
      rw [wantB_end]
      have HBr := Lib.hid hb
      have HC : Hid (∀ w2, Below wr.heap.size wr w2 → w2.heap[q]? = some (cmO c0M)) := fun w2 hbw => (hbw.block q (lt_of_heap hc)).trans hc
      have HM2 := Lib.hid (HM.out wr)
      generalize (inS s_mot m || decide (m = 26471)) = bb at *
      clear hit hc hb HM
      go_wp2_with fail
      refine HM2.out.mono ?_; rintro e w2 ⟨rfl, b2⟩
      obtain ⟨q0, q1, q2, q3, q4⟩ := rowCells (HC.out w2 b2)
      have HB2 := Lib.hid (HBr.out.trans (b2.mono HBr.out.size))
      unfold c0M at q0 q1 q2 q3 q4
      simp only at q0 q1 q2 q3 q4
      clear b2
      go_wp2_with fail
      refine (HP.out _).mono ?_; rintro e _ ⟨rfl, rfl⟩
      go_wp2_with fail
      refine (HA.out _).mono ?_; rintro e w4 ⟨rfl, b4⟩
      have HB4 := Lib.hid (HB2.out.trans (b4.mono HB2.out.size))
      clear b4
      go_wp2_with fail
      go_ret
      exact ⟨rfl, HB4.out⟩
theorem grammarMoves_law (m k : Int) (w : World) (_ : -9223372036854775808 ≤ m) (_ : m ≤ 9223372036854775807) (_ : -9223372036854775808 ≤ k) (_ : k ≤ 9223372036854775807) : Calls Try.prog 9 #[.int .i64 m, .int .i64 k] w fun e w' => e = .returned (.bool true) ∧ Below w.heap.size w w' := grammarMoves_walk m k w
end Go.Proofs.Ytdkgnmomkimpoaa
