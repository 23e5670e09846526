/-
  Feed's example; FeedNil, at this seat's numbers.
-/
import Derived.Test.YtdkgnmomkimpoaaFeF
namespace Go.Proofs.Ytdkgnmomkimpoaa
open Go Go.RowKit
set_option linter.unusedVariables false

set_option maxRecDepth 100000 in
set_option maxHeartbeats 4000000 in
theorem awake23_of (w : World) : Calls Try.prog 16 #[] w fun e w' => e = .returned (.bool true) ∧ Below w.heap.size w w' := by
  have HN := Lib.hid (fnew 4 w)
  go_enter Try.func16, Try.ntmps16
  go_wp2_with fail
  refine HN.out.mono ?_; rintro e w1 ⟨f, rfl, F1, b1⟩
  have HT : Hid (Calls Try.prog 17 #[pbox f, .int .i64 1] w1 fun e w' => e = .returned (.bool true) ∧ FdS w' w.heap.size f 4 ⟨[1], [], 200⟩ ∧ FMv w.heap.size w1 w') := Lib.hid (ftype F1 1)
  clear F1
  go_wp2_with fail
  refine HT.out.mono ?_; rintro e w2 ⟨rfl, F2, m2⟩
  have b2 := b1.trans m2.low
  have hn := heap_alloc_new w2 (.cells #[.int .i64 7, .int .i64 8] 3)
  have F2' := F2.below (t_al w2 (.cells #[.int .i64 7, .int .i64 8] 3))
  have b2' := b2.trans ((t_al w2 (.cells #[.int .i64 7, .int .i64 8] 3)).mono b2.size)
  have SL : Sl (w2.alloc (.cells #[.int .i64 7, .int .i64 8] 3)) (some ⟨w2.heap.size, 0, none⟩) 2 (nums [7, 8]) := Sl.new (xs := nums [7, 8]) hn (by decide) (nums_one _)
  have HP : Hid (Calls Try.prog 19 #[pbox f, .slice (some ⟨w2.heap.size, 0, none⟩) 2 2] (w2.alloc (.cells #[.int .i64 7, .int .i64 8] 3)) fun e w' => e = .returned (.int .i64 0) ∧ FdS w' w.heap.size f 4 ⟨[1], [[7, 8]], 200⟩ ∧ FMv w.heap.size (w2.alloc (.cells #[.int .i64 7, .int .i64 8] 3)) w') := Lib.hid (fpush F2' SL.sq (by decide) b2'.size)
  have HB := Lib.hid b2'
  clear F2 F2' hn b1 b2 b2' m2 SL
  go_wp2_with fail
  refine HP.out.mono ?_; rintro e w3 ⟨rfl, F3, m3⟩
  have HX : Hid (Calls Try.prog 18 #[pbox f] w3 fun e w' => e = .returned (.tuple #[.int .i64 7, .bool true, .int .i64 0]) ∧ FdS w' w.heap.size f 4 ⟨[1], [[8]], 199⟩ ∧ FMv w.heap.size w3 w') := Lib.hid (fnext F3)
  have b3 := Lib.hid (HB.out.trans m3.low)
  clear F3 m3
  go_wp2_with fail
  refine HX.out.mono ?_; rintro e w4 ⟨rfl, F4, m4⟩
  have HX4 : Hid (Calls Try.prog 18 #[pbox f] w4 fun e w' => e = .returned (.tuple #[.int .i64 8, .bool true, .int .i64 0]) ∧ FdS w' w.heap.size f 4 ⟨[1], [], 198⟩ ∧ FMv w.heap.size w4 w') := Lib.hid (fnext F4)
  have b4 := Lib.hid (b3.out.trans m4.low)
  clear F4 m4
  go_wp2_with fail
  refine HX4.out.mono ?_; rintro e w5 ⟨rfl, F5, m5⟩
  have HX5 : Hid (Calls Try.prog 18 #[pbox f] w5 fun e w' => e = .returned (.tuple #[.int .i64 1, .bool false, .int .i64 0]) ∧ FdS w' w.heap.size f 4 ⟨[], [], 200⟩ ∧ FMv w.heap.size w5 w') := Lib.hid (fnext F5)
  have b5 := Lib.hid (b4.out.trans m5.low)
  clear F5 m5
  go_wp2_with fail
  refine HX5.out.mono ?_; rintro e w6 ⟨rfl, F6, m6⟩
  have HX6 := Lib.hid (ffuel F6)
  have b6 := Lib.hid (b5.out.trans m6.low)
  clear F6 m6
  go_wp2_with fail
  refine HX6.out.mono ?_; rintro e w7 ⟨rfl, rfl⟩
  go_wp2_with fail
  go_ret
  exact ⟨rfl, b6.out⟩

set_option maxRecDepth 100000 in
set_option maxHeartbeats 4000000 in
theorem feedNil_walk (x : Int) (v : Value) (w : World) : Calls Try.prog 6 #[.int .i64 x, v] w fun e w' => e = .returned (.bool true) ∧ Below w.heap.size w w' := by
  have HX := Lib.hid (fun w => next_nil w)
  have HT := Lib.hid (fun w => type_nil x w)
  have HP := Lib.hid (fun w => push_nil w v)
  have HW := Lib.hid (fun w => waits_nil w)
  have HK := Lib.hid (fun w => packs_nil w)
  have HU := Lib.hid (fun w => fuel_nil w)
  have HD := Lib.hid (fun w => drop_nil w)
  have HA := Lib.hid (fun w => awake23_of w)
  go_enter Try.func6, Try.ntmps6
  go_wp2_with fail
  refine (HX.out _).mono ?_; rintro e w1 ⟨rfl, b1⟩
  have b1 := Lib.hid b1
  go_wp2_with fail
  refine (HT.out _).mono ?_; rintro e w2 ⟨rfl, b2⟩
  have b2 := Lib.hid (b1.out.trans (b2.mono b1.out.size))
  go_wp2_with fail
  refine (HP.out _).mono ?_; rintro e w3 ⟨rfl, b3⟩
  have b3 := Lib.hid (b2.out.trans (b3.mono b2.out.size))
  go_wp2_with fail
  refine (HW.out _).mono ?_; rintro e w4 ⟨rfl, b4⟩
  have b4 := Lib.hid (b3.out.trans (b4.mono b3.out.size))
  go_wp2_with fail
  refine (HK.out _).mono ?_; rintro e w5 ⟨rfl, b5⟩
  have b5 := Lib.hid (b4.out.trans (b5.mono b4.out.size))
  go_wp2_with fail
  refine (HU.out _).mono ?_; rintro e w6 ⟨rfl, b6⟩
  have b6 := Lib.hid (b5.out.trans (b6.mono b5.out.size))
  go_wp2_with fail
  refine (HD.out _).mono ?_; rintro e w7 ⟨rfl, b7⟩
  have b7 := Lib.hid (b6.out.trans (b7.mono b6.out.size))
  go_wp2_with fail
  refine (HA.out _).mono ?_; rintro e w8 ⟨rfl, b8⟩
  have b8 := Lib.hid (b7.out.trans (b8.mono b7.out.size))
  go_wp2_with fail
  go_ret
  exact ⟨rfl, b8.out⟩
theorem feedNil_law (x : Int) (a : Option Addr) (c : Nat) (l : List Int) (w : World) (h1 : -9223372036854775808 ≤ x) (h2 : x ≤ 9223372036854775807) (h : Sl w a c (l.map (Value.int .i64)) ∧ ∀ y ∈ l, -9223372036854775808 ≤ y ∧ y ≤ 9223372036854775807) :
    Calls Try.prog 6 #[.int .i64 x, .slice a l.length c] w fun e w' => e = .returned (.bool true) ∧ Below w.heap.size w w' := feedNil_walk x _ w
end Go.Proofs.Ytdkgnmomkimpoaa
