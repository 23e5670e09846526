/-
  A feed's calls where there is none, at this seat's numbers.
-/
import Derived.Test.YtdkgnmomkimpoaaLfA
import Derived.Test.YtdkgnmomkimpoaaChA
namespace Go.Proofs.Ytdkgnmomkimpoaa
open Go Go.RowKit
set_option linter.unusedVariables false

abbrev pbox (b : Nat) : Value := .pointer (some ⟨b, 0, none⟩)

theorem eq_chn (w : World) : (binOp .eql 65 (.chan none) (.chan none)).run Try.prog w = .ok (.bool true) w := by kernel_rfl
theorem eq_chs (c : Nat) (w : World) : (binOp .eql 65 (.chan (some c)) (.chan none)).run Try.prog w = .ok (.bool false) w := by kernel_rfl
theorem has_nil (w : World) : Calls Try.prog 35 #[.pointer none] w fun e w' => e = .returned (pbox w.heap.size) ∧ w' = w.alloc (.cells #[.chan none, .slice none 0 0, .int .i64 0] 68) := by
  go_enter Try.func35, Try.ntmps35
  go_wp2_with fail
  go_ret
  exact ⟨rfl, rfl⟩

theorem type_nil (x : Int) (w : World) : Calls Try.prog 17 #[.pointer none, .int .i64 x] w fun e w' => e = .returned (.bool false) ∧ Below w.heap.size w w' := by
  have HH := Lib.hid (has_nil w)
  have hb := Lib.hid (t_al w (.cells #[.chan none, .slice none 0 0, .int .i64 0] 68))
  go_enter Try.func17, Try.ntmps17
  rw [halt_at 3]
  go_wp2_with fail
  refine HH.out.mono ?_; rintro e w1 ⟨rfl, rfl⟩
  go_wp2_with fail
  refine wp_halt (wp_region_cut 3 0 (Nat.zero_le _) (wpList_nil ?_))
  refine comm_at (cases := #[Conc.scaseNil (.int .i64 x) (.int .i64 0)]) (blocking := false) (shape := .select) rfl rfl ?_ (fun fr cs es h => Conc.step_lone_select_send_nil h) ?_
  · simp [go_sem, execOp, Conc.scaseNil, Act.eval]
  go_wp2_with fail
  go_ret
  exact ⟨rfl, hb.out⟩

set_option maxRecDepth 100000 in
theorem push_nil (w : World) (v : Value) : Calls Try.prog 19 #[.pointer none, v] w fun e w' => e = .returned (.int .i64 2) ∧ Below w.heap.size w w' := by
  have heq := eq_chn
  have HH := Lib.hid (has_nil w)
  have hb := Lib.hid (t_al w (.cells #[.chan none, .slice none 0 0, .int .i64 0] 68))
  go_enter Try.func19, Try.ntmps19
  go_wp2_with fail
  refine HH.out.mono ?_; rintro e w1 ⟨rfl, rfl⟩
  go_wp2_with fail
  go_ret
  exact ⟨rfl, hb.out⟩

set_option maxRecDepth 100000 in
theorem next_nil (w : World) : Calls Try.prog 18 #[.pointer none] w fun e w' => e = .returned (.tuple #[.int .i64 0, .bool false, .int .i64 2]) ∧ Below w.heap.size w w' := by
  have heq := eq_chn
  have HH := Lib.hid (has_nil w)
  have hb := Lib.hid (t_al w (.cells #[.chan none, .slice none 0 0, .int .i64 0] 68))
  go_enter Try.func18, Try.ntmps18
  rw [halt_at 7]
  go_wp2_with fail
  refine HH.out.mono ?_; rintro e w1 ⟨rfl, rfl⟩
  go_wp2_with fail
  go_ret3
  exact ⟨rfl, hb.out⟩

set_option maxRecDepth 100000 in
theorem waits_nil (w : World) : Calls Try.prog 13 #[.pointer none] w fun e w' => e = .returned (.int .i64 0) ∧ Below w.heap.size w w' := by
  have hl : ∀ w' : World, (Builtin.len_ #[65] 3 #[.chan none]).run Try.prog w' = .ok (.int .i64 0) w' := fun w' => by kernel_rfl
  have HH := Lib.hid (has_nil w)
  have hb := Lib.hid (t_al w (.cells #[.chan none, .slice none 0 0, .int .i64 0] 68))
  go_enter Try.func13, Try.ntmps13
  go_wp2_with fail
  refine HH.out.mono ?_; rintro e w1 ⟨rfl, rfl⟩
  go_wp2_with fail
  go_ret
  exact ⟨rfl, hb.out⟩

theorem packs_nil (w : World) : Calls Try.prog 14 #[.pointer none] w fun e w' => e = .returned (.int .i64 0) ∧ Below w.heap.size w w' := by
  have HH := Lib.hid (has_nil w)
  have hb := Lib.hid (t_al w (.cells #[.chan none, .slice none 0 0, .int .i64 0] 68))
  go_enter Try.func14, Try.ntmps14
  go_wp2_with fail
  refine HH.out.mono ?_; rintro e w1 ⟨rfl, rfl⟩
  go_wp2_with fail
  go_ret
  exact ⟨rfl, hb.out⟩

theorem fuel_nil (w : World) : Calls Try.prog 15 #[.pointer none] w fun e w' => e = .returned (.int .i64 0) ∧ Below w.heap.size w w' := by
  have HH := Lib.hid (has_nil w)
  have hb := Lib.hid (t_al w (.cells #[.chan none, .slice none 0 0, .int .i64 0] 68))
  go_enter Try.func15, Try.ntmps15
  go_wp2_with fail
  refine HH.out.mono ?_; rintro e w1 ⟨rfl, rfl⟩
  go_wp2_with fail
  go_ret
  exact ⟨rfl, hb.out⟩

set_option maxRecDepth 100000 in
theorem drop_nil (w : World) : Calls Try.prog 22 #[.pointer none] w fun e w' => e = .returned (.int .i64 0) ∧ Below w.heap.size w w' := by
  have HH := Lib.hid (has_nil w)
  have hb := Lib.hid (t_al w (.cells #[.chan none, .slice none 0 0, .int .i64 0] 68))
  go_enter Try.func22, Try.ntmps22
  go_wp2_with fail
  refine HH.out.mono ?_; rintro e w1 ⟨rfl, rfl⟩
  go_wp2_with fail
  refine wp_loop_rounds 1 ?_
  rw [rounds_succ]
  go_wp2_with fail
  go_ret
  exact ⟨rfl, hb.out⟩
end Go.Proofs.Ytdkgnmomkimpoaa
