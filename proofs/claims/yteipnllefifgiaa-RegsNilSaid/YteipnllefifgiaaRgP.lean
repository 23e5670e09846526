/-
  RegsNil's walk; at this seat's numbers.
-/
import Derived.Test.YteipnllefifgiaaRgO
import Derived.Deep.RegionHeld3
namespace Go.Proofs.Yteipnllefifgiaa
open Go Go.RowKit
set_option linter.unusedVariables false

set_option maxRecDepth 100000 in
set_option maxHeartbeats 8000000 in
theorem regsNil_walk (x k : Int) (a : Option Addr) (c : Nat) (T : List TxM) (w : World) (_ : -9223372036854775808 ≤ x) (_ : x ≤ 9223372036854775807) (H : TxIn w a T) :
    Calls Try.prog 6 #[.int .i64 x, rgV k a T.length c] w fun e w' => e = .returned (.bool true) ∧ Below w.heap.size w w' := by
  unfold rgV
  have HSN := Lib.hid (fun a n c w => set_nil x k a n c w)
  have HGN := Lib.hid (fun w => get_nil x w)
  have HDN := Lib.hid (fun w => drop_nil x w)
  have HNN := Lib.hid (fun w => names_nil w)
  have HZN := Lib.hid (fun w => gsize_nil w)
  have HAW := Lib.hid (fun w => awake28_of w)
  unfold rgV at HSN HGN
  obtain ⟨n, hn⟩ : ∃ n, T.length = n := ⟨_, rfl⟩
  have al := t_al w (.cells #[.int .i64 k, .slice a n c] 28)
  have hnw := heap_alloc_new w (.cells #[.int .i64 k, .slice a n c] 28)
  have HF : Hid (∀ w', Below (w.alloc (.cells #[.int .i64 k, .slice a n c] 28)).heap.size (w.alloc (.cells #[.int .i64 k, .slice a n c] 28)) w' → Calls Try.prog 11 #[.slice a n c] w' (FwPost (txL T) w')) := Lib.hid (fun w' hb => by
    rw [← hn]; exact few_of ((H.below (by rw [hn] at *; exact al)).below hb))
  unfold FwPost at HF
  rw [hn]
  have HAL := Lib.hid al
  have k0 : (w.alloc (.cells #[.int .i64 k, .slice a n c] 28)).cell? ⟨w.heap.size, 0, none⟩ = some (.int .i64 k) := by rw [cell_at hnw]; rfl
  have k1 : (w.alloc (.cells #[.int .i64 k, .slice a n c] 28)).cell? ⟨w.heap.size, 1, none⟩ = some (.slice a n c) := by rw [cell_at hnw]; rfl
  have hlt : w.heap.size < (w.alloc (.cells #[.int .i64 k, .slice a n c] 28)).heap.size := by simp
  clear al hnw hn H
  generalize hw1 : w.alloc (.cells #[.int .i64 k, .slice a n c] 28) = w1 at *
  have ld0 := fun w' (hb : Below w1.heap.size w1 w') => (hb.cell (p := ⟨w.heap.size, 0, none⟩) hlt).trans k0
  have ld1 := fun w' (hb : Below w1.heap.size w1 w') => (hb.cell (p := ⟨w.heap.size, 1, none⟩) hlt).trans k1
  have hb0 : Below w1.heap.size w1 w1.drew := (Below.refl _ w1).drew
  clear k0 k1 hlt
  go_enter Try.func6, Try.ntmps6
  go_upto_region 2 with fail
  try rw [hw1]
  clear hw1
  go_region_held3 (fun w' => Below w1.heap.size w1 w') (first | assumption)
    (first
      | (go_at_call 11; refine (HF.out _ (by assumption)).mono ?_; rintro e w2 ⟨a2, c2, T2, ht2, rfl, hm2, hb2'⟩; have hb2 : Below w1.heap.size w1 w2 := Below.trans (by assumption) (hb2'.mono (Below.size (by assumption))); clear hb2' ht2 hm2)
      | (go_at_call 12; refine (HSN.out _ _ _ _).mono ?_; rintro e w3 ⟨rfl, hb3'⟩; have hb3 : Below w1.heap.size w1 w3 := Below.trans (by assumption) (hb3'.mono (Below.size (by assumption))); clear hb3'))
  all_goals
    have HB3 : Hid (Below w.heap.size w w3) := Lib.hid (HAL.out.trans (Below.mono (by assumption : Below w1.heap.size w1 w3) HAL.out.size))
    clear ld0 ld1 hb0 hb2 hb3
    go_wp2_with fail
    refine (HGN.out _).mono ?_; rintro e w4 ⟨rfl, hb4⟩
    have HB4 := Lib.hid (HB3.out.trans (hb4.mono HB3.out.size))
    have HB5 : Hid (Below w.heap.size w (w4.alloc (.cells #[.int .i64 0, .slice none 0 0] 41))) := Lib.hid (HB4.out.alloc HB4.out.size _)
    have hn5 := heap_alloc_new w4 (.cells #[.int .i64 0, .slice none 0 0] 41)
    clear hb4
    go_wp2_with fail
    refine (HDN.out _).mono ?_; rintro e w5 ⟨rfl, rfl⟩
    go_wp2_with fail
    refine (HNN.out _).mono ?_; rintro e w5 ⟨rfl, rfl⟩
    go_wp2_with fail
    refine (HZN.out _).mono ?_; rintro e w5 ⟨rfl, rfl⟩
    go_wp2_with fail
    refine (HAW.out _).mono ?_; rintro e w6 ⟨rfl, hb6⟩
    have HB6 := Lib.hid (HB5.out.trans (hb6.mono HB5.out.size))
    clear hb6
    go_wp2_with fail
    go_ret
    exact ⟨rfl, HB6.out⟩

end Go.Proofs.Yteipnllefifgiaa
