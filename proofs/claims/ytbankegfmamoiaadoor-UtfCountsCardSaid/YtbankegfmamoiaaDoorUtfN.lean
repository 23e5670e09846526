/-
  The walks of the statements UtfTells and UtfCounts, at this seat's numbers.
-/
import Derived.Test.YtbankegfmamoiaaDoorUtfM
import Derived.Test.YtbankegfmamoiaaDoorUtfE
namespace Go.Proofs.YtbankegfmamoiaaDoor
open Go Go.RowKit
set_option linter.unusedVariables false

set_option maxRecDepth 100000 in
set_option maxHeartbeats 2000000 in
theorem utfTells_walk (a : ByteArray) (at_ : Int) (w : World) (ha : a.size ≤ maxLen) (g0 : -9223372036854775808 ≤ at_) (g1 : at_ ≤ 9223372036854775807) (ht : Tabs w) :
    Calls Tryd.prog 3 #[.string a, .int .i64 at_] w fun e w' => e = .returned (.bool true) ∧ Below w.heap.size w w' := by
  have HC := Lib.hid fun w => cut1_of a 200 w ha (by decide)
  have l1 := cutS1_le a 200
  generalize cutS1 a 200 = s at *
  clear ha
  obtain ⟨cap, W, r1, h1, b1⟩ := held_of s w (by unfold maxLen; omega)
  have h8 : At8 W w.heap.size cap s := ⟨h1, ht.below b1⟩
  have hT : Tabs W := ht.below b1
  have BW := Lib.hid b1
  have C0 := Lib.hid (at_of s at_ W (by unfold maxLen; omega) g0 g1)
  have C1 := Lib.hid (size_at h8 at_)
  have C2 := Lib.hid (rune_at h8 at_)
  have C3 := Lib.hid (bound_at h8 at_ g0 g1)
  have C4 := Lib.hid (next_at h8 at_ g0 g1)
  have C5 := Lib.hid (prev_at h8 at_ g0 g1)
  have C6 := Lib.hid (awake1_chain hT)
  have D3 := Lib.hid fun w => rbound_of s at_ w (by omega)
  have D4 := Lib.hid fun w => rnext_of s at_ w (by omega)
  have D5 := Lib.hid fun w => rprev_of s at_ w (by omega)
  clear h8 b1 h1 ht hT g0 g1 l1
  go_enter Tryd.func3, Tryd.ntmps3
  go_wp2_with fail
  refine (HC.out _).mono ?_; rintro e w1 ⟨rfl, rfl⟩
  go_wp2_with fail
  clear r1
  refine C0.out.mono ?_; rintro e w1 ⟨rfl, hb⟩; have B1 := Lib.hid hb; clear hb
  go_wp2_with fail
  refine (C1.out _ B1.out).mono ?_; rintro e w2 ⟨rfl, hb⟩; have B2 := Lib.hid hb; clear hb B1
  go_wp2_with fail
  refine (C2.out _ B2.out).mono ?_; rintro e w3 ⟨rfl, hb⟩; have B3 := Lib.hid hb; clear hb B2
  go_wp2_with fail
  refine (C3.out _ B3.out).mono ?_; rintro e w4 ⟨rfl, hb⟩; have B4 := Lib.hid hb; clear hb B3
  go_wp2_with fail
  refine (D3.out _).mono ?_; rintro e w5 ⟨rfl, hb⟩; have B5 := Lib.hid (B4.out.trans (hb.mono B4.out.size)); clear hb B4
  go_wp2_with fail
  refine (C4.out _ B5.out).mono ?_; rintro e w6 ⟨rfl, hb⟩; have B6 := Lib.hid hb; clear hb B5
  go_wp2_with fail
  refine (D4.out _).mono ?_; rintro e w7 ⟨rfl, hb⟩; have B7 := Lib.hid (B6.out.trans (hb.mono B6.out.size)); clear hb B6
  go_wp2_with fail
  refine (C5.out _ B7.out).mono ?_; rintro e w8 ⟨rfl, hb⟩; have B8 := Lib.hid hb; clear hb B7
  go_wp2_with fail
  refine (D5.out _).mono ?_; rintro e w9 ⟨rfl, hb⟩; have B9 := Lib.hid (B8.out.trans (hb.mono B8.out.size)); clear hb B8
  go_wp2_with fail
  refine (C6.out _ B9.out).mono ?_; rintro e w10 ⟨rfl, hb⟩
  go_wp2_with fail
  go_ret
  exact ⟨rfl, BW.out.trans (hb.mono BW.out.size)⟩

set_option maxRecDepth 100000 in
set_option maxHeartbeats 2000000 in
theorem utfCounts_walk (a : ByteArray) (n : Int) (w : World) (ha : a.size ≤ maxLen) (g0 : -9223372036854775808 ≤ n) (g1 : n ≤ 9223372036854775807) (ht : Tabs w) :
    Calls Tryd.prog 4 #[.string a, .int .i64 n] w fun e w' => e = .returned (.bool true) ∧ Below w.heap.size w w' := by
  have HC := Lib.hid fun w => cut1_of a 300 w ha (by decide)
  have l1 := cutS1_le a 300
  generalize cutS1 a 300 = s at *
  clear ha
  obtain ⟨cap, W, r1, h1, b1⟩ := held_of s w (by unfold maxLen; omega)
  have hT : Tabs W := ht.below b1
  have BW := Lib.hid b1
  have C1 := Lib.hid (count_at (⟨h1, ht.below b1⟩ : At8 W w.heap.size cap s) (by omega) W (Below.refl _ _))
  have HT := Lib.hid hT
  have D1 := Lib.hid fun w => rcount_of s w (by omega)
  have D2 := Lib.hid fun w => rfirst_of s n w (by omega)
  have hss : s.size ≤ maxLen := by unfold maxLen; omega
  have HS := Lib.hid hss
  have G := Lib.hid (And.intro g0 g1)
  clear b1 h1 ht hT hss g0 g1
  go_enter Tryd.func4, Tryd.ntmps4
  go_wp2_with fail
  refine (HC.out _).mono ?_; rintro e w1 ⟨rfl, rfl⟩
  go_wp2_with fail
  clear r1
  refine C1.out.mono ?_; rintro e w1 ⟨rfl, hb⟩; have B1 := Lib.hid hb; clear hb
  go_wp2_with fail
  refine (D1.out _).mono ?_; rintro e w2 ⟨rfl, hb⟩; have B2 := Lib.hid (B1.out.trans (hb.mono B1.out.size)); clear hb B1
  obtain ⟨cap2, W2, r2, h2, b2⟩ := held_of s w2 HS.out
  have C2 := Lib.hid (first_at (⟨h2, (HT.out.below B2.out).below b2⟩ : At8 W2 w2.heap.size cap2 s) n G.out.1 G.out.2 W2 (Below.refl _ _))
  have B3 := Lib.hid (B2.out.trans (b2.mono B2.out.size))
  clear h2 b2
  go_wp2_with fail
  clear r2
  refine C2.out.mono ?_; rintro e w4 ⟨rfl, hb⟩; have B4 := Lib.hid (B3.out.trans (hb.mono B3.out.size)); clear hb
  go_wp2_with fail
  refine (D2.out _).mono ?_; rintro e w5 ⟨rfl, hb⟩; have B5 := Lib.hid (B4.out.trans (hb.mono B4.out.size)); clear hb
  go_wp2_with fail
  refine (awake1_of _ (HT.out.below B5.out)).mono ?_; rintro e w6 ⟨rfl, hb⟩
  go_wp2_with fail
  go_ret
  exact ⟨rfl, BW.out.trans ((B5.out.trans (hb.mono B5.out.size)).mono BW.out.size)⟩

end Go.Proofs.YtbankegfmamoiaaDoor
