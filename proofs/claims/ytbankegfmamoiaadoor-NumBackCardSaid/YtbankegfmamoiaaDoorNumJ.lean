/-
  The walks of the statements NumParses and NumCompares, at this seat's numbers.
-/
import Derived.Test.YtbankegfmamoiaaDoorNumI
import Derived.Test.YtbankegfmamoiaaDoorNumF
namespace Go.Proofs.YtbankegfmamoiaaDoor
open Go Go.RowKit
set_option linter.unusedVariables false

theorem parse_held {b cap : Nat} {s : ByteArray} {w : World} (h : Held w b cap s) :
    Calls Tryd.prog 33 #[.slice (some ⟨b, 0, none⟩) s.size cap] w fun e w' => e = .returned (.tuple #[.int .i64 (parse s).1, .bool (parse s).2]) ∧ Below w.heap.size w w' :=
  parse_below b 0 cap s w h.size h.fits h.cap h.bytes _ _ rfl

set_option maxHeartbeats 1000000 in
theorem numParses_walk (s : ByteArray) (n : Int) (w : World) (hs : s.size ≤ maxLen) (h0 : -9223372036854775808 ≤ n) (h1 : n ≤ 9223372036854775807) (ht : Tens w) :
    Calls Tryd.prog 8 #[.string s, .int .i64 n] w fun e w' => e = .returned (.bool true) ∧ Below w.heap.size w w' := by
  have HC1 := Lib.hid fun w => cut_of s 100 w hs (by decide)
  have l1 := cutS_le s 100
  generalize cutS s 100 = x at *
  clear hs
  have hx : x.size ≤ maxLen := by unfold maxLen; omega
  obtain ⟨cx, W1, r1, g1, b1⟩ := held_of x w hx
  have HP := Lib.hid (parse_held g1)
  have B1 := Lib.hid b1
  have HT := Lib.hid ht
  have hrp := fun w => rparse_of x w hx
  unfold RPPost at hrp
  rw [rp_parse] at hrp
  have HR := Lib.hid hrp
  have htx : ∀ w, Tens w → Calls Tryd.prog 35 #[.int .i64 n] w fun e w' => e = .returned (.string (strOf (Lib.itoa n))) ∧ Below w.heap.size w w' := fun w h => text_of n h0 h1 w h
  have hrt := fun w => rtext_of n w h0 h1
  generalize strOf (Lib.itoa n) = z at *
  have HTX := Lib.hid htx
  have HRT := Lib.hid hrt
  clear g1 b1 ht hrp htx hrt
  go_enter Tryd.func8, Tryd.ntmps8
  go_wp2_with fail
  refine (HC1.out _).mono ?_; rintro e w1 ⟨rfl, rfl⟩
  go_wp2_with fail
  refine HP.out.mono ?_; rintro e w2 ⟨rfl, hb⟩; have B2 := Lib.hid (B1.out.trans (hb.mono B1.out.size)); clear hb
  go_wp2_with fail
  refine (HR.out _).mono ?_; rintro e w3 ⟨rfl, rfl⟩
  go_wp2_with fail
  refine (HTX.out _ (HT.out.below B2.out HT.out.at)).mono ?_; rintro e w4 ⟨rfl, hb⟩; have B4 := Lib.hid (B2.out.trans (hb.mono B2.out.size)); clear hb
  go_wp2_with fail
  refine (HRT.out _).mono ?_; rintro e w5 ⟨rfl, hb⟩; have B5 := Lib.hid (B4.out.trans (hb.mono B4.out.size)); clear hb
  go_wp2_with fail
  refine (awake_of _ (HT.out.below B5.out HT.out.at)).mono ?_; rintro e w6 ⟨rfl, hb⟩
  go_wp2_with fail
  go_ret
  exact ⟨rfl, B5.out.trans (hb.mono B5.out.size)⟩

theorem least_held {b cap b' cap' : Nat} {s t : ByteArray} {w : World} (h : Held w b cap s) (h' : Held w b' cap' t) (u : ByteArray) (hu : (if compare s t > 0 then t else s) = u) (h1 : s.size ≤ 140737488355328) (h2 : t.size ≤ 140737488355328) :
    Calls Tryd.prog 40 #[.slice (some ⟨b, 0, none⟩) s.size cap, .slice (some ⟨b', 0, none⟩) t.size cap'] w fun e w' => ∃ g c, e = .returned (.slice (some ⟨g, 0, none⟩) u.size c) ∧ Bs w' g 0 u ∧ Below w.heap.size w w' := by
  refine (least_of b 0 cap b' 0 cap' s t w h1 h2 h.fits h.cap h'.fits h'.cap h.bytes h'.bytes).mono ?_
  rw [hu]
  rintro e w' ⟨v, rfl, ho, hn, hb⟩
  have ho' := ho
  rcases ho.2 with ⟨e, _⟩ | ⟨g, c, cur, rfl, _⟩
  · exact absurd e hn
  · refine ⟨g, c, rfl, fun j hj => ?_, hb⟩
    rw [Nat.zero_add, ho'.cellAt j (by omega), List.getElem?_map, List.getElem?_range hj]
    rfl

set_option maxHeartbeats 1000000 in
theorem numCompares_walk (a b : ByteArray) (w : World) (ha : a.size ≤ maxLen) (hb : b.size ≤ maxLen) (ht : Tens w) :
    Calls Tryd.prog 9 #[.string a, .string b] w fun e w' => e = .returned (.bool true) ∧ Below w.heap.size w w' := by
  have HC1 := Lib.hid fun w => cut_of a 100 w ha (by decide)
  have HC2 := Lib.hid fun w => cut_of b 100 w hb (by decide)
  have l1 := cutS_le a 100
  have l2 := cutS_le b 100
  generalize cutS a 100 = x at *
  generalize cutS b 100 = y at *
  clear ha hb
  have hx : x.size ≤ maxLen := by unfold maxLen; omega
  have hy : y.size ≤ maxLen := by unfold maxLen; omega
  obtain ⟨cx, W1, r1, g1, b1⟩ := held_of x w hx
  obtain ⟨cy, W2, r2, g2, b2⟩ := held_of y W1 hy
  have X2 := g1.below b2
  have HRC := Lib.hid (fun w => rcompare_of x y w hx hy)
  have HCM := Lib.hid (compare_held X2 g2)
  have B2 := Lib.hid (b1.trans (b2.mono b1.size))
  have HT := Lib.hid ht
  have hrange := compare_range x y
  obtain ⟨c, hc⟩ : ∃ c, compare x y = c := ⟨_, rfl⟩
  rw [hc] at HRC HCM hrange
  have HXX := Lib.hid hx
  have HYY := Lib.hid hy
  have HCC := Lib.hid hc
  clear g1 g2 b1 b2 ht X2 hx hy hc
  by_cases h : 0 < c
  · go_enter Tryd.func9, Tryd.ntmps9
    go_wp2_with fail
    refine (HC1.out _).mono ?_; rintro e w1 ⟨rfl, rfl⟩
    go_wp2_with fail
    refine (HC2.out _).mono ?_; rintro e w1 ⟨rfl, rfl⟩
    go_wp2_with fail
    refine (HRC.out _).mono ?_; rintro e w1 ⟨rfl, rfl⟩
    go_wp2_with fail
    refine HCM.out.mono ?_; rintro e w3 ⟨rfl, hb⟩; have B3 := Lib.hid (B2.out.trans (hb.mono B2.out.size)); clear hb
    obtain ⟨cx', W4, r4, g4, b4⟩ := held_of x w3 HXX.out
    obtain ⟨cy', W5, r5, g5, b5⟩ := held_of y W4 HYY.out
    have HLS := Lib.hid (least_held (g4.below b5) g5 y (by rw [HCC.out, if_pos h]) (by omega) (by omega))
    have B5 := Lib.hid (B3.out.trans ((b4.trans (b5.mono b4.size)).mono B3.out.size))
    clear g4 g5 b4 b5
    go_wp2_with fail
    refine HLS.out.mono ?_; rintro e w6 ⟨g, cg, rfl, hbs, hb⟩; have B6 := Lib.hid (B5.out.trans (hb.mono B5.out.size)); clear hb
    have hst := string_of y w6 g 0 cg hbs
    clear hbs
    go_wp2_with fail
    refine (awake_of _ (HT.out.below B6.out HT.out.at)).mono ?_; rintro e w7 ⟨rfl, hb⟩
    go_wp2_with fail
    go_ret
    exact ⟨rfl, B6.out.trans (hb.mono B6.out.size)⟩
  · go_enter Tryd.func9, Tryd.ntmps9
    go_wp2_with fail
    refine (HC1.out _).mono ?_; rintro e w1 ⟨rfl, rfl⟩
    go_wp2_with fail
    refine (HC2.out _).mono ?_; rintro e w1 ⟨rfl, rfl⟩
    go_wp2_with fail
    refine (HRC.out _).mono ?_; rintro e w1 ⟨rfl, rfl⟩
    go_wp2_with fail
    refine HCM.out.mono ?_; rintro e w3 ⟨rfl, hb⟩; have B3 := Lib.hid (B2.out.trans (hb.mono B2.out.size)); clear hb
    obtain ⟨cx', W4, r4, g4, b4⟩ := held_of x w3 HXX.out
    obtain ⟨cy', W5, r5, g5, b5⟩ := held_of y W4 HYY.out
    have HLS := Lib.hid (least_held (g4.below b5) g5 x (by rw [HCC.out, if_neg (by omega)]) (by omega) (by omega))
    have B5 := Lib.hid (B3.out.trans ((b4.trans (b5.mono b4.size)).mono B3.out.size))
    clear g4 g5 b4 b5
    go_wp2_with fail
    refine HLS.out.mono ?_; rintro e w6 ⟨g, cg, rfl, hbs, hb⟩; have B6 := Lib.hid (B5.out.trans (hb.mono B5.out.size)); clear hb
    have hst := string_of x w6 g 0 cg hbs
    clear hbs
    go_wp2_with fail
    refine (awake_of _ (HT.out.below B6.out HT.out.at)).mono ?_; rintro e w7 ⟨rfl, hb⟩
    go_wp2_with fail
    go_ret
    exact ⟨rfl, B6.out.trans (hb.mono B6.out.size)⟩

end Go.Proofs.YtbankegfmamoiaaDoor
