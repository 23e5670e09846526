/-
  The walk of QuotePuts, at this seat's numbers.
-/
import Derived.Test.YtphfhmabchfjjaaDoorQuD
import Derived.Test.YtphfhmabchfjjaaDoorQuG
import Derived.Test.YtphfhmabchfjjaaDoorQuH
import Derived.Test.YtphfhmabchfjjaaDoorScJ
namespace Go.Proofs.YtphfhmabchfjjaaDoor
open Go Go.RowKit
set_option linter.unusedVariables false

set_option maxRecDepth 100000 in
set_option maxHeartbeats 4000000 in
theorem quotePuts_walk (s : ByteArray) (w : World) (hs : s.size ≤ maxLen) (hm : MayT w) :
    Calls Tryd.prog 3 #[.string s] w fun e w' => e = .returned (.bool true) ∧ Below w.heap.size w w' := by
  have HC := Lib.hid (fun w' => cut6_of s 400 w' hs (by decide))
  have hcl := cutS_le s 400
  have HM := Lib.hid hm
  have h0 := hm.1
  clear hs hm
  generalize cutS s 400 = t at *
  obtain ⟨l, hl⟩ : ∃ l, t.data.toList = l := ⟨_, rfl⟩
  have hsz := sz_of hl
  rw [hsz] at hcl
  have HL := Lib.hid hl
  have HRN := Lib.hid (fun w => rneeds_of hl (by omega) w)
  have HRP := Lib.hid (fun w => rput_of hl (by omega) w)
  clear hl
  go_enter Tryd.func3, Tryd.ntmps3
  go_wp2_with fail
  refine (HC.out _).mono ?_; rintro e wx ⟨rfl, rfl⟩
  go_wp2_with fail
  refine (HRP.out _).mono ?_; rintro e wx ⟨rfl, rfl⟩
  obtain ⟨cap1, W1, hcv1, hH1, hb1⟩ := held_of t w (by rw [hsz]; unfold maxLen; omega)
  have hrd1 : Rd W1 1 (some ⟨w.heap.size, 0, none⟩) l.length (bc l) := by have := rd_held hH1; rw [HL.out] at this; exact this
  have HN1 := Lib.hid (qneeds_of (c := cap1) hrd1 (by omega))
  have HB1 := Lib.hid hb1
  rw [hsz] at hcv1
  clear hH1 hb1 hrd1 HC HRP
  go_wp2_with fail
  refine HN1.out.mono ?_; rintro e wx ⟨rfl, rfl⟩
  clear hcv1 HN1
  go_wp2_with fail
  refine (HRN.out _).mono ?_; rintro e wx ⟨rfl, rfl⟩
  clear HRN
  obtain ⟨cap2, W2, hcv2, hH2, hb2⟩ := held_of t W1 (by rw [hsz]; unfold maxLen; omega)
  have hrd2 : Rd W2 1 (some ⟨W1.heap.size, 0, none⟩) l.length (bc l) := by have := rd_held hH2; rw [HL.out] at this; exact this
  have HN2 := Lib.hid (qput_of (c := cap2) hrd2 (by omega))
  have HB2 := Lib.hid (HB1.out.trans (hb2.mono HB1.out.size))
  rw [hsz] at hcv2
  clear hH2 hb2 hrd2
  generalize needsP l = nb at *
  have hnb : (nb == nb) = true := beq_self_eq_true nb
  go_wp2_with fail
  refine HN2.out.mono ?_; rintro e wp ⟨ap, cp, rfl, hop, hbp⟩
  have HBP := Lib.hid (HB2.out.trans (hbp.mono HB2.out.size))
  have hst := string_own hop
  obtain ⟨cap3, W3, hcv3, hH3, hb3⟩ := held_of t wp (by rw [hsz]; unfold maxLen; omega)
  have hrd3 : Rd W3 1 (some ⟨wp.heap.size, 0, none⟩) l.length (bc l) := by have := rd_held hH3; rw [HL.out] at this; exact this
  have HN3 := Lib.hid (qwidth_of (c := cap3) hrd3 (by omega))
  have HB3 := Lib.hid (HBP.out.trans (hb3.mono HBP.out.size))
  have hps : (strOf (putP l)).size = (putP l).length := rfl
  rw [hsz] at hcv3
  clear hcv2 HN2 hop hbp hH3 hb3 hrd3
  generalize strOf (putP l) = A at *
  generalize (putP l).length = np at *
  go_wp2_with fail
  refine HN3.out.mono ?_; rintro e wq ⟨rfl, hbq⟩
  have HBQ := Lib.hid (HB3.out.trans (hbq.mono HB3.out.size))
  clear hcv3 HN3 hbq hst
  go_wp2_with fail
  refine (awake6_of _ (HM.out.below HBQ.out h0)).mono ?_; rintro e wz ⟨rfl, hbz⟩
  have HBZ := Lib.hid (HBQ.out.trans (hbz.mono HBQ.out.size))
  clear hbz
  go_wp2_with fail
  go_ret
  exact ⟨rfl, HBZ.out⟩

end Go.Proofs.YtphfhmabchfjjaaDoor
