/-
  The walk of QuoteRight, at this seat's numbers.
-/
import Derived.Test.YtelnehjmkjpjhaaDoorQuX
import Derived.Test.YtelnehjmkjpjhaaDoorQuS
import Derived.Test.YtelnehjmkjpjhaaDoorArI
import Derived.Deep.RegionHeldLaw
import Derived.Deep.DeepCutAuto
namespace Go.Proofs.YtelnehjmkjpjhaaDoor
open Go Go.RowKit
set_option linter.unusedVariables false

theorem txL_60 {S : List ByteArray} : ∀ x ∈ txL S, x.length ≤ 60 := by
  intro x hx
  unfold txL at hx
  obtain ⟨s, _, rfl⟩ := List.mem_map.1 hx
  exact cutS_le s 60

set_option maxRecDepth 100000 in
set_option maxHeartbeats 4000000 in
theorem quoteRight_walk (s : ByteArray) (a : Option Addr) (c : Nat) (S : List ByteArray) (w : World) (hs : s.size ≤ maxLen) (hS : StrArg w a c S) (hm : MayT w) :
    Calls Tryd.prog 3 #[.string s, .slice a S.length c] w fun e w' => e = .returned (.bool true) ∧ Below w.heap.size w w' := by
  have HC := Lib.hid (fun w' => cut6_of s 600 w' hs (by decide))
  have hcl := cutS_le s 600
  have HM := Lib.hid hm
  have h0 := hm.1
  have HTX := Lib.hid (texts_of (c := c) hS.rd hS.size (Nat.le_trans hS.fits hS.cap))
  clear hs hm hS
  generalize cutS s 600 = t at *
  obtain ⟨l, hl⟩ : ∃ l, t.data.toList = l := ⟨_, rfl⟩
  have hsz := sz_of hl
  rw [hsz] at hcl
  have HL := Lib.hid hl
  have HRR := Lib.hid (fun w => rright_of hl (by omega) w)
  rw [show docR (allP l 0) = rightP l from (right_rows l).symm] at HRR
  clear hl
  go_enter Tryd.func3, Tryd.ntmps3
  go_wp2_with fail
  refine (HC.out _).mono ?_; rintro e wx ⟨rfl, rfl⟩
  go_wp2_with fail
  refine HTX.out.mono ?_; rintro e w1 ⟨M, a1, c1, a2, c2, rfl, hM, ho, hb1⟩
  have hml : M.length ≤ 12 := by have := txL_len S; rw [← hM, List.length_map] at this; exact this
  have HB1 := Lib.hid hb1
  have HO := Lib.hid ho
  have HM60 : Hid (∀ p ∈ M, p.1.length ≤ 60) := fun p hp => txL_60 (S := S) p.1 (by rw [← hM]; exact List.mem_map.2 ⟨p, hp, rfl⟩)
  clear hM ho hb1 HC HTX
  obtain ⟨cap, W1, hcv, hH, hb2⟩ := held_of t w1.drew (by rw [hsz]; unfold maxLen; omega)
  have hrd : Rd W1 1 (some ⟨w1.heap.size, 0, none⟩) l.length (bc l) := by have := rd_held hH; rw [HL.out] at this; exact this
  have hbw : Below w1.heap.size w1 W1 := (Below.refl _ w1).drew.trans hb2
  have HBW := Lib.hid hbw
  have HB2 := Lib.hid (HB1.out.trans (hbw.mono HB1.out.size))
  have HQR := Lib.hid (qright_of (c := cap) hrd (by omega) (HM.out.below HB2.out h0))
  rw [hsz] at hcv
  clear hH hb2 hrd hbw
  generalize rightP l = nb at *
  have hnb : (nb == nb) = true := beq_self_eq_true nb
  have hb0 : Below w1.heap.size w1 w1.drew := (Below.refl _ _).drew
  have HRJ : Hid (∀ w', Below w1.heap.size w1 w' → Calls Tryd.prog 10 #[.slice a1 M.length c1] w' fun e w2 => e = .returned (.string (strOf (joinP (M.map (·.1))))) ∧ w' = w2) := by
    intro w' hb
    have h := rd_own (own_below HO.out.strs hb)
    rw [← List.length_map (f := fun p : TxM => p.1)] at h
    have := rjoin_of (c := c1) h (by rw [List.length_map]; exact hml) (by intro x hx; obtain ⟨p, hp, rfl⟩ := List.mem_map.1 hx; exact HM60.out p hp)
    rw [List.length_map] at this
    exact this
  have HQJ := Lib.hid (fun w' (hb : Below w1.heap.size w1 w') => qjoin_of (c := c2) (rd_own (own_below HO.out.rows hb)) (fun p hp => ((HO.out.ins p hp).below hb).rd) hml HM60.out)
  generalize joinP (M.map (·.1)) = jt at *
  have hbw := HBW.out
  go_upto_region 3 with fail
  go_region_held_law (fun w' => Below w1.heap.size w1 w')
    (first | assumption | exact Below.alloc (by assumption) (Below.size (by assumption)) _)
    ((first
      | (go_at_call 7; refine HQR.out.mono ?_; rintro e w2 ⟨rfl, rfl⟩)
      | (go_at_call 8; refine (HRR.out _).mono ?_; rintro e w3 ⟨rfl, hb3⟩; have hs3 := hbw.trans (hb3.mono hbw.size); clear hb3)
      | (go_at_call 9; refine (HQJ.out _ hs3).mono ?_; rintro e w4 ⟨aj, cj, rfl, hoj, hbj⟩; have hst := string_own hoj; have hs4 := hs3.trans (hbj.mono hs3.size); clear hoj hbj)
      | (go_at_call 10; refine (HRJ.out _ hs4).mono ?_; rintro e w5 ⟨rfl, rfl⟩)
      | (go_at_call 11; refine (awake6_of _ (HM.out.below (HB1.out.trans (hs4.mono HB1.out.size)) h0)).mono ?_; rintro e w6 ⟨rfl, hb6⟩; have hs6 := hs4.trans (hb6.mono hs4.size); clear hb6)))
  all_goals
    go_wp2_with fail
    go_ret
    exact ⟨rfl, HB1.out.trans (hs6.mono HB1.out.size)⟩

end Go.Proofs.YtelnehjmkjpjhaaDoor
