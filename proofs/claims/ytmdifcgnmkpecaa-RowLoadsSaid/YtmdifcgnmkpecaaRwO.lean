/-
  Texts of layer 8, put together (a claim holds few texts): RwE.
-/
import Derived.Test.YtmdifcgnmkpecaaRwM
import Derived.Deep.RegionHeldLaw
namespace Go.Proofs.Ytmdifcgnmkpecaa
open Go Go.RowKit
set_option linter.unusedVariables false

theorem ex8_keep : keepR [] [120] = (0, 1, 0) ∧ keepL [] [120] = [120] := by decide
theorem ex8_in : InL [120] (ex [((0 : Int), (1 : Int))]) := by
  intro x hx
  have : x = 0 := by simpa [ex, ex1] using hx
  subst this
  decide
theorem ex8_row (M : CelM) : setL (padL [] (max 1 1)) 2 M = [noneM, noneM, M] := rfl
theorem ex8_print (a : Option Addr) (n c : Nat) : jnP ([noneM, noneM, ⟨a, n, c, 0, 0, false, ex [((0 : Int), (1 : Int))]⟩].map (prP [120])) = [44, 44, 120] := by
  have h1 : prP [120] noneM = [] := by unfold prP noneM; decide
  have h2 : prP [120] ⟨a, n, c, 0, 0, false, ex [((0 : Int), (1 : Int))]⟩ = [120] := by show putP (atL [120] (ex [((0 : Int), (1 : Int))])) = [120]; decide
  simp only [List.map_cons, List.map_nil, h1, h2]
  rfl

set_option maxRecDepth 100000 in
set_option maxHeartbeats 4000000 in
theorem awake8_of (w : World) (hm : ML w) : Calls Try.prog 38 #[] w fun e w' => e = .returned (.bool true) ∧ Below w.heap.size w w' := by
  have hw0 : 0 < w.heap.size := hm.1
  have HM := Lib.hid hm
  have hcv := conv_at
  clear hm
  go_enter Try.func38, Try.ntmps38
  go_wp2_with fail
  refine (new_nil _).mono ?_; rintro e w1 ⟨p, rfl, hA, hb1⟩
  have al := below_al w1 (Obj.cells #[Value.int IntKind.u8 120] 5 (1, 2))
  have hfn := heap_alloc_new w1 (Obj.cells #[Value.int IntKind.u8 120] 5 (1, 2))
  have hrd : Rd (w1.alloc (Obj.cells #[Value.int IntKind.u8 120] 5 (1, 2))) 1 (some ⟨w1.heap.size, 0, none⟩) [(120 : UInt8)].length (bc [120]) := ⟨by simp [bc], fun _ => ⟨w1.heap.size, 0, rfl, lt_of_heap hfn, fun j u hj => by rw [Nat.zero_add, cell_at hfn]; simpa [bc] using hj⟩⟩
  have hz1 := hb1.size
  have hz2 : w1.heap.size < (w1.alloc (Obj.cells #[Value.int IntKind.u8 120] 5 (1, 2))).heap.size := by simp
  have HP := Lib.hid (cput_of (c := 1) (hA.below al) (by simp) (by omega) hw0 (HM.out.below (hb1.trans (al.mono hz1)) hw0) hrd (by simp))
  have HB2 := Lib.hid (hb1.trans (al.mono hz1))
  rw [show [(120 : UInt8)].length = 1 from rfl] at HP
  unfold CPutPost at HP
  rw [ex8_keep.1, ex8_keep.2] at HP
  clear hA hb1 al hfn hrd
  go_wp2_with fail

  refine HP.out.mono ?_; rintro e w3 ⟨hA3, hT3, hor⟩
  rcases hor with ⟨he, _⟩ | ⟨_, am, nm, cm, rfl, hx3⟩
  · exact absurd rfl he
  have hx3 : TxB (w1.alloc (Obj.cells #[Value.int IntKind.u8 120] 5 (1, 2))).heap.size w3 (.slice am nm cm) (ex [((0 : Int), (1 : Int))]) := hx3
  have al := below_al w3 (Obj.cells #[Value.slice am nm cm, Value.int .i64 0, Value.int .i64 0, Value.bool false] 50)
  have hfn := heap_alloc_new w3 (Obj.cells #[Value.slice am nm cm, Value.int .i64 0, Value.int .i64 0, Value.bool false] 50)
  have hz3 : w3.heap.size < (w3.alloc (Obj.cells #[Value.slice am nm cm, Value.int .i64 0, Value.int .i64 0, Value.bool false] 50)).heap.size := by simp
  have HB4 := Lib.hid ((HB2.out.trans (hT3.low.mono (Nat.le_refl _))).trans (al.mono (by have := hT3.size; omega)))
  have HA4 := Lib.hid (hA3.below al)
  have HC4 : Hid (CeIn (w3.alloc (Obj.cells #[Value.slice am nm cm, Value.int .i64 0, Value.int .i64 0, Value.bool false] 50)) 0 [120] ⟨am, nm, cm, 0, 0, false, ex [((0 : Int), (1 : Int))]⟩) := Lib.hid ⟨hx3.tx.below al, ex8_in⟩
  clear hA3 hT3 hx3 al HP
  go_upto_region 3 with fail
  generalize w3.alloc (Obj.cells #[Value.slice am nm cm, Value.int .i64 0, Value.int .i64 0, Value.bool false] 50) = w4 at *
  have k0 : w4.cell? ⟨w3.heap.size, 0, none⟩ = some (.slice am nm cm) := by rw [cell_at hfn]; rfl
  have k1 : w4.cell? ⟨w3.heap.size, 1, none⟩ = some (.int .i64 0) := by rw [cell_at hfn]; rfl
  have k2 : w4.cell? ⟨w3.heap.size, 2, none⟩ = some (.int .i64 0) := by rw [cell_at hfn]; rfl
  have k3 : w4.cell? ⟨w3.heap.size, 3, none⟩ = some (.bool false) := by rw [cell_at hfn]; rfl
  have ld0 := fun w' (h : Below w4.heap.size w4 w') => (h.cell (p := ⟨w3.heap.size, 0, none⟩) hz3).trans k0
  have ld1 := fun w' (h : Below w4.heap.size w4 w') => (h.cell (p := ⟨w3.heap.size, 1, none⟩) hz3).trans k1
  have ld2 := fun w' (h : Below w4.heap.size w4 w') => (h.cell (p := ⟨w3.heap.size, 2, none⟩) hz3).trans k2
  have ld3 := fun w' (h : Below w4.heap.size w4 w') => (h.cell (p := ⟨w3.heap.size, 3, none⟩) hz3).trans k3
  have hb0 : Below w4.heap.size w4 w4.drew := (Below.refl _ _).drew
  have hbB : Below w4.heap.size w4 (w4.alloc (Obj.cells #[Value.slice none 0 0, Value.int .i64 0, Value.bool false] 81)).drew := ((Below.refl _ w4).alloc (Nat.le_refl _) _).drew
  have HFr := Lib.hid (fun w' => rfresh_of (w := w') [120] 1 0 (by unfold I64; omega))
  rw [show (padL [] (max 1 1)).length = 1 from rfl] at HFr
  have HSt := Lib.hid (fun w' a c (hr : RoIn w' [120] a (padL [] (max 1 1))) (hM : CeIn w' 0 [120] ⟨am, nm, cm, 0, 0, false, ex [((0 : Int), (1 : Int))]⟩) => rset_of (c := c) (e := 0) (h := false) 2 (by omega) hr hM (by decide))
  rw [show (padL [] (max 1 1)).length = 1 from rfl] at HSt
  simp only [ex8_row] at HSt
  clear hfn k0 k1 k2 k3
  go_cut [5, 6] from 20 to 25 (fun s5 s6 wx => s6 = .int .i64 0 ∧ ∃ (b5 : Nat) (a5 : Option Addr) (c5 : Nat), s5 = .pointer (some ⟨b5, 0, none⟩) ∧ wx.heap[b5]? = some (.cells #[.slice a5 3 c5, .int .i64 0, .bool false] 81 (0, 0)) ∧ RoIn wx [120] a5 [noneM, noneM, ⟨am, nm, cm, 0, 0, false, ex [((0 : Int), (1 : Int))]⟩] ∧ Below w4.heap.size w4 wx)
  case first =>
    go_region_held_law (fun w' => Below w4.heap.size w4 w')
      (first | assumption | exact Below.alloc (by assumption) (Below.size (by assumption)) _ | exact set3_below (by assumption) (Nat.le_refl _) _ _ _ | exact set3_below (by assumption) (by assumption) _ _ _ | exact set3_below (Below.alloc (by assumption) (Below.size (by assumption)) _) (Below.size (by assumption)) _ _ _)
      ((first
        | (go_at_call 48; refine (HFr.out w4.drew).mono ?_; rintro e wF ⟨aF, cF, rfl, hroF, hbF⟩; have hsF := hb0.trans (hbF.mono (Nat.le_refl _)); have hcF := HC4.out.below hsF; have y5 := hsF.size; clear hbF)
        | (go_at_call 48; refine (HFr.out (w4.alloc (Obj.cells #[Value.slice none 0 0, Value.int .i64 0, Value.bool false] 81)).drew).mono ?_; rintro e wF ⟨aF, cF, rfl, hroF, hbF⟩; have hsF := hbB.trans (hbF.mono hbB.size); have hcF := HC4.out.below hsF; have hB5 := (hbF.block w4.heap.size (by show _ < (w4.alloc (Obj.cells #[Value.slice none 0 0, Value.int .i64 0, Value.bool false] 81)).heap.size; rw [World.size_alloc]; exact Nat.lt_succ_self _)).trans (heap_alloc_new w4 (Obj.cells #[Value.slice none 0 0, Value.int .i64 0, Value.bool false] 81)); clear hbF)
        | (go_at_call 71; have y := hB5; clear y; refine (HSt.out wF aF cF hroF hcF).mono ?_; rintro e wS ⟨aS, cS, rfl, hroS, hbS⟩; have hsS := hsF.trans (hbS.mono hsF.size); have hB6 := (hbS.block w4.heap.size (lt_of_heap hB5)).trans hB5; have zz := (fun i => unfrozen hB6 i); have r0 : wS.cell? ⟨w4.heap.size, 0, none⟩ = some (.slice none 0 0) := (by rw [cell_at hB6]; rfl); have r1 : wS.cell? ⟨w4.heap.size, 1, none⟩ = some (.int .i64 0) := (by rw [cell_at hB6]; rfl); have r2 : wS.cell? ⟨w4.heap.size, 2, none⟩ = some (.bool false) := (by rw [cell_at hB6]; rfl); have HB6 := Lib.hid hB6; have HRS := Lib.hid hroS; clear hbS hB6 hroS)
        | (go_at_call 71; refine (HSt.out wF aF cF hroF hcF).mono ?_; rintro e wS ⟨aS, cS, rfl, hroS, hbS⟩; have hsS := hsF.trans (hbS.mono hsF.size); have hh := heap_alloc_new wS (Obj.cells #[Value.slice none 0 0, Value.int .i64 0, Value.bool false] 81); have zz := (fun i => unfrozen hh i); have r0 : (wS.alloc (Obj.cells #[Value.slice none 0 0, Value.int .i64 0, Value.bool false] 81)).cell? ⟨wS.heap.size, 0, none⟩ = some (.slice none 0 0) := (by rw [cell_at hh]; rfl); have r1 : (wS.alloc (Obj.cells #[Value.slice none 0 0, Value.int .i64 0, Value.bool false] 81)).cell? ⟨wS.heap.size, 1, none⟩ = some (.int .i64 0) := (by rw [cell_at hh]; rfl); have r2 : (wS.alloc (Obj.cells #[Value.slice none 0 0, Value.int .i64 0, Value.bool false] 81)).cell? ⟨wS.heap.size, 2, none⟩ = some (.bool false) := (by rw [cell_at hh]; rfl); have HB6 := Lib.hid hh; have HRS := Lib.hid hroS; clear hbS hh hroS)
        | (go_at_call 71; refine (HSt.out (wF.alloc (Obj.cells #[Value.slice none 0 0, Value.int .i64 0, Value.bool false] 81)) aF cF (hroF.below (below_al wF (Obj.cells #[Value.slice none 0 0, Value.int .i64 0, Value.bool false] 81))) (hcF.below (below_al wF (Obj.cells #[Value.slice none 0 0, Value.int .i64 0, Value.bool false] 81)))).mono ?_; rintro e wS ⟨aS, cS, rfl, hroS, hbS⟩; have hsS := (hsF.alloc hsF.size (Obj.cells #[Value.slice none 0 0, Value.int .i64 0, Value.bool false] 81)).trans (hbS.mono (by rw [World.size_alloc]; omega)); have hB6 := (hbS.block wF.heap.size (by rw [World.size_alloc]; exact Nat.lt_succ_self _)).trans (heap_alloc_new wF (Obj.cells #[Value.slice none 0 0, Value.int .i64 0, Value.bool false] 81)); have zz := (fun i => unfrozen hB6 i); have r0 : wS.cell? ⟨wF.heap.size, 0, none⟩ = some (.slice none 0 0) := (by rw [cell_at hB6]; rfl); have r1 : wS.cell? ⟨wF.heap.size, 1, none⟩ = some (.int .i64 0) := (by rw [cell_at hB6]; rfl); have r2 : wS.cell? ⟨wF.heap.size, 2, none⟩ = some (.bool false) := (by rw [cell_at hB6]; rfl); have HB6 := Lib.hid hB6; have HRS := Lib.hid hroS; clear hbS hB6 hroS)))
    all_goals
      go_wp2_with fail
      go_meet
      first
      | exact ⟨rfl, _, aS, cS, rfl, heap_alloc_new _ _, HRS.out.below (below_al wS _), by assumption⟩
      | exact ⟨rfl, _, aS, cS, rfl, set3_at HB6.out _ _ _, HRS.out.set3 HB6.out (by decide) (by decide), by assumption⟩
  case rest =>
    obtain ⟨rfl, b5, a5, c5, rfl, hh5, hro5, hb5⟩ := hcut
    have HR5 := Lib.hid hro5
    have HA5 := Lib.hid (HA4.out.below hb5)
    have HH5 := Lib.hid hh5
    have HB5 := Lib.hid (HB4.out.trans (hb5.mono HB4.out.size))
    have HAt : Hid (Calls Try.prog 43 #[rowV a5 3 c5 0 false, .int .i64 1] wc fun e' w' => e' = .returned (.tuple #[.agg #[.slice none 0 0, .int .i64 0, .int .i64 0, .bool false], .bool true]) ∧ Below wc.heap.size wc w') := Lib.hid (rat_of (c := c5) (e := 0) (h := false) 1 (by simp) hro5 (by simp))
    have HPr : Hid (∀ w', Below wc.heap.size wc w' → Calls Try.prog 36 #[rowV a5 3 c5 0 false, .pointer (some ⟨p, 0, none⟩)] w' (BytesPost [44, 44, 120] w')) := Lib.hid (fun w' (hb : Below wc.heap.size wc w') => by
      have := rprint_of (c := c5) (e := 0) (h := false) (HA5.out.below hb) (by simp) (HR5.out.below hb) (by simp)
      rw [ex8_print] at this
      exact this)
    have k0 : wc.cell? ⟨b5, 0, none⟩ = some (.slice a5 3 c5) := by rw [cell_at hh5]; rfl
    have k1 : wc.cell? ⟨b5, 1, none⟩ = some (.int .i64 0) := by rw [cell_at hh5]; rfl
    have k2 : wc.cell? ⟨b5, 2, none⟩ = some (.bool false) := by rw [cell_at hh5]; rfl
    have hlt5 := lt_of_heap hh5
    clear hh5 hro5 hb5 HFr HSt ld0 ld1 ld2 ld3 hb0 hbB HA4 HC4 HB4
    go_wp2_with fail
    refine HAt.out.mono ?_; rintro e w6 ⟨rfl, hb6⟩
    have alc := below_al w6 (Obj.cells #[Value.slice none 0 0, Value.int .i64 0, Value.int .i64 0, Value.bool false] 50)
    have hf6 := heap_alloc_new w6 (Obj.cells #[Value.slice none 0 0, Value.int .i64 0, Value.int .i64 0, Value.bool false] 50)
    have hz6 : w6.heap.size < (w6.alloc (Obj.cells #[Value.slice none 0 0, Value.int .i64 0, Value.int .i64 0, Value.bool false] 50)).heap.size := by simp
    have hb7 := hb6.trans (alc.mono hb6.size)
    have HB7 := Lib.hid hb7
    have j0 := (hb7.cell (p := ⟨b5, 0, none⟩) hlt5).trans k0
    have j1 := (hb7.cell (p := ⟨b5, 1, none⟩) hlt5).trans k1
    have j2 := (hb7.cell (p := ⟨b5, 2, none⟩) hlt5).trans k2
    clear k0 k1 k2 hb6 alc hb7 HAt
    go_upto_region 5 with fail
    generalize w6.alloc (Obj.cells #[Value.slice none 0 0, Value.int .i64 0, Value.int .i64 0, Value.bool false] 50) = w7 at *
    have hlt7 : b5 < w7.heap.size := Nat.lt_of_lt_of_le hlt5 HB7.out.size
    have c0 : w7.cell? ⟨w6.heap.size, 0, none⟩ = some (.slice none 0 0) := by rw [cell_at hf6]; rfl
    have c1 : w7.cell? ⟨w6.heap.size, 1, none⟩ = some (.int .i64 0) := by rw [cell_at hf6]; rfl
    have c2 : w7.cell? ⟨w6.heap.size, 2, none⟩ = some (.int .i64 0) := by rw [cell_at hf6]; rfl
    have c3 : w7.cell? ⟨w6.heap.size, 3, none⟩ = some (.bool false) := by rw [cell_at hf6]; rfl
    clear hf6
    go_wp2_with fail
    refine (rlen_of a5 3 c5 0 false).mono ?_; rintro e w8 ⟨rfl, hb8⟩
    have d0 := (hb8.cell (p := ⟨w6.heap.size, 0, none⟩) hz6).trans c0
    have d1 := (hb8.cell (p := ⟨w6.heap.size, 1, none⟩) hz6).trans c1
    have d2 := (hb8.cell (p := ⟨w6.heap.size, 2, none⟩) hz6).trans c2
    have d3 := (hb8.cell (p := ⟨w6.heap.size, 3, none⟩) hz6).trans c3
    have i0 := (hb8.cell (p := ⟨b5, 0, none⟩) hlt7).trans j0
    have i1 := (hb8.cell (p := ⟨b5, 1, none⟩) hlt7).trans j1
    have i2 := (hb8.cell (p := ⟨b5, 2, none⟩) hlt7).trans j2
    have HB8 := Lib.hid (HB7.out.trans (hb8.mono HB7.out.size))
    have hlt8 : b5 < w8.heap.size := Nat.lt_of_lt_of_le hlt7 hb8.size
    have HE := Lib.hid (cempty_of (w := w8) (t := []) (a := none) (n := 0) (c := 0) 0 0 false (by have := (noneM_in w8 []).tx; exact this))
    clear hb8 c0 c1 c2 c3 j0 j1 j2
    go_wp2_with fail
    refine HE.out.mono ?_; rintro e w9 ⟨rfl, hb9⟩
    have j0 := (hb9.cell (p := ⟨b5, 0, none⟩) hlt8).trans i0
    have j1 := (hb9.cell (p := ⟨b5, 1, none⟩) hlt8).trans i1
    have j2 := (hb9.cell (p := ⟨b5, 2, none⟩) hlt8).trans i2
    have HB9 := Lib.hid (HB8.out.trans (hb9.mono HB8.out.size))
    clear hb9 d0 d1 d2 d3 i0 i1 i2 HE
    go_wp2_with fail
    refine (HPr.out _ HB9.out).mono ?_; rintro e wa ⟨aa, ca, rfl, hoa, hba⟩
    have hst : (convert 27 9 (.slice aa 3 ca)).run Try.prog wa = .ok (.string ⟨#[44, 44, 120]⟩) wa := string_own (l := [44, 44, 120]) hoa
    have HBa := Lib.hid (HB5.out.trans ((HB9.out.trans (hba.mono HB9.out.size)).mono HB5.out.size))
    clear hoa hba
    go_wp2_with fail
    go_ret
    exact ⟨rfl, HBa.out⟩

end Go.Proofs.Ytmdifcgnmkpecaa
