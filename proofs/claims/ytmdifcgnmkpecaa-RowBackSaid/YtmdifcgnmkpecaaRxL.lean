/-
  Texts of layer 8, put together (a claim holds few texts): RwE, RwI, RwJ, RwK, RwL.
-/
import Derived.Test.YtmdifcgnmkpecaaRwM
import Derived.Deep.RegionHeldLaw
import Derived.Test.YtmdifcgnmkpecaaPcG
import Derived.Test.YtmdifcgnmkpecaaScT
namespace Go.Proofs.Ytmdifcgnmkpecaa
open Go Go.RowKit
set_option linter.unusedVariables false

theorem ex8_keep : keepR [] [120] = (0, 1, 0) ∧ keepL [] [120] = [120] := by decide
theorem ex8_in : InL [120] (ex [((0 : Int), (1 : Int))]) := by
  intro x hx
  have : x = 0 := by simpa [ex, ex1] using hx
  subst this
  decide
theorem ex8_row (M : CelM) : setL (padL [] (max 1 1)) 2 M = [noneM, noneM, M] := rfl
theorem ex8_print (a : Option Addr) (n c : Nat) : jnP ([noneM, noneM, ⟨a, n, c, 0, 0, false, ex [((0 : Int), (1 : Int))]⟩].map (prP [120])) = [44, 44, 120] := by
  have h1 : prP [120] noneM = [] := by unfold prP noneM; decide
  have h2 : prP [120] ⟨a, n, c, 0, 0, false, ex [((0 : Int), (1 : Int))]⟩ = [120] := by show putP (atL [120] (ex [((0 : Int), (1 : Int))])) = [120]; decide
  simp only [List.map_cons, List.map_nil, h1, h2]
  rfl

set_option maxRecDepth 100000 in
set_option maxHeartbeats 4000000 in
theorem awake8_of (w : World) (hm : ML w) : Calls Try.prog 38 #[] w fun e w' => e = .returned (.bool true) ∧ Below w.heap.size w w' := by
  have hw0 : 0 < w.heap.size := hm.1
  have HM := Lib.hid hm
  have hcv := conv_at
  clear hm
  go_enter Try.func38, Try.ntmps38
  go_wp2_with fail
  refine (new_nil _).mono ?_; rintro e w1 ⟨p, rfl, hA, hb1⟩
  have al := below_al w1 (Obj.cells #[Value.int IntKind.u8 120] 5 (1, 2))
  have hfn := heap_alloc_new w1 (Obj.cells #[Value.int IntKind.u8 120] 5 (1, 2))
  have hrd : Rd (w1.alloc (Obj.cells #[Value.int IntKind.u8 120] 5 (1, 2))) 1 (some ⟨w1.heap.size, 0, none⟩) [(120 : UInt8)].length (bc [120]) := ⟨by simp [bc], fun _ => ⟨w1.heap.size, 0, rfl, lt_of_heap hfn, fun j u hj => by rw [Nat.zero_add, cell_at hfn]; simpa [bc] using hj⟩⟩
  have hz1 := hb1.size
  have hz2 : w1.heap.size < (w1.alloc (Obj.cells #[Value.int IntKind.u8 120] 5 (1, 2))).heap.size := by simp
  have HP := Lib.hid (cput_of (c := 1) (hA.below al) (by simp) (by omega) hw0 (HM.out.below (hb1.trans (al.mono hz1)) hw0) hrd (by simp))
  have HB2 := Lib.hid (hb1.trans (al.mono hz1))
  rw [show [(120 : UInt8)].length = 1 from rfl] at HP
  unfold CPutPost at HP
  rw [ex8_keep.1, ex8_keep.2] at HP
  clear hA hb1 al hfn hrd
  go_wp2_with fail

  refine HP.out.mono ?_; rintro e w3 ⟨hA3, hT3, hor⟩
  rcases hor with ⟨he, _⟩ | ⟨_, am, nm, cm, rfl, hx3⟩
  · exact absurd rfl he
  have hx3 : TxB (w1.alloc (Obj.cells #[Value.int IntKind.u8 120] 5 (1, 2))).heap.size w3 (.slice am nm cm) (ex [((0 : Int), (1 : Int))]) := hx3
  have al := below_al w3 (Obj.cells #[Value.slice am nm cm, Value.int .i64 0, Value.int .i64 0, Value.bool false] 50)
  have hfn := heap_alloc_new w3 (Obj.cells #[Value.slice am nm cm, Value.int .i64 0, Value.int .i64 0, Value.bool false] 50)
  have hz3 : w3.heap.size < (w3.alloc (Obj.cells #[Value.slice am nm cm, Value.int .i64 0, Value.int .i64 0, Value.bool false] 50)).heap.size := by simp
  have HB4 := Lib.hid ((HB2.out.trans (hT3.low.mono (Nat.le_refl _))).trans (al.mono (by have := hT3.size; omega)))
  have HA4 := Lib.hid (hA3.below al)
  have HC4 : Hid (CeIn (w3.alloc (Obj.cells #[Value.slice am nm cm, Value.int .i64 0, Value.int .i64 0, Value.bool false] 50)) 0 [120] ⟨am, nm, cm, 0, 0, false, ex [((0 : Int), (1 : Int))]⟩) := Lib.hid ⟨hx3.tx.below al, ex8_in⟩
  clear hA3 hT3 hx3 al HP
  go_upto_region 3 with fail
  generalize w3.alloc (Obj.cells #[Value.slice am nm cm, Value.int .i64 0, Value.int .i64 0, Value.bool false] 50) = w4 at *
  have k0 : w4.cell? ⟨w3.heap.size, 0, none⟩ = some (.slice am nm cm) := by rw [cell_at hfn]; rfl
  have k1 : w4.cell? ⟨w3.heap.size, 1, none⟩ = some (.int .i64 0) := by rw [cell_at hfn]; rfl
  have k2 : w4.cell? ⟨w3.heap.size, 2, none⟩ = some (.int .i64 0) := by rw [cell_at hfn]; rfl
  have k3 : w4.cell? ⟨w3.heap.size, 3, none⟩ = some (.bool false) := by rw [cell_at hfn]; rfl
  have ld0 := fun w' (h : Below w4.heap.size w4 w') => (h.cell (p := ⟨w3.heap.size, 0, none⟩) hz3).trans k0
  have ld1 := fun w' (h : Below w4.heap.size w4 w') => (h.cell (p := ⟨w3.heap.size, 1, none⟩) hz3).trans k1
  have ld2 := fun w' (h : Below w4.heap.size w4 w') => (h.cell (p := ⟨w3.heap.size, 2, none⟩) hz3).trans k2
  have ld3 := fun w' (h : Below w4.heap.size w4 w') => (h.cell (p := ⟨w3.heap.size, 3, none⟩) hz3).trans k3
  have hb0 : Below w4.heap.size w4 w4.drew := (Below.refl _ _).drew
  have hbB : Below w4.heap.size w4 (w4.alloc (Obj.cells #[Value.slice none 0 0, Value.int .i64 0, Value.bool false] 81)).drew := ((Below.refl _ w4).alloc (Nat.le_refl _) _).drew
  have HFr := Lib.hid (fun w' => rfresh_of (w := w') [120] 1 0 (by unfold I64; omega))
  rw [show (padL [] (max 1 1)).length = 1 from rfl] at HFr
  have HSt := Lib.hid (fun w' a c (hr : RoIn w' [120] a (padL [] (max 1 1))) (hM : CeIn w' 0 [120] ⟨am, nm, cm, 0, 0, false, ex [((0 : Int), (1 : Int))]⟩) => rset_of (c := c) (e := 0) (h := false) 2 (by omega) hr hM (by decide))
  rw [show (padL [] (max 1 1)).length = 1 from rfl] at HSt
  simp only [ex8_row] at HSt
  clear hfn k0 k1 k2 k3
  go_cut [5, 6] from 20 to 25 (fun s5 s6 wx => s6 = .int .i64 0 ∧ ∃ (b5 : Nat) (a5 : Option Addr) (c5 : Nat), s5 = .pointer (some ⟨b5, 0, none⟩) ∧ wx.heap[b5]? = some (.cells #[.slice a5 3 c5, .int .i64 0, .bool false] 81 (0, 0)) ∧ RoIn wx [120] a5 [noneM, noneM, ⟨am, nm, cm, 0, 0, false, ex [((0 : Int), (1 : Int))]⟩] ∧ Below w4.heap.size w4 wx)
  case first =>
    go_region_held_law (fun w' => Below w4.heap.size w4 w')
      (first | assumption | exact Below.alloc (by assumption) (Below.size (by assumption)) _ | exact set3_below (by assumption) (Nat.le_refl _) _ _ _ | exact set3_below (by assumption) (by assumption) _ _ _ | exact set3_below (Below.alloc (by assumption) (Below.size (by assumption)) _) (Below.size (by assumption)) _ _ _)
      ((first
        | (go_at_call 48; refine (HFr.out w4.drew).mono ?_; rintro e wF ⟨aF, cF, rfl, hroF, hbF⟩; have hsF := hb0.trans (hbF.mono (Nat.le_refl _)); have hcF := HC4.out.below hsF; have y5 := hsF.size; clear hbF)
        | (go_at_call 48; refine (HFr.out (w4.alloc (Obj.cells #[Value.slice none 0 0, Value.int .i64 0, Value.bool false] 81)).drew).mono ?_; rintro e wF ⟨aF, cF, rfl, hroF, hbF⟩; have hsF := hbB.trans (hbF.mono hbB.size); have hcF := HC4.out.below hsF; have hB5 := (hbF.block w4.heap.size (by show _ < (w4.alloc (Obj.cells #[Value.slice none 0 0, Value.int .i64 0, Value.bool false] 81)).heap.size; rw [World.size_alloc]; exact Nat.lt_succ_self _)).trans (heap_alloc_new w4 (Obj.cells #[Value.slice none 0 0, Value.int .i64 0, Value.bool false] 81)); clear hbF)
        | (go_at_call 71; have y := hB5; clear y; refine (HSt.out wF aF cF hroF hcF).mono ?_; rintro e wS ⟨aS, cS, rfl, hroS, hbS⟩; have hsS := hsF.trans (hbS.mono hsF.size); have hB6 := (hbS.block w4.heap.size (lt_of_heap hB5)).trans hB5; have zz := (fun i => unfrozen hB6 i); have r0 : wS.cell? ⟨w4.heap.size, 0, none⟩ = some (.slice none 0 0) := (by rw [cell_at hB6]; rfl); have r1 : wS.cell? ⟨w4.heap.size, 1, none⟩ = some (.int .i64 0) := (by rw [cell_at hB6]; rfl); have r2 : wS.cell? ⟨w4.heap.size, 2, none⟩ = some (.bool false) := (by rw [cell_at hB6]; rfl); have HB6 := Lib.hid hB6; have HRS := Lib.hid hroS; clear hbS hB6 hroS)
        | (go_at_call 71; refine (HSt.out wF aF cF hroF hcF).mono ?_; rintro e wS ⟨aS, cS, rfl, hroS, hbS⟩; have hsS := hsF.trans (hbS.mono hsF.size); have hh := heap_alloc_new wS (Obj.cells #[Value.slice none 0 0, Value.int .i64 0, Value.bool false] 81); have zz := (fun i => unfrozen hh i); have r0 : (wS.alloc (Obj.cells #[Value.slice none 0 0, Value.int .i64 0, Value.bool false] 81)).cell? ⟨wS.heap.size, 0, none⟩ = some (.slice none 0 0) := (by rw [cell_at hh]; rfl); have r1 : (wS.alloc (Obj.cells #[Value.slice none 0 0, Value.int .i64 0, Value.bool false] 81)).cell? ⟨wS.heap.size, 1, none⟩ = some (.int .i64 0) := (by rw [cell_at hh]; rfl); have r2 : (wS.alloc (Obj.cells #[Value.slice none 0 0, Value.int .i64 0, Value.bool false] 81)).cell? ⟨wS.heap.size, 2, none⟩ = some (.bool false) := (by rw [cell_at hh]; rfl); have HB6 := Lib.hid hh; have HRS := Lib.hid hroS; clear hbS hh hroS)
        | (go_at_call 71; refine (HSt.out (wF.alloc (Obj.cells #[Value.slice none 0 0, Value.int .i64 0, Value.bool false] 81)) aF cF (hroF.below (below_al wF (Obj.cells #[Value.slice none 0 0, Value.int .i64 0, Value.bool false] 81))) (hcF.below (below_al wF (Obj.cells #[Value.slice none 0 0, Value.int .i64 0, Value.bool false] 81)))).mono ?_; rintro e wS ⟨aS, cS, rfl, hroS, hbS⟩; have hsS := (hsF.alloc hsF.size (Obj.cells #[Value.slice none 0 0, Value.int .i64 0, Value.bool false] 81)).trans (hbS.mono (by rw [World.size_alloc]; omega)); have hB6 := (hbS.block wF.heap.size (by rw [World.size_alloc]; exact Nat.lt_succ_self _)).trans (heap_alloc_new wF (Obj.cells #[Value.slice none 0 0, Value.int .i64 0, Value.bool false] 81)); have zz := (fun i => unfrozen hB6 i); have r0 : wS.cell? ⟨wF.heap.size, 0, none⟩ = some (.slice none 0 0) := (by rw [cell_at hB6]; rfl); have r1 : wS.cell? ⟨wF.heap.size, 1, none⟩ = some (.int .i64 0) := (by rw [cell_at hB6]; rfl); have r2 : wS.cell? ⟨wF.heap.size, 2, none⟩ = some (.bool false) := (by rw [cell_at hB6]; rfl); have HB6 := Lib.hid hB6; have HRS := Lib.hid hroS; clear hbS hB6 hroS)))
    all_goals
      go_wp2_with fail
      go_meet
      first
      | exact ⟨rfl, _, aS, cS, rfl, heap_alloc_new _ _, HRS.out.below (below_al wS _), by assumption⟩
      | exact ⟨rfl, _, aS, cS, rfl, set3_at HB6.out _ _ _, HRS.out.set3 HB6.out (by decide) (by decide), by assumption⟩
  case rest =>
    obtain ⟨rfl, b5, a5, c5, rfl, hh5, hro5, hb5⟩ := hcut
    have HR5 := Lib.hid hro5
    have HA5 := Lib.hid (HA4.out.below hb5)
    have HH5 := Lib.hid hh5
    have HB5 := Lib.hid (HB4.out.trans (hb5.mono HB4.out.size))
    have HAt : Hid (Calls Try.prog 43 #[rowV a5 3 c5 0 false, .int .i64 1] wc fun e' w' => e' = .returned (.tuple #[.agg #[.slice none 0 0, .int .i64 0, .int .i64 0, .bool false], .bool true]) ∧ Below wc.heap.size wc w') := Lib.hid (rat_of (c := c5) (e := 0) (h := false) 1 (by simp) hro5 (by simp))
    have HPr : Hid (∀ w', Below wc.heap.size wc w' → Calls Try.prog 36 #[rowV a5 3 c5 0 false, .pointer (some ⟨p, 0, none⟩)] w' (BytesPost [44, 44, 120] w')) := Lib.hid (fun w' (hb : Below wc.heap.size wc w') => by
      have := rprint_of (c := c5) (e := 0) (h := false) (HA5.out.below hb) (by simp) (HR5.out.below hb) (by simp)
      rw [ex8_print] at this
      exact this)
    have k0 : wc.cell? ⟨b5, 0, none⟩ = some (.slice a5 3 c5) := by rw [cell_at hh5]; rfl
    have k1 : wc.cell? ⟨b5, 1, none⟩ = some (.int .i64 0) := by rw [cell_at hh5]; rfl
    have k2 : wc.cell? ⟨b5, 2, none⟩ = some (.bool false) := by rw [cell_at hh5]; rfl
    have hlt5 := lt_of_heap hh5
    clear hh5 hro5 hb5 HFr HSt ld0 ld1 ld2 ld3 hb0 hbB HA4 HC4 HB4
    go_wp2_with fail
    refine HAt.out.mono ?_; rintro e w6 ⟨rfl, hb6⟩
    have alc := below_al w6 (Obj.cells #[Value.slice none 0 0, Value.int .i64 0, Value.int .i64 0, Value.bool false] 50)
    have hf6 := heap_alloc_new w6 (Obj.cells #[Value.slice none 0 0, Value.int .i64 0, Value.int .i64 0, Value.bool false] 50)
    have hz6 : w6.heap.size < (w6.alloc (Obj.cells #[Value.slice none 0 0, Value.int .i64 0, Value.int .i64 0, Value.bool false] 50)).heap.size := by simp
    have hb7 := hb6.trans (alc.mono hb6.size)
    have HB7 := Lib.hid hb7
    have j0 := (hb7.cell (p := ⟨b5, 0, none⟩) hlt5).trans k0
    have j1 := (hb7.cell (p := ⟨b5, 1, none⟩) hlt5).trans k1
    have j2 := (hb7.cell (p := ⟨b5, 2, none⟩) hlt5).trans k2
    clear k0 k1 k2 hb6 alc hb7 HAt
    go_upto_region 5 with fail
    generalize w6.alloc (Obj.cells #[Value.slice none 0 0, Value.int .i64 0, Value.int .i64 0, Value.bool false] 50) = w7 at *
    have hlt7 : b5 < w7.heap.size := Nat.lt_of_lt_of_le hlt5 HB7.out.size
    have c0 : w7.cell? ⟨w6.heap.size, 0, none⟩ = some (.slice none 0 0) := by rw [cell_at hf6]; rfl
    have c1 : w7.cell? ⟨w6.heap.size, 1, none⟩ = some (.int .i64 0) := by rw [cell_at hf6]; rfl
    have c2 : w7.cell? ⟨w6.heap.size, 2, none⟩ = some (.int .i64 0) := by rw [cell_at hf6]; rfl
    have c3 : w7.cell? ⟨w6.heap.size, 3, none⟩ = some (.bool false) := by rw [cell_at hf6]; rfl
    clear hf6
    go_wp2_with fail
    refine (rlen_of a5 3 c5 0 false).mono ?_; rintro e w8 ⟨rfl, hb8⟩
    have d0 := (hb8.cell (p := ⟨w6.heap.size, 0, none⟩) hz6).trans c0
    have d1 := (hb8.cell (p := ⟨w6.heap.size, 1, none⟩) hz6).trans c1
    have d2 := (hb8.cell (p := ⟨w6.heap.size, 2, none⟩) hz6).trans c2
    have d3 := (hb8.cell (p := ⟨w6.heap.size, 3, none⟩) hz6).trans c3
    have i0 := (hb8.cell (p := ⟨b5, 0, none⟩) hlt7).trans j0
    have i1 := (hb8.cell (p := ⟨b5, 1, none⟩) hlt7).trans j1
    have i2 := (hb8.cell (p := ⟨b5, 2, none⟩) hlt7).trans j2
    have HB8 := Lib.hid (HB7.out.trans (hb8.mono HB7.out.size))
    have hlt8 : b5 < w8.heap.size := Nat.lt_of_lt_of_le hlt7 hb8.size
    have HE := Lib.hid (cempty_of (w := w8) (t := []) (a := none) (n := 0) (c := 0) 0 0 false (by have := (noneM_in w8 []).tx; exact this))
    clear hb8 c0 c1 c2 c3 j0 j1 j2
    go_wp2_with fail
    refine HE.out.mono ?_; rintro e w9 ⟨rfl, hb9⟩
    have j0 := (hb9.cell (p := ⟨b5, 0, none⟩) hlt8).trans i0
    have j1 := (hb9.cell (p := ⟨b5, 1, none⟩) hlt8).trans i1
    have j2 := (hb9.cell (p := ⟨b5, 2, none⟩) hlt8).trans i2
    have HB9 := Lib.hid (HB8.out.trans (hb9.mono HB8.out.size))
    clear hb9 d0 d1 d2 d3 i0 i1 i2 HE
    go_wp2_with fail
    refine (HPr.out _ HB9.out).mono ?_; rintro e wa ⟨aa, ca, rfl, hoa, hba⟩
    have hst : (convert 27 9 (.slice aa 3 ca)).run Try.prog wa = .ok (.string ⟨#[44, 44, 120]⟩) wa := string_own (l := [44, 44, 120]) hoa
    have HBa := Lib.hid (HB5.out.trans ((HB9.out.trans (hba.mono HB9.out.size)).mono HB5.out.size))
    clear hoa hba
    go_wp2_with fail
    go_ret
    exact ⟨rfl, HBa.out⟩

/-- What is to be appended, in a block of its own. -/
def P9 (z : Nat) (f0 f1 : ByteArray) (v : Value) (w : World) : Prop := ∃ b : Nat, v = .slice (some ⟨b, 0, none⟩) 1 1 ∧ z ≤ b ∧ w.heap[b]? = some (.cells #[.string f0, .string f1, .bool true] 53 (0, 0))
theorem P9.below {z : Nat} {f0 f1 : ByteArray} {v : Value} {w w' : World} (h : P9 z f0 f1 v w) (hb : Below w.heap.size w w') : P9 z f0 f1 v w' := by
  obtain ⟨b, h1, h2, h3⟩ := h
  exact ⟨b, h1, h2, (hb.block b (lt_of_heap h3)).trans h3⟩
theorem P9.grown {z bz n c : Nat} {aa : Option Addr} {f0 f1 : ByteArray} {v : Value} {w w' : World} (h : P9 z f0 f1 v w) (hg : w.grownBy w' (Value.slice aa n c).ownBlock) (hk : ∀ k, (Value.slice aa n c).ownBlock = some k → k < bz) (hbz : bz < z) : P9 z f0 f1 v w' := by
  obtain ⟨b, h1, h2, h3⟩ := h
  exact ⟨b, h1, h2, (hg.block b (lt_of_heap h3) (fun ee => by have := hk b ee.symm; omega)).trans h3⟩
theorem P9.set {z gp : Nat} {f0 f1 : ByteArray} {v u : Value} {w : World} (h : P9 z f0 f1 v w) (hz : gp < z) : P9 z f0 f1 v (w.setCell ⟨gp, 0, none⟩ u) := by
  obtain ⟨b, h1, h2, h3⟩ := h
  exact ⟨b, h1, h2, (heap_set_other (by omega)).trans h3⟩
/-- The row behind it. -/
def O9 (gp n : Nat) (f0 f1 : ByteArray) (xs : List Value) (v : Value) (w : World) : Prop := ∃ a' c', v = .slice a' (n + 1) c' ∧ w.ownsRow (gp + 1) 53 3 (.slice a' (n + 1) c') (n + 1) (xs ++ [.string f0, .string f1, .bool true])
theorem O9.below {gp n : Nat} {f0 f1 : ByteArray} {xs : List Value} {v : Value} {w w' : World} (h : O9 gp n f0 f1 xs v w) (hb : Below w.heap.size w w') : O9 gp n f0 f1 xs v w' := by
  obtain ⟨a, c, h1, h2⟩ := h
  exact ⟨a, c, h1, own_below h2 hb⟩
theorem O9.set {gp n : Nat} {f0 f1 : ByteArray} {xs : List Value} {v u : Value} {w : World} (h : O9 gp n f0 f1 xs v w) : O9 gp n f0 f1 xs v (w.setCell ⟨gp, 0, none⟩ u) := by
  obtain ⟨a, c, h1, h2⟩ := h
  exact ⟨a, c, h1, own_set_var h2⟩
/-- At the end. -/
def Fin9 (gp n : Nat) (e : Int) (f0 f1 : ByteArray) (xs : List Value) (w : World) : Prop := ∃ a' c', w.heap[gp]? = some (.cells #[.slice a' (n + 1) c', .int .i64 e, .bool false] 86 (0, 0)) ∧ w.ownsRow (gp + 1) 53 3 (.slice a' (n + 1) c') (n + 1) (xs ++ [.string f0, .string f1, .bool true])
structure Inv9 (gp bz n c z f nq c7 : Nat) (aa a7 : Option Addr) (x2 x3 e : Int) (f0 f1 : ByteArray) (xs : List Value) (wF : World) (L : Array Bool) (w : World) : Prop where
  below : Below gp wF w
  size : z ≤ w.heap.size
  box : w.heap[bz]? = some (.cells #[.int .i64 f, .int .i64 x2, .int .i64 x3, .slice a7 nq c7] 46 (0, 0))
  var : L.getD 22 false = false → w.heap[gp]? = some (.cells #[.slice aa n c, .int .i64 e, .bool false] 86 (0, 0))
  owns : L.getD 20 false = false → w.ownsRow (gp + 1) 53 3 (.slice aa n c) n xs
  ord : L.getD 22 false = true → L.getD 1 false = true ∧ L.getD 20 false = true
  fin : L.getD 22 false = true → Fin9 gp n e f0 f1 xs w
  kept : ∀ k, k < z → k ≠ gp → (Value.slice aa n c).ownBlock ≠ some k → w.heap[k]? = wF.heap[k]?
section
variable {gp bz n c z f nq c7 : Nat} {aa a7 : Option Addr} {x2 x3 e : Int} {f0 f1 : ByteArray} {xs : List Value} {wF : World} {L : Array Bool} {w w' : World} {i : Nat}
theorem Inv9.keep (h : Inv9 gp bz n c z f nq c7 aa a7 x2 x3 e f0 f1 xs wF L w) (h1 : 22 ≠ i) (h2 : 20 ≠ i) : Inv9 gp bz n c z f nq c7 aa a7 x2 x3 e f0 f1 xs wF (L.setIfInBounds i true) w :=
  ⟨h.below, h.size, h.box, fun ee => h.var (by rwa [mark_other h1] at ee), fun ee => h.owns (by rwa [mark_other h2] at ee), fun ee => ⟨mark_keep (h.ord (by rwa [mark_other h1] at ee)).1, mark_keep (h.ord (by rwa [mark_other h1] at ee)).2⟩, fun ee => h.fin (by rwa [mark_other h1] at ee), h.kept⟩
theorem Inv9.under (h : Inv9 gp bz n c z f nq c7 aa a7 x2 x3 e f0 f1 xs wF L w) (hb : Below w.heap.size w w') (h1 : 22 ≠ i) (h2 : 20 ≠ i) (hgz : gp ≤ z) : Inv9 gp bz n c z f nq c7 aa a7 x2 x3 e f0 f1 xs wF (L.setIfInBounds i true) w' :=
  ⟨h.below.trans (hb.mono (by have := h.size; omega)), Nat.le_trans h.size hb.size, (hb.block bz (lt_of_heap h.box)).trans h.box, fun ee => (hb.block gp (lt_of_heap (h.var (by rwa [mark_other h1] at ee)))).trans (h.var (by rwa [mark_other h1] at ee)),
    fun ee => own_below (h.owns (by rwa [mark_other h2] at ee)) hb, fun ee => ⟨mark_keep (h.ord (by rwa [mark_other h1] at ee)).1, mark_keep (h.ord (by rwa [mark_other h1] at ee)).2⟩, fun ee => by
      obtain ⟨a, c, h3, h4⟩ := h.fin (by rwa [mark_other h1] at ee)
      exact ⟨a, c, (hb.block gp (lt_of_heap h3)).trans h3, own_below h4 hb⟩, fun k h1 h2 h3 => (hb.block k (by have := h.size; omega)).trans (h.kept k h1 h2 h3)⟩
theorem Inv9.early (h : Inv9 gp bz n c z f nq c7 aa a7 x2 x3 e f0 f1 xs wF L w) (h0 : L.getD 1 false = false) : L.getD 22 false = false := by
  cases ee : L.getD 22 false with
  | false => rfl
  | true => rw [(h.ord ee).1] at h0; cases h0
theorem Inv9.early2 (h : Inv9 gp bz n c z f nq c7 aa a7 x2 x3 e f0 f1 xs wF L w) (h0 : L.getD 20 false = false) : L.getD 22 false = false := by
  cases ee : L.getD 22 false with
  | false => rfl
  | true => rw [(h.ord ee).2] at h0; cases h0
theorem Inv9.load (h : Inv9 gp bz n c z f nq c7 aa a7 x2 x3 e f0 f1 xs wF L w) (h0 : L.getD 22 false = false) : w.cell? ⟨gp, 0, none⟩ = some (.slice aa n c) := by rw [cell_at (h.var h0)]; rfl
theorem Inv9.unfr (h : Inv9 gp bz n c z f nq c7 aa a7 x2 x3 e f0 f1 xs wF L w) (h0 : L.getD 22 false = false) : w.frozen? ⟨gp, 0, none⟩ = false := unfrozen (h.var h0) 0
theorem Inv9.box0 (h : Inv9 gp bz n c z f nq c7 aa a7 x2 x3 e f0 f1 xs wF L w) : w.cell? ⟨bz, 0, none⟩ = some (.int .i64 f) := by rw [cell_at h.box]; rfl
theorem Inv9.box1 (h : Inv9 gp bz n c z f nq c7 aa a7 x2 x3 e f0 f1 xs wF L w) : w.cell? ⟨bz, 1, none⟩ = some (.int .i64 x2) := by rw [cell_at h.box]; rfl
theorem Inv9.box2 (h : Inv9 gp bz n c z f nq c7 aa a7 x2 x3 e f0 f1 xs wF L w) : w.cell? ⟨bz, 2, none⟩ = some (.int .i64 x3) := by rw [cell_at h.box]; rfl
theorem Inv9.box3 (h : Inv9 gp bz n c z f nq c7 aa a7 x2 x3 e f0 f1 xs wF L w) : w.cell? ⟨bz, 3, none⟩ = some (.slice a7 nq c7) := by rw [cell_at h.box]; rfl
theorem Inv9.appended (h : Inv9 gp bz n c z f nq c7 aa a7 x2 x3 e f0 f1 xs wF L w) (hg : w.grownBy w' (Value.slice aa n c).ownBlock) (hk : ∀ k, (Value.slice aa n c).ownBlock = some k → k < bz) (hl : L.getD 20 false = false) (ho : w.ownsRow (gp + 1) 53 3 (.slice aa n c) n xs)
    (hlen : 20 < L.size) (h11 : L.getD 22 false = false) (hbz : bz < z) (hgb : gp < bz) : Inv9 gp bz n c z f nq c7 aa a7 x2 x3 e f0 f1 xs wF (L.setIfInBounds 20 true) w' := by
  have hlt := ho.lt
  refine ⟨h.below.grown hg (by have := h.size; omega) (fun k hk' => by have := hlt k hk'; omega), Nat.le_trans h.size hg.size, (hg.block bz (lt_of_heap h.box) (fun ee => by have := hk bz ee.symm; omega)).trans h.box,
    fun ee => (hg.block gp (lt_of_heap (h.var h11)) (fun e' => by have := hlt gp e'.symm; omega)).trans (h.var h11), fun ee => ?_, fun ee => ?_, fun ee => ?_, fun k h1 h2 h3 => (hg.block k (by have := h.size; omega) (fun ee => h3 ee.symm)).trans (h.kept k h1 h2 h3)⟩
  · rw [Array.getD_eq_getD_getElem?, Array.getElem?_setIfInBounds, if_pos rfl, if_pos hlen] at ee
    cases ee
  · rw [mark_other (by decide), h11] at ee; cases ee
  · rw [mark_other (by decide), h11] at ee; cases ee
theorem Inv9.stored (h : Inv9 gp bz n c z f nq c7 aa a7 x2 x3 e f0 f1 xs wF L w) {a' : Option Addr} {c' : Nat} (ho : w.ownsRow (gp + 1) 53 3 (.slice a' (n + 1) c') (n + 1) (xs ++ [.string f0, .string f1, .bool true])) (h0 : L.getD 1 false = true) (h10 : L.getD 20 false = true) (hlen : 22 < L.size)
    (h11 : L.getD 22 false = false) (hgb : gp < bz) : Inv9 gp bz n c z f nq c7 aa a7 x2 x3 e f0 f1 xs wF (L.setIfInBounds 22 true) (w.setCell ⟨gp, 0, none⟩ (.slice a' (n + 1) c')) := by
  refine ⟨h.below.setCell (p := ⟨gp, 0, none⟩) (Nat.le_refl _) _, by rw [size_set]; exact h.size, (heap_set_other (by omega)).trans h.box, fun ee => ?_, fun ee => own_set_var (h.owns (by rwa [mark_other (by decide)] at ee)), fun _ => ⟨mark_keep h0, mark_keep h10⟩, fun _ => ⟨a', c', ?_, own_set_var ho⟩, fun k h1 h2 h3 => (heap_set_other h2).trans (h.kept k h1 h2 h3)⟩
  · rw [Array.getD_eq_getD_getElem?, Array.getElem?_setIfInBounds, if_pos rfl, if_pos hlen] at ee
    cases ee
  · rw [heap_set_at (h.var h11)]; rfl
end
noncomputable def ops9 : Array Oper := ((Try.f32.body.bind (regOps 9)).getD #[])
theorem ops9_0 : ops9[0]? = some { dst := some 29, op := Go.Op.fieldAddr 86 (Go.Operand.tmp 6) 0, type := 0, pos := "ref.go:27", after := #[], guard := none } := by kernel_rfl
theorem ops9_1 : ops9[1]? = some { dst := some 30, op := Go.Op.load 84 (Go.Operand.tmp 29), type := 84, pos := "ref.go:27", after := #[{ on := 0, ground := Go.Ground.data }], guard := none } := by kernel_rfl
theorem ops9_2 : ops9[2]? = some { dst := some 31, op := Go.Op.move (Go.Operand.tmp 0), type := 9, pos := "ref.go:27", after := #[], guard := none } := by kernel_rfl
theorem ops9_3 : ops9[3]? = some { dst := some 32, op := Go.Op.fieldAddr 46 (Go.Operand.tmp 8) 2, type := 0, pos := "ref.go:27", after := #[], guard := none } := by kernel_rfl
theorem ops9_4 : ops9[4]? = some { dst := some 33, op := Go.Op.load 44 (Go.Operand.tmp 32), type := 44, pos := "ref.go:27", after := #[{ on := 3, ground := Go.Ground.data }], guard := none } := by kernel_rfl
theorem ops9_5 : ops9[5]? = some { dst := some 34, op := Go.Op.call { callee := Go.Callee.value (Go.Operand.func 16), args := #[Go.Operand.tmp 31, Go.Operand.tmp 33], argTypes := #[9, 44] }, type := 9, pos := "ref.go:27", after := #[{ on := 2, ground := Go.Ground.data }, { on := 4, ground := Go.Ground.data }], guard := none } := by kernel_rfl
theorem ops9_6 : ops9[6]? = some { dst := some 35, op := Go.Op.move (Go.Operand.tmp 0), type := 9, pos := "ref.go:27", after := #[], guard := none } := by kernel_rfl
theorem ops9_7 : ops9[7]? = some { dst := some 36, op := Go.Op.fieldAddr 46 (Go.Operand.tmp 8) 0, type := 0, pos := "ref.go:27", after := #[], guard := none } := by kernel_rfl
theorem ops9_8 : ops9[8]? = some { dst := some 37, op := Go.Op.fieldAddr 43 (Go.Operand.tmp 36) 0, type := 0, pos := "ref.go:27", after := #[{ on := 7, ground := Go.Ground.data }], guard := none } := by kernel_rfl
theorem ops9_9 : ops9[9]? = some { dst := some 38, op := Go.Op.load 3 (Go.Operand.tmp 37), type := 3, pos := "ref.go:27", after := #[{ on := 8, ground := Go.Ground.data }], guard := none } := by kernel_rfl
theorem ops9_10 : ops9[10]? = some { dst := some 39, op := Go.Op.fieldAddr 46 (Go.Operand.tmp 8) 0, type := 0, pos := "ref.go:27", after := #[], guard := none } := by kernel_rfl
theorem ops9_11 : ops9[11]? = some { dst := some 40, op := Go.Op.fieldAddr 43 (Go.Operand.tmp 39) 0, type := 0, pos := "ref.go:27", after := #[{ on := 10, ground := Go.Ground.data }], guard := none } := by kernel_rfl
theorem ops9_12 : ops9[12]? = some { dst := some 41, op := Go.Op.load 3 (Go.Operand.tmp 40), type := 3, pos := "ref.go:27", after := #[{ on := 11, ground := Go.Ground.data }], guard := none } := by kernel_rfl
theorem ops9_13 : ops9[13]? = some { dst := some 42, op := Go.Op.fieldAddr 46 (Go.Operand.tmp 8) 0, type := 0, pos := "ref.go:27", after := #[], guard := none } := by kernel_rfl
theorem ops9_14 : ops9[14]? = some { dst := some 43, op := Go.Op.fieldAddr 43 (Go.Operand.tmp 42) 1, type := 0, pos := "ref.go:27", after := #[{ on := 13, ground := Go.Ground.data }], guard := none } := by kernel_rfl
theorem ops9_15 : ops9[15]? = some { dst := some 44, op := Go.Op.load 3 (Go.Operand.tmp 43), type := 3, pos := "ref.go:27", after := #[{ on := 14, ground := Go.Ground.data }], guard := none } := by kernel_rfl
theorem ops9_16 : ops9[16]? = some { dst := some 45, op := Go.Op.binOp Go.BinOp.add 3 (Go.Operand.tmp 41) (Go.Operand.tmp 44) 3, type := 3, pos := "ref.go:27", after := #[{ on := 12, ground := Go.Ground.data }, { on := 15, ground := Go.Ground.data }], guard := none } := by kernel_rfl
theorem ops9_17 : ops9[17]? = some { dst := some 46, op := Go.Op.slice 9 (Go.Operand.tmp 35) (some (Go.Operand.tmp 38)) (some (Go.Operand.tmp 45)) none, type := 9, pos := "ref.go:27", after := #[{ on := 6, ground := Go.Ground.data }, { on := 9, ground := Go.Ground.data }, { on := 16, ground := Go.Ground.data }], guard := none } := by kernel_rfl
theorem ops9_18 : ops9[18]? = some { dst := some 47, op := Go.Op.build 53 #[(0, Go.Operand.tmp 34), (1, Go.Operand.tmp 46), (2, Go.Operand.const (Go.Value.bool true))], type := 53, pos := "ref.go:27", after := #[{ on := 5, ground := Go.Ground.data }, { on := 17, ground := Go.Ground.data }], guard := none } := by kernel_rfl
theorem ops9_19 : ops9[19]? = some { dst := some 48, op := Go.Op.buildSlice 84 1 #[(0, Go.Operand.tmp 47)], type := 84, pos := "ref.go:27", after := #[{ on := 18, ground := Go.Ground.data }], guard := none } := by kernel_rfl
theorem ops9_20 : ops9[20]? = some { dst := some 49, op := Go.Op.call { callee := Go.Callee.builtin Go.Builtin.append, args := #[Go.Operand.tmp 30, Go.Operand.tmp 48], argTypes := #[84, 84] }, type := 84, pos := "ref.go:27", after := #[{ on := 1, ground := Go.Ground.data }, { on := 19, ground := Go.Ground.data }, { on := 5, ground := Go.Ground.chain }], guard := none } := by kernel_rfl
theorem ops9_21 : ops9[21]? = some { dst := some 50, op := Go.Op.fieldAddr 86 (Go.Operand.tmp 6) 0, type := 0, pos := "ref.go:27", after := #[{ on := 0, ground := Go.Ground.phase }, { on := 1, ground := Go.Ground.phase }, { on := 2, ground := Go.Ground.phase }, { on := 3, ground := Go.Ground.phase }, { on := 4, ground := Go.Ground.phase }, { on := 5, ground := Go.Ground.phase }, { on := 6, ground := Go.Ground.phase }, { on := 7, ground := Go.Ground.phase }, { on := 8, ground := Go.Ground.phase }, { on := 9, ground := Go.Ground.phase }, { on := 10, ground := Go.Ground.phase }, { on := 11, ground := Go.Ground.phase }, { on := 12, ground := Go.Ground.phase }, { on := 13, ground := Go.Ground.phase }, { on := 14, ground := Go.Ground.phase }, { on := 15, ground := Go.Ground.phase }, { on := 16, ground := Go.Ground.phase }, { on := 17, ground := Go.Ground.phase }, { on := 18, ground := Go.Ground.phase }, { on := 19, ground := Go.Ground.phase }, { on := 20, ground := Go.Ground.phase }], guard := none } := by kernel_rfl
theorem ops9_22 : ops9[22]? = some { dst := none, op := Go.Op.store 84 (Go.Operand.tmp 50) (Go.Operand.tmp 49), type := 0, pos := "ref.go:27", after := #[{ on := 21, ground := Go.Ground.data }, { on := 20, ground := Go.Ground.data }, { on := 20, ground := Go.Ground.chain }, { on := 0, ground := Go.Ground.phase }, { on := 1, ground := Go.Ground.phase }, { on := 2, ground := Go.Ground.phase }, { on := 3, ground := Go.Ground.phase }, { on := 4, ground := Go.Ground.phase }, { on := 5, ground := Go.Ground.phase }, { on := 6, ground := Go.Ground.phase }, { on := 7, ground := Go.Ground.phase }, { on := 8, ground := Go.Ground.phase }, { on := 9, ground := Go.Ground.phase }, { on := 10, ground := Go.Ground.phase }, { on := 11, ground := Go.Ground.phase }, { on := 12, ground := Go.Ground.phase }, { on := 13, ground := Go.Ground.phase }, { on := 14, ground := Go.Ground.phase }, { on := 15, ground := Go.Ground.phase }, { on := 16, ground := Go.Ground.phase }, { on := 17, ground := Go.Ground.phase }, { on := 18, ground := Go.Ground.phase }, { on := 19, ground := Go.Ground.phase }, { on := 20, ground := Go.Ground.phase }], guard := none } := by kernel_rfl
noncomputable def R9 (gp bz n c z f tt nq c7 : Nat) (aa a7 : Option Addr) (x2 x3 e : Int) (s f0 : ByteArray) (xs : List Value) (i : Nat) (v : Value) (w : World) : Prop := if i = 19 then (P9 z f0 (s.extract f tt) v w) else if i = 20 then (O9 gp n f0 (s.extract f tt) xs v w) else v = ([.pointer (some ⟨gp, 0, none⟩), .slice aa n c, .string s, .pointer (some ⟨bz, 3, none⟩), .slice a7 nq c7, .string f0, .string s, .pointer (some ⟨bz, 0, none⟩), .pointer (some ⟨bz, 0, none⟩), .int .i64 f, .pointer (some ⟨bz, 0, none⟩), .pointer (some ⟨bz, 0, none⟩), .int .i64 f, .pointer (some ⟨bz, 0, none⟩), .pointer (some ⟨bz, 1, none⟩), .int .i64 x2, .int .i64 tt, .string (s.extract f tt), .agg #[.string f0, .string (s.extract f tt), .bool true], undef, undef, .pointer (some ⟨gp, 0, none⟩), undef] : List Value).getD i undef
theorem R9_mono (gp bz n c z f tt nq c7 : Nat) (aa a7 : Option Addr) (x2 x3 e : Int) (s f0 : ByteArray) (xs : List Value) {w w' : World} {i : Nat} (v : Value) (hm16 : ∀ v, P9 z f0 (s.extract f tt) v w → P9 z f0 (s.extract f tt) v w') (hm17 : i = 20 → ∀ v, O9 gp n f0 (s.extract f tt) xs v w → O9 gp n f0 (s.extract f tt) xs v w') (h : R9 gp bz n c z f tt nq c7 aa a7 x2 x3 e s f0 xs i v w) : R9 gp bz n c z f tt nq c7 aa a7 x2 x3 e s f0 xs i v w' := by
  unfold R9 at *
  by_cases e48 : i = 19
  · rw [if_pos e48] at h ⊢
    exact hm16 v h
  rw [if_neg e48] at h ⊢
  by_cases e49 : i = 20
  · rw [if_pos e49] at h ⊢
    exact hm17 e49 v h
  rw [if_neg e49] at h ⊢
  exact h
set_option maxHeartbeats 8000000 in
set_option maxRecDepth 100000 in
theorem reg9 (gp bz n c z f tt nq c7 : Nat) (aa a7 : Option Addr) (x2 x3 e : Int) (s f0 : ByteArray) (xs : List Value) {a0 : Act} {wF : World} {Q : Exit → Act → World → Prop} (hsize : a0.tmps.size = 53) (o0 : a0.tmps.getD 0 undef = .string s) (o6 : a0.tmps.getD 6 undef = .pointer (some ⟨gp, 0, none⟩)) (o8 : a0.tmps.getD 8 undef = .pointer (some ⟨bz, 0, none⟩))
    (start9 : Inv9 gp bz n c z f nq c7 aa a7 x2 x3 e f0 (s.extract f tt) xs wF (Array.replicate ops9.size false) wF.drew)
    (hgb : gp < bz) (hbz : bz < z) (hk : ∀ k, (Value.slice aa n c).ownBlock = some k → k < bz) (hn : n ≤ 20000) (hwr : IntKind.i64.wrap ((f : Int) + x2) = (tt : Int)) (hs1 : tt ≤ s.size) (j0 : (0 : Int) ≤ (f : Int)) (j1 : (f : Int) ≤ (tt : Int)) (j2 : (tt : Int) ≤ (s.size : Int)) (j3 : f ≤ tt)
    (i0 : TypeInfo) (hi0 : Try.prog.info? 53 = some i0) (hz0 : i0.zero = some (.agg #[.string ⟨#[]⟩, .string ⟨#[]⟩, .bool false])) (hz1 : i0.size = 3) (hz2 : i0.bytes = 40)
    (HTx : ∀ w', z ≤ w'.heap.size → (∀ k, k < z → k ≠ gp → (Value.slice aa n c).ownBlock ≠ some k → w'.heap[k]? = wF.heap[k]?) → Calls Try.prog 16 #[.string s, .slice a7 nq c7] w' fun e w2 => e = .returned (.string f0) ∧ w' = w2)
    (hQ : ∀ a w', a.defers = a0.defers → a.tmps.size = a0.tmps.size → (∀ d : Nat, (ops9.all fun o => o.dst != some d) = true → a.tmps.getD d undef = a0.tmps.getD d undef) → True → (Below gp wF w' ∧ z ≤ (w').heap.size ∧ (∀ k, k < z → k ≠ gp → (Value.slice aa n c).ownBlock ≠ some k → (w').heap[k]? = wF.heap[k]?) ∧ Fin9 gp n e f0 (s.extract f tt) xs w') → Q .normal a w') : (Code.region 9 ops9 true).wp Try.prog Q a0 wF := by
  have hf : opsFine .any ops9 a0.tmps.size = true := by rw [hsize]; kernel_rfl
  refine wp_region_good (by kernel_rfl) (R9 gp bz n c z f tt nq c7 aa a7 x2 x3 e s f0 xs) (fun L w' => Inv9 gp bz n c z f nq c7 aa a7 x2 x3 e f0 (s.extract f tt) xs wF L w') hf (start9) ?_ ?_
  · intro i listed a w hg hi
    have hlt : i < 23 := (ready_spec hi).1
    have hB : Inv9 gp bz n c z f nq c7 aa a7 x2 x3 e f0 (s.extract f tt) xs wF listed w := hg.inv
    rcases (show i = 0 ∨ i = 1 ∨ i = 2 ∨ i = 3 ∨ i = 4 ∨ i = 5 ∨ i = 6 ∨ i = 7 ∨ i = 8 ∨ i = 9 ∨ i = 10 ∨ i = 11 ∨ i = 12 ∨ i = 13 ∨ i = 14 ∨ i = 15 ∨ i = 16 ∨ i = 17 ∨ i = 18 ∨ i = 19 ∨ i = 20 ∨ i = 21 ∨ i = 22 by omega) with rfl | rfl | rfl | rfl | rfl | rfl | rfl | rfl | rfl | rfl | rfl | rfl | rfl | rfl | rfl | rfl | rfl | rfl | rfl | rfl | rfl | rfl | rfl
    · -- 0: slot 29
      have h6 : a.tmps.getD 6 undef = .pointer (some ⟨gp, 0, none⟩) := (hg.was 6 (by kernel_rfl)).trans o6
      refine hg.op2 hf ops9_0 rfl (fun K' HK => ?_)
      go_simp
      exact HK.out _ _ (fun _ _ _ h => h) rfl (hB.keep (i := 0) (by decide) (by decide))
    · -- 1: slot 30
      have h29 : a.tmps.getD 29 undef = .pointer (some ⟨gp, 0, none⟩) := hg.dep ops9_1 hi 0 _ 29 ops9_0 rfl (by kernel_rfl)
      have hl22 := hB.early (getD_of_ready (ready_spec hi).2.1)
      have l0 := hB.load hl22
      refine hg.op2 hf ops9_1 rfl (fun K' HK => ?_)
      go_simp
      exact HK.out _ _ (fun _ _ _ h => h) rfl (hB.keep (i := 1) (by decide) (by decide))
    · -- 2: slot 31
      have h0 : a.tmps.getD 0 undef = .string s := (hg.was 0 (by kernel_rfl)).trans o0
      refine hg.op2 hf ops9_2 rfl (fun K' HK => ?_)
      go_simp
      exact HK.out _ _ (fun _ _ _ h => h) rfl (hB.keep (i := 2) (by decide) (by decide))
    · -- 3: slot 32
      have h8 : a.tmps.getD 8 undef = .pointer (some ⟨bz, 0, none⟩) := (hg.was 8 (by kernel_rfl)).trans o8
      refine hg.op2 hf ops9_3 rfl (fun K' HK => ?_)
      go_simp
      exact HK.out _ _ (fun _ _ _ h => h) rfl (hB.keep (i := 3) (by decide) (by decide))
    · -- 4: slot 33
      have h32 : a.tmps.getD 32 undef = .pointer (some ⟨bz, 3, none⟩) := hg.dep ops9_4 hi 3 _ 32 ops9_3 rfl (by kernel_rfl)
      have l0 := hB.box0
      have l1 := hB.box1
      have l2 := hB.box2
      have l3 := hB.box3
      refine hg.op2 hf ops9_4 rfl (fun K' HK => ?_)
      go_simp
      exact HK.out _ _ (fun _ _ _ h => h) rfl (hB.keep (i := 4) (by decide) (by decide))
    · -- 5: slot 34
      have h31 : a.tmps.getD 31 undef = .string s := hg.dep ops9_5 hi 2 _ 31 ops9_2 rfl (by kernel_rfl)
      have h33 : a.tmps.getD 33 undef = .slice a7 nq c7 := hg.dep ops9_5 hi 4 _ 33 ops9_4 rfl (by kernel_rfl)
      refine hg.op2 hf ops9_5 rfl (fun K' HK => ?_)
      go_simp
      refine (HTx _ hB.size hB.kept).mono ?_; rintro e w2 ⟨rfl, rfl⟩
      exact HK.out _ _ (fun _ _ _ h => h) rfl (hB.keep (i := 5) (by decide) (by decide))
    · -- 6: slot 35
      have h0 : a.tmps.getD 0 undef = .string s := (hg.was 0 (by kernel_rfl)).trans o0
      refine hg.op2 hf ops9_6 rfl (fun K' HK => ?_)
      go_simp
      exact HK.out _ _ (fun _ _ _ h => h) rfl (hB.keep (i := 6) (by decide) (by decide))
    · -- 7: slot 36
      have h8 : a.tmps.getD 8 undef = .pointer (some ⟨bz, 0, none⟩) := (hg.was 8 (by kernel_rfl)).trans o8
      refine hg.op2 hf ops9_7 rfl (fun K' HK => ?_)
      go_simp
      exact HK.out _ _ (fun _ _ _ h => h) rfl (hB.keep (i := 7) (by decide) (by decide))
    · -- 8: slot 37
      have h36 : a.tmps.getD 36 undef = .pointer (some ⟨bz, 0, none⟩) := hg.dep ops9_8 hi 7 _ 36 ops9_7 rfl (by kernel_rfl)
      refine hg.op2 hf ops9_8 rfl (fun K' HK => ?_)
      go_simp
      exact HK.out _ _ (fun _ _ _ h => h) rfl (hB.keep (i := 8) (by decide) (by decide))
    · -- 9: slot 38
      have h37 : a.tmps.getD 37 undef = .pointer (some ⟨bz, 0, none⟩) := hg.dep ops9_9 hi 8 _ 37 ops9_8 rfl (by kernel_rfl)
      have l0 := hB.box0
      have l1 := hB.box1
      have l2 := hB.box2
      have l3 := hB.box3
      refine hg.op2 hf ops9_9 rfl (fun K' HK => ?_)
      go_simp
      exact HK.out _ _ (fun _ _ _ h => h) rfl (hB.keep (i := 9) (by decide) (by decide))
    · -- 10: slot 39
      have h8 : a.tmps.getD 8 undef = .pointer (some ⟨bz, 0, none⟩) := (hg.was 8 (by kernel_rfl)).trans o8
      refine hg.op2 hf ops9_10 rfl (fun K' HK => ?_)
      go_simp
      exact HK.out _ _ (fun _ _ _ h => h) rfl (hB.keep (i := 10) (by decide) (by decide))
    · -- 11: slot 40
      have h39 : a.tmps.getD 39 undef = .pointer (some ⟨bz, 0, none⟩) := hg.dep ops9_11 hi 10 _ 39 ops9_10 rfl (by kernel_rfl)
      refine hg.op2 hf ops9_11 rfl (fun K' HK => ?_)
      go_simp
      exact HK.out _ _ (fun _ _ _ h => h) rfl (hB.keep (i := 11) (by decide) (by decide))
    · -- 12: slot 41
      have h40 : a.tmps.getD 40 undef = .pointer (some ⟨bz, 0, none⟩) := hg.dep ops9_12 hi 11 _ 40 ops9_11 rfl (by kernel_rfl)
      have l0 := hB.box0
      have l1 := hB.box1
      have l2 := hB.box2
      have l3 := hB.box3
      refine hg.op2 hf ops9_12 rfl (fun K' HK => ?_)
      go_simp
      exact HK.out _ _ (fun _ _ _ h => h) rfl (hB.keep (i := 12) (by decide) (by decide))
    · -- 13: slot 42
      have h8 : a.tmps.getD 8 undef = .pointer (some ⟨bz, 0, none⟩) := (hg.was 8 (by kernel_rfl)).trans o8
      refine hg.op2 hf ops9_13 rfl (fun K' HK => ?_)
      go_simp
      exact HK.out _ _ (fun _ _ _ h => h) rfl (hB.keep (i := 13) (by decide) (by decide))
    · -- 14: slot 43
      have h42 : a.tmps.getD 42 undef = .pointer (some ⟨bz, 0, none⟩) := hg.dep ops9_14 hi 13 _ 42 ops9_13 rfl (by kernel_rfl)
      refine hg.op2 hf ops9_14 rfl (fun K' HK => ?_)
      go_simp
      exact HK.out _ _ (fun _ _ _ h => h) rfl (hB.keep (i := 14) (by decide) (by decide))
    · -- 15: slot 44
      have h43 : a.tmps.getD 43 undef = .pointer (some ⟨bz, 1, none⟩) := hg.dep ops9_15 hi 14 _ 43 ops9_14 rfl (by kernel_rfl)
      have l0 := hB.box0
      have l1 := hB.box1
      have l2 := hB.box2
      have l3 := hB.box3
      refine hg.op2 hf ops9_15 rfl (fun K' HK => ?_)
      go_simp
      exact HK.out _ _ (fun _ _ _ h => h) rfl (hB.keep (i := 15) (by decide) (by decide))
    · -- 16: slot 45
      have h41 : a.tmps.getD 41 undef = .int .i64 f := hg.dep ops9_16 hi 12 _ 41 ops9_12 rfl (by kernel_rfl)
      have h44 : a.tmps.getD 44 undef = .int .i64 x2 := hg.dep ops9_16 hi 15 _ 44 ops9_15 rfl (by kernel_rfl)
      refine hg.op2 hf ops9_16 rfl (fun K' HK => ?_)
      go_simp
      exact HK.out _ _ (fun _ _ _ h => h) rfl (hB.keep (i := 16) (by decide) (by decide))
    · -- 17: slot 46
      have h35 : a.tmps.getD 35 undef = .string s := hg.dep ops9_17 hi 6 _ 35 ops9_6 rfl (by kernel_rfl)
      have h38 : a.tmps.getD 38 undef = .int .i64 f := hg.dep ops9_17 hi 9 _ 38 ops9_9 rfl (by kernel_rfl)
      have h45 : a.tmps.getD 45 undef = .int .i64 tt := hg.dep ops9_17 hi 16 _ 45 ops9_16 rfl (by kernel_rfl)
      refine hg.op2 hf ops9_17 rfl (fun K' HK => ?_)
      go_simp
      exact HK.out _ _ (fun _ _ _ h => h) rfl (hB.keep (i := 17) (by decide) (by decide))
    · -- 18: slot 47
      have h34 : a.tmps.getD 34 undef = .string f0 := hg.dep ops9_18 hi 5 _ 34 ops9_5 rfl (by kernel_rfl)
      have h46 : a.tmps.getD 46 undef = .string (s.extract f tt) := hg.dep ops9_18 hi 17 _ 46 ops9_17 rfl (by kernel_rfl)
      have h34b : a.tmps[34]?.getD undef = .string f0 := by rw [← Array.getD_eq_getD_getElem?]; exact h34
      have h46b : a.tmps[46]?.getD undef = .string (s.extract f tt) := by rw [← Array.getD_eq_getD_getElem?]; exact h46
      refine hg.op2 hf ops9_18 rfl (fun K' HK => ?_)
      go_simp
      exact HK.out _ _ (fun _ _ _ h => h) rfl (hB.keep (i := 18) (by decide) (by decide))
    · -- 19: slot 48
      have h47 : a.tmps.getD 47 undef = .agg #[.string f0, .string (s.extract f tt), .bool true] := hg.dep ops9_19 hi 18 _ 47 ops9_18 rfl (by kernel_rfl)
      have h47b : a.tmps[47]?.getD undef = .agg #[.string f0, .string (s.extract f tt), .bool true] := by rw [← Array.getD_eq_getD_getElem?]; exact h47
      refine hg.op2 hf ops9_19 rfl (fun K' HK => ?_)
      go_simp
      have hb2 := below_al w (Obj.cells #[.string f0, .string (s.extract f tt), .bool true] 53)
      exact HK.out _ _ (fun j u _ h => R9_mono gp bz n c z f tt nq c7 aa a7 x2 x3 e s f0 xs u (fun v h => h.below hb2) (fun _ v h => h.below hb2) h) ⟨_, rfl, hB.size, heap_alloc_new _ _⟩ (hB.under (i := 19) hb2 (by decide) (by decide) (by omega))
    · -- 20: slot 49
      have h30 : a.tmps.getD 30 undef = .slice aa n c := hg.dep ops9_20 hi 1 _ 30 ops9_1 rfl (by kernel_rfl)
      have h48s := hg.dep ops9_20 hi 19 _ 48 ops9_19 rfl (by kernel_rfl)
      obtain ⟨b16, h48, hzb, hb16⟩ := h48s
      refine hg.op2 hf ops9_20 rfl (fun K' HK => ?_)
      have hlf := getD_of_ready (ready_spec hi).2.1
      have ho := hB.owns hlf
      have hl22 := hB.early2 hlf
      refine wp_append_lies w (.tmp 30) (.tmp 48) 84 rfl (gp + 1) 53 i0 (.agg #[.string ⟨#[]⟩, .string ⟨#[]⟩, .bool false]) 3 40 Try.underlying84 hi0 hz0 hz1 hz2 rfl (by decide) (.slice aa n c) n xs h30 ho ⟨b16, 0, none⟩ 1 1 [.string f0, .string (s.extract f tt), .bool true] h48 rfl (fun j u hj => ?_) (fun u hu => ?_) (by decide) (by unfold maxLen; omega) (by omega) (by have := hB.size; omega) _ rfl ?_
      · rw [Addr.add_lit, Nat.zero_add, cell_at hb16]; simpa using hj
      · simp only [List.mem_cons, List.not_mem_nil, or_false] at hu; rcases hu with rfl | rfl | rfl <;> rfl
      · intro g cap w1 hown hgrow hat hlt
        refine HK.out _ _ (fun j u hj h => R9_mono gp bz n c z f tt nq c7 aa a7 x2 x3 e s f0 xs u (fun v h => h.grown hgrow hk hbz) (fun e => by subst e; rw [hlf] at hj; cases hj) h) ⟨_, _, rfl, hown⟩ (hB.appended hgrow hk hlf ho (by rw [hg.full]; exact (Array.getElem?_eq_some_iff.1 ops9_20).1) hl22 hbz hgb)
    · -- 21: slot 50
      have h6 : a.tmps.getD 6 undef = .pointer (some ⟨gp, 0, none⟩) := (hg.was 6 (by kernel_rfl)).trans o6
      refine hg.op2 hf ops9_21 rfl (fun K' HK => ?_)
      go_simp
      exact HK.out _ _ (fun _ _ _ h => h) rfl (hB.keep (i := 21) (by decide) (by decide))
    · -- 22: slot None
      have h50 : a.tmps.getD 50 undef = .pointer (some ⟨gp, 0, none⟩) := hg.dep ops9_22 hi 21 _ 50 ops9_21 rfl (by kernel_rfl)
      have h49s := hg.dep ops9_22 hi 20 _ 49 ops9_20 rfl (by kernel_rfl)
      obtain ⟨a17, c17, h49, ho17⟩ := h49s
      have hlen : 22 < listed.size := by rw [hg.full]; exact (Array.getElem?_eq_some_iff.1 ops9_22).1
      have hlf := getD_of_ready (ready_spec hi).2.1
      have hl0 := hB.load hlf
      have hfr := hB.unfr hlf
      refine hg.op2 hf ops9_22 rfl (fun K' HK => ?_)
      go_simp
      exact HK.out _ _ (fun j u _ h => R9_mono gp bz n c z f tt nq c7 aa a7 x2 x3 e s f0 xs u (fun v h => h.set (by omega)) (fun _ v h => h.set) h) rfl (hB.stored ho17 (dep_listed ops9_22 hi 1 (by kernel_rfl)) (dep_listed ops9_22 hi 20 (by kernel_rfl)) hlen hlf hgb)
  · intro listed a w hg hall
    have hinv := hg.inv
    refine hQ a w hg.defers hg.size (fun d hd => hg.was d hd) ?_ ⟨hinv.below, hinv.size, hinv.kept, hinv.fin (hall 22 (of_decide_eq_true (by kernel_rfl)))⟩
    trivial

theorem ext_sub8 {s : ByteArray} {l : List UInt8} (hs : s.data.toList = l) {i j : Nat} (hi : i ≤ j) (hj : j ≤ l.length) : s.extract i j = strOf (subL l i ((j : Int) - i)) := by
  have e : s.extract i j = strOf ((s.data.toList.drop i).take (j - i)) := by
    apply ByteArray.ext
    simp [strOf, ByteArray.data_extract]
    rw [← Array.toList_inj]
    simp [List.extract_eq_take_drop]
  rw [e, hs]
  unfold subL rightB
  rw [if_pos (by simp only [decide_eq_true_eq]; omega)]
  congr 2
  omega
/-- A field as the document's cell. -/
def rcF (l : List UInt8) (F : Fd) : RCM := (strOf (atL l F.pl), strOf (subL l F.from_ ((F.to_ : Int) - F.from_)), true)
/-- A row as the document has it. -/
abbrev rrV (a : Option Addr) (n c : Nat) (e : Int) : Value := .agg #[.slice a n c, .int .i64 e, .bool false]
/-- What the document's Load tells. -/
def RLdPost (l : List UInt8) (R : Rw) (w : World) (e : Ending) (w' : World) : Prop :=
  Below w.heap.size w w' ∧
  ((40 < R.fs.length ∧ e = .returned (.tuple #[rrV none 0 0 0, .int .i64 6])) ∨
   (R.fs.length ≤ 40 ∧ (∃ f ∈ R.fs, longF f) ∧ e = .returned (.tuple #[rrV none 0 0 0, .int .i64 7])) ∨
   (R.fs.length ≤ 40 ∧ (∀ f ∈ R.fs, ¬ longF f) ∧ ∃ (a : Option Addr) (c : Nat), e = .returned (.tuple #[rrV a R.fs.length c R.fin, .int .i64 0]) ∧ w'.ownsRow w.heap.size 53 3 (.slice a R.fs.length c) R.fs.length (rcC (R.fs.map (rcF l)))))
/-- A row whose block stands. -/
theorem rd_stays {w w' : World} {B n c z gp s : Nat} {a aa : Option Addr} {xs : List Value} {e e2 : TypeId} {B2 n2 c2 s2 : Nat} {xs2 : List Value} {csg : Array Value} {tg : TypeId} {fg : Nat × Nat} (h : w.ownsRow B e s (.slice a n c) n xs) (hz : w.heap.size = z) (h2 : w.ownsRow B2 e2 s2 (.slice aa n2 c2) n2 xs2) (he : e2 ≠ e) (hg : w.heap[gp]? = some (.cells csg tg fg)) (hge : tg ≠ e)
    (hsz : z ≤ w'.heap.size) (hk : ∀ k, k < z → k ≠ gp → (Value.slice aa n2 c2).ownBlock ≠ some k → w'.heap[k]? = w.heap[k]?) : Rd w' s a n xs := by
  refine ⟨h.1, fun hn => ?_⟩
  obtain ⟨g, o, rfl, hgs, hc⟩ := (own_rd h).2 hn
  obtain ⟨cs, hcs⟩ := own_cellsAt h
  simp only at hcs
  have hb := hk g (by omega) (fun e' => by subst e'; rw [hg] at hcs; injection hcs with hcs; injection hcs with _ h3; exact hge h3) (own_ne h2 hcs he)
  refine ⟨g, o, rfl, by omega, fun k u hu => ?_⟩
  have := hc k u hu
  unfold World.cell? at this ⊢
  rw [hb]
  exact this
/-- What holds at the head of its loop. -/
def RLJ (l : List UInt8) (R : Rw) (w w1 : World) (n : Nat) (v20 : Value) (wr : World) : Prop := ∃ (k : Nat) (ak : Option Addr) (ck : Nat), v20 = .int .i64 k ∧ k ≤ n ∧ (∀ f ∈ R.fs.take k, ¬ longF f) ∧
  wr.heap[w.heap.size + 2]? = some (.cells #[.slice ak k ck, .int .i64 R.fin, .bool false] 86 (0, 0)) ∧ wr.ownsRow (w.heap.size + 3) 53 3 (.slice ak k ck) k (rcC ((R.fs.take k).map (rcF l))) ∧ Below (w.heap.size + 2) w1 wr

set_option maxRecDepth 100000 in
set_option maxHeartbeats 4000000 in
theorem rrload_of {s : ByteArray} {w : World} {B : Nat} {l : List UInt8} {R : Rw} {ps : List FdM} {pa : Option Addr} {pc : Nat} (hs : s.data.toList = l) (hri : RRowIn w B (R, ps, pa, pc)) (hok : ∀ f ∈ R.fs, InL l f.pl ∧ f.pl.length ≤ l.length) (hok2 : ∀ f ∈ R.fs, f.from_ ≤ f.to_ ∧ f.to_ ≤ l.length) (hl : l.length ≤ 16384) (hn : R.fs.length ≤ 1000000) :
    Calls Try.prog 32 #[.string s, .agg #[.slice pa R.fs.length pc, .int .i64 R.fin]] w (RLdPost l R w) := by
  obtain ⟨i0, hi0, hz0, hz1, hz2⟩ := info_parts info_rc
  obtain ⟨n, hnn⟩ : ∃ n, R.fs.length = n := ⟨_, rfl⟩
  have hpn : ps.length = n := by rw [← hnn, ← hri.fs]; simp
  have hsz := sz_of hs
  have HS := Lib.hid hs
  obtain ⟨w1, hw1⟩ : ∃ w1, w1 = allocs w [Obj.cells #[Value.slice pa n pc, Value.int .i64 R.fin] 37, Obj.cells #[Value.slice none 0 0, Value.int .i64 0, Value.bool false] 86, Obj.cells #[Value.slice none 0 0, Value.int .i64 R.fin, Value.bool false] 86] := ⟨_, rfl⟩
  have HB1 : Hid (Below w.heap.size w w1) := by rw [hw1]; exact Lib.hid (allocs_below _ w)
  have hzw : w1.heap.size > w.heap.size + 2 := by rw [hw1, allocs_size]; simp
  have h0 : w1.heap[w.heap.size]? = some (Obj.cells #[Value.slice pa n pc, Value.int .i64 R.fin] 37) := by rw [hw1]; exact allocs_at _ w 0 _ rfl
  have HH1 : Hid (w1.heap[w.heap.size + 1]? = some (.cells #[Value.slice none 0 0, Value.int .i64 0, Value.bool false] 86 (0, 0))) := by rw [hw1]; exact Lib.hid (allocs_at _ w 1 _ rfl)
  have HH2 : Hid (w1.heap[w.heap.size + 2]? = some (.cells #[Value.slice none 0 0, Value.int .i64 R.fin, Value.bool false] 86 (0, 0))) := by rw [hw1]; exact Lib.hid (allocs_at _ w 2 _ rfl)
  have HRI := Lib.hid hri
  have HOK := Lib.hid hok
  have HOK2 := Lib.hid hok2
  have HNN := Lib.hid hnn
  have HPN := Lib.hid hpn
  have k0 : w1.cell? ⟨w.heap.size, 0, none⟩ = some (.slice pa n pc) := by rw [cell_at h0]; rfl
  have k1 : w1.cell? ⟨w.heap.size, 1, none⟩ = some (.int .i64 R.fin) := by rw [cell_at h0]; rfl
  have hh1 := HH1.out
  have zz := fun i => unfrozen hh1 i
  have r0 : w1.cell? ⟨w.heap.size + 1, 0, none⟩ = some (.slice none 0 0) := by rw [cell_at hh1]; rfl
  have r1 : w1.cell? ⟨w.heap.size + 1, 1, none⟩ = some (.int .i64 0) := by rw [cell_at hh1]; rfl
  have r2 : w1.cell? ⟨w.heap.size + 1, 2, none⟩ = some (.bool false) := by rw [cell_at hh1]; rfl
  rw [hnn] at hn
  rw [hnn]
  clear h0 hh1 hri hok hok2 hpn hs
  unfold RLdPost
  go_enter Try.func32, Try.ntmps32
  go_upto_region 2 with fail
  rw [show ((w.alloc (Obj.cells #[Value.slice pa n pc, Value.int .i64 R.fin] 37)).alloc (Obj.cells #[Value.slice none 0 0, Value.int .i64 0, Value.bool false] 86)).alloc (Obj.cells #[Value.slice none 0 0, Value.int .i64 R.fin, Value.bool false] 86) = w1 from hw1.symm]
  clear hw1
  by_cases h40 : 40 < n
  · have d : decide ((40 : Int) < (n : Int)) = true := decide_eq_true (by omega)
    have d' : decide (40 < n) = true := decide_eq_true h40
    go_wp2_with fail
    have hs := set3_at HH1.out (.slice none 0 0) (.int .i64 0) (.bool false)
    have hB := set3_below HB1.out (show w.heap.size ≤ w.heap.size + 1 by omega) (.slice none 0 0) (.int .i64 0) (.bool false)
    have q0 : (set3 w1 (w.heap.size + 1) (.slice none 0 0) (.int .i64 0) (.bool false)).cell? ⟨w.heap.size + 1, 0, none⟩ = some (.slice none 0 0) := by rw [cell_at hs]; rfl
    have q1 : (set3 w1 (w.heap.size + 1) (.slice none 0 0) (.int .i64 0) (.bool false)).cell? ⟨w.heap.size + 1, 1, none⟩ = some (.int .i64 0) := by rw [cell_at hs]; rfl
    have q2 : (set3 w1 (w.heap.size + 1) (.slice none 0 0) (.int .i64 0) (.bool false)).cell? ⟨w.heap.size + 1, 2, none⟩ = some (.bool false) := by rw [cell_at hs]; rfl
    unfold set3 at hB q0 q1 q2
    exact bodyPost_ret (v := .tuple #[rrV none 0 0 0, .int .i64 6]) (by simp [results, Try.results32, go_sem, q0, q1, q2]) rfl ⟨hB, .inl ⟨by rw [HNN.out]; exact h40, rfl⟩⟩
  · have d : decide ((40 : Int) < (n : Int)) = false := decide_eq_false (by omega)
    have d' : decide (40 < n) = false := decide_eq_false h40
    go_wp2_with fail
    clear k0 k1 r0 r1 r2 zz
    go_loopw [20] (fun v20 wr => RLJ l R w w1 n v20 wr) (fun v20 _ => n - (intOf v20).toNat)
    case atStart => exact ⟨0, none, 0, rfl, by omega, fun f hf => by simp at hf, HH2.out, by simpa [rcC] using own_nil _ _ _ _, Below.refl _ _⟩
    case round =>
      obtain ⟨k, ak, ck, rfl, hk, hsh, hh, ho, hb⟩ := hrel
      have HH := Lib.hid hh
      have HO := Lib.hid ho
      have HB := Lib.hid hb
      have HSH := Lib.hid hsh
      have hzr := hb.size
      have hg2r : w.heap.size + 2 < wr.heap.size := by omega
      clear hh ho hb hsh
      by_cases hlt : k < n
      · have dk : decide (k < n) = true := decide_eq_true hlt
        have hkp : k < ps.length := by rw [HPN.out]; exact hlt
        have hFk : k < R.fs.length := by rw [HNN.out]; exact hlt
        rcases own_form HRI.out.own with ⟨_, h0⟩ | ⟨gf, hgf, _, hgf2⟩
        · simp only at h0; omega
        simp only at hgf
        subst hgf
        have hFP : ps[k].1 = R.fs[k] := by
          have h := HRI.out.fs; simp only at h
          simp only [← h, List.getElem_map]
        have hF := HOK.out _ (List.getElem_mem hFk)
        have hG := HOK2.out _ (List.getElem_mem hFk)
        have hBw : Below w.heap.size w wr := HB1.out.trans (HB.out.mono (show w.heap.size ≤ w.heap.size + 2 by omega))
        have hqp := own_below (HRI.out.parts ps[k] (List.getElem_mem hkp)) hBw
        have hd := fun (o : Nat) (u : Value) (ho : o < 4) (hu : (rfC1 ps[k])[o]? = some u) => (hBw.cell (p := ⟨gf, k * 4 + o, none⟩) hgf2).trans (own_cells HRI.out.own ((rfC_at ps k ps[k] o (List.getElem?_eq_getElem hkp) ho).trans hu))
        have q0 := hd 0 _ (by omega) rfl
        have q1 := hd 1 _ (by omega) rfl
        have q2 := hd 2 _ (by omega) rfl
        have q3 := hd 3 _ (by omega) rfl
        rw [hFP] at q0 q1 q2 q3 hqp
        rw [Nat.add_zero] at q0
        obtain ⟨a7, c7, h7⟩ : ∃ a7 c7, ps[k].2 = (a7, c7) := ⟨_, _, rfl⟩
        rw [h7] at q3 hqp
        simp only at q3 hqp
        have HST := Lib.hid (List.take_succ_eq_append_getElem hFk)
        have HMEM := Lib.hid (List.getElem_mem hFk)
        clear hd hFP h7 hBw
        generalize R.fs[k] = F at *
        have HXS := Lib.hid (ext_sub8 HS.out hG.1 hG.2)
        have HRC : Hid (rcF l F = (strOf (atL l F.pl), strOf (subL l F.from_ ((F.to_ : Int) - F.from_)), true)) := Lib.hid rfl
        have HLG : Hid (longF F ↔ 400 < F.pl.length) := Lib.hid Iff.rfl
        have hw1 : IntKind.i64.wrap ((F.from_ : Int) + ((F.to_ : Int) - F.from_)) = (F.to_ : Int) := by rw [IntKind.wrap_i64]; omega
        obtain ⟨hG1, hG2⟩ := hG
        generalize hx2 : (F.to_ : Int) - (F.from_ : Int) = x2 at *
        generalize F.kind = x3 at *
        generalize F.pl = Q at *
        generalize F.from_ = f at *
        generalize F.to_ = tt at *
        clear hx2
        have hs1 : tt ≤ s.size := by omega
        obtain ⟨nq, hnq⟩ : ∃ nq, Q.length = nq := ⟨_, rfl⟩
        have HNQ := Lib.hid hnq
        rw [hnq] at q3
        have al := below_al wr (Obj.cells #[Value.int IntKind.i64 f, Value.int IntKind.i64 x2, Value.int IntKind.i64 x3, Value.slice a7 nq c7] 46)
        have hfn := heap_alloc_new wr (Obj.cells #[Value.int IntKind.i64 f, Value.int IntKind.i64 x2, Value.int IntKind.i64 x3, Value.slice a7 nq c7] 46)
        have hzA : wr.heap.size < (wr.alloc (Obj.cells #[Value.int IntKind.i64 f, Value.int IntKind.i64 x2, Value.int IntKind.i64 x3, Value.slice a7 nq c7] 46)).heap.size := by simp
        have e2 : (0 : Int) ≤ (k : Int) := by omega
        have e3 : (k : Int) < (n : Int) := by omega
        have hz0r : w.heap.size < wr.heap.size := by omega
        have HF := Lib.hid hF
        have HQP := Lib.hid (own_below hqp al)
        have HO2 := Lib.hid (own_below HO.out al)
        have HH2' := Lib.hid ((al.block _ (lt_of_heap HH.out)).trans HH.out)
        have HB2 := Lib.hid (HB.out.trans (al.mono (by omega)))
        clear hnq hF hqp
        go_upto_region 7 with fail
        generalize wr.alloc (Obj.cells #[Value.int IntKind.i64 f, Value.int IntKind.i64 x2, Value.int IntKind.i64 x3, Value.slice a7 nq c7] 46) = w4 at *
        have b3 : w4.cell? ⟨wr.heap.size, 3, none⟩ = some (.slice a7 nq c7) := by rw [cell_at hfn]; rfl
        have HFN := Lib.hid hfn
        clear al hfn q0 q1 q2 q3
        by_cases hbig : 400 < nq
        · have dq : decide ((400 : Int) < (nq : Int)) = true := decide_eq_true (by omega)
          have dq' : decide (400 < nq) = true := decide_eq_true hbig
          have hh7 := (HB2.out.block (w.heap.size + 1) (by omega)).trans HH1.out
          have HH7 := Lib.hid hh7
          have zz := fun i => unfrozen hh7 i
          have r0 : w4.cell? ⟨w.heap.size + 1, 0, none⟩ = some (.slice none 0 0) := by rw [cell_at hh7]; rfl
          have r1 : w4.cell? ⟨w.heap.size + 1, 1, none⟩ = some (.int .i64 0) := by rw [cell_at hh7]; rfl
          have r2 : w4.cell? ⟨w.heap.size + 1, 2, none⟩ = some (.bool false) := by rw [cell_at hh7]; rfl
          clear hh7
          go_wp2_with fail
          have hs := set3_at HH7.out (.slice none 0 0) (.int .i64 0) (.bool false)
          have hB := set3_below (HB1.out.trans (HB2.out.mono (show w.heap.size ≤ w.heap.size + 2 by omega))) (show w.heap.size ≤ w.heap.size + 1 by omega) (.slice none 0 0) (.int .i64 0) (.bool false)
          have q0 : (set3 w4 (w.heap.size + 1) (.slice none 0 0) (.int .i64 0) (.bool false)).cell? ⟨w.heap.size + 1, 0, none⟩ = some (.slice none 0 0) := by rw [cell_at hs]; rfl
          have q1 : (set3 w4 (w.heap.size + 1) (.slice none 0 0) (.int .i64 0) (.bool false)).cell? ⟨w.heap.size + 1, 1, none⟩ = some (.int .i64 0) := by rw [cell_at hs]; rfl
          have q2 : (set3 w4 (w.heap.size + 1) (.slice none 0 0) (.int .i64 0) (.bool false)).cell? ⟨w.heap.size + 1, 2, none⟩ = some (.bool false) := by rw [cell_at hs]; rfl
          unfold set3 at hB q0 q1 q2
          exact bodyPost_ret (v := .tuple #[rrV none 0 0 0, .int .i64 7]) (by simp [results, Try.results32, go_sem, q0, q1, q2]) rfl ⟨hB, .inr (.inl ⟨by rw [HNN.out]; omega, ⟨F, HMEM.out, HLG.out.2 (by rw [HNQ.out]; exact hbig)⟩, rfl⟩)⟩
        · have dq : decide ((400 : Int) < (nq : Int)) = false := decide_eq_false (by omega)
          have dq' : decide (400 < nq) = false := decide_eq_false hbig
          go_upto_region 9 with fail
          clear b3
          generalize hL0 : (R.fs.take k).map (rcF l) = L0 at *
          have HI := Lib.hid (show Inv9 (w.heap.size + 2) wr.heap.size k ck w4.heap.size f nq c7 ak a7 x2 x3 R.fin (strOf (atL l Q)) (s.extract f tt) (rcC L0) w4 (Array.replicate ops9.size false) w4.drew from
            ⟨(Below.refl _ _).drew, Nat.le_refl _, HFN.out, fun _ => HH2'.out, fun _ => own_below HO2.out ((Below.refl _ _).drew), fun e => (by rw [mark_none] at e; cases e), fun e => (by rw [mark_none] at e; cases e), fun _ _ _ _ => rfl⟩)
          have HKb := Lib.hid (fun k' hk' => (HO.out.lt k' hk').2)
          have HTx := Lib.hid (fun (w' : World) hz hkp => text_of (w := w') (c := c7) HS.out (by omega) (rd_stays (HQP.out) rfl HO2.out (by decide) HH2'.out (by decide) hz hkp) HF.out.1 (by have := HF.out.2; omega))
          rw [HNQ.out] at HTx
          refine (congrArg (fun c => Code.wp Try.prog c _ _ _) (?_ : _ = Code.region 9 ops9 true)).mpr ?_
          · kernel_rfl
          refine reg9 (w.heap.size + 1 + 1) wr.heap.size k ck w4.heap.size f tt nq c7 ak a7 x2 x3 R.fin s (strOf (atL l Q)) (rcC L0) rfl rfl rfl rfl HI.out (by omega) hzA HKb.out (by omega) hw1 hs1 (by omega) (by omega) (by omega) (by omega) i0 hi0 hz0 hz1 hz2 HTx.out ?_
          rintro a' w' hd hs hfr h0x ⟨hb, hz, hkp, a9, c9, hfin, hown⟩
          have ha := frame_of hd hs hfr [29, 30, 31, 32, 33, 34, 35, 36, 37, 38, 39, 40, 41, 42, 43, 44, 45, 46, 47, 48, 49, 50] (by kernel_rfl)
          simp only [List.foldl_cons, List.foldl_nil] at ha
          clear hd hs hfr h0x
          generalize a'.tmps.getD 29 undef = v29 at ha
          generalize a'.tmps.getD 30 undef = v30 at ha
          generalize a'.tmps.getD 31 undef = v31 at ha
          generalize a'.tmps.getD 32 undef = v32 at ha
          generalize a'.tmps.getD 33 undef = v33 at ha
          generalize a'.tmps.getD 34 undef = v34 at ha
          generalize a'.tmps.getD 35 undef = v35 at ha
          generalize a'.tmps.getD 36 undef = v36 at ha
          generalize a'.tmps.getD 37 undef = v37 at ha
          generalize a'.tmps.getD 38 undef = v38 at ha
          generalize a'.tmps.getD 39 undef = v39 at ha
          generalize a'.tmps.getD 40 undef = v40 at ha
          generalize a'.tmps.getD 41 undef = v41 at ha
          generalize a'.tmps.getD 42 undef = v42 at ha
          generalize a'.tmps.getD 43 undef = v43 at ha
          generalize a'.tmps.getD 44 undef = v44 at ha
          generalize a'.tmps.getD 45 undef = v45 at ha
          generalize a'.tmps.getD 46 undef = v46 at ha
          generalize a'.tmps.getD 47 undef = v47 at ha
          generalize a'.tmps.getD 48 undef = v48 at ha
          generalize a'.tmps.getD 49 undef = v49 at ha
          generalize a'.tmps.getD 50 undef = v50 at ha
          subst ha
          have HF9 := Lib.hid hfin
          have HO9 := Lib.hid hown
          have HB9 := Lib.hid (HB2.out.trans (hb.mono (show w.heap.size + 2 ≤ w.heap.size + 1 + 1 by omega)))
          clear hfin hown hb hz hkp HI HKb HTx
          rename_i Kx hKx
          simp only [List.setIfInBounds_toArray, List.set_cons_succ, List.set_cons_zero]
          show Kx _ _
          go_wp2_with fail
          go_roundw
          case rel => exact ⟨k + 1, a9, c9, by simp, by omega, (by intro f' hf'; rw [HST.out] at hf'; exact (List.mem_append.mp hf').elim (fun h => HSH.out f' h) (fun h => by rw [List.mem_singleton.mp h, HLG.out, HNQ.out]; exact hbig)), HF9.out, (by rw [HST.out, List.map_append, hL0, List.map_singleton, rcC_snoc, HRC.out, ← HXS.out]; exact HO9.out), HB9.out⟩
          case measure => simp [intOf]; omega
      · have dk : decide (k < n) = false := decide_eq_false hlt
        obtain rfl : k = n := by omega
        have hh2 := HH.out
        have hh1 := (HB.out.block (w.heap.size + 1) (by omega)).trans HH1.out
        have zz := fun i => unfrozen hh1 i
        have x0 : wr.cell? ⟨w.heap.size + 1 + 1, 0, none⟩ = some (.slice ak k ck) := by rw [cell_at hh2]; rfl
        have x1 : wr.cell? ⟨w.heap.size + 1 + 1, 1, none⟩ = some (.int .i64 R.fin) := by rw [cell_at hh2]; rfl
        have x2 : wr.cell? ⟨w.heap.size + 1 + 1, 2, none⟩ = some (.bool false) := by rw [cell_at hh2]; rfl
        have r0 : wr.cell? ⟨w.heap.size + 1, 0, none⟩ = some (.slice none 0 0) := by rw [cell_at hh1]; rfl
        have r1 : wr.cell? ⟨w.heap.size + 1, 1, none⟩ = some (.int .i64 0) := by rw [cell_at hh1]; rfl
        have r2 : wr.cell? ⟨w.heap.size + 1, 2, none⟩ = some (.bool false) := by rw [cell_at hh1]; rfl
        have HHr := Lib.hid hh1
        have HBr := Lib.hid (HB1.out.trans (HB.out.mono (show w.heap.size ≤ w.heap.size + 2 by omega)))
        clear hh1 hh2
        go_wp2_with fail
        have htk : R.fs.take k = R.fs := by rw [← HNN.out]; exact List.take_length
        have hos : (set3 wr (w.heap.size + 1) (.slice ak k ck) (.int .i64 R.fin) (.bool false)).ownsRow w.heap.size 53 3 (.slice ak k ck) k (rcC (R.fs.map (rcF l))) := by
          have h1 := HO.out
          rw [htk] at h1
          have n0 := own_ne h1 HHr.out (by decide)
          unfold set3
          exact own_mono (own_set (own_set (own_set h1 n0) n0) n0) (by omega)
        have hs := set3_at HHr.out (.slice ak k ck) (.int .i64 R.fin) (.bool false)
        have hB := set3_below HBr.out (show w.heap.size ≤ w.heap.size + 1 by omega) (.slice ak k ck) (.int .i64 R.fin) (.bool false)
        have q0 : (set3 wr (w.heap.size + 1) (.slice ak k ck) (.int .i64 R.fin) (.bool false)).cell? ⟨w.heap.size + 1, 0, none⟩ = some (.slice ak k ck) := by rw [cell_at hs]; rfl
        have q1 : (set3 wr (w.heap.size + 1) (.slice ak k ck) (.int .i64 R.fin) (.bool false)).cell? ⟨w.heap.size + 1, 1, none⟩ = some (.int .i64 R.fin) := by rw [cell_at hs]; rfl
        have q2 : (set3 wr (w.heap.size + 1) (.slice ak k ck) (.int .i64 R.fin) (.bool false)).cell? ⟨w.heap.size + 1, 2, none⟩ = some (.bool false) := by rw [cell_at hs]; rfl
        unfold set3 at hos hB q0 q1 q2
        exact bodyPost_ret (v := .tuple #[rrV ak k ck R.fin, .int .i64 0]) (by simp [results, Try.results32, go_sem, q0, q1, q2]) rfl ⟨hB, .inr (.inr ⟨by rw [HNN.out]; omega, (by intro f' hf'; exact HSH.out f' (by rw [htk]; exact hf')), ak, ck, (by rw [HNN.out]), (by rw [HNN.out]; exact hos)⟩)⟩

theorem str_ext8 (l : List UInt8) (i j : Nat) : (strOf l).extract i j = strOf ((l.drop i).take (j - i)) := by
  apply ByteArray.ext
  simp [strOf, ByteArray.data_extract]
theorem take_ext8 (l : List UInt8) (q n : Nat) : l.take q ++ (l.drop q).take n = l.take (q + n) := by rw [List.take_add]
theorem take_one8 (l : List UInt8) (q : Nat) (h : q < l.length) (x : UInt8) (hx : lb l q = x.toNat) : l.take q ++ [x] = l.take (q + 1) := by
  rw [List.take_succ_eq_append_getElem h]
  have : l[q] = x := by
    unfold lb at hx
    rw [List.getD_eq_getElem?_getD, List.getElem?_eq_getElem h] at hx
    have hx' : ((l[q].toNat : Nat) : Int) = x.toNat := by simpa using hx
    apply UInt8.toNat_inj.1
    omega
  rw [this]

theorem mark_ext8 {l : List UInt8} {k : Nat} (hk : k < l.length) : strOf (l.take (fieldsP l k).2) ++ markS (rowP l k).fin = strOf (l.take (rowP l k).next) ∧ ((rowP l k).fin = 0 → (rowP l k).next = l.length ∧ (fieldsP l k).2 = l.length) := by
  obtain ⟨a, b, c, d, _⟩ := fieldsP_spec l _ k rfl (by omega)
  unfold rowP
  simp only
  generalize (fieldsP l k).2 = q at *
  rcases endP_spec c d b with ⟨e, f⟩ | ⟨e, f, g⟩ | ⟨e, f, g, h⟩ | ⟨e, f, g, h⟩ <;> rw [e]
  · refine ⟨?_, fun _ => ⟨?_, f.symm⟩⟩
    · show strOf (l.take q) ++ strOf [] = strOf (l.take (q + 0)); rw [strOf_app]; simp
    · show q + 0 = _; omega
  · refine ⟨?_, fun h => by cases h⟩
    show strOf (l.take q) ++ strOf [10] = strOf (l.take (q + 1)); rw [strOf_app, take_one8 l q f 10 g]
  · refine ⟨?_, fun h => by cases h⟩
    show strOf (l.take q) ++ strOf [13, 10] = strOf (l.take (q + 2))
    rw [strOf_app, show ([13, 10] : List UInt8) = [13] ++ [10] from rfl, ← List.append_assoc, take_one8 l q (by omega) 13 g, take_one8 l (q + 1) f 10 h]
  · refine ⟨?_, fun h => by cases h⟩
    show strOf (l.take q) ++ strOf [13] = strOf (l.take (q + 1)); rw [strOf_app, take_one8 l q f 13 g]

theorem allP_step8 {l : List UInt8} {k r : Nat} {R : List Rw} (h : R.drop r = allP l k) (hr : r < R.length) : k < l.length ∧ R[r] = rowP l k ∧ R.drop (r + 1) = allP l (rowP l k).next := by
  rw [List.drop_eq_getElem_cons hr] at h
  rcases Nat.lt_or_ge k l.length with h1 | h1
  · rw [allP_more h1] at h
    injection h with h2 h3
    exact ⟨h1, h2, h3⟩
  · rw [allP_end h1] at h; cases h
theorem sub_take {l : List UInt8} {i j : Nat} (hi : i ≤ j) (hj : j ≤ l.length) : subL l i ((j : Int) - i) = (l.drop i).take (j - i) := by
  unfold subL rightB
  rw [if_pos (by simp only [decide_eq_true_eq]; omega)]
  congr 1
  · omega
theorem jnP_two (x y : List UInt8) (r : List (List UInt8)) : jnP (x :: y :: r) = x ++ 44 :: jnP (y :: r) := by simp [jnP]
def rawF (l : List UInt8) (F : Fd) : List UInt8 := subL l F.from_ ((F.to_ : Int) - F.from_)
theorem jn_row (l : List UInt8) : ∀ n k, l.length - k = n → k ≤ l.length → l.take k ++ jnP ((fieldsP l k).1.map (rawF l)) = l.take (fieldsP l k).2
  | n, k, hn, hk => by
    obtain ⟨a, b, c, _⟩ := fieldP_spec hk
    have hr : rawF l (fieldP l k) = (l.drop k).take ((fieldP l k).to_ - k) := by
      unfold rawF; rw [fieldP_from]; exact sub_take a b
    have ht : l.take k ++ rawF l (fieldP l k) = l.take (fieldP l k).to_ := by
      rw [hr, take_ext8]; congr 1; omega
    by_cases h : (fieldP l k).to_ < l.length ∧ lb l (fieldP l k).to_ = 44
    · rw [fieldsP_more hk h.1 h.2]
      have ih := jn_row l (l.length - ((fieldP l k).to_ + 1)) ((fieldP l k).to_ + 1) rfl (by omega)
      rw [← take_one8 l _ h.1 44 h.2, ← ht] at ih
      simp only [List.map_cons]
      generalize hfs : (fieldsP l ((fieldP l k).to_ + 1)).1 = fs at *
      have hne : fs ≠ [] := by
        rw [← hfs]
        by_cases h3 : (fieldP l ((fieldP l k).to_ + 1)).to_ < l.length ∧ lb l (fieldP l ((fieldP l k).to_ + 1)).to_ = 44
        · rw [fieldsP_more (by omega) h3.1 h3.2]; simp
        · rw [fieldsP_last h3]; simp
      cases fs with
      | nil => exact absurd rfl hne
      | cons y ys =>
        rw [List.map_cons, jnP_two, ← ih]
        simp [List.map_cons]
    · rw [fieldsP_last h]
      simp only [List.map_cons, List.map_nil, jnP, List.flatMap_nil, List.append_nil]
      exact ht
termination_by n => n
decreasing_by omega

def kkC (l : List UInt8) (q : Int × Int × Bool × List Int) : RCM := (strOf (atL l q.2.2.2), (if q.2.2.1 = true then strOf (subL l q.1 q.2.1) else ⟨#[]⟩), q.2.2.1)
def pkC (l : List UInt8) (q : Int × Int × Bool × List Int) : List UInt8 := if q.2.2.1 = true then subL l q.1 q.2.1 else putP (atL l q.2.2.2)
theorem rc_key {l : List UInt8} {Ms : List CelM} {fs : List Fd} (h : Ms.map keyC = fs.map keyF) : Ms.map (rc l) = fs.map (rcF l) := by
  have h1 : Ms.map (rc l) = (Ms.map keyC).map (kkC l) := by rw [List.map_map]; rfl
  have h2 : fs.map (rcF l) = (fs.map keyF).map (kkC l) := by rw [List.map_map]; rfl
  rw [h1, h2, h]
theorem pr_key {l : List UInt8} {Ms : List CelM} {fs : List Fd} (h : Ms.map keyC = fs.map keyF) : Ms.map (prP l) = fs.map (rawF l) := by
  have h1 : Ms.map (prP l) = (Ms.map keyC).map (pkC l) := by rw [List.map_map]; rfl
  have h2 : fs.map (rawF l) = (fs.map keyF).map (pkC l) := by rw [List.map_map]; rfl
  rw [h1, h2, h]
theorem row_text {l : List UInt8} {k : Nat} {Ms : List CelM} (hk : k < l.length) (h : Ms.map keyC = (rowP l k).fs.map keyF) :
    strOf (jnP (Ms.map (prP l))) ++ markS (rowP l k).fin = (strOf l).extract k (rowP l k).next := by
  have h1 := (mark_ext8 hk).1
  rw [← jn_row l _ k rfl (by omega), ← pr_key (l := l) (Ms := Ms) (fs := (fieldsP l k).1) h] at h1
  have hn := rowP_next hk
  rw [str_ext8]
  generalize (rowP l k).next = nx at *
  generalize jnP (Ms.map (prP l)) = J at *
  obtain ⟨M, hM⟩ : ∃ M, markS (rowP l k).fin = strOf M := ⟨_, (strOf_data _).symm⟩
  rw [hM, strOf_app] at h1 ⊢
  have h2 := strOf_eq h1
  rw [show nx = k + (nx - k) by omega, ← take_ext8, List.append_assoc] at h2
  rw [List.append_cancel_left h2]

open Classical in
noncomputable def erOf (R : Rw) : Int := if 40 < R.fs.length then 6 else if ∃ f ∈ R.fs, longF f then 7 else 0
noncomputable def lsR (l : List UInt8) (R : Rw) : List RCM := if erOf R = 0 then R.fs.map (rcF l) else []
noncomputable def fnR (R : Rw) : Int := if erOf R = 0 then R.fin else 0
theorem er6 {R : Rw} (h : 40 < R.fs.length) : erOf R = 6 := by unfold erOf; rw [if_pos h]
theorem er7 {R : Rw} (h : R.fs.length ≤ 40) (h2 : ∃ f ∈ R.fs, longF f) : erOf R = 7 := by unfold erOf; rw [if_neg (by omega), if_pos h2]
theorem er0 {R : Rw} (h : R.fs.length ≤ 40) (h2 : ∀ f ∈ R.fs, ¬ longF f) : erOf R = 0 := by
  unfold erOf; rw [if_neg (by omega), if_neg (fun ⟨f, hf, hl⟩ => h2 f hf hl)]
theorem lsR_len (l : List UInt8) (R : Rw) : (lsR l R).length ≤ 40 := by
  unfold lsR
  split
  · rename_i h
    rw [List.length_map]
    by_cases h4 : 40 < R.fs.length
    · rw [er6 h4] at h; cases h
    · omega
  · simp
theorem ro_none (w : World) (l : List UInt8) : RoIn w l none [] := ⟨⟨rfl, fun hn => absurd hn (by simp)⟩, (fun q hq => by simp at hq), (fun d hd => by cases hd)⟩
theorem ld_one {l : List UInt8} {R : Rw} {w w' : World} {e : Ending} (h : LdPost l R w e w') :
    ∃ (a : Option Addr) (c : Nat) (Ms : List CelM), e = .returned (.tuple #[rowV a Ms.length c (fnR R) false, .int .i64 (erOf R)]) ∧ RoIn w' l a Ms ∧ Ms.length ≤ 40 ∧ Ms.map (rc l) = lsR l R ∧ (erOf R = 0 → Ms.map keyC = R.fs.map keyF ∧ fnR R = R.fin) ∧ Ms.length = c ∧ (a = none → c = 0) ∧ Below w.heap.size w w' := by
  obtain ⟨hb, h | h | h⟩ := h
  · obtain ⟨h1, rfl⟩ := h
    refine ⟨none, 0, [], ?_, ro_none _ _, by simp, ?_, ?_, by simp, fun _ => rfl, hb⟩ <;> simp [fnR, lsR, er6 h1]
  · obtain ⟨h1, h2, rfl⟩ := h
    refine ⟨none, 0, [], ?_, ro_none _ _, by simp, ?_, ?_, by simp, fun _ => rfl, hb⟩ <;> simp [fnR, lsR, er7 h1 h2]
  · obtain ⟨h1, h2, a, c, Ms, rfl, hk, hr, hcl, hcn⟩ := h
    have hl : Ms.length = R.fs.length := by have := congrArg List.length hk; simpa using this
    refine ⟨a, c, Ms, ?_, hr, by omega, ?_, ?_, hcl, hcn, hb⟩ <;> simp [fnR, lsR, er0 h1 h2, rc_key hk, hk]
theorem rld_one {l : List UInt8} {R : Rw} {w w' : World} {e : Ending} (h : RLdPost l R w e w') :
    ∃ (a : Option Addr) (c : Nat), e = .returned (.tuple #[rrV a (lsR l R).length c (fnR R), .int .i64 (erOf R)]) ∧ Rd w' 3 a (lsR l R).length (rcC (lsR l R)) ∧ Below w.heap.size w w' := by
  obtain ⟨hb, h | h | h⟩ := h
  · obtain ⟨h1, rfl⟩ := h
    refine ⟨none, 0, ?_, ?_, hb⟩ <;> simp [fnR, lsR, er6 h1]
    exact ⟨rfl, fun hn => absurd hn (by simp)⟩
  · obtain ⟨h1, h2, rfl⟩ := h
    refine ⟨none, 0, ?_, ?_, hb⟩ <;> simp [fnR, lsR, er7 h1 h2]
    exact ⟨rfl, fun hn => absurd hn (by simp)⟩
  · obtain ⟨h1, h2, a, c, rfl, ho⟩ := h
    have hr := own_rd ho
    refine ⟨a, c, ?_, ?_, hb⟩ <;> simp [fnR, lsR, er0 h1 h2]
    exact hr

theorem cut8_of (s : ByteArray) (n : Nat) (w : World) (hs : s.size ≤ maxLen) (hn : n ≤ maxLen) :
    Calls Try.prog 30 #[.string s, .int .i64 n] w fun e w' => e = .returned (.string (cutS s n)) ∧ w = w' := by
  unfold maxLen at hs hn
  by_cases h : n < s.size
  · have e : cutS s n = s.extract 0 n := by unfold cutS; rw [if_pos h]
    rw [e]
    clear e
    go_enter Try.func30, Try.ntmps30
    go_wp2
    go_ret
    exact ⟨rfl, rfl⟩
  · have e : cutS s n = s := by unfold cutS; rw [if_neg h]
    rw [e]
    clear e
    go_enter Try.func30, Try.ntmps30
    go_wp2
    go_ret
    exact ⟨rfl, rfl⟩

/-- What holds at the head of RowLoads' loop. -/
def RlJ (l : List UInt8) (Rs : List Rw) (n : Nat) (w : World) (v7 v39 : Value) (wr : World) : Prop := ∃ r k : Nat, v39 = .int .i64 r ∧ v7 = .int .i64 k ∧ r ≤ n ∧ k ≤ l.length ∧ Rs.drop r = allP l k ∧ Below w.heap.size w wr

set_option maxRecDepth 100000 in
set_option maxHeartbeats 8000000 in
theorem rowLoads_walk (s : ByteArray) (w : World) (hs : s.size ≤ maxLen) (hml : ML w) :
    Calls Try.prog 6 #[.string s] w fun e w' => e = .returned (.bool true) ∧ Below w.heap.size w w' := by
  have HC := Lib.hid (fun w' => cut8_of s 4000 w' hs (by decide))
  have hcl := cutS_le s 4000
  have HML := Lib.hid hml
  clear hs hml
  generalize cutS s 4000 = t at *
  obtain ⟨l, hl⟩ : ∃ l, t.data.toList = l := ⟨_, rfl⟩
  have hsz := sz_of hl
  rw [hsz] at hcl
  have HL := Lib.hid hl
  clear hl
  go_enter Try.func6, Try.ntmps6
  go_wp2_with fail
  refine (HC.out _).mono ?_; rintro e wx ⟨rfl, rfl⟩
  obtain ⟨cap, W1, hcv, hH, hb1⟩ := held_of t w (by rw [hsz]; unfold maxLen; omega)
  have hrd : Rd W1 1 (some ⟨w.heap.size, 0, none⟩) l.length (bc l) := by have := rd_held hH; rw [HL.out] at this; exact this
  have HN := Lib.hid (new_of _ cap hrd (by omega))
  have HB12 := Lib.hid hb1
  rw [hsz] at hcv
  clear hH hb1 HC hrd
  go_wp2_with fail
  refine HN.out.mono ?_; rintro e w3 ⟨p, rfl, hA, hb2⟩
  have HA3 := Lib.hid hA
  have HB4 := Lib.hid (HB12.out.trans (hb2.mono HB12.out.size))
  clear hA hb2 HN hcv HB12
  obtain ⟨cap, W2, hcv, hH, hb2⟩ := held_of t w3 (by rw [hsz]; unfold maxLen; omega)
  have hrd : Rd W2 1 (some ⟨w3.heap.size, 0, none⟩) l.length (bc l) := by have := rd_held hH; rw [HL.out] at this; exact this
  have HALL := Lib.hid (all_of (c := cap) hrd (by omega) (by rw [← hsz]; exact hH.fits) hH.cap)
  have HB5 := Lib.hid hb2
  rw [hsz] at hcv
  clear hH hb2 hrd
  go_wp2_with fail
  refine HALL.out.mono ?_; rintro e w4 ⟨rs, a4, c4, rfl, hm, ho, hi, hb⟩
  have HW4 := Lib.hid (HB5.out.trans (hb.mono HB5.out.size))
  have HA4 := Lib.hid (HA3.out.below HW4.out)
  have HB6 := Lib.hid (HB4.out.trans (HW4.out.mono HB4.out.size))
  have HM := Lib.hid hm
  have HO := Lib.hid ho
  have HI := Lib.hid hi
  have hrl : rs.length ≤ 4000 := by
    have h1 := congrArg List.length hm
    have h2 := allP_cnt l _ 0 rfl
    rw [List.length_map] at h1
    omega
  have HRA := Lib.hid (rall_of HL.out (by omega) w4)
  clear hm ho hi hb HALL hcv HA3 HB4 HB5 HW4
  go_wp2_with fail
  refine HRA.out.mono ?_; rintro e w5 ⟨qs, a6, c6, rfl, hm2, ho2, hi2, hb2⟩
  have hlq : qs.length = rs.length := by
    have h1 := congrArg List.length hm2
    have h2 := congrArg List.length HM.out
    rw [List.length_map] at h1 h2
    omega
  have HM2 := Lib.hid hm2
  have HQ := Lib.hid ho2
  have HJ := Lib.hid hi2
  have HO5 := Lib.hid (own_below HO.out hb2)
  have HI5 := Lib.hid (HI.out.below hb2)
  have HA5 := Lib.hid (HA4.out.below hb2)
  have HB7 := Lib.hid (HB6.out.trans (hb2.mono HB6.out.size))
  have HLQ := Lib.hid hlq
  rw [hlq]
  have dn : ((rs.length : Int) != (rs.length : Int)) = false := by simp
  clear hm2 ho2 hi2 hb2 HRA HA4 HB6 HO HI hlq
  obtain ⟨n, hnr⟩ : ∃ n, rs.length = n := ⟨_, rfl⟩
  have HNR := Lib.hid hnr
  rw [hnr] at hrl dn ⊢
  clear hnr
  go_wp2_with fail
  go_loopw [7, 39] (fun v7 v39 wr => RlJ l (allP l 0) n w5 v7 v39 wr) (fun _ v39 _ => n - (intOf v39).toNat)
  case atStart => exact ⟨0, 0, rfl, rfl, by omega, by omega, rfl, Below.refl _ _⟩
  case round =>
    obtain ⟨r, k, rfl, rfl, hr, hk, hd, hb⟩ := hrel
    have HB := Lib.hid hb
    have hzr := hb.size
    by_cases hlt : r < n
    · have dr : decide (r < n) = true := decide_eq_true hlt
      have hltr : r < rs.length := by rw [HNR.out]; exact hlt
      have hltq : r < qs.length := by rw [HLQ.out]; exact hltr
      rcases own_form HO5.out with ⟨_, h0⟩ | ⟨g, hge, _, hg⟩
      · omega
      rcases own_form HQ.out with ⟨_, h0⟩ | ⟨g2, hg2e, _, hg2⟩
      · omega
      subst hge hg2e
      have hRl : r < (allP l 0).length := by rw [← HM.out, List.length_map]; exact hltr
      obtain ⟨hkl, hRr, hD2⟩ := allP_step8 hd hRl
      have hR1 : rs[r].1 = rowP l k := by
        have h1 : (rs.map (·.1))[r]? = (allP l 0)[r]? := by rw [HM.out]
        rw [List.getElem?_map, List.getElem?_eq_getElem hltr, List.getElem?_eq_getElem hRl, hRr] at h1
        simpa using h1
      have hR2 : qs[r].1 = rowP l k := by
        have h1 : (qs.map (·.1))[r]? = (allP l 0)[r]? := by rw [HM2.out]
        rw [List.getElem?_map, List.getElem?_eq_getElem hltq, List.getElem?_eq_getElem hRl, hRr] at h1
        simpa using h1
      have hmem : rowP l k ∈ allP l 0 := by rw [← hRr]; exact List.getElem_mem _
      have hrf := row_fields hmem
      have hrf2 := row_fields2 hmem
      have hnx := rowP_next hkl
      have hri := HI5.out rs[r] (List.getElem_mem hltr)
      have hqi := HJ.out qs[r] (List.getElem_mem hltq)
      have p0 := (HB.out.cell (p := ⟨g, r * 2 + 0, none⟩) hg).trans (own_cells HO5.out ((rwC_at rs r rs[r] 0 (List.getElem?_eq_getElem hltr) (by omega)).trans rfl))
      have p1 := (HB.out.cell (p := ⟨g, r * 2 + 1, none⟩) hg).trans (own_cells HO5.out ((rwC_at rs r rs[r] 1 (List.getElem?_eq_getElem hltr) (by omega)).trans rfl))
      have q0 := (HB.out.cell (p := ⟨g2, r * 2 + 0, none⟩) hg2).trans (own_cells HQ.out ((rwC_at qs r qs[r] 0 (List.getElem?_eq_getElem hltq) (by omega)).trans rfl))
      have q1 := (HB.out.cell (p := ⟨g2, r * 2 + 1, none⟩) hg2).trans (own_cells HQ.out ((rwC_at qs r qs[r] 1 (List.getElem?_eq_getElem hltq) (by omega)).trans rfl))
      rw [Nat.add_zero] at p0 q0
      have HD2 := Lib.hid hD2
      clear hRr hD2 hd hmem
      generalize hP : rs[r] = P at *
      generalize hQ' : qs[r] = Q at *
      clear hP hQ'
      obtain ⟨R, ps, pa, pc⟩ := P
      obtain ⟨R', zs, qa, qc⟩ := Q
      simp only at hR1 hR2 p0 p1 q0 q1
      subst hR1 hR2
      generalize hRK : rowP l k = R at *
      have HRK := Lib.hid hRK
      have hpl : ps.length = R.fs.length := by rw [← hri.fs]; simp
      have hzl : zs.length = R.fs.length := by rw [← hqi.fs]; simp
      rw [hpl] at p0
      rw [hzl] at q0
      have HRI := Lib.hid (hri.below hb)
      have HQI := Lib.hid (hqi.below hb)
      have HRF := Lib.hid hrf
      have HRG := Lib.hid hrf2
      have hnf : R.fs.length ≤ 4001 := by have := hrf.1; omega
      obtain ⟨hnx1, hnx2⟩ := hnx
      have i0 : (0 : Int) ≤ (r : Int) := by omega
      have i1 : (r : Int) < (n : Int) := by omega
      have hgq : g < wr.heap.size := by omega
      have hg2q : g2 < wr.heap.size := by omega
      have HLd := Lib.hid (rload_of HRI.out (fun f hf => HRF.out.2 f hf) (by omega) (by omega))
      clear hri hqi hrf hrf2 hpl hzl hb hRK
      go_wp2_with fail
      refine HLd.out.mono ?_; rintro e w6 hpost
      obtain ⟨a6', c6', Ms, rfl, hro, hml, hrc, hkey, -, -, hb6⟩ := ld_one hpost
      clear hpost
      have HRO := Lib.hid hro
      have HRC := Lib.hid hrc
      have HKE := Lib.hid hkey
      obtain ⟨nm, hnm⟩ : ∃ nm, Ms.length = nm := ⟨_, rfl⟩
      have HNM := Lib.hid hnm
      rw [hnm] at hml ⊢
      generalize hfn' : fnR R = fn at *
      generalize her : erOf R = er at *
      have al := below_al w6 (Obj.cells #[Value.slice a6' nm c6', Value.int .i64 fn, Value.bool false] 81)
      have hfn := heap_alloc_new w6 (Obj.cells #[Value.slice a6' nm c6', Value.int .i64 fn, Value.bool false] 81)
      have hb7 := hb6.trans (al.mono hb6.size)
      have q0r := (hb7.cell (p := ⟨g2, r * 2, none⟩) hg2q).trans q0
      have q1r := (hb7.cell (p := ⟨g2, r * 2 + 1, none⟩) hg2q).trans q1
      have HRR := Lib.hid (rrload_of (s := t) HL.out (HQI.out.below hb7) (fun f hf => HRF.out.2 f hf) (fun f hf => HRG.out f hf) (by omega) (by omega))
      have HB7' := Lib.hid hb7
      have HFN := Lib.hid hfn
      have HAL := Lib.hid al
      clear hro hrc hkey hnm hb6 al hfn hb7 HLd p0 p1 q0 q1
      go_wp2_with fail
      refine HRR.out.mono ?_; rintro e w8 hpost
      obtain ⟨b6, d6, rfl, hrd, hb8⟩ := rld_one hpost
      clear hpost HRR
      generalize hLS : lsR l R = L at *
      have hLn : L.length = nm := by rw [← HRC.out, List.length_map, HNM.out]
      have HLN := Lib.hid hLn
      rw [hLn] at hrd
      rw [hLn, hfn', her]
      clear hLS hLn
      have al2 := below_al w8 (Obj.cells #[Value.slice b6 nm d6, Value.int .i64 fn, Value.bool false] 86)
      have hfn2 := heap_alloc_new w8 (Obj.cells #[Value.slice b6 nm d6, Value.int .i64 fn, Value.bool false] 86)
      have hzA : w6.heap.size < (w6.alloc (Obj.cells #[Value.slice a6' nm c6', Value.int .i64 fn, Value.bool false] 81)).heap.size := by simp
      have hzB : w8.heap.size < (w8.alloc (Obj.cells #[Value.slice b6 nm d6, Value.int .i64 fn, Value.bool false] 86)).heap.size := by simp
      have hb9 := hb8.trans (al2.mono hb8.size)
      have HH9 := Lib.hid ((hb9.block w6.heap.size hzA).trans HFN.out)
      have HG9 := Lib.hid hfn2
      have HBX := Lib.hid (HB7'.out.trans (hb9.mono HB7'.out.size))
      have HRO9 := Lib.hid ((HRO.out.below HAL.out).below hb9)
      have HRD9 := Lib.hid (hrd.below al2)
      have hz9 := hb8.size
      clear hb8 al2 hfn2 hb9 hrd q0r q1r HFN HAL HRO
      go_upto_region 12 with fail
      generalize w8.alloc (Obj.cells #[Value.slice b6 nm d6, Value.int .i64 fn, Value.bool false] 86) = w9 at *
      have HA9 := Lib.hid (HA5.out.below (HB.out.trans (HBX.out.mono hzr)))
      have hlt6 : w6.heap.size < w9.heap.size := by omega
      have ld0 := fun w' (h : Below w9.heap.size w9 w') => (h.cell (p := ⟨w6.heap.size, 0, none⟩) hlt6).trans (show w9.cell? ⟨w6.heap.size, 0, none⟩ = some (.slice a6' nm c6') by rw [cell_at HH9.out]; rfl)
      have ld1 := fun w' (h : Below w9.heap.size w9 w') => (h.cell (p := ⟨w6.heap.size, 1, none⟩) hlt6).trans (show w9.cell? ⟨w6.heap.size, 1, none⟩ = some (.int .i64 fn) by rw [cell_at HH9.out]; rfl)
      have ld2 := fun w' (h : Below w9.heap.size w9 w') => (h.cell (p := ⟨w6.heap.size, 2, none⟩) hlt6).trans (show w9.cell? ⟨w6.heap.size, 2, none⟩ = some (.bool false) by rw [cell_at HH9.out]; rfl)
      have le0 := fun w' (h : Below w9.heap.size w9 w') => (h.cell (p := ⟨w8.heap.size, 0, none⟩) hzB).trans (show w9.cell? ⟨w8.heap.size, 0, none⟩ = some (.slice b6 nm d6) by rw [cell_at HG9.out]; rfl)
      have le1 := fun w' (h : Below w9.heap.size w9 w') => (h.cell (p := ⟨w8.heap.size, 1, none⟩) hzB).trans (show w9.cell? ⟨w8.heap.size, 1, none⟩ = some (.int .i64 fn) by rw [cell_at HG9.out]; rfl)
      have le2 := fun w' (h : Below w9.heap.size w9 w') => (h.cell (p := ⟨w8.heap.size, 2, none⟩) hzB).trans (show w9.cell? ⟨w8.heap.size, 2, none⟩ = some (.bool false) by rw [cell_at HG9.out]; rfl)
      have HPl : Hid (∀ w', Below w9.heap.size w9 w' → Calls Try.prog 34 #[.pointer (some ⟨p, 0, none⟩), rowV a6' nm c6' fn false] w' fun e w'' => ∃ a' c', e = .returned (.agg #[.slice a' nm c', .int .i64 fn, .bool false]) ∧ Rd w'' 3 a' nm (rcC L) ∧ Below w'.heap.size w' w'') := by
        refine Lib.hid (fun w' h => ?_)
        have := rplain_of (c := c6') (e := fn) (h := false) (HA9.out.below h) (by omega) (HRO9.out.below h) (by rw [HNM.out]; omega)
        rw [HNM.out, HRC.out] at this
        exact this.mono (fun e w'' ⟨a', c', h1, h2, h3⟩ => ⟨a', c', h1, own_rd h2, h3⟩)
      have HSm : Hid (∀ w' a' c', Below w9.heap.size w9 w' → Rd w' 3 a' nm (rcC L) → Calls Try.prog 33 #[.agg #[.slice a' nm c', .int .i64 fn, .bool false], .agg #[.slice b6 nm d6, .int .i64 fn, .bool false]] w' fun e w'' => e = .returned (.bool true) ∧ Below w'.heap.size w' w'') := by
        refine Lib.hid (fun w' a' c' h hr => ?_)
        have hr2 := HRD9.out.below h
        rw [← HLN.out] at hr hr2 ⊢
        have := rrsame_of (c := c') (d := d6) (e := fn) (f := fn) (h := false) (k := false) hr hr2 (by rw [HLN.out]; omega) (by rw [HLN.out]; omega)
        rw [show decide (fn = fn ∧ false = false ∧ L = L) = true by simp] at this
        exact this
      have der : (er != er) = false := by simp
      have hb0 : Below w9.heap.size w9 w9.drew := (Below.refl _ _).drew
      have dnot : (!true) = false := rfl
      go_region_held_law (fun w' => Below w9.heap.size w9 w')
        (first | assumption)
        ((first
          | (go_at_call 34; refine (HPl.out _ hb0).mono ?_; rintro e wa ⟨aP, cP, rfl, hrP, hba⟩; have hsa := hb0.trans (hba.mono hb0.size); have HRP := Lib.hid hrP; clear hba hrP)
          | (go_at_call 33; refine (HSm.out _ aP cP hsa HRP.out).mono ?_; rintro e wb ⟨rfl, hbb⟩; have hsb := hsa.trans (hbb.mono hsa.size); clear hbb)))
      all_goals
        have HBb := Lib.hid hsb
        have HBB := Lib.hid (HBX.out.trans (hsb.mono (by have := HBX.out.size; omega)))
        have HOn := Lib.hid (rone_of HL.out (by omega) k hkl wb)
        rw [HRK.out] at HOn
        have HRO2 := Lib.hid (HRO9.out.below hsb)
        have HA2 := Lib.hid (HA9.out.below hsb)
        have HH2 := Lib.hid ((hsb.block w6.heap.size hlt6).trans HH9.out)
        have hlt6b : w6.heap.size < wb.heap.size := by have := hsb.size; omega
        clear hsa hsb hb0 ld0 ld1 ld2 le0 le1 le2 HPl HSm der
        clear HRP
        go_upto_region 14 with fail
        go_wp2_with fail
        refine HOn.out.mono ?_; rintro e wc ⟨zs2, a9, c9, rfl, hm9, ho9, hi9, hb9⟩
        have al := below_al wc (Obj.cells #[Value.slice a9 zs2.length c9, Value.int .i64 R.fin] 37)
        have hb10 := hb9.trans (al.mono hb9.size)
        have HH3 := Lib.hid ((hb10.block w6.heap.size hlt6b).trans HH2.out)
        have HRO3 := Lib.hid (HRO2.out.below hb10)
        have HA3 := Lib.hid (HA2.out.below hb10)
        have HBC := Lib.hid (HBB.out.trans (hb10.mono HBB.out.size))
        have hlt6c : w6.heap.size < (wc.alloc (Obj.cells #[Value.slice a9 zs2.length c9, Value.int .i64 R.fin] 37)).heap.size := by have := hb10.size; omega
        clear hm9 ho9 hi9 hb9 al hb10 HOn HRO2 HA2 HH2
        go_upto_region 15 with fail
        generalize wc.alloc (Obj.cells #[Value.slice a9 zs2.length c9, Value.int .i64 R.fin] 37) = wd at *
        generalize hnxt : R.next = nx at *
        by_cases h0 : er = 0
        · subst h0
          obtain ⟨hkk, hfe⟩ := HKE.out rfl
          have hHEQ : strOf (jnP (Ms.map (prP l))) ++ markS fn = t.extract k nx := by
            have h1 := row_text hkl (show Ms.map keyC = (rowP l k).fs.map keyF by rw [HRK.out]; exact hkk)
            rw [HRK.out, hnxt] at h1
            rw [hfe, h1, ← HL.out, strOf_data]
          have HPr := Lib.hid (fun w' (h : Below wd.heap.size wd w') => rprint_of (c := c6') (e := fn) (h := false) (HA3.out.below h) (by omega) (HRO3.out.below h) (by rw [HNM.out]; omega))
          rw [HNM.out] at HPr
          generalize jnP (Ms.map (prP l)) = J at *
          generalize hSJ : strOf J = SJ at *
          have HSJ := Lib.hid hSJ
          have HMk := Lib.hid (fun w' => rmark_of fn w')
          generalize markS fn = MS at *
          have hsum : SJ.size + MS.size ≤ 4000 := by
            have h1 := congrArg ByteArray.size hHEQ
            rw [ByteArray.size_append] at h1
            have h2 : (t.extract k nx).size ≤ t.size := by rw [ByteArray.size_extract]; omega
            omega
          have hs1 : nx ≤ t.size := by omega
          have j0 : (0 : Int) ≤ (k : Int) := by omega
          have j1 : (k : Int) ≤ (nx : Int) := by omega
          have j2 : (nx : Int) ≤ (t.size : Int) := by omega
          have hkx : k ≤ nx := by omega
          have ld0 := fun w' (h : Below wd.heap.size wd w') => (h.cell (p := ⟨w6.heap.size, 0, none⟩) hlt6c).trans (show wd.cell? ⟨w6.heap.size, 0, none⟩ = some (.slice a6' nm c6') by rw [cell_at HH3.out]; rfl)
          have ld1 := fun w' (h : Below wd.heap.size wd w') => (h.cell (p := ⟨w6.heap.size, 1, none⟩) hlt6c).trans (show wd.cell? ⟨w6.heap.size, 1, none⟩ = some (.int .i64 fn) by rw [cell_at HH3.out]; rfl)
          have ld2 := fun w' (h : Below wd.heap.size wd w') => (h.cell (p := ⟨w6.heap.size, 2, none⟩) hlt6c).trans (show wd.cell? ⟨w6.heap.size, 2, none⟩ = some (.bool false) by rw [cell_at HH3.out]; rfl)
          have hb0 : Below wd.heap.size wd wd.drew := (Below.refl _ _).drew
          clear hkk hfe hSJ
          go_region_held_law (fun w' => Below wd.heap.size wd w')
            (first | assumption)
            ((first
              | (go_at_call 36; refine (HPr.out _ hb0).mono ?_; rintro e wa ⟨ab, cb, rfl, hob, hba⟩; have hst := string_own hob; rw [HSJ.out] at hst; have hsa := hb0.trans (hba.mono hb0.size); clear hob hba)
              | (go_at_call 37; refine (HMk.out _).mono ?_; rintro e wm ⟨rfl, rfl⟩)))
          all_goals
            have HBz := Lib.hid (HB.out.trans ((HBC.out.trans (hsa.mono HBC.out.size)).mono hzr))
            clear ld0 ld1 ld2 hHEQ hst
            go_wp2_with fail
            go_roundw
            case rel => exact ⟨r + 1, nx, by simp, rfl, by omega, by omega, HD2.out, HBz.out⟩
            case measure => simp [intOf]; omega
        · have de : (er == 0) = false := by simpa using h0
          have HBz := Lib.hid (HB.out.trans (HBC.out.mono hzr))
          go_quiet (fail)
          go_wp2_with fail
          go_roundw
          case rel => exact ⟨r + 1, nx, by simp, rfl, by omega, by omega, HD2.out, below_draw1 HBz.out _⟩
          case measure => simp [intOf]; omega
    · have dr : decide (r < n) = false := decide_eq_false hlt
      have hmz : ML wr := ML.below (HML.out.below HB7.out HML.out.1) hb (Nat.lt_of_lt_of_le HML.out.1 HB7.out.size)
      have HAW := Lib.hid (awake8_of wr hmz)
      clear hmz hb hd
      go_wp2_with fail
      refine HAW.out.mono ?_; rintro e wz ⟨rfl, hbz⟩
      have HBZ := Lib.hid (HB7.out.trans ((HB.out.trans (hbz.mono hzr)).mono HB7.out.size))
      clear hbz
      go_wp2_with fail
      go_ret
      exact ⟨rfl, HBZ.out⟩

end Go.Proofs.Ytmdifcgnmkpecaa
