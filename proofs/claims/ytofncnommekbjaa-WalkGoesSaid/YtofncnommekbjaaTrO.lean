/-
  Contracts of layer 9, trees of ints: Delete, Height, At; at this seat's numbers.
-/
import Derived.Test.YtofncnommekbjaaTrN
namespace Go.Proofs.Ytofncnommekbjaa
open Go Go.RowKit
set_option linter.unusedVariables false

/-- Delete where there is no such thing. -/
theorem delno_i {w : World} {pv : Value} {L : List Value} (I : Int) (H : Tin w 95 pv L) (hI : ¬ (0 ≤ I ∧ I < L.length)) :
    Calls Try.prog 52 #[.agg #[pv], .int .i64 I] w fun e w' => e = .returned (.tuple #[.agg #[pv], .bool false]) ∧ Below w.heap.size w w' := by
  obtain ⟨w1, hw1, hb1, hz1, hA, hC⟩ := two_blocks w (Obj.cells #[pv] 27) (Obj.cells #[Value.pointer none] 27)
  have HH := Lib.hid (has_i I (H.below hb1))
  rw [show decide (0 ≤ I ∧ I < L.length) = false from decide_eq_false hI] at HH
  have c0 : w1.cell? ⟨w.heap.size, 0, none⟩ = some pv := by rw [cell_at hA]; rfl
  have HB := Lib.hid hb1
  have HC := Lib.hid hC
  have HA := Lib.hid hA
  have hone := H.one
  clear H hb1 hC hA hI
  rcases hone with rfl | ⟨b, rfl⟩
  all_goals
    go_enter Try.func52, Try.ntmps52
    go_upto_region 1 with fail
    go_wp2_with fail
    refine HH.out.mono ?_; rintro e w2 ⟨rfl, hb2⟩
    have hc2 := (hb2.block (w.heap.size + 1) (by omega)).trans HC.out
    have ha2 := (hb2.block w.heap.size (by omega)).trans HA.out
    have zz := fun i => unfrozen hc2 i
    have r0 : w2.cell? ⟨w.heap.size + 1, 0, none⟩ = some (.pointer none) := by rw [cell_at hc2]; rfl
    have r1 := cell_at ha2 0
    have HB2 := Lib.hid (HB.out.trans (hb2.mono (by omega)))
    have HC2 := Lib.hid hc2
    clear hb2 hc2 ha2
    go_wp2_with fail
  · have hs := heap_set_at (o := 0) (u := Value.pointer none) HC2.out
    have hB := HB2.out.setCell (p := ⟨w.heap.size + 1, 0, none⟩) (Nat.le_succ _) (Value.pointer none)
    have q0 : (w2.setCell ⟨w.heap.size + 1, 0, none⟩ (Value.pointer none)).cell? ⟨w.heap.size + 1, 0, none⟩ = some (Value.pointer none) := by rw [cell_at hs]; rfl
    exact bodyPost_ret (v := .tuple #[.agg #[.pointer none], .bool false]) (by simp [results, Try.results52, go_sem, q0]) rfl ⟨rfl, hB⟩
  · have hs := heap_set_at (o := 0) (u := ptr b) HC2.out
    have hB := HB2.out.setCell (p := ⟨w.heap.size + 1, 0, none⟩) (Nat.le_succ _) (ptr b)
    have q0 : (w2.setCell ⟨w.heap.size + 1, 0, none⟩ (ptr b)).cell? ⟨w.heap.size + 1, 0, none⟩ = some (ptr b) := by rw [cell_at hs]; rfl
    exact bodyPost_ret (v := .tuple #[.agg #[ptr b], .bool false]) (by simp [results, Try.results52, go_sem, q0]) rfl ⟨rfl, hB⟩

theorem topok_kids {h : Nat} {ks : List (El (h + 1))} (H : Oks h ks) : TopOk h ks := ⟨fun h1 => ok_lower (H 0 (by omega)) (by have := rlo_le h; omega), fun _ => H⟩
set_option maxRecDepth 100000 in
set_option maxHeartbeats 1000000 in
theorem delyes_i {w : World} {pv : Value} {L : List Value} (i : Nat) (H : Tin w 95 pv L) (hg : Gd L) (hi : i < L.length) (hf : L.length ≤ 90000) :
    Calls Try.prog 52 #[.agg #[pv], .int .i64 i] w fun e w' => ∃ pv', e = .returned (.tuple #[.agg #[pv'], .bool true]) ∧ Tin w' 95 pv' (replL L i (i + 1) []) ∧ Below w.heap.size w w' := by
  have hT := H
  rcases H with ⟨_, rfl⟩ | ⟨b, h, t, rfl, hin, hok, rfl⟩
  · simp at hi
  obtain ⟨w1, hw1, hb1, hz1, hA, hC⟩ := two_blocks w (Obj.cells #[ptr b] 27) (Obj.cells #[Value.pointer none] 27)
  have HH := Lib.hid (has_i (i : Int) (hT.below hb1))
  rw [show decide (0 ≤ (i : Int) ∧ (i : Int) < (flatL h t).length) = true from decide_eq_true ⟨by omega, by omega⟩] at HH
  have c0 : w1.cell? ⟨w.heap.size, 0, none⟩ = some (ptr b) := by rw [cell_at hA]; rfl
  have hh2 : h = 0 ∨ 2 ≤ rlo h := by unfold rlo; by_cases e : h = 0 <;> simp [e]
  obtain ⟨hfs, hos⟩ := del_spec h t i (rlo_pos h) hh2 hok hi
  have HS := Lib.hid (fun w' (hb : Below w1.heap.size w1 w') => del_i h i ((hin.below hb1).below hb) (rlo_pos h) hh2 hok hi (by omega))
  have hgd : Gd (replL (flatL h t) i (i + 1) []) := gd_repl hg (fun v hv => by simp at hv)
  have hlen : (replL (flatL h t) i (i + 1) []).length ≤ 90000 := by rw [replL_len _ _ (by omega) (by omega)]; simp; omega
  have HG := Lib.hid hgd
  have HB := Lib.hid hb1
  have HC := Lib.hid hC
  have HFS := Lib.hid hfs
  have HOS := Lib.hid hos
  generalize hR : replL (flatL h t) i (i + 1) [] = R at *
  generalize hD : delT h t i = D at *
  clear hT hin hok hfs hos hb1 hC hA hg hi hf hR hh2 hD
  go_enter Try.func52, Try.ntmps52
  go_upto_region 1 with fail
  go_wp2_with fail
  refine HH.out.mono ?_; rintro e w2 ⟨rfl, hb2⟩
  have r1 := (hb2.cell (p := ⟨w.heap.size, 0, none⟩) (by show w.heap.size < _; omega)).trans c0
  have HB2 := Lib.hid hb2
  have HS2 := Lib.hid (HS.out w2 hb2)
  clear hb2 HS HH c0
  go_wp2_with fail
  refine HS2.out.mono ?_; rintro e w5 ⟨b5, rfl, hi5, hb5⟩
  have HI5 := Lib.hid hi5
  have HB5 := Lib.hid (HB2.out.trans (hb5.mono HB2.out.size))
  clear hb5 HS2 r1
  cases h with
  | zero =>
    have hDR : D = R := (flatL_zero D).symm.trans HFS.out
    have HL := Lib.hid (isleaf_i hi5)
    obtain ⟨ia, ic, i0, i1, isl⟩ := hi5.items
    obtain ⟨n, hn⟩ : ∃ n, @List.length Value D = n := ⟨_, rfl⟩
    have hnl : n ≤ 100000 := by
      have e : @List.length Value D = R.length := congrArg (@List.length Value) hDR
      omega
    have HOf := Lib.hid (of_i (xs := D) isl hn hnl (by rw [hDR]; exact HG.out))
    have i1' : w5.cell? ⟨b5, 1, none⟩ = some (.slice ia n ic) := by rw [i1]; exact congrArg (fun m => some (Value.slice ia m ic)) hn
    have HDR := Lib.hid hDR
    clear hi5 isl i1 hn hDR hlen
    go_wp2_with fail
    refine HL.out.mono ?_; rintro e w6 ⟨rfl, rfl⟩
    go_wp2_with fail
    refine HOf.out.mono ?_; rintro e w6 ⟨pv6, rfl, hT6, hb6⟩
    rw [HDR.out] at hT6
    have HB6 := Lib.hid (HB5.out.trans (hb6.mono HB5.out.size))
    have hc2 := (HB6.out.block (w.heap.size + 1) (by omega)).trans HC.out
    have zz := fun i => unfrozen hc2 i
    have r0 : w6.cell? ⟨w.heap.size + 1, 0, none⟩ = some (.pointer none) := by rw [cell_at hc2]; rfl
    have HC2 := Lib.hid hc2
    have HT := Lib.hid hT6
    have hone := hT6.one
    have HBx := Lib.hid (HB.out.trans (HB6.out.mono (by omega)))
    clear hb6 hc2 hT6 HOf
    rcases hone with rfl | ⟨b', rfl⟩
    all_goals
      go_wp2_with fail
    · have hs := heap_set_at (o := 0) (u := Value.pointer none) HC2.out
      have hB := HBx.out.setCell (p := ⟨w.heap.size + 1, 0, none⟩) (Nat.le_succ _) (Value.pointer none)
      have hT := HT.out.setNil (u := Value.pointer none) HC2.out (by decide) HG.out
      have q0 : (w6.setCell ⟨w.heap.size + 1, 0, none⟩ (Value.pointer none)).cell? ⟨w.heap.size + 1, 0, none⟩ = some (Value.pointer none) := by rw [cell_at hs]; rfl
      exact bodyPost_ret (v := .tuple #[.agg #[.pointer none], .bool true]) (by simp [results, Try.results52, go_sem, q0]) rfl ⟨.pointer none, rfl, hT, hB⟩
    · have hs := heap_set_at (o := 0) (u := ptr b') HC2.out
      have hB := HBx.out.setCell (p := ⟨w.heap.size + 1, 0, none⟩) (Nat.le_succ _) (ptr b')
      have hT := HT.out.setNil (u := ptr b') HC2.out (by decide) HG.out
      have q0 : (w6.setCell ⟨w.heap.size + 1, 0, none⟩ (ptr b')).cell? ⟨w.heap.size + 1, 0, none⟩ = some (ptr b') := by rw [cell_at hs]; rfl
      exact bodyPost_ret (v := .tuple #[.agg #[ptr b'], .bool true]) (by simp [results, Try.results52, go_sem, q0]) rfl ⟨ptr b', rfl, hT, hB⟩
  | succ h =>
    have HL := Lib.hid (notleaf_i hi5 (by have := HOS.out.len; rw [rlo_succ] at this; omega))
    obtain ⟨ia, ic, i0, i1, isl⟩ := hi5.kids
    have HOf := Lib.hid (top_i isl rfl (by have := HOS.out.len; omega) (topok_kids HOS.out.oks) (by rw [HFS.out]; exact HG.out) (by rw [HFS.out]; omega))
    rw [HFS.out] at HOf
    obtain ⟨n, hn⟩ : ∃ n, D.length = n := ⟨_, rfl⟩
    rw [hn] at i0 HOf
    clear hi5 isl hn hlen
    go_wp2_with fail
    refine HL.out.mono ?_; rintro e w6 ⟨rfl, rfl⟩
    go_wp2_with fail
    refine HOf.out.mono ?_; rintro e w6 ⟨pv6, rfl, hT6, hb6⟩
    have HB6 := Lib.hid (HB5.out.trans (hb6.mono HB5.out.size))
    have hc2 := (HB6.out.block (w.heap.size + 1) (by omega)).trans HC.out
    have zz := fun i => unfrozen hc2 i
    have r0 : w6.cell? ⟨w.heap.size + 1, 0, none⟩ = some (.pointer none) := by rw [cell_at hc2]; rfl
    have HC2 := Lib.hid hc2
    have HT := Lib.hid hT6
    have hone := hT6.one
    have HBx := Lib.hid (HB.out.trans (HB6.out.mono (by omega)))
    clear hb6 hc2 hT6 HOf
    rcases hone with rfl | ⟨b', rfl⟩
    all_goals
      go_wp2_with fail
    · have hs := heap_set_at (o := 0) (u := Value.pointer none) HC2.out
      have hB := HBx.out.setCell (p := ⟨w.heap.size + 1, 0, none⟩) (Nat.le_succ _) (Value.pointer none)
      have hT := HT.out.setNil (u := Value.pointer none) HC2.out (by decide) HG.out
      have q0 : (w6.setCell ⟨w.heap.size + 1, 0, none⟩ (Value.pointer none)).cell? ⟨w.heap.size + 1, 0, none⟩ = some (Value.pointer none) := by rw [cell_at hs]; rfl
      exact bodyPost_ret (v := .tuple #[.agg #[.pointer none], .bool true]) (by simp [results, Try.results52, go_sem, q0]) rfl ⟨.pointer none, rfl, hT, hB⟩
    · have hs := heap_set_at (o := 0) (u := ptr b') HC2.out
      have hB := HBx.out.setCell (p := ⟨w.heap.size + 1, 0, none⟩) (Nat.le_succ _) (ptr b')
      have hT := HT.out.setNil (u := ptr b') HC2.out (by decide) HG.out
      have q0 : (w6.setCell ⟨w.heap.size + 1, 0, none⟩ (ptr b')).cell? ⟨w.heap.size + 1, 0, none⟩ = some (ptr b') := by rw [cell_at hs]; rfl
      exact bodyPost_ret (v := .tuple #[.agg #[ptr b'], .bool true]) (by simp [results, Try.results52, go_sem, q0]) rfl ⟨ptr b', rfl, hT, hB⟩

end Go.Proofs.Ytofncnommekbjaa
