/-
  Contracts of layer 9, trees of strings: Len, Root, has, Set, Insert, Delete; at this seat's numbers.
-/
import Derived.Test.YtofncnommekbjaaTsM
import Derived.Test.YtofncnommekbjaaTrN
namespace Go.Proofs.Ytofncnommekbjaa
open Go Go.RowKit
set_option linter.unusedVariables false

set_option maxHeartbeats 1000000 in
theorem len_s {w : World} {pv : Value} {L : List Value} (H : Tin w 103 pv L) :
    Calls Try.prog 25 #[.agg #[pv]] w fun e w' => e = .returned (.int .i64 L.length) ∧ Below w.heap.size w w' := by
  rcases H with ⟨rfl, rfl⟩ | ⟨b, h, t, rfl, hin, hok, rfl⟩
  · have hh := heap_alloc_new w (Obj.cells #[Value.pointer none] 48)
    have al := t_al w (Obj.cells #[Value.pointer none] 48)
    have c0 : (w.alloc (Obj.cells #[Value.pointer none] 48)).cell? ⟨w.heap.size, 0, none⟩ = some (.pointer none) := by rw [cell_at hh]; rfl
    have AL := Lib.hid al
    clear hh al
    go_enter Try.func25, Try.ntmps25
    go_wp2_with fail
    go_ret
    exact ⟨rfl, AL.out⟩
  · have hh := heap_alloc_new w (Obj.cells #[ptr b] 48)
    have al := t_al w (Obj.cells #[ptr b] 48)
    have c0 : (w.alloc (Obj.cells #[ptr b] 48)).cell? ⟨w.heap.size, 0, none⟩ = some (ptr b) := by rw [cell_at hh]; rfl
    have c2 := (al.cell (p := ⟨b, 2, none⟩) hin.lt).trans hin.num
    have AL := Lib.hid al
    generalize (flatL h t).length = n at *
    clear hh al hin hok
    go_enter Try.func25, Try.ntmps25
    go_wp2_with fail
    go_ret
    exact ⟨rfl, AL.out⟩
set_option maxHeartbeats 1000000 in
theorem has_s {w : World} {pv : Value} {L : List Value} (I : Int) (H : Tin w 103 pv L) :
    Calls Try.prog 63 #[.agg #[pv], .int .i64 I] w fun e w' => e = .returned (.bool (decide (0 ≤ I ∧ I < L.length))) ∧ Below w.heap.size w w' := by
  have hh := heap_alloc_new w (Obj.cells #[pv] 48)
  have al := t_al w (Obj.cells #[pv] 48)
  have c0 : (w.alloc (Obj.cells #[pv] 48)).cell? ⟨w.heap.size, 0, none⟩ = some pv := by rw [cell_at hh]; rfl
  have HLn := Lib.hid (len_s (H.below al))
  have hone := H.one
  have AL := Lib.hid al
  clear hh al H
  by_cases h0 : 0 ≤ I
  · have d0 : decide (0 ≤ I) = true := decide_eq_true h0
    have e1 : decide (0 ≤ I ∧ I < L.length) = decide (I < (L.length : Int)) := by
      by_cases h : I < (L.length : Int)
      · rw [decide_eq_true h, decide_eq_true ⟨h0, h⟩]
      · rw [decide_eq_false h, decide_eq_false (fun hh => h hh.2)]
    rw [e1]
    clear e1
    generalize L.length = n at *
    rcases hone with rfl | ⟨b, rfl⟩
    all_goals
      go_enter Try.func63, Try.ntmps63
      go_wp2_with fail
      refine HLn.out.mono ?_; rintro e w1 ⟨rfl, hb⟩
      have HB := Lib.hid (AL.out.trans (hb.mono AL.out.size))
      clear hb
      go_wp2_with fail
      go_ret
      exact ⟨rfl, HB.out⟩
  · have d0 : decide (0 ≤ I) = false := decide_eq_false h0
    rw [show decide (0 ≤ I ∧ I < L.length) = false from decide_eq_false (fun hh => h0 hh.1)]
    rcases hone with rfl | ⟨b, rfl⟩
    all_goals
      go_enter Try.func63, Try.ntmps63
      go_wp2_with fail
      go_ret
      exact ⟨rfl, AL.out⟩


/-- Set where there is no such thing. -/
theorem setno_s (X : ByteArray) {w : World} {pv : Value} {L : List Value} (I : Int) (H : Tin w 103 pv L) (hg : Gd L) (hI : ¬ (0 ≤ I ∧ I < L.length)) :
    Calls Try.prog 23 #[.agg #[pv], .int .i64 I, .string X] w fun e w' => e = .returned (.tuple #[.agg #[pv], .bool false]) ∧ Below w.heap.size w w' := by
  obtain ⟨w1, hw1, hb1, hz1, hA, hC⟩ := two_blocks w (Obj.cells #[pv] 48) (Obj.cells #[Value.pointer none] 48)
  have HH := Lib.hid (has_s I (H.below hb1))
  rw [show decide (0 ≤ I ∧ I < L.length) = false from decide_eq_false hI] at HH
  have c0 : w1.cell? ⟨w.heap.size, 0, none⟩ = some pv := by rw [cell_at hA]; rfl
  have HB := Lib.hid hb1
  have HC := Lib.hid hC
  have HA := Lib.hid hA
  have hone := H.one
  clear H hb1 hC hA hI
  rcases hone with rfl | ⟨b, rfl⟩
  all_goals
    go_enter Try.func23, Try.ntmps23
    go_upto_region 1 with fail
    go_wp2_with fail
    refine HH.out.mono ?_; rintro e w2 ⟨rfl, hb2⟩
    have hc2 := (hb2.block (w.heap.size + 1) (by omega)).trans HC.out
    have ha2 := (hb2.block w.heap.size (by omega)).trans HA.out
    have zz := fun i => unfrozen hc2 i
    have r0 : w2.cell? ⟨w.heap.size + 1, 0, none⟩ = some (.pointer none) := by rw [cell_at hc2]; rfl
    have r1 := cell_at ha2 0
    have HB2 := Lib.hid (HB.out.trans (hb2.mono (by omega)))
    have HC2 := Lib.hid hc2
    clear hb2 hc2 ha2
    go_wp2_with fail
  · have hs := heap_set_at (o := 0) (u := Value.pointer none) HC2.out
    have hB := HB2.out.setCell (p := ⟨w.heap.size + 1, 0, none⟩) (Nat.le_succ _) (Value.pointer none)
    have q0 : (w2.setCell ⟨w.heap.size + 1, 0, none⟩ (Value.pointer none)).cell? ⟨w.heap.size + 1, 0, none⟩ = some (Value.pointer none) := by rw [cell_at hs]; rfl
    exact bodyPost_ret (v := .tuple #[.agg #[.pointer none], .bool false]) (by simp [results, Try.results23, go_sem, q0]) rfl ⟨rfl, hB⟩
  · have hs := heap_set_at (o := 0) (u := ptr b) HC2.out
    have hB := HB2.out.setCell (p := ⟨w.heap.size + 1, 0, none⟩) (Nat.le_succ _) (ptr b)
    have q0 : (w2.setCell ⟨w.heap.size + 1, 0, none⟩ (ptr b)).cell? ⟨w.heap.size + 1, 0, none⟩ = some (ptr b) := by rw [cell_at hs]; rfl
    exact bodyPost_ret (v := .tuple #[.agg #[ptr b], .bool false]) (by simp [results, Try.results23, go_sem, q0]) rfl ⟨rfl, hB⟩

set_option maxRecDepth 100000 in
set_option maxHeartbeats 1000000 in
theorem setyes_s (X : ByteArray) {w : World} {pv : Value} {L : List Value} (i : Nat) (H : Tin w 103 pv L) (hg : Gd L) (hi : i < L.length) (hf : L.length ≤ 100000) :
    Calls Try.prog 23 #[.agg #[pv], .int .i64 i, .string X] w fun e w' => ∃ pv', e = .returned (.tuple #[.agg #[pv'], .bool true]) ∧ Tin w' 103 pv' (replL L i (i + 1) [.string X]) ∧ Below w.heap.size w w' := by
  have hT := H
  rcases H with ⟨_, rfl⟩ | ⟨b, h, t, rfl, hin, hok, rfl⟩
  · simp at hi
  obtain ⟨w1, hw1, hb1, hz1, hA, hC⟩ := two_blocks w (Obj.cells #[ptr b] 48) (Obj.cells #[Value.pointer none] 48)
  have HH := Lib.hid (has_s (i : Int) (hT.below hb1))
  rw [show decide (0 ≤ (i : Int) ∧ (i : Int) < (flatL h t).length) = true from decide_eq_true ⟨by omega, by omega⟩] at HH
  have c0 : w1.cell? ⟨w.heap.size, 0, none⟩ = some (ptr b) := by rw [cell_at hA]; rfl
  have hfs := flat_set h t i (.string X) (hok.wf (rlo_pos h)) hi
  have hos := ok_set h t i (.string X) (rlo_pos h) hok hi
  have HS := Lib.hid (fun w' (hb : Below w1.heap.size w1 w') => set_s X h i ((hin.below hb1).below hb) (hok.wf (rlo_pos h)) hi hf)
  have hgd : Gd (replL (flatL h t) i (i + 1) [.string X]) := gd_repl hg (fun v hv => by simp at hv; subst hv; intro hh; cases hh)
  have hlen : (replL (flatL h t) i (i + 1) [.string X]).length ≤ 1000000 := by rw [replL_len _ _ (by omega) (by omega)]; simp; omega
  have HTP : Hid (∀ w5 b5, In w5 103 h (setT h t i (.string X)) b5 → Calls Try.prog 60 #[.slice (some ⟨w5.heap.size, 0, none⟩) 1 1] (w5.alloc (Obj.cells #[ptr b5] 46)) fun e w'' => ∃ pv, e = .returned (.agg #[pv]) ∧ Tin w'' 103 pv (replL (flatL h t) i (i + 1) [.string X]) ∧ Below w5.heap.size w5 w'') := by
    refine Lib.hid (fun w5 b5 hi5 => ?_)
    have al := t_al w5 (Obj.cells #[ptr b5] 46)
    have hfo : flatL (h + 1) [mk1 (setT h t i (.string X))] = replL (flatL h t) i (i + 1) [.string X] := (flat_one _).trans hfs
    have := top_s (n := 1) (Es.one (E := 46) hi5) rfl (by omega) (⟨fun _ => hos, fun hh => by simp at hh⟩ : TopOk h [mk1 (setT h t i (.string X))]) (by rw [hfo]; exact hgd) (by rw [hfo]; exact hlen)
    rw [hfo] at this
    refine this.mono ?_
    rintro e w' ⟨pv, rfl, h1, h2⟩
    exact ⟨pv, rfl, h1, al.trans (h2.mono al.size)⟩
  have HG := Lib.hid hgd
  have HB := Lib.hid hb1
  have HC := Lib.hid hC
  have HA := Lib.hid hA
  clear hT hin hok hfs hos hb1 hC hA hgd hlen hg hi hf
  go_enter Try.func23, Try.ntmps23
  go_upto_region 1 with fail
  go_wp2_with fail
  refine HH.out.mono ?_; rintro e w2 ⟨rfl, hb2⟩
  have r1 := (hb2.cell (p := ⟨w.heap.size, 0, none⟩) (by show w.heap.size < _; omega)).trans c0
  have HB2 := Lib.hid hb2
  have HS2 := Lib.hid (HS.out w2 hb2)
  clear hb2 HS HH c0
  go_wp2_with fail
  refine HS2.out.mono ?_; rintro e w5 ⟨b5, rfl, hi5, hb5⟩
  have HT5 := Lib.hid (HTP.out w5 b5 hi5)
  have HB5 := Lib.hid (HB2.out.trans (hb5.mono HB2.out.size))
  clear hi5 hb5 HS2 HTP r1
  go_wp2_with fail
  refine HT5.out.mono ?_; rintro e w6 ⟨pv6, rfl, hT6, hb6⟩
  have HB6 := Lib.hid (HB5.out.trans (hb6.mono HB5.out.size))
  have hc2 := (HB6.out.block (w.heap.size + 1) (by omega)).trans HC.out
  have zz := fun i => unfrozen hc2 i
  have r0 : w6.cell? ⟨w.heap.size + 1, 0, none⟩ = some (.pointer none) := by rw [cell_at hc2]; rfl
  have HC2 := Lib.hid hc2
  have HT := Lib.hid hT6
  have hone := hT6.one
  have HBx := Lib.hid (HB.out.trans (HB6.out.mono (by omega)))
  clear hb6 hc2 hT6 HT5
  rcases hone with rfl | ⟨b', rfl⟩
  all_goals
    go_wp2_with fail
  · have hs := heap_set_at (o := 0) (u := Value.pointer none) HC2.out
    have hB := HBx.out.setCell (p := ⟨w.heap.size + 1, 0, none⟩) (Nat.le_succ _) (Value.pointer none)
    have hT := HT.out.setNil (u := Value.pointer none) HC2.out (by decide) HG.out
    have q0 : (w6.setCell ⟨w.heap.size + 1, 0, none⟩ (Value.pointer none)).cell? ⟨w.heap.size + 1, 0, none⟩ = some (Value.pointer none) := by rw [cell_at hs]; rfl
    exact bodyPost_ret (v := .tuple #[.agg #[.pointer none], .bool true]) (by simp [results, Try.results23, go_sem, q0]) rfl ⟨.pointer none, rfl, hT, hB⟩
  · have hs := heap_set_at (o := 0) (u := ptr b') HC2.out
    have hB := HBx.out.setCell (p := ⟨w.heap.size + 1, 0, none⟩) (Nat.le_succ _) (ptr b')
    have hT := HT.out.setNil (u := ptr b') HC2.out (by decide) HG.out
    have q0 : (w6.setCell ⟨w.heap.size + 1, 0, none⟩ (ptr b')).cell? ⟨w.heap.size + 1, 0, none⟩ = some (ptr b') := by rw [cell_at hs]; rfl
    exact bodyPost_ret (v := .tuple #[.agg #[ptr b'], .bool true]) (by simp [results, Try.results23, go_sem, q0]) rfl ⟨ptr b', rfl, hT, hB⟩

end Go.Proofs.Ytofncnommekbjaa
