/-
  Contracts of layer 9, trees of ints: Len, Root, has, Set, Insert, Delete; at this seat's numbers.
-/
import Derived.Test.YtofncnommekbjaaTrM
namespace Go.Proofs.Ytofncnommekbjaa
open Go Go.RowKit
set_option linter.unusedVariables false

set_option maxHeartbeats 1000000 in
theorem len_i {w : World} {pv : Value} {L : List Value} (H : Tin w 95 pv L) :
    Calls Try.prog 46 #[.agg #[pv]] w fun e w' => e = .returned (.int .i64 L.length) ∧ Below w.heap.size w w' := by
  rcases H with ⟨rfl, rfl⟩ | ⟨b, h, t, rfl, hin, hok, rfl⟩
  · have hh := heap_alloc_new w (Obj.cells #[Value.pointer none] 27)
    have al := t_al w (Obj.cells #[Value.pointer none] 27)
    have c0 : (w.alloc (Obj.cells #[Value.pointer none] 27)).cell? ⟨w.heap.size, 0, none⟩ = some (.pointer none) := by rw [cell_at hh]; rfl
    have AL := Lib.hid al
    clear hh al
    go_enter Try.func46, Try.ntmps46
    go_wp2_with fail
    go_ret
    exact ⟨rfl, AL.out⟩
  · have hh := heap_alloc_new w (Obj.cells #[ptr b] 27)
    have al := t_al w (Obj.cells #[ptr b] 27)
    have c0 : (w.alloc (Obj.cells #[ptr b] 27)).cell? ⟨w.heap.size, 0, none⟩ = some (ptr b) := by rw [cell_at hh]; rfl
    have c2 := (al.cell (p := ⟨b, 2, none⟩) hin.lt).trans hin.num
    have AL := Lib.hid al
    generalize (flatL h t).length = n at *
    clear hh al hin hok
    go_enter Try.func46, Try.ntmps46
    go_wp2_with fail
    go_ret
    exact ⟨rfl, AL.out⟩
theorem root_i {w : World} {pv : Value} {L : List Value} (H : Tin w 95 pv L) :
    Calls Try.prog 47 #[.agg #[pv]] w fun e w' => e = .returned pv ∧ Below w.heap.size w w' := by
  rcases H.one with rfl | ⟨b, rfl⟩
  · have hh := heap_alloc_new w (Obj.cells #[Value.pointer none] 27)
    have al := t_al w (Obj.cells #[Value.pointer none] 27)
    have c0 : (w.alloc (Obj.cells #[Value.pointer none] 27)).cell? ⟨w.heap.size, 0, none⟩ = some (.pointer none) := by rw [cell_at hh]; rfl
    have AL := Lib.hid al
    clear hh al
    go_enter Try.func47, Try.ntmps47
    go_wp2_with fail
    go_ret
    exact ⟨rfl, AL.out⟩
  · have hh := heap_alloc_new w (Obj.cells #[ptr b] 27)
    have al := t_al w (Obj.cells #[ptr b] 27)
    have c0 : (w.alloc (Obj.cells #[ptr b] 27)).cell? ⟨w.heap.size, 0, none⟩ = some (ptr b) := by rw [cell_at hh]; rfl
    have AL := Lib.hid al
    clear hh al
    go_enter Try.func47, Try.ntmps47
    go_wp2_with fail
    go_ret
    exact ⟨rfl, AL.out⟩
set_option maxHeartbeats 1000000 in
theorem has_i {w : World} {pv : Value} {L : List Value} (I : Int) (H : Tin w 95 pv L) :
    Calls Try.prog 78 #[.agg #[pv], .int .i64 I] w fun e w' => e = .returned (.bool (decide (0 ≤ I ∧ I < L.length))) ∧ Below w.heap.size w w' := by
  have hh := heap_alloc_new w (Obj.cells #[pv] 27)
  have al := t_al w (Obj.cells #[pv] 27)
  have c0 : (w.alloc (Obj.cells #[pv] 27)).cell? ⟨w.heap.size, 0, none⟩ = some pv := by rw [cell_at hh]; rfl
  have HLn := Lib.hid (len_i (H.below al))
  have hone := H.one
  have AL := Lib.hid al
  clear hh al H
  by_cases h0 : 0 ≤ I
  · have d0 : decide (0 ≤ I) = true := decide_eq_true h0
    have e1 : decide (0 ≤ I ∧ I < L.length) = decide (I < (L.length : Int)) := by
      by_cases h : I < (L.length : Int)
      · rw [decide_eq_true h, decide_eq_true ⟨h0, h⟩]
      · rw [decide_eq_false h, decide_eq_false (fun hh => h hh.2)]
    rw [e1]
    clear e1
    generalize L.length = n at *
    rcases hone with rfl | ⟨b, rfl⟩
    all_goals
      go_enter Try.func78, Try.ntmps78
      go_wp2_with fail
      refine HLn.out.mono ?_; rintro e w1 ⟨rfl, hb⟩
      have HB := Lib.hid (AL.out.trans (hb.mono AL.out.size))
      clear hb
      go_wp2_with fail
      go_ret
      exact ⟨rfl, HB.out⟩
  · have d0 : decide (0 ≤ I) = false := decide_eq_false h0
    rw [show decide (0 ≤ I ∧ I < L.length) = false from decide_eq_false (fun hh => h0 hh.1)]
    rcases hone with rfl | ⟨b, rfl⟩
    all_goals
      go_enter Try.func78, Try.ntmps78
      go_wp2_with fail
      go_ret
      exact ⟨rfl, AL.out⟩

theorem gd_repl {L o : List Value} {i j : Nat} (h : Gd L) (ho : Gd o) : Gd (replL L i j o) := by
  intro v hv
  unfold replL at hv
  rcases List.mem_append.1 hv with hv | hv
  · rcases List.mem_append.1 hv with hv | hv
    · exact h v (List.mem_of_mem_take hv)
    · exact ho v hv
  · exact h v (List.mem_of_mem_drop hv)
theorem two_blocks (w : World) (o1 o2 : Obj) : ∃ w1, (w.alloc o1).alloc o2 = w1 ∧ Below w.heap.size w w1 ∧ w1.heap.size = w.heap.size + 2 ∧ w1.heap[w.heap.size]? = some o1 ∧ w1.heap[w.heap.size + 1]? = some o2 := by
  refine ⟨_, rfl, (t_al w o1).trans ((t_al _ o2).mono (by simp)), by simp, ?_, ?_⟩
  · exact ((t_al (w.alloc o1) o2).block w.heap.size (by simp)).trans (heap_alloc_new w o1)
  · have := heap_alloc_new (w.alloc o1) o2
    rw [show (w.alloc o1).heap.size = w.heap.size + 1 by simp] at this
    exact this

/-- Set where there is no such thing. -/
theorem setno_i (X : Int) {w : World} {pv : Value} {L : List Value} (I : Int) (H : Tin w 95 pv L) (hg : Gd L) (hI : ¬ (0 ≤ I ∧ I < L.length)) :
    Calls Try.prog 54 #[.agg #[pv], .int .i64 I, .int .i64 X] w fun e w' => e = .returned (.tuple #[.agg #[pv], .bool false]) ∧ Below w.heap.size w w' := by
  obtain ⟨w1, hw1, hb1, hz1, hA, hC⟩ := two_blocks w (Obj.cells #[pv] 27) (Obj.cells #[Value.pointer none] 27)
  have HH := Lib.hid (has_i I (H.below hb1))
  rw [show decide (0 ≤ I ∧ I < L.length) = false from decide_eq_false hI] at HH
  have c0 : w1.cell? ⟨w.heap.size, 0, none⟩ = some pv := by rw [cell_at hA]; rfl
  have HB := Lib.hid hb1
  have HC := Lib.hid hC
  have HA := Lib.hid hA
  have hone := H.one
  clear H hb1 hC hA hI
  rcases hone with rfl | ⟨b, rfl⟩
  all_goals
    go_enter Try.func54, Try.ntmps54
    go_upto_region 1 with fail
    go_wp2_with fail
    refine HH.out.mono ?_; rintro e w2 ⟨rfl, hb2⟩
    have hc2 := (hb2.block (w.heap.size + 1) (by omega)).trans HC.out
    have ha2 := (hb2.block w.heap.size (by omega)).trans HA.out
    have zz := fun i => unfrozen hc2 i
    have r0 : w2.cell? ⟨w.heap.size + 1, 0, none⟩ = some (.pointer none) := by rw [cell_at hc2]; rfl
    have r1 := cell_at ha2 0
    have HB2 := Lib.hid (HB.out.trans (hb2.mono (by omega)))
    have HC2 := Lib.hid hc2
    clear hb2 hc2 ha2
    go_wp2_with fail
  · have hs := heap_set_at (o := 0) (u := Value.pointer none) HC2.out
    have hB := HB2.out.setCell (p := ⟨w.heap.size + 1, 0, none⟩) (Nat.le_succ _) (Value.pointer none)
    have q0 : (w2.setCell ⟨w.heap.size + 1, 0, none⟩ (Value.pointer none)).cell? ⟨w.heap.size + 1, 0, none⟩ = some (Value.pointer none) := by rw [cell_at hs]; rfl
    exact bodyPost_ret (v := .tuple #[.agg #[.pointer none], .bool false]) (by simp [results, Try.results54, go_sem, q0]) rfl ⟨rfl, hB⟩
  · have hs := heap_set_at (o := 0) (u := ptr b) HC2.out
    have hB := HB2.out.setCell (p := ⟨w.heap.size + 1, 0, none⟩) (Nat.le_succ _) (ptr b)
    have q0 : (w2.setCell ⟨w.heap.size + 1, 0, none⟩ (ptr b)).cell? ⟨w.heap.size + 1, 0, none⟩ = some (ptr b) := by rw [cell_at hs]; rfl
    exact bodyPost_ret (v := .tuple #[.agg #[ptr b], .bool false]) (by simp [results, Try.results54, go_sem, q0]) rfl ⟨rfl, hB⟩

set_option maxRecDepth 100000 in
set_option maxHeartbeats 1000000 in
theorem setyes_i (X : Int) {w : World} {pv : Value} {L : List Value} (i : Nat) (H : Tin w 95 pv L) (hg : Gd L) (hi : i < L.length) (hf : L.length ≤ 100000) :
    Calls Try.prog 54 #[.agg #[pv], .int .i64 i, .int .i64 X] w fun e w' => ∃ pv', e = .returned (.tuple #[.agg #[pv'], .bool true]) ∧ Tin w' 95 pv' (replL L i (i + 1) [.int .i64 X]) ∧ Below w.heap.size w w' := by
  have hT := H
  rcases H with ⟨_, rfl⟩ | ⟨b, h, t, rfl, hin, hok, rfl⟩
  · simp at hi
  obtain ⟨w1, hw1, hb1, hz1, hA, hC⟩ := two_blocks w (Obj.cells #[ptr b] 27) (Obj.cells #[Value.pointer none] 27)
  have HH := Lib.hid (has_i (i : Int) (hT.below hb1))
  rw [show decide (0 ≤ (i : Int) ∧ (i : Int) < (flatL h t).length) = true from decide_eq_true ⟨by omega, by omega⟩] at HH
  have c0 : w1.cell? ⟨w.heap.size, 0, none⟩ = some (ptr b) := by rw [cell_at hA]; rfl
  have hfs := flat_set h t i (.int .i64 X) (hok.wf (rlo_pos h)) hi
  have hos := ok_set h t i (.int .i64 X) (rlo_pos h) hok hi
  have HS := Lib.hid (fun w' (hb : Below w1.heap.size w1 w') => set_i X h i ((hin.below hb1).below hb) (hok.wf (rlo_pos h)) hi hf)
  have hgd : Gd (replL (flatL h t) i (i + 1) [.int .i64 X]) := gd_repl hg (fun v hv => by simp at hv; subst hv; intro hh; cases hh)
  have hlen : (replL (flatL h t) i (i + 1) [.int .i64 X]).length ≤ 1000000 := by rw [replL_len _ _ (by omega) (by omega)]; simp; omega
  have HTP : Hid (∀ w5 b5, In w5 95 h (setT h t i (.int .i64 X)) b5 → Calls Try.prog 43 #[.slice (some ⟨w5.heap.size, 0, none⟩) 1 1] (w5.alloc (Obj.cells #[ptr b5] 25)) fun e w'' => ∃ pv, e = .returned (.agg #[pv]) ∧ Tin w'' 95 pv (replL (flatL h t) i (i + 1) [.int .i64 X]) ∧ Below w5.heap.size w5 w'') := by
    refine Lib.hid (fun w5 b5 hi5 => ?_)
    have al := t_al w5 (Obj.cells #[ptr b5] 25)
    have hfo : flatL (h + 1) [mk1 (setT h t i (.int .i64 X))] = replL (flatL h t) i (i + 1) [.int .i64 X] := (flat_one _).trans hfs
    have := top_i (n := 1) (Es.one (E := 25) hi5) rfl (by omega) (⟨fun _ => hos, fun hh => by simp at hh⟩ : TopOk h [mk1 (setT h t i (.int .i64 X))]) (by rw [hfo]; exact hgd) (by rw [hfo]; exact hlen)
    rw [hfo] at this
    refine this.mono ?_
    rintro e w' ⟨pv, rfl, h1, h2⟩
    exact ⟨pv, rfl, h1, al.trans (h2.mono al.size)⟩
  have HG := Lib.hid hgd
  have HB := Lib.hid hb1
  have HC := Lib.hid hC
  have HA := Lib.hid hA
  clear hT hin hok hfs hos hb1 hC hA hgd hlen hg hi hf
  go_enter Try.func54, Try.ntmps54
  go_upto_region 1 with fail
  go_wp2_with fail
  refine HH.out.mono ?_; rintro e w2 ⟨rfl, hb2⟩
  have r1 := (hb2.cell (p := ⟨w.heap.size, 0, none⟩) (by show w.heap.size < _; omega)).trans c0
  have HB2 := Lib.hid hb2
  have HS2 := Lib.hid (HS.out w2 hb2)
  clear hb2 HS HH c0
  go_wp2_with fail
  refine HS2.out.mono ?_; rintro e w5 ⟨b5, rfl, hi5, hb5⟩
  have HT5 := Lib.hid (HTP.out w5 b5 hi5)
  have HB5 := Lib.hid (HB2.out.trans (hb5.mono HB2.out.size))
  clear hi5 hb5 HS2 HTP r1
  go_wp2_with fail
  refine HT5.out.mono ?_; rintro e w6 ⟨pv6, rfl, hT6, hb6⟩
  have HB6 := Lib.hid (HB5.out.trans (hb6.mono HB5.out.size))
  have hc2 := (HB6.out.block (w.heap.size + 1) (by omega)).trans HC.out
  have zz := fun i => unfrozen hc2 i
  have r0 : w6.cell? ⟨w.heap.size + 1, 0, none⟩ = some (.pointer none) := by rw [cell_at hc2]; rfl
  have HC2 := Lib.hid hc2
  have HT := Lib.hid hT6
  have hone := hT6.one
  have HBx := Lib.hid (HB.out.trans (HB6.out.mono (by omega)))
  clear hb6 hc2 hT6 HT5
  rcases hone with rfl | ⟨b', rfl⟩
  all_goals
    go_wp2_with fail
  · have hs := heap_set_at (o := 0) (u := Value.pointer none) HC2.out
    have hB := HBx.out.setCell (p := ⟨w.heap.size + 1, 0, none⟩) (Nat.le_succ _) (Value.pointer none)
    have hT := HT.out.setNil (u := Value.pointer none) HC2.out (by decide) HG.out
    have q0 : (w6.setCell ⟨w.heap.size + 1, 0, none⟩ (Value.pointer none)).cell? ⟨w.heap.size + 1, 0, none⟩ = some (Value.pointer none) := by rw [cell_at hs]; rfl
    exact bodyPost_ret (v := .tuple #[.agg #[.pointer none], .bool true]) (by simp [results, Try.results54, go_sem, q0]) rfl ⟨.pointer none, rfl, hT, hB⟩
  · have hs := heap_set_at (o := 0) (u := ptr b') HC2.out
    have hB := HBx.out.setCell (p := ⟨w.heap.size + 1, 0, none⟩) (Nat.le_succ _) (ptr b')
    have hT := HT.out.setNil (u := ptr b') HC2.out (by decide) HG.out
    have q0 : (w6.setCell ⟨w.heap.size + 1, 0, none⟩ (ptr b')).cell? ⟨w.heap.size + 1, 0, none⟩ = some (ptr b') := by rw [cell_at hs]; rfl
    exact bodyPost_ret (v := .tuple #[.agg #[ptr b'], .bool true]) (by simp [results, Try.results54, go_sem, q0]) rfl ⟨ptr b', rfl, hT, hB⟩

/-- Insert where it can't be. -/
theorem insno_i (X : Int) {w : World} {pv : Value} {L : List Value} (I : Int) (H : Tin w 95 pv L) (hI : ¬ (0 ≤ I ∧ I ≤ L.length)) :
    Calls Try.prog 50 #[.agg #[pv], .int .i64 I, .int .i64 X] w fun e w' => e = .returned (.tuple #[.agg #[pv], .bool false]) ∧ Below w.heap.size w w' := by
  obtain ⟨w1, hw1, hb1, hz1, hA, hC⟩ := two_blocks w (Obj.cells #[pv] 27) (Obj.cells #[Value.pointer none] 27)
  have HL := Lib.hid (len_i (H.below hb1))
  have c0 : w1.cell? ⟨w.heap.size, 0, none⟩ = some pv := by rw [cell_at hA]; rfl
  have HB := Lib.hid hb1
  have HC := Lib.hid hC
  have HA := Lib.hid hA
  have hone := H.one
  generalize L.length = n at *
  have hc1 := hC
  clear H hb1 hA
  by_cases h0 : I < 0
  · have d0 : decide (I < 0) = true := decide_eq_true h0
    have zz := fun i => unfrozen hC i
    have r0 : w1.cell? ⟨w.heap.size + 1, 0, none⟩ = some (.pointer none) := by rw [cell_at hC]; rfl
    clear hC hc1 HL
    rcases hone with rfl | ⟨b, rfl⟩
    · go_enter Try.func50, Try.ntmps50
      go_upto_region 1 with fail
      go_wp2_with fail
      have hs := heap_set_at (o := 0) (u := Value.pointer none) HC.out
      have hB := HB.out.setCell (p := ⟨w.heap.size + 1, 0, none⟩) (Nat.le_succ _) (Value.pointer none)
      have q0 : (w1.setCell ⟨w.heap.size + 1, 0, none⟩ (Value.pointer none)).cell? ⟨w.heap.size + 1, 0, none⟩ = some (Value.pointer none) := by rw [cell_at hs]; rfl
      exact bodyPost_ret (v := .tuple #[.agg #[.pointer none], .bool false]) (by simp [results, Try.results50, go_sem, q0]) rfl ⟨rfl, hB⟩
    · go_enter Try.func50, Try.ntmps50
      go_upto_region 1 with fail
      go_wp2_with fail
      have hs := heap_set_at (o := 0) (u := ptr b) HC.out
      have hB := HB.out.setCell (p := ⟨w.heap.size + 1, 0, none⟩) (Nat.le_succ _) (ptr b)
      have q0 : (w1.setCell ⟨w.heap.size + 1, 0, none⟩ (ptr b)).cell? ⟨w.heap.size + 1, 0, none⟩ = some (ptr b) := by rw [cell_at hs]; rfl
      exact bodyPost_ret (v := .tuple #[.agg #[ptr b], .bool false]) (by simp [results, Try.results50, go_sem, q0]) rfl ⟨rfl, hB⟩
  · have d0 : decide (I < 0) = false := decide_eq_false h0
    have d1 : decide ((n : Int) < I) = true := decide_eq_true (by omega)
    clear hC hc1
    rcases hone with rfl | ⟨b, rfl⟩
    all_goals
      go_enter Try.func50, Try.ntmps50
      go_upto_region 1 with fail
      go_wp2_with fail
      refine HL.out.mono ?_; rintro e w2 ⟨rfl, hb2⟩
      have hc2 := (hb2.block (w.heap.size + 1) (by omega)).trans HC.out
      have ha2 := (hb2.block w.heap.size (by omega)).trans HA.out
      have zz := fun i => unfrozen hc2 i
      have r0 : w2.cell? ⟨w.heap.size + 1, 0, none⟩ = some (.pointer none) := by rw [cell_at hc2]; rfl
      have r1 := cell_at ha2 0
      have HB2 := Lib.hid (HB.out.trans (hb2.mono (by omega)))
      have HC2 := Lib.hid hc2
      clear hb2 hc2 ha2
      go_wp2_with fail
    · have hs := heap_set_at (o := 0) (u := Value.pointer none) HC2.out
      have hB := HB2.out.setCell (p := ⟨w.heap.size + 1, 0, none⟩) (Nat.le_succ _) (Value.pointer none)
      have q0 : (w2.setCell ⟨w.heap.size + 1, 0, none⟩ (Value.pointer none)).cell? ⟨w.heap.size + 1, 0, none⟩ = some (Value.pointer none) := by rw [cell_at hs]; rfl
      exact bodyPost_ret (v := .tuple #[.agg #[.pointer none], .bool false]) (by simp [results, Try.results50, go_sem, q0]) rfl ⟨rfl, hB⟩
    · have hs := heap_set_at (o := 0) (u := ptr b) HC2.out
      have hB := HB2.out.setCell (p := ⟨w.heap.size + 1, 0, none⟩) (Nat.le_succ _) (ptr b)
      have q0 : (w2.setCell ⟨w.heap.size + 1, 0, none⟩ (ptr b)).cell? ⟨w.heap.size + 1, 0, none⟩ = some (ptr b) := by rw [cell_at hs]; rfl
      exact bodyPost_ret (v := .tuple #[.agg #[ptr b], .bool false]) (by simp [results, Try.results50, go_sem, q0]) rfl ⟨rfl, hB⟩

set_option maxRecDepth 100000 in
set_option maxHeartbeats 1000000 in
theorem insyes_i (X : Int) {w : World} {pv : Value} {L : List Value} (i : Nat) (H : Tin w 95 pv L) (hg : Gd L) (hi : i ≤ L.length) (hf : L.length ≤ 90000) :
    Calls Try.prog 50 #[.agg #[pv], .int .i64 i, .int .i64 X] w fun e w' => ∃ pv', e = .returned (.tuple #[.agg #[pv'], .bool true]) ∧ Tin w' 95 pv' (replL L i i [.int .i64 X]) ∧ Below w.heap.size w w' := by
  obtain ⟨w1, hw1, hb1, hz1, hA, hC⟩ := two_blocks w (Obj.cells #[pv] 27) (Obj.cells #[Value.pointer none] 27)
  have HL := Lib.hid (len_i (H.below hb1))
  have c0 : w1.cell? ⟨w.heap.size, 0, none⟩ = some pv := by rw [cell_at hA]; rfl
  have hgx : Gd [.int .i64 X] := fun v hv => by simp at hv; subst hv; intro hh; cases hh
  have hgd : Gd (replL L i i [.int .i64 X]) := gd_repl hg hgx
  have HG := Lib.hid hgd
  have d0 : decide ((i : Int) < 0) = false := decide_eq_false (by omega)
  have d1 : decide ((L.length : Int) < (i : Int)) = false := decide_eq_false (by omega)
  have d1' : decide (L.length < i) = false := decide_eq_false (by omega)
  rcases H with ⟨rfl, rfl⟩ | ⟨b, h, t, rfl, hin, hok, rfl⟩
  · have hi0 : i = 0 := by simpa using hi
    subst hi0
    have HOf := Lib.hid (fun w' => of_i (w := w'.alloc (Obj.cells #[.int .i64 X] 3)) (Sl.new (xs := [.int .i64 X]) (heap_alloc_new w' (Obj.cells #[.int .i64 X] 3)) (by unfold maxLen; simp) (fun u hu => by simp at hu; subst hu; rfl)) rfl (by simp) hgx)
    have HB := Lib.hid hb1
    have HC := Lib.hid hC
    have hrp : replL ([] : List Value) 0 0 [.int .i64 X] = [.int .i64 X] := rfl
    rw [hrp] at HG ⊢
    clear hb1 hC hA hgd hgx hg hi hrp
    rw [List.length_nil] at *
    go_enter Try.func50, Try.ntmps50
    go_upto_region 1 with fail
    go_wp2_with fail
    refine HL.out.mono ?_; rintro e w2 ⟨rfl, hb2⟩
    have r1 := (hb2.cell (p := ⟨w.heap.size, 0, none⟩) (by show w.heap.size < _; omega)).trans c0
    have HB2 := Lib.hid hb2
    clear hb2 c0 HL
    go_wp2_with fail
    refine (HOf.out w2).mono ?_; rintro e w6 ⟨pv6, rfl, hT6, hb6⟩
    have al := t_al w2 (Obj.cells #[.int .i64 X] 3)
    have HB6 := Lib.hid (HB2.out.trans ((al.trans (hb6.mono al.size)).mono HB2.out.size))
    have hc2 := (HB6.out.block (w.heap.size + 1) (by omega)).trans HC.out
    have zz := fun i => unfrozen hc2 i
    have r0 : w6.cell? ⟨w.heap.size + 1, 0, none⟩ = some (.pointer none) := by rw [cell_at hc2]; rfl
    have HC2 := Lib.hid hc2
    have HT := Lib.hid hT6
    have hone := hT6.one
    have HBx := Lib.hid (HB.out.trans (HB6.out.mono (by omega)))
    clear hb6 hc2 hT6 al r1 HOf
    rcases hone with rfl | ⟨b', rfl⟩
    all_goals
      go_wp2_with fail
    · have hs := heap_set_at (o := 0) (u := Value.pointer none) HC2.out
      have hB := HBx.out.setCell (p := ⟨w.heap.size + 1, 0, none⟩) (Nat.le_succ _) (Value.pointer none)
      have hT := HT.out.setNil (u := Value.pointer none) HC2.out (by decide) HG.out
      have q0 : (w6.setCell ⟨w.heap.size + 1, 0, none⟩ (Value.pointer none)).cell? ⟨w.heap.size + 1, 0, none⟩ = some (Value.pointer none) := by rw [cell_at hs]; rfl
      exact bodyPost_ret (v := .tuple #[.agg #[.pointer none], .bool true]) (by simp [results, Try.results50, go_sem, q0]) rfl ⟨.pointer none, rfl, hT, hB⟩
    · have hs := heap_set_at (o := 0) (u := ptr b') HC2.out
      have hB := HBx.out.setCell (p := ⟨w.heap.size + 1, 0, none⟩) (Nat.le_succ _) (ptr b')
      have hT := HT.out.setNil (u := ptr b') HC2.out (by decide) HG.out
      have q0 : (w6.setCell ⟨w.heap.size + 1, 0, none⟩ (ptr b')).cell? ⟨w.heap.size + 1, 0, none⟩ = some (ptr b') := by rw [cell_at hs]; rfl
      exact bodyPost_ret (v := .tuple #[.agg #[ptr b'], .bool true]) (by simp [results, Try.results50, go_sem, q0]) rfl ⟨ptr b', rfl, hT, hB⟩
  · have hfi := flat_ins h t i (.int .i64 X) (hok.wf (rlo_pos h)) hi
    have hil := ins_few (x := (.int .i64 X)) (rlo_pos h) hok hi
    have HI := Lib.hid (fun w' (hb : Below w1.heap.size w1 w') => ins_i X h i ((hin.below hb1).below hb) (rlo_pos h) hok hi (by omega))
    have hlen : (replL (flatL h t) i i [.int .i64 X]).length ≤ 1000000 := by rw [replL_len _ _ (by omega) (by omega)]; simp; omega
    have HTP : Hid (∀ w5 a5 c5, Es w5 95 (h + 1) (insT h t i (.int .i64 X)) a5 c5 → Calls Try.prog 43 #[.slice a5 (insT h t i (.int .i64 X)).length c5] w5 fun e w'' => ∃ pv, e = .returned (.agg #[pv]) ∧ Tin w'' 95 pv (replL (flatL h t) i i [.int .i64 X]) ∧ Below w5.heap.size w5 w'') := by
      refine Lib.hid (fun w5 a5 c5 he5 => ?_)
      have := top_i he5 rfl (by omega) (topok_ins rfl hok hi) (by rw [hfi]; exact hgd) (by rw [hfi]; exact hlen)
      rw [hfi] at this
      exact this
    obtain ⟨m, hm⟩ : ∃ m, (insT h t i (.int .i64 X)).length = m := ⟨_, rfl⟩
    rw [hm] at HI HTP
    have HB := Lib.hid hb1
    have HC := Lib.hid hC
    generalize (flatL h t).length = n at *
    clear hb1 hC hA hgd hgx hg hi hin hok hfi hil hlen hm
    go_enter Try.func50, Try.ntmps50
    go_upto_region 1 with fail
    go_wp2_with fail
    refine HL.out.mono ?_; rintro e w2 ⟨rfl, hb2⟩
    have r1 := (hb2.cell (p := ⟨w.heap.size, 0, none⟩) (by show w.heap.size < _; omega)).trans c0
    have HB2 := Lib.hid hb2
    have HI2 := Lib.hid (HI.out w2 hb2)
    clear hb2 c0 HL HI
    go_wp2_with fail
    refine HI2.out.mono ?_; rintro e w5 ⟨a5, c5, rfl, hi5, hb5⟩
    have HT5 := Lib.hid (HTP.out w5 a5 c5 hi5)
    have HB5 := Lib.hid (HB2.out.trans (hb5.mono HB2.out.size))
    clear hi5 hb5 HI2 HTP r1
    go_wp2_with fail
    refine HT5.out.mono ?_; rintro e w6 ⟨pv6, rfl, hT6, hb6⟩
    have HB6 := Lib.hid (HB5.out.trans (hb6.mono HB5.out.size))
    have hc2 := (HB6.out.block (w.heap.size + 1) (by omega)).trans HC.out
    have zz := fun i => unfrozen hc2 i
    have r0 : w6.cell? ⟨w.heap.size + 1, 0, none⟩ = some (.pointer none) := by rw [cell_at hc2]; rfl
    have HC2 := Lib.hid hc2
    have HT := Lib.hid hT6
    have hone := hT6.one
    have HBx := Lib.hid (HB.out.trans (HB6.out.mono (by omega)))
    clear hb6 hc2 hT6 HT5
    rcases hone with rfl | ⟨b', rfl⟩
    all_goals
      go_wp2_with fail
    · have hs := heap_set_at (o := 0) (u := Value.pointer none) HC2.out
      have hB := HBx.out.setCell (p := ⟨w.heap.size + 1, 0, none⟩) (Nat.le_succ _) (Value.pointer none)
      have hT := HT.out.setNil (u := Value.pointer none) HC2.out (by decide) HG.out
      have q0 : (w6.setCell ⟨w.heap.size + 1, 0, none⟩ (Value.pointer none)).cell? ⟨w.heap.size + 1, 0, none⟩ = some (Value.pointer none) := by rw [cell_at hs]; rfl
      exact bodyPost_ret (v := .tuple #[.agg #[.pointer none], .bool true]) (by simp [results, Try.results50, go_sem, q0]) rfl ⟨.pointer none, rfl, hT, hB⟩
    · have hs := heap_set_at (o := 0) (u := ptr b') HC2.out
      have hB := HBx.out.setCell (p := ⟨w.heap.size + 1, 0, none⟩) (Nat.le_succ _) (ptr b')
      have hT := HT.out.setNil (u := ptr b') HC2.out (by decide) HG.out
      have q0 : (w6.setCell ⟨w.heap.size + 1, 0, none⟩ (ptr b')).cell? ⟨w.heap.size + 1, 0, none⟩ = some (ptr b') := by rw [cell_at hs]; rfl
      exact bodyPost_ret (v := .tuple #[.agg #[ptr b'], .bool true]) (by simp [results, Try.results50, go_sem, q0]) rfl ⟨ptr b', rfl, hT, hB⟩

end Go.Proofs.Ytofncnommekbjaa
