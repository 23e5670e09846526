/-
  Contracts of layer 9, trees of ints: Join; at this seat's numbers.
-/
import Derived.Test.YtofncnommekbjaaTrS
namespace Go.Proofs.Ytofncnommekbjaa
open Go Go.RowKit
set_option linter.unusedVariables false

theorem three_blocks (w : World) (o1 o2 o3 : Obj) : ∃ w1, ((w.alloc o1).alloc o2).alloc o3 = w1 ∧ Below w.heap.size w w1 ∧ w1.heap.size = w.heap.size + 3 ∧ w1.heap[w.heap.size]? = some o1 ∧ w1.heap[w.heap.size + 1]? = some o2 ∧ w1.heap[w.heap.size + 2]? = some o3 := by
  obtain ⟨w1, hw1, hb1, hz1, hA, hC⟩ := two_blocks w o1 o2
  rw [hw1]
  have al := t_al w1 o3
  refine ⟨_, rfl, hb1.trans (al.mono (by omega)), by simp [hz1], ?_, ?_, ?_⟩
  · exact (al.block _ (by omega)).trans hA
  · exact (al.block _ (by omega)).trans hC
  · have := heap_alloc_new w1 o3
    rw [hz1] at this
    exact this
theorem Tin.ptr {w : World} {T : TypeId} {pv : Value} {L : List Value} (H : Tin w T pv L) : ∃ x, pv = .pointer x := by
  rcases H.one with h | ⟨b, h⟩
  · exact ⟨_, h⟩
  · exact ⟨_, h⟩
/-- A world in which a block has one cell, and all below it is as it was. -/
def Sy (T b : Nat) (w1 w : World) : Prop := Below b w1 w ∧ ∃ x, w.heap[b]? = some (.cells #[x] T (0, 0))
theorem Sy.under {T b : Nat} {w1 w w' : World} (h : Sy T b w1 w) (hb : Below w.heap.size w w') : Sy T b w1 w' := by
  obtain ⟨h1, x, h2⟩ := h
  exact ⟨h1.trans (hb.mono (Nat.le_of_lt (lt_of_heap h2))), x, (hb.block b (lt_of_heap h2)).trans h2⟩
theorem Sy.alloc {T b : Nat} {w1 w : World} (h : Sy T b w1 w) (o : Obj) : Sy T b w1 (w.alloc o) := h.under (t_al w o)
theorem Sy.set {T b : Nat} {w1 w : World} {u : Value} (h : Sy T b w1 w) : Sy T b w1 (w.setCell ⟨b, 0, none⟩ u) := by
  obtain ⟨h1, x, h2⟩ := h
  exact ⟨h1.setCell (p := ⟨b, 0, none⟩) (Nat.le_refl _) _, u, by rw [heap_set_at h2]; rfl⟩
theorem Sy.cell {T b g o : Nat} {w1 w : World} (h : Sy T b w1 w) (hg : g < b) : w.cell? ⟨g, o, none⟩ = w1.cell? ⟨g, o, none⟩ := h.1.cell (p := ⟨g, o, none⟩) hg

theorem joinany_i {w : World} {h h' b b' : Nat} {ts : List (El h)} {ss : List (El h')} (H : In w 95 h ts b) (H' : In w 95 h' ss b') (hok : Ok (rlo h) h ts) (hok' : Ok (rlo h') h' ss) (hf : (flatL h ts).length + (flatL h' ss).length ≤ 100000) :
    Calls Try.prog 59 #[ptr b, ptr b', .int .i64 ((h : Int) - (h' : Int))] w fun e w' => ∃ (k : Nat) (R : List (El (k + 1))) (a : Option Addr) (c : Nat), e = .returned (.slice a R.length c) ∧ Es w' 95 (k + 1) R a c ∧ R.length ≤ 2 ∧ TopOk k R ∧ flatL (k + 1) R = flatL h ts ++ flatL h' ss ∧ Below w.heap.size w w' := by
  have h1 := ok_h h (rlo_pos h) hok
  have h2 := ok_h h' (rlo_pos h') hok'
  have hr : ∀ k, k = 0 ∨ 2 ≤ rlo k := fun k => by unfold rlo; by_cases e : k = 0 <;> simp [e]
  rcases Nat.le_total h' h with hle | hle
  · obtain ⟨d, rfl⟩ := Nat.exists_eq_add_of_le hle
    rw [show ((h' + d : Nat) : Int) - (h' : Int) = (d : Int) by omega]
    refine (joinup_i (rlo_pos h') hok' d (by omega) H H' (rlo_pos _) (hr _) hok (by omega)).mono ?_
    rintro e w' ⟨R, a, c, rfl, he, hj, hb⟩
    exact ⟨_, R, a, c, rfl, he, hj.2.1, jk_top hj, hj.2.2.1, hb⟩
  · obtain ⟨d, rfl⟩ := Nat.exists_eq_add_of_le hle
    rw [show (h : Int) - ((h + d : Nat) : Int) = -(d : Int) by omega]
    refine (joindn_i (rlo_pos h) hok d (by omega) H' H (rlo_pos _) (hr _) hok' (by omega)).mono ?_
    rintro e w' ⟨R, a, c, rfl, he, hj, hb⟩
    exact ⟨_, R, a, c, rfl, he, hj.2.1, jk_top hj, hj.2.2.1, hb⟩

set_option maxRecDepth 100000 in
set_option maxHeartbeats 2000000 in
theorem Join_i {w : World} {pv pu : Value} {L M : List Value} (H : Tin w 95 pv L) (K : Tin w 95 pu M) (hg : Gd L) (hg' : Gd M) (hf : L.length + M.length ≤ 100000) :
    Calls Try.prog 20 #[.agg #[pv], .agg #[pu]] w fun e w' => ∃ x, e = .returned (.agg #[.pointer x]) ∧ Tin w' 95 (.pointer x) (L ++ M) ∧ Below w.heap.size w w' := by
  obtain ⟨w1, hw1, hb1, hz1, hA, hD, hC⟩ := three_blocks w (Obj.cells #[pv] 27) (Obj.cells #[pu] 27) (Obj.cells #[Value.pointer none] 27)
  have c0 : w1.cell? ⟨w.heap.size, 0, none⟩ = some pv := by rw [cell_at hA]; rfl
  have c1 : w1.cell? ⟨w.heap.size + 1, 0, none⟩ = some pu := by rw [cell_at hD]; rfl
  have zz := fun i => unfrozen hC i
  have r0 : w1.cell? ⟨w.heap.size + 2, 0, none⟩ = some (.pointer none) := by rw [cell_at hC]; rfl
  have HB := Lib.hid hb1
  have HC := Lib.hid hC
  have hgg : Gd (L ++ M) := fun v hv => by
    rcases List.mem_append.1 hv with h | h
    · exact hg v h
    · exact hg' v h
  have HG := Lib.hid hgg
  have HKw := Lib.hid (K.below hb1)
  have HHw := Lib.hid (H.below hb1)
  clear hD hA hgg
  rcases H with ⟨rfl, rfl⟩ | ⟨b, h, t, rfl, hin, hok, rfl⟩
  · obtain ⟨x, rfl⟩ := K.ptr
    clear K hb1 hC
    go_enter Try.func20, Try.ntmps20
    go_upto_region 1 with fail
    go_wp2_with fail
    have hs := heap_set_at (o := 0) (u := Value.pointer x) HC.out
    have hB := HB.out.setCell (p := ⟨w.heap.size + 2, 0, none⟩) (by show _ ≤ w.heap.size + 2; omega) (Value.pointer x)
    have hT := HKw.out.setNil (u := Value.pointer x) HC.out (by decide) hg'
    have q0 : (w1.setCell ⟨w.heap.size + 2, 0, none⟩ (Value.pointer x)).cell? ⟨w.heap.size + 2, 0, none⟩ = some (Value.pointer x) := by rw [cell_at hs]; rfl
    exact bodyPost_ret (v := .agg #[.pointer x]) (by simp [results, Try.results20, go_sem, q0]) rfl ⟨x, rfl, hT, hB⟩
  · rcases K with ⟨rfl, rfl⟩ | ⟨b', h', t', rfl, hin', hok', rfl⟩
    · clear hin hok hb1 hC
      go_enter Try.func20, Try.ntmps20
      go_upto_region 1 with fail
      go_wp2_with fail
      have hs := heap_set_at (o := 0) (u := ptr b) HC.out
      have hB := HB.out.setCell (p := ⟨w.heap.size + 2, 0, none⟩) (by show _ ≤ w.heap.size + 2; omega) (ptr b)
      have hT := HHw.out.setNil (u := ptr b) HC.out (by decide) hg
      have q0 : (w1.setCell ⟨w.heap.size + 2, 0, none⟩ (ptr b)).cell? ⟨w.heap.size + 2, 0, none⟩ = some (ptr b) := by rw [cell_at hs]; rfl
      exact bodyPost_ret (v := .agg #[ptr b]) (by simp [results, Try.results20, go_sem, q0]) rfl ⟨_, rfl, by rw [List.append_nil]; exact hT, hB⟩
    · have HH1 := Lib.hid (fun w' (hb : Below w.heap.size w w') => height_i (hin.below hb) hok (by omega))
      have HH2 := Lib.hid (fun w' (hb : Below w.heap.size w w') => height_i (hin'.below hb) hok' (by omega))
      have HJ := Lib.hid (fun w' (hb : Below w.heap.size w w') => joinany_i (hin.below hb) (hin'.below hb) hok hok' hf)
      have HTP : Hid (∀ w6 (k : Nat) (R : List (El (k + 1))) a6 c6, Es w6 95 (k + 1) R a6 c6 ∧ R.length ≤ 2 ∧ TopOk k R ∧ flatL (k + 1) R = flatL h t ++ flatL h' t' → Calls Try.prog 43 #[.slice a6 R.length c6] w6 fun e w7 => ∃ x, e = .returned (.agg #[.pointer x]) ∧ Tin w7 95 (.pointer x) (flatL h t ++ flatL h' t') ∧ Below w6.heap.size w6 w7) := by
        refine Lib.hid (fun w6 k R a6 c6 ⟨h6, h7, h8, h9⟩ => ?_)
        refine (top_i h6 rfl (by omega) h8 (by rw [h9]; exact HG.out) (by rw [h9, List.length_append]; omega)).mono ?_
        rintro e w7 ⟨pv, rfl, hT, hb⟩
        obtain ⟨x, rfl⟩ := hT.ptr
        rw [h9] at hT
        exact ⟨x, rfl, hT, hb⟩
      have hwd : IntKind.i64.wrap (((h + 1 : Nat) : Int) - ((h' + 1 : Nat) : Int)) = (h : Int) - (h' : Int) := by
        have h1 := ok_h h (rlo_pos h) hok
        have h2 := ok_h h' (rlo_pos h') hok'
        rw [IntKind.wrap_i64]; omega
      have hwd2 : IntKind.i64.wrap ((h : Int) + 1 - ((h' : Int) + 1)) = (h : Int) - (h' : Int) := by
        rw [← hwd]; congr 1
      generalize flatL h t ++ flatL h' t' = LM at *
      clear hin hok hin' hok' hb1 hg hg' hf HKw HHw
      go_enter Try.func20, Try.ntmps20
      go_upto_region 5 with fail
      have ld0 := fun w' (h : Sy 27 (w.heap.size + 2) w1 w') => (h.cell (g := w.heap.size) (o := 0) (by omega)).trans c0
      have ld1 := fun w' (h : Sy 27 (w.heap.size + 2) w1 w') => (h.cell (g := w.heap.size + 1) (o := 0) (by omega)).trans c1
      have BB := Lib.hid (fun w' (h : Sy 27 (w.heap.size + 2) w1 w') => HB.out.trans (h.1.mono (by omega)))
      have hs0 : Sy 27 (w.heap.size + 2) w1 w1.drew := ⟨(Below.refl _ _).drew, _, hC⟩
      have hn0 : w1.drew.heap[w.heap.size + 2]? = some (.cells #[Value.pointer none] 27 (0, 0)) := hC
      have HN0 := Lib.hid hn0
      clear c0 c1 hn0 hC zz r0
      go_region_held_law (fun w' => Sy 27 (w.heap.size + 2) w1 w')
        (first | assumption | exact Sy.alloc (by assumption) _ | exact Sy.set (by assumption))
        ((first
          | (go_at_call 48; have XX := HN5; clear XX; refine (HH2.out _ (BB.out _ hs5)).mono ?_; rintro e w6 ⟨rfl, hb6⟩; have hs6 := hs5.under hb6; have HN6 := Lib.hid ((hb6.block _ (lt_of_heap HN5.out)).trans HN5.out); clear hb6)
          | (go_at_call 48; refine (HH1.out _ (BB.out _ hs0)).mono ?_; rintro e w5 ⟨rfl, hb5⟩; have hs5 := hs0.under hb5; have HN5 := Lib.hid ((hb5.block _ (lt_of_heap HN0.out)).trans HN0.out); clear hb5)
          | (go_at_call 59; refine (HJ.out _ (BB.out _ hs6)).mono ?_; rintro e w7 ⟨k7, R7, a7, c7, rfl, he7, hl7, ht7, hf7, hb7⟩; have HE7 := Lib.hid (And.intro he7 (And.intro hl7 (And.intro ht7 hf7))); have hs7 := hs6.under hb7; have HN7 := Lib.hid ((hb7.block _ (lt_of_heap HN6.out)).trans HN6.out); clear hb7 he7 hl7 ht7 hf7)
          | (go_at_call 43; refine (HTP.out w7 k7 R7 a7 c7 HE7.out).mono ?_; rintro e w8 ⟨x8, rfl, ht8, hb8⟩; have HT8 := Lib.hid ht8; have hs8 := hs7.under hb8; have hn8 := (hb8.block _ (lt_of_heap HN7.out)).trans HN7.out; have HN8 := Lib.hid hn8; have z8 := fun i => unfrozen hn8 i; have l8 : w8.cell? ⟨w.heap.size + 2, 0, none⟩ = some (.pointer none) := (by rw [cell_at hn8]; rfl); clear hb8 ht8 hn8)))
      all_goals
        have HS8 := Lib.hid hs8
        clear ld0 ld1 hs8 hs7 hs6 hs5 hs0
        go_wp2_with fail
        have hs := heap_set_at (o := 0) (u := Value.pointer x8) HN8.out
        have hB := (BB.out _ HS8.out).setCell (p := ⟨w.heap.size + 2, 0, none⟩) (by show _ ≤ w.heap.size + 2; omega) (Value.pointer x8)
        have hT := HT8.out.setNil (u := Value.pointer x8) HN8.out (by decide) HG.out
        have q0 : (w8.setCell ⟨w.heap.size + 2, 0, none⟩ (Value.pointer x8)).cell? ⟨w.heap.size + 2, 0, none⟩ = some (Value.pointer x8) := by rw [cell_at hs]; rfl
        exact bodyPost_ret (v := .agg #[.pointer x8]) (by simp [results, Try.results20, go_sem, q0]) rfl ⟨x8, rfl, hT, hB⟩

end Go.Proofs.Ytofncnommekbjaa
