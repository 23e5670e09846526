/-
  walk.Move.
-/
import Derived.Test.YtofncnommekbjaaWkS
import Derived.Test.YtofncnommekbjaaTrX
namespace Go.Proofs.Ytofncnommekbjaa
open Go Go.RowKit
set_option linter.unusedVariables false

/-- The things with those from I to K put in ahead of the to-th one of what is left. -/
def mvV {α : Type} (L : List α) (I K T : Int) : List α := spV (spV L I K []) T T (slV L I K)
theorem spV_gd {L M : List Value} {I K : Int} (h : Gd L) (h' : Gd M) : Gd (spV L I K M) := fun v hv => by
  unfold spV at hv
  rcases List.mem_append.1 hv with hv | hv
  · exact (List.mem_append.1 hv).elim (gd_take h _ v) (h' v)
  · exact gd_drop h _ v hv
theorem slV_gd {L : List Value} {I K : Int} (h : Gd L) : Gd (slV L I K) := gd_drop (gd_take h _) _
theorem spV_len {α : Type} (L M : List α) (I K : Int) : (spV L I K M).length ≤ L.length + M.length + L.length := by
  unfold spV
  simp only [List.length_append, List.length_take, List.length_drop]
  omega
theorem slV_len {α : Type} (L : List α) (I K : Int) : (slV L I K).length ≤ L.length := by
  unfold slV
  simp only [List.length_take, List.length_drop]
  omega

set_option maxRecDepth 100000 in
set_option maxHeartbeats 4000000 in
theorem move_i {w : World} {x : Option Addr} {L : List Value} (I K T : Int) (H : Tin w 95 (.pointer x) L) (hg : Gd L) (hf : L.length ≤ 20000) :
    Calls Try.prog 36 #[.agg #[.pointer x], .int .i64 I, .int .i64 K, .int .i64 T] w fun e w' => ∃ y, e = .returned (.agg #[.pointer y]) ∧ Tin w' 95 (.pointer y) (mvV L I K T) ∧ Below w.heap.size w w' := by
  unfold mvV
  have hl1 := spV_len L [] I K
  have hl2 := slV_len L I K
  rw [List.length_nil] at hl1
  have hg1 : Gd (spV L I K []) := spV_gd hg (fun v hv => by simp at hv)
  have hg2 : Gd (slV L I K) := slV_gd hg
  have HG := Lib.hid (spV_gd (I := T) (K := T) hg1 hg2)
  obtain ⟨w1, hw1, hb1, hz1, hA, hC⟩ := two_blocks w (Obj.cells #[.pointer x] 27) (Obj.cells #[Value.pointer none] 27)
  have c0 : w1.cell? ⟨w.heap.size, 0, none⟩ = some (.pointer x) := by rw [cell_at hA]; rfl
  have HB1 := Lib.hid (And.intro hb1 hC)
  have HT1 := Lib.hid (H.below hb1)
  have HS := Lib.hid (splice_i (u := none) (M := []) I K HT1.out (.inl ⟨rfl, rfl⟩) hg (fun v hv => by simp at hv) (by rw [List.length_nil]; omega))
  have HSl := Lib.hid (fun W (hT : Tin W 95 (.pointer x) L) => slice_i I K hT hg (by omega))
  generalize spV L I K [] = L1 at *
  generalize slV L I K = L2 at *
  have HSp := Lib.hid (fun W x1 x2 (hT : Tin W 95 (.pointer x1) L1) (hT' : Tin W 95 (.pointer x2) L2) => splice_i T T hT hT' hg1 hg2 (by omega))
  generalize spV L1 T T L2 = L3 at *
  have hlt1 : w.heap.size + 1 < w1.heap.size := by omega
  clear hA hC hb1 H hg hl1 hl2 hg1 hg2
  go_enter Try.func36, Try.ntmps36
  go_wp2_with fail
  refine HS.out.mono ?_; rintro e w2 ⟨x1, rfl, t1, hb2⟩
  obtain ⟨w3, hw3, hb3, hz3, hh3⟩ := box_eq w2 27 x1
  have q1 : w3.cell? ⟨w2.heap.size, 0, none⟩ = some (.pointer x1) := by rw [cell_at hh3]; rfl
  have hb13 := hb2.trans (hb3.mono hb2.size)
  have hC3 := (hb13.block _ hlt1).trans HB1.out.2
  have HB3 := Lib.hid (And.intro (HB1.out.1.trans (hb13.mono HB1.out.1.size)) hC3)
  have c03 := (hb13.cell (p := ⟨w.heap.size, 0, none⟩) (show w.heap.size < w1.heap.size by omega)).trans c0
  have hlt3 := Nat.lt_of_lt_of_le hlt1 hb13.size
  have HT3 := Lib.hid (And.intro (HT1.out.below hb13) (t1.below hb3))
  have HSl3 := Lib.hid (HSl.out w3.drew (HT3.out.1.below (Below.refl _ w3).drew))
  have hlt23 : w2.heap.size < w3.heap.size := by omega
  clear t1 hb2 hb3 hb13 hC3 HS c0 HSl hh3
  go_wp2_with fail
  rename_i KK hKK
  have key : ∀ (j y : Option Addr) (W : World), Below w3.heap.size w3 W → Tin W 95 (.pointer y) L3 → KK { tmps := #[.agg #[.pointer x], .int .i64 I, .int .i64 K, .int .i64 T, pbx w.heap.size, undef, undef, undef, pbx (w.heap.size + 1), pbx w2.heap.size, .agg #[.pointer x], .int .i64 I, .int .i64 K, .agg #[.pointer none], .agg #[.pointer x1], .agg #[.pointer x1], .int .i64 T, .int .i64 T, .agg #[.pointer x], .int .i64 I, .int .i64 K, .agg #[.pointer j], .agg #[.pointer y]], defers := [] } (W.setCell ⟨w.heap.size + 1, 0, none⟩ (.pointer y)) := by
    intro j y W hbW hTW
    refine hKK _ _ ?_
    have hCW := (hbW.block _ hlt3).trans HB3.out.2
    have hBW := HB3.out.1.trans (hbW.mono HB3.out.1.size)
    have hs := heap_set_at (o := 0) (u := Value.pointer y) hCW
    have hB := hBW.setCell (p := ⟨w.heap.size + 1, 0, none⟩) (by show _ ≤ w.heap.size + 1; omega) (Value.pointer y)
    have hT := hTW.setNil (u := Value.pointer y) hCW (by decide) HG.out
    have q0 : (W.setCell ⟨w.heap.size + 1, 0, none⟩ (Value.pointer y)).cell? ⟨w.heap.size + 1, 0, none⟩ = some (Value.pointer y) := by rw [cell_at hs]; rfl
    clear hKK hw1 hw3
    go_wp2_with fail
    exact bodyPost_ret (v := .agg #[.pointer y]) (by simp [results, Try.results36, go_sem, q0]) rfl ⟨y, rfl, hT, hB⟩
  clear hKK
  go_region_with (first
    | (refine HSl3.out.mono ?_; clear HSl3; rintro e V ⟨j, rfl, tj, hbV⟩
       have q1V := (hbV.cell (p := ⟨w2.heap.size, 0, none⟩) hlt23).trans q1
       have hb3V := (Below.refl _ w3).drew.trans hbV
       have HSpV := Lib.hid (HSp.out _ _ _ (HT3.out.2.below hb3V) tj))
    | (refine HSpV.out.mono ?_; clear HSpV; rintro e V2 ⟨y, rfl, ty, hbV2⟩
       have hb3V2 := hb3V.trans (hbV2.mono hb3V.size)
       have hCV := (hb3V2.block _ hlt3).trans HB3.out.2
       have zz := fun i => unfrozen hCV i
       have r0 : V2.cell? ⟨w.heap.size + 1, 0, none⟩ = some (.pointer none) := by rw [cell_at hCV]; rfl))
  all_goals (exact key _ _ _ hb3V2 ty)

end Go.Proofs.Ytofncnommekbjaa
