/-
  The contract of the law's Plain of a kept cell, at this seat's numbers.
-/
import Derived.Test.YtmdifcgnmkpecaaCeG
namespace Go.Proofs.Ytmdifcgnmkpecaa
open Go Go.RowKit
set_option linter.unusedVariables false

set_option maxRecDepth 100000 in
set_option maxHeartbeats 2000000 in
theorem cplain_kept {w : World} {B p : Nat} {l : List UInt8} {a : Option Addr} {n c : Nat} {t : List Int} (x y : Int) (h : Ar w B p l) (hl : l.length ≤ 16384) (hx : Tx w (.slice a n c) t) (hin : InL l t) :
    Calls Try.prog 15 #[.pointer (some ⟨p, 0, none⟩), cellV a n c x y true] w fun e w' => e = .returned (.agg #[.string (strOf (atL l t)), .string (strOf (subL l x y)), .bool true]) ∧ Below w.heap.size w w' := by
  obtain ⟨w1, hw1⟩ : ∃ w1, w1 = allocs w [Obj.cells #[Value.slice a n c, Value.int .i64 x, Value.int .i64 y, Value.bool true] 50, Obj.cells #[Value.string ⟨#[]⟩, Value.string ⟨#[]⟩, Value.bool false] 53] := ⟨_, rfl⟩
  have HB1 : Hid (Below w.heap.size w w1) := by rw [hw1]; exact Lib.hid (allocs_below _ w)
  have hzw : w1.heap.size > w.heap.size + 1 := by rw [hw1, allocs_size]; simp
  have h0 : w1.heap[w.heap.size]? = some (.cells #[Value.slice a n c, Value.int .i64 x, Value.int .i64 y, Value.bool true] 50 (0, 0)) := by rw [hw1]; exact allocs_at _ w 0 _ rfl
  have H1 : Hid (w1.heap[w.heap.size + 1]? = some (.cells #[Value.string ⟨#[]⟩, Value.string ⟨#[]⟩, Value.bool false] 53 (0, 0))) := by rw [hw1]; exact Lib.hid (allocs_at _ w 1 _ rfl)
  have k0 : w1.cell? ⟨w.heap.size, 0, none⟩ = some (.slice a n c) := by rw [cell_at h0]; rfl
  have k1 : w1.cell? ⟨w.heap.size, 1, none⟩ = some (.int .i64 x) := by rw [cell_at h0]; rfl
  have k2 : w1.cell? ⟨w.heap.size, 2, none⟩ = some (.int .i64 y) := by rw [cell_at h0]; rfl
  have k3 : w1.cell? ⟨w.heap.size, 3, none⟩ = some (.bool true) := by rw [cell_at h0]; rfl
  have ld0 := fun w' (h : Below w1.heap.size w1 w') => (h.cell (p := ⟨w.heap.size, 0, none⟩) (by simp only; omega)).trans k0
  have ld1 := fun w' (h : Below w1.heap.size w1 w') => (h.cell (p := ⟨w.heap.size, 1, none⟩) (by simp only; omega)).trans k1
  have ld2 := fun w' (h : Below w1.heap.size w1 w') => (h.cell (p := ⟨w.heap.size, 2, none⟩) (by simp only; omega)).trans k2
  have ld3 := fun w' (h : Below w1.heap.size w1 w') => (h.cell (p := ⟨w.heap.size, 3, none⟩) (by simp only; omega)).trans k3
  have hb0 : Below w1.heap.size w1 w1.drew := (Below.refl _ _).drew
  have hbB : Below w1.heap.size w1 (w1.alloc (Obj.cells #[Value.string ⟨#[]⟩, Value.string ⟨#[]⟩, Value.bool false] 53)).drew := ((Below.refl _ w1).alloc (Nat.le_refl _) _).drew
  have HF := Lib.hid (fun w' (hb : Below w1.heap.size w1 w') => cbytes_of x y true (h.below (HB1.out.trans (hb.mono (by omega)))) hl (hx.below (HB1.out.trans (hb.mono (by omega)))) hin)
  have HG := Lib.hid (fun w' (hb : Below w1.heap.size w1 w') => abytes_of (h.below (HB1.out.trans (hb.mono (by omega)))) hl x y)
  generalize subL l x y = g at *
  generalize atL l t = f at *
  clear h hx h0 k0 k1 k2 k3
  go_enter Try.func15, Try.ntmps15
  go_upto_region 1 with fail
  rw [show (w.alloc (Obj.cells #[Value.slice a n c, Value.int .i64 x, Value.int .i64 y, Value.bool true] 50)).alloc (Obj.cells #[Value.string ⟨#[]⟩, Value.string ⟨#[]⟩, Value.bool false] 53) = w1 from hw1.symm]
  clear hw1
  go_cut [5] (fun s5 wx => ∃ b : Nat, s5 = .pointer (some ⟨b, 0, none⟩) ∧ w1.heap.size ≤ b ∧ wx.heap[b]? = some (.cells #[.string (strOf f), .string ⟨#[]⟩, .bool true] 53 (0, 0)) ∧ Below w1.heap.size w1 wx)
  case first =>
    go_region_held_law (fun w' => Below w1.heap.size w1 w')
      (first | assumption | exact Below.alloc (by assumption) (Below.size (by assumption)) _ | exact set3_below (by assumption) (Nat.le_refl _) _ _ _ | exact set3_below (Below.alloc (by assumption) (Below.size (by assumption)) _) (Below.size (by assumption)) _ _ _)
      ((first
        | (go_at_call 52; refine (HF.out _ hb0).mono ?_; rintro e w2 ⟨a2, c2, rfl, ho2, hb2⟩; have hst0 := string_own ho2; have hst := string_own (own_below ho2 (below_al w2 (Obj.cells #[Value.string ⟨#[]⟩, Value.string ⟨#[]⟩, Value.bool false] 53))); have hh2 := heap_alloc_new w2 (Obj.cells #[Value.string ⟨#[]⟩, Value.string ⟨#[]⟩, Value.bool false] 53); have z2 := (fun i => unfrozen hh2 i); have p0 : (w2.alloc (Obj.cells #[Value.string ⟨#[]⟩, Value.string ⟨#[]⟩, Value.bool false] 53)).cell? ⟨w2.heap.size, 0, none⟩ = some (.string ⟨#[]⟩) := (by rw [cell_at hh2]; rfl); have p1 : (w2.alloc (Obj.cells #[Value.string ⟨#[]⟩, Value.string ⟨#[]⟩, Value.bool false] 53)).cell? ⟨w2.heap.size, 1, none⟩ = some (.string ⟨#[]⟩) := (by rw [cell_at hh2]; rfl); have p2 : (w2.alloc (Obj.cells #[Value.string ⟨#[]⟩, Value.string ⟨#[]⟩, Value.bool false] 53)).cell? ⟨w2.heap.size, 2, none⟩ = some (.bool false) := (by rw [cell_at hh2]; rfl); have HH2 := Lib.hid hh2; have hs2 := hb0.trans (hb2.mono hb0.size); clear ho2 hb2 hh2)
        | (go_at_call 52; refine (HF.out _ hbB).mono ?_; rintro e w2 ⟨a2, c2, rfl, ho2, hb2⟩; have hst := string_own ho2; have hh2 := (hb2.block w1.heap.size (by simp)).trans (heap_alloc_new w1 (Obj.cells #[Value.string ⟨#[]⟩, Value.string ⟨#[]⟩, Value.bool false] 53)); have z2 := (fun i => unfrozen hh2 i); have p0 : w2.cell? ⟨w1.heap.size, 0, none⟩ = some (.string ⟨#[]⟩) := (by rw [cell_at hh2]; rfl); have p1 : w2.cell? ⟨w1.heap.size, 1, none⟩ = some (.string ⟨#[]⟩) := (by rw [cell_at hh2]; rfl); have p2 : w2.cell? ⟨w1.heap.size, 2, none⟩ = some (.bool false) := (by rw [cell_at hh2]; rfl); have HH2 := Lib.hid hh2; have hs2 := hbB.trans (hb2.mono hbB.size); clear ho2 hb2 hh2)))
    all_goals
      go_wp2_with fail
      go_meet
      first
      | exact ⟨_, rfl, hs2.size, heap_alloc_new _ _, hs2.alloc hs2.size _⟩
      | exact ⟨_, rfl, Nat.le_refl _, set3_at HH2.out _ _ _, set3_below hs2 (Nat.le_refl _) _ _ _⟩
  case rest =>
    obtain ⟨b, rfl, hb, hh, hbx⟩ := hcut
    have k1 := ld1 _ hbx
    have k2 := ld2 _ hbx
    have k3 := ld3 _ hbx
    have HH := Lib.hid hh
    have HX := Lib.hid hbx
    have HGx := Lib.hid (HG.out wc hbx)
    have hbl := lt_of_heap hh
    clear hh hbx ld0 ld1 ld2 ld3 hbB hb0 HF HG
    go_wp2_with fail
    refine HGx.out.mono ?_; rintro e w5 ⟨a5, c5, rfl, ho5, hb5⟩
    have hst := string_own ho5
    have hh := (hb5.block b hbl).trans HH.out
    have z5 := fun i => unfrozen hh i
    have c0 : w5.cell? ⟨b, 0, none⟩ = some (.string (strOf f)) := by rw [cell_at hh]; rfl
    have c1 : w5.cell? ⟨b, 1, none⟩ = some (.string ⟨#[]⟩) := by rw [cell_at hh]; rfl
    have hh6 : (w5.setCell ⟨b, 1, none⟩ (.string (strOf g))).heap[b]? = some (.cells #[.string (strOf f), .string (strOf g), .bool true] 53 (0, 0)) := by rw [heap_set_at hh]; rfl
    have HB6 := Lib.hid ((HX.out.trans (hb5.mono HX.out.size)).setCell (p := ⟨b, 1, none⟩) hb (.string (strOf g)))
    have hr1 := (HB6.out.block (w.heap.size + 1) (by omega)).trans H1.out
    have HR1 := Lib.hid hr1
    have HH6 := Lib.hid hh6
    clear hh hb5 ho5 hr1 hh6 HGx HX
    go_upto_region 4 with fail
    generalize w5.setCell ⟨b, 1, none⟩ (.string (strOf g)) = w6 at *
    have hr1 := HR1.out
    have hh6 := HH6.out
    have z6 := fun i => unfrozen hr1 i
    have d0 : w6.cell? ⟨b, 0, none⟩ = some (.string (strOf f)) := by rw [cell_at hh6]; rfl
    have d1 : w6.cell? ⟨b, 1, none⟩ = some (.string (strOf g)) := by rw [cell_at hh6]; rfl
    have d2 : w6.cell? ⟨b, 2, none⟩ = some (.bool true) := by rw [cell_at hh6]; rfl
    have r0 : w6.cell? ⟨w.heap.size + 1, 0, none⟩ = some (.string ⟨#[]⟩) := by rw [cell_at hr1]; rfl
    have r1 : w6.cell? ⟨w.heap.size + 1, 1, none⟩ = some (.string ⟨#[]⟩) := by rw [cell_at hr1]; rfl
    have r2 : w6.cell? ⟨w.heap.size + 1, 2, none⟩ = some (.bool false) := by rw [cell_at hr1]; rfl
    have HS := Lib.hid (set3_at hr1 (.string (strOf f)) (.string (strOf g)) (.bool true))
    have HBX := Lib.hid (set3_below (HB1.out.trans (HB6.out.mono (by omega))) (show w.heap.size ≤ w.heap.size + 1 by omega) (.string (strOf f)) (.string (strOf g)) (.bool true))
    clear hr1 hh6 c0 c1 k1 k2 k3 z5 hst
    go_wp2_with fail
    have q0 : (set3 w6 (w.heap.size + 1) (.string (strOf f)) (.string (strOf g)) (.bool true)).cell? ⟨w.heap.size + 1, 0, none⟩ = some (.string (strOf f)) := by rw [cell_at HS.out]; rfl
    have q1 : (set3 w6 (w.heap.size + 1) (.string (strOf f)) (.string (strOf g)) (.bool true)).cell? ⟨w.heap.size + 1, 1, none⟩ = some (.string (strOf g)) := by rw [cell_at HS.out]; rfl
    have q2 : (set3 w6 (w.heap.size + 1) (.string (strOf f)) (.string (strOf g)) (.bool true)).cell? ⟨w.heap.size + 1, 2, none⟩ = some (.bool true) := by rw [cell_at HS.out]; rfl
    unfold set3 at q0 q1 q2
    exact bodyPost_ret (v := .agg #[.string (strOf f), .string (strOf g), .bool true]) (by simp [results, Try.results15, go_sem, q0, q1, q2]) rfl ⟨rfl, HBX.out⟩

end Go.Proofs.Ytmdifcgnmkpecaa
