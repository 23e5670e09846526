/-
  Get of registers; at this seat's numbers.
-/
import Derived.Test.YteipnllefifgiaaRgI
namespace Go.Proofs.Yteipnllefifgiaa
open Go Go.RowKit
set_option linter.unusedVariables false

set_option maxRecDepth 100000 in
set_option maxHeartbeats 4000000 in
theorem get_nil (x : Int) (w : World) : Calls Try.prog 13 #[.pointer none, .int .i64 x] w fun e w' => e = .returned (.tuple #[rgV 0 none 0 0, .bool false]) ∧ Below w.heap.size w w' := by
  have al := t_al w (.cells #[.int .i64 0, .slice none 0 0] 41)
  have hn := heap_alloc_new w (.cells #[.int .i64 0, .slice none 0 0] 41)
  have HS := Lib.hid (set2_at hn (.int .i64 0) (.slice none 0 0))
  have HB := Lib.hid al
  clear al hn
  unfold rgV
  go_enter Try.func13, Try.ntmps13
  go_wp2_with fail
  exact bodyPost_ret (v := .tuple #[.agg #[.int .i64 0, .slice none 0 0], .bool false]) (by simp [results, Try.results13, go_sem]) rfl ⟨rfl, HB.out⟩

set_option maxRecDepth 100000 in
set_option maxHeartbeats 4000000 in
theorem get_no {w : World} {t lo hi b : Nat} {R : List Rv} (H : Rg w t lo hi b R) (x : Int) (hx : ∀ i r, regI x = some i → R[i]? = some r → r.T.length = 0) :
    Calls Try.prog 13 #[.pointer (some ⟨b, 0, none⟩), .int .i64 x] w fun e w' => e = .returned (.tuple #[rgV 0 none 0 0, .bool false]) ∧ Below w.heap.size w w' := by
  have al := t_al w (.cells #[.int .i64 0, .slice none 0 0] 41)
  have hn := heap_alloc_new w (.cells #[.int .i64 0, .slice none 0 0] 41)
  have HO := Lib.hid (fun w => rof_of b x w)
  cases hr : regI x with
  | none =>
    have HA : Hid (regA b x = none) := Lib.hid (by unfold regA; rw [hr]; rfl)
    rw [HA.out] at HO
    have HS := Lib.hid (set2_at hn (.int .i64 0) (.slice none 0 0))
    have HB := Lib.hid al
    clear al hn H hx hr HA
    unfold rgV
    go_enter Try.func13, Try.ntmps13
    go_wp2_with fail
    refine (HO.out _).mono ?_; rintro e w2 ⟨rfl, hw⟩
    have hw2 := hw.symm
    subst hw2
    clear hw
    go_wp2_with fail
    exact bodyPost_ret (v := .tuple #[.agg #[.int .i64 0, .slice none 0 0], .bool false]) (by simp [results, Try.results13, go_sem]) rfl ⟨rfl, HB.out⟩
  | some i =>
    obtain ⟨r, hir⟩ := H.get (regI_lt hr)
    have hT := hx i r hr hir
    have HA : Hid (regA b x = some ⟨b, i * 2, none⟩) := Lib.hid (by unfold regA; rw [hr]; rfl)
    rw [HA.out] at HO
    obtain ⟨c0, c1⟩ := (H.below al).cell hir
    rw [hT] at c1
    have HN := Lib.hid (fun w' => any_of r.k r.a 0 r.c w')
    unfold rgV at *
    have HAL := Lib.hid al
    have HNW := Lib.hid hn
    clear H hx hr HA hir hT hn al
    obtain ⟨k, a, c, T⟩ := r
    simp only [] at c0 c1 HN
    go_enter Try.func13, Try.ntmps13
    go_wp2_with fail
    refine (HO.out _).mono ?_; rintro e w2 ⟨rfl, hw⟩
    have hw2 := hw.symm
    subst hw2
    clear hw
    go_wp2_with fail
    refine (HN.out _).mono ?_; rintro e w3 ⟨rfl, hb3⟩
    have hz3 := hb3.size
    have y1 : w3.heap[w.heap.size]? = some (.cells #[.int .i64 0, .slice none 0 0] 41 (0, 0)) := (hb3.block w.heap.size (by simp)).trans HNW.out
    have HB3 := Lib.hid (HAL.out.trans (hb3.mono HAL.out.size))
    have HS := Lib.hid (set2_at y1 (.int .i64 0) (.slice none 0 0))
    have r0 : w3.cell? ⟨w.heap.size, 0, none⟩ = some (.int .i64 0) := by rw [cell_at y1]; rfl
    have r1 : w3.cell? ⟨w.heap.size, 1, none⟩ = some (.slice none 0 0) := by rw [cell_at y1]; rfl
    have zz := fun j => unfrozen y1 j
    clear hb3 y1 c0 c1
    go_wp2_with fail
    have q0 : (set2 w3 w.heap.size 0 (.int .i64 0) (.slice none 0 0)).cell? ⟨w.heap.size, 0, none⟩ = some (.int .i64 0) := by rw [cell_at HS.out]; rfl
    have q1 : (set2 w3 w.heap.size 0 (.int .i64 0) (.slice none 0 0)).cell? ⟨w.heap.size, 1, none⟩ = some (.slice none 0 0) := by rw [cell_at HS.out]; rfl
    have hb := set2_below (b := w.heap.size) (o := 0) HB3.out (Nat.le_refl _) (.int .i64 0) (.slice none 0 0)
    unfold set2 at q0 q1 hb
    exact bodyPost_ret (v := .tuple #[.agg #[.int .i64 0, .slice none 0 0], .bool false]) (by simp [results, Try.results13, go_sem, q0, q1]) rfl ⟨rfl, hb⟩

/-- What Get tells of a register that has something. -/
def GetPost (r : Rv) (w : World) (e : Ending) (w' : World) : Prop :=
  ∃ a c T', T'.length = r.T.length ∧ txL T' = txL r.T ∧ e = .returned (.tuple #[rgV r.k a r.T.length c, .bool true]) ∧ (Mx w' w.heap.size w'.heap.size a c T' ∧ Wr w' a T') ∧ Below w.heap.size w w'

set_option maxRecDepth 100000 in
set_option maxHeartbeats 4000000 in
theorem get_yes {w : World} {t lo hi b : Nat} {R : List Rv} (H : Rg w t lo hi b R) (x : Int) {i : Nat} {r : Rv} (hr : regI x = some i) (hir : R[i]? = some r) (h0 : 0 < r.T.length) :
    Calls Try.prog 13 #[.pointer (some ⟨b, 0, none⟩), .int .i64 x] w (GetPost r w) := by
  unfold GetPost
  have al := t_al w (.cells #[.int .i64 0, .slice none 0 0] 41)
  have hn := heap_alloc_new w (.cells #[.int .i64 0, .slice none 0 0] 41)
  have HO := Lib.hid (fun w => rof_of b x w)
  have HA : Hid (regA b x = some ⟨b, i * 2, none⟩) := Lib.hid (by unfold regA; rw [hr]; rfl)
  rw [HA.out] at HO
  obtain ⟨c0, c1⟩ := (H.below al).cell hir
  have HN := Lib.hid (fun w' => any_of r.k r.a r.T.length r.c w')
  have hmem := List.mem_of_getElem? hir
  have hm := (H.mx r hmem).below al
  have hf := H.few r hmem
  have HC : Hid (∀ w', Below (w.alloc (.cells #[.int .i64 0, .slice none 0 0] 41)).heap.size (w.alloc (.cells #[.int .i64 0, .slice none 0 0] 41)) w' → (w'.cell? ⟨b, i * 2, none⟩ = some (.int .i64 r.k) ∧ w'.cell? ⟨b, i * 2 + 1, none⟩ = some (.slice r.a r.T.length r.c)) ∧ Calls Try.prog 33 #[rgV r.k r.a r.T.length r.c] w' (CpPost r.k r.T w')) :=
    Lib.hid (fun w' hb => ⟨((H.below al).below hb).cell hir, copied_of r.k (hm.below hb) h0 (by omega) (thin_of (by omega))⟩)
  unfold CpPost at HC
  rw [decide_eq_true h0] at HN
  unfold rgV at *
  have HAL := Lib.hid al
  have HNW := Lib.hid hn
  clear H hr HA hir hn al hm hf hmem h0
  obtain ⟨k, a, c, T⟩ := r
  simp only [] at c0 c1 HN HC ⊢
  generalize T.length = n at *
  generalize hw0 : w.alloc (.cells #[.int .i64 0, .slice none 0 0] 41) = w0 at *
  have hs0 : w0.heap.size = w.heap.size + 1 := by rw [← hw0]; simp
  go_enter Try.func13, Try.ntmps13
  go_upto_region 1 with fail
  try rw [hw0]
  clear hw0
  go_wp2_with fail
  refine (HO.out _).mono ?_; rintro e w2 ⟨rfl, hw⟩
  have hw2 := hw.symm
  subst hw2
  clear hw
  go_wp2_with fail
  refine (HN.out _).mono ?_; rintro e w3 ⟨rfl, hb3⟩
  obtain ⟨⟨d0, d1⟩, hcp⟩ := HC.out w3 hb3
  have hz3 := hb3.size
  have HCP := Lib.hid hcp
  have HB3 := Lib.hid (HAL.out.trans (hb3.mono HAL.out.size))
  have HY : Hid (w3.heap[w.heap.size]? = some (.cells #[.int .i64 0, .slice none 0 0] 41 (0, 0))) := Lib.hid ((hb3.block w.heap.size (by omega)).trans HNW.out)
  clear hb3 c0 c1 hcp
  go_wp2_with fail
  refine HCP.out.mono ?_; rintro e w4 ⟨a4, c4, T4, hl4, ht4, rfl, hm4, hb4⟩
  have y1 := (hb4.block w.heap.size (by omega)).trans HY.out
  have HB4 := Lib.hid (HB3.out.trans (hb4.mono HB3.out.size))
  have HS := Lib.hid (set2_at y1 (.int .i64 k) (.slice a4 n c4))
  have r0 : w4.cell? ⟨w.heap.size, 0, none⟩ = some (.int .i64 0) := by rw [cell_at y1]; rfl
  have r1 : w4.cell? ⟨w.heap.size, 1, none⟩ = some (.slice none 0 0) := by rw [cell_at y1]; rfl
  have zz := fun j => unfrozen y1 j
  have HM4 : Hid (Mx (set2 w4 w.heap.size 0 (.int .i64 k) (.slice a4 n c4)) w.heap.size (set2 w4 w.heap.size 0 (.int .i64 k) (.slice a4 n c4)).heap.size a4 c4 T4) := Lib.hid (by
    rw [set2_size]
    exact (hm4.1.keep (set2_keep (Or.inl (by omega)))).mono (by omega) (Nat.le_refl _))
  have HL := Lib.hid (And.intro hl4 ht4)
  have HWR : Hid (Wr (set2 w4 w.heap.size 0 (.int .i64 k) (.slice a4 n c4)) a4 T4) := Lib.hid (by unfold set2; exact (hm4.2.set).set)
  clear hb4 y1 d0 d1 hm4 hl4 ht4 HCP HC
  go_wp2_with fail
  have q0 : (set2 w4 w.heap.size 0 (.int .i64 k) (.slice a4 n c4)).cell? ⟨w.heap.size, 0, none⟩ = some (.int .i64 k) := by rw [cell_at HS.out]; rfl
  have q1 : (set2 w4 w.heap.size 0 (.int .i64 k) (.slice a4 n c4)).cell? ⟨w.heap.size, 1, none⟩ = some (.slice a4 n c4) := by rw [cell_at HS.out]; rfl
  have hb := set2_below (b := w.heap.size) (o := 0) HB4.out (Nat.le_refl _) (.int .i64 k) (.slice a4 n c4)
  have hm := HM4.out
  have hwr := HWR.out
  have hl1 := HL.out.1
  have hl2 := HL.out.2
  unfold set2 at q0 q1 hb hm hwr
  exact bodyPost_ret (v := .tuple #[.agg #[.int .i64 k, .slice a4 n c4], .bool true]) (by simp [results, Try.results13, go_sem, q0, q1]) rfl ⟨a4, c4, T4, hl1, hl2, rfl, ⟨hm, hwr⟩, hb⟩

end Go.Proofs.Yteipnllefifgiaa
