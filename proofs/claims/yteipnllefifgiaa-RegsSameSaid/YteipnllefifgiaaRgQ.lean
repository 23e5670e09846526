/-
  RegsSame's walk; at this seat's numbers.
-/
import Derived.Test.YteipnllefifgiaaRgO
import Derived.Deep.RegionHeld3
namespace Go.Proofs.Yteipnllefifgiaa
open Go Go.RowKit
set_option linter.unusedVariables false

set_option maxRecDepth 100000 in
set_option maxHeartbeats 16000000 in
theorem regsSame_walk (k : Int) (a : Option Addr) (c : Nat) (T : List TxM) (k' : Int) (a' : Option Addr) (c' : Nat) (T' : List TxM) (w : World) (H : TxIn w a T) (H' : TxIn w a' T') :
    Calls Try.prog 5 #[rgV k a T.length c, rgV k' a' T'.length c'] w fun e w' => e = .returned (.bool true) ∧ Below w.heap.size w w' := by
  unfold rgV
  obtain ⟨w1, e1, hb1, hz1, g0, g1⟩ := two_new w (.cells #[.int .i64 k, .slice a T.length c] 28) (.cells #[.int .i64 k', .slice a' T'.length c'] 28)
  have HF := Lib.hid (few_of (c := c) (H.below hb1))
  have HIW := Lib.hid H'
  have HB1 := Lib.hid hb1
  have HZ1 := Lib.hid hz1
  generalize hn : T.length = n at *
  generalize hn' : T'.length = n' at *
  have HN' := Lib.hid hn'
  have k0 : w1.cell? ⟨w.heap.size, 1, none⟩ = some (.slice a n c) := by rw [cell_at g0]; rfl
  have z0 := fun j => unfrozen g0 j
  have HG0 := Lib.hid g0
  have HG1 := Lib.hid g1
  unfold FwPost at HF
  clear hb1 hz1 g0 g1 H H' hn hn'
  go_enter Try.func5, Try.ntmps5
  go_upto_region 1 with fail
  try rw [e1]
  clear e1
  go_wp2_with fail
  refine HF.out.mono ?_; rintro e w2 ⟨a2, c2, T2, ht2, rfl, hm2, hb2⟩
  have hfew := fewM_of (txL T)
  have HL2 : Hid (T2.length ≤ 12 ∧ szM (txL T2) ≤ 6540) := Lib.hid (by rw [← txL_len, ht2]; exact ⟨hfew.1, hfew.2.1⟩)
  have h20 := (hb2.block w.heap.size (by have := HZ1.out; omega)).trans HG0.out
  have h21 := (hb2.block (w.heap.size + 1) (by have := HZ1.out; omega)).trans HG1.out
  have k0 : w2.cell? ⟨w.heap.size, 1, none⟩ = some (.slice a n c) := by rw [cell_at h20]; rfl
  have z0 := fun j => unfrozen h20 j
  have H20 := Lib.hid h20
  have H21 := Lib.hid h21
  have HM2 := Lib.hid hm2
  have HB2 := Lib.hid hb2
  clear hm2 hb2 h20 h21 hfew ht2 HF
  go_upto_region 2 with fail
  have hs3 : (w2.setCell ⟨w.heap.size, 1, none⟩ (.slice a2 T2.length c2)).heap.size = w2.heap.size := size_set
  have h30 := heap_set_at (o := 1) (u := .slice a2 T2.length c2) H20.out
  have h31 := (heap_set_other (w := w2) (o := 1) (u := .slice a2 T2.length c2) (show w.heap.size + 1 ≠ w.heap.size by omega)).trans H21.out
  have HM3 : Hid (Mx (w2.setCell ⟨w.heap.size, 1, none⟩ (.slice a2 T2.length c2)) w1.heap.size w2.heap.size a2 c2 T2) := Lib.hid (HM2.out.keep (Keep.set (Or.inl (by have := HZ1.out; omega))))
  have HB3 : Hid (Below w.heap.size w (w2.setCell ⟨w.heap.size, 1, none⟩ (.slice a2 T2.length c2))) := Lib.hid ((HB1.out.trans (HB2.out.mono HB1.out.size)).setCell (p := ⟨w.heap.size, 1, none⟩) (Nat.le_refl _) _)
  have HF' := Lib.hid (few_of (c := c') (HIW.out.below HB3.out))
  rw [HN'.out] at HF'
  unfold FwPost at HF'
  have k1 : (w2.setCell ⟨w.heap.size, 1, none⟩ (.slice a2 T2.length c2)).cell? ⟨w.heap.size + 1, 1, none⟩ = some (.slice a' n' c') := by rw [cell_at h31]; rfl
  have H30 := Lib.hid h30
  have H31 := Lib.hid h31
  have HS3 := Lib.hid hs3
  have HZ2 : Hid (w1.heap.size ≤ w2.heap.size) := Lib.hid HB2.out.size
  generalize w2.setCell ⟨w.heap.size, 1, none⟩ (.slice a2 T2.length c2) = w3 at *
  clear h30 h31 hs3 k0 z0
  go_wp2_with fail
  refine HF'.out.mono ?_; rintro e w4 ⟨a4, c4, T4, ht4, rfl, hm4, hb4⟩
  have hfew := fewM_of (txL T')
  have HL4 : Hid (T4.length ≤ 12 ∧ szM (txL T4) ≤ 6540) := Lib.hid (by rw [← txL_len, ht4]; exact ⟨hfew.1, hfew.2.1⟩)
  have h40 := (hb4.block w.heap.size (by have := HZ1.out; have := HS3.out; have := HZ2.out; omega)).trans H30.out
  have h41 := (hb4.block (w.heap.size + 1) (by have := HZ1.out; have := HS3.out; have := HZ2.out; omega)).trans H31.out
  have k1 : w4.cell? ⟨w.heap.size + 1, 1, none⟩ = some (.slice a' n' c') := by rw [cell_at h41]; rfl
  have z1 := fun j => unfrozen h41 j
  have H40 := Lib.hid h40
  have H41 := Lib.hid h41
  have HM4 := Lib.hid hm4
  have HM3' := Lib.hid (HM3.out.below hb4)
  have HB4 := Lib.hid (HB3.out.trans (hb4.mono HB3.out.size))
  have HZ4 : Hid (w3.heap.size ≤ w4.heap.size) := Lib.hid hb4.size
  clear hm4 hb4 h40 h41 hfew ht4 HF'
  go_upto_region 3 with fail
  have hs5 : (w4.setCell ⟨w.heap.size + 1, 1, none⟩ (.slice a4 T4.length c4)).heap.size = w4.heap.size := size_set
  have h51 := heap_set_at (o := 1) (u := .slice a4 T4.length c4) H41.out
  have h50 := (heap_set_other (w := w4) (o := 1) (u := .slice a4 T4.length c4) (show w.heap.size ≠ w.heap.size + 1 by omega)).trans H40.out
  have HMA : Hid (Mx (w4.setCell ⟨w.heap.size + 1, 1, none⟩ (.slice a4 T4.length c4)) w1.heap.size w2.heap.size a2 c2 T2) := Lib.hid (HM3'.out.keep (Keep.set (Or.inl (by have := HZ1.out; omega))))
  have HMB : Hid (Mx (w4.setCell ⟨w.heap.size + 1, 1, none⟩ (.slice a4 T4.length c4)) w3.heap.size w4.heap.size a4 c4 T4) := Lib.hid (HM4.out.keep (Keep.set (Or.inl (by have := HZ1.out; have := HS3.out; have := HZ2.out; omega))))
  have HB5 : Hid (Below w.heap.size w (w4.setCell ⟨w.heap.size + 1, 1, none⟩ (.slice a4 T4.length c4))) := Lib.hid (HB4.out.setCell (p := ⟨w.heap.size + 1, 1, none⟩) (Nat.le_succ _) _)
  have hlt5 : w.heap.size + 1 < (w4.setCell ⟨w.heap.size + 1, 1, none⟩ (.slice a4 T4.length c4)).heap.size := by rw [hs5]; have := HZ1.out; have := HS3.out; have := HZ2.out; have := HZ4.out; omega
  have x0 : (w4.setCell ⟨w.heap.size + 1, 1, none⟩ (.slice a4 T4.length c4)).cell? ⟨w.heap.size, 0, none⟩ = some (.int .i64 k) := by rw [cell_at h50]; rfl
  have x1 : (w4.setCell ⟨w.heap.size + 1, 1, none⟩ (.slice a4 T4.length c4)).cell? ⟨w.heap.size, 1, none⟩ = some (.slice a2 T2.length c2) := by rw [cell_at h50]; rfl
  have y0 : (w4.setCell ⟨w.heap.size + 1, 1, none⟩ (.slice a4 T4.length c4)).cell? ⟨w.heap.size + 1, 0, none⟩ = some (.int .i64 k') := by rw [cell_at h51]; rfl
  have y1 : (w4.setCell ⟨w.heap.size + 1, 1, none⟩ (.slice a4 T4.length c4)).cell? ⟨w.heap.size + 1, 1, none⟩ = some (.slice a4 T4.length c4) := by rw [cell_at h51]; rfl
  generalize w4.setCell ⟨w.heap.size + 1, 1, none⟩ (.slice a4 T4.length c4) = w5 at *
  clear h50 h51 hs5 k1 z1
  obtain ⟨B, hB⟩ : ∃ B, decide (k = k' ∧ txL T2 = txL T4) = B := ⟨_, rfl⟩
  have HC1 : Hid (∀ w', Below w5.heap.size w5 w' → Calls Try.prog 18 #[.agg #[.int .i64 k, .slice a2 T2.length c2], .agg #[.int .i64 k', .slice a4 T4.length c4]] w' fun e w'' => e = .returned (.bool B) ∧ Below w'.heap.size w' w'') := Lib.hid (fun w' hb => by
    rw [← hB]; exact rgsame_of k k' (HMA.out.below hb) (HMB.out.below hb) (by have := HL2.out.1; omega) (thin_of (by have := HL2.out.2; omega)))
  have HC2 : Hid (∀ w', Below w5.heap.size w5 w' → Calls Try.prog 16 #[.agg #[.int .i64 k, .slice a2 T2.length c2], .agg #[.int .i64 k', .slice a4 T4.length c4]] w' fun e w'' => e = .returned (.bool B) ∧ Below w'.heap.size w' w'') := Lib.hid (fun w' hb => by
    rw [← hB]; exact rrgsame_of k k' (HMA.out.below hb) (HMB.out.below hb) (by have := HL2.out.1; omega) (thin_of (by have := HL2.out.2; omega)))
  have HC3 : Hid (∀ w', Below w5.heap.size w5 w' → Calls Try.prog 18 #[.agg #[.int .i64 k, .slice a2 T2.length c2], .agg #[.int .i64 k, .slice a2 T2.length c2]] w' fun e w'' => e = .returned (.bool true) ∧ Below w'.heap.size w' w'') := Lib.hid (fun w' hb => by
    have h := rgsame_of k k (HMA.out.below hb) (HMA.out.below hb) (by have := HL2.out.1; omega) (thin_of (by have := HL2.out.2; omega))
    rw [decide_eq_true (show k = k ∧ txL T2 = txL T2 from ⟨rfl, rfl⟩)] at h
    exact h)
  have HC4 : Hid (∀ w', Below w5.heap.size w5 w' → Calls Try.prog 19 #[.agg #[.int .i64 k, .slice a2 T2.length c2]] w' fun e w'' => e = .returned (.int .i64 (szM (txL T2))) ∧ Below w'.heap.size w' w'') := Lib.hid (fun w' hb => size_of k (HMA.out.below hb) (by have := HL2.out.2; omega) (by have := HL2.out.1; omega))
  have HC5 : Hid (∀ w', Below w5.heap.size w5 w' → Calls Try.prog 20 #[.agg #[.int .i64 k, .slice a2 T2.length c2]] w' fun e w'' => e = .returned (.int .i64 (szM (txL T2))) ∧ Below w'.heap.size w' w'') := Lib.hid (fun w' hb => rsize_of k (HMA.out.below hb) (by have := HL2.out.2; omega) (by have := HL2.out.1; omega))
  have HAW := Lib.hid (fun w => awake28_of w)
  clear hB
  generalize T2.length = m2 at *
  generalize T4.length = m4 at *
  generalize szM (txL T2) = z at *
  have hb50 : Below w5.heap.size w5 w5.drew := (Below.refl _ w5).drew
  have hlt0 : w.heap.size < w5.heap.size := by omega
  have hlt1 : w.heap.size < w5.heap.size + 1 := by omega
  have hlt2 : w.heap.size + 1 < w5.heap.size + 1 := by omega
  go_region_held3 (fun w' => w'.cell? ⟨w.heap.size, 0, none⟩ = some (.int .i64 k) ∧ w'.cell? ⟨w.heap.size, 1, none⟩ = some (.slice a2 m2 c2) ∧ w'.cell? ⟨w.heap.size + 1, 0, none⟩ = some (.int .i64 k') ∧ w'.cell? ⟨w.heap.size + 1, 1, none⟩ = some (.slice a4 m4 c4)) (first | assumption | (refine ⟨?_, ?_, ?_, ?_⟩ <;> assumption) | go_keep) (fail)
  · obtain ⟨wz, ez, hbz, hzz, ga, gb⟩ := two_new w5 (.cells #[.int .i64 k, .slice a2 m2 c2] 41) (.cells #[.int .i64 k', .slice a4 m4 c4] 41)
    have hb6 : Below w5.heap.size w5 wz.drew := hbz.drew
    have ga6 : wz.drew.heap[w5.heap.size]? = some (.cells #[.int .i64 k, .slice a2 m2 c2] 41 (0, 0)) := ga
    have gb6 : wz.drew.heap[w5.heap.size + 1]? = some (.cells #[.int .i64 k', .slice a4 m4 c4] 41 (0, 0)) := gb
    have hz6 : wz.drew.heap.size = w5.heap.size + 2 := hzz
    try rw [ez]
    generalize wz.drew = w6 at *
    clear ez hbz hzz ga gb
    have ld0 := fun w' (hb : Below w6.heap.size w6 w') => (hb.cell (p := ⟨w.heap.size, 0, none⟩) (show w.heap.size < w6.heap.size by omega)).trans ((hb6.cell (p := ⟨w.heap.size, 0, none⟩) (show w.heap.size < w5.heap.size by omega)).trans x0)
    have ld1 := fun w' (hb : Below w6.heap.size w6 w') => (hb.cell (p := ⟨w.heap.size, 1, none⟩) (show w.heap.size < w6.heap.size by omega)).trans ((hb6.cell (p := ⟨w.heap.size, 1, none⟩) (show w.heap.size < w5.heap.size by omega)).trans x1)
    have ld2 := fun w' (hb : Below w6.heap.size w6 w') => (hb.cell (p := ⟨w.heap.size + 1, 0, none⟩) (show w.heap.size + 1 < w6.heap.size by omega)).trans ((hb6.cell (p := ⟨w.heap.size + 1, 0, none⟩) hlt5).trans y0)
    have ld3 := fun w' (hb : Below w6.heap.size w6 w') => (hb.cell (p := ⟨w.heap.size + 1, 1, none⟩) (show w.heap.size + 1 < w6.heap.size by omega)).trans ((hb6.cell (p := ⟨w.heap.size + 1, 1, none⟩) hlt5).trans y1)
    have ld4 := fun w' (hb : Below w6.heap.size w6 w') => (hb.cell (p := ⟨w5.heap.size, 0, none⟩) (show w5.heap.size < w6.heap.size by omega)).trans ((cell_at ga6 0).trans rfl)
    have ld5 := fun w' (hb : Below w6.heap.size w6 w') => (hb.cell (p := ⟨w5.heap.size, 1, none⟩) (show w5.heap.size < w6.heap.size by omega)).trans ((cell_at ga6 1).trans rfl)
    have ld6 := fun w' (hb : Below w6.heap.size w6 w') => (hb.cell (p := ⟨w5.heap.size + 1, 0, none⟩) (show w5.heap.size + 1 < w6.heap.size by omega)).trans ((cell_at gb6 0).trans rfl)
    have ld7 := fun w' (hb : Below w6.heap.size w6 w') => (hb.cell (p := ⟨w5.heap.size + 1, 1, none⟩) (show w5.heap.size + 1 < w6.heap.size by omega)).trans ((cell_at gb6 1).trans rfl)
    have D1 : Hid (∀ w', Below w6.heap.size w6 w' → _) := Lib.hid (fun w' hb => HC1.out w' (hb6.trans (hb.mono hb6.size)))
    have D2 : Hid (∀ w', Below w6.heap.size w6 w' → _) := Lib.hid (fun w' hb => HC2.out w' (hb6.trans (hb.mono hb6.size)))
    have D3 : Hid (∀ w', Below w6.heap.size w6 w' → _) := Lib.hid (fun w' hb => HC3.out w' (hb6.trans (hb.mono hb6.size)))
    have D4 : Hid (∀ w', Below w6.heap.size w6 w' → _) := Lib.hid (fun w' hb => HC4.out w' (hb6.trans (hb.mono hb6.size)))
    have D5 : Hid (∀ w', Below w6.heap.size w6 w' → _) := Lib.hid (fun w' hb => HC5.out w' (hb6.trans (hb.mono hb6.size)))
    have HB6 := Lib.hid (HB5.out.trans (hb6.mono HB5.out.size))
    have hb60 : Below w6.heap.size w6 w6.drew := (Below.refl _ w6).drew
    clear hb6 ga6 gb6 x0 x1 y0 y1 hlt5 hlt0 hlt1 hlt2 hb50 HC1 HC2 HC3 HC4 HC5 hz6
    have dB : (B == B) = true := by simp
    have dz : ((z : Int) == (z : Int)) = true := by simp
    go_upto_region 4 with fail
    go_region_held3 (fun w' => Below w6.heap.size w6 w') (first | assumption)
      (first
        | (go_at_call 18; with_reducible refine (D1.out _ (by assumption)).mono ?_; rintro e w7 ⟨rfl, hb7'⟩; have hb7 : Below w6.heap.size w6 w7 := Below.trans (by assumption) (hb7'.mono (Below.size (by assumption))); clear hb7')
        | (go_at_call 16; with_reducible refine (D2.out _ (by assumption)).mono ?_; rintro e w7 ⟨rfl, hb7'⟩; have hb7 : Below w6.heap.size w6 w7 := Below.trans (by assumption) (hb7'.mono (Below.size (by assumption))); clear hb7')
        | (go_at_call 18; with_reducible refine (D3.out _ (by assumption)).mono ?_; rintro e w7 ⟨rfl, hb7'⟩; have hb7 : Below w6.heap.size w6 w7 := Below.trans (by assumption) (hb7'.mono (Below.size (by assumption))); clear hb7')
        | (go_at_call 19; with_reducible refine (D4.out _ (by assumption)).mono ?_; rintro e w7 ⟨rfl, hb7'⟩; have hb7 : Below w6.heap.size w6 w7 := Below.trans (by assumption) (hb7'.mono (Below.size (by assumption))); clear hb7')
        | (go_at_call 20; with_reducible refine (D5.out _ (by assumption)).mono ?_; rintro e w7 ⟨rfl, hb7'⟩; have hb7 : Below w6.heap.size w6 w7 := Below.trans (by assumption) (hb7'.mono (Below.size (by assumption))); clear hb7')
        | (go_at_call 10; with_reducible refine (HAW.out _).mono ?_; rintro e w8 ⟨rfl, hb8'⟩; have hb8 : Below w6.heap.size w6 w8 := Below.trans (by assumption) (hb8'.mono (Below.size (by assumption))); clear hb8'))
    all_goals
      clear ld0 ld1 ld2 ld3 ld4 ld5 ld6 ld7
      go_wp2_with fail
      go_ret
      exact ⟨rfl, HB6.out.trans (Below.mono (by assumption) HB6.out.size)⟩
  · obtain ⟨wz, ez, hbz, hzz, ga, gb⟩ := two_new w5 (.cells #[.int .i64 k', .slice a4 m4 c4] 41) (.cells #[.int .i64 k, .slice a2 m2 c2] 41)
    have hb6 : Below w5.heap.size w5 wz.drew := hbz.drew
    have ga6 : wz.drew.heap[w5.heap.size]? = some (.cells #[.int .i64 k', .slice a4 m4 c4] 41 (0, 0)) := ga
    have gb6 : wz.drew.heap[w5.heap.size + 1]? = some (.cells #[.int .i64 k, .slice a2 m2 c2] 41 (0, 0)) := gb
    have hz6 : wz.drew.heap.size = w5.heap.size + 2 := hzz
    try rw [ez]
    generalize wz.drew = w6 at *
    clear ez hbz hzz ga gb
    have ld0 := fun w' (hb : Below w6.heap.size w6 w') => (hb.cell (p := ⟨w.heap.size, 0, none⟩) (show w.heap.size < w6.heap.size by omega)).trans ((hb6.cell (p := ⟨w.heap.size, 0, none⟩) (show w.heap.size < w5.heap.size by omega)).trans x0)
    have ld1 := fun w' (hb : Below w6.heap.size w6 w') => (hb.cell (p := ⟨w.heap.size, 1, none⟩) (show w.heap.size < w6.heap.size by omega)).trans ((hb6.cell (p := ⟨w.heap.size, 1, none⟩) (show w.heap.size < w5.heap.size by omega)).trans x1)
    have ld2 := fun w' (hb : Below w6.heap.size w6 w') => (hb.cell (p := ⟨w.heap.size + 1, 0, none⟩) (show w.heap.size + 1 < w6.heap.size by omega)).trans ((hb6.cell (p := ⟨w.heap.size + 1, 0, none⟩) hlt5).trans y0)
    have ld3 := fun w' (hb : Below w6.heap.size w6 w') => (hb.cell (p := ⟨w.heap.size + 1, 1, none⟩) (show w.heap.size + 1 < w6.heap.size by omega)).trans ((hb6.cell (p := ⟨w.heap.size + 1, 1, none⟩) hlt5).trans y1)
    have ld4 := fun w' (hb : Below w6.heap.size w6 w') => (hb.cell (p := ⟨w5.heap.size, 0, none⟩) (show w5.heap.size < w6.heap.size by omega)).trans ((cell_at ga6 0).trans rfl)
    have ld5 := fun w' (hb : Below w6.heap.size w6 w') => (hb.cell (p := ⟨w5.heap.size, 1, none⟩) (show w5.heap.size < w6.heap.size by omega)).trans ((cell_at ga6 1).trans rfl)
    have ld6 := fun w' (hb : Below w6.heap.size w6 w') => (hb.cell (p := ⟨w5.heap.size + 1, 0, none⟩) (show w5.heap.size + 1 < w6.heap.size by omega)).trans ((cell_at gb6 0).trans rfl)
    have ld7 := fun w' (hb : Below w6.heap.size w6 w') => (hb.cell (p := ⟨w5.heap.size + 1, 1, none⟩) (show w5.heap.size + 1 < w6.heap.size by omega)).trans ((cell_at gb6 1).trans rfl)
    have D1 : Hid (∀ w', Below w6.heap.size w6 w' → _) := Lib.hid (fun w' hb => HC1.out w' (hb6.trans (hb.mono hb6.size)))
    have D2 : Hid (∀ w', Below w6.heap.size w6 w' → _) := Lib.hid (fun w' hb => HC2.out w' (hb6.trans (hb.mono hb6.size)))
    have D3 : Hid (∀ w', Below w6.heap.size w6 w' → _) := Lib.hid (fun w' hb => HC3.out w' (hb6.trans (hb.mono hb6.size)))
    have D4 : Hid (∀ w', Below w6.heap.size w6 w' → _) := Lib.hid (fun w' hb => HC4.out w' (hb6.trans (hb.mono hb6.size)))
    have D5 : Hid (∀ w', Below w6.heap.size w6 w' → _) := Lib.hid (fun w' hb => HC5.out w' (hb6.trans (hb.mono hb6.size)))
    have HB6 := Lib.hid (HB5.out.trans (hb6.mono HB5.out.size))
    have hb60 : Below w6.heap.size w6 w6.drew := (Below.refl _ w6).drew
    clear hb6 ga6 gb6 x0 x1 y0 y1 hlt5 hlt0 hlt1 hlt2 hb50 HC1 HC2 HC3 HC4 HC5 hz6
    have dB : (B == B) = true := by simp
    have dz : ((z : Int) == (z : Int)) = true := by simp
    go_upto_region 4 with fail
    go_region_held3 (fun w' => Below w6.heap.size w6 w') (first | assumption)
      (first
        | (go_at_call 18; with_reducible refine (D1.out _ (by assumption)).mono ?_; rintro e w7 ⟨rfl, hb7'⟩; have hb7 : Below w6.heap.size w6 w7 := Below.trans (by assumption) (hb7'.mono (Below.size (by assumption))); clear hb7')
        | (go_at_call 16; with_reducible refine (D2.out _ (by assumption)).mono ?_; rintro e w7 ⟨rfl, hb7'⟩; have hb7 : Below w6.heap.size w6 w7 := Below.trans (by assumption) (hb7'.mono (Below.size (by assumption))); clear hb7')
        | (go_at_call 18; with_reducible refine (D3.out _ (by assumption)).mono ?_; rintro e w7 ⟨rfl, hb7'⟩; have hb7 : Below w6.heap.size w6 w7 := Below.trans (by assumption) (hb7'.mono (Below.size (by assumption))); clear hb7')
        | (go_at_call 19; with_reducible refine (D4.out _ (by assumption)).mono ?_; rintro e w7 ⟨rfl, hb7'⟩; have hb7 : Below w6.heap.size w6 w7 := Below.trans (by assumption) (hb7'.mono (Below.size (by assumption))); clear hb7')
        | (go_at_call 20; with_reducible refine (D5.out _ (by assumption)).mono ?_; rintro e w7 ⟨rfl, hb7'⟩; have hb7 : Below w6.heap.size w6 w7 := Below.trans (by assumption) (hb7'.mono (Below.size (by assumption))); clear hb7')
        | (go_at_call 10; with_reducible refine (HAW.out _).mono ?_; rintro e w8 ⟨rfl, hb8'⟩; have hb8 : Below w6.heap.size w6 w8 := Below.trans (by assumption) (hb8'.mono (Below.size (by assumption))); clear hb8'))
    all_goals
      clear ld0 ld1 ld2 ld3 ld4 ld5 ld6 ld7
      go_wp2_with fail
      go_ret
      exact ⟨rfl, HB6.out.trans (Below.mono (by assumption) HB6.out.size)⟩

end Go.Proofs.Yteipnllefifgiaa
