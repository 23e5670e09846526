/-
  The document's Get and All of registers; at this seat's numbers.
-/
import Derived.Test.YteipnllefifgiaaRgS
import Derived.Deep.QuietTactic
import Derived.BigQuiet
namespace Go.Proofs.Yteipnllefifgiaa
open Go Go.RowKit
set_option linter.unusedVariables false

set_option maxRecDepth 100000 in
set_option maxHeartbeats 4000000 in
theorem rget_no {w : World} {t lo hi b : Nat} {R : List Rv} (H : Rg w t lo hi b R) (x : Int) (hx : regI x = none) :
    Calls Try.prog 25 #[.pointer (some ⟨b, 0, none⟩), .int .i64 x] w fun e w' => e = .returned (.tuple #[rgV 0 none 0 0, .bool false]) ∧ Below w.heap.size w w' := by
  unfold rgV
  have HS := Lib.hid (fun w => letter_of x w)
  obtain ⟨hl, hx0⟩ : letK x < 0 ∧ x ≠ 0 := by
    unfold regI at hx
    split at hx
    · cases hx
    · split at hx
      · cases hx
      · constructor
        · omega
        · assumption
  obtain ⟨r, hr⟩ := H.get (i := 26) (by omega)
  have al := t_al w (.cells #[.int .i64 0, .slice none 0 0] 28)
  have hn := heap_alloc_new w (.cells #[.int .i64 0, .slice none 0 0] 28)
  obtain ⟨c0, c1⟩ := (H.below al).cell hr
  have HB := Lib.hid (al.trans ((t_al _ (.cells #[.int .i64 r.k, .slice r.a r.T.length r.c] 28)).mono al.size))
  have d0 : decide (letK x < 0) = true := decide_eq_true hl
  have d1 : (x == 0) = false := by rw [beq_eq_false_iff_ne]; exact hx0
  have d2 : (x != 0) = true := by simp [bne, d1]
  generalize letK x = k at *
  generalize r.k = rk at *
  generalize r.a = ra at *
  generalize r.T.length = rn at *
  generalize r.c = rc at *
  clear H hx hl hx0 hr al hn
  go_enter Try.func25, Try.ntmps25
  go_wp2_with fail
  refine (HS.out _).mono ?_; rintro e w2 ⟨rfl, rfl⟩
  go_wp2_with fail
  obtain ⟨w2, e2, _, _, g0, g1⟩ := two_new w (.cells #[.int .i64 0, .slice none 0 0] 28) (.cells #[.int .i64 rk, .slice ra rn rc] 28)
  have hb := HB.out
  rw [e2] at hb ⊢
  have q0 : w2.cell? ⟨w.heap.size, 0, none⟩ = some (.int .i64 0) := by rw [cell_at g0]; rfl
  have q1 : w2.cell? ⟨w.heap.size, 1, none⟩ = some (.slice none 0 0) := by rw [cell_at g0]; rfl
  exact bodyPost_ret (v := .tuple #[.agg #[.int .i64 0, .slice none 0 0], .bool false]) (by simp [results, Try.results25, go_sem, q0, q1]) rfl ⟨rfl, hb⟩

set_option maxRecDepth 100000 in
set_option maxHeartbeats 4000000 in
theorem rget_yes {w : World} {t lo hi b : Nat} {R : List Rv} (H : Rg w t lo hi b R) (x : Int) {i : Nat} {r : Rv} (hr : regI x = some i) (hir : R[i]? = some r) :
    Calls Try.prog 25 #[.pointer (some ⟨b, 0, none⟩), .int .i64 x] w fun e w' => e = .returned (.tuple #[rgV r.k r.a r.T.length r.c, .bool (decide (0 < r.T.length))]) ∧ Below w.heap.size w w' := by
  unfold rgV
  have HS := Lib.hid (fun w => letter_of x w)
  obtain ⟨r6, hr6⟩ := H.get (i := 26) (by omega)
  have al := t_al w (.cells #[.int .i64 0, .slice none 0 0] 28)
  have hRa := H.below al
  obtain ⟨c0, c1⟩ := hRa.cell hr6
  have HAL := Lib.hid al
  obtain ⟨k, a, c, T⟩ := r
  simp only []
  generalize hTn : T.length = n at *
  by_cases h0 : 0 < n
  · have dn : decide ((0 : Int) < (n : Int)) = true := decide_eq_true (by omega)
    rw [decide_eq_true h0]
    by_cases hx : x = 0
    · subst hx
      have hi26 : i = 26 := by
        unfold regI at hr
        rw [if_neg (by decide), if_pos rfl] at hr
        exact (Option.some.inj hr).symm
      subst hi26
      have he : r6 = ⟨k, a, c, T⟩ := Option.some.inj (hr6.symm.trans hir)
      subst he
      simp only [] at c0 c1
      rw [hTn] at c1
      generalize letK 0 = kk at *
      obtain ⟨w2, e2, hb2, hz2, g0, g1⟩ := two_new w (.cells #[.int .i64 0, .slice none 0 0] 28) (.cells #[.int .i64 k, .slice a n c] 28)
      have HB2 := Lib.hid hb2
      have HG0 := Lib.hid g0
      have q0 : w2.cell? ⟨w.heap.size, 0, none⟩ = some (.int .i64 0) := by rw [cell_at g0]; rfl
      have q1 : w2.cell? ⟨w.heap.size, 1, none⟩ = some (.slice none 0 0) := by rw [cell_at g0]; rfl
      have p0 : w2.cell? ⟨w.heap.size + 1, 0, none⟩ = some (.int .i64 k) := by rw [cell_at g1]; rfl
      have p1 : w2.cell? ⟨w.heap.size + 1, 1, none⟩ = some (.slice a n c) := by rw [cell_at g1]; rfl
      have zz := fun j => unfrozen g0 j
      clear hb2 g0 g1 H hr hir hRa al hr6 hz2 hTn
      go_enter Try.func25, Try.ntmps25
      go_wp2_with fail
      refine (HS.out _).mono ?_; rintro e w3 ⟨rfl, rfl⟩
      go_upto_region 7 with fail
      try rw [e2]
      clear e2 c0 c1
      go_region_law (fail)
      all_goals
        go_wp2_with fail
        have hs := set2_at HG0.out (.int .i64 k) (.slice a n c)
        have f0 : (set2 w2 w.heap.size 0 (.int .i64 k) (.slice a n c)).cell? ⟨w.heap.size, 0, none⟩ = some (.int .i64 k) := by rw [cell_at hs]; rfl
        have f1 : (set2 w2 w.heap.size 0 (.int .i64 k) (.slice a n c)).cell? ⟨w.heap.size, 1, none⟩ = some (.slice a n c) := by rw [cell_at hs]; rfl
        have hb := set2_below (b := w.heap.size) (o := 0) HB2.out (Nat.le_refl _) (.int .i64 k) (.slice a n c)
        unfold set2 at f0 f1 hb
        exact bodyPost_ret (v := .tuple #[.agg #[.int .i64 k, .slice a n c], .bool true]) (by simp [results, Try.results25, go_sem, f0, f1]) rfl ⟨rfl, by first | exact hb | exact hb.drew⟩
    · have hl : letK x = i := by
        have := letK_hi x
        unfold regI at hr
        split at hr
        · have := Option.some.inj hr; omega
        · first
            | (rw [if_neg hx] at hr; cases hr)
            | cases hr
      have hi26 : i < 26 := by have := letK_hi x; omega
      rw [hl] at HS
      have e0 : (0 : Int) ≤ (i : Int) := by omega
      have e1 : (i : Int) < 26 := by omega
      have d0 : decide ((i : Int) < 0) = false := decide_eq_false (by omega)
      have d1 : (x == 0) = false := by rw [beq_eq_false_iff_ne]; exact hx
      have d2 : (x != 0) = true := by simp [bne, d1]
      obtain ⟨k0, a0, n0', T0⟩ := r6
      simp only [] at c0 c1
      generalize T0.length = n0 at *
      obtain ⟨w2, e2, hb2, hz2, g0, g1⟩ := two_new w (.cells #[.int .i64 0, .slice none 0 0] 28) (.cells #[.int .i64 k0, .slice a0 n0 n0'] 28)
      have hRb := H.below hb2
      obtain ⟨s0, s1⟩ := hRb.cell hir
      simp only [] at s0 s1
      rw [hTn] at s1
      have u0 : w2.cell? ⟨w.heap.size + 1, 0, none⟩ = some (.int .i64 k0) := by rw [cell_at g1]; rfl
      have u1 : w2.cell? ⟨w.heap.size + 1, 1, none⟩ = some (.slice a0 n0 n0') := by rw [cell_at g1]; rfl
      have zz1 := fun j => unfrozen g1 j
      have h1 := set2_at g1 (.int .i64 k) (.slice a n c)
      have h0' : (set2 w2 (w.heap.size + 1) 0 (.int .i64 k) (.slice a n c)).heap[w.heap.size]? = some (.cells #[.int .i64 0, .slice none 0 0] 28 (0, 0)) := by
        unfold set2
        rw [heap_set_other (by omega), heap_set_other (by omega)]; exact g0
      have HB2 : Hid (Below w.heap.size w (set2 w2 (w.heap.size + 1) 0 (.int .i64 k) (.slice a n c))) := Lib.hid (set2_below hb2 (by omega) _ _)
      have HG0 := Lib.hid h0'
      have HG1 := Lib.hid h1
      clear hb2 g0 g1 H hr hir hRa hRb al hr6 hz2 hTn hl h0' h1
      go_enter Try.func25, Try.ntmps25
      go_wp2_with fail
      refine (HS.out _).mono ?_; rintro e w3 ⟨rfl, rfl⟩
      go_upto_region 6 with fail
      try rw [e2]
      clear e2 c0 c1
      go_upto_region 7 with fail
      rw [show (w2.setCell ⟨w.heap.size + 1, 0, none⟩ (.int .i64 k)).setCell ⟨w.heap.size + 1, 1, none⟩ (.slice a n c) = set2 w2 (w.heap.size + 1) 0 (.int .i64 k) (.slice a n c) from rfl]
      generalize set2 w2 (w.heap.size + 1) 0 (.int .i64 k) (.slice a n c) = w4 at *
      have q0 : w4.cell? ⟨w.heap.size, 0, none⟩ = some (.int .i64 0) := by rw [cell_at HG0.out]; rfl
      have q1 : w4.cell? ⟨w.heap.size, 1, none⟩ = some (.slice none 0 0) := by rw [cell_at HG0.out]; rfl
      have p0 : w4.cell? ⟨w.heap.size + 1, 0, none⟩ = some (.int .i64 k) := by rw [cell_at HG1.out]; rfl
      have p1 : w4.cell? ⟨w.heap.size + 1, 1, none⟩ = some (.slice a n c) := by rw [cell_at HG1.out]; rfl
      have zz := fun j => unfrozen HG0.out j
      clear s0 s1 u0 u1 zz1
      go_region_law (fail)
      all_goals
        go_wp2_with fail
        have hs := set2_at HG0.out (.int .i64 k) (.slice a n c)
        have f0 : (set2 w4 w.heap.size 0 (.int .i64 k) (.slice a n c)).cell? ⟨w.heap.size, 0, none⟩ = some (.int .i64 k) := by rw [cell_at hs]; rfl
        have f1 : (set2 w4 w.heap.size 0 (.int .i64 k) (.slice a n c)).cell? ⟨w.heap.size, 1, none⟩ = some (.slice a n c) := by rw [cell_at hs]; rfl
        have hb := set2_below (b := w.heap.size) (o := 0) HB2.out (Nat.le_refl _) (.int .i64 k) (.slice a n c)
        unfold set2 at f0 f1 hb
        exact bodyPost_ret (v := .tuple #[.agg #[.int .i64 k, .slice a n c], .bool true]) (by simp [results, Try.results25, go_sem, f0, f1]) rfl ⟨rfl, by first | exact hb | exact hb.drew⟩
  · have hn0 : n = 0 := by omega
    subst hn0
    have dn : decide ((0 : Int) < ((0 : Nat) : Int)) = false := by decide
    rw [decide_eq_false (by omega)]
    by_cases hx : x = 0
    · subst hx
      have hi26 : i = 26 := by
        unfold regI at hr
        rw [if_neg (by decide), if_pos rfl] at hr
        exact (Option.some.inj hr).symm
      subst hi26
      have he : r6 = ⟨k, a, c, T⟩ := Option.some.inj (hr6.symm.trans hir)
      subst he
      simp only [] at c0 c1
      rw [hTn] at c1
      generalize letK 0 = kk at *
      obtain ⟨w2, e2, hb2, hz2, g0, g1⟩ := two_new w (.cells #[.int .i64 0, .slice none 0 0] 28) (.cells #[.int .i64 k, .slice a 0 c] 28)
      have HB2 := Lib.hid hb2
      have HG0 := Lib.hid g0
      have q0 : w2.cell? ⟨w.heap.size, 0, none⟩ = some (.int .i64 0) := by rw [cell_at g0]; rfl
      have q1 : w2.cell? ⟨w.heap.size, 1, none⟩ = some (.slice none 0 0) := by rw [cell_at g0]; rfl
      have p0 : w2.cell? ⟨w.heap.size + 1, 0, none⟩ = some (.int .i64 k) := by rw [cell_at g1]; rfl
      have p1 : w2.cell? ⟨w.heap.size + 1, 1, none⟩ = some (.slice a 0 c) := by rw [cell_at g1]; rfl
      have zz := fun j => unfrozen g0 j
      clear hb2 g0 g1 H hr hir hRa al hr6 hz2 hTn
      go_enter Try.func25, Try.ntmps25
      go_wp2_with fail
      refine (HS.out _).mono ?_; rintro e w3 ⟨rfl, rfl⟩
      go_upto_region 7 with fail
      try rw [e2]
      clear e2 c0 c1
      go_region_law (fail)
      all_goals
        go_wp2_with fail
        have hs := set2_at HG0.out (.int .i64 k) (.slice a 0 c)
        have f0 : (set2 w2 w.heap.size 0 (.int .i64 k) (.slice a 0 c)).cell? ⟨w.heap.size, 0, none⟩ = some (.int .i64 k) := by rw [cell_at hs]; rfl
        have f1 : (set2 w2 w.heap.size 0 (.int .i64 k) (.slice a 0 c)).cell? ⟨w.heap.size, 1, none⟩ = some (.slice a 0 c) := by rw [cell_at hs]; rfl
        have hb := set2_below (b := w.heap.size) (o := 0) HB2.out (Nat.le_refl _) (.int .i64 k) (.slice a 0 c)
        unfold set2 at f0 f1 hb
        exact bodyPost_ret (v := .tuple #[.agg #[.int .i64 k, .slice a 0 c], .bool false]) (by simp [results, Try.results25, go_sem, f0, f1]) rfl ⟨rfl, by first | exact hb | exact hb.drew⟩
    · have hl : letK x = i := by
        have := letK_hi x
        unfold regI at hr
        split at hr
        · have := Option.some.inj hr; omega
        · first
            | (rw [if_neg hx] at hr; cases hr)
            | cases hr
      have hi26 : i < 26 := by have := letK_hi x; omega
      rw [hl] at HS
      have e0 : (0 : Int) ≤ (i : Int) := by omega
      have e1 : (i : Int) < 26 := by omega
      have d0 : decide ((i : Int) < 0) = false := decide_eq_false (by omega)
      have d1 : (x == 0) = false := by rw [beq_eq_false_iff_ne]; exact hx
      have d2 : (x != 0) = true := by simp [bne, d1]
      obtain ⟨k0, a0, n0', T0⟩ := r6
      simp only [] at c0 c1
      generalize T0.length = n0 at *
      obtain ⟨w2, e2, hb2, hz2, g0, g1⟩ := two_new w (.cells #[.int .i64 0, .slice none 0 0] 28) (.cells #[.int .i64 k0, .slice a0 n0 n0'] 28)
      have hRb := H.below hb2
      obtain ⟨s0, s1⟩ := hRb.cell hir
      simp only [] at s0 s1
      rw [hTn] at s1
      have u0 : w2.cell? ⟨w.heap.size + 1, 0, none⟩ = some (.int .i64 k0) := by rw [cell_at g1]; rfl
      have u1 : w2.cell? ⟨w.heap.size + 1, 1, none⟩ = some (.slice a0 n0 n0') := by rw [cell_at g1]; rfl
      have zz1 := fun j => unfrozen g1 j
      have h1 := set2_at g1 (.int .i64 k) (.slice a 0 c)
      have h0' : (set2 w2 (w.heap.size + 1) 0 (.int .i64 k) (.slice a 0 c)).heap[w.heap.size]? = some (.cells #[.int .i64 0, .slice none 0 0] 28 (0, 0)) := by
        unfold set2
        rw [heap_set_other (by omega), heap_set_other (by omega)]; exact g0
      have HB2 : Hid (Below w.heap.size w (set2 w2 (w.heap.size + 1) 0 (.int .i64 k) (.slice a 0 c))) := Lib.hid (set2_below hb2 (by omega) _ _)
      have HG0 := Lib.hid h0'
      have HG1 := Lib.hid h1
      clear hb2 g0 g1 H hr hir hRa hRb al hr6 hz2 hTn hl h0' h1
      go_enter Try.func25, Try.ntmps25
      go_wp2_with fail
      refine (HS.out _).mono ?_; rintro e w3 ⟨rfl, rfl⟩
      go_upto_region 6 with fail
      try rw [e2]
      clear e2 c0 c1
      go_upto_region 7 with fail
      rw [show (w2.setCell ⟨w.heap.size + 1, 0, none⟩ (.int .i64 k)).setCell ⟨w.heap.size + 1, 1, none⟩ (.slice a 0 c) = set2 w2 (w.heap.size + 1) 0 (.int .i64 k) (.slice a 0 c) from rfl]
      generalize set2 w2 (w.heap.size + 1) 0 (.int .i64 k) (.slice a 0 c) = w4 at *
      have q0 : w4.cell? ⟨w.heap.size, 0, none⟩ = some (.int .i64 0) := by rw [cell_at HG0.out]; rfl
      have q1 : w4.cell? ⟨w.heap.size, 1, none⟩ = some (.slice none 0 0) := by rw [cell_at HG0.out]; rfl
      have p0 : w4.cell? ⟨w.heap.size + 1, 0, none⟩ = some (.int .i64 k) := by rw [cell_at HG1.out]; rfl
      have p1 : w4.cell? ⟨w.heap.size + 1, 1, none⟩ = some (.slice a 0 c) := by rw [cell_at HG1.out]; rfl
      have zz := fun j => unfrozen HG0.out j
      clear s0 s1 u0 u1 zz1
      go_region_law (fail)
      all_goals
        go_wp2_with fail
        have hs := set2_at HG0.out (.int .i64 k) (.slice a 0 c)
        have f0 : (set2 w4 w.heap.size 0 (.int .i64 k) (.slice a 0 c)).cell? ⟨w.heap.size, 0, none⟩ = some (.int .i64 k) := by rw [cell_at hs]; rfl
        have f1 : (set2 w4 w.heap.size 0 (.int .i64 k) (.slice a 0 c)).cell? ⟨w.heap.size, 1, none⟩ = some (.slice a 0 c) := by rw [cell_at hs]; rfl
        have hb := set2_below (b := w.heap.size) (o := 0) HB2.out (Nat.le_refl _) (.int .i64 k) (.slice a 0 c)
        unfold set2 at f0 f1 hb
        exact bodyPost_ret (v := .tuple #[.agg #[.int .i64 k, .slice a 0 c], .bool false]) (by simp [results, Try.results25, go_sem, f0, f1]) rfl ⟨rfl, by first | exact hb | exact hb.drew⟩
attribute [-go_sem] loadCells

set_option maxRecDepth 100000 in
set_option maxHeartbeats 4000000 in
theorem rall_of {w : World} {t lo hi b : Nat} {R : List Rv} (H : Rg w t lo hi b R) : Calls Try.prog 26 #[.pointer (some ⟨b, 0, none⟩)] w fun e w' => e = .returned (.int .i64 (totS (sem R))) ∧ Below w.heap.size w w' := by
  obtain ⟨X, hX, hXi⟩ := H.open
  have HX := Lib.hid hXi
  have HTB := Lib.hid (totS_le H)
  have HRR := Lib.hid (fun (i : Nat) (hi : i < 27) => H.get hi)
  have HSZ : Hid (∀ (i : Nat) (r : Rv), R[i]? = some r → ∀ w', Below w.heap.size w w' → Calls Try.prog 20 #[rgV r.k r.a r.T.length r.c] w' fun e w'' => e = .returned (.int .i64 (szM (txL r.T))) ∧ Below w'.heap.size w' w'') := Lib.hid (fun i r hr w' hb => by
    have hm := List.mem_of_getElem? hr
    have hf := H.few r hm
    exact rsize_of r.k ((H.mx r hm).below hb) (by omega) (by omega))
  unfold rgV at HSZ
  clear H hXi
  go_enter Try.func26, Try.ntmps26
  go_wp2_with fail
  go_loopw [3, 10] (fun v3 v10 wr => ∃ i : Nat, v3 = .int .i64 (totN (sem R) i) ∧ v10 = .int .i64 i ∧ i ≤ 26 ∧ Below w.heap.size w wr) (fun _ v10 _ => 26 - (intOf v10).toNat)
  case atStart => exact ⟨0, rfl, rfl, by omega, Below.refl _ _⟩
  case round =>
    obtain ⟨i, rfl, rfl, hii, hb⟩ := hrel
    have HB := Lib.hid hb
    clear hb
    by_cases hlt : i < 26
    · have dk : decide ((i : Int) < 26) = true := decide_eq_true (by omega)
      obtain ⟨r, hr⟩ := HRR.out i (by omega)
      obtain ⟨x0, x1⟩ := HX.out i r hlt hr
      have hidx := idx_rregs X i hlt _ _ x0 x1
      have HC := Lib.hid (HSZ.out i r hr)
      have HTT := Lib.hid (totN_succ hr)
      have hle := HTB.out (i + 1) (by omega)
      rw [totN_succ hr] at hle
      clear hr x0 x1
      obtain ⟨k, a, c, T⟩ := r
      simp only [] at hidx HC HTT hle
      generalize T.length = n at *
      generalize szM (txL T) = z at *
      generalize totN (sem R) i = q at *
      go_upto_region 5 with fail
      have hn2 := heap_alloc_new wr (.cells #[.int .i64 k, .slice a n c] 28)
      have hld := ld2 hn2
      have HB2 := Lib.hid (HB.out.trans ((t_al wr (.cells #[.int .i64 k, .slice a n c] 28)).mono HB.out.size))
      have HC2 := Lib.hid (HC.out _ HB2.out)
      generalize wr.alloc (.cells #[.int .i64 k, .slice a n c] 28) = w2 at *
      clear hn2 HC
      go_wp2_with fail
      refine HC2.out.mono ?_; rintro e w3 ⟨rfl, hb3⟩
      have HB3 := Lib.hid (HB2.out.trans (hb3.mono HB2.out.size))
      clear hb3
      go_wp2_with fail
      go_roundw
      case rel => exact ⟨i + 1, by rw [HTT.out]; go_num, by go_num, by omega, HB3.out⟩
      case measure => simp [intOf]; omega
    · have dk : decide ((i : Int) < 26) = false := decide_eq_false (by omega)
      obtain rfl : i = 26 := by omega
      go_wp2_with fail
      go_ret
      exact ⟨rfl, HB.out⟩

end Go.Proofs.Yteipnllefifgiaa
