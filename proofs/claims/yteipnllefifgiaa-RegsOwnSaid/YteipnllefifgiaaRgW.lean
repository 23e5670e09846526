/-
  RegsOwn's walk; at this seat's numbers.
-/
import Derived.Test.YteipnllefifgiaaRgV
import Derived.Test.YteipnllefifgiaaRgO
import Derived.Deep.RegionHeld3
namespace Go.Proofs.Yteipnllefifgiaa
open Go Go.RowKit
set_option linter.unusedVariables false

theorem setS_new (x k : Int) (M : List (List ByteArray)) : ((setS S0R x k M).1 ≠ 0 ∧ (setS S0R x k M).2 = S0R) ∨
    ((setS S0R x k M).1 = 0 ∧ 0 < M.length ∧ ∃ i, regI x = some i ∧ i < 27 ∧ (setS S0R x k M).2[i]? = some (k, M) ∧ (setS S0R x k M).2[26]? = some (k, M)) := by
  have hap : ∀ i, appM S0R i x k M = M := fun i => by
    unfold appM
    have : gR S0R i = (0, []) := by
      unfold gR S0R
      rw [List.getD_eq_getElem?_getD, List.getElem?_replicate]
      split <;> rfl
    rw [this, if_neg (by simp [tkB])]
  unfold setS
  cases hr : regI x with
  | none => left; exact ⟨by simp, rfl⟩
  | some i =>
    have hi := regI_lt hr
    simp only []
    split
    · rename_i hf
      rw [hap]
      split
      · left; exact ⟨by simp, rfl⟩
      · right
        refine ⟨rfl, hf.2.2, i, rfl, hi, ?_, ?_⟩
        · show ((S0R.set i (k, M)).set 26 (k, M))[i]? = _
          rw [List.getElem?_set]
          split
          · rw [if_pos (by rw [List.length_set]; exact (by show _ < 27; omega))]
          · rw [List.getElem?_set_self (by exact hi)]
        · show ((S0R.set i (k, M)).set 26 (k, M))[26]? = _
          rw [List.getElem?_set_self (by rw [List.length_set]; show 26 < 27; omega)]
    · left; exact ⟨by simp, rfl⟩

/-- What a round of RegsOwn finds. -/
structure OwJ (w : World) (l0 l1 lo hi b pw : Nat) (k : Int) (a2 : Option Addr) (c2 : Nat) (T2 : List TxM) (a3 : Option Addr) (c3 lo3 hi3 : Nat) (T3 : List TxM) (R : List Rv) (wr : World) : Prop where
  rg : Rg wr 57 lo hi b R
  want : Mx wr lo3 hi3 a3 c3 T3
  box : wr.heap[pw]? = some (.cells #[.int .i64 k, .slice a3 T3.length c3] 28 (0, 0))
  l : ∃ U, Alike T2 U ∧ Mx wr l0 l1 a2 c2 U ∧ Wr wr a2 U
  low : Below w.heap.size w wr
theorem OwJ.below {w wr wr' : World} {l0 l1 lo hi b pw : Nat} {k : Int} {a2 : Option Addr} {c2 : Nat} {T2 : List TxM} {a3 : Option Addr} {c3 lo3 hi3 : Nat} {T3 : List TxM} {R : List Rv} (h : OwJ w l0 l1 lo hi b pw k a2 c2 T2 a3 c3 lo3 hi3 T3 R wr) (hb : Below wr.heap.size wr wr') : OwJ w l0 l1 lo hi b pw k a2 c2 T2 a3 c3 lo3 hi3 T3 R wr' := by
  obtain ⟨U, u1, u2, u3⟩ := h.l
  exact ⟨h.rg.below hb, h.want.below hb, (hb.block pw (lt_of_heap h.box)).trans h.box, ⟨U, u1, u2.below hb, u3.below hb⟩, h.low.trans (hb.mono h.low.size)⟩
/-- What changes elsewhere changes nothing of it. -/
theorem OwJ.out {w wr wr' : World} {l0 l1 lo hi b pw p0 p1 : Nat} {k : Int} {a2 : Option Addr} {c2 : Nat} {T2 : List TxM} {a3 : Option Addr} {c3 lo3 hi3 : Nat} {T3 : List TxM} {R : List Rv} (h : OwJ w l0 l1 lo hi b pw k a2 c2 T2 a3 c3 lo3 hi3 T3 R wr) (ho : Out p0 p1 wr wr') (h1 : hi ≤ p0) (h2 : hi3 ≤ p0) (h3 : pw < p0) (h4 : l1 ≤ p0) (h5 : w.heap.size ≤ p0) (h6 : lo ≤ hi) : OwJ w l0 l1 lo hi b pw k a2 c2 T2 a3 c3 lo3 hi3 T3 R wr' := by
  obtain ⟨U, u1, u2, u3⟩ := h.l
  have hbl := h.rg.bl
  refine ⟨h.rg.keep (ho.keep (Or.inl h1)) (ho.oth b (by omega)), h.want.keep (ho.keep (Or.inl h2)), (ho.oth pw (by omega)).trans h.box, ⟨U, u1, u2.keep (ho.keep (Or.inl h4)), ?_⟩, h.low.trans (ho.low.mono h5)⟩
  refine ⟨u3.out.same (fun d hd => ho.oth _ ?_), fun p hp => (u3.inn p hp).same (fun d hd => ho.oth _ ?_)⟩
  · have := u2.bt d hd; omega
  · have := (u2.rd p hp).2 d hd; omega
/-- The texts that were handed in are changed. -/
theorem OwJ.lset {w wr wr' : World} {l0 l1 lo hi b pw : Nat} {k : Int} {a2 : Option Addr} {c2 : Nat} {T2 U V : List TxM} {a3 : Option Addr} {c3 lo3 hi3 : Nat} {T3 : List TxM} {R : List Rv} (h : OwJ w l0 l1 lo hi b pw k a2 c2 T2 a3 c3 lo3 hi3 T3 R wr) (hu : Alike T2 U) (hs : SpJ wr l0 l1 a2 c2 U V wr') (h1 : l1 ≤ lo3) (h2 : l1 ≤ pw) (h3 : l1 ≤ b) (h4 : w.heap.size ≤ l0) : OwJ w l0 l1 lo hi b pw k a2 c2 T2 a3 c3 lo3 hi3 T3 R wr' := by
  have hbl := h.rg.bl
  exact ⟨h.rg.keep (hs.out.keep (Or.inr (by omega))) (hs.out.oth b (by omega)), h.want.keep (hs.out.keep (Or.inr h1)), (hs.out.oth pw (by omega)).trans h.box, ⟨V, hu.trans hs.alike, hs.mx, hs.wr_⟩, h.low.trans (hs.out.low.mono h4)⟩

theorem Alike.thin {T U : List TxM} (h : Alike T U) (ht : Thin (txL T)) : Thin (txL U) := fun l hl => by
  obtain ⟨k, hk⟩ := List.mem_iff_getElem?.1 hl
  have hku : k < U.length := by have := (List.getElem?_eq_some_iff.1 hk).1; rwa [txL_len] at this
  have hkt : k < T.length := by rw [← h.len]; exact hku
  obtain ⟨q, hq, _, _, h3⟩ := h.at (List.getElem?_eq_getElem hkt)
  have e := txL_at hq
  rw [hk] at e
  rw [Option.some.inj e, h3]
  exact ht _ (List.mem_of_getElem? (txL_at (List.getElem?_eq_getElem hkt)))
theorem Wr.outk {w w' : World} {lo hi lo' hi' : Nat} {a : Option Addr} {c : Nat} {T : List TxM} (h : Wr w a T) (m : Mx w lo' hi' a c T) (ho : Out lo hi w w') (hd : hi ≤ lo') : Wr w' a T :=
  ⟨h.out.same (fun d hd' => ho.oth _ (by have := m.bt d hd'; omega)), fun p hp => (h.inn p hp).same (fun d hd' => ho.oth _ (by have := (m.rd p hp).2 d hd'; omega))⟩
theorem names_new : namN S0R 26 = [] := by rfl
theorem reg_new {R : List Rv} (h : sem R = S0R) {i : Nat} {r : Rv} (hr : R[i]? = some r) : r.T.length = 0 := by
  have h1 := sem_at hr
  rw [h] at h1
  unfold S0R at h1
  rw [List.getElem?_replicate] at h1
  split at h1
  · have := congrArg Prod.snd (Option.some.inj h1)
    simp only [] at this
    rw [← txL_len, ← this]; rfl
  · cases h1

set_option maxRecDepth 100000 in
set_option maxHeartbeats 16000000 in
theorem regsOwn_walk (x k : Int) (a : Option Addr) (c : Nat) (T : List TxM) (w : World) (_ : -9223372036854775808 ≤ x) (_ : x ≤ 9223372036854775807) (H : TxIn w a T) :
    Calls Try.prog 4 #[.int .i64 x, rgV k a T.length c] w fun e w' => e = .returned (.bool true) ∧ Below w.heap.size w w' := by
  unfold rgV
  have al := t_al w (.cells #[.int .i64 k, .slice a T.length c] 28)
  have hnw := heap_alloc_new w (.cells #[.int .i64 k, .slice a T.length c] 28)
  have HF := Lib.hid (few_of (c := c) (H.below al))
  unfold FwPost at HF
  have HAW := Lib.hid (fun w => awake28_of w)
  generalize hn : T.length = n at *
  have HAL := Lib.hid al
  have hz1 : (w.alloc (.cells #[.int .i64 k, .slice a n c] 28)).heap.size = w.heap.size + 1 := by simp
  generalize hw1 : w.alloc (.cells #[.int .i64 k, .slice a n c] 28) = w1 at *
  have k0 : w1.cell? ⟨w.heap.size, 0, none⟩ = some (.int .i64 k) := by rw [cell_at hnw]; rfl
  have k1 : w1.cell? ⟨w.heap.size, 1, none⟩ = some (.slice a n c) := by rw [cell_at hnw]; rfl
  have HNW := Lib.hid hnw
  have HZ1 := Lib.hid hz1
  clear al hnw hn H hz1
  go_enter Try.func4, Try.ntmps4
  go_upto_region 1 with fail
  try rw [hw1]
  clear hw1
  go_wp2_with fail
  refine HF.out.mono ?_; rintro e w2 ⟨a2, c2, T2, ht2, rfl, ⟨hm2, hwr2⟩, hb2⟩
  have hfew := fewM_of (txL T)
  have HL2 : Hid (T2.length ≤ 12 ∧ szM (txL T2) ≤ 6540 ∧ fewM (txL T2) = txL T2) := Lib.hid (by rw [← txL_len, ht2]; exact ⟨hfew.1, hfew.2.1, hfew.2.2.1⟩)
  have hx2 := (hb2.block w.heap.size (by have := HZ1.out; omega)).trans HNW.out
  have k0 : w2.cell? ⟨w.heap.size, 0, none⟩ = some (.int .i64 k) := by rw [cell_at hx2]; rfl
  have HX2 := Lib.hid hx2
  have HM2 := Lib.hid hm2
  have HW2 := Lib.hid hwr2
  have HB2 := Lib.hid (HAL.out.trans (hb2.mono HAL.out.size))
  have HZ2 : Hid (w1.heap.size ≤ w2.heap.size) := Lib.hid hb2.size
  have HF2 : Hid (∀ w', Below w2.heap.size w2 w' → Calls Try.prog 11 #[.slice a2 T2.length c2] w' (FwPost (txL T2) w')) := Lib.hid (fun w' hb => few_of ((hm2.below hb).txin (by have := HL2.out.1; unfold maxLen; omega) (by have := HL2.out.2.1; unfold maxLen; omega)))
  unfold FwPost at HF2
  clear hm2 hwr2 hb2 hfew ht2 HF hx2
  go_upto_region 2 with fail
  generalize hm : T2.length = m2 at *
  have HML := Lib.hid hm
  clear hm
  have hb20 : Below w2.heap.size w2 w2.drew := (Below.refl _ w2).drew
  have hlt2 : w.heap.size < w2.heap.size := by have := HZ1.out; have := HZ2.out; omega
  have hne2 : ¬ (w.heap.size = w2.heap.size) := by omega
  have hne3 : ¬ (w2.heap.size = w.heap.size) := by omega
  go_region_held3 (fun w' => w'.cell? ⟨w.heap.size, 0, none⟩ = some (.int .i64 k)) (first | assumption | go_keep)
    (first
      | (go_at_call 11; refine (HF2.out _ (by first | assumption | exact t_al _ _ | exact hb20 | exact (t_al _ _).drew | exact hb20.alloc (Nat.le_refl _) _)).mono ?_; rintro e w3 ⟨a3, c3, T3, ht3, rfl, ⟨hm3, hwr3⟩, hb3⟩; have k3 : w3.cell? ⟨w.heap.size, 0, none⟩ = some (.int .i64 k) := (hb3.cell (p := ⟨w.heap.size, 0, none⟩) (by first | exact hlt2 | (simp; omega))).trans (by first | assumption | go_keep); (try (have hB3 : w3.heap[w2.heap.size]? = some (.cells #[.int .i64 0, .slice none 0 0] 28 (0, 0)) := (hb3.block w2.heap.size (by simp)).trans (heap_alloc_new w2 _); have zB := fun j => unfrozen hB3 j; have cB0 : w3.cell? ⟨w2.heap.size, 0, none⟩ = some (.int .i64 0) := (by rw [cell_at hB3]; rfl); have cB1 : w3.cell? ⟨w2.heap.size, 1, none⟩ = some (.slice none 0 0) := (by rw [cell_at hB3]; rfl)))))
  · have hk : ∃ lo3 hi3, (Below w2.heap.size w2 (w3.alloc (.cells #[.int .i64 k, .slice a3 T3.length c3] 28)) ∧ Mx (w3.alloc (.cells #[.int .i64 k, .slice a3 T3.length c3] 28)) lo3 hi3 a3 c3 T3 ∧ w2.heap.size ≤ lo3 ∧ hi3 ≤ (w3.alloc (.cells #[.int .i64 k, .slice a3 T3.length c3] 28)).heap.size ∧ (w3.alloc (.cells #[.int .i64 k, .slice a3 T3.length c3] 28)).heap[w3.heap.size]? = some (.cells #[.int .i64 k, .slice a3 T3.length c3] 28 (0, 0)) ∧ w2.heap.size ≤ w3.heap.size ∧ w3.heap.size < (w3.alloc (.cells #[.int .i64 k, .slice a3 T3.length c3] 28)).heap.size ∧ txL T3 = txL T2) := by
      have hb3' : Below w2.heap.size w2 w3 := hb20.trans hb3
      have hz := hb3'.size
      exact ⟨w2.heap.size, w3.heap.size, hb3'.alloc hz _, hm3.below (t_al _ _), Nat.le_refl _, by simp, heap_alloc_new _ _, hz, by simp, by rw [ht3]; exact HL2.out.2.2⟩
    obtain ⟨lo3, hi3, hk2⟩ := hk
    have HQ := Lib.hid hk2
    clear hk2
    generalize w3.alloc (.cells #[.int .i64 k, .slice a3 T3.length c3] 28) = w4 at *
    generalize w3.heap.size = pw at HQ ⊢
    clear hb3 hm3 hwr3 ht3 k3 k0 hne2 hne3 hb20
    try clear hB3 zB cB0 cB1

    obtain ⟨q1, q2, q3, q4, q5, q6, q7, q8⟩ := HQ.out
    have hR5 := rg_new w4 57
    have hb5 := t_al w4 (.cells (rvs (List.replicate 27 rv0)).toArray 57)
    have hz5 : (w4.alloc (.cells (rvs (List.replicate 27 rv0)).toArray 57)).heap.size = w4.heap.size + 1 := by simp
    have HNW5 := Lib.hid (rnew_of w4)
    go_wp2_with fail
    refine HNW5.out.mono ?_; rintro e w5 ⟨rfl, hw5⟩
    rw [← hw5] at hR5 hb5 hz5
    have hm5 := (HM2.out.below q1).below hb5
    have hw5' := (HW2.out.below q1).below hb5
    have HSET := Lib.hid (set_of hR5 (by omega) x k hm5 (by have := q1.size; omega) (by rw [HML.out]; have := HL2.out.1; omega) (by have := HL2.out.2.1; omega))
    rw [sem_new] at HSET
    unfold SetPost rgV at HSET
    rw [HML.out] at HSET
    have k5 : w5.cell? ⟨w.heap.size, 0, none⟩ = some (.int .i64 k) := by
      rw [cell_at ((hb5.block w.heap.size (by have := q1.size; omega)).trans ((q1.block w.heap.size hlt2).trans HX2.out))]; rfl
    have HB5 := Lib.hid ((HB2.out.trans (q1.mono HB2.out.size)).trans (hb5.mono (HB2.out.trans (q1.mono HB2.out.size)).size))
    have HM5 := Lib.hid hm5
    have HW5 := Lib.hid hw5'
    have HQ5 : Hid (Mx w5 lo3 hi3 a3 c3 T3 ∧ w5.heap[pw]? = some (.cells #[.int .i64 k, .slice a3 T3.length c3] 28 (0, 0)) ∧ w2.heap.size ≤ lo3 ∧ hi3 ≤ w4.heap.size ∧ w2.heap.size ≤ pw ∧ pw < w4.heap.size ∧ txL T3 = txL T2 ∧ w5.heap.size = w4.heap.size + 1 ∧ w2.heap.size ≤ w4.heap.size) := Lib.hid ⟨q2.below hb5, (hb5.block pw q7).trans q5, q3, q4, q6, q7, q8, hz5, q1.size⟩
    clear q1 q2 q3 q4 q5 q6 q7 q8 hR5 hb5 hz5 hm5 hw5' hw5
    go_wp2_with fail
    refine HSET.out.mono ?_; rintro e w6 ⟨rfl, R6, hs6, hR6, ho6⟩
    obtain ⟨p1, p2, p3, p4, p5, p6, p7, p8, p9⟩ := HQ5.out
    have hJ6 : OwJ w w1.heap.size w2.heap.size (w4.heap.size + 1) w6.heap.size w4.heap.size pw k a2 c2 T2 a3 c3 lo3 hi3 T3 R6 w6 := by
      refine ⟨hR6, p1.keep (ho6.keep (Or.inr p4)), (ho6.oth pw (by omega) (by omega)).trans p2, ⟨T2, Alike.refl _, HM5.out.keep (ho6.keep (Or.inr (by omega))), ?_⟩, HB5.out.trans (ho6.low.mono (by have := HZ1.out; have := HZ2.out; omega))⟩
      refine ⟨HW5.out.out.same (fun d hd => ?_), fun p hp => (HW5.out.inn p hp).same (fun d hd => ?_)⟩
      · have := HM5.out.bt d hd
        exact ho6.oth _ (by omega) (by omega)
      · have := (HM5.out.rd p hp).2 d hd
        exact ho6.oth _ (by omega) (by omega)
    have HJ6 := Lib.hid hJ6
    have hz6 : w5.heap.size ≤ w6.heap.size := ho6.size
    have HZ6 : Hid (w4.heap.size + 1 ≤ w6.heap.size) := Lib.hid (by omega)
    have HT3 : Hid (txL T3 = txL T2) := Lib.hid p7
    have HPP : Hid (w2.heap.size ≤ lo3 ∧ hi3 ≤ w4.heap.size ∧ w2.heap.size ≤ pw ∧ pw < w4.heap.size ∧ w2.heap.size ≤ w4.heap.size) := Lib.hid ⟨p3, p4, p5, p6, p9⟩
    have HLW : Hid (w.heap.size + 1 = w1.heap.size ∧ w1.heap.size ≤ w2.heap.size) := Lib.hid ⟨HZ1.out.symm, HZ2.out⟩
    have HB6 := Lib.hid hJ6.low
    clear p1 p2 p3 p4 p5 p6 p7 p8 p9 k5 HSET hJ6
    rcases setS_new x k (txL T2) with ⟨h1, h2⟩ | ⟨h1, h3, i, hi, hi27, hSi, hS26⟩
    · have hsR : sem R6 = S0R := hs6.trans h2
      have HG := Lib.hid (get_no hR6 0 (fun i r _ hr => reg_new hsR hr))
      have HRG := Lib.hid hR6
      have HSR := Lib.hid hsR
      have d1 : ((setS S0R x k (txL T2)).1 == 0) = false := by rw [beq_eq_false_iff_ne]; exact h1
      have d2 : ((setS S0R x k (txL T2)).1 != 0) = true := by simp [bne, d1]
      unfold rgV at HG
      generalize (setS S0R x k (txL T2)).1 = er at *
      clear h1 h2 hs6 hR6 ho6 hsR hz6
      go_wp2_with fail
      refine HG.out.mono ?_; rintro e w7 ⟨rfl, hb7⟩
      have al8 := t_al w7 (.cells #[.int .i64 0, .slice none 0 0] 41)
      have HB8 := Lib.hid ((HB6.out.trans (hb7.mono HB6.out.size)).trans (al8.mono (HB6.out.trans (hb7.mono HB6.out.size)).size))
      have HNA := Lib.hid (names_of ((HRG.out.below hb7).below al8))
      rw [HSR.out, names_new] at HNA
      clear hb7 al8
      go_wp2_with fail
      refine HNA.out.mono ?_; rintro e w9 ⟨a9, c9, rfl, _, hb9⟩
      have HB9 := Lib.hid (HB8.out.trans (hb9.mono HB8.out.size))
      clear hb9
      simp only [List.length_nil]
      go_wp2_with fail
      refine (HAW.out _).mono ?_; rintro e w10 ⟨rfl, hb10⟩
      have HB10 := Lib.hid (HB9.out.trans (hb10.mono HB9.out.size))
      clear hb10
      go_wp2_with fail
      go_ret
      exact ⟨rfl, HB10.out⟩
    · obtain ⟨ri, hri⟩ := hR6.get hi27
      obtain ⟨r26, hr26⟩ := hR6.get (i := 26) (by omega)
      have e1 := sem_at hri
      rw [hs6, hSi] at e1
      have e2 := sem_at hr26
      rw [hs6, hS26] at e2
      have f1 : ri.k = k ∧ txL ri.T = txL T2 := ⟨(congrArg Prod.fst (Option.some.inj e1)).symm, (congrArg Prod.snd (Option.some.inj e1)).symm⟩
      have f2 : r26.k = k ∧ txL r26.T = txL T2 := ⟨(congrArg Prod.fst (Option.some.inj e2)).symm, (congrArg Prod.snd (Option.some.inj e2)).symm⟩
      have g1 : ri.T.length = m2 := by rw [← txL_len, f1.2, txL_len, HML.out]
      have g2 : r26.T.length = m2 := by rw [← txL_len, f2.2, txL_len, HML.out]
      have g3 : 0 < m2 := by rw [← HML.out, ← txL_len]; exact h3
      have HGX : Hid (∀ wv t' lo' hi' b', Rg wv t' lo' hi' b' R6 → Calls Try.prog 13 #[.pointer (some ⟨b', 0, none⟩), .int .i64 x] wv fun e w' => ∃ a c T', T'.length = m2 ∧ txL T' = txL T2 ∧ e = .returned (.tuple #[.agg #[.int .i64 k, .slice a m2 c], .bool true]) ∧ (Mx w' wv.heap.size w'.heap.size a c T' ∧ Wr w' a T') ∧ Below wv.heap.size wv w') := Lib.hid (fun wv t' lo' hi' b' h => by
        have hh := get_yes h x hi hri (by omega)
        unfold GetPost rgV at hh
        rw [f1.1, f1.2, g1] at hh
        exact hh)
      have HG0 : Hid (∀ wv t' lo' hi' b', Rg wv t' lo' hi' b' R6 → Calls Try.prog 13 #[.pointer (some ⟨b', 0, none⟩), .int .i64 0] wv fun e w' => ∃ a c T', T'.length = m2 ∧ txL T' = txL T2 ∧ e = .returned (.tuple #[.agg #[.int .i64 k, .slice a m2 c], .bool true]) ∧ (Mx w' wv.heap.size w'.heap.size a c T' ∧ Wr w' a T') ∧ Below wv.heap.size wv w') := Lib.hid (fun wv t' lo' hi' b' h => by
        have hh := get_yes h 0 (show regI 0 = some 26 from rfl) hr26 (by omega)
        unfold GetPost rgV at hh
        rw [f2.1, f2.2, g2] at hh
        exact hh)
      have HTH2 : Hid (Thin (txL T2)) := Lib.hid (thin_of (by have := HL2.out.2.1; omega))
      have HM12 : Hid (m2 ≤ 12) := Lib.hid HL2.out.1
      have HE0 := Lib.hid h1
      clear h1 h3 hi hi27 hSi hS26 hri hr26 e1 e2 f1 f2 g1 g2 g3 hs6 hR6 ho6 hz6
      rw [HE0.out]
      have hT3l : T3.length = m2 := by rw [← txL_len, HT3.out, txL_len, HML.out]
      have HT3L := Lib.hid hT3l
      clear hT3l
      go_wp2_with fail
      go_loopw [11] (fun v11 wr => ∃ t : Nat, v11 = .int .i64 t ∧ t ≤ 2 ∧ w6.heap.size ≤ wr.heap.size ∧ OwJ w w1.heap.size w2.heap.size (w4.heap.size + 1) w6.heap.size w4.heap.size pw k a2 c2 T2 a3 c3 lo3 hi3 T3 R6 wr) (fun v11 _ => 2 - (intOf v11).toNat)
      case atStart => exact ⟨0, rfl, by omega, Nat.le_refl _, HJ6.out⟩
      case round =>
        obtain ⟨wq, rfl⟩ : ∃ wq : World, wq = wr := ⟨_, rfl⟩
        obtain ⟨t, rfl, ht, hzq, J⟩ := hrel
        have HJ := Lib.hid J
        have HZQ := Lib.hid hzq
        clear J hzq
        by_cases hlt : t < 2
        · have dt : decide ((t : Int) < 2) = true := decide_eq_true (by omega)
          obtain ⟨U, u1, u2, u3⟩ := HJ.out.l
          have HSP := Lib.hid (spoil_of u2 u3 (by rw [u1.len, HML.out]; have := HM12.out; omega) (u1.thin HTH2.out))
          rw [u1.len, HML.out] at HSP
          have HU1 := Lib.hid u1
          clear u1 u2 u3
          go_wp2_with fail
          refine HSP.out.mono ?_; rintro e w7 ⟨rfl, V, hV⟩
          have hJ7 := HJ.out.lset HU1.out hV HPP.out.1 HPP.out.2.2.1 HPP.out.2.2.2.2 (by have := HLW.out; omega)
          have HZ7 : Hid (w6.heap.size ≤ w7.heap.size) := Lib.hid (by rw [hV.out.size]; exact HZQ.out)
          have HJ7 := Lib.hid hJ7
          have HGA := Lib.hid (HGX.out w7 _ _ _ _ hJ7.rg)
          clear hV hJ7 HSP
          go_wp2_with fail
          refine HGA.out.mono ?_; rintro e w8 ⟨a8, c8, T8, hl8, ht8, rfl, ⟨hm8, hwr8⟩, hb8⟩
          have al9 := t_al w8 (.cells #[.int .i64 k, .slice a8 m2 c8] 41)
          have hn9 := heap_alloc_new w8 (.cells #[.int .i64 k, .slice a8 m2 c8] 41)
          have hz9 : (w8.alloc (.cells #[.int .i64 k, .slice a8 m2 c8] 41)).heap.size = w8.heap.size + 1 := by simp
          go_upto_region 13 with fail
          generalize w8.alloc (.cells #[.int .i64 k, .slice a8 m2 c8] 41) = w9 at *
          have HM9 := Lib.hid (hm8.below al9)
          have HW9 := Lib.hid (hwr8.below al9)
          have HJ9 := Lib.hid ((HJ7.out.below hb8).below al9)
          have HN9 := Lib.hid hn9
          have HZ9 : Hid (w6.heap.size ≤ w7.heap.size ∧ w7.heap.size ≤ w8.heap.size ∧ w9.heap.size = w8.heap.size + 1) := Lib.hid ⟨HZ7.out, hb8.size, hz9⟩
          have HL8 := Lib.hid (And.intro hl8 ht8)
          have HGB := Lib.hid (HG0.out w9 _ _ _ _ HJ9.out.rg)
          clear hm8 hwr8 hb8 al9 hn9 hz9 hl8 ht8 HGA
          go_wp2_with fail
          refine HGB.out.mono ?_; rintro e w10 ⟨a10, c10, T10, hl10, ht10, rfl, ⟨hm10, hwr10⟩, hb10⟩
          have al11 := t_al w10 (.cells #[.int .i64 k, .slice a10 m2 c10] 41)
          have hn11 := heap_alloc_new w10 (.cells #[.int .i64 k, .slice a10 m2 c10] 41)
          have hz11 : (w10.alloc (.cells #[.int .i64 k, .slice a10 m2 c10] 41)).heap.size = w10.heap.size + 1 := by simp
          go_upto_region 14 with fail
          generalize w10.alloc (.cells #[.int .i64 k, .slice a10 m2 c10] 41) = w11 at *
          have hb9 : Below w9.heap.size w9 w11 := hb10.trans (al11.mono hb10.size)
          have HM11 := Lib.hid (hm10.below al11)
          have HW11 := Lib.hid (hwr10.below al11)
          have HMY := Lib.hid (HM9.out.below hb9)
          have HWY := Lib.hid (HW9.out.below hb9)
          have HJ11 := Lib.hid (HJ9.out.below hb9)
          have HZ11 : Hid (w9.heap.size ≤ w10.heap.size ∧ w11.heap.size = w10.heap.size + 1) := Lib.hid ⟨hb10.size, hz11⟩
          have HL10 := Lib.hid (And.intro hl10 ht10)
          have gy := (hb9.block w8.heap.size (by have := HZ9.out.2.2; omega)).trans HN9.out
          have gw := HJ11.out.box
          rw [HT3L.out] at gw
          have ltW := lt_of_heap gw
          have ltY := lt_of_heap gy
          have ltZ := lt_of_heap hn11
          have ld0 := fun w' (hb : Below w11.heap.size w11 w') => (hb.cell (p := ⟨w8.heap.size, 0, none⟩) ltY).trans ((cell_at gy 0).trans rfl)
          have ld1 := fun w' (hb : Below w11.heap.size w11 w') => (hb.cell (p := ⟨w8.heap.size, 1, none⟩) ltY).trans ((cell_at gy 1).trans rfl)
          have ld2 := fun w' (hb : Below w11.heap.size w11 w') => (hb.cell (p := ⟨w10.heap.size, 0, none⟩) ltZ).trans ((cell_at hn11 0).trans rfl)
          have ld3 := fun w' (hb : Below w11.heap.size w11 w') => (hb.cell (p := ⟨w10.heap.size, 1, none⟩) ltZ).trans ((cell_at hn11 1).trans rfl)
          have ld4 := fun w' (hb : Below w11.heap.size w11 w') => (hb.cell (p := ⟨pw, 0, none⟩) ltW).trans ((cell_at gw 0).trans rfl)
          have ld5 := fun w' (hb : Below w11.heap.size w11 w') => (hb.cell (p := ⟨pw, 1, none⟩) ltW).trans ((cell_at gw 1).trans rfl)
          have HLD := Lib.hid (And.intro ld1 ld3)
          have D1 := Lib.hid (fun (a' : Option Addr) (c' : Nat) (w' : World) => ours_of k a' m2 c' w')
          unfold rgV at D1
          have D2 : Hid (∀ w', Below w11.heap.size w11 w' → Calls Try.prog 16 #[.agg #[.int .i64 k, .slice a8 m2 c8], .agg #[.int .i64 k, .slice a3 m2 c3]] w' fun e w'' => e = .returned (.bool true) ∧ Below w'.heap.size w' w'') := Lib.hid (fun w' hb => by
            have h := rrgsame_of k k (HMY.out.below hb) (HJ11.out.want.below hb) (by rw [HL8.out.1]; have := HM12.out; omega) (by rw [HL8.out.2]; exact HTH2.out)
            rw [decide_eq_true ⟨rfl, by rw [HL8.out.2, HT3.out]⟩, HL8.out.1, HT3L.out] at h
            exact h)
          have D3 : Hid (∀ w', Below w11.heap.size w11 w' → Calls Try.prog 16 #[.agg #[.int .i64 k, .slice a10 m2 c10], .agg #[.int .i64 k, .slice a3 m2 c3]] w' fun e w'' => e = .returned (.bool true) ∧ Below w'.heap.size w' w'') := Lib.hid (fun w' hb => by
            have h := rrgsame_of k k (HM11.out.below hb) (HJ11.out.want.below hb) (by rw [HL10.out.1]; have := HM12.out; omega) (by rw [HL10.out.2]; exact HTH2.out)
            rw [decide_eq_true ⟨rfl, by rw [HL10.out.2, HT3.out]⟩, HL10.out.1, HT3L.out] at h
            exact h)
          have hb110 : Below w11.heap.size w11 w11.drew := (Below.refl _ w11).drew
          clear hm10 hwr10 hb10 al11 hn11 hz11 hl10 ht10 hb9 gy gw ltW ltY ltZ HGB
          go_region_held3 (fun w' => Below w11.heap.size w11 w') (first | assumption)
            (first
              | (go_at_call 17; with_reducible refine (D1.out _ _ _).mono ?_; rintro e w12 ⟨rfl, hb12'⟩; have hb12 : Below w11.heap.size w11 w12 := Below.trans (by assumption) (hb12'.mono (Below.size (by assumption))); clear hb12')
              | (go_at_call 16; with_reducible refine (D2.out _ (by assumption)).mono ?_; rintro e w12 ⟨rfl, hb12'⟩; have hb12 : Below w11.heap.size w11 w12 := Below.trans (by assumption) (hb12'.mono (Below.size (by assumption))); clear hb12')
              | (go_at_call 16; with_reducible refine (D3.out _ (by assumption)).mono ?_; rintro e w12 ⟨rfl, hb12'⟩; have hb12 : Below w11.heap.size w11 w12 := Below.trans (by assumption) (hb12'.mono (Below.size (by assumption))); clear hb12'))
          all_goals
            have hbz : Below w11.heap.size w11 w12 := by assumption
            have HJ12 := Lib.hid (HJ11.out.below hbz)
            have HMY2 := Lib.hid (HMY.out.below hbz)
            have HWY2 := Lib.hid (HWY.out.below hbz)
            have HMZ2 := Lib.hid (HM11.out.below hbz)
            have HWZ2 := Lib.hid (HW11.out.below hbz)
            have y1 := HLD.out.1 w12 hbz
            have z1 := HLD.out.2 w12 hbz
            have HZ12 : Hid (w11.heap.size ≤ w12.heap.size) := Lib.hid hbz.size
            have HSY := Lib.hid (spoil_of HMY2.out HWY2.out (by rw [HL8.out.1]; have := HM12.out; omega) (by rw [HL8.out.2]; exact HTH2.out))
            rw [HL8.out.1] at HSY
            clear hbz ld0 ld1 ld2 ld3 ld4 ld5 HLD
            go_wp2_with fail
            refine HSY.out.mono ?_; rintro e w13 ⟨rfl, V1, hV1⟩
            have hs13 := hV1.out.size
            have HS13 := Lib.hid hs13
            have z2 : w13.cell? ⟨w10.heap.size, 1, none⟩ = some (.slice a10 m2 c10) := (cell_same (hV1.out.oth w10.heap.size (by have := HZ11.out; have := HZ9.out; omega))).trans z1
            have hmz := HMZ2.out.keep (hV1.out.keep (Or.inr (by have := HZ9.out; omega)))
            have hwz := HWZ2.out.outk HMZ2.out hV1.out (by have := HZ9.out; omega)
            have HJ13 := Lib.hid (HJ12.out.out hV1.out (by have := HZ9.out; omega) (by have := HZ9.out; have := HPP.out; have := HZ6.out; omega) (by have := HZ9.out; have := HPP.out; have := HZ6.out; omega) (by have := HZ9.out; have := HPP.out; have := HZ6.out; omega) (by have := HLW.out; have := HZ9.out; have := HPP.out; have := HZ6.out; omega) HZ6.out)
            have HSZ := Lib.hid (spoil_of hmz hwz (by rw [HL10.out.1]; have := HM12.out; omega) (by rw [HL10.out.2]; exact HTH2.out))
            rw [HL10.out.1] at HSZ
            clear hV1 hs13 hmz hwz y1 z1 HSY
            go_wp2_with fail
            refine HSZ.out.mono ?_; rintro e w14 ⟨rfl, V2, hV2⟩
            have HJ14 := Lib.hid (HJ13.out.out hV2.out (by have := HZ9.out; have := HZ11.out; omega) (by have := HZ9.out; have := HZ11.out; have := HPP.out; have := HZ6.out; omega) (by have := HZ9.out; have := HZ11.out; have := HPP.out; have := HZ6.out; omega) (by have := HZ9.out; have := HZ11.out; have := HPP.out; have := HZ6.out; omega) (by have := HLW.out; have := HZ9.out; have := HZ11.out; have := HPP.out; have := HZ6.out; omega) HZ6.out)
            have HZ14 : Hid (w6.heap.size ≤ w14.heap.size) := Lib.hid (by rw [hV2.out.size, HS13.out]; have := HZ9.out; have := HZ11.out; have := HZ12.out; omega)
            clear hV2 z2
            go_wp2_with fail
            go_roundw
            case rel => exact ⟨t + 1, by go_num, by omega, HZ14.out, HJ14.out⟩
            case measure => simp [intOf]; omega
        · have dt : decide ((t : Int) < 2) = false := decide_eq_false (by omega)
          go_wp2_with fail
          refine (HAW.out _).mono ?_; rintro e w7 ⟨rfl, hb7⟩
          have HB7 := Lib.hid (HJ.out.low.trans (hb7.mono HJ.out.low.size))
          clear hb7
          go_wp2_with fail
          go_ret
          exact ⟨rfl, HB7.out⟩
  · have hk : ∃ lo3 hi3, (Below w2.heap.size w2 (set2 w3 w2.heap.size 0 (.int .i64 k) (.slice a3 T3.length c3)) ∧ Mx (set2 w3 w2.heap.size 0 (.int .i64 k) (.slice a3 T3.length c3)) lo3 hi3 a3 c3 T3 ∧ w2.heap.size ≤ lo3 ∧ hi3 ≤ (set2 w3 w2.heap.size 0 (.int .i64 k) (.slice a3 T3.length c3)).heap.size ∧ (set2 w3 w2.heap.size 0 (.int .i64 k) (.slice a3 T3.length c3)).heap[w2.heap.size]? = some (.cells #[.int .i64 k, .slice a3 T3.length c3] 28 (0, 0)) ∧ w2.heap.size ≤ w2.heap.size ∧ w2.heap.size < (set2 w3 w2.heap.size 0 (.int .i64 k) (.slice a3 T3.length c3)).heap.size ∧ txL T3 = txL T2) := by
      have hb3' : Below (w2.alloc (.cells #[.int .i64 0, .slice none 0 0] 28)).heap.size (w2.alloc (.cells #[.int .i64 0, .slice none 0 0] 28)) w3 := (Below.refl _ _).drew.trans hb3
      have hz : w2.heap.size + 1 ≤ w3.heap.size := by have := hb3'.size; simpa using this
      have hm3' : Mx w3 (w2.heap.size + 1) w3.heap.size a3 c3 T3 := by
        have h : Mx w3 (w2.alloc (.cells #[.int .i64 0, .slice none 0 0] 28)).heap.size w3.heap.size a3 c3 T3 := hm3
        simpa using h
      refine ⟨w2.heap.size + 1, w3.heap.size, set2_below ((t_al w2 _).trans (hb3'.mono (by simp))) (Nat.le_refl _) _ _, hm3'.keep (set2_keep (Or.inl (Nat.lt_succ_self _))), Nat.le_succ _, by rw [set2_size]; exact Nat.le_refl _, set2_at hB3 _ _, Nat.le_refl _, by rw [set2_size]; exact hz, by rw [ht3]; exact HL2.out.2.2⟩
    obtain ⟨lo3, hi3, hk2⟩ := hk
    have HQ := Lib.hid hk2
    rw [show (w3.setCell ⟨w2.heap.size, 0, none⟩ (.int .i64 k)).setCell ⟨w2.heap.size, 1, none⟩ (.slice a3 T3.length c3) = set2 w3 w2.heap.size 0 (.int .i64 k) (.slice a3 T3.length c3) from rfl]
    generalize set2 w3 w2.heap.size 0 (.int .i64 k) (.slice a3 T3.length c3) = w4 at *
    obtain ⟨pw, hpw⟩ : ∃ pw, w2.heap.size = pw := ⟨_, rfl⟩
    have HQ2 : Hid (Below w2.heap.size w2 w4 ∧ Mx w4 lo3 hi3 a3 c3 T3 ∧ w2.heap.size ≤ lo3 ∧ hi3 ≤ w4.heap.size ∧ w4.heap[pw]? = some (.cells #[.int .i64 k, .slice a3 T3.length c3] 28 (0, 0)) ∧ w2.heap.size ≤ pw ∧ pw < w4.heap.size ∧ txL T3 = txL T2) := Lib.hid (by rw [← hpw]; exact hk2)
    clear HQ hk2 hb3 hm3 hwr3 ht3 k3 k0 hne2 hne3 hb20 hB3 zB cB0 cB1
    have HQ := HQ2
    clear HQ2
    conv in (Value.pointer (some ⟨w2.heap.size, 0, none⟩)) => rw [hpw]
    clear hpw

    obtain ⟨q1, q2, q3, q4, q5, q6, q7, q8⟩ := HQ.out
    have hR5 := rg_new w4 57
    have hb5 := t_al w4 (.cells (rvs (List.replicate 27 rv0)).toArray 57)
    have hz5 : (w4.alloc (.cells (rvs (List.replicate 27 rv0)).toArray 57)).heap.size = w4.heap.size + 1 := by simp
    have HNW5 := Lib.hid (rnew_of w4)
    go_wp2_with fail
    refine HNW5.out.mono ?_; rintro e w5 ⟨rfl, hw5⟩
    rw [← hw5] at hR5 hb5 hz5
    have hm5 := (HM2.out.below q1).below hb5
    have hw5' := (HW2.out.below q1).below hb5
    have HSET := Lib.hid (set_of hR5 (by omega) x k hm5 (by have := q1.size; omega) (by rw [HML.out]; have := HL2.out.1; omega) (by have := HL2.out.2.1; omega))
    rw [sem_new] at HSET
    unfold SetPost rgV at HSET
    rw [HML.out] at HSET
    have k5 : w5.cell? ⟨w.heap.size, 0, none⟩ = some (.int .i64 k) := by
      rw [cell_at ((hb5.block w.heap.size (by have := q1.size; omega)).trans ((q1.block w.heap.size hlt2).trans HX2.out))]; rfl
    have HB5 := Lib.hid ((HB2.out.trans (q1.mono HB2.out.size)).trans (hb5.mono (HB2.out.trans (q1.mono HB2.out.size)).size))
    have HM5 := Lib.hid hm5
    have HW5 := Lib.hid hw5'
    have HQ5 : Hid (Mx w5 lo3 hi3 a3 c3 T3 ∧ w5.heap[pw]? = some (.cells #[.int .i64 k, .slice a3 T3.length c3] 28 (0, 0)) ∧ w2.heap.size ≤ lo3 ∧ hi3 ≤ w4.heap.size ∧ w2.heap.size ≤ pw ∧ pw < w4.heap.size ∧ txL T3 = txL T2 ∧ w5.heap.size = w4.heap.size + 1 ∧ w2.heap.size ≤ w4.heap.size) := Lib.hid ⟨q2.below hb5, (hb5.block pw q7).trans q5, q3, q4, q6, q7, q8, hz5, q1.size⟩
    clear q1 q2 q3 q4 q5 q6 q7 q8 hR5 hb5 hz5 hm5 hw5' hw5
    go_wp2_with fail
    refine HSET.out.mono ?_; rintro e w6 ⟨rfl, R6, hs6, hR6, ho6⟩
    obtain ⟨p1, p2, p3, p4, p5, p6, p7, p8, p9⟩ := HQ5.out
    have hJ6 : OwJ w w1.heap.size w2.heap.size (w4.heap.size + 1) w6.heap.size w4.heap.size pw k a2 c2 T2 a3 c3 lo3 hi3 T3 R6 w6 := by
      refine ⟨hR6, p1.keep (ho6.keep (Or.inr p4)), (ho6.oth pw (by omega) (by omega)).trans p2, ⟨T2, Alike.refl _, HM5.out.keep (ho6.keep (Or.inr (by omega))), ?_⟩, HB5.out.trans (ho6.low.mono (by have := HZ1.out; have := HZ2.out; omega))⟩
      refine ⟨HW5.out.out.same (fun d hd => ?_), fun p hp => (HW5.out.inn p hp).same (fun d hd => ?_)⟩
      · have := HM5.out.bt d hd
        exact ho6.oth _ (by omega) (by omega)
      · have := (HM5.out.rd p hp).2 d hd
        exact ho6.oth _ (by omega) (by omega)
    have HJ6 := Lib.hid hJ6
    have hz6 : w5.heap.size ≤ w6.heap.size := ho6.size
    have HZ6 : Hid (w4.heap.size + 1 ≤ w6.heap.size) := Lib.hid (by omega)
    have HT3 : Hid (txL T3 = txL T2) := Lib.hid p7
    have HPP : Hid (w2.heap.size ≤ lo3 ∧ hi3 ≤ w4.heap.size ∧ w2.heap.size ≤ pw ∧ pw < w4.heap.size ∧ w2.heap.size ≤ w4.heap.size) := Lib.hid ⟨p3, p4, p5, p6, p9⟩
    have HLW : Hid (w.heap.size + 1 = w1.heap.size ∧ w1.heap.size ≤ w2.heap.size) := Lib.hid ⟨HZ1.out.symm, HZ2.out⟩
    have HB6 := Lib.hid hJ6.low
    clear p1 p2 p3 p4 p5 p6 p7 p8 p9 k5 HSET hJ6
    rcases setS_new x k (txL T2) with ⟨h1, h2⟩ | ⟨h1, h3, i, hi, hi27, hSi, hS26⟩
    · have hsR : sem R6 = S0R := hs6.trans h2
      have HG := Lib.hid (get_no hR6 0 (fun i r _ hr => reg_new hsR hr))
      have HRG := Lib.hid hR6
      have HSR := Lib.hid hsR
      have d1 : ((setS S0R x k (txL T2)).1 == 0) = false := by rw [beq_eq_false_iff_ne]; exact h1
      have d2 : ((setS S0R x k (txL T2)).1 != 0) = true := by simp [bne, d1]
      unfold rgV at HG
      generalize (setS S0R x k (txL T2)).1 = er at *
      clear h1 h2 hs6 hR6 ho6 hsR hz6
      go_wp2_with fail
      refine HG.out.mono ?_; rintro e w7 ⟨rfl, hb7⟩
      have al8 := t_al w7 (.cells #[.int .i64 0, .slice none 0 0] 41)
      have HB8 := Lib.hid ((HB6.out.trans (hb7.mono HB6.out.size)).trans (al8.mono (HB6.out.trans (hb7.mono HB6.out.size)).size))
      have HNA := Lib.hid (names_of ((HRG.out.below hb7).below al8))
      rw [HSR.out, names_new] at HNA
      clear hb7 al8
      go_wp2_with fail
      refine HNA.out.mono ?_; rintro e w9 ⟨a9, c9, rfl, _, hb9⟩
      have HB9 := Lib.hid (HB8.out.trans (hb9.mono HB8.out.size))
      clear hb9
      simp only [List.length_nil]
      go_wp2_with fail
      refine (HAW.out _).mono ?_; rintro e w10 ⟨rfl, hb10⟩
      have HB10 := Lib.hid (HB9.out.trans (hb10.mono HB9.out.size))
      clear hb10
      go_wp2_with fail
      go_ret
      exact ⟨rfl, HB10.out⟩
    · obtain ⟨ri, hri⟩ := hR6.get hi27
      obtain ⟨r26, hr26⟩ := hR6.get (i := 26) (by omega)
      have e1 := sem_at hri
      rw [hs6, hSi] at e1
      have e2 := sem_at hr26
      rw [hs6, hS26] at e2
      have f1 : ri.k = k ∧ txL ri.T = txL T2 := ⟨(congrArg Prod.fst (Option.some.inj e1)).symm, (congrArg Prod.snd (Option.some.inj e1)).symm⟩
      have f2 : r26.k = k ∧ txL r26.T = txL T2 := ⟨(congrArg Prod.fst (Option.some.inj e2)).symm, (congrArg Prod.snd (Option.some.inj e2)).symm⟩
      have g1 : ri.T.length = m2 := by rw [← txL_len, f1.2, txL_len, HML.out]
      have g2 : r26.T.length = m2 := by rw [← txL_len, f2.2, txL_len, HML.out]
      have g3 : 0 < m2 := by rw [← HML.out, ← txL_len]; exact h3
      have HGX : Hid (∀ wv t' lo' hi' b', Rg wv t' lo' hi' b' R6 → Calls Try.prog 13 #[.pointer (some ⟨b', 0, none⟩), .int .i64 x] wv fun e w' => ∃ a c T', T'.length = m2 ∧ txL T' = txL T2 ∧ e = .returned (.tuple #[.agg #[.int .i64 k, .slice a m2 c], .bool true]) ∧ (Mx w' wv.heap.size w'.heap.size a c T' ∧ Wr w' a T') ∧ Below wv.heap.size wv w') := Lib.hid (fun wv t' lo' hi' b' h => by
        have hh := get_yes h x hi hri (by omega)
        unfold GetPost rgV at hh
        rw [f1.1, f1.2, g1] at hh
        exact hh)
      have HG0 : Hid (∀ wv t' lo' hi' b', Rg wv t' lo' hi' b' R6 → Calls Try.prog 13 #[.pointer (some ⟨b', 0, none⟩), .int .i64 0] wv fun e w' => ∃ a c T', T'.length = m2 ∧ txL T' = txL T2 ∧ e = .returned (.tuple #[.agg #[.int .i64 k, .slice a m2 c], .bool true]) ∧ (Mx w' wv.heap.size w'.heap.size a c T' ∧ Wr w' a T') ∧ Below wv.heap.size wv w') := Lib.hid (fun wv t' lo' hi' b' h => by
        have hh := get_yes h 0 (show regI 0 = some 26 from rfl) hr26 (by omega)
        unfold GetPost rgV at hh
        rw [f2.1, f2.2, g2] at hh
        exact hh)
      have HTH2 : Hid (Thin (txL T2)) := Lib.hid (thin_of (by have := HL2.out.2.1; omega))
      have HM12 : Hid (m2 ≤ 12) := Lib.hid HL2.out.1
      have HE0 := Lib.hid h1
      clear h1 h3 hi hi27 hSi hS26 hri hr26 e1 e2 f1 f2 g1 g2 g3 hs6 hR6 ho6 hz6
      rw [HE0.out]
      have hT3l : T3.length = m2 := by rw [← txL_len, HT3.out, txL_len, HML.out]
      have HT3L := Lib.hid hT3l
      clear hT3l
      go_wp2_with fail
      go_loopw [11] (fun v11 wr => ∃ t : Nat, v11 = .int .i64 t ∧ t ≤ 2 ∧ w6.heap.size ≤ wr.heap.size ∧ OwJ w w1.heap.size w2.heap.size (w4.heap.size + 1) w6.heap.size w4.heap.size pw k a2 c2 T2 a3 c3 lo3 hi3 T3 R6 wr) (fun v11 _ => 2 - (intOf v11).toNat)
      case atStart => exact ⟨0, rfl, by omega, Nat.le_refl _, HJ6.out⟩
      case round =>
        obtain ⟨wq, rfl⟩ : ∃ wq : World, wq = wr := ⟨_, rfl⟩
        obtain ⟨t, rfl, ht, hzq, J⟩ := hrel
        have HJ := Lib.hid J
        have HZQ := Lib.hid hzq
        clear J hzq
        by_cases hlt : t < 2
        · have dt : decide ((t : Int) < 2) = true := decide_eq_true (by omega)
          obtain ⟨U, u1, u2, u3⟩ := HJ.out.l
          have HSP := Lib.hid (spoil_of u2 u3 (by rw [u1.len, HML.out]; have := HM12.out; omega) (u1.thin HTH2.out))
          rw [u1.len, HML.out] at HSP
          have HU1 := Lib.hid u1
          clear u1 u2 u3
          go_wp2_with fail
          refine HSP.out.mono ?_; rintro e w7 ⟨rfl, V, hV⟩
          have hJ7 := HJ.out.lset HU1.out hV HPP.out.1 HPP.out.2.2.1 HPP.out.2.2.2.2 (by have := HLW.out; omega)
          have HZ7 : Hid (w6.heap.size ≤ w7.heap.size) := Lib.hid (by rw [hV.out.size]; exact HZQ.out)
          have HJ7 := Lib.hid hJ7
          have HGA := Lib.hid (HGX.out w7 _ _ _ _ hJ7.rg)
          clear hV hJ7 HSP
          go_wp2_with fail
          refine HGA.out.mono ?_; rintro e w8 ⟨a8, c8, T8, hl8, ht8, rfl, ⟨hm8, hwr8⟩, hb8⟩
          have al9 := t_al w8 (.cells #[.int .i64 k, .slice a8 m2 c8] 41)
          have hn9 := heap_alloc_new w8 (.cells #[.int .i64 k, .slice a8 m2 c8] 41)
          have hz9 : (w8.alloc (.cells #[.int .i64 k, .slice a8 m2 c8] 41)).heap.size = w8.heap.size + 1 := by simp
          go_upto_region 13 with fail
          generalize w8.alloc (.cells #[.int .i64 k, .slice a8 m2 c8] 41) = w9 at *
          have HM9 := Lib.hid (hm8.below al9)
          have HW9 := Lib.hid (hwr8.below al9)
          have HJ9 := Lib.hid ((HJ7.out.below hb8).below al9)
          have HN9 := Lib.hid hn9
          have HZ9 : Hid (w6.heap.size ≤ w7.heap.size ∧ w7.heap.size ≤ w8.heap.size ∧ w9.heap.size = w8.heap.size + 1) := Lib.hid ⟨HZ7.out, hb8.size, hz9⟩
          have HL8 := Lib.hid (And.intro hl8 ht8)
          have HGB := Lib.hid (HG0.out w9 _ _ _ _ HJ9.out.rg)
          clear hm8 hwr8 hb8 al9 hn9 hz9 hl8 ht8 HGA
          go_wp2_with fail
          refine HGB.out.mono ?_; rintro e w10 ⟨a10, c10, T10, hl10, ht10, rfl, ⟨hm10, hwr10⟩, hb10⟩
          have al11 := t_al w10 (.cells #[.int .i64 k, .slice a10 m2 c10] 41)
          have hn11 := heap_alloc_new w10 (.cells #[.int .i64 k, .slice a10 m2 c10] 41)
          have hz11 : (w10.alloc (.cells #[.int .i64 k, .slice a10 m2 c10] 41)).heap.size = w10.heap.size + 1 := by simp
          go_upto_region 14 with fail
          generalize w10.alloc (.cells #[.int .i64 k, .slice a10 m2 c10] 41) = w11 at *
          have hb9 : Below w9.heap.size w9 w11 := hb10.trans (al11.mono hb10.size)
          have HM11 := Lib.hid (hm10.below al11)
          have HW11 := Lib.hid (hwr10.below al11)
          have HMY := Lib.hid (HM9.out.below hb9)
          have HWY := Lib.hid (HW9.out.below hb9)
          have HJ11 := Lib.hid (HJ9.out.below hb9)
          have HZ11 : Hid (w9.heap.size ≤ w10.heap.size ∧ w11.heap.size = w10.heap.size + 1) := Lib.hid ⟨hb10.size, hz11⟩
          have HL10 := Lib.hid (And.intro hl10 ht10)
          have gy := (hb9.block w8.heap.size (by have := HZ9.out.2.2; omega)).trans HN9.out
          have gw := HJ11.out.box
          rw [HT3L.out] at gw
          have ltW := lt_of_heap gw
          have ltY := lt_of_heap gy
          have ltZ := lt_of_heap hn11
          have ld0 := fun w' (hb : Below w11.heap.size w11 w') => (hb.cell (p := ⟨w8.heap.size, 0, none⟩) ltY).trans ((cell_at gy 0).trans rfl)
          have ld1 := fun w' (hb : Below w11.heap.size w11 w') => (hb.cell (p := ⟨w8.heap.size, 1, none⟩) ltY).trans ((cell_at gy 1).trans rfl)
          have ld2 := fun w' (hb : Below w11.heap.size w11 w') => (hb.cell (p := ⟨w10.heap.size, 0, none⟩) ltZ).trans ((cell_at hn11 0).trans rfl)
          have ld3 := fun w' (hb : Below w11.heap.size w11 w') => (hb.cell (p := ⟨w10.heap.size, 1, none⟩) ltZ).trans ((cell_at hn11 1).trans rfl)
          have ld4 := fun w' (hb : Below w11.heap.size w11 w') => (hb.cell (p := ⟨pw, 0, none⟩) ltW).trans ((cell_at gw 0).trans rfl)
          have ld5 := fun w' (hb : Below w11.heap.size w11 w') => (hb.cell (p := ⟨pw, 1, none⟩) ltW).trans ((cell_at gw 1).trans rfl)
          have HLD := Lib.hid (And.intro ld1 ld3)
          have D1 := Lib.hid (fun (a' : Option Addr) (c' : Nat) (w' : World) => ours_of k a' m2 c' w')
          unfold rgV at D1
          have D2 : Hid (∀ w', Below w11.heap.size w11 w' → Calls Try.prog 16 #[.agg #[.int .i64 k, .slice a8 m2 c8], .agg #[.int .i64 k, .slice a3 m2 c3]] w' fun e w'' => e = .returned (.bool true) ∧ Below w'.heap.size w' w'') := Lib.hid (fun w' hb => by
            have h := rrgsame_of k k (HMY.out.below hb) (HJ11.out.want.below hb) (by rw [HL8.out.1]; have := HM12.out; omega) (by rw [HL8.out.2]; exact HTH2.out)
            rw [decide_eq_true ⟨rfl, by rw [HL8.out.2, HT3.out]⟩, HL8.out.1, HT3L.out] at h
            exact h)
          have D3 : Hid (∀ w', Below w11.heap.size w11 w' → Calls Try.prog 16 #[.agg #[.int .i64 k, .slice a10 m2 c10], .agg #[.int .i64 k, .slice a3 m2 c3]] w' fun e w'' => e = .returned (.bool true) ∧ Below w'.heap.size w' w'') := Lib.hid (fun w' hb => by
            have h := rrgsame_of k k (HM11.out.below hb) (HJ11.out.want.below hb) (by rw [HL10.out.1]; have := HM12.out; omega) (by rw [HL10.out.2]; exact HTH2.out)
            rw [decide_eq_true ⟨rfl, by rw [HL10.out.2, HT3.out]⟩, HL10.out.1, HT3L.out] at h
            exact h)
          have hb110 : Below w11.heap.size w11 w11.drew := (Below.refl _ w11).drew
          clear hm10 hwr10 hb10 al11 hn11 hz11 hl10 ht10 hb9 gy gw ltW ltY ltZ HGB
          go_region_held3 (fun w' => Below w11.heap.size w11 w') (first | assumption)
            (first
              | (go_at_call 17; with_reducible refine (D1.out _ _ _).mono ?_; rintro e w12 ⟨rfl, hb12'⟩; have hb12 : Below w11.heap.size w11 w12 := Below.trans (by assumption) (hb12'.mono (Below.size (by assumption))); clear hb12')
              | (go_at_call 16; with_reducible refine (D2.out _ (by assumption)).mono ?_; rintro e w12 ⟨rfl, hb12'⟩; have hb12 : Below w11.heap.size w11 w12 := Below.trans (by assumption) (hb12'.mono (Below.size (by assumption))); clear hb12')
              | (go_at_call 16; with_reducible refine (D3.out _ (by assumption)).mono ?_; rintro e w12 ⟨rfl, hb12'⟩; have hb12 : Below w11.heap.size w11 w12 := Below.trans (by assumption) (hb12'.mono (Below.size (by assumption))); clear hb12'))
          all_goals
            have hbz : Below w11.heap.size w11 w12 := by assumption
            have HJ12 := Lib.hid (HJ11.out.below hbz)
            have HMY2 := Lib.hid (HMY.out.below hbz)
            have HWY2 := Lib.hid (HWY.out.below hbz)
            have HMZ2 := Lib.hid (HM11.out.below hbz)
            have HWZ2 := Lib.hid (HW11.out.below hbz)
            have y1 := HLD.out.1 w12 hbz
            have z1 := HLD.out.2 w12 hbz
            have HZ12 : Hid (w11.heap.size ≤ w12.heap.size) := Lib.hid hbz.size
            have HSY := Lib.hid (spoil_of HMY2.out HWY2.out (by rw [HL8.out.1]; have := HM12.out; omega) (by rw [HL8.out.2]; exact HTH2.out))
            rw [HL8.out.1] at HSY
            clear hbz ld0 ld1 ld2 ld3 ld4 ld5 HLD
            go_wp2_with fail
            refine HSY.out.mono ?_; rintro e w13 ⟨rfl, V1, hV1⟩
            have hs13 := hV1.out.size
            have HS13 := Lib.hid hs13
            have z2 : w13.cell? ⟨w10.heap.size, 1, none⟩ = some (.slice a10 m2 c10) := (cell_same (hV1.out.oth w10.heap.size (by have := HZ11.out; have := HZ9.out; omega))).trans z1
            have hmz := HMZ2.out.keep (hV1.out.keep (Or.inr (by have := HZ9.out; omega)))
            have hwz := HWZ2.out.outk HMZ2.out hV1.out (by have := HZ9.out; omega)
            have HJ13 := Lib.hid (HJ12.out.out hV1.out (by have := HZ9.out; omega) (by have := HZ9.out; have := HPP.out; have := HZ6.out; omega) (by have := HZ9.out; have := HPP.out; have := HZ6.out; omega) (by have := HZ9.out; have := HPP.out; have := HZ6.out; omega) (by have := HLW.out; have := HZ9.out; have := HPP.out; have := HZ6.out; omega) HZ6.out)
            have HSZ := Lib.hid (spoil_of hmz hwz (by rw [HL10.out.1]; have := HM12.out; omega) (by rw [HL10.out.2]; exact HTH2.out))
            rw [HL10.out.1] at HSZ
            clear hV1 hs13 hmz hwz y1 z1 HSY
            go_wp2_with fail
            refine HSZ.out.mono ?_; rintro e w14 ⟨rfl, V2, hV2⟩
            have HJ14 := Lib.hid (HJ13.out.out hV2.out (by have := HZ9.out; have := HZ11.out; omega) (by have := HZ9.out; have := HZ11.out; have := HPP.out; have := HZ6.out; omega) (by have := HZ9.out; have := HZ11.out; have := HPP.out; have := HZ6.out; omega) (by have := HZ9.out; have := HZ11.out; have := HPP.out; have := HZ6.out; omega) (by have := HLW.out; have := HZ9.out; have := HZ11.out; have := HPP.out; have := HZ6.out; omega) HZ6.out)
            have HZ14 : Hid (w6.heap.size ≤ w14.heap.size) := Lib.hid (by rw [hV2.out.size, HS13.out]; have := HZ9.out; have := HZ11.out; have := HZ12.out; omega)
            clear hV2 z2
            go_wp2_with fail
            go_roundw
            case rel => exact ⟨t + 1, by go_num, by omega, HZ14.out, HJ14.out⟩
            case measure => simp [intOf]; omega
        · have dt : decide ((t : Int) < 2) = false := decide_eq_false (by omega)
          go_wp2_with fail
          refine (HAW.out _).mono ?_; rintro e w7 ⟨rfl, hb7⟩
          have HB7 := Lib.hid (HJ.out.low.trans (hb7.mono HJ.out.low.size))
          clear hb7
          go_wp2_with fail
          go_ret
          exact ⟨rfl, HB7.out⟩

end Go.Proofs.Yteipnllefifgiaa
