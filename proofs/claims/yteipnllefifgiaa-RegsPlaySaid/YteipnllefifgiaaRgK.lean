/-
  Set of registers; at this seat's numbers.
-/
import Derived.Test.YteipnllefifgiaaRgJ
import Derived.Deep.RegionHeld3
namespace Go.Proofs.Yteipnllefifgiaa
open Go Go.RowKit
set_option linter.unusedVariables false

/-- A register's value, as what it says. -/
abbrev RV := Int × List (List ByteArray)
def sem (R : List Rv) : List RV := R.map fun r => (r.k, txL r.T)
def sem1 (r : Rv) : RV := (r.k, txL r.T)
theorem sem_at {R : List Rv} {i : Nat} {r : Rv} (h : R[i]? = some r) : (sem R)[i]? = some (r.k, txL r.T) := by unfold sem; rw [List.getElem?_map, h]; rfl
theorem sem_set (R : List Rv) (i : Nat) (r : Rv) : sem (R.set i r) = (sem R).set i (r.k, txL r.T) := by unfold sem; rw [List.map_set]
theorem txL_app (T U : List TxM) : txL (T ++ U) = txL T ++ txL U := by unfold txL; rw [List.map_append]
def gR (S : List RV) (i : Nat) : RV := S.getD i (0, [])
theorem gR_at {R : List Rv} {i : Nat} {r : Rv} (h : R[i]? = some r) : gR (sem R) i = (r.k, txL r.T) := by unfold gR; rw [List.getD_eq_getElem?_getD, sem_at h]; rfl
/-- What stands behind what, where a great letter says so. -/
def appM (S : List RV) (i : Nat) (x k : Int) (M : List (List ByteArray)) : List (List ByteArray) := if (apB x && tkB (gR S i).1 k (gR S i).2.length) = true then (gR S i).2 ++ M else M
def setS (S : List RV) (x k : Int) (M : List (List ByteArray)) : Int × List RV :=
  match regI x with
  | none => (1, S)
  | some i =>
    if 0 ≤ k ∧ k ≤ 2 ∧ 0 < M.length then
      if 400 < (appM S i x k M).length ∨ 4096 < szM (appM S i x k M) then (6, S) else (0, (S.set i (k, appM S i x k M)).set 26 (k, appM S i x k M))
    else (1, S)

/-- Nothing changes but block b. -/
structure Only (b : Nat) (w w' : World) : Prop where
  low : Below b w w'
  size : w.heap.size ≤ w'.heap.size
  oth : ∀ k, k < w.heap.size → k ≠ b → w'.heap[k]? = w.heap[k]?
theorem Only.of_below {b : Nat} {w w' : World} (h : Below w.heap.size w w') (hb : b ≤ w.heap.size) : Only b w w' := ⟨h.mono hb, h.size, fun k hk _ => h.block k hk⟩
theorem Only.trans {b : Nat} {u v w : World} (h : Only b u v) (k : Only b v w) : Only b u w :=
  ⟨h.low.trans k.low, Nat.le_trans h.size k.size, fun i h1 h2 => (k.oth i (Nat.lt_of_lt_of_le h1 h.size) h2).trans (h.oth i h1 h2)⟩
theorem Only.set2 {b o : Nat} {w : World} {x y : Value} (hb : b ≤ w.heap.size) : Only b w (set2 w b o x y) :=
  ⟨((Below.refl b w |>.setCell (p := ⟨b, o, none⟩) (Nat.le_refl _) x).setCell (p := ⟨b, o + 1, none⟩) (Nat.le_refl _) y), by rw [set2_size]; exact Nat.le_refl _, fun k _ hk => by
    have h1 := heap_set_other (w := w.setCell ⟨b, o, none⟩ x) (o := o + 1) (u := y) hk
    have h2 := heap_set_other (w := w) (o := o) (u := x) hk
    exact h1.trans h2⟩
theorem Only.keep {b lo hi : Nat} {w w' : World} (h : Only b w w') (hb : b < lo ∨ hi ≤ b) : Keep lo hi w w' := ⟨h.size, fun k h1 h2 h3 => h.oth k h3 (by omega)⟩

/-- A register is set. -/
theorem Rg.put {w : World} {t lo hi b : Nat} {R : List Rv} (h : Rg w t lo hi b R) {i : Nat} {r : Rv} (hm : Mx w lo hi r.a r.c r.T) (hf : r.T.length ≤ 400 ∧ szM (txL r.T) ≤ 4096) :
    Rg (set2 w b (i * 2) (.int .i64 r.k) (.slice r.a r.T.length r.c)) t lo hi b (R.set i r) := by
  have hk : Keep lo hi w (set2 w b (i * 2) (.int .i64 r.k) (.slice r.a r.T.length r.c)) := set2_keep (Or.inl h.bl)
  refine ⟨by rw [List.length_set]; exact h.len, ?_, fun q hq => ?_, fun q hq => ?_, h.bl, by rw [set2_size]; exact h.hi_⟩
  · show ((w.setCell _ _).setCell _ _).heap[b]? = _
    rw [heap_set_at (heap_set_at h.obj), List.setIfInBounds_toArray, List.setIfInBounds_toArray, rvs_set]
  · rcases List.mem_or_eq_of_mem_set hq with hq | rfl
    · exact (h.mx q hq).keep hk
    · exact hm.keep hk
  · rcases List.mem_or_eq_of_mem_set hq with hq | rfl
    · exact h.few q hq
    · exact hf

/-- What Set answers, and leaves. -/
def SetPost (t lo b : Nat) (S : Int × List RV) (w : World) (e : Ending) (w' : World) : Prop :=
  e = .returned (.int .i64 S.1) ∧ ∃ R', sem R' = S.2 ∧ Rg w' t lo w'.heap.size b R' ∧ Only b w w'

theorem set_nil (x k : Int) (a : Option Addr) (n c : Nat) (w : World) : Calls Try.prog 12 #[.pointer none, .int .i64 x, rgV k a n c] w fun e w' => e = .returned (.int .i64 2) ∧ Below w.heap.size w w' := by
  unfold rgV
  have al := Lib.hid (t_al w (.cells #[.int .i64 k, .slice a n c] 41))
  go_enter Try.func12, Try.ntmps12
  go_wp2_with fail
  go_ret
  exact ⟨rfl, al.out⟩

set_option maxRecDepth 100000 in
set_option maxHeartbeats 8000000 in
theorem set_of {w : World} {t lo hi b lo0 hi0 : Nat} {R : List Rv} (H : Rg w t lo hi b R) (hlo : lo ≤ w.heap.size) (x k : Int) {a : Option Addr} {c : Nat} {T : List TxM} (HT : Mx w lo0 hi0 a c T) (hh0 : hi0 ≤ w.heap.size) (hn : T.length ≤ 1000) (hs : szM (txL T) ≤ 100000) :
    Calls Try.prog 12 #[.pointer (some ⟨b, 0, none⟩), .int .i64 x, rgV k a T.length c] w (SetPost t lo b (setS (sem R) x k (txL T)) w) := by
  unfold SetPost
  unfold rgV
  obtain ⟨SS, hSS⟩ : ∃ SS, setS (sem R) x k (txL T) = SS := ⟨_, rfl⟩
  have HSS := Lib.hid hSS
  rw [hSS]
  clear hSS
  have hbl := H.lt
  have HHI := Lib.hid H.hi_
  have HH0 := Lib.hid hh0
  clear hh0
  have HBLT : Hid (b ≤ w.heap.size) := Lib.hid (Nat.le_of_lt hbl)
  have HLO := Lib.hid hlo
  have al := t_al w (.cells #[.int .i64 k, .slice a T.length c] 41)
  have hnw := heap_alloc_new w (.cells #[.int .i64 k, .slice a T.length c] 41)
  have HO := Lib.hid (fun w => rof_of b x w)
  have HR1 := Lib.hid (H.below al)
  have HT1 := Lib.hid (HT.below al)
  have HAL := Lib.hid al
  have HNW := Lib.hid hnw
  have HTL := Lib.hid hn
  have HTS := Lib.hid hs
  have hw1s : (w.alloc (.cells #[.int .i64 k, .slice a T.length c] 41)).heap.size = w.heap.size + 1 := by simp
  have HFI := Lib.hid (fun w' => fits_of k a T.length c w')
  have HTK := Lib.hid (fun (r : Rv) w' => takes_of r.k k r.a a r.T.length r.c T.length c w')
  have HAP := Lib.hid (fun w => appends_of x w)
  clear H HT al hnw hn hs hlo
  unfold rgV at HFI HTK
  obtain ⟨n, hnn⟩ : ∃ n, T.length = n := ⟨_, rfl⟩
  have HN := Lib.hid hnn
  rw [hnn] at HFI HTK HNW HR1 HT1 HAL hw1s ⊢
  clear hnn
  generalize hw1 : w.alloc (.cells #[.int .i64 k, .slice a n c] 41) = w1 at *
  cases hr : regI x with
  | none =>
    have HA : Hid (regA b x = none) := Lib.hid (by unfold regA; rw [hr]; rfl)
    rw [HA.out] at HO
    have HS : Hid (SS = (1, sem R)) := Lib.hid (by rw [← HSS.out]; unfold setS; rw [hr])
    clear hr HA HFI HTK HAP
    go_enter Try.func12, Try.ntmps12
    go_upto_region 1 with fail
    try rw [hw1]
    clear hw1
    go_wp2_with fail
    refine (HO.out _).mono ?_; rintro e w2 ⟨rfl, hw⟩
    have hw2 := hw.symm
    subst hw2
    clear hw
    go_wp2_with fail
    go_ret
    exact ⟨by rw [HS.out] <;> rfl, R, by rw [HS.out], HR1.out.mono HR1.out.hi_ (Nat.le_refl _), Only.of_below HAL.out HBLT.out⟩
  | some i =>
    have HI := Lib.hid (regI_lt hr)
    have HA : Hid (regA b x = some ⟨b, i * 2, none⟩) := Lib.hid (by unfold regA; rw [hr]; rfl)
    rw [HA.out] at HO
    by_cases hfit : 0 ≤ k ∧ k ≤ 2 ∧ 0 < n
    · obtain ⟨r, hir⟩ := HR1.out.get (regI_lt hr)
      have HIR := Lib.hid hir
      obtain ⟨MA, hMA⟩ : ∃ MA, appM (sem R) i x k (txL T) = MA := ⟨_, rfl⟩
      have HSE : Hid (SS = if 400 < (MA).length ∨ 4096 < szM (MA) then (6, sem R) else (0, ((sem R).set i (k, MA)).set 26 (k, MA))) := Lib.hid (by
        rw [← HSS.out]; unfold setS; rw [hr]; simp only []; rw [if_pos (by rw [txL_len, HN.out]; exact hfit), hMA])
      rw [decide_eq_true hfit] at HFI
      have HFT := Lib.hid hfit
      have HAPM : Hid (MA = if (apB x && tkB r.k k r.T.length) = true then txL r.T ++ txL T else txL T) := Lib.hid (by
        rw [← hMA]; unfold appM; rw [gR_at hir]; simp only []; rw [txL_len])
      have HFR := Lib.hid (HR1.out.few r (List.mem_of_getElem? hir))
      have HMR := Lib.hid (HR1.out.mx r (List.mem_of_getElem? hir))
      have HTKR := Lib.hid (HTK.out r)
      clear hir hr HA hfit HTK hMA
      obtain ⟨rk, ra, rc, rT⟩ := r
      simp only [] at HAPM HFR HMR HTKR
      obtain ⟨rn, hrn⟩ : ∃ rn, rT.length = rn := ⟨_, rfl⟩
      have HRN := Lib.hid hrn
      rw [hrn] at HTKR
      have HCELL : Hid (∀ w', Below w1.heap.size w1 w' → (w'.cell? ⟨b, i * 2, none⟩ = some (.int .i64 rk) ∧ w'.cell? ⟨b, i * 2 + 1, none⟩ = some (.slice ra rn rc)) ∧ (w'.cell? ⟨w.heap.size, 0, none⟩ = some (.int .i64 k) ∧ w'.cell? ⟨w.heap.size, 1, none⟩ = some (.slice a n c)) ∧ w'.heap[w.heap.size]? = some (.cells #[.int .i64 k, .slice a n c] 41 (0, 0))) := Lib.hid (fun w' hb => by
        have h1 := (HR1.out.below hb).cell HIR.out
        simp only [] at h1
        rw [hrn] at h1
        have h2 := (hb.block w.heap.size (by omega)).trans HNW.out
        exact ⟨h1, ⟨by rw [cell_at h2]; rfl, by rw [cell_at h2]; rfl⟩, h2⟩)
      clear hrn
      go_enter Try.func12, Try.ntmps12
      go_upto_region 1 with fail
      try rw [hw1]
      clear hw1
      obtain ⟨_, ⟨k0, k1⟩, _⟩ := HCELL.out w1 (Below.refl _ _)
      go_wp2_with fail
      refine (HO.out _).mono ?_; rintro e w2 ⟨rfl, hw⟩
      have hw2 := hw.symm
      subst hw2
      clear hw
      go_wp2_with fail
      refine (HFI.out _).mono ?_; rintro e w2 ⟨rfl, hb2⟩
      have HB2 := Lib.hid hb2
      clear hb2 k0 k1
      obtain ⟨⟨q0, q1⟩, ⟨k0, k1⟩, _⟩ := HCELL.out w2 HB2.out
      have hz2 := HB2.out.size
      go_upto_region 6 with fail
      cases hap : apB x with
      | true =>
        rw [hap] at HAP
        have HAP1 := Lib.hid hap
        clear hap
        have HTKW := Lib.hid (fun w' (hb : Below w2.heap.size w2 w') => HTKR.out w')
        have ld0 := fun w' (hb : Below w2.heap.size w2 w') => (HCELL.out w' (HB2.out.trans (hb.mono hz2))).1.1
        have ld1 := fun w' (hb : Below w2.heap.size w2 w') => (HCELL.out w' (HB2.out.trans (hb.mono hz2))).1.2
        have ld2 := fun w' (hb : Below w2.heap.size w2 w') => (HCELL.out w' (HB2.out.trans (hb.mono hz2))).2.1.1
        have ld3 := fun w' (hb : Below w2.heap.size w2 w') => (HCELL.out w' (HB2.out.trans (hb.mono hz2))).2.1.2
        have hb0 : Below w2.heap.size w2 w2.drew := (Below.refl _ w2).drew
        clear q0 q1 k0 k1
        go_region_held3 (fun w' => Below w2.heap.size w2 w') (first | assumption)
          (first
            | (go_at_call 30; refine (HAP.out _).mono ?_; rintro e w3 ⟨rfl, rfl⟩)
            | (go_at_call 31; refine (HTKR.out _).mono ?_; rintro e w3 ⟨rfl, hb3'⟩; have hb3 : Below w2.heap.size w2 w3 := Below.trans (by assumption) (hb3'.mono (Below.size (by assumption))); clear hb3'))
        have HB3 := Lib.hid (by assumption : Below w2.heap.size w2 w3)
        have hz3 := HB3.out.size
        obtain ⟨⟨q0, q1⟩, ⟨k0, k1⟩, hg3⟩ := HCELL.out w3 (HB2.out.trans (HB3.out.mono hz2))
        have HB13 := Lib.hid (HAL.out.trans ((HB2.out.trans (HB3.out.mono hz2)).mono HAL.out.size))
        have HR3 := Lib.hid (HR1.out.below (HB2.out.trans (HB3.out.mono hz2)))
        have HT3 := Lib.hid (HT1.out.below (HB2.out.trans (HB3.out.mono hz2)))
        have HMR3 := Lib.hid (HMR.out.below (HB2.out.trans (HB3.out.mono hz2)))
        have HGL3 : Hid (w.heap.size < w3.heap.size) := Lib.hid (by omega)
        rename_i hhe
        clear ld0 ld1 ld2 ld3 hb0 hb3 hhe HTKW
        cases htk : tkB rk k rn with
        | true =>
          have HTX : Hid (txL (rT ++ T) = MA) := Lib.hid (by
            have h1 := HAPM.out
            rw [HRN.out, HAP1.out, htk, if_pos (by rfl)] at h1
            rw [h1, txL_app])
          have HLEN : Hid ((rT ++ T).length = rn + n) := Lib.hid (by rw [List.length_append, HRN.out, HN.out])
          have HSB : Hid (szM (txL (rT ++ T)) ≤ 1000000) := Lib.hid (by rw [txL_app, szM_app]; have := HTS.out; have := HFR.out.2; omega)
          have HMP : Hid (0 < (rT ++ T).length) := Lib.hid (by rw [HLEN.out]; have := HFT.out.2.2; omega)
          have HLL : Hid (rn ≤ 400 ∧ n ≤ 1000) := Lib.hid ⟨by rw [← HRN.out]; exact HFR.out.1, by rw [← HN.out]; exact HTL.out⟩
          have HCAT : Hid (∀ w', Below w3.heap.size w3 w' → Calls Try.prog 32 #[.slice (some ⟨w'.heap.size, 0, none⟩) 2 2] (w'.alloc (.cells #[.slice ra rn rc, .slice a n c] 26)) fun e w'' => ∃ a4 c4, e = .returned (.slice a4 (rn + n) c4) ∧ Sl w'' a4 c4 ((rT ++ T).map txV) ∧ (∀ d, a4 = some d → w3.heap.size ≤ d.block ∧ d.block < w''.heap.size) ∧ Below w3.heap.size w3 w'') := Lib.hid (fun w' hb => by
            have hal := t_al w' (.cells #[.slice ra rn rc, .slice a n c] 26)
            have hwn := heap_alloc_new w' (.cells #[.slice ra rn rc, .slice a n c] 26)
            have hcat : catP [(ra, rc, rT.map txV), (a, c, T.map txV)] = (rT ++ T).map txV := by unfold catP; simp
            have hb3 : Below w3.heap.size w3 (w'.alloc (.cells #[.slice ra rn rc, .slice a n c] 26)) := hb.trans (hal.mono hb.size)
            have h := concat_mat (w := w'.alloc (.cells #[.slice ra rn rc, .slice a n c] 26)) (b := w'.heap.size) (cc := 2) (ps := [(ra, rc, rT.map txV), (a, c, T.map txV)]) (by simp) (fun j hj => by
              rw [cell_at hwn]
              match j, hj with
              | 0, _ => simp [ptV, HRN.out]
              | 1, _ => simp [ptV, HN.out]) (fun p hp => by
                simp only [List.mem_cons, List.mem_nil_iff, or_false] at hp
                rcases hp with rfl | rfl
                · exact HMR3.out.sl.below hb3
                · exact HT3.out.sl.below hb3) (by rw [hcat, List.length_map, HLEN.out]; have := HLL.out; omega) (by simp)
            refine h.mono ?_
            rintro e w5 ⟨a5, c5, rfl, h1, h2, h3⟩
            rw [hcat] at h1 ⊢
            refine ⟨a5, c5, by rw [List.length_map, HLEN.out], h1, fun d hd => ?_, hb3.trans (h3.mono hb3.size)⟩
            obtain ⟨h4, h5⟩ := h2 d hd
            exact ⟨Nat.le_trans hb3.size h4, h5⟩)
          have zz3 := fun j => unfrozen hg3 j
          have HG3 := Lib.hid hg3
          clear hg3
          have hbr : Below w3.heap.size w3 w3.drew := (Below.refl _ _).drew
          have HGB : Hid (w.heap.size < w3.heap.size) := HGL3
          go_upto_region 7 with fail
          go_region_law (go_simp; go_at_call 32; refine (HCAT.out _ (by first | assumption | exact Below.refl _ _)).mono ?_; rintro e w4 ⟨a4, c4, rfl, hs4, hd4, hb4⟩; have HS4 := Lib.hid hs4; have HD4 := Lib.hid hd4; have HB4 := Lib.hid hb4; have hg4 := (hb4.block w.heap.size HGL3.out).trans HG3.out; have v1 : w4.cell? ⟨w.heap.size, 1, none⟩ = some (.slice a n c) := (by rw [cell_at hg4]; rfl); have vz := fun j => unfrozen hg4 j; have HG4 := Lib.hid hg4; clear hs4 hd4 hb4 hg4)
          all_goals
            have hb4 := HB4.out
            have HM5 : Hid (Mx (w4.setCell ⟨w.heap.size, 1, none⟩ (.slice a4 (rn + n) c4)) 0 (w4.setCell ⟨w.heap.size, 1, none⟩ (.slice a4 (rn + n) c4)).heap.size a4 c4 (rT ++ T)) := Lib.hid (by
              rw [size_set]
              have hg := HGL3.out
              have hz4 := hb4.size
              refine ⟨HS4.out.keep (lo := w.heap.size + 1) (hi := w4.heap.size) (fun d hd => ⟨by have := (HD4.out d hd).1; omega, (HD4.out d hd).2⟩) (Keep.set (Or.inl (by omega))), fun d hd => ⟨Nat.zero_le _, (HD4.out d hd).2⟩, fun p hp => ?_⟩
              rcases List.mem_append.1 hp with hp | hp
              · obtain ⟨m1, m2⟩ := (HMR3.out.below hb4).rd p hp
                have hh := HHI.out
                exact ⟨m1.keep m2 (Keep.set (Or.inr hh)), m2.mono (Nat.zero_le _) (by omega)⟩
              · obtain ⟨m1, m2⟩ := (HT3.out.below hb4).rd p hp
                have hh := HH0.out
                exact ⟨m1.keep m2 (Keep.set (Or.inr hh)), m2.mono (Nat.zero_le _) (by omega)⟩)
            have HR5 : Hid (Rg (w4.setCell ⟨w.heap.size, 1, none⟩ (.slice a4 (rn + n) c4)) t lo hi b R) := Lib.hid ((HR3.out.below hb4).keep (Keep.set (Or.inr HHI.out)) (heap_set_other (by omega)))
            have HB15 : Hid (Below w.heap.size w (w4.setCell ⟨w.heap.size, 1, none⟩ (.slice a4 (rn + n) c4))) := Lib.hid ((HB13.out.trans (hb4.mono HB13.out.size)).setCell (p := ⟨w.heap.size, 1, none⟩) (Nat.le_refl _) _)
            have HGL5 : Hid (w.heap.size < (w4.setCell ⟨w.heap.size, 1, none⟩ (.slice a4 (rn + n) c4)).heap.size) := Lib.hid (by rw [size_set]; exact Nat.lt_of_lt_of_le HGL3.out hb4.size)
            have hg5 := heap_set_at (o := 1) (u := .slice a4 (rn + n) c4) HG4.out
            have HUC : Hid ((w4.setCell ⟨w.heap.size, 1, none⟩ (.slice a4 (rn + n) c4)).cell? ⟨w.heap.size, 0, none⟩ = some (.int .i64 k) ∧ (w4.setCell ⟨w.heap.size, 1, none⟩ (.slice a4 (rn + n) c4)).cell? ⟨w.heap.size, 1, none⟩ = some (.slice a4 (rT ++ T).length c4)) := Lib.hid ⟨by rw [cell_at hg5]; rfl, by rw [cell_at hg5, HLEN.out]; rfl⟩
            generalize w4.setCell ⟨w.heap.size, 1, none⟩ (.slice a4 (rn + n) c4) = w5 at *
            clear hb4 hg5 v1 vz q0 q1 k0 k1 zz3 hbr
            generalize rT ++ T = T4 at *
            by_cases h4 : 400 < T4.length
            · have HS : Hid (SS = (6, sem R)) := Lib.hid (by rw [HSE.out, if_pos (Or.inl (by rw [← HTX.out, txL_len]; exact h4))])
              have d4 : decide ((400 : Int) < (T4.length : Int)) = true := decide_eq_true (by omega)
              obtain ⟨u0, u1⟩ := HUC.out
              generalize T4.length = mt at *
              go_wp2_with fail
              go_ret
              exact ⟨by rw [HS.out] <;> rfl, R, by rw [HS.out], HR5.out.mono HR5.out.hi_ (Nat.le_refl _), Only.of_below HB15.out HBLT.out⟩
            · have d4 : decide ((400 : Int) < (T4.length : Int)) = false := decide_eq_false (by omega)
              obtain ⟨u0, u1⟩ := HUC.out
              have HSZ := Lib.hid (size_of k HM5.out HSB.out (by omega))
              have HCO := Lib.hid (fun (w' : World) (hb : Below w5.heap.size w5 w') => And.intro (And.intro ((hb.cell (p := ⟨w.heap.size, 0, none⟩) HGL5.out).trans u0) ((hb.cell (p := ⟨w.heap.size, 1, none⟩) HGL5.out).trans u1)) (copied_of k (HM5.out.below hb) (by have := HMP.out; omega) (by omega) (thin_of HSB.out)))
              have h4' := Lib.hid h4
              unfold rgV at HSZ HCO
              unfold CpPost rgV at HCO
              have HTN : Hid (szM (txL T4) = szM (MA)) := Lib.hid (by rw [HTX.out])
              obtain ⟨z, hz⟩ : ∃ z, szM (txL T4) = z := ⟨_, rfl⟩
              have HZ := Lib.hid hz
              rw [hz] at HSZ
              clear hz
              obtain ⟨mt, hmt⟩ : ∃ mt, T4.length = mt := ⟨_, rfl⟩
              have HMT := Lib.hid hmt
              rw [hmt] at HSZ HCO u1 d4
              clear hmt h4
              by_cases h5 : 4096 < z
              · have HS : Hid (SS = (6, sem R)) := Lib.hid (by rw [HSE.out, if_pos (Or.inr (by rw [← HTN.out, HZ.out]; exact h5))])
                have d5 : decide ((4096 : Int) < (z : Int)) = true := decide_eq_true (by omega)
                go_wp2_with fail
                refine HSZ.out.mono ?_; rintro e wp ⟨rfl, hbp⟩
                have HBP := Lib.hid hbp
                clear hbp HCO
                go_wp2_with fail
                go_ret
                exact ⟨by rw [HS.out] <;> rfl, R, by rw [HS.out], (HR5.out.below HBP.out).mono (Nat.le_trans HR5.out.hi_ HBP.out.size) (Nat.le_refl _), Only.of_below (HB15.out.trans (HBP.out.mono HB15.out.size)) HBLT.out⟩
              · have HS : Hid (SS = (0, ((sem R).set i (k, MA)).set 26 (k, MA))) := Lib.hid (by rw [HSE.out, if_neg (by rw [← HTN.out, HZ.out, ← HTX.out, txL_len]; have := h4'.out; omega)])
                have d5 : decide ((4096 : Int) < (z : Int)) = false := decide_eq_false (by omega)
                have HZ5 := Lib.hid h5
                clear h5
                go_wp2_with fail
                refine HSZ.out.mono ?_; rintro e wp ⟨rfl, hbp⟩
                obtain ⟨⟨v0, v1⟩, hco⟩ := HCO.out wp hbp
                have HCP := Lib.hid hco
                have HRP := Lib.hid (HR5.out.below hbp)
                have HBP := Lib.hid (HB15.out.trans (hbp.mono HB15.out.size))
                clear hbp HCO u0 u1 hco
                go_wp2_with fail
                refine HCP.out.mono ?_; rintro e w6 ⟨a6, c6, T6, hl6, ht6, rfl, hm6, hb6⟩
                have hr6 := (HRP.out.below hb6).mono (Nat.le_trans HRP.out.hi_ hb6.size) (Nat.le_refl _)
                have HR6 : Hid (Rg w6 t lo w6.heap.size b R) := Lib.hid hr6
                have HB6 := Lib.hid (HBP.out.trans (hb6.mono HBP.out.size))
                have HM6 : Hid (Mx w6 lo w6.heap.size a6 c6 T6) := Lib.hid (hm6.1.mono (by have h1 := HRP.out.hi_; have h2 := HLO.out; have h3 := HBP.out.size; omega) (Nat.le_refl _))
                have HL6 : Hid (T6.length = mt ∧ txL T6 = MA) := Lib.hid ⟨hl6, ht6.trans HTX.out⟩
                have HF6 : Hid (T6.length ≤ 400 ∧ szM (txL T6) ≤ 4096) := Lib.hid ⟨by rw [hl6, ← HMT.out]; have := h4'.out; omega, by rw [ht6, HZ.out]; have := HZ5.out; omega⟩
                obtain ⟨s0, s1⟩ := hr6.cell HIR.out
                have zz := fun j => unfrozen hr6.obj j
                clear hl6 ht6 hm6 hb6 hr6 v0 v1 HCP HSZ
                go_upto_region 11 with fail
                have HP7 : Hid (Rg (set2 w6 b (i * 2) (.int .i64 k) (.slice a6 mt c6)) t lo w6.heap.size b (R.set i ⟨k, a6, c6, T6⟩)) := Lib.hid (by
                  have := HR6.out.put (i := i) (r := ⟨k, a6, c6, T6⟩) HM6.out HF6.out
                  simp only [HL6.out.1] at this
                  exact this)
                have HO7 : Hid (Only b w (set2 w6 b (i * 2) (.int .i64 k) (.slice a6 mt c6))) := Lib.hid ((Only.of_below HB6.out HBLT.out).trans (Only.set2 (Nat.le_of_lt HR6.out.lt)))
                have HM7 : Hid (Mx (set2 w6 b (i * 2) (.int .i64 k) (.slice a6 mt c6)) lo w6.heap.size a6 c6 T6) := Lib.hid (HM6.out.keep (set2_keep (Or.inl HR6.out.bl)))
                have hs7 : (set2 w6 b (i * 2) (.int .i64 k) (.slice a6 mt c6)).heap.size = w6.heap.size := set2_size _ _ _ _ _
                rw [show (w6.setCell ⟨b, i * 2, none⟩ (.int .i64 k)).setCell ⟨b, i * 2 + 1, none⟩ (.slice a6 mt c6) = set2 w6 b (i * 2) (.int .i64 k) (.slice a6 mt c6) from rfl]
                generalize set2 w6 b (i * 2) (.int .i64 k) (.slice a6 mt c6) = w7 at *
                have hir7 : (R.set i ⟨k, a6, c6, T6⟩)[i]? = some ⟨k, a6, c6, T6⟩ := by rw [List.getElem?_set_self (by rw [HR6.out.len]; exact HI.out)]
                obtain ⟨p0, p1⟩ := HP7.out.cell hir7
                simp only [HL6.out.1] at p0 p1
                obtain ⟨r26, h26⟩ := HP7.out.get (i := 26) (by omega)
                obtain ⟨n0, n1⟩ := HP7.out.cell h26
                have zz7 := fun j => unfrozen HP7.out.obj j
                clear s0 s1 zz hir7 h26
                go_upto_region 12 with fail
                have HP8 : Hid (Rg (set2 w7 b (26 * 2) (.int .i64 k) (.slice a6 mt c6)) t lo w6.heap.size b ((R.set i ⟨k, a6, c6, T6⟩).set 26 ⟨k, a6, c6, T6⟩)) := Lib.hid (by
                  have := HP7.out.put (i := 26) (r := ⟨k, a6, c6, T6⟩) HM7.out HF6.out
                  simp only [HL6.out.1] at this
                  exact this)
                have HO8 : Hid (Only b w (set2 w7 b (26 * 2) (.int .i64 k) (.slice a6 mt c6))) := Lib.hid (HO7.out.trans (Only.set2 (Nat.le_of_lt HP7.out.lt)))
                have hs8 : (set2 w7 b (26 * 2) (.int .i64 k) (.slice a6 mt c6)).heap.size = w6.heap.size := by rw [set2_size]; exact hs7
                rw [show (w7.setCell ⟨b, 52, none⟩ (.int .i64 k)).setCell ⟨b, 53, none⟩ (.slice a6 mt c6) = set2 w7 b (26 * 2) (.int .i64 k) (.slice a6 mt c6) from rfl]
                generalize set2 w7 b (26 * 2) (.int .i64 k) (.slice a6 mt c6) = w8 at *
                clear n0 n1 p0 p1 zz7
                go_wp2_with fail
                go_ret
                exact ⟨by rw [HS.out] <;> rfl, (R.set i ⟨k, a6, c6, T6⟩).set 26 ⟨k, a6, c6, T6⟩, by rw [HS.out, sem_set, sem_set, HL6.out.2], by rw [hs8]; exact HP8.out, HO8.out⟩
        | false =>
          have HTX : Hid (txL T = MA) := Lib.hid (by
            have h1 := HAPM.out
            rw [HRN.out, HAP1.out, htk, if_neg (by simp)] at h1
            exact h1.symm)
          have HSB : Hid (szM (txL T) ≤ 1000000) := Lib.hid (by have := HTS.out; omega)
          have HMP : Hid (0 < T.length) := Lib.hid (by rw [HN.out]; exact HFT.out.2.2)
          have HUC : Hid (w3.cell? ⟨w.heap.size, 0, none⟩ = some (.int .i64 k) ∧ w3.cell? ⟨w.heap.size, 1, none⟩ = some (.slice a T.length c)) := Lib.hid ⟨k0, by rw [HN.out]; exact k1⟩
          clear k0 k1 q0 q1 hg3 htk
          by_cases h4 : 400 < T.length
          · have HS : Hid (SS = (6, sem R)) := Lib.hid (by rw [HSE.out, if_pos (Or.inl (by rw [← HTX.out, txL_len]; exact h4))])
            have d4 : decide ((400 : Int) < (T.length : Int)) = true := decide_eq_true (by omega)
            obtain ⟨u0, u1⟩ := HUC.out
            generalize T.length = mt at *
            go_wp2_with fail
            go_ret
            exact ⟨by rw [HS.out] <;> rfl, R, by rw [HS.out], HR3.out.mono HR3.out.hi_ (Nat.le_refl _), Only.of_below HB13.out HBLT.out⟩
          · have d4 : decide ((400 : Int) < (T.length : Int)) = false := decide_eq_false (by omega)
            obtain ⟨u0, u1⟩ := HUC.out
            have HSZ := Lib.hid (size_of k HT3.out HSB.out (by omega))
            have HCO := Lib.hid (fun (w' : World) (hb : Below w3.heap.size w3 w') => And.intro (And.intro ((hb.cell (p := ⟨w.heap.size, 0, none⟩) HGL3.out).trans u0) ((hb.cell (p := ⟨w.heap.size, 1, none⟩) HGL3.out).trans u1)) (copied_of k (HT3.out.below hb) (by have := HMP.out; omega) (by omega) (thin_of HSB.out)))
            have h4' := Lib.hid h4
            unfold rgV at HSZ HCO
            unfold CpPost rgV at HCO
            have HTN : Hid (szM (txL T) = szM (MA)) := Lib.hid (by rw [HTX.out])
            obtain ⟨z, hz⟩ : ∃ z, szM (txL T) = z := ⟨_, rfl⟩
            have HZ := Lib.hid hz
            rw [hz] at HSZ
            clear hz
            obtain ⟨mt, hmt⟩ : ∃ mt, T.length = mt := ⟨_, rfl⟩
            have HMT := Lib.hid hmt
            rw [hmt] at HSZ HCO u1 d4
            clear hmt h4
            by_cases h5 : 4096 < z
            · have HS : Hid (SS = (6, sem R)) := Lib.hid (by rw [HSE.out, if_pos (Or.inr (by rw [← HTN.out, HZ.out]; exact h5))])
              have d5 : decide ((4096 : Int) < (z : Int)) = true := decide_eq_true (by omega)
              go_wp2_with fail
              refine HSZ.out.mono ?_; rintro e wp ⟨rfl, hbp⟩
              have HBP := Lib.hid hbp
              clear hbp HCO
              go_wp2_with fail
              go_ret
              exact ⟨by rw [HS.out] <;> rfl, R, by rw [HS.out], (HR3.out.below HBP.out).mono (Nat.le_trans HR3.out.hi_ HBP.out.size) (Nat.le_refl _), Only.of_below (HB13.out.trans (HBP.out.mono HB13.out.size)) HBLT.out⟩
            · have HS : Hid (SS = (0, ((sem R).set i (k, MA)).set 26 (k, MA))) := Lib.hid (by rw [HSE.out, if_neg (by rw [← HTN.out, HZ.out, ← HTX.out, txL_len]; have := h4'.out; omega)])
              have d5 : decide ((4096 : Int) < (z : Int)) = false := decide_eq_false (by omega)
              have HZ5 := Lib.hid h5
              clear h5
              go_wp2_with fail
              refine HSZ.out.mono ?_; rintro e wp ⟨rfl, hbp⟩
              obtain ⟨⟨v0, v1⟩, hco⟩ := HCO.out wp hbp
              have HCP := Lib.hid hco
              have HRP := Lib.hid (HR3.out.below hbp)
              have HBP := Lib.hid (HB13.out.trans (hbp.mono HB13.out.size))
              clear hbp HCO u0 u1 hco
              go_wp2_with fail
              refine HCP.out.mono ?_; rintro e w6 ⟨a6, c6, T6, hl6, ht6, rfl, hm6, hb6⟩
              have hr6 := (HRP.out.below hb6).mono (Nat.le_trans HRP.out.hi_ hb6.size) (Nat.le_refl _)
              have HR6 : Hid (Rg w6 t lo w6.heap.size b R) := Lib.hid hr6
              have HB6 := Lib.hid (HBP.out.trans (hb6.mono HBP.out.size))
              have HM6 : Hid (Mx w6 lo w6.heap.size a6 c6 T6) := Lib.hid (hm6.1.mono (by have h1 := HRP.out.hi_; have h2 := HLO.out; have h3 := HBP.out.size; omega) (Nat.le_refl _))
              have HL6 : Hid (T6.length = mt ∧ txL T6 = MA) := Lib.hid ⟨hl6, ht6.trans HTX.out⟩
              have HF6 : Hid (T6.length ≤ 400 ∧ szM (txL T6) ≤ 4096) := Lib.hid ⟨by rw [hl6, ← HMT.out]; have := h4'.out; omega, by rw [ht6, HZ.out]; have := HZ5.out; omega⟩
              obtain ⟨s0, s1⟩ := hr6.cell HIR.out
              have zz := fun j => unfrozen hr6.obj j
              clear hl6 ht6 hm6 hb6 hr6 v0 v1 HCP HSZ
              go_upto_region 11 with fail
              have HP7 : Hid (Rg (set2 w6 b (i * 2) (.int .i64 k) (.slice a6 mt c6)) t lo w6.heap.size b (R.set i ⟨k, a6, c6, T6⟩)) := Lib.hid (by
                have := HR6.out.put (i := i) (r := ⟨k, a6, c6, T6⟩) HM6.out HF6.out
                simp only [HL6.out.1] at this
                exact this)
              have HO7 : Hid (Only b w (set2 w6 b (i * 2) (.int .i64 k) (.slice a6 mt c6))) := Lib.hid ((Only.of_below HB6.out HBLT.out).trans (Only.set2 (Nat.le_of_lt HR6.out.lt)))
              have HM7 : Hid (Mx (set2 w6 b (i * 2) (.int .i64 k) (.slice a6 mt c6)) lo w6.heap.size a6 c6 T6) := Lib.hid (HM6.out.keep (set2_keep (Or.inl HR6.out.bl)))
              have hs7 : (set2 w6 b (i * 2) (.int .i64 k) (.slice a6 mt c6)).heap.size = w6.heap.size := set2_size _ _ _ _ _
              rw [show (w6.setCell ⟨b, i * 2, none⟩ (.int .i64 k)).setCell ⟨b, i * 2 + 1, none⟩ (.slice a6 mt c6) = set2 w6 b (i * 2) (.int .i64 k) (.slice a6 mt c6) from rfl]
              generalize set2 w6 b (i * 2) (.int .i64 k) (.slice a6 mt c6) = w7 at *
              have hir7 : (R.set i ⟨k, a6, c6, T6⟩)[i]? = some ⟨k, a6, c6, T6⟩ := by rw [List.getElem?_set_self (by rw [HR6.out.len]; exact HI.out)]
              obtain ⟨p0, p1⟩ := HP7.out.cell hir7
              simp only [HL6.out.1] at p0 p1
              obtain ⟨r26, h26⟩ := HP7.out.get (i := 26) (by omega)
              obtain ⟨n0, n1⟩ := HP7.out.cell h26
              have zz7 := fun j => unfrozen HP7.out.obj j
              clear s0 s1 zz hir7 h26
              go_upto_region 12 with fail
              have HP8 : Hid (Rg (set2 w7 b (26 * 2) (.int .i64 k) (.slice a6 mt c6)) t lo w6.heap.size b ((R.set i ⟨k, a6, c6, T6⟩).set 26 ⟨k, a6, c6, T6⟩)) := Lib.hid (by
                have := HP7.out.put (i := 26) (r := ⟨k, a6, c6, T6⟩) HM7.out HF6.out
                simp only [HL6.out.1] at this
                exact this)
              have HO8 : Hid (Only b w (set2 w7 b (26 * 2) (.int .i64 k) (.slice a6 mt c6))) := Lib.hid (HO7.out.trans (Only.set2 (Nat.le_of_lt HP7.out.lt)))
              have hs8 : (set2 w7 b (26 * 2) (.int .i64 k) (.slice a6 mt c6)).heap.size = w6.heap.size := by rw [set2_size]; exact hs7
              rw [show (w7.setCell ⟨b, 52, none⟩ (.int .i64 k)).setCell ⟨b, 53, none⟩ (.slice a6 mt c6) = set2 w7 b (26 * 2) (.int .i64 k) (.slice a6 mt c6) from rfl]
              generalize set2 w7 b (26 * 2) (.int .i64 k) (.slice a6 mt c6) = w8 at *
              clear n0 n1 p0 p1 zz7
              go_wp2_with fail
              go_ret
              exact ⟨by rw [HS.out] <;> rfl, (R.set i ⟨k, a6, c6, T6⟩).set 26 ⟨k, a6, c6, T6⟩, by rw [HS.out, sem_set, sem_set, HL6.out.2], by rw [hs8]; exact HP8.out, HO8.out⟩
      | false =>
        rw [hap] at HAP
        have HAP1 := Lib.hid hap
        clear hap
        have ld0 := fun w' (hb : Below w2.heap.size w2 w') => (HCELL.out w' (HB2.out.trans (hb.mono hz2))).1.1
        have ld1 := fun w' (hb : Below w2.heap.size w2 w') => (HCELL.out w' (HB2.out.trans (hb.mono hz2))).1.2
        have ld2 := fun w' (hb : Below w2.heap.size w2 w') => (HCELL.out w' (HB2.out.trans (hb.mono hz2))).2.1.1
        have ld3 := fun w' (hb : Below w2.heap.size w2 w') => (HCELL.out w' (HB2.out.trans (hb.mono hz2))).2.1.2
        have hb0 : Below w2.heap.size w2 w2.drew := (Below.refl _ w2).drew
        clear q0 q1 k0 k1
        have HAPQ : Hid (∀ v : World, Calls Try.prog 30 #[.int .i64 x] v fun e w' => e = .returned (.bool false) ∧ w' = v) := Lib.hid (fun v => (HAP.out v).mono fun e w' h => ⟨h.1, h.2.symm⟩)
        go_quiet ((go_at_call 30; exact Calls.quiet_of_same (HAPQ.out _)))
        have hb3 : Below w2.heap.size w2 (w2.drewN nq) := Below.draws _ _
        generalize w2.drewN nq = w3 at *
        have HB3 := Lib.hid hb3
        have hz3 := HB3.out.size
        obtain ⟨⟨q0, q1⟩, ⟨k0, k1⟩, hg3⟩ := HCELL.out w3 (HB2.out.trans (HB3.out.mono hz2))
        have HB13 := Lib.hid (HAL.out.trans ((HB2.out.trans (HB3.out.mono hz2)).mono HAL.out.size))
        have HR3 := Lib.hid (HR1.out.below (HB2.out.trans (HB3.out.mono hz2)))
        have HT3 := Lib.hid (HT1.out.below (HB2.out.trans (HB3.out.mono hz2)))
        have HGL3 : Hid (w.heap.size < w3.heap.size) := Lib.hid (by omega)
        clear ld0 ld1 ld2 ld3 hb0 hb3
        have HTX : Hid (txL T = MA) := Lib.hid (by
          have h1 := HAPM.out
          rw [HAP1.out, if_neg (by simp)] at h1
          exact h1.symm)
        have HSB : Hid (szM (txL T) ≤ 1000000) := Lib.hid (by have := HTS.out; omega)
        have HMP : Hid (0 < T.length) := Lib.hid (by rw [HN.out]; exact HFT.out.2.2)
        have HUC : Hid (w3.cell? ⟨w.heap.size, 0, none⟩ = some (.int .i64 k) ∧ w3.cell? ⟨w.heap.size, 1, none⟩ = some (.slice a T.length c)) := Lib.hid ⟨k0, by rw [HN.out]; exact k1⟩
        clear k0 k1 q0 q1 hg3
        by_cases h4 : 400 < T.length
        · have HS : Hid (SS = (6, sem R)) := Lib.hid (by rw [HSE.out, if_pos (Or.inl (by rw [← HTX.out, txL_len]; exact h4))])
          have d4 : decide ((400 : Int) < (T.length : Int)) = true := decide_eq_true (by omega)
          obtain ⟨u0, u1⟩ := HUC.out
          generalize T.length = mt at *
          go_wp2_with fail
          go_ret
          exact ⟨by rw [HS.out] <;> rfl, R, by rw [HS.out], HR3.out.mono HR3.out.hi_ (Nat.le_refl _), Only.of_below HB13.out HBLT.out⟩
        · have d4 : decide ((400 : Int) < (T.length : Int)) = false := decide_eq_false (by omega)
          obtain ⟨u0, u1⟩ := HUC.out
          have HSZ := Lib.hid (size_of k HT3.out HSB.out (by omega))
          have HCO := Lib.hid (fun (w' : World) (hb : Below w3.heap.size w3 w') => And.intro (And.intro ((hb.cell (p := ⟨w.heap.size, 0, none⟩) HGL3.out).trans u0) ((hb.cell (p := ⟨w.heap.size, 1, none⟩) HGL3.out).trans u1)) (copied_of k (HT3.out.below hb) (by have := HMP.out; omega) (by omega) (thin_of HSB.out)))
          have h4' := Lib.hid h4
          unfold rgV at HSZ HCO
          unfold CpPost rgV at HCO
          have HTN : Hid (szM (txL T) = szM (MA)) := Lib.hid (by rw [HTX.out])
          obtain ⟨z, hz⟩ : ∃ z, szM (txL T) = z := ⟨_, rfl⟩
          have HZ := Lib.hid hz
          rw [hz] at HSZ
          clear hz
          obtain ⟨mt, hmt⟩ : ∃ mt, T.length = mt := ⟨_, rfl⟩
          have HMT := Lib.hid hmt
          rw [hmt] at HSZ HCO u1 d4
          clear hmt h4
          by_cases h5 : 4096 < z
          · have HS : Hid (SS = (6, sem R)) := Lib.hid (by rw [HSE.out, if_pos (Or.inr (by rw [← HTN.out, HZ.out]; exact h5))])
            have d5 : decide ((4096 : Int) < (z : Int)) = true := decide_eq_true (by omega)
            go_wp2_with fail
            refine HSZ.out.mono ?_; rintro e wp ⟨rfl, hbp⟩
            have HBP := Lib.hid hbp
            clear hbp HCO
            go_wp2_with fail
            go_ret
            exact ⟨by rw [HS.out] <;> rfl, R, by rw [HS.out], (HR3.out.below HBP.out).mono (Nat.le_trans HR3.out.hi_ HBP.out.size) (Nat.le_refl _), Only.of_below (HB13.out.trans (HBP.out.mono HB13.out.size)) HBLT.out⟩
          · have HS : Hid (SS = (0, ((sem R).set i (k, MA)).set 26 (k, MA))) := Lib.hid (by rw [HSE.out, if_neg (by rw [← HTN.out, HZ.out, ← HTX.out, txL_len]; have := h4'.out; omega)])
            have d5 : decide ((4096 : Int) < (z : Int)) = false := decide_eq_false (by omega)
            have HZ5 := Lib.hid h5
            clear h5
            go_wp2_with fail
            refine HSZ.out.mono ?_; rintro e wp ⟨rfl, hbp⟩
            obtain ⟨⟨v0, v1⟩, hco⟩ := HCO.out wp hbp
            have HCP := Lib.hid hco
            have HRP := Lib.hid (HR3.out.below hbp)
            have HBP := Lib.hid (HB13.out.trans (hbp.mono HB13.out.size))
            clear hbp HCO u0 u1 hco
            go_wp2_with fail
            refine HCP.out.mono ?_; rintro e w6 ⟨a6, c6, T6, hl6, ht6, rfl, hm6, hb6⟩
            have hr6 := (HRP.out.below hb6).mono (Nat.le_trans HRP.out.hi_ hb6.size) (Nat.le_refl _)
            have HR6 : Hid (Rg w6 t lo w6.heap.size b R) := Lib.hid hr6
            have HB6 := Lib.hid (HBP.out.trans (hb6.mono HBP.out.size))
            have HM6 : Hid (Mx w6 lo w6.heap.size a6 c6 T6) := Lib.hid (hm6.1.mono (by have h1 := HRP.out.hi_; have h2 := HLO.out; have h3 := HBP.out.size; omega) (Nat.le_refl _))
            have HL6 : Hid (T6.length = mt ∧ txL T6 = MA) := Lib.hid ⟨hl6, ht6.trans HTX.out⟩
            have HF6 : Hid (T6.length ≤ 400 ∧ szM (txL T6) ≤ 4096) := Lib.hid ⟨by rw [hl6, ← HMT.out]; have := h4'.out; omega, by rw [ht6, HZ.out]; have := HZ5.out; omega⟩
            obtain ⟨s0, s1⟩ := hr6.cell HIR.out
            have zz := fun j => unfrozen hr6.obj j
            clear hl6 ht6 hm6 hb6 hr6 v0 v1 HCP HSZ
            go_upto_region 11 with fail
            have HP7 : Hid (Rg (set2 w6 b (i * 2) (.int .i64 k) (.slice a6 mt c6)) t lo w6.heap.size b (R.set i ⟨k, a6, c6, T6⟩)) := Lib.hid (by
              have := HR6.out.put (i := i) (r := ⟨k, a6, c6, T6⟩) HM6.out HF6.out
              simp only [HL6.out.1] at this
              exact this)
            have HO7 : Hid (Only b w (set2 w6 b (i * 2) (.int .i64 k) (.slice a6 mt c6))) := Lib.hid ((Only.of_below HB6.out HBLT.out).trans (Only.set2 (Nat.le_of_lt HR6.out.lt)))
            have HM7 : Hid (Mx (set2 w6 b (i * 2) (.int .i64 k) (.slice a6 mt c6)) lo w6.heap.size a6 c6 T6) := Lib.hid (HM6.out.keep (set2_keep (Or.inl HR6.out.bl)))
            have hs7 : (set2 w6 b (i * 2) (.int .i64 k) (.slice a6 mt c6)).heap.size = w6.heap.size := set2_size _ _ _ _ _
            rw [show (w6.setCell ⟨b, i * 2, none⟩ (.int .i64 k)).setCell ⟨b, i * 2 + 1, none⟩ (.slice a6 mt c6) = set2 w6 b (i * 2) (.int .i64 k) (.slice a6 mt c6) from rfl]
            generalize set2 w6 b (i * 2) (.int .i64 k) (.slice a6 mt c6) = w7 at *
            have hir7 : (R.set i ⟨k, a6, c6, T6⟩)[i]? = some ⟨k, a6, c6, T6⟩ := by rw [List.getElem?_set_self (by rw [HR6.out.len]; exact HI.out)]
            obtain ⟨p0, p1⟩ := HP7.out.cell hir7
            simp only [HL6.out.1] at p0 p1
            obtain ⟨r26, h26⟩ := HP7.out.get (i := 26) (by omega)
            obtain ⟨n0, n1⟩ := HP7.out.cell h26
            have zz7 := fun j => unfrozen HP7.out.obj j
            clear s0 s1 zz hir7 h26
            go_upto_region 12 with fail
            have HP8 : Hid (Rg (set2 w7 b (26 * 2) (.int .i64 k) (.slice a6 mt c6)) t lo w6.heap.size b ((R.set i ⟨k, a6, c6, T6⟩).set 26 ⟨k, a6, c6, T6⟩)) := Lib.hid (by
              have := HP7.out.put (i := 26) (r := ⟨k, a6, c6, T6⟩) HM7.out HF6.out
              simp only [HL6.out.1] at this
              exact this)
            have HO8 : Hid (Only b w (set2 w7 b (26 * 2) (.int .i64 k) (.slice a6 mt c6))) := Lib.hid (HO7.out.trans (Only.set2 (Nat.le_of_lt HP7.out.lt)))
            have hs8 : (set2 w7 b (26 * 2) (.int .i64 k) (.slice a6 mt c6)).heap.size = w6.heap.size := by rw [set2_size]; exact hs7
            rw [show (w7.setCell ⟨b, 52, none⟩ (.int .i64 k)).setCell ⟨b, 53, none⟩ (.slice a6 mt c6) = set2 w7 b (26 * 2) (.int .i64 k) (.slice a6 mt c6) from rfl]
            generalize set2 w7 b (26 * 2) (.int .i64 k) (.slice a6 mt c6) = w8 at *
            clear n0 n1 p0 p1 zz7
            go_wp2_with fail
            go_ret
            exact ⟨by rw [HS.out] <;> rfl, (R.set i ⟨k, a6, c6, T6⟩).set 26 ⟨k, a6, c6, T6⟩, by rw [HS.out, sem_set, sem_set, HL6.out.2], by rw [hs8]; exact HP8.out, HO8.out⟩
    · have HS : Hid (SS = (1, sem R)) := Lib.hid (by rw [← HSS.out]; unfold setS; rw [hr]; simp only []; rw [if_neg (by rw [txL_len, HN.out]; exact hfit)])
      rw [decide_eq_false hfit] at HFI
      have k0 : w1.cell? ⟨w.heap.size, 0, none⟩ = some (.int .i64 k) := by rw [cell_at HNW.out]; rfl
      have k1 : w1.cell? ⟨w.heap.size, 1, none⟩ = some (.slice a n c) := by rw [cell_at HNW.out]; rfl
      clear hr HA HTK HAP hfit
      go_enter Try.func12, Try.ntmps12
      go_upto_region 1 with fail
      try rw [hw1]
      clear hw1
      go_wp2_with fail
      refine (HO.out _).mono ?_; rintro e w2 ⟨rfl, hw⟩
      have hw2 := hw.symm
      subst hw2
      clear hw
      go_wp2_with fail
      refine (HFI.out _).mono ?_; rintro e w2 ⟨rfl, hb2⟩
      have HB2 := Lib.hid hb2
      clear hb2 k0 k1
      go_wp2_with fail
      go_ret
      exact ⟨by rw [HS.out] <;> rfl, R, by rw [HS.out], (HR1.out.below HB2.out).mono (Nat.le_trans HR1.out.hi_ HB2.out.size) (Nat.le_refl _), Only.of_below (HAL.out.trans (HB2.out.mono HAL.out.size)) HBLT.out⟩

end Go.Proofs.Yteipnllefifgiaa
