/-
  The document's Set of registers; at this seat's numbers.
-/
import Derived.Test.YteipnllefifgiaaRgT
import Derived.Deep.RegionHeld3
namespace Go.Proofs.Yteipnllefifgiaa
open Go Go.RowKit
set_option linter.unusedVariables false

theorem apB_letter {x : Int} (h : 0 ≤ letK x) : apB x = decide (x < 97) := by
  unfold apB letK at *
  rw [decide_eq_decide]
  split at h <;> first | omega | (split at h <;> omega)
/-- What stands ahead: of a letter's register, as the document asks. -/
theorem appM_doc {S : List RV} {i : Nat} {x k : Int} {M : List (List ByteArray)} (hx : 0 ≤ letK x) (hk : 0 ≤ k ∧ k ≤ 2) : appM S i x k M = if x < 97 ∧ (gR S i).1 = k ∧ k < 2 then (gR S i).2 ++ M else M := by
  unfold appM tkB
  rw [apB_letter hx]
  by_cases h1 : x < 97 ∧ (gR S i).1 = k ∧ k < 2
  · rw [if_pos h1]
    by_cases h2 : 0 < (gR S i).2.length
    · rw [if_pos (by simp only [Bool.and_eq_true, decide_eq_true_eq]; exact ⟨h1.1, h2, h1.2.1, by omega⟩)]
    · rw [if_neg (by simp only [Bool.and_eq_true, decide_eq_true_eq]; exact fun h => h2 h.2.1)]
      have : (gR S i).2 = [] := List.eq_nil_of_length_eq_zero (by omega)
      rw [this]; rfl
  · rw [if_neg h1, if_neg (by simp only [Bool.and_eq_true, decide_eq_true_eq]; exact fun h => h1 ⟨h.1, h.2.2.1, by have := h.2.2.2; have := h.2.2.1; omega⟩)]
/-- What is appended to so far: a list in a box of its own. -/
structure YI (wy : World) (g2 : Nat) (k : Int) (a8 : Option Addr) (c8 q : Nat) (U : List TxM) (wr : World) : Prop where
  box : wr.heap[g2]? = some (.cells #[.int .i64 k, .slice a8 q c8] 28 (0, 0))
  own : wr.ownsRow wy.heap.size 61 1 (.slice a8 q c8) q (U.map txV)
  only : Only g2 wy wr
theorem app_low {N : Nat} {wr wB : World} {e : TypeId} {sz n : Nat} {v : Value} {xs : List Value} {o : Obj} (hN : N ≤ wr.heap.size) (ho : wr.ownsRow N e sz v n xs) (hg : (wr.alloc o).grownBy wB v.ownBlock) : Below N wr wB :=
  ((Below.refl N wr).alloc hN o).grown hg (by simp only [World.size_alloc]; omega) (fun q hq => (ho.lt q hq).1)
theorem YI.step {wy wr wB : World} {g2 : Nat} {k : Int} {a8 aN : Option Addr} {c8 cN q : Nat} {U : List TxM} {p : TxM} {o : Obj} (h : YI wy g2 k a8 c8 q U wr) (hg2 : g2 < wy.heap.size) (ho : wB.ownsRow wy.heap.size 61 1 (.slice aN (q + 1) cN) (q + 1) (U.map txV ++ [txV p])) (hg : (wr.alloc o).grownBy wB (Value.slice a8 q c8).ownBlock) :
    wB.heap[g2]? = some (.cells #[.int .i64 k, .slice a8 q c8] 28 (0, 0)) ∧ YI wy g2 k aN cN (q + 1) (U ++ [p]) (wB.setCell ⟨g2, 1, none⟩ (.slice aN (q + 1) cN)) := by
  have hl := app_low h.only.size h.own hg
  have hb := (hl.block g2 hg2).trans h.box
  refine ⟨hb, by rw [heap_set_at hb]; rfl, ?_, ?_⟩
  · rw [List.map_append]
    exact own_set ho (fun e => by have := (ho.lt g2 e).1; omega)
  · refine ⟨?_, by rw [size_set]; exact Nat.le_trans h.only.size (by have := hg.size; simp only [World.size_alloc] at this; omega), fun m hm hne => ?_⟩
    · exact (h.only.low.trans (hl.mono (Nat.le_of_lt hg2))).setCell (p := ⟨g2, 1, none⟩) (Nat.le_refl _) _
    · rw [heap_set_other hne, hl.block m hm]; exact h.only.oth m hm hne
theorem appM_last {S : List RV} {k : Int} {M : List (List ByteArray)} : appM S 26 0 k M = M := by unfold appM; rw [if_neg (by simp [apB])]

set_option maxRecDepth 100000 in
set_option maxHeartbeats 8000000 in
theorem rset_none {w : World} {lo hi b lo1 hi1 : Nat} {R : List Rv} (H : Rg w 31 lo hi b R) (x k : Int) {a : Option Addr} {c : Nat} {T : List TxM} (hlo : lo ≤ w.heap.size) (HT : Mx w lo1 hi1 a c T) (hl1 : lo ≤ lo1) (hh1 : hi1 ≤ w.heap.size) (hn : T.length ≤ 1000) (hs : szM (txL T) ≤ 100000) (hr : regI x = none) :
    Calls Try.prog 23 #[.pointer (some ⟨b, 0, none⟩), .int .i64 x, rgV k a T.length c] w (SetPost 31 lo b (setS (sem R) x k (txL T)) w) := by
  unfold SetPost
  unfold rgV
  obtain ⟨SS, hSS⟩ : ∃ SS, setS (sem R) x k (txL T) = SS := ⟨_, rfl⟩
  have HSS := Lib.hid hSS
  rw [hSS]
  clear hSS
  have HBLT : Hid (b ≤ w.heap.size) := Lib.hid (Nat.le_of_lt H.lt)
  have HBL2 : Hid (b < w.heap.size) := Lib.hid H.lt
  have HHI := Lib.hid H.hi_
  have HLO : Hid (lo ≤ w.heap.size) := Lib.hid hlo
  have HL1 := Lib.hid hl1
  have HH1 := Lib.hid hh1
  have HTL := Lib.hid hn
  have HTS := Lib.hid hs
  obtain ⟨n, hnn⟩ : ∃ n, T.length = n := ⟨_, rfl⟩
  have HN := Lib.hid hnn
  rw [hnn]
  have al := t_al w (.cells #[.int .i64 k, .slice a n c] 28)
  have hnw := heap_alloc_new w (.cells #[.int .i64 k, .slice a n c] 28)
  have HR1 := Lib.hid (H.below al)
  have HT1 := Lib.hid (HT.below al)
  have HAL := Lib.hid al
  have HNW := Lib.hid hnw
  have HZ1 : Hid ((w.alloc (.cells #[.int .i64 k, .slice a n c] 28)).heap.size = w.heap.size + 1) := Lib.hid (by simp)
  have k0 : (w.alloc (.cells #[.int .i64 k, .slice a n c] 28)).cell? ⟨w.heap.size, 0, none⟩ = some (.int .i64 k) := by rw [cell_at hnw]; rfl
  have k1 : (w.alloc (.cells #[.int .i64 k, .slice a n c] 28)).cell? ⟨w.heap.size, 1, none⟩ = some (.slice a n c) := by rw [cell_at hnw]; rfl
  have HLT := Lib.hid (fun w => letter_of x w)
  clear H HT al hnw hn hs hl1 hh1 hnn hlo
  generalize hw1 : w.alloc (.cells #[.int .i64 k, .slice a n c] 28) = w1 at *
  have HS : Hid (SS = (1, sem R)) := Lib.hid (by rw [← HSS.out]; unfold setS; rw [hr])
  obtain ⟨hl, hx0⟩ : letK x < 0 ∧ x ≠ 0 := by
    unfold regI at hr
    split at hr
    · cases hr
    · split at hr
      · cases hr
      · constructor
        · omega
        · assumption
  have d0 : decide (letK x < 0) = true := decide_eq_true hl
  have d1 : (x == 0) = false := by rw [beq_eq_false_iff_ne]; exact hx0
  have d2 : (x != 0) = true := by simp [bne, d1]
  generalize letK x = kk at *
  clear hr hl hx0
  go_enter Try.func23, Try.ntmps23
  go_upto_region 1 with fail
  try rw [hw1]
  clear hw1
  go_wp2_with fail
  refine (HLT.out _).mono ?_; rintro e w3 ⟨rfl, rfl⟩
  go_wp2_with fail
  go_ret
  exact ⟨by rw [HS.out] <;> rfl, R, by rw [HS.out], HR1.out.mono HR1.out.hi_ (Nat.le_refl _), Only.of_below HAL.out HBLT.out⟩

set_option maxRecDepth 100000 in
set_option maxHeartbeats 16000000 in
theorem rset_last {w : World} {lo hi b lo1 hi1 : Nat} {R : List Rv} (H : Rg w 31 lo hi b R) (x k : Int) {a : Option Addr} {c : Nat} {T : List TxM} (hlo : lo ≤ w.heap.size) (HT : Mx w lo1 hi1 a c T) (hl1 : lo ≤ lo1) (hh1 : hi1 ≤ w.heap.size) (hn : T.length ≤ 1000) (hs : szM (txL T) ≤ 100000) (hx : x = 0) :
    Calls Try.prog 23 #[.pointer (some ⟨b, 0, none⟩), .int .i64 x, rgV k a T.length c] w (SetPost 31 lo b (setS (sem R) x k (txL T)) w) := by
  unfold SetPost
  unfold rgV
  obtain ⟨SS, hSS⟩ : ∃ SS, setS (sem R) x k (txL T) = SS := ⟨_, rfl⟩
  have HSS := Lib.hid hSS
  rw [hSS]
  clear hSS
  have HBLT : Hid (b ≤ w.heap.size) := Lib.hid (Nat.le_of_lt H.lt)
  have HBL2 : Hid (b < w.heap.size) := Lib.hid H.lt
  have HHI := Lib.hid H.hi_
  have HLO : Hid (lo ≤ w.heap.size) := Lib.hid hlo
  have HL1 := Lib.hid hl1
  have HH1 := Lib.hid hh1
  have HTL := Lib.hid hn
  have HTS := Lib.hid hs
  obtain ⟨n, hnn⟩ : ∃ n, T.length = n := ⟨_, rfl⟩
  have HN := Lib.hid hnn
  rw [hnn]
  have al := t_al w (.cells #[.int .i64 k, .slice a n c] 28)
  have hnw := heap_alloc_new w (.cells #[.int .i64 k, .slice a n c] 28)
  have HR1 := Lib.hid (H.below al)
  have HT1 := Lib.hid (HT.below al)
  have HAL := Lib.hid al
  have HNW := Lib.hid hnw
  have HZ1 : Hid ((w.alloc (.cells #[.int .i64 k, .slice a n c] 28)).heap.size = w.heap.size + 1) := Lib.hid (by simp)
  have k0 : (w.alloc (.cells #[.int .i64 k, .slice a n c] 28)).cell? ⟨w.heap.size, 0, none⟩ = some (.int .i64 k) := by rw [cell_at hnw]; rfl
  have k1 : (w.alloc (.cells #[.int .i64 k, .slice a n c] 28)).cell? ⟨w.heap.size, 1, none⟩ = some (.slice a n c) := by rw [cell_at hnw]; rfl
  have HLT := Lib.hid (fun w => letter_of x w)
  clear H HT al hnw hn hs hl1 hh1 hnn hlo
  generalize hw1 : w.alloc (.cells #[.int .i64 k, .slice a n c] 28) = w1 at *
  subst hx
  obtain ⟨i, hi'⟩ : ∃ i : Nat, i = 26 := ⟨26, rfl⟩
  have HI : Hid (i < 27) := Lib.hid (by omega)
  have hr : regI 0 = some i := by rw [hi']; rfl
  have hl0 : letK 0 = -1 := by rfl
  rw [hl0] at HLT
  by_cases hk0 : k < 0
  · have HS : Hid (SS = (1, sem R)) := Lib.hid (by rw [← HSS.out]; unfold setS; rw [hr]; simp only []; rw [if_neg (by omega)])
    have f0 : decide (k < 0) = true := decide_eq_true hk0
    clear hr
    go_enter Try.func23, Try.ntmps23
    go_upto_region 1 with fail
    try rw [hw1]
    clear hw1
    go_wp2_with fail
    refine (HLT.out _).mono ?_; rintro e w3 ⟨rfl, rfl⟩
    go_wp2_with fail
    go_ret
    exact ⟨by rw [HS.out] <;> rfl, R, by rw [HS.out], HR1.out.mono HR1.out.hi_ (Nat.le_refl _), Only.of_below HAL.out HBLT.out⟩
  · have f0 : decide (k < 0) = false := decide_eq_false hk0
    by_cases hk2 : 2 < k
    · have HS : Hid (SS = (1, sem R)) := Lib.hid (by rw [← HSS.out]; unfold setS; rw [hr]; simp only []; rw [if_neg (by omega)])
      have f1 : decide (2 < k) = true := decide_eq_true hk2
      clear hr
      go_enter Try.func23, Try.ntmps23
      go_upto_region 1 with fail
      try rw [hw1]
      clear hw1
      go_wp2_with fail
      refine (HLT.out _).mono ?_; rintro e w3 ⟨rfl, rfl⟩
      go_wp2_with fail
      go_ret
      exact ⟨by rw [HS.out] <;> rfl, R, by rw [HS.out], HR1.out.mono HR1.out.hi_ (Nat.le_refl _), Only.of_below HAL.out HBLT.out⟩
    · have f1 : decide (2 < k) = false := decide_eq_false hk2
      by_cases hn0 : n = 0
      · have HS : Hid (SS = (1, sem R)) := Lib.hid (by rw [← HSS.out]; unfold setS; rw [hr]; simp only []; rw [if_neg (by rw [txL_len, HN.out]; omega)])
        subst hn0
        clear hr
        go_enter Try.func23, Try.ntmps23
        go_upto_region 1 with fail
        try rw [hw1]
        clear hw1
        go_wp2_with fail
        refine (HLT.out _).mono ?_; rintro e w3 ⟨rfl, rfl⟩
        go_wp2_with fail
        go_ret
        exact ⟨by rw [HS.out] <;> rfl, R, by rw [HS.out], HR1.out.mono HR1.out.hi_ (Nat.le_refl _), Only.of_below HAL.out HBLT.out⟩
      · have f2 : ((n : Int) == 0) = false := by rw [beq_eq_false_iff_ne]; omega
        have f3 : (n == 0) = false := by rw [beq_eq_false_iff_ne]; omega
        obtain ⟨MA, hMA⟩ : ∃ MA, appM (sem R) i 0 k (txL T) = MA := ⟨_, rfl⟩
        have HSE : Hid (SS = if 400 < MA.length ∨ 4096 < szM MA then (6, sem R) else (0, ((sem R).set 26 (k, MA)).set 26 (k, MA))) := Lib.hid (by
          rw [← HSS.out]; unfold setS; rw [hr]; simp only []; rw [if_pos (by rw [txL_len, HN.out]; omega), hMA, hi'])
        have HAPM : Hid (MA = txL T) := Lib.hid (by rw [← hMA, hi']; exact appM_last)
        obtain ⟨r, hir⟩ := HR1.out.get HI.out
        obtain ⟨c0, c1⟩ := HR1.out.cell hir
        clear hr hMA hir hl0
        go_enter Try.func23, Try.ntmps23
        go_upto_region 1 with fail
        try rw [hw1]
        clear hw1
        go_wp2_with fail
        refine (HLT.out _).mono ?_; rintro e w3 ⟨rfl, rfl⟩
        go_wp2_with fail
        go_quiet (fail)
        have hbq : Below w1.heap.size w1 (w1.drewN nq) := Below.draws _ _
        generalize w1.drewN nq = w2 at *
        have HR2 := Lib.hid (HR1.out.below hbq)
        have HT2 := Lib.hid (HT1.out.below hbq)
        have HB2 := Lib.hid (HAL.out.trans (hbq.mono HAL.out.size))
        have HGL2 : Hid (w.heap.size < w2.heap.size) := Lib.hid (by have := hbq.size; have := HZ1.out; omega)
        have HG2 : Hid (w2.heap[w.heap.size]? = some (.cells #[.int .i64 k, .slice a n c] 28 (0, 0))) := Lib.hid ((hbq.block w.heap.size (by have := HZ1.out; omega)).trans HNW.out)
        clear hbq k0 k1 c0 c1
        have HTX : Hid (txL T = MA) := Lib.hid (by rw [HAPM.out])
        have HUC : Hid (w2.heap[w.heap.size]? = some (.cells #[.int .i64 k, .slice a T.length c] 28 (0, 0))) := Lib.hid (by rw [HN.out]; exact HG2.out)
        have HMLO : Hid (lo ≤ lo1) := HL1
        have HMHI : Hid (hi1 ≤ w2.heap.size) := Lib.hid (by have := HH1.out; have := HGL2.out; omega)
        have HML : Hid (T.length ≤ 1000000) := Lib.hid (by have := HTL.out; omega)
        have HSB : Hid (szM (txL T) ≤ 1000000) := Lib.hid (by have := HTS.out; omega)
        have HSZ := Lib.hid (rsize_of k HT2.out HSB.out HML.out)
        have HGJ := Lib.hid (fun (w' : World) (hb : Below w2.heap.size w2 w') => (hb.block w.heap.size HGL2.out).trans HUC.out)
        obtain ⟨u0, u1⟩ : w2.cell? ⟨w.heap.size, 0, none⟩ = some (.int .i64 k) ∧ w2.cell? ⟨w.heap.size, 1, none⟩ = some (.slice a T.length c) := ⟨by rw [cell_at HUC.out]; rfl, by rw [cell_at HUC.out]; rfl⟩
        unfold rgV at HSZ
        have HTN : Hid (szM (txL T) = szM MA) := Lib.hid (by rw [HTX.out])
        obtain ⟨z, hz⟩ : ∃ z, szM (txL T) = z := ⟨_, rfl⟩
        have HZ := Lib.hid hz
        rw [hz] at HSZ
        clear hz
        obtain ⟨mt, hmt⟩ : ∃ mt, T.length = mt := ⟨_, rfl⟩
        have HMT := Lib.hid hmt
        rw [hmt] at HSZ HGJ u1
        clear hmt
        go_wp2_with fail
        refine HSZ.out.mono ?_; rintro e wp ⟨rfl, hbp⟩
        have hgp := HGJ.out wp hbp
        have HGQ := Lib.hid hgp
        have HBQ := Lib.hid (HB2.out.trans (hbp.mono HB2.out.size))
        have HRQ : Hid (Rg wp 31 lo wp.heap.size b R) := Lib.hid ((HR2.out.below hbp).mono (Nat.le_trans HR2.out.hi_ hbp.size) (Nat.le_refl _))
        have HMQ : Hid (Mx wp lo wp.heap.size a c T) := Lib.hid ((HT2.out.below hbp).mono HMLO.out (Nat.le_trans HMHI.out hbp.size))
        have v0 : wp.cell? ⟨w.heap.size, 0, none⟩ = some (.int .i64 k) := by rw [cell_at hgp]; rfl
        have v1 : wp.cell? ⟨w.heap.size, 1, none⟩ = some (.slice a mt c) := by rw [cell_at hgp]; rfl
        clear hbp hgp u0 u1 HSZ HGJ
        by_cases h5 : 4096 < z
        · have HS : Hid (SS = (6, sem R)) := Lib.hid (by rw [HSE.out, if_pos (Or.inr (by rw [← HTN.out, HZ.out]; exact h5))])
          have d5 : decide ((4096 : Int) < (z : Int)) = true := decide_eq_true (by omega)
          go_wp2_with fail
          go_ret
          exact ⟨by rw [HS.out] <;> rfl, R, by rw [HS.out], HRQ.out, Only.of_below HBQ.out HBLT.out⟩
        · have d5 : decide ((4096 : Int) < (z : Int)) = false := decide_eq_false (by omega)
          by_cases h4 : 400 < mt
          · have HS : Hid (SS = (6, sem R)) := Lib.hid (by rw [HSE.out, if_pos (Or.inl (by rw [← HTX.out, txL_len, HMT.out]; exact h4))])
            have d4 : decide ((400 : Int) < (mt : Int)) = true := decide_eq_true (by omega)
            go_wp2_with fail
            go_ret
            exact ⟨by rw [HS.out] <;> rfl, R, by rw [HS.out], HRQ.out, Only.of_below HBQ.out HBLT.out⟩
          · have d4 : decide ((400 : Int) < (mt : Int)) = false := decide_eq_false (by omega)
            have HS : Hid (SS = (0, ((sem R).set 26 (k, MA)).set 26 (k, MA))) := Lib.hid (by rw [HSE.out, if_neg (by rw [← HTN.out, HZ.out, ← HTX.out, txL_len, HMT.out]; omega)])
            have HF6 : Hid (T.length ≤ 400 ∧ szM (txL T) ≤ 4096) := Lib.hid ⟨by rw [HMT.out]; omega, by rw [HZ.out]; omega⟩
            obtain ⟨rI, hrI⟩ := HRQ.out.get (i := 26) (by omega)
            obtain ⟨s0, s1⟩ := HRQ.out.cell hrI

            have zz := fun j => unfrozen HRQ.out.obj j
            clear h4 h5 hrI
            go_upto_region 22 with fail
            have HP8 : Hid (Rg (set2 wp b (26 * 2) (.int .i64 k) (.slice a mt c)) 31 lo wp.heap.size b (R.set 26 ⟨k, a, c, T⟩)) := Lib.hid (by
              have := HRQ.out.put (i := 26) (r := ⟨k, a, c, T⟩) HMQ.out HF6.out
              simp only [HMT.out] at this
              exact this)
            have HO8 : Hid (Only b w (set2 wp b (26 * 2) (.int .i64 k) (.slice a mt c))) := Lib.hid ((Only.of_below HBQ.out HBLT.out).trans (Only.set2 (Nat.le_of_lt HRQ.out.lt)))
            have hs8 : (set2 wp b (26 * 2) (.int .i64 k) (.slice a mt c)).heap.size = wp.heap.size := set2_size _ _ _ _ _
            rw [show (wp.setCell ⟨b, 52, none⟩ (.int .i64 k)).setCell ⟨b, 53, none⟩ (.slice a mt c) = set2 wp b (26 * 2) (.int .i64 k) (.slice a mt c) from rfl]
            generalize set2 wp b (26 * 2) (.int .i64 k) (.slice a mt c) = w8 at *
            clear s0 s1 v0 v1 zz
            go_wp2_with fail
            go_ret
            exact ⟨by rw [HS.out] <;> rfl, R.set 26 ⟨k, a, c, T⟩, by rw [HS.out, sem_set, HTX.out, List.set_set], by rw [hs8]; exact HP8.out, HO8.out⟩

set_option maxRecDepth 100000 in
set_option maxHeartbeats 16000000 in
theorem rset_letter {w : World} {lo hi b lo1 hi1 : Nat} {R : List Rv} (H : Rg w 31 lo hi b R) (x k : Int) {a : Option Addr} {c : Nat} {T : List TxM} (hlo : lo ≤ w.heap.size) (HT : Mx w lo1 hi1 a c T) (hl1 : lo ≤ lo1) (hh1 : hi1 ≤ w.heap.size) (hn : T.length ≤ 1000) (hs : szM (txL T) ≤ 100000) (hx : 0 ≤ letK x) :
    Calls Try.prog 23 #[.pointer (some ⟨b, 0, none⟩), .int .i64 x, rgV k a T.length c] w (SetPost 31 lo b (setS (sem R) x k (txL T)) w) := by
  unfold SetPost
  unfold rgV
  obtain ⟨SS, hSS⟩ : ∃ SS, setS (sem R) x k (txL T) = SS := ⟨_, rfl⟩
  have HSS := Lib.hid hSS
  rw [hSS]
  clear hSS
  have HBLT : Hid (b ≤ w.heap.size) := Lib.hid (Nat.le_of_lt H.lt)
  have HBL2 : Hid (b < w.heap.size) := Lib.hid H.lt
  have HHI := Lib.hid H.hi_
  have HLO : Hid (lo ≤ w.heap.size) := Lib.hid hlo
  have HL1 := Lib.hid hl1
  have HH1 := Lib.hid hh1
  have HTL := Lib.hid hn
  have HTS := Lib.hid hs
  obtain ⟨n, hnn⟩ : ∃ n, T.length = n := ⟨_, rfl⟩
  have HN := Lib.hid hnn
  rw [hnn]
  have al := t_al w (.cells #[.int .i64 k, .slice a n c] 28)
  have hnw := heap_alloc_new w (.cells #[.int .i64 k, .slice a n c] 28)
  have HR1 := Lib.hid (H.below al)
  have HT1 := Lib.hid (HT.below al)
  have HAL := Lib.hid al
  have HNW := Lib.hid hnw
  have HZ1 : Hid ((w.alloc (.cells #[.int .i64 k, .slice a n c] 28)).heap.size = w.heap.size + 1) := Lib.hid (by simp)
  have k0 : (w.alloc (.cells #[.int .i64 k, .slice a n c] 28)).cell? ⟨w.heap.size, 0, none⟩ = some (.int .i64 k) := by rw [cell_at hnw]; rfl
  have k1 : (w.alloc (.cells #[.int .i64 k, .slice a n c] 28)).cell? ⟨w.heap.size, 1, none⟩ = some (.slice a n c) := by rw [cell_at hnw]; rfl
  have HLT := Lib.hid (fun w => letter_of x w)
  clear H HT al hnw hn hs hl1 hh1 hnn hlo
  generalize hw1 : w.alloc (.cells #[.int .i64 k, .slice a n c] 28) = w1 at *
  obtain ⟨i, hi'⟩ : ∃ i : Nat, letK x = i := ⟨(letK x).toNat, by omega⟩
  have hl := letK_hi x
  have hi26 : i < 26 := by omega
  have HI : Hid (i < 27) := Lib.hid (by omega)
  have hr : regI x = some i := by unfold regI; rw [if_pos hx, hi', Int.toNat_natCast]
  have e0 : (0 : Int) ≤ (i : Int) := by omega
  have e1 : (i : Int) < 26 := by omega
  have d0 : decide ((i : Int) < 0) = false := decide_eq_false (by omega)
  have d00 : decide ((0 : Int) ≤ (i : Int)) = true := decide_eq_true (by omega)
  rw [hi'] at HLT
  by_cases hk0 : k < 0
  · have HS : Hid (SS = (1, sem R)) := Lib.hid (by rw [← HSS.out]; unfold setS; rw [hr]; simp only []; rw [if_neg (by omega)])
    have f0 : decide (k < 0) = true := decide_eq_true hk0
    clear hr
    go_enter Try.func23, Try.ntmps23
    go_upto_region 1 with fail
    try rw [hw1]
    clear hw1
    go_wp2_with fail
    refine (HLT.out _).mono ?_; rintro e w3 ⟨rfl, rfl⟩
    go_wp2_with fail
    go_ret
    exact ⟨by rw [HS.out] <;> rfl, R, by rw [HS.out], HR1.out.mono HR1.out.hi_ (Nat.le_refl _), Only.of_below HAL.out HBLT.out⟩
  · have f0 : decide (k < 0) = false := decide_eq_false hk0
    by_cases hk2 : 2 < k
    · have HS : Hid (SS = (1, sem R)) := Lib.hid (by rw [← HSS.out]; unfold setS; rw [hr]; simp only []; rw [if_neg (by omega)])
      have f1 : decide (2 < k) = true := decide_eq_true hk2
      clear hr
      go_enter Try.func23, Try.ntmps23
      go_upto_region 1 with fail
      try rw [hw1]
      clear hw1
      go_wp2_with fail
      refine (HLT.out _).mono ?_; rintro e w3 ⟨rfl, rfl⟩
      go_wp2_with fail
      go_ret
      exact ⟨by rw [HS.out] <;> rfl, R, by rw [HS.out], HR1.out.mono HR1.out.hi_ (Nat.le_refl _), Only.of_below HAL.out HBLT.out⟩
    · have f1 : decide (2 < k) = false := decide_eq_false hk2
      by_cases hn0 : n = 0
      · have HS : Hid (SS = (1, sem R)) := Lib.hid (by rw [← HSS.out]; unfold setS; rw [hr]; simp only []; rw [if_neg (by rw [txL_len, HN.out]; omega)])
        subst hn0
        clear hr
        go_enter Try.func23, Try.ntmps23
        go_upto_region 1 with fail
        try rw [hw1]
        clear hw1
        go_wp2_with fail
        refine (HLT.out _).mono ?_; rintro e w3 ⟨rfl, rfl⟩
        go_wp2_with fail
        go_ret
        exact ⟨by rw [HS.out] <;> rfl, R, by rw [HS.out], HR1.out.mono HR1.out.hi_ (Nat.le_refl _), Only.of_below HAL.out HBLT.out⟩
      · have f2 : ((n : Int) == 0) = false := by rw [beq_eq_false_iff_ne]; omega
        have f3 : (n == 0) = false := by rw [beq_eq_false_iff_ne]; omega
        obtain ⟨MA, hMA⟩ : ∃ MA, appM (sem R) i x k (txL T) = MA := ⟨_, rfl⟩
        have HSE : Hid (SS = if 400 < MA.length ∨ 4096 < szM MA then (6, sem R) else (0, ((sem R).set i (k, MA)).set 26 (k, MA))) := Lib.hid (by
          rw [← HSS.out]; unfold setS; rw [hr]; simp only []; rw [if_pos (by rw [txL_len, HN.out]; omega), hMA])
        obtain ⟨r, hir⟩ := HR1.out.get HI.out
        have HIR := Lib.hid hir
        have HAPM : Hid (MA = if x < 97 ∧ r.k = k ∧ k < 2 then txL r.T ++ txL T else txL T) := Lib.hid (by
          rw [← hMA, appM_doc hx (by omega), gR_at hir])
        have HFR := Lib.hid (HR1.out.few r (List.mem_of_getElem? hir))
        have HMR := Lib.hid (HR1.out.mx r (List.mem_of_getElem? hir))
        obtain ⟨c0, c1⟩ := HR1.out.cell hir
        clear hr hMA hir hl hx hi'
        obtain ⟨rk, ra, rc, rT⟩ := r
        simp only [] at HAPM HFR HMR c0 c1
        obtain ⟨rn, hrn⟩ : ∃ rn, rT.length = rn := ⟨_, rfl⟩
        have HRN := Lib.hid hrn
        rw [hrn] at c1
        clear hrn
        by_cases hx97 : x < 97
        · have t0 : decide (x < 97) = true := decide_eq_true hx97
          by_cases hrk : rk = k
          · subst hrk
            have t1 : (rk == rk) = true := by simp
            by_cases hk1 : rk < 2
            · have t2 : decide (rk < 2) = true := decide_eq_true hk1
              rw [if_pos ⟨hx97, rfl, hk1⟩] at HAPM
              go_enter Try.func23, Try.ntmps23
              go_upto_region 1 with fail
              try rw [hw1]
              clear hw1
              go_wp2_with fail
              refine (HLT.out _).mono ?_; rintro e w3 ⟨rfl, rfl⟩
              go_wp2_with fail
              go_quiet (fail)
              have hbq : Below w1.heap.size w1 (w1.drewN nq) := Below.draws _ _
              generalize w1.drewN nq = w2 at *
              have HR2 := Lib.hid (HR1.out.below hbq)
              have HT2 := Lib.hid (HT1.out.below hbq)
              have HMR2 := Lib.hid (HMR.out.below hbq)
              have HB2 := Lib.hid (HAL.out.trans (hbq.mono HAL.out.size))
              have HGL2 : Hid (w.heap.size < w2.heap.size) := Lib.hid (by have := hbq.size; have := HZ1.out; omega)
              have hg2 := (hbq.block w.heap.size (by have := HZ1.out; omega)).trans HNW.out
              have k0 : w2.cell? ⟨w.heap.size, 0, none⟩ = some (.int .i64 rk) := by rw [cell_at hg2]; rfl
              have HG2 := Lib.hid hg2
              clear hbq k1 c0 c1 hg2
              go_upto_region 6 with fail
              have aly := t_al w2 (.cells #[.int .i64 rk, .slice none 0 0] 28)
              have hny := heap_alloc_new w2 (.cells #[.int .i64 rk, .slice none 0 0] 28)
              have hsy : (w2.alloc (.cells #[.int .i64 rk, .slice none 0 0] 28)).heap.size = w2.heap.size + 1 := by simp
              generalize w2.alloc (.cells #[.int .i64 rk, .slice none 0 0] 28) = wy at *
              have HRY := Lib.hid (HR2.out.below aly)
              have HTY := Lib.hid (HT2.out.below aly)
              have HMRY := Lib.hid (HMR2.out.below aly)
              have HBY := Lib.hid (HB2.out.trans (aly.mono HB2.out.size))
              have HGY := Lib.hid ((aly.block w.heap.size HGL2.out).trans HG2.out)
              have HNY := Lib.hid hny
              have HSY := Lib.hid hsy
              obtain ⟨s0, s1⟩ := HRY.out.cell HIR.out
              simp only [] at s0 s1
              rw [HRN.out] at s1
              have HLL : Hid (rn ≤ 400 ∧ n ≤ 1000) := Lib.hid ⟨by rw [← HRN.out]; exact HFR.out.1, by rw [← HN.out]; exact HTL.out⟩
              obtain ⟨i0, hi0, hz0, hz1, hz2⟩ := info_parts info_txs
              clear aly hny hsy s0 k0
              go_wp2_with fail
              go_loopw [71] (fun v71 wr => ∃ (j : Nat) (a8 : Option Addr) (c8 : Nat), v71 = .int .i64 j ∧ j ≤ rn ∧ YI wy w2.heap.size rk a8 c8 j (rT.take j) wr) (fun v71 _ => rn - (intOf v71).toNat)
              case atStart => exact ⟨0, none, 0, rfl, Nat.zero_le _, HNY.out, t_nil _ _ _ _, Below.refl _ _, Nat.le_refl _, fun _ _ _ => rfl⟩
              case round =>
                obtain ⟨wq, rfl⟩ : ∃ wq : World, wq = wr := ⟨_, rfl⟩
                obtain ⟨j, a8, c8, rfl, hj, Y⟩ := hrel
                have HYI := Lib.hid Y
                have HK := Lib.hid Y.only
                have hlj2 := HLL.out
                clear Y
                by_cases hlt : j < rn
                · have dk : decide (j < rn) = true := decide_eq_true hlt
                  obtain ⟨p, hp⟩ : ∃ p, rT[j]? = some p := ⟨_, List.getElem?_eq_getElem (by rw [HRN.out]; exact hlt)⟩
                  obtain ⟨g, o, rfl, hg, f1, _, _⟩ := (HMRY.out.keep (HK.out.keep (Or.inr (by have := HHI.out; have := HGL2.out; omega)))).row hp
                  have HTK : Hid (rT.take (j + 1) = rT.take j ++ [p]) := Lib.hid (by rw [List.take_add_one, hp]; rfl)
                  clear hp hg
                  have v1 : wq.cell? ⟨w2.heap.size, 1, none⟩ = some (.slice a8 j c8) := by rw [cell_at HYI.out.box]; rfl
                  obtain ⟨p1, p2, l⟩ := p
                  unfold txV at f1
                  simp only [] at f1
                  have j0 : (0 : Int) ≤ (j : Int) := by omega
                  have j1 : (j : Int) < (rn : Int) := by omega
                  have C3 : Hid (j + 1 ≤ maxLen) := by show _ ≤ _; unfold maxLen; omega
                  have C4 : Hid ((j + 1) * 24 ≤ 140737488355328) := by show _ ≤ _; omega
                  have C5 : Hid (wy.heap.size ≤ (wq.alloc (Obj.cells #[.slice p1 l.length p2] 61)).heap.size) := by show _ ≤ _; have := HK.out.size; simp only [World.size_alloc]; omega
                  go_wp2_with (first
                    | (at_builtin; refine wpList_append_own _ rfl (.tmp 76) (.tmp 78) 26 rfl wy.heap.size 61 i0 (.slice none 0 0) 1 24 Try.underlying26 hi0 hz0 hz1 hz2 rfl (by decide) (.slice a8 j c8) (j) ((rT.take j).map txV) rfl (HYI.out.own.alloc _) ⟨wq.heap.size, 0, none⟩ 1 1 [.slice p1 l.length p2] rfl rfl (c1_one wq _ _) (c2_one _ rfl) C3.out C4.out C5.out ?_)
                    | fail)
                  intro vN wB hoN hgN _
                  obtain ⟨aN, cN, rfl⟩ := own_slice hoN
                  obtain ⟨hbx, hY2⟩ := HYI.out.step (p := ((p1, p2, l) : TxM)) (by have := HSY.out; omega) (by rw [List.map_take]; exact hoN) hgN
                  have t1 : wB.cell? ⟨w2.heap.size, 1, none⟩ = some (.slice a8 j c8) := by rw [cell_at hbx]; rfl
                  have tz := fun m => unfrozen hbx m
                  rw [← HTK.out] at hY2
                  have HY2 := Lib.hid hY2
                  clear hoN hgN C3 C4 C5 hbx hY2 f1 v1
                  go_wp2_with fail
                  go_roundw
                  case rel => exact ⟨j + 1, aN, cN, by go_num, by omega, HY2.out⟩
                  case measure => simp [intOf]; omega
                · have dk : decide (j < rn) = false := decide_eq_false hlt
                  obtain rfl : j = rn := by omega
                  have hY1 := HYI.out
                  rw [List.take_of_length_le (by rw [HRN.out]; exact Nat.le_refl _)] at hY1
                  have HY1 := Lib.hid hY1
                  have k1 : wq.cell? ⟨w.heap.size, 1, none⟩ = some (.slice a n c) := by rw [cell_at ((HK.out.oth w.heap.size (by have := HSY.out; have := HGL2.out; omega) (by have := HGL2.out; omega)).trans HGY.out)]; rfl
                  clear hY1 s1
                  go_wp2_with fail
                  go_loopw [85] (fun v85 wz => ∃ (m : Nat) (a9 : Option Addr) (c9 : Nat), v85 = .int .i64 m ∧ m ≤ n ∧ YI wy w2.heap.size rk a9 c9 (j + m) (rT ++ T.take m) wz) (fun v85 _ => n - (intOf v85).toNat)
                  case atStart => exact ⟨0, a8, c8, rfl, Nat.zero_le _, by simpa using HY1.out⟩
                  case round =>
                    obtain ⟨wv, rfl⟩ : ∃ wv : World, wv = wr := ⟨_, rfl⟩
                    obtain ⟨m, a9, c9, rfl, hm, Y⟩ := hrel
                    have HYJ := Lib.hid Y
                    have HKJ := Lib.hid Y.only
                    clear Y
                    by_cases hlm : m < n
                    · have dm : decide (m < n) = true := decide_eq_true hlm
                      obtain ⟨p, hp⟩ : ∃ p, T[m]? = some p := ⟨_, List.getElem?_eq_getElem (by rw [HN.out]; exact hlm)⟩
                      obtain ⟨g, o, rfl, hg, f1, _, _⟩ := (HTY.out.keep (HKJ.out.keep (Or.inr (by have := HH1.out; have := HGL2.out; omega)))).row hp
                      have HTK : Hid (rT ++ T.take (m + 1) = (rT ++ T.take m) ++ [p]) := Lib.hid (by rw [List.take_add_one, hp, List.append_assoc]; rfl)
                      clear hp hg
                      have v1 : wv.cell? ⟨w2.heap.size, 1, none⟩ = some (.slice a9 (j + m) c9) := by rw [cell_at HYJ.out.box]; rfl
                      obtain ⟨p1, p2, l⟩ := p
                      unfold txV at f1
                      simp only [] at f1
                      have j0 : (0 : Int) ≤ (m : Int) := by omega
                      have j1 : (m : Int) < (n : Int) := by omega
                      obtain ⟨q, hq⟩ : ∃ q, j + m = q := ⟨_, rfl⟩
                      have HQE := Lib.hid hq
                      have hq2 : q ≤ 1400 := by omega
                      rw [hq] at v1
                      have hYq := HYJ.out
                      rw [hq] at hYq
                      have HYQ := Lib.hid hYq
                      clear hq hYq
                      have C3 : Hid (q + 1 ≤ maxLen) := by show _ ≤ _; unfold maxLen; omega
                      have C4 : Hid ((q + 1) * 24 ≤ 140737488355328) := by show _ ≤ _; omega
                      have C5 : Hid (wy.heap.size ≤ (wv.alloc (Obj.cells #[.slice p1 l.length p2] 61)).heap.size) := by show _ ≤ _; have := HKJ.out.size; simp only [World.size_alloc]; omega
                      go_wp2_with (first
                        | (at_builtin; refine wpList_append_own _ rfl (.tmp 90) (.tmp 92) 26 rfl wy.heap.size 61 i0 (.slice none 0 0) 1 24 Try.underlying26 hi0 hz0 hz1 hz2 rfl (by decide) (.slice a9 q c9) (q) ((rT ++ T.take m).map txV) rfl (HYQ.out.own.alloc _) ⟨wv.heap.size, 0, none⟩ 1 1 [.slice p1 l.length p2] rfl rfl (c1_one wv _ _) (c2_one _ rfl) C3.out C4.out C5.out ?_)
                        | fail)
                      intro vN wB hoN hgN _
                      obtain ⟨aN, cN, rfl⟩ := own_slice hoN
                      obtain ⟨hbx, hY2⟩ := HYQ.out.step (p := ((p1, p2, l) : TxM)) (by have := HSY.out; omega) (by rw [List.map_append, List.map_take, List.append_assoc]; exact hoN) hgN
                      have t1 : wB.cell? ⟨w2.heap.size, 1, none⟩ = some (.slice a9 q c9) := by rw [cell_at hbx]; rfl
                      have tz := fun m => unfrozen hbx m
                      rw [← HTK.out] at hY2
                      have HY2 := Lib.hid hY2
                      clear hoN hgN C3 C4 C5 hbx hY2 f1 v1
                      go_wp2_with fail
                      go_roundw
                      case rel => exact ⟨m + 1, aN, cN, by go_num, by omega, by rw [show j + (m + 1) = q + 1 by have := HQE.out; omega]; exact HY2.out⟩
                      case measure => simp [intOf]; omega
                    · have dm : decide (m < n) = false := decide_eq_false hlm
                      obtain rfl : m = n := by omega
                      have hY2 := HYJ.out
                      rw [List.take_of_length_le (by rw [HN.out]; exact Nat.le_refl _)] at hY2
                      obtain ⟨q, hq⟩ : ∃ q, j + m = q := ⟨_, rfl⟩
                      have HQE := Lib.hid hq
                      rw [hq] at hY2
                      have HY2 := Lib.hid hY2
                      have v0 : wv.cell? ⟨w2.heap.size, 0, none⟩ = some (.int .i64 rk) := by rw [cell_at hY2.box]; rfl
                      have v1 : wv.cell? ⟨w2.heap.size, 1, none⟩ = some (.slice a9 q c9) := by rw [cell_at hY2.box]; rfl
                      have hgx := (HKJ.out.oth w.heap.size (by have := HSY.out; have := HGL2.out; omega) (by have := HGL2.out; omega)).trans HGY.out
                      have b0 : wv.cell? ⟨w.heap.size, 0, none⟩ = some (.int .i64 rk) := by rw [cell_at hgx]; rfl
                      have b1 : wv.cell? ⟨w.heap.size, 1, none⟩ = some (.slice a m c) := by rw [cell_at hgx]; rfl
                      have bz := fun m => unfrozen hgx m
                      have HGX := Lib.hid hgx
                      clear hq hY2 hgx k1
                      go_upto_region 17 with fail
                      have HLEN : Hid ((rT ++ T).length = q) := Lib.hid (by rw [List.length_append, HRN.out, HN.out]; exact HQE.out)
                      have HUC : Hid ((set2 wv w.heap.size 0 (.int .i64 rk) (.slice a9 q c9)).heap[w.heap.size]? = some (.cells #[.int .i64 rk, .slice a9 (rT ++ T).length c9] 28 (0, 0))) := Lib.hid (by rw [HLEN.out]; exact set2_at HGX.out _ _)
                      have hdis : hi ≤ w.heap.size ∧ hi1 ≤ w.heap.size ∧ w.heap.size < w2.heap.size ∧ wy.heap.size = w2.heap.size + 1 := ⟨HHI.out, HH1.out, HGL2.out, HSY.out⟩
                      have hszv := HKJ.out.size
                      have HMX : Hid (Mx (set2 wv w.heap.size 0 (.int .i64 rk) (.slice a9 q c9)) lo wv.heap.size a9 c9 (rT ++ T)) := Lib.hid (by
                        have hlo := HL1.out
                        have hlo2 := HRY.out.bl
                        refine ⟨(own_sl HY2.out.own (txV_one _)).keep (lo := wy.heap.size) (hi := wv.heap.size) (fun d hd => ?_) (set2_keep (Or.inl (by omega))), fun d hd => ?_, fun p hp => ?_⟩
                        · have hlt := HY2.out.own.lt d.block (by rw [hd]; rfl)
                          exact hlt
                        · have hlt := HY2.out.own.lt d.block (by rw [hd]; rfl)
                          exact ⟨by have := HLO.out; omega, hlt.2⟩
                        · rcases List.mem_append.1 hp with hp | hp
                          · obtain ⟨m1, m2⟩ := (HMRY.out.keep (HKJ.out.keep (Or.inr (by omega)))).rd p hp
                            exact ⟨m1.keep m2 (set2_keep (Or.inr (by omega))), m2.mono (Nat.le_refl _) (by omega)⟩
                          · obtain ⟨m1, m2⟩ := (HTY.out.keep (HKJ.out.keep (Or.inr (by omega)))).rd p hp
                            exact ⟨m1.keep m2 (set2_keep (Or.inr (by omega))), m2.mono hlo (by omega)⟩)
                      have HRJ : Hid (Rg (set2 wv w.heap.size 0 (.int .i64 rk) (.slice a9 q c9)) 31 lo hi b R) := Lib.hid (by
                        have hbl := HBL2.out
                        refine (HRY.out.keep (HKJ.out.keep (Or.inr (by omega))) (HKJ.out.oth b HRY.out.lt (by omega))).keep (set2_keep (Or.inr (by omega))) ?_
                        unfold set2
                        rw [heap_set_other (by omega), heap_set_other (by omega)])
                      have HBJ : Hid (Below w.heap.size w (set2 wv w.heap.size 0 (.int .i64 rk) (.slice a9 q c9))) := Lib.hid (set2_below (HBY.out.trans (HKJ.out.low.mono (by omega))) (Nat.le_refl _) _ _)
                      have HGLJ : Hid (w.heap.size < (set2 wv w.heap.size 0 (.int .i64 rk) (.slice a9 q c9)).heap.size) := Lib.hid (by rw [set2_size]; omega)
                      have HMHI : Hid (wv.heap.size ≤ (set2 wv w.heap.size 0 (.int .i64 rk) (.slice a9 q c9)).heap.size) := Lib.hid (by rw [set2_size]; exact Nat.le_refl _)
                      have HTX : Hid (txL (rT ++ T) = MA) := Lib.hid (by rw [txL_app, HAPM.out])
                      have HMLO : Hid (lo ≤ lo) := Lib.hid (Nat.le_refl _)
                      have HML : Hid ((rT ++ T).length ≤ 1000000) := Lib.hid (by rw [HLEN.out]; have := HQE.out; have := HLL.out; omega)
                      have HSB : Hid (szM (txL (rT ++ T)) ≤ 1000000) := Lib.hid (by rw [txL_app, szM_app]; have := HTS.out; have := HFR.out.2; omega)
                      rw [show (wv.setCell ⟨w.heap.size, 0, none⟩ (.int .i64 rk)).setCell ⟨w.heap.size, 1, none⟩ (.slice a9 q c9) = set2 wv w.heap.size 0 (.int .i64 rk) (.slice a9 q c9) from rfl]
                      generalize set2 wv w.heap.size 0 (.int .i64 rk) (.slice a9 q c9) = wj at *
                      generalize rT ++ T = T4 at *
                      clear v0 v1 b0 b1 bz hdis hszv
                      have HSZ := Lib.hid (rsize_of rk HMX.out HSB.out HML.out)
                      have HGJ := Lib.hid (fun (w' : World) (hb : Below wj.heap.size wj w') => (hb.block w.heap.size HGLJ.out).trans HUC.out)
                      obtain ⟨u0, u1⟩ : wj.cell? ⟨w.heap.size, 0, none⟩ = some (.int .i64 rk) ∧ wj.cell? ⟨w.heap.size, 1, none⟩ = some (.slice a9 T4.length c9) := ⟨by rw [cell_at HUC.out]; rfl, by rw [cell_at HUC.out]; rfl⟩
                      unfold rgV at HSZ
                      have HTN : Hid (szM (txL T4) = szM MA) := Lib.hid (by rw [HTX.out])
                      obtain ⟨z, hz⟩ : ∃ z, szM (txL T4) = z := ⟨_, rfl⟩
                      have HZ := Lib.hid hz
                      rw [hz] at HSZ
                      clear hz
                      obtain ⟨mt, hmt⟩ : ∃ mt, T4.length = mt := ⟨_, rfl⟩
                      have HMT := Lib.hid hmt
                      rw [hmt] at HSZ HGJ u1
                      clear hmt
                      go_wp2_with fail
                      refine HSZ.out.mono ?_; rintro e wp ⟨rfl, hbp⟩
                      have hgp := HGJ.out wp hbp
                      have HGQ := Lib.hid hgp
                      have HBQ := Lib.hid (HBJ.out.trans (hbp.mono HBJ.out.size))
                      have HRQ : Hid (Rg wp 31 lo wp.heap.size b R) := Lib.hid ((HRJ.out.below hbp).mono (Nat.le_trans HRJ.out.hi_ hbp.size) (Nat.le_refl _))
                      have HMQ : Hid (Mx wp lo wp.heap.size a9 c9 T4) := Lib.hid ((HMX.out.below hbp).mono HMLO.out (Nat.le_trans HMHI.out hbp.size))
                      have v0 : wp.cell? ⟨w.heap.size, 0, none⟩ = some (.int .i64 rk) := by rw [cell_at hgp]; rfl
                      have v1 : wp.cell? ⟨w.heap.size, 1, none⟩ = some (.slice a9 mt c9) := by rw [cell_at hgp]; rfl
                      clear hbp hgp u0 u1 HSZ HGJ
                      by_cases h5 : 4096 < z
                      · have HS : Hid (SS = (6, sem R)) := Lib.hid (by rw [HSE.out, if_pos (Or.inr (by rw [← HTN.out, HZ.out]; exact h5))])
                        have d5 : decide ((4096 : Int) < (z : Int)) = true := decide_eq_true (by omega)
                        go_wp2_with fail
                        go_ret
                        exact ⟨by rw [HS.out] <;> rfl, R, by rw [HS.out], HRQ.out, Only.of_below HBQ.out HBLT.out⟩
                      · have d5 : decide ((4096 : Int) < (z : Int)) = false := decide_eq_false (by omega)
                        by_cases h4 : 400 < mt
                        · have HS : Hid (SS = (6, sem R)) := Lib.hid (by rw [HSE.out, if_pos (Or.inl (by rw [← HTX.out, txL_len, HMT.out]; exact h4))])
                          have d4 : decide ((400 : Int) < (mt : Int)) = true := decide_eq_true (by omega)
                          go_wp2_with fail
                          go_ret
                          exact ⟨by rw [HS.out] <;> rfl, R, by rw [HS.out], HRQ.out, Only.of_below HBQ.out HBLT.out⟩
                        · have d4 : decide ((400 : Int) < (mt : Int)) = false := decide_eq_false (by omega)
                          have HS : Hid (SS = (0, ((sem R).set i (rk, MA)).set 26 (rk, MA))) := Lib.hid (by rw [HSE.out, if_neg (by rw [← HTN.out, HZ.out, ← HTX.out, txL_len, HMT.out]; omega)])
                          have HF6 : Hid (T4.length ≤ 400 ∧ szM (txL T4) ≤ 4096) := Lib.hid ⟨by rw [HMT.out]; omega, by rw [HZ.out]; omega⟩
                          obtain ⟨rI, hrI⟩ := HRQ.out.get (i := i) HI.out
                          obtain ⟨s0, s1⟩ := HRQ.out.cell hrI
                          have zz := fun j => unfrozen HRQ.out.obj j
                          clear h4 h5 hrI
                          have hneA : ¬ (w.heap.size = b) := by have := HBL2.out; omega
                          have hneB : ¬ (b = w.heap.size) := by have := HBL2.out; omega
                          go_upto_region 20 with fail
                          go_region_held3 (fun w' => w'.cell? ⟨w.heap.size, 0, none⟩ = some (.int .i64 rk) ∧ w'.cell? ⟨w.heap.size, 1, none⟩ = some (.slice a9 mt c9)) (first | assumption | (refine ⟨?_, ?_⟩ <;> assumption) | go_keep) (fail)
                          all_goals
                            first
                              | rw [show ((wp.setCell ⟨b, i * 2, none⟩ (.int .i64 rk)).setCell ⟨b, i * 2 + 1, none⟩ (.slice a9 mt c9)).drew = (set2 wp b (i * 2) (.int .i64 rk) (.slice a9 mt c9)).drew from rfl]
                              | rw [show (wp.drew.setCell ⟨b, i * 2, none⟩ (.int .i64 rk)).setCell ⟨b, i * 2 + 1, none⟩ (.slice a9 mt c9) = (set2 wp b (i * 2) (.int .i64 rk) (.slice a9 mt c9)).drew from rfl]
                            have hb7 : Below (set2 wp b (i * 2) (.int .i64 rk) (.slice a9 mt c9)).heap.size (set2 wp b (i * 2) (.int .i64 rk) (.slice a9 mt c9)) (set2 wp b (i * 2) (.int .i64 rk) (.slice a9 mt c9)).drew := (Below.refl _ _).drew
                            have HP7 : Hid (Rg (set2 wp b (i * 2) (.int .i64 rk) (.slice a9 mt c9)).drew 31 lo wp.heap.size b (R.set i ⟨rk, a9, c9, T4⟩)) := Lib.hid (by
                              have := HRQ.out.put (i := i) (r := ⟨rk, a9, c9, T4⟩) HMQ.out HF6.out
                              simp only [HMT.out] at this
                              exact this.below hb7)
                            have HM7 : Hid (Mx (set2 wp b (i * 2) (.int .i64 rk) (.slice a9 mt c9)).drew lo wp.heap.size a9 c9 T4) := Lib.hid ((HMQ.out.keep (set2_keep (Or.inl HRQ.out.bl))).below hb7)
                            have HO7 : Hid (Only b w (set2 wp b (i * 2) (.int .i64 rk) (.slice a9 mt c9)).drew) := Lib.hid (((Only.of_below HBQ.out HBLT.out).trans (Only.set2 (Nat.le_of_lt HRQ.out.lt))).trans (Only.of_below hb7 (by rw [set2_size]; exact Nat.le_of_lt HRQ.out.lt)))
                            have hs7 : (set2 wp b (i * 2) (.int .i64 rk) (.slice a9 mt c9)).drew.heap.size = wp.heap.size := set2_size _ _ _ _ _
                            have g7 : (set2 wp b (i * 2) (.int .i64 rk) (.slice a9 mt c9)).drew.heap[w.heap.size]? = some (.cells #[.int .i64 rk, .slice a9 mt c9] 28 (0, 0)) := by
                              show (set2 wp b (i * 2) (.int .i64 rk) (.slice a9 mt c9)).heap[w.heap.size]? = _
                              have hne : w.heap.size ≠ b := by have := HBLT.out; have := HBL2.out; omega
                              unfold set2
                              rw [heap_set_other hne, heap_set_other hne]; exact HGQ.out
                            generalize (set2 wp b (i * 2) (.int .i64 rk) (.slice a9 mt c9)).drew = w7 at *
                            have v0 : w7.cell? ⟨w.heap.size, 0, none⟩ = some (.int .i64 rk) := by rw [cell_at g7]; rfl
                            have v1 : w7.cell? ⟨w.heap.size, 1, none⟩ = some (.slice a9 mt c9) := by rw [cell_at g7]; rfl
                            obtain ⟨r26, h26⟩ := HP7.out.get (i := 26) (by omega)
                            obtain ⟨n0, n1⟩ := HP7.out.cell h26
                            have zz7 := fun j => unfrozen HP7.out.obj j
                            clear s0 s1 zz h26 hb7 g7
                            go_upto_region 22 with fail
                            have HP8 : Hid (Rg (set2 w7 b (26 * 2) (.int .i64 rk) (.slice a9 mt c9)) 31 lo wp.heap.size b ((R.set i ⟨rk, a9, c9, T4⟩).set 26 ⟨rk, a9, c9, T4⟩)) := Lib.hid (by
                              have := HP7.out.put (i := 26) (r := ⟨rk, a9, c9, T4⟩) HM7.out HF6.out
                              simp only [HMT.out] at this
                              exact this)
                            have HO8 : Hid (Only b w (set2 w7 b (26 * 2) (.int .i64 rk) (.slice a9 mt c9))) := Lib.hid (HO7.out.trans (Only.set2 (Nat.le_of_lt HP7.out.lt)))
                            have hs8 : (set2 w7 b (26 * 2) (.int .i64 rk) (.slice a9 mt c9)).heap.size = wp.heap.size := by rw [set2_size]; exact hs7
                            rw [show (w7.setCell ⟨b, 52, none⟩ (.int .i64 rk)).setCell ⟨b, 53, none⟩ (.slice a9 mt c9) = set2 w7 b (26 * 2) (.int .i64 rk) (.slice a9 mt c9) from rfl]
                            generalize set2 w7 b (26 * 2) (.int .i64 rk) (.slice a9 mt c9) = w8 at *
                            clear n0 n1 v0 v1 zz7
                            go_wp2_with fail
                            go_ret
                            exact ⟨by rw [HS.out] <;> rfl, (R.set i ⟨rk, a9, c9, T4⟩).set 26 ⟨rk, a9, c9, T4⟩, by rw [HS.out, sem_set, sem_set, HTX.out], by rw [hs8]; exact HP8.out, HO8.out⟩
            · have t2 : decide (rk < 2) = false := decide_eq_false hk1
              have HNT : Hid (¬ (x < 97 ∧ rk = rk ∧ rk < 2)) := Lib.hid (by omega)
              go_enter Try.func23, Try.ntmps23
              go_upto_region 1 with fail
              try rw [hw1]
              clear hw1
              go_wp2_with fail
              refine (HLT.out _).mono ?_; rintro e w3 ⟨rfl, rfl⟩
              go_wp2_with fail
              go_quiet (fail)
              have hbq : Below w1.heap.size w1 (w1.drewN nq) := Below.draws _ _
              generalize w1.drewN nq = w2 at *
              have HR2 := Lib.hid (HR1.out.below hbq)
              have HT2 := Lib.hid (HT1.out.below hbq)
              have HB2 := Lib.hid (HAL.out.trans (hbq.mono HAL.out.size))
              have HGL2 : Hid (w.heap.size < w2.heap.size) := Lib.hid (by have := hbq.size; have := HZ1.out; omega)
              have HG2 : Hid (w2.heap[w.heap.size]? = some (.cells #[.int .i64 rk, .slice a n c] 28 (0, 0))) := Lib.hid ((hbq.block w.heap.size (by have := HZ1.out; omega)).trans HNW.out)
              clear hbq k0 k1 c0 c1
              have HTX : Hid (txL T = MA) := Lib.hid (by rw [HAPM.out]; rw [if_neg HNT.out])
              have HUC : Hid (w2.heap[w.heap.size]? = some (.cells #[.int .i64 rk, .slice a T.length c] 28 (0, 0))) := Lib.hid (by rw [HN.out]; exact HG2.out)
              have HMLO : Hid (lo ≤ lo1) := HL1
              have HMHI : Hid (hi1 ≤ w2.heap.size) := Lib.hid (by have := HH1.out; have := HGL2.out; omega)
              have HML : Hid (T.length ≤ 1000000) := Lib.hid (by have := HTL.out; omega)
              have HSB : Hid (szM (txL T) ≤ 1000000) := Lib.hid (by have := HTS.out; omega)
              have HSZ := Lib.hid (rsize_of rk HT2.out HSB.out HML.out)
              have HGJ := Lib.hid (fun (w' : World) (hb : Below w2.heap.size w2 w') => (hb.block w.heap.size HGL2.out).trans HUC.out)
              obtain ⟨u0, u1⟩ : w2.cell? ⟨w.heap.size, 0, none⟩ = some (.int .i64 rk) ∧ w2.cell? ⟨w.heap.size, 1, none⟩ = some (.slice a T.length c) := ⟨by rw [cell_at HUC.out]; rfl, by rw [cell_at HUC.out]; rfl⟩
              unfold rgV at HSZ
              have HTN : Hid (szM (txL T) = szM MA) := Lib.hid (by rw [HTX.out])
              obtain ⟨z, hz⟩ : ∃ z, szM (txL T) = z := ⟨_, rfl⟩
              have HZ := Lib.hid hz
              rw [hz] at HSZ
              clear hz
              obtain ⟨mt, hmt⟩ : ∃ mt, T.length = mt := ⟨_, rfl⟩
              have HMT := Lib.hid hmt
              rw [hmt] at HSZ HGJ u1
              clear hmt
              go_wp2_with fail
              refine HSZ.out.mono ?_; rintro e wp ⟨rfl, hbp⟩
              have hgp := HGJ.out wp hbp
              have HGQ := Lib.hid hgp
              have HBQ := Lib.hid (HB2.out.trans (hbp.mono HB2.out.size))
              have HRQ : Hid (Rg wp 31 lo wp.heap.size b R) := Lib.hid ((HR2.out.below hbp).mono (Nat.le_trans HR2.out.hi_ hbp.size) (Nat.le_refl _))
              have HMQ : Hid (Mx wp lo wp.heap.size a c T) := Lib.hid ((HT2.out.below hbp).mono HMLO.out (Nat.le_trans HMHI.out hbp.size))
              have v0 : wp.cell? ⟨w.heap.size, 0, none⟩ = some (.int .i64 rk) := by rw [cell_at hgp]; rfl
              have v1 : wp.cell? ⟨w.heap.size, 1, none⟩ = some (.slice a mt c) := by rw [cell_at hgp]; rfl
              clear hbp hgp u0 u1 HSZ HGJ
              by_cases h5 : 4096 < z
              · have HS : Hid (SS = (6, sem R)) := Lib.hid (by rw [HSE.out, if_pos (Or.inr (by rw [← HTN.out, HZ.out]; exact h5))])
                have d5 : decide ((4096 : Int) < (z : Int)) = true := decide_eq_true (by omega)
                go_wp2_with fail
                go_ret
                exact ⟨by rw [HS.out] <;> rfl, R, by rw [HS.out], HRQ.out, Only.of_below HBQ.out HBLT.out⟩
              · have d5 : decide ((4096 : Int) < (z : Int)) = false := decide_eq_false (by omega)
                by_cases h4 : 400 < mt
                · have HS : Hid (SS = (6, sem R)) := Lib.hid (by rw [HSE.out, if_pos (Or.inl (by rw [← HTX.out, txL_len, HMT.out]; exact h4))])
                  have d4 : decide ((400 : Int) < (mt : Int)) = true := decide_eq_true (by omega)
                  go_wp2_with fail
                  go_ret
                  exact ⟨by rw [HS.out] <;> rfl, R, by rw [HS.out], HRQ.out, Only.of_below HBQ.out HBLT.out⟩
                · have d4 : decide ((400 : Int) < (mt : Int)) = false := decide_eq_false (by omega)
                  have HS : Hid (SS = (0, ((sem R).set i (rk, MA)).set 26 (rk, MA))) := Lib.hid (by rw [HSE.out, if_neg (by rw [← HTN.out, HZ.out, ← HTX.out, txL_len, HMT.out]; omega)])
                  have HF6 : Hid (T.length ≤ 400 ∧ szM (txL T) ≤ 4096) := Lib.hid ⟨by rw [HMT.out]; omega, by rw [HZ.out]; omega⟩
                  obtain ⟨rI, hrI⟩ := HRQ.out.get (i := i) HI.out
                  obtain ⟨s0, s1⟩ := HRQ.out.cell hrI
                  have zz := fun j => unfrozen HRQ.out.obj j
                  clear h4 h5 hrI
                  have hneA : ¬ (w.heap.size = b) := by have := HBL2.out; omega
                  have hneB : ¬ (b = w.heap.size) := by have := HBL2.out; omega
                  go_upto_region 20 with fail
                  go_region_held3 (fun w' => w'.cell? ⟨w.heap.size, 0, none⟩ = some (.int .i64 rk) ∧ w'.cell? ⟨w.heap.size, 1, none⟩ = some (.slice a mt c)) (first | assumption | (refine ⟨?_, ?_⟩ <;> assumption) | go_keep) (fail)
                  all_goals
                    first
                      | rw [show ((wp.setCell ⟨b, i * 2, none⟩ (.int .i64 rk)).setCell ⟨b, i * 2 + 1, none⟩ (.slice a mt c)).drew = (set2 wp b (i * 2) (.int .i64 rk) (.slice a mt c)).drew from rfl]
                      | rw [show (wp.drew.setCell ⟨b, i * 2, none⟩ (.int .i64 rk)).setCell ⟨b, i * 2 + 1, none⟩ (.slice a mt c) = (set2 wp b (i * 2) (.int .i64 rk) (.slice a mt c)).drew from rfl]
                    have hb7 : Below (set2 wp b (i * 2) (.int .i64 rk) (.slice a mt c)).heap.size (set2 wp b (i * 2) (.int .i64 rk) (.slice a mt c)) (set2 wp b (i * 2) (.int .i64 rk) (.slice a mt c)).drew := (Below.refl _ _).drew
                    have HP7 : Hid (Rg (set2 wp b (i * 2) (.int .i64 rk) (.slice a mt c)).drew 31 lo wp.heap.size b (R.set i ⟨rk, a, c, T⟩)) := Lib.hid (by
                      have := HRQ.out.put (i := i) (r := ⟨rk, a, c, T⟩) HMQ.out HF6.out
                      simp only [HMT.out] at this
                      exact this.below hb7)
                    have HM7 : Hid (Mx (set2 wp b (i * 2) (.int .i64 rk) (.slice a mt c)).drew lo wp.heap.size a c T) := Lib.hid ((HMQ.out.keep (set2_keep (Or.inl HRQ.out.bl))).below hb7)
                    have HO7 : Hid (Only b w (set2 wp b (i * 2) (.int .i64 rk) (.slice a mt c)).drew) := Lib.hid (((Only.of_below HBQ.out HBLT.out).trans (Only.set2 (Nat.le_of_lt HRQ.out.lt))).trans (Only.of_below hb7 (by rw [set2_size]; exact Nat.le_of_lt HRQ.out.lt)))
                    have hs7 : (set2 wp b (i * 2) (.int .i64 rk) (.slice a mt c)).drew.heap.size = wp.heap.size := set2_size _ _ _ _ _
                    have g7 : (set2 wp b (i * 2) (.int .i64 rk) (.slice a mt c)).drew.heap[w.heap.size]? = some (.cells #[.int .i64 rk, .slice a mt c] 28 (0, 0)) := by
                      show (set2 wp b (i * 2) (.int .i64 rk) (.slice a mt c)).heap[w.heap.size]? = _
                      have hne : w.heap.size ≠ b := by have := HBLT.out; have := HBL2.out; omega
                      unfold set2
                      rw [heap_set_other hne, heap_set_other hne]; exact HGQ.out
                    generalize (set2 wp b (i * 2) (.int .i64 rk) (.slice a mt c)).drew = w7 at *
                    have v0 : w7.cell? ⟨w.heap.size, 0, none⟩ = some (.int .i64 rk) := by rw [cell_at g7]; rfl
                    have v1 : w7.cell? ⟨w.heap.size, 1, none⟩ = some (.slice a mt c) := by rw [cell_at g7]; rfl
                    obtain ⟨r26, h26⟩ := HP7.out.get (i := 26) (by omega)
                    obtain ⟨n0, n1⟩ := HP7.out.cell h26
                    have zz7 := fun j => unfrozen HP7.out.obj j
                    clear s0 s1 zz h26 hb7 g7
                    go_upto_region 22 with fail
                    have HP8 : Hid (Rg (set2 w7 b (26 * 2) (.int .i64 rk) (.slice a mt c)) 31 lo wp.heap.size b ((R.set i ⟨rk, a, c, T⟩).set 26 ⟨rk, a, c, T⟩)) := Lib.hid (by
                      have := HP7.out.put (i := 26) (r := ⟨rk, a, c, T⟩) HM7.out HF6.out
                      simp only [HMT.out] at this
                      exact this)
                    have HO8 : Hid (Only b w (set2 w7 b (26 * 2) (.int .i64 rk) (.slice a mt c))) := Lib.hid (HO7.out.trans (Only.set2 (Nat.le_of_lt HP7.out.lt)))
                    have hs8 : (set2 w7 b (26 * 2) (.int .i64 rk) (.slice a mt c)).heap.size = wp.heap.size := by rw [set2_size]; exact hs7
                    rw [show (w7.setCell ⟨b, 52, none⟩ (.int .i64 rk)).setCell ⟨b, 53, none⟩ (.slice a mt c) = set2 w7 b (26 * 2) (.int .i64 rk) (.slice a mt c) from rfl]
                    generalize set2 w7 b (26 * 2) (.int .i64 rk) (.slice a mt c) = w8 at *
                    clear n0 n1 v0 v1 zz7
                    go_wp2_with fail
                    go_ret
                    exact ⟨by rw [HS.out] <;> rfl, (R.set i ⟨rk, a, c, T⟩).set 26 ⟨rk, a, c, T⟩, by rw [HS.out, sem_set, sem_set, HTX.out], by rw [hs8]; exact HP8.out, HO8.out⟩
          · have t1 : (rk == k) = false := by rw [beq_eq_false_iff_ne]; exact hrk
            have HNT : Hid (¬ (x < 97 ∧ rk = k ∧ k < 2)) := Lib.hid (fun h => hrk h.2.1)
            clear hrk
            go_enter Try.func23, Try.ntmps23
            go_upto_region 1 with fail
            try rw [hw1]
            clear hw1
            go_wp2_with fail
            refine (HLT.out _).mono ?_; rintro e w3 ⟨rfl, rfl⟩
            go_wp2_with fail
            go_quiet (fail)
            have hbq : Below w1.heap.size w1 (w1.drewN nq) := Below.draws _ _
            generalize w1.drewN nq = w2 at *
            have HR2 := Lib.hid (HR1.out.below hbq)
            have HT2 := Lib.hid (HT1.out.below hbq)
            have HB2 := Lib.hid (HAL.out.trans (hbq.mono HAL.out.size))
            have HGL2 : Hid (w.heap.size < w2.heap.size) := Lib.hid (by have := hbq.size; have := HZ1.out; omega)
            have HG2 : Hid (w2.heap[w.heap.size]? = some (.cells #[.int .i64 k, .slice a n c] 28 (0, 0))) := Lib.hid ((hbq.block w.heap.size (by have := HZ1.out; omega)).trans HNW.out)
            clear hbq k0 k1 c0 c1
            have HTX : Hid (txL T = MA) := Lib.hid (by rw [HAPM.out]; rw [if_neg HNT.out])
            have HUC : Hid (w2.heap[w.heap.size]? = some (.cells #[.int .i64 k, .slice a T.length c] 28 (0, 0))) := Lib.hid (by rw [HN.out]; exact HG2.out)
            have HMLO : Hid (lo ≤ lo1) := HL1
            have HMHI : Hid (hi1 ≤ w2.heap.size) := Lib.hid (by have := HH1.out; have := HGL2.out; omega)
            have HML : Hid (T.length ≤ 1000000) := Lib.hid (by have := HTL.out; omega)
            have HSB : Hid (szM (txL T) ≤ 1000000) := Lib.hid (by have := HTS.out; omega)
            have HSZ := Lib.hid (rsize_of k HT2.out HSB.out HML.out)
            have HGJ := Lib.hid (fun (w' : World) (hb : Below w2.heap.size w2 w') => (hb.block w.heap.size HGL2.out).trans HUC.out)
            obtain ⟨u0, u1⟩ : w2.cell? ⟨w.heap.size, 0, none⟩ = some (.int .i64 k) ∧ w2.cell? ⟨w.heap.size, 1, none⟩ = some (.slice a T.length c) := ⟨by rw [cell_at HUC.out]; rfl, by rw [cell_at HUC.out]; rfl⟩
            unfold rgV at HSZ
            have HTN : Hid (szM (txL T) = szM MA) := Lib.hid (by rw [HTX.out])
            obtain ⟨z, hz⟩ : ∃ z, szM (txL T) = z := ⟨_, rfl⟩
            have HZ := Lib.hid hz
            rw [hz] at HSZ
            clear hz
            obtain ⟨mt, hmt⟩ : ∃ mt, T.length = mt := ⟨_, rfl⟩
            have HMT := Lib.hid hmt
            rw [hmt] at HSZ HGJ u1
            clear hmt
            go_wp2_with fail
            refine HSZ.out.mono ?_; rintro e wp ⟨rfl, hbp⟩
            have hgp := HGJ.out wp hbp
            have HGQ := Lib.hid hgp
            have HBQ := Lib.hid (HB2.out.trans (hbp.mono HB2.out.size))
            have HRQ : Hid (Rg wp 31 lo wp.heap.size b R) := Lib.hid ((HR2.out.below hbp).mono (Nat.le_trans HR2.out.hi_ hbp.size) (Nat.le_refl _))
            have HMQ : Hid (Mx wp lo wp.heap.size a c T) := Lib.hid ((HT2.out.below hbp).mono HMLO.out (Nat.le_trans HMHI.out hbp.size))
            have v0 : wp.cell? ⟨w.heap.size, 0, none⟩ = some (.int .i64 k) := by rw [cell_at hgp]; rfl
            have v1 : wp.cell? ⟨w.heap.size, 1, none⟩ = some (.slice a mt c) := by rw [cell_at hgp]; rfl
            clear hbp hgp u0 u1 HSZ HGJ
            by_cases h5 : 4096 < z
            · have HS : Hid (SS = (6, sem R)) := Lib.hid (by rw [HSE.out, if_pos (Or.inr (by rw [← HTN.out, HZ.out]; exact h5))])
              have d5 : decide ((4096 : Int) < (z : Int)) = true := decide_eq_true (by omega)
              go_wp2_with fail
              go_ret
              exact ⟨by rw [HS.out] <;> rfl, R, by rw [HS.out], HRQ.out, Only.of_below HBQ.out HBLT.out⟩
            · have d5 : decide ((4096 : Int) < (z : Int)) = false := decide_eq_false (by omega)
              by_cases h4 : 400 < mt
              · have HS : Hid (SS = (6, sem R)) := Lib.hid (by rw [HSE.out, if_pos (Or.inl (by rw [← HTX.out, txL_len, HMT.out]; exact h4))])
                have d4 : decide ((400 : Int) < (mt : Int)) = true := decide_eq_true (by omega)
                go_wp2_with fail
                go_ret
                exact ⟨by rw [HS.out] <;> rfl, R, by rw [HS.out], HRQ.out, Only.of_below HBQ.out HBLT.out⟩
              · have d4 : decide ((400 : Int) < (mt : Int)) = false := decide_eq_false (by omega)
                have HS : Hid (SS = (0, ((sem R).set i (k, MA)).set 26 (k, MA))) := Lib.hid (by rw [HSE.out, if_neg (by rw [← HTN.out, HZ.out, ← HTX.out, txL_len, HMT.out]; omega)])
                have HF6 : Hid (T.length ≤ 400 ∧ szM (txL T) ≤ 4096) := Lib.hid ⟨by rw [HMT.out]; omega, by rw [HZ.out]; omega⟩
                obtain ⟨rI, hrI⟩ := HRQ.out.get (i := i) HI.out
                obtain ⟨s0, s1⟩ := HRQ.out.cell hrI
                have zz := fun j => unfrozen HRQ.out.obj j
                clear h4 h5 hrI
                have hneA : ¬ (w.heap.size = b) := by have := HBL2.out; omega
                have hneB : ¬ (b = w.heap.size) := by have := HBL2.out; omega
                go_upto_region 20 with fail
                go_region_held3 (fun w' => w'.cell? ⟨w.heap.size, 0, none⟩ = some (.int .i64 k) ∧ w'.cell? ⟨w.heap.size, 1, none⟩ = some (.slice a mt c)) (first | assumption | (refine ⟨?_, ?_⟩ <;> assumption) | go_keep) (fail)
                all_goals
                  first
                    | rw [show ((wp.setCell ⟨b, i * 2, none⟩ (.int .i64 k)).setCell ⟨b, i * 2 + 1, none⟩ (.slice a mt c)).drew = (set2 wp b (i * 2) (.int .i64 k) (.slice a mt c)).drew from rfl]
                    | rw [show (wp.drew.setCell ⟨b, i * 2, none⟩ (.int .i64 k)).setCell ⟨b, i * 2 + 1, none⟩ (.slice a mt c) = (set2 wp b (i * 2) (.int .i64 k) (.slice a mt c)).drew from rfl]
                  have hb7 : Below (set2 wp b (i * 2) (.int .i64 k) (.slice a mt c)).heap.size (set2 wp b (i * 2) (.int .i64 k) (.slice a mt c)) (set2 wp b (i * 2) (.int .i64 k) (.slice a mt c)).drew := (Below.refl _ _).drew
                  have HP7 : Hid (Rg (set2 wp b (i * 2) (.int .i64 k) (.slice a mt c)).drew 31 lo wp.heap.size b (R.set i ⟨k, a, c, T⟩)) := Lib.hid (by
                    have := HRQ.out.put (i := i) (r := ⟨k, a, c, T⟩) HMQ.out HF6.out
                    simp only [HMT.out] at this
                    exact this.below hb7)
                  have HM7 : Hid (Mx (set2 wp b (i * 2) (.int .i64 k) (.slice a mt c)).drew lo wp.heap.size a c T) := Lib.hid ((HMQ.out.keep (set2_keep (Or.inl HRQ.out.bl))).below hb7)
                  have HO7 : Hid (Only b w (set2 wp b (i * 2) (.int .i64 k) (.slice a mt c)).drew) := Lib.hid (((Only.of_below HBQ.out HBLT.out).trans (Only.set2 (Nat.le_of_lt HRQ.out.lt))).trans (Only.of_below hb7 (by rw [set2_size]; exact Nat.le_of_lt HRQ.out.lt)))
                  have hs7 : (set2 wp b (i * 2) (.int .i64 k) (.slice a mt c)).drew.heap.size = wp.heap.size := set2_size _ _ _ _ _
                  have g7 : (set2 wp b (i * 2) (.int .i64 k) (.slice a mt c)).drew.heap[w.heap.size]? = some (.cells #[.int .i64 k, .slice a mt c] 28 (0, 0)) := by
                    show (set2 wp b (i * 2) (.int .i64 k) (.slice a mt c)).heap[w.heap.size]? = _
                    have hne : w.heap.size ≠ b := by have := HBLT.out; have := HBL2.out; omega
                    unfold set2
                    rw [heap_set_other hne, heap_set_other hne]; exact HGQ.out
                  generalize (set2 wp b (i * 2) (.int .i64 k) (.slice a mt c)).drew = w7 at *
                  have v0 : w7.cell? ⟨w.heap.size, 0, none⟩ = some (.int .i64 k) := by rw [cell_at g7]; rfl
                  have v1 : w7.cell? ⟨w.heap.size, 1, none⟩ = some (.slice a mt c) := by rw [cell_at g7]; rfl
                  obtain ⟨r26, h26⟩ := HP7.out.get (i := 26) (by omega)
                  obtain ⟨n0, n1⟩ := HP7.out.cell h26
                  have zz7 := fun j => unfrozen HP7.out.obj j
                  clear s0 s1 zz h26 hb7 g7
                  go_upto_region 22 with fail
                  have HP8 : Hid (Rg (set2 w7 b (26 * 2) (.int .i64 k) (.slice a mt c)) 31 lo wp.heap.size b ((R.set i ⟨k, a, c, T⟩).set 26 ⟨k, a, c, T⟩)) := Lib.hid (by
                    have := HP7.out.put (i := 26) (r := ⟨k, a, c, T⟩) HM7.out HF6.out
                    simp only [HMT.out] at this
                    exact this)
                  have HO8 : Hid (Only b w (set2 w7 b (26 * 2) (.int .i64 k) (.slice a mt c))) := Lib.hid (HO7.out.trans (Only.set2 (Nat.le_of_lt HP7.out.lt)))
                  have hs8 : (set2 w7 b (26 * 2) (.int .i64 k) (.slice a mt c)).heap.size = wp.heap.size := by rw [set2_size]; exact hs7
                  rw [show (w7.setCell ⟨b, 52, none⟩ (.int .i64 k)).setCell ⟨b, 53, none⟩ (.slice a mt c) = set2 w7 b (26 * 2) (.int .i64 k) (.slice a mt c) from rfl]
                  generalize set2 w7 b (26 * 2) (.int .i64 k) (.slice a mt c) = w8 at *
                  clear n0 n1 v0 v1 zz7
                  go_wp2_with fail
                  go_ret
                  exact ⟨by rw [HS.out] <;> rfl, (R.set i ⟨k, a, c, T⟩).set 26 ⟨k, a, c, T⟩, by rw [HS.out, sem_set, sem_set, HTX.out], by rw [hs8]; exact HP8.out, HO8.out⟩
        · have t0 : decide (x < 97) = false := decide_eq_false hx97
          have HNT : Hid (¬ (x < 97 ∧ rk = k ∧ k < 2)) := Lib.hid (fun h => hx97 h.1)
          go_enter Try.func23, Try.ntmps23
          go_upto_region 1 with fail
          try rw [hw1]
          clear hw1
          go_wp2_with fail
          refine (HLT.out _).mono ?_; rintro e w3 ⟨rfl, rfl⟩
          go_wp2_with fail
          go_quiet (fail)
          have hbq : Below w1.heap.size w1 (w1.drewN nq) := Below.draws _ _
          generalize w1.drewN nq = w2 at *
          have HR2 := Lib.hid (HR1.out.below hbq)
          have HT2 := Lib.hid (HT1.out.below hbq)
          have HB2 := Lib.hid (HAL.out.trans (hbq.mono HAL.out.size))
          have HGL2 : Hid (w.heap.size < w2.heap.size) := Lib.hid (by have := hbq.size; have := HZ1.out; omega)
          have HG2 : Hid (w2.heap[w.heap.size]? = some (.cells #[.int .i64 k, .slice a n c] 28 (0, 0))) := Lib.hid ((hbq.block w.heap.size (by have := HZ1.out; omega)).trans HNW.out)
          clear hbq k0 k1 c0 c1
          have HTX : Hid (txL T = MA) := Lib.hid (by rw [HAPM.out]; rw [if_neg HNT.out])
          have HUC : Hid (w2.heap[w.heap.size]? = some (.cells #[.int .i64 k, .slice a T.length c] 28 (0, 0))) := Lib.hid (by rw [HN.out]; exact HG2.out)
          have HMLO : Hid (lo ≤ lo1) := HL1
          have HMHI : Hid (hi1 ≤ w2.heap.size) := Lib.hid (by have := HH1.out; have := HGL2.out; omega)
          have HML : Hid (T.length ≤ 1000000) := Lib.hid (by have := HTL.out; omega)
          have HSB : Hid (szM (txL T) ≤ 1000000) := Lib.hid (by have := HTS.out; omega)
          have HSZ := Lib.hid (rsize_of k HT2.out HSB.out HML.out)
          have HGJ := Lib.hid (fun (w' : World) (hb : Below w2.heap.size w2 w') => (hb.block w.heap.size HGL2.out).trans HUC.out)
          obtain ⟨u0, u1⟩ : w2.cell? ⟨w.heap.size, 0, none⟩ = some (.int .i64 k) ∧ w2.cell? ⟨w.heap.size, 1, none⟩ = some (.slice a T.length c) := ⟨by rw [cell_at HUC.out]; rfl, by rw [cell_at HUC.out]; rfl⟩
          unfold rgV at HSZ
          have HTN : Hid (szM (txL T) = szM MA) := Lib.hid (by rw [HTX.out])
          obtain ⟨z, hz⟩ : ∃ z, szM (txL T) = z := ⟨_, rfl⟩
          have HZ := Lib.hid hz
          rw [hz] at HSZ
          clear hz
          obtain ⟨mt, hmt⟩ : ∃ mt, T.length = mt := ⟨_, rfl⟩
          have HMT := Lib.hid hmt
          rw [hmt] at HSZ HGJ u1
          clear hmt
          go_wp2_with fail
          refine HSZ.out.mono ?_; rintro e wp ⟨rfl, hbp⟩
          have hgp := HGJ.out wp hbp
          have HGQ := Lib.hid hgp
          have HBQ := Lib.hid (HB2.out.trans (hbp.mono HB2.out.size))
          have HRQ : Hid (Rg wp 31 lo wp.heap.size b R) := Lib.hid ((HR2.out.below hbp).mono (Nat.le_trans HR2.out.hi_ hbp.size) (Nat.le_refl _))
          have HMQ : Hid (Mx wp lo wp.heap.size a c T) := Lib.hid ((HT2.out.below hbp).mono HMLO.out (Nat.le_trans HMHI.out hbp.size))
          have v0 : wp.cell? ⟨w.heap.size, 0, none⟩ = some (.int .i64 k) := by rw [cell_at hgp]; rfl
          have v1 : wp.cell? ⟨w.heap.size, 1, none⟩ = some (.slice a mt c) := by rw [cell_at hgp]; rfl
          clear hbp hgp u0 u1 HSZ HGJ
          by_cases h5 : 4096 < z
          · have HS : Hid (SS = (6, sem R)) := Lib.hid (by rw [HSE.out, if_pos (Or.inr (by rw [← HTN.out, HZ.out]; exact h5))])
            have d5 : decide ((4096 : Int) < (z : Int)) = true := decide_eq_true (by omega)
            go_wp2_with fail
            go_ret
            exact ⟨by rw [HS.out] <;> rfl, R, by rw [HS.out], HRQ.out, Only.of_below HBQ.out HBLT.out⟩
          · have d5 : decide ((4096 : Int) < (z : Int)) = false := decide_eq_false (by omega)
            by_cases h4 : 400 < mt
            · have HS : Hid (SS = (6, sem R)) := Lib.hid (by rw [HSE.out, if_pos (Or.inl (by rw [← HTX.out, txL_len, HMT.out]; exact h4))])
              have d4 : decide ((400 : Int) < (mt : Int)) = true := decide_eq_true (by omega)
              go_wp2_with fail
              go_ret
              exact ⟨by rw [HS.out] <;> rfl, R, by rw [HS.out], HRQ.out, Only.of_below HBQ.out HBLT.out⟩
            · have d4 : decide ((400 : Int) < (mt : Int)) = false := decide_eq_false (by omega)
              have HS : Hid (SS = (0, ((sem R).set i (k, MA)).set 26 (k, MA))) := Lib.hid (by rw [HSE.out, if_neg (by rw [← HTN.out, HZ.out, ← HTX.out, txL_len, HMT.out]; omega)])
              have HF6 : Hid (T.length ≤ 400 ∧ szM (txL T) ≤ 4096) := Lib.hid ⟨by rw [HMT.out]; omega, by rw [HZ.out]; omega⟩
              obtain ⟨rI, hrI⟩ := HRQ.out.get (i := i) HI.out
              obtain ⟨s0, s1⟩ := HRQ.out.cell hrI
              have zz := fun j => unfrozen HRQ.out.obj j
              clear h4 h5 hrI
              have hneA : ¬ (w.heap.size = b) := by have := HBL2.out; omega
              have hneB : ¬ (b = w.heap.size) := by have := HBL2.out; omega
              go_upto_region 20 with fail
              go_region_held3 (fun w' => w'.cell? ⟨w.heap.size, 0, none⟩ = some (.int .i64 k) ∧ w'.cell? ⟨w.heap.size, 1, none⟩ = some (.slice a mt c)) (first | assumption | (refine ⟨?_, ?_⟩ <;> assumption) | go_keep) (fail)
              all_goals
                first
                  | rw [show ((wp.setCell ⟨b, i * 2, none⟩ (.int .i64 k)).setCell ⟨b, i * 2 + 1, none⟩ (.slice a mt c)).drew = (set2 wp b (i * 2) (.int .i64 k) (.slice a mt c)).drew from rfl]
                  | rw [show (wp.drew.setCell ⟨b, i * 2, none⟩ (.int .i64 k)).setCell ⟨b, i * 2 + 1, none⟩ (.slice a mt c) = (set2 wp b (i * 2) (.int .i64 k) (.slice a mt c)).drew from rfl]
                have hb7 : Below (set2 wp b (i * 2) (.int .i64 k) (.slice a mt c)).heap.size (set2 wp b (i * 2) (.int .i64 k) (.slice a mt c)) (set2 wp b (i * 2) (.int .i64 k) (.slice a mt c)).drew := (Below.refl _ _).drew
                have HP7 : Hid (Rg (set2 wp b (i * 2) (.int .i64 k) (.slice a mt c)).drew 31 lo wp.heap.size b (R.set i ⟨k, a, c, T⟩)) := Lib.hid (by
                  have := HRQ.out.put (i := i) (r := ⟨k, a, c, T⟩) HMQ.out HF6.out
                  simp only [HMT.out] at this
                  exact this.below hb7)
                have HM7 : Hid (Mx (set2 wp b (i * 2) (.int .i64 k) (.slice a mt c)).drew lo wp.heap.size a c T) := Lib.hid ((HMQ.out.keep (set2_keep (Or.inl HRQ.out.bl))).below hb7)
                have HO7 : Hid (Only b w (set2 wp b (i * 2) (.int .i64 k) (.slice a mt c)).drew) := Lib.hid (((Only.of_below HBQ.out HBLT.out).trans (Only.set2 (Nat.le_of_lt HRQ.out.lt))).trans (Only.of_below hb7 (by rw [set2_size]; exact Nat.le_of_lt HRQ.out.lt)))
                have hs7 : (set2 wp b (i * 2) (.int .i64 k) (.slice a mt c)).drew.heap.size = wp.heap.size := set2_size _ _ _ _ _
                have g7 : (set2 wp b (i * 2) (.int .i64 k) (.slice a mt c)).drew.heap[w.heap.size]? = some (.cells #[.int .i64 k, .slice a mt c] 28 (0, 0)) := by
                  show (set2 wp b (i * 2) (.int .i64 k) (.slice a mt c)).heap[w.heap.size]? = _
                  have hne : w.heap.size ≠ b := by have := HBLT.out; have := HBL2.out; omega
                  unfold set2
                  rw [heap_set_other hne, heap_set_other hne]; exact HGQ.out
                generalize (set2 wp b (i * 2) (.int .i64 k) (.slice a mt c)).drew = w7 at *
                have v0 : w7.cell? ⟨w.heap.size, 0, none⟩ = some (.int .i64 k) := by rw [cell_at g7]; rfl
                have v1 : w7.cell? ⟨w.heap.size, 1, none⟩ = some (.slice a mt c) := by rw [cell_at g7]; rfl
                obtain ⟨r26, h26⟩ := HP7.out.get (i := 26) (by omega)
                obtain ⟨n0, n1⟩ := HP7.out.cell h26
                have zz7 := fun j => unfrozen HP7.out.obj j
                clear s0 s1 zz h26 hb7 g7
                go_upto_region 22 with fail
                have HP8 : Hid (Rg (set2 w7 b (26 * 2) (.int .i64 k) (.slice a mt c)) 31 lo wp.heap.size b ((R.set i ⟨k, a, c, T⟩).set 26 ⟨k, a, c, T⟩)) := Lib.hid (by
                  have := HP7.out.put (i := 26) (r := ⟨k, a, c, T⟩) HM7.out HF6.out
                  simp only [HMT.out] at this
                  exact this)
                have HO8 : Hid (Only b w (set2 w7 b (26 * 2) (.int .i64 k) (.slice a mt c))) := Lib.hid (HO7.out.trans (Only.set2 (Nat.le_of_lt HP7.out.lt)))
                have hs8 : (set2 w7 b (26 * 2) (.int .i64 k) (.slice a mt c)).heap.size = wp.heap.size := by rw [set2_size]; exact hs7
                rw [show (w7.setCell ⟨b, 52, none⟩ (.int .i64 k)).setCell ⟨b, 53, none⟩ (.slice a mt c) = set2 w7 b (26 * 2) (.int .i64 k) (.slice a mt c) from rfl]
                generalize set2 w7 b (26 * 2) (.int .i64 k) (.slice a mt c) = w8 at *
                clear n0 n1 v0 v1 zz7
                go_wp2_with fail
                go_ret
                exact ⟨by rw [HS.out] <;> rfl, (R.set i ⟨k, a, c, T⟩).set 26 ⟨k, a, c, T⟩, by rw [HS.out, sem_set, sem_set, HTX.out], by rw [hs8]; exact HP8.out, HO8.out⟩

end Go.Proofs.Yteipnllefifgiaa
