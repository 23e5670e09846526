/-
  Have registers what the document's have: like; at this seat's numbers.
-/
import Derived.Test.YteipnllefifgiaaRgU
import Derived.Test.YteipnllefifgiaaRgV
import Derived.Deep.RegionHeld3
namespace Go.Proofs.Yteipnllefifgiaa
open Go Go.RowKit
set_option linter.unusedVariables false

theorem namN_yes {S : List RV} {j : Nat} (h : 0 < (gR S j).2.length) : namN S (j + 1) = namN S j ++ [97 + (j : Int)] := by
  show (if 0 < (gR S j).2.length then _ else _) = _
  rw [if_pos h]
theorem namN_no {S : List RV} {j : Nat} (h : ¬ 0 < (gR S j).2.length) : namN S (j + 1) = namN S j := by
  show (if 0 < (gR S j).2.length then _ else _) = _
  rw [if_neg h]
theorem namN_pre (S : List RV) (j : Nat) : ∀ m, j ≤ m → ∃ L, namN S m = namN S j ++ L := by
  intro m
  induction m with
  | zero =>
    intro h
    have hj : j = 0 := by omega
    subst hj
    exact ⟨[], by simp⟩
  | succ m ih =>
    intro h
    by_cases hj : j = m + 1
    · subst hj; exact ⟨[], by simp⟩
    · obtain ⟨L, hL⟩ := ih (by omega)
      by_cases h0 : 0 < (gR S m).2.length
      · exact ⟨L ++ [97 + (m : Int)], by rw [namN_yes h0, hL, List.append_assoc]⟩
      · exact ⟨L, by rw [namN_no h0, hL]⟩
theorem namN_at {S : List RV} {j : Nat} (h : 0 < (gR S j).2.length) (hj : j < 26) : (namN S 26)[(namN S j).length]? = some (97 + (j : Int)) := by
  obtain ⟨L, hL⟩ := namN_pre S (j + 1) 26 (by omega)
  rw [hL, namN_yes h, List.append_assoc, List.getElem?_append_right (Nat.le_refl _), Nat.sub_self]; rfl

/-- Registers that have nothing are of the first kind. -/
def Zk (S : List RV) : Prop := ∀ i, (gR S i).2 = [] → (gR S i).1 = 0
/-- What Get of a name tells. -/
def look (S : List RV) (x : Int) : Int × List (List ByteArray) × Bool :=
  match regI x with
  | none => (0, [], false)
  | some i => ((gR S i).1, (gR S i).2, decide (0 < (gR S i).2.length))
def GIn (S : List RV) (x : Int) (w : World) (e : Ending) (w' : World) : Prop :=
  ∃ (a : Option Addr) (c : Nat) (T : List TxM), e = .returned (.tuple #[.agg #[.int .i64 (look S x).1, .slice a T.length c], .bool (look S x).2.2]) ∧ txL T = (look S x).2.1 ∧ T.length ≤ 400 ∧ szM (txL T) ≤ 4096 ∧ (∃ lo hi, Mx w' lo hi a c T) ∧ Below w.heap.size w w'
theorem get_in {w : World} {t lo hi b : Nat} {R : List Rv} (H : Rg w t lo hi b R) (hz : Zk (sem R)) (x : Int) : Calls Try.prog 13 #[.pointer (some ⟨b, 0, none⟩), .int .i64 x] w (GIn (sem R) x w) := by
  cases hr : regI x with
  | none =>
    have e : look (sem R) x = (0, [], false) := by unfold look; rw [hr]
    refine (get_no H x (fun i r h => by rw [hr] at h; cases h)).mono ?_
    rintro e' w' ⟨rfl, hb⟩
    exact ⟨none, 0, [], by rw [e]; rfl, by rw [e]; rfl, Nat.zero_le _, Nat.zero_le _, ⟨0, 0, Mx.nil _ _ _⟩, hb⟩
  | some i =>
    obtain ⟨r, hir⟩ := H.get (regI_lt hr)
    have hg := gR_at hir
    have e : look (sem R) x = (r.k, txL r.T, decide (0 < r.T.length)) := by unfold look; rw [hr]; simp only [hg]; rw [txL_len]
    have hf := H.few r (List.mem_of_getElem? hir)
    by_cases h0 : 0 < r.T.length
    · refine (get_yes H x hr hir h0).mono ?_
      rintro e' w' ⟨a, c, T, h1, h2, rfl, ⟨h3, _⟩, hb⟩
      exact ⟨a, c, T, by rw [e, h1, decide_eq_true h0]; rfl, by rw [e, h2], by rw [h1]; exact hf.1, by rw [h2]; exact hf.2, ⟨_, _, h3⟩, hb⟩
    · have hT : r.T.length = 0 := by omega
      have hT2 : txL r.T = [] := List.eq_nil_of_length_eq_zero (by rw [txL_len]; exact hT)
      have hk : r.k = 0 := by have := hz i (by rw [hg]; exact hT2); rw [hg] at this; exact this
      refine (get_no H x (fun i' r' h h' => by rw [hr] at h; cases h; rw [hir] at h'; cases h'; exact hT)).mono ?_
      rintro e' w' ⟨rfl, hb⟩
      exact ⟨none, 0, [], by rw [e, hk, decide_eq_false h0]; rfl, by rw [e, hT2]; rfl, Nat.zero_le _, Nat.zero_le _, ⟨0, 0, Mx.nil _ _ _⟩, hb⟩
theorem rget_in {w : World} {t lo hi b : Nat} {R : List Rv} (H : Rg w t lo hi b R) (x : Int) : Calls Try.prog 25 #[.pointer (some ⟨b, 0, none⟩), .int .i64 x] w (GIn (sem R) x w) := by
  cases hr : regI x with
  | none =>
    have e : look (sem R) x = (0, [], false) := by unfold look; rw [hr]
    refine (rget_no H x hr).mono ?_
    rintro e' w' ⟨rfl, hb⟩
    exact ⟨none, 0, [], by rw [e]; rfl, by rw [e]; rfl, Nat.zero_le _, Nat.zero_le _, ⟨0, 0, Mx.nil _ _ _⟩, hb⟩
  | some i =>
    obtain ⟨r, hir⟩ := H.get (regI_lt hr)
    have hg := gR_at hir
    have e : look (sem R) x = (r.k, txL r.T, decide (0 < r.T.length)) := by unfold look; rw [hr]; simp only [hg]; rw [txL_len]
    have hmem := List.mem_of_getElem? hir
    have hf := H.few r hmem
    refine (rget_yes H x hr hir).mono ?_
    rintro e' w' ⟨rfl, hb⟩
    exact ⟨r.a, r.c, r.T, by rw [e]; rfl, by rw [e], hf.1, hf.2, ⟨_, _, (H.mx r hmem).below hb⟩, hb⟩

set_option maxRecDepth 100000 in
set_option maxHeartbeats 16000000 in
theorem like_of {w : World} {t t' lo hi lo' hi' b b' : Nat} {R R' : List Rv} (H : Rg w t lo hi b R) (H' : Rg w t' lo' hi' b' R') (hs : sem R' = sem R) (hz : Zk (sem R)) (x : Int) :
    Calls Try.prog 9 #[.pointer (some ⟨b, 0, none⟩), .pointer (some ⟨b', 0, none⟩), .int .i64 x] w fun e w' => e = .returned (.bool true) ∧ Below w.heap.size w w' := by
  have HNM := Lib.hid (names_of H)
  have HG := Lib.hid (fun (y : Int) (w' : World) (hb : Below w.heap.size w w') => get_in (H.below hb) hz y)
  have HR := Lib.hid (fun (y : Int) (w' : World) (hb : Below w.heap.size w w') => rget_in (H'.below hb) y)
  rw [hs] at HR
  have HZ := Lib.hid (fun (w' : World) (hb : Below w.heap.size w w') => gsize_of (H.below hb))
  have HA := Lib.hid (fun (w' : World) (hb : Below w.heap.size w w') => rall_of (H'.below hb))
  rw [hs] at HA
  generalize sem R = S at *
  clear H H' hs hz
  unfold GIn at HG HR
  go_enter Try.func9, Try.ntmps9
  go_wp2_with fail
  refine HNM.out.mono ?_; rintro e w1 ⟨an, cn, rfl, hsl, hb1⟩
  have HSL := Lib.hid hsl
  have HB1 := Lib.hid hb1
  obtain ⟨N, hN⟩ : ∃ N, (namN S 26).length = N := ⟨_, rfl⟩
  have HN := Lib.hid hN
  have hN26 : N ≤ 26 := by rw [← hN]; exact namN_len _ _
  rw [hN]
  clear hsl hb1 hN HNM
  go_wp2_with fail
  go_loopw [7, 9] (fun v7 v9 wr => ∃ i : Nat, v7 = .int .i64 ((namN S (i - 1)).length : Nat) ∧ v9 = .int .i64 ((i : Int) - 1) ∧ i ≤ 27 ∧ Below w1.heap.size w1 wr) (fun _ v9 _ => 27 - (intOf v9 + 1).toNat)
  case atStart => exact ⟨0, rfl, rfl, by omega, Below.refl _ _⟩
  case round =>
    obtain ⟨wq, rfl⟩ : ∃ wq : World, wq = wr := ⟨_, rfl⟩
    obtain ⟨i, rfl, rfl, hii, hbq⟩ := hrel
    have HBQ := Lib.hid hbq
    have HBW := Lib.hid (HB1.out.trans (hbq.mono HB1.out.size))
    clear hbq
    by_cases hlt : i < 27
    · have dt : decide ((i : Int) - 1 < 26) = true := decide_eq_true (by omega)
      cases i with
      | zero =>
        obtain ⟨lk, M, ok, hlk⟩ : ∃ lk M ok, look S 0 = (lk, M, ok) := ⟨_, _, _, rfl⟩

        have HGK := Lib.hid (HG.out 0 wq HBW.out)
        rw [hlk] at HGK
        go_wp2_with fail
        refine HGK.out.mono ?_; rintro e w2 ⟨a2, c2, T2, rfl, ht2, hl2, hs2, ⟨lo2, hi2, hm2⟩, hb2⟩
        have al3 := t_al w2 (.cells #[.int .i64 lk, .slice a2 T2.length c2] 41)
        have hn3 := heap_alloc_new w2 (.cells #[.int .i64 lk, .slice a2 T2.length c2] 41)
        go_upto_region 10 with fail
        generalize w2.alloc (.cells #[.int .i64 lk, .slice a2 T2.length c2] 41) = w3 at *
        have HM3 := Lib.hid (hm2.below al3)
        have HB3 := Lib.hid ((HBW.out.trans (hb2.mono HBW.out.size)).trans (al3.mono (HBW.out.trans (hb2.mono HBW.out.size)).size))
        have HK3 := Lib.hid ((HBQ.out.trans (hb2.mono HBQ.out.size)).trans (al3.mono (HBQ.out.trans (hb2.mono HBQ.out.size)).size))
        have HN3 := Lib.hid hn3
        have HT2 := Lib.hid (And.intro ht2 (And.intro hl2 hs2))
        have HRK := Lib.hid (HR.out 0 w3 HB3.out)
        rw [hlk] at HRK
        clear hm2 hb2 al3 hn3 ht2 hl2 hs2 HGK
        go_wp2_with fail
        refine HRK.out.mono ?_; rintro e w4 ⟨a4, c4, T4, rfl, ht4, hl4, hs4, ⟨lo4, hi4, hm4⟩, hb4⟩
        have al5 := t_al w4 (.cells #[.int .i64 lk, .slice a4 T4.length c4] 28)
        have hn5 := heap_alloc_new w4 (.cells #[.int .i64 lk, .slice a4 T4.length c4] 28)
        go_upto_region 11 with fail
        generalize w4.alloc (.cells #[.int .i64 lk, .slice a4 T4.length c4] 28) = w5 at *
        have HM5 := Lib.hid (hm4.below al5)
        have hb35 : Below w3.heap.size w3 w5 := hb4.trans (al5.mono hb4.size)
        have HM3' := Lib.hid (HM3.out.below hb35)
        have HB5 := Lib.hid (HB3.out.trans (hb35.mono HB3.out.size))
        have HK5 := Lib.hid (HK3.out.trans (hb35.mono HK3.out.size))
        have gx := (hb35.block w2.heap.size (lt_of_heap HN3.out)).trans HN3.out
        have ltX := lt_of_heap gx
        have ltY := lt_of_heap hn5
        have HEQ : Hid (txL T2 = txL T4) := Lib.hid (HT2.out.1.trans ht4.symm)
        have ld0 := fun w' (hb : Below w5.heap.size w5 w') => (hb.cell (p := ⟨w2.heap.size, 0, none⟩) ltX).trans ((cell_at gx 0).trans rfl)
        have ld1 := fun w' (hb : Below w5.heap.size w5 w') => (hb.cell (p := ⟨w2.heap.size, 1, none⟩) ltX).trans ((cell_at gx 1).trans rfl)
        have ld2 := fun w' (hb : Below w5.heap.size w5 w') => (hb.cell (p := ⟨w4.heap.size, 0, none⟩) ltY).trans ((cell_at hn5 0).trans rfl)
        have ld3 := fun w' (hb : Below w5.heap.size w5 w') => (hb.cell (p := ⟨w4.heap.size, 1, none⟩) ltY).trans ((cell_at hn5 1).trans rfl)
        have D1 := Lib.hid (fun (w' : World) => ours_of lk a2 T2.length c2 w')
        unfold rgV at D1
        have D2 : Hid (∀ w', Below w5.heap.size w5 w' → Calls Try.prog 16 #[.agg #[.int .i64 lk, .slice a2 T2.length c2], .agg #[.int .i64 lk, .slice a4 T4.length c4]] w' fun e w'' => e = .returned (.bool true) ∧ Below w'.heap.size w' w'') := Lib.hid (fun w' hb => by
          have h := rrgsame_of lk lk (HM3'.out.below hb) (HM5.out.below hb) (by have := HT2.out.2.1; omega) (thin_of (by have := HT2.out.2.2; omega))
          rw [decide_eq_true ⟨rfl, HEQ.out⟩] at h
          exact h)
        have hb50 : Below w5.heap.size w5 w5.drew := (Below.refl _ w5).drew
        clear hm4 hb4 al5 hn5 hl4 hs4 ht4 hb35 gx ltX ltY HRK
        generalize T2.length = m2 at *
        generalize T4.length = m4 at *

        have dok : (ok != ok) = false := by simp
        clear hlk
        cases ok
        · go_region_held3 (fun w' => Below w5.heap.size w5 w') (first | assumption)
            (first
              | (go_at_call 17; with_reducible refine (D1.out _).mono ?_; rintro e w6 ⟨rfl, hb6'⟩; have hb6 : Below w5.heap.size w5 w6 := Below.trans (by assumption) (hb6'.mono (Below.size (by assumption))); clear hb6')
              | (go_at_call 16; with_reducible refine (D2.out _ (by assumption)).mono ?_; rintro e w6 ⟨rfl, hb6'⟩; have hb6 : Below w5.heap.size w5 w6 := Below.trans (by assumption) (hb6'.mono (Below.size (by assumption))); clear hb6'))

          all_goals
            have hbz : Below w5.heap.size w5 w6 := by assumption
            have HB6 : Hid (Below w1.heap.size w1 w6) := Lib.hid (HK5.out.trans (hbz.mono HK5.out.size))
            clear hbz ld0 ld1 ld2 ld3
            go_wp2_with fail
            go_roundw
            case rel => exact ⟨1, by go_num, by go_num, by omega, HB6.out⟩
            case measure => simp [intOf]
        · go_region_held3 (fun w' => Below w5.heap.size w5 w') (first | assumption)
            (first
              | (go_at_call 17; with_reducible refine (D1.out _).mono ?_; rintro e w6 ⟨rfl, hb6'⟩; have hb6 : Below w5.heap.size w5 w6 := Below.trans (by assumption) (hb6'.mono (Below.size (by assumption))); clear hb6')
              | (go_at_call 16; with_reducible refine (D2.out _ (by assumption)).mono ?_; rintro e w6 ⟨rfl, hb6'⟩; have hb6 : Below w5.heap.size w5 w6 := Below.trans (by assumption) (hb6'.mono (Below.size (by assumption))); clear hb6'))

          all_goals
            have hbz : Below w5.heap.size w5 w6 := by assumption
            have HB6 : Hid (Below w1.heap.size w1 w6) := Lib.hid (HK5.out.trans (hbz.mono HK5.out.size))
            clear hbz ld0 ld1 ld2 ld3
            go_wp2_with fail
            go_roundw
            case rel => exact ⟨1, by go_num, by go_num, by omega, HB6.out⟩
            case measure => simp [intOf]
      | succ j =>
        have hj : j < 26 := by omega
        rw [show ((j + 1 : Nat) : Int) - 1 = (j : Int) by omega, Nat.add_sub_cancel] at *
        have hrI : regI (97 + (j : Int)) = some j := by
          have hl : letK (97 + (j : Int)) = j := by unfold letK; rw [if_pos (by omega)]; omega
          unfold regI; rw [hl, if_pos (by omega), Int.toNat_natCast]
        have hlk : look S (97 + (j : Int)) = ((gR S j).1, (gR S j).2, decide (0 < (gR S j).2.length)) := by unfold look; rw [hrI]
        have HQ : Hid ((namN S (j + 1)).length = if 0 < (gR S j).2.length then (namN S j).length + 1 else (namN S j).length) := Lib.hid (by
          by_cases h0 : 0 < (gR S j).2.length
          · rw [namN_yes h0, if_pos h0]; simp
          · rw [namN_no h0, if_neg h0])
        have HQ26 := namN_len S j
        have HAT := Lib.hid (fun h0 => namN_at (S := S) (j := j) h0 hj)
        generalize gR S j = gj at *
        obtain ⟨lk, M⟩ := gj
        simp only [] at hlk HQ HAT
        obtain ⟨q, hq⟩ : ∃ q, (namN S j).length = q := ⟨_, rfl⟩
        rw [hq] at HQ HQ26 HAT ⊢
        have HQE := Lib.hid hq
        clear hrI hq
        obtain ⟨ok, hok⟩ : ∃ ok, decide (0 < M.length) = ok := ⟨_, rfl⟩
        have HOK := Lib.hid hok
        rw [hok] at hlk
        clear hok
        have kw : IntKind.i64.wrap (97 + (j : Int)) = 97 + (j : Int) := by rw [IntKind.wrap_i64]; omega
        have dk0 : decide ((j : Int) < 0) = false := decide_eq_false (by omega)
        have dk1 : decide ((0 : Int) ≤ (j : Int)) = true := decide_eq_true (by omega)

        have HGK := Lib.hid (HG.out (97 + (j : Int)) wq HBW.out)
        rw [hlk] at HGK
        go_wp2_with fail
        refine HGK.out.mono ?_; rintro e w2 ⟨a2, c2, T2, rfl, ht2, hl2, hs2, ⟨lo2, hi2, hm2⟩, hb2⟩
        have al3 := t_al w2 (.cells #[.int .i64 lk, .slice a2 T2.length c2] 41)
        have hn3 := heap_alloc_new w2 (.cells #[.int .i64 lk, .slice a2 T2.length c2] 41)
        go_upto_region 10 with fail
        generalize w2.alloc (.cells #[.int .i64 lk, .slice a2 T2.length c2] 41) = w3 at *
        have HM3 := Lib.hid (hm2.below al3)
        have HB3 := Lib.hid ((HBW.out.trans (hb2.mono HBW.out.size)).trans (al3.mono (HBW.out.trans (hb2.mono HBW.out.size)).size))
        have HK3 := Lib.hid ((HBQ.out.trans (hb2.mono HBQ.out.size)).trans (al3.mono (HBQ.out.trans (hb2.mono HBQ.out.size)).size))
        have HN3 := Lib.hid hn3
        have HT2 := Lib.hid (And.intro ht2 (And.intro hl2 hs2))
        have HRK := Lib.hid (HR.out (97 + (j : Int)) w3 HB3.out)
        rw [hlk] at HRK
        clear hm2 hb2 al3 hn3 ht2 hl2 hs2 HGK
        go_wp2_with fail
        refine HRK.out.mono ?_; rintro e w4 ⟨a4, c4, T4, rfl, ht4, hl4, hs4, ⟨lo4, hi4, hm4⟩, hb4⟩
        have al5 := t_al w4 (.cells #[.int .i64 lk, .slice a4 T4.length c4] 28)
        have hn5 := heap_alloc_new w4 (.cells #[.int .i64 lk, .slice a4 T4.length c4] 28)
        go_upto_region 11 with fail
        generalize w4.alloc (.cells #[.int .i64 lk, .slice a4 T4.length c4] 28) = w5 at *
        have HM5 := Lib.hid (hm4.below al5)
        have hb35 : Below w3.heap.size w3 w5 := hb4.trans (al5.mono hb4.size)
        have HM3' := Lib.hid (HM3.out.below hb35)
        have HB5 := Lib.hid (HB3.out.trans (hb35.mono HB3.out.size))
        have HK5 := Lib.hid (HK3.out.trans (hb35.mono HK3.out.size))
        have gx := (hb35.block w2.heap.size (lt_of_heap HN3.out)).trans HN3.out
        have ltX := lt_of_heap gx
        have ltY := lt_of_heap hn5
        have HEQ : Hid (txL T2 = txL T4) := Lib.hid (HT2.out.1.trans ht4.symm)
        have ld0 := fun w' (hb : Below w5.heap.size w5 w') => (hb.cell (p := ⟨w2.heap.size, 0, none⟩) ltX).trans ((cell_at gx 0).trans rfl)
        have ld1 := fun w' (hb : Below w5.heap.size w5 w') => (hb.cell (p := ⟨w2.heap.size, 1, none⟩) ltX).trans ((cell_at gx 1).trans rfl)
        have ld2 := fun w' (hb : Below w5.heap.size w5 w') => (hb.cell (p := ⟨w4.heap.size, 0, none⟩) ltY).trans ((cell_at hn5 0).trans rfl)
        have ld3 := fun w' (hb : Below w5.heap.size w5 w') => (hb.cell (p := ⟨w4.heap.size, 1, none⟩) ltY).trans ((cell_at hn5 1).trans rfl)
        have D1 := Lib.hid (fun (w' : World) => ours_of lk a2 T2.length c2 w')
        unfold rgV at D1
        have D2 : Hid (∀ w', Below w5.heap.size w5 w' → Calls Try.prog 16 #[.agg #[.int .i64 lk, .slice a2 T2.length c2], .agg #[.int .i64 lk, .slice a4 T4.length c4]] w' fun e w'' => e = .returned (.bool true) ∧ Below w'.heap.size w' w'') := Lib.hid (fun w' hb => by
          have h := rrgsame_of lk lk (HM3'.out.below hb) (HM5.out.below hb) (by have := HT2.out.2.1; omega) (thin_of (by have := HT2.out.2.2; omega))
          rw [decide_eq_true ⟨rfl, HEQ.out⟩] at h
          exact h)
        have hb50 : Below w5.heap.size w5 w5.drew := (Below.refl _ w5).drew
        clear hm4 hb4 al5 hn5 hl4 hs4 ht4 hb35 gx ltX ltY HRK
        generalize T2.length = m2 at *
        generalize T4.length = m4 at *

        have dok : (ok != ok) = false := by simp
        clear hlk
        cases ok
        · have HQF : Hid ((namN S (j + 1)).length = q) := Lib.hid (by rw [HQ.out, if_neg (of_decide_eq_false HOK.out)])
          go_region_held3 (fun w' => Below w5.heap.size w5 w') (first | assumption)
            (first
              | (go_at_call 17; with_reducible refine (D1.out _).mono ?_; rintro e w6 ⟨rfl, hb6'⟩; have hb6 : Below w5.heap.size w5 w6 := Below.trans (by assumption) (hb6'.mono (Below.size (by assumption))); clear hb6')
              | (go_at_call 16; with_reducible refine (D2.out _ (by assumption)).mono ?_; rintro e w6 ⟨rfl, hb6'⟩; have hb6 : Below w5.heap.size w5 w6 := Below.trans (by assumption) (hb6'.mono (Below.size (by assumption))); clear hb6'))

          all_goals
            have hbz : Below w5.heap.size w5 w6 := by assumption
            have HB6 : Hid (Below w1.heap.size w1 w6) := Lib.hid (HK5.out.trans (hbz.mono HK5.out.size))
            clear hbz ld0 ld1 ld2 ld3
            go_wp2_with fail
            go_roundw
            case rel => exact ⟨j + 2, by rw [show j + 2 - 1 = j + 1 by omega, HQF.out] <;> go_num, by go_num, by omega, HB6.out⟩
            case measure => simp [intOf]; omega
        · have hpos : 0 < M.length := of_decide_eq_true HOK.out
          have HQT : Hid ((namN S (j + 1)).length = q + 1) := Lib.hid (by rw [HQ.out, if_pos hpos])
          have hat := HAT.out hpos
          have HQN : Hid (q < N) := Lib.hid (by rw [← HN.out]; exact (List.getElem?_eq_some_iff.1 hat).1)
          have HATV := Lib.hid hat
          clear hat hpos
          go_region_held3 (fun w' => Below w5.heap.size w5 w') (first | assumption)
            (first
              | (go_at_call 17; with_reducible refine (D1.out _).mono ?_; rintro e w6 ⟨rfl, hb6'⟩; have hb6 : Below w5.heap.size w5 w6 := Below.trans (by assumption) (hb6'.mono (Below.size (by assumption))); clear hb6')
              | (go_at_call 16; with_reducible refine (D2.out _ (by assumption)).mono ?_; rintro e w6 ⟨rfl, hb6'⟩; have hb6 : Below w5.heap.size w5 w6 := Below.trans (by assumption) (hb6'.mono (Below.size (by assumption))); clear hb6'))

          all_goals
            have hbz : Below w5.heap.size w5 w6 := by assumption
            have HB6 : Hid (Below w1.heap.size w1 w6) := Lib.hid (HK5.out.trans (hbz.mono HK5.out.size))
            clear hbz ld0 ld1 ld2 ld3
            obtain ⟨gn, on, hgn, hgl, hcn⟩ := (HSL.out.below HB6.out).rd.2 (by rw [nums_len, HN.out]; have := HQN.out; omega)
            subst hgn
            have cq := hcn q _ (nums_at HATV.out)
            have q0 : (0 : Int) ≤ (q : Int) := by omega
            have q1 : (q : Int) < (N : Int) := by have := HQN.out; omega
            have q2 : decide ((N : Int) ≤ (q : Int)) = false := decide_eq_false (by omega)
            have q3 : ((97 + (j : Int)) != (97 + (j : Int))) = false := by simp
            clear hcn hgl
            go_wp2_with fail
            go_roundw
            case rel => exact ⟨j + 2, by rw [show j + 2 - 1 = j + 1 by omega, HQT.out] <;> go_num, by go_num, by omega, HB6.out⟩
            case measure => simp [intOf]; omega
    · have dt : decide ((i : Int) - 1 < 26) = false := decide_eq_false (by omega)
      obtain rfl : i = 27 := by omega
      obtain ⟨lk, M, ok, hlk⟩ : ∃ lk M ok, look S x = (lk, M, ok) := ⟨_, _, _, rfl⟩
      rw [show (27 : Nat) - 1 = 26 from rfl, HN.out] at *

      have HGK := Lib.hid (HG.out x wq HBW.out)
      rw [hlk] at HGK
      go_wp2_with fail
      refine HGK.out.mono ?_; rintro e w2 ⟨a2, c2, T2, rfl, ht2, hl2, hs2, ⟨lo2, hi2, hm2⟩, hb2⟩
      have al3 := t_al w2 (.cells #[.int .i64 lk, .slice a2 T2.length c2] 41)
      have hn3 := heap_alloc_new w2 (.cells #[.int .i64 lk, .slice a2 T2.length c2] 41)
      go_upto_region 18 with fail
      generalize w2.alloc (.cells #[.int .i64 lk, .slice a2 T2.length c2] 41) = w3 at *
      have HM3 := Lib.hid (hm2.below al3)
      have HB3 := Lib.hid ((HBW.out.trans (hb2.mono HBW.out.size)).trans (al3.mono (HBW.out.trans (hb2.mono HBW.out.size)).size))
      have HK3 := Lib.hid ((HBQ.out.trans (hb2.mono HBQ.out.size)).trans (al3.mono (HBQ.out.trans (hb2.mono HBQ.out.size)).size))
      have HN3 := Lib.hid hn3
      have HT2 := Lib.hid (And.intro ht2 (And.intro hl2 hs2))
      have HRK := Lib.hid (HR.out x w3 HB3.out)
      rw [hlk] at HRK
      clear hm2 hb2 al3 hn3 ht2 hl2 hs2 HGK
      go_wp2_with fail
      refine HRK.out.mono ?_; rintro e w4 ⟨a4, c4, T4, rfl, ht4, hl4, hs4, ⟨lo4, hi4, hm4⟩, hb4⟩
      have al5 := t_al w4 (.cells #[.int .i64 lk, .slice a4 T4.length c4] 28)
      have hn5 := heap_alloc_new w4 (.cells #[.int .i64 lk, .slice a4 T4.length c4] 28)
      go_upto_region 19 with fail
      generalize w4.alloc (.cells #[.int .i64 lk, .slice a4 T4.length c4] 28) = w5 at *
      have HM5 := Lib.hid (hm4.below al5)
      have hb35 : Below w3.heap.size w3 w5 := hb4.trans (al5.mono hb4.size)
      have HM3' := Lib.hid (HM3.out.below hb35)
      have HB5 := Lib.hid (HB3.out.trans (hb35.mono HB3.out.size))
      have HK5 := Lib.hid (HK3.out.trans (hb35.mono HK3.out.size))
      have gx := (hb35.block w2.heap.size (lt_of_heap HN3.out)).trans HN3.out
      have ltX := lt_of_heap gx
      have ltY := lt_of_heap hn5
      have HEQ : Hid (txL T2 = txL T4) := Lib.hid (HT2.out.1.trans ht4.symm)
      have ld0 := fun w' (hb : Below w5.heap.size w5 w') => (hb.cell (p := ⟨w2.heap.size, 0, none⟩) ltX).trans ((cell_at gx 0).trans rfl)
      have ld1 := fun w' (hb : Below w5.heap.size w5 w') => (hb.cell (p := ⟨w2.heap.size, 1, none⟩) ltX).trans ((cell_at gx 1).trans rfl)
      have ld2 := fun w' (hb : Below w5.heap.size w5 w') => (hb.cell (p := ⟨w4.heap.size, 0, none⟩) ltY).trans ((cell_at hn5 0).trans rfl)
      have ld3 := fun w' (hb : Below w5.heap.size w5 w') => (hb.cell (p := ⟨w4.heap.size, 1, none⟩) ltY).trans ((cell_at hn5 1).trans rfl)
      have D1 := Lib.hid (fun (w' : World) => ours_of lk a2 T2.length c2 w')
      unfold rgV at D1
      have D2 : Hid (∀ w', Below w5.heap.size w5 w' → Calls Try.prog 16 #[.agg #[.int .i64 lk, .slice a2 T2.length c2], .agg #[.int .i64 lk, .slice a4 T4.length c4]] w' fun e w'' => e = .returned (.bool true) ∧ Below w'.heap.size w' w'') := Lib.hid (fun w' hb => by
        have h := rrgsame_of lk lk (HM3'.out.below hb) (HM5.out.below hb) (by have := HT2.out.2.1; omega) (thin_of (by have := HT2.out.2.2; omega))
        rw [decide_eq_true ⟨rfl, HEQ.out⟩] at h
        exact h)
      have hb50 : Below w5.heap.size w5 w5.drew := (Below.refl _ w5).drew
      clear hm4 hb4 al5 hn5 hl4 hs4 ht4 hb35 gx ltX ltY HRK
      generalize T2.length = m2 at *
      generalize T4.length = m4 at *

      have dok : (ok == ok) = true := by simp
      have dN : ((N : Int) == (N : Int)) = true := by simp
      generalize totS S = z at *
      have dz : ((z : Int) == (z : Int)) = true := by simp
      have D4 : Hid (∀ w', Below w5.heap.size w5 w' → Calls Try.prog 22 #[.pointer (some ⟨b, 0, none⟩)] w' fun e w'' => e = .returned (.int .i64 z) ∧ Below w'.heap.size w' w'') := Lib.hid (fun w' hb => HZ.out w' (HB5.out.trans (hb.mono HB5.out.size)))
      have D5 : Hid (∀ w', Below w5.heap.size w5 w' → Calls Try.prog 26 #[.pointer (some ⟨b', 0, none⟩)] w' fun e w'' => e = .returned (.int .i64 z) ∧ Below w'.heap.size w' w'') := Lib.hid (fun w' hb => HA.out w' (HB5.out.trans (hb.mono HB5.out.size)))
      clear hlk
      go_region_held3 (fun w' => Below w5.heap.size w5 w') (first | assumption)
        (first
          | (go_at_call 17; with_reducible refine (D1.out _).mono ?_; rintro e w6 ⟨rfl, hb6'⟩; have hb6 : Below w5.heap.size w5 w6 := Below.trans (by assumption) (hb6'.mono (Below.size (by assumption))); clear hb6')
          | (go_at_call 16; with_reducible refine (D2.out _ (by assumption)).mono ?_; rintro e w6 ⟨rfl, hb6'⟩; have hb6 : Below w5.heap.size w5 w6 := Below.trans (by assumption) (hb6'.mono (Below.size (by assumption))); clear hb6')
          | (go_at_call 22; with_reducible refine (D4.out _ (by assumption)).mono ?_; rintro e w6 ⟨rfl, hb6'⟩; have hb6 : Below w5.heap.size w5 w6 := Below.trans (by assumption) (hb6'.mono (Below.size (by assumption))); clear hb6')
          | (go_at_call 26; with_reducible refine (D5.out _ (by assumption)).mono ?_; rintro e w6 ⟨rfl, hb6'⟩; have hb6 : Below w5.heap.size w5 w6 := Below.trans (by assumption) (hb6'.mono (Below.size (by assumption))); clear hb6'))

      all_goals
        have hbz : Below w5.heap.size w5 w6 := by assumption
        have HB6 : Hid (Below w.heap.size w w6) := Lib.hid (HB5.out.trans (hbz.mono HB5.out.size))
        clear hbz ld0 ld1 ld2 ld3
        go_wp2_with fail
        go_ret
        exact ⟨rfl, HB6.out⟩

end Go.Proofs.Yteipnllefifgiaa
