/-
  Texts of this seat, put together (a claim holds few texts): ScD, ScE.
-/
import Derived.Test.YtkgakgceamafcaaGreatMk12
import Derived.WalkMore
import Derived.ScopeJumps
import Derived.StillTailTactics

namespace Go.Proofs.YtkgakgceamafcaaGreat
open Go Go.RowKit
set_option linter.unusedVariables false

theorem qd_open {l : List UInt8} {i k tq : Nat} {t : List Int} (hq : quAt l i = true) (h1 : (inQ l (i + 1)).1 = t ++ (inQ l k).1) (h2 : (inQ l (i + 1)).2 = (inQ l k).2) (h : inQ l k = (pls k l.length, l.length, false)) (e : tq = l.length := by assumption) :
    (fieldP l i).from_ = i ∧ (fieldP l i).to_ = l.length ∧ (fieldP l i).kind = 4 ∧ (fieldP l i).pl = t ++ pls k tq := by
  subst e
  rw [h] at h1 h2
  have hf : fieldP l i = ⟨i, l.length, 4, (inQ l (i + 1)).1⟩ := by unfold fieldP; rw [if_pos hq, if_neg (by rw [h2]; simp)]
  rw [hf]; exact ⟨rfl, rfl, rfl, h1⟩
theorem qd_shut {l : List UInt8} {i k tq : Nat} {t : List Int} (hq : quAt l i = true) (h1 : (inQ l (i + 1)).1 = t ++ (inQ l k).1) (h2 : (inQ l (i + 1)).2 = (inQ l k).2) (h : inQ l k = (pls k tq, tq, true)) :
    (fieldP l i).from_ = i ∧ (fieldP l i).to_ = till l (tq + 1) ∧ (fieldP l i).kind = (if tq + 1 < till l (tq + 1) then 3 else 1) ∧ (fieldP l i).pl = t ++ pls k tq ++ pls (tq + 1) (till l (tq + 1)) := by
  rw [h] at h1 h2
  have hf : fieldP l i = ⟨i, till l ((inQ l (i + 1)).2.1 + 1), if (inQ l (i + 1)).2.1 + 1 < till l ((inQ l (i + 1)).2.1 + 1) then 3 else 1, (inQ l (i + 1)).1 ++ pls ((inQ l (i + 1)).2.1 + 1) (till l ((inQ l (i + 1)).2.1 + 1))⟩ := by unfold fieldP; rw [if_pos hq, if_pos (by rw [h2])]
  rw [hf, h1, h2]; exact ⟨rfl, rfl, rfl, rfl⟩
theorem qd_more {l : List UInt8} {i k tq : Nat} {t : List Int} (h1 : (inQ l (i + 1)).1 = t ++ (inQ l k).1) (h : inQ l k = (pls k (tq + 1) ++ (inQ l (tq + 2)).1, (inQ l (tq + 2)).2)) : (inQ l (i + 1)).1 = (t ++ pls k (tq + 1)) ++ (inQ l (tq + 2)).1 := by
  rw [h1, h, List.append_assoc]
theorem gap_more {t : List Int} {i j k : Nat} (h : ∀ x ∈ t, x + 1 < i) (hij : i ≤ j) (hjk : i ≤ k) (hk : j < k) : ∀ x ∈ t ++ pls i j, x + 1 < (k : Int) := by
  intro x hx
  rcases List.mem_append.1 hx with hx | hx
  · have := h x hx; omega
  · have := pls_mem hij hx; omega

/-- What a call of put hands back tq quoted. -/
def PutPost (B : Nat) (W w1 : World) (r : List (Int × Int)) (e : Ending) (w' : World) : Prop :=
  ∃ a' c', e = .returned (.slice a' r.length c') ∧ w'.ownsRow B 59 2 (.slice a' r.length c') r.length (spC r) ∧ Below B W w' ∧ w1.heap.size ≤ w'.heap.size
theorem put_at {W wr : World} {B : Nat} {a : Option Addr} {c : Nat} {t : List Int} (ho : wr.ownsRow B 59 2 (.slice a (canon t).length c) (canon t).length (spC (canon t))) (hb : Below B W wr) (hB : B ≤ W.heap.size) (k : Nat) (ht : ∀ x ∈ t, x + 1 < k) (htl : t.length ≤ 1000000) :
    ∀ (w1 : World) (j : Nat), Below wr.heap.size wr w1 → k ≤ j → j ≤ 1000000 → Calls Tryz.prog 195 #[.slice a (canon t).length c, .int .i64 k, .int .i64 j] w1 (PutPost B W w1 (canon (t ++ pls k j))) := by
  intro w1 j h1 hk hj
  rw [canon_put t k j hk ht]
  have hz := hb.size
  have hz1 := h1.size
  refine (put_of (own_below ho h1) (by omega) k j hk hj (Nat.le_trans (canon_count t) htl)).mono ?_
  rintro e w' ⟨a', c', rfl, h2, h3, h4⟩
  exact ⟨a', c', rfl, h2, (hb.trans (h1.mono (by omega))).trans h3, h4⟩

/-- What holds at each jump back. -/
def QdJ (l : List UInt8) (b off c i : Nat) (w w1 : World) (a' : Act) (wr : World) : Prop := ∃ (t : List Int) (k : Nat) (v6 u8 u9 u10 u11 u12 u13 u14 u15 u16 u17 u18 u19 u20 u21 u22 u23 u24 u25 u26 u27 u28 u29 u30 u31 u32 u33 u34 u35 u36 u37 u38 u39 u40 u41 u42 u43 u44 u45 u46 u47 u48 u49 u50 u51 u52 u53 u54 u55 u56 u57 u58 u59 u60 u61 u62 : Value), a' = { tmps := #[.slice (some ⟨b, off, none⟩) l.length c, .int .i64 i, undef, undef, .pointer (some ⟨w.heap.size, 0, none⟩), .int .i64 0, v6, .int .i64 k, u8, u9, u10, u11, u12, u13, u14, u15, u16, u17, u18, u19, u20, u21, u22, u23, u24, u25, u26, u27, u28, u29, u30, u31, u32, u33, u34, u35, u36, u37, u38, u39, u40, u41, u42, u43, u44, u45, u46, u47, u48, u49, u50, u51, u52, u53, u54, u55, u56, u57, u58, u59, u60, u61, u62], defers := [] } ∧ i < k ∧ k ≤ l.length ∧ (inQ l (i + 1)).1 = t ++ (inQ l k).1 ∧ (inQ l (i + 1)).2 = (inQ l k).2 ∧ (∀ x ∈ t, x + 1 < k) ∧ t.length ≤ k ∧ (∃ a6 c6, v6 = .slice a6 (canon t).length c6 ∧ wr.ownsRow (w.heap.size + 1) 59 2 (.slice a6 (canon t).length c6) (canon t).length (spC (canon t))) ∧ Below (w.heap.size + 1) w1 wr

set_option maxRecDepth 100000 in
set_option maxHeartbeats 8000000 in
theorem quoted_of {w : World} {b off : Nat} {c : Nat} {l : List UInt8} (hr : Rd w 1 (some ⟨b, off, none⟩) l.length (bc l)) (hbw : b < w.heap.size) (hl : l.length ≤ 1000000) (i : Nat) (hq : quAt l i = true) :
    Calls Tryz.prog 171 #[.slice (some ⟨b, off, none⟩) l.length c, .int .i64 i] w (FdPost (fieldP l i) w) := by
  have hi : i < l.length := (quAt_yes hq).1
  have HS := Lib.hid (fun i j h hj w => span_of i j h hj w)
  have al := below_al w (Obj.cells #[Value.int IntKind.i64 0, Value.int IntKind.i64 0, Value.int IntKind.i64 0, Value.slice none 0 0] 180)
  have HB1 := Lib.hid al
  have HA := Lib.hid (heap_alloc_new w (Obj.cells #[Value.int IntKind.i64 0, Value.int IntKind.i64 0, Value.int IntKind.i64 0, Value.slice none 0 0] 180))
  have hz1 : (w.alloc (Obj.cells #[Value.int IntKind.i64 0, Value.int IntKind.i64 0, Value.int IntKind.i64 0, Value.slice none 0 0] 180)).heap.size = w.heap.size + 1 := by simp
  have HR0 := Lib.hid hr
  clear hr al
  go_enter Tryz.func171, Tryz.ntmps171
  go_wp2_with fail
  generalize w.alloc (Obj.cells #[Value.int IntKind.i64 0, Value.int IntKind.i64 0, Value.int IntKind.i64 0, Value.slice none 0 0] 180) = w1 at *
  have HR1 := Lib.hid (HR0.out.below HB1.out)
  have HZ := Lib.hid hz1
  refine wp_scope_jumps 0 (QdJ l b off c i w w1) (fun a' _ => l.length + 1 - (intOf (a'.tmps.getD 7 undef)).toNat) rfl ?_ ?_
  · have HR := HR1
    have HTL : Hid (([] : List Int).length ≤ i + 1) := Nat.zero_le _
    have HP6 := Lib.hid (put_at (t := []) (own_nil w1 (w.heap.size + 1) 59 2 : w1.ownsRow (w.heap.size + 1) 59 2 (.slice none (canon []).length 0) (canon []).length (spC (canon []))) (Below.refl _ w1) (by omega) (i + 1) (by simp) (by simp))
    have HJ1 : Hid ((inQ l (i + 1)).1 = [] ++ (inQ l (i + 1)).1) := rfl
    have HG : Hid (∀ x ∈ ([] : List Int), x + 1 < ((i + 1 : Nat) : Int)) := fun x hx => by cases hx
    obtain ⟨t, ht0⟩ : ∃ t : List Int, t = [] := ⟨_, rfl⟩
    rw [← ht0] at HTL HJ1 HG
    have HT0 := Lib.hid ht0
    have HP6 : Hid (∀ (wx : World) (j : Nat), Below w1.heap.size w1 wx → i + 1 ≤ j → j ≤ 1000000 → Calls Tryz.prog 195 #[.slice none 0 0, .int .i64 ((i + 1 : Nat) : Int), .int .i64 j] wx (PutPost (w.heap.size + 1) w1 wx (canon (t ++ pls (i + 1) j)))) := by rw [ht0]; exact HP6.out
    obtain ⟨k, hk0⟩ : ∃ k, k = i + 1 := ⟨_, rfl⟩
    have hki : i < k := by omega
    have hkl : k ≤ l.length := by omega
    have hkc : (i : Int) + 1 = (k : Int) := by omega
    rw [← hk0] at HTL HP6 HG
    have HJ1 : Hid ((inQ l (i + 1)).1 = t ++ (inQ l k).1) := by rw [hk0]; exact HJ1.out
    have HJ2 : Hid ((inQ l (i + 1)).2 = (inQ l k).2) := by rw [hk0]; exact (rfl : _ = _)
    have HZ1 := Lib.hid hz1
    have hzr : w.heap.size + 1 ≤ w1.heap.size := by omega
    clear hz1 ht0 hk0
    go_wp2
    go_step3
    go_wp2_with fail
    have hu1 := untQ_ge l k
    have hu2 := untQ_le (l := l) (i := k) (by omega)
    have hQQ := inQ_untQ l _ k rfl (by omega)
    have HUQ := Lib.hid (until_quote (c := c) HR.out hl k (by omega))
    generalize hto : untQ l k = tq at *
    go_wp2_with fail
    refine HUQ.out.mono ?_; rintro e wx ⟨rfl, rfl⟩
    clear HUQ
    by_cases hA : tq = l.length
    · -- the end
      have hin := Lib.hid (hQQ.1 hA)
      have dA : (tq == l.length) = true := by simp [hA]
      have dA' : ((tq : Int) == (l.length : Int)) = true := by simp [hA]
      have HF := Lib.hid (qd_open hq HJ1.out HJ2.out hin.out)
      have HAA := Lib.hid hA
      clear hQQ hA
      go_wp2_with fail
      refine (HS.out i tq (by omega) (by omega) _).mono ?_; rintro e w2 ⟨rfl, hb2⟩
      have hz2 := hb2.size
      have HPP := Lib.hid (HP6.out w2 tq hb2 (by omega) (by omega))
      clear hb2
      go_wp2_with fail
      refine HPP.out.mono ?_; rintro e w3 ⟨a', c', rfl, ho3, hb3, hz3⟩
      have HO3 := Lib.hid ho3
      have HB3 := Lib.hid hb3
      have HA3 := Lib.hid ((hb3.block w.heap.size (by omega)).trans HA.out)
      clear ho3 hb3 HPP HP6
      generalize hm : (canon (t ++ pls k tq)).length = m at *
      have HM := Lib.hid hm
      clear hm
      have y0 : w3.cell? ⟨w.heap.size, 0, none⟩ = some (.int .i64 0) := by rw [cell_at HA3.out]; rfl
      have y1 : w3.cell? ⟨w.heap.size, 1, none⟩ = some (.int .i64 0) := by rw [cell_at HA3.out]; rfl
      have y2 : w3.cell? ⟨w.heap.size, 2, none⟩ = some (.int .i64 0) := by rw [cell_at HA3.out]; rfl
      have y3 : w3.cell? ⟨w.heap.size, 3, none⟩ = some (.slice none 0 0) := by rw [cell_at HA3.out]; rfl
      have z0 := unfrozen HA3.out 0
      have z1 := unfrozen HA3.out 1
      have z2 := unfrozen HA3.out 2
      have z3 := unfrozen HA3.out 3
      have Q4 := Lib.hid (four_cells HA3.out (.int .i64 i) (.int .i64 ((tq : Int) - i)) (.int .i64 4) (.slice a' m c'))
      go_wp2_with fail
      simp only [Exit.jump]
      have q0 := Q4.out 0 (.int .i64 i) rfl
      have q1 := Q4.out 1 (.int .i64 ((tq : Int) - i)) rfl
      have q2 := Q4.out 2 (.int .i64 4) rfl
      have q3 := Q4.out 3 (.slice a' m c') rfl
      refine bodyPost_ret (v := .tuple #[.agg #[.int .i64 i, .int .i64 ((tq : Int) - i), .int .i64 4, .slice a' m c'], .int .i64 tq]) (by simp [results, Tryz.results171, go_sem, q0, q1, q2, q3]) rfl ?_
      obtain ⟨f1, f2, f3, f4⟩ := HF.out
      refine ⟨a', c', ?_, ?_, ?_⟩
      · rw [fdV_eq (i := (i : Int)) (j := (tq : Int) - i) (k := 4) (by rw [f1]) (by rw [f2, HAA.out]) f3, f2, f4, HM.out, HAA.out]
      · rw [f4, HM.out]
        exact own_mono (four_own HA3.out HO3.out (by decide) _ _ _ _) (by omega)
      · exact four_below (HB1.out.trans (HB3.out.mono (by omega))) (Nat.le_refl _) _ _ _ _
    · have hto2 : tq < l.length := by omega
      have dA : (tq == l.length) = false := by simp; omega
      have dA' : ((tq : Int) == (l.length : Int)) = false := by simp; omega
      by_cases hB : quAt l (tq + 1) = true
      · -- two quotes
        have hin := Lib.hid (hQQ.2.1 hto2 hB)
        have hlt := (quAt_yes hB).1
        have HQA := Lib.hid (quoteAt_yes (c := c) HR.out hl (tq + 1) hB)
        have HPP := Lib.hid (HP6.out _ (tq + 1) (Below.refl _ _) (by omega) (by omega))
        have HJ1' := Lib.hid (qd_more HJ1.out hin.out)
        have HJ2' := Lib.hid (HJ2.out.trans (by rw [hin.out]) : (inQ l (i + 1)).2 = (inQ l (tq + 2)).2)
        have HG' := Lib.hid (gap_more (t := t) HG.out (i := k) (j := tq + 1) (k := tq + 2) (by omega) (by omega) (by omega))
        clear hQQ hA HP6 hB hin
        go_wp2_with fail
        refine HQA.out.mono ?_; rintro e wx ⟨rfl, rfl⟩
        go_wp2_with fail
        refine HPP.out.mono ?_; rintro e w3 ⟨a', c', rfl, ho3, hb3, hz3⟩
        have HO3 := Lib.hid ho3
        have HB3 := Lib.hid hb3
        have hz3' := hz3
        clear ho3 hb3 HPP HQA
        go_wp2_with fail
        go_step3
        exact ⟨rfl, ⟨t ++ pls k (tq + 1), tq + 2, .slice a' (canon (t ++ pls k (tq + 1))).length c', _, _, _, _, _, _, _, _, _, _, _, _, _, _, _, _, _, _, _, _, _, _, _, _, _, _, _, _, _, _, _, _, _, _, _, _, _, _, _, _, _, _, _, _, _, _, _, _, _, _, _, _, _, _, _, rfl, by omega, by omega, HJ1'.out, HJ2'.out, HG'.out, by simp only [List.length_append, pls_len]; have := HTL.out; omega, ⟨a', c', rfl, HO3.out⟩, HB3.out⟩⟩
      · -- behind the closing quote
        have hB := Bool.eq_false_iff.2 hB
        have hin := Lib.hid (hQQ.2.2 hto2 hB)
        have HQA := Lib.hid (quoteAt_no (c := c) HR.out hl (tq + 1) hB)
        have HUM := Lib.hid (until_mark (c := c) HR.out hl (tq + 1) (by omega))
        have ht1 := till_ge l (tq + 1)
        have ht2 := till_le (l := l) (i := tq + 1) (by omega)
        have HF := Lib.hid (qd_shut hq HJ1.out HJ2.out hin.out)
        have HG' := Lib.hid (gap_more (t := t) HG.out (i := k) (j := tq) (k := tq + 1) (by omega) (by omega) (by omega))
        clear hQQ hA hB hin
        generalize till l (tq + 1) = en at *
        go_wp2_with fail
        refine HQA.out.mono ?_; rintro e wx ⟨rfl, rfl⟩
        go_wp2_with fail
        refine HUM.out.mono ?_; rintro e wx ⟨rfl, rfl⟩
        clear HQA HUM
        go_wp2_with fail
        refine (HS.out i en (by omega) (by omega) _).mono ?_; rintro e w2 ⟨rfl, hb2⟩
        have hz2 := hb2.size
        have HPP := Lib.hid (HP6.out w2 tq hb2 (by omega) (by omega))
        clear hb2 HP6
        go_wp2_with fail
        refine HPP.out.mono ?_; rintro e w3 ⟨a3, c3, rfl, ho3, hb3, hz3⟩
        have HB3 := Lib.hid hb3
        have hz3' : w.heap.size < w3.heap.size := by omega
        have HPP2 := Lib.hid (put_of ho3 (Nat.le_of_lt_succ (by omega)) (tq + 1) en (by omega) (by omega) (by have := canon_count (t ++ pls k tq); have := HTL.out; simp only [List.length_append, pls_len] at *; omega))
        clear ho3 hb3 HPP
        generalize (canon (t ++ pls k tq)).length = m3 at *
        go_wp2_with fail
        refine HPP2.out.mono ?_; rintro e w4 ⟨a', c', rfl, ho4, hb4, hz4⟩
        have HO4 := Lib.hid ho4
        have HB4 := Lib.hid (HB3.out.trans hb4)
        have HA4 := Lib.hid ((HB4.out.block w.heap.size (by omega)).trans HA.out)
        have HPL : Hid (canon (t ++ pls k tq ++ pls (tq + 1) en) = putL (canon (t ++ pls k tq)) (tq + 1) en) := canon_put _ _ _ (by omega) HG'.out
        have hz4' : w.heap.size < w4.heap.size := by omega
        clear ho4 hb4 HPP2 HB3
        generalize hm : (putL (canon (t ++ pls k tq)) (tq + 1) en).length = m at *
        have HM := Lib.hid hm
        clear hm
        have y0 : w4.cell? ⟨w.heap.size, 0, none⟩ = some (.int .i64 0) := by rw [cell_at HA4.out]; rfl
        have y1 : w4.cell? ⟨w.heap.size, 1, none⟩ = some (.int .i64 0) := by rw [cell_at HA4.out]; rfl
        have y2 : w4.cell? ⟨w.heap.size, 2, none⟩ = some (.int .i64 0) := by rw [cell_at HA4.out]; rfl
        have y3 : w4.cell? ⟨w.heap.size, 3, none⟩ = some (.slice none 0 0) := by rw [cell_at HA4.out]; rfl
        have z0 := unfrozen HA4.out 0
        have z1 := unfrozen HA4.out 1
        have z2 := unfrozen HA4.out 2
        have z3 := unfrozen HA4.out 3
        by_cases hT : tq + 1 < en
        · have dT : decide (tq + 1 < en) = true := decide_eq_true hT
          have dT' : decide ((tq : Int) + 1 < (en : Int)) = true := decide_eq_true (by omega)
          have HT := Lib.hid hT
          have Q4 := Lib.hid (four_cells_al HA4.out (.int .i64 i) (.int .i64 ((en : Int) - i)) (.int .i64 3) (.slice a' m c'))
          go_wp2_with fail
          simp only [Exit.jump]
          obtain ⟨q0, q1, q2, q3⟩ := Q4.out
          refine bodyPost_ret (v := .tuple #[.agg #[.int .i64 i, .int .i64 ((en : Int) - i), .int .i64 3, .slice a' m c'], .int .i64 en]) (by simp [results, Tryz.results171, go_sem, q0, q1, q2, q3]) rfl ?_
          obtain ⟨f1, f2, f3, f4⟩ := HF.out
          rw [if_pos HT.out] at f3
          refine ⟨a', c', ?_, ?_, ?_⟩
          · rw [fdV_eq (i := (i : Int)) (j := (en : Int) - i) (k := 3) (by rw [f1]) (by rw [f2]) f3, f2, f4, HPL.out, HM.out]
          · rw [f4, HPL.out, HM.out]
            exact (own_mono (four_own HA4.out HO4.out (by decide) _ _ _ _) (by omega)).alloc _
          · exact (four_below (HB1.out.trans (HB4.out.mono (by omega))) (Nat.le_refl _) _ _ _ _).alloc (by simp only [size_set]; omega) _
        · have dT : decide (tq + 1 < en) = false := decide_eq_false hT
          have dT' : decide ((tq : Int) + 1 < (en : Int)) = false := decide_eq_false (by omega)
          have HT := Lib.hid hT
          have Q4 := Lib.hid (four_cells_al HA4.out (.int .i64 i) (.int .i64 ((en : Int) - i)) (.int .i64 1) (.slice a' m c'))
          go_wp2_with fail
          simp only [Exit.jump]
          obtain ⟨q0, q1, q2, q3⟩ := Q4.out
          refine bodyPost_ret (v := .tuple #[.agg #[.int .i64 i, .int .i64 ((en : Int) - i), .int .i64 1, .slice a' m c'], .int .i64 en]) (by simp [results, Tryz.results171, go_sem, q0, q1, q2, q3]) rfl ?_
          obtain ⟨f1, f2, f3, f4⟩ := HF.out
          rw [if_neg HT.out] at f3
          refine ⟨a', c', ?_, ?_, ?_⟩
          · rw [fdV_eq (i := (i : Int)) (j := (en : Int) - i) (k := 1) (by rw [f1]) (by rw [f2]) f3, f2, f4, HPL.out, HM.out]
          · rw [f4, HPL.out, HM.out]
            exact (own_mono (four_own HA4.out HO4.out (by decide) _ _ _ _) (by omega)).alloc _
          · exact (four_below (HB1.out.trans (HB4.out.mono (by omega))) (Nat.le_refl _) _ _ _ _).alloc (by simp only [size_set]; omega) _
  · rintro a' wr ⟨t, k, v6, u8, u9, u10, u11, u12, u13, u14, u15, u16, u17, u18, u19, u20, u21, u22, u23, u24, u25, u26, u27, u28, u29, u30, u31, u32, u33, u34, u35, u36, u37, u38, u39, u40, u41, u42, u43, u44, u45, u46, u47, u48, u49, u50, u51, u52, u53, u54, u55, u56, u57, u58, u59, u60, u61, u62, rfl, hki, hkl, hj1, hj2, hg, htl, ⟨a6, c6, rfl, ho⟩, hb⟩
    have HR := Lib.hid (HR1.out.below (hb.mono (by rw [HZ.out]; omega : w1.heap.size ≤ w.heap.size + 1)))
    have HTL := Lib.hid htl
    have HJ1 := Lib.hid hj1
    have HJ2 := Lib.hid hj2
    have HG := Lib.hid hg
    have hzr : w.heap.size + 1 ≤ wr.heap.size := by have := hb.size; have := HZ.out; omega
    have HP6 := Lib.hid (put_at ho hb (by rw [HZ.out]; exact Nat.le_refl _) k hg (by omega))
    have HZ1 := Lib.hid hz1
    clear hj1 hj2 hg ho hb hz1 htl
    generalize (canon t).length = m6 at *
    have hu1 := untQ_ge l k
    have hu2 := untQ_le (l := l) (i := k) (by omega)
    have hQQ := inQ_untQ l _ k rfl (by omega)
    have HUQ := Lib.hid (until_quote (c := c) HR.out hl k (by omega))
    generalize hto : untQ l k = tq at *
    go_wp2_with fail
    refine HUQ.out.mono ?_; rintro e wx ⟨rfl, rfl⟩
    clear HUQ
    by_cases hA : tq = l.length
    · -- the end
      have hin := Lib.hid (hQQ.1 hA)
      have dA : (tq == l.length) = true := by simp [hA]
      have dA' : ((tq : Int) == (l.length : Int)) = true := by simp [hA]
      have HF := Lib.hid (qd_open hq HJ1.out HJ2.out hin.out)
      have HAA := Lib.hid hA
      clear hQQ hA
      go_wp2_with fail
      refine (HS.out i tq (by omega) (by omega) _).mono ?_; rintro e w2 ⟨rfl, hb2⟩
      have hz2 := hb2.size
      have HPP := Lib.hid (HP6.out w2 tq hb2 (by omega) (by omega))
      clear hb2
      go_wp2_with fail
      refine HPP.out.mono ?_; rintro e w3 ⟨a', c', rfl, ho3, hb3, hz3⟩
      have HO3 := Lib.hid ho3
      have HB3 := Lib.hid hb3
      have HA3 := Lib.hid ((hb3.block w.heap.size (by omega)).trans HA.out)
      clear ho3 hb3 HPP HP6
      generalize hm : (canon (t ++ pls k tq)).length = m at *
      have HM := Lib.hid hm
      clear hm
      have y0 : w3.cell? ⟨w.heap.size, 0, none⟩ = some (.int .i64 0) := by rw [cell_at HA3.out]; rfl
      have y1 : w3.cell? ⟨w.heap.size, 1, none⟩ = some (.int .i64 0) := by rw [cell_at HA3.out]; rfl
      have y2 : w3.cell? ⟨w.heap.size, 2, none⟩ = some (.int .i64 0) := by rw [cell_at HA3.out]; rfl
      have y3 : w3.cell? ⟨w.heap.size, 3, none⟩ = some (.slice none 0 0) := by rw [cell_at HA3.out]; rfl
      have z0 := unfrozen HA3.out 0
      have z1 := unfrozen HA3.out 1
      have z2 := unfrozen HA3.out 2
      have z3 := unfrozen HA3.out 3
      have Q4 := Lib.hid (four_cells HA3.out (.int .i64 i) (.int .i64 ((tq : Int) - i)) (.int .i64 4) (.slice a' m c'))
      go_wp2_with fail
      simp only [Exit.jump]
      have q0 := Q4.out 0 (.int .i64 i) rfl
      have q1 := Q4.out 1 (.int .i64 ((tq : Int) - i)) rfl
      have q2 := Q4.out 2 (.int .i64 4) rfl
      have q3 := Q4.out 3 (.slice a' m c') rfl
      refine bodyPost_ret (v := .tuple #[.agg #[.int .i64 i, .int .i64 ((tq : Int) - i), .int .i64 4, .slice a' m c'], .int .i64 tq]) (by simp [results, Tryz.results171, go_sem, q0, q1, q2, q3]) rfl ?_
      obtain ⟨f1, f2, f3, f4⟩ := HF.out
      refine ⟨a', c', ?_, ?_, ?_⟩
      · rw [fdV_eq (i := (i : Int)) (j := (tq : Int) - i) (k := 4) (by rw [f1]) (by rw [f2, HAA.out]) f3, f2, f4, HM.out, HAA.out]
      · rw [f4, HM.out]
        exact own_mono (four_own HA3.out HO3.out (by decide) _ _ _ _) (by omega)
      · exact four_below (HB1.out.trans (HB3.out.mono (by omega))) (Nat.le_refl _) _ _ _ _
    · have hto2 : tq < l.length := by omega
      have dA : (tq == l.length) = false := by simp; omega
      have dA' : ((tq : Int) == (l.length : Int)) = false := by simp; omega
      by_cases hB : quAt l (tq + 1) = true
      · -- two quotes
        have hin := Lib.hid (hQQ.2.1 hto2 hB)
        have hlt := (quAt_yes hB).1
        have HQA := Lib.hid (quoteAt_yes (c := c) HR.out hl (tq + 1) hB)
        have HPP := Lib.hid (HP6.out _ (tq + 1) (Below.refl _ _) (by omega) (by omega))
        have HJ1' := Lib.hid (qd_more HJ1.out hin.out)
        have HJ2' := Lib.hid (HJ2.out.trans (by rw [hin.out]) : (inQ l (i + 1)).2 = (inQ l (tq + 2)).2)
        have HG' := Lib.hid (gap_more (t := t) HG.out (i := k) (j := tq + 1) (k := tq + 2) (by omega) (by omega) (by omega))
        clear hQQ hA HP6 hB hin
        go_wp2_with fail
        refine HQA.out.mono ?_; rintro e wx ⟨rfl, rfl⟩
        go_wp2_with fail
        refine HPP.out.mono ?_; rintro e w3 ⟨a', c', rfl, ho3, hb3, hz3⟩
        have HO3 := Lib.hid ho3
        have HB3 := Lib.hid hb3
        have hz3' := hz3
        clear ho3 hb3 HPP HQA
        go_wp2_with fail
        go_step3
        exact ⟨rfl, ⟨t ++ pls k (tq + 1), tq + 2, .slice a' (canon (t ++ pls k (tq + 1))).length c', _, _, _, _, _, _, _, _, _, _, _, _, _, _, _, _, _, _, _, _, _, _, _, _, _, _, _, _, _, _, _, _, _, _, _, _, _, _, _, _, _, _, _, _, _, _, _, _, _, _, _, _, _, _, _, rfl, by omega, by omega, HJ1'.out, HJ2'.out, HG'.out, by simp only [List.length_append, pls_len]; have := HTL.out; omega, ⟨a', c', rfl, HO3.out⟩, HB3.out⟩, by simp [intOf]; omega⟩
      · -- behind the closing quote
        have hB := Bool.eq_false_iff.2 hB
        have hin := Lib.hid (hQQ.2.2 hto2 hB)
        have HQA := Lib.hid (quoteAt_no (c := c) HR.out hl (tq + 1) hB)
        have HUM := Lib.hid (until_mark (c := c) HR.out hl (tq + 1) (by omega))
        have ht1 := till_ge l (tq + 1)
        have ht2 := till_le (l := l) (i := tq + 1) (by omega)
        have HF := Lib.hid (qd_shut hq HJ1.out HJ2.out hin.out)
        have HG' := Lib.hid (gap_more (t := t) HG.out (i := k) (j := tq) (k := tq + 1) (by omega) (by omega) (by omega))
        clear hQQ hA hB hin
        generalize till l (tq + 1) = en at *
        go_wp2_with fail
        refine HQA.out.mono ?_; rintro e wx ⟨rfl, rfl⟩
        go_wp2_with fail
        refine HUM.out.mono ?_; rintro e wx ⟨rfl, rfl⟩
        clear HQA HUM
        go_wp2_with fail
        refine (HS.out i en (by omega) (by omega) _).mono ?_; rintro e w2 ⟨rfl, hb2⟩
        have hz2 := hb2.size
        have HPP := Lib.hid (HP6.out w2 tq hb2 (by omega) (by omega))
        clear hb2 HP6
        go_wp2_with fail
        refine HPP.out.mono ?_; rintro e w3 ⟨a3, c3, rfl, ho3, hb3, hz3⟩
        have HB3 := Lib.hid hb3
        have hz3' : w.heap.size < w3.heap.size := by omega
        have HPP2 := Lib.hid (put_of ho3 (Nat.le_of_lt_succ (by omega)) (tq + 1) en (by omega) (by omega) (by have := canon_count (t ++ pls k tq); have := HTL.out; simp only [List.length_append, pls_len] at *; omega))
        clear ho3 hb3 HPP
        generalize (canon (t ++ pls k tq)).length = m3 at *
        go_wp2_with fail
        refine HPP2.out.mono ?_; rintro e w4 ⟨a', c', rfl, ho4, hb4, hz4⟩
        have HO4 := Lib.hid ho4
        have HB4 := Lib.hid (HB3.out.trans hb4)
        have HA4 := Lib.hid ((HB4.out.block w.heap.size (by omega)).trans HA.out)
        have HPL : Hid (canon (t ++ pls k tq ++ pls (tq + 1) en) = putL (canon (t ++ pls k tq)) (tq + 1) en) := canon_put _ _ _ (by omega) HG'.out
        have hz4' : w.heap.size < w4.heap.size := by omega
        clear ho4 hb4 HPP2 HB3
        generalize hm : (putL (canon (t ++ pls k tq)) (tq + 1) en).length = m at *
        have HM := Lib.hid hm
        clear hm
        have y0 : w4.cell? ⟨w.heap.size, 0, none⟩ = some (.int .i64 0) := by rw [cell_at HA4.out]; rfl
        have y1 : w4.cell? ⟨w.heap.size, 1, none⟩ = some (.int .i64 0) := by rw [cell_at HA4.out]; rfl
        have y2 : w4.cell? ⟨w.heap.size, 2, none⟩ = some (.int .i64 0) := by rw [cell_at HA4.out]; rfl
        have y3 : w4.cell? ⟨w.heap.size, 3, none⟩ = some (.slice none 0 0) := by rw [cell_at HA4.out]; rfl
        have z0 := unfrozen HA4.out 0
        have z1 := unfrozen HA4.out 1
        have z2 := unfrozen HA4.out 2
        have z3 := unfrozen HA4.out 3
        by_cases hT : tq + 1 < en
        · have dT : decide (tq + 1 < en) = true := decide_eq_true hT
          have dT' : decide ((tq : Int) + 1 < (en : Int)) = true := decide_eq_true (by omega)
          have HT := Lib.hid hT
          have Q4 := Lib.hid (four_cells_al HA4.out (.int .i64 i) (.int .i64 ((en : Int) - i)) (.int .i64 3) (.slice a' m c'))
          go_wp2_with fail
          simp only [Exit.jump]
          obtain ⟨q0, q1, q2, q3⟩ := Q4.out
          refine bodyPost_ret (v := .tuple #[.agg #[.int .i64 i, .int .i64 ((en : Int) - i), .int .i64 3, .slice a' m c'], .int .i64 en]) (by simp [results, Tryz.results171, go_sem, q0, q1, q2, q3]) rfl ?_
          obtain ⟨f1, f2, f3, f4⟩ := HF.out
          rw [if_pos HT.out] at f3
          refine ⟨a', c', ?_, ?_, ?_⟩
          · rw [fdV_eq (i := (i : Int)) (j := (en : Int) - i) (k := 3) (by rw [f1]) (by rw [f2]) f3, f2, f4, HPL.out, HM.out]
          · rw [f4, HPL.out, HM.out]
            exact (own_mono (four_own HA4.out HO4.out (by decide) _ _ _ _) (by omega)).alloc _
          · exact (four_below (HB1.out.trans (HB4.out.mono (by omega))) (Nat.le_refl _) _ _ _ _).alloc (by simp only [size_set]; omega) _
        · have dT : decide (tq + 1 < en) = false := decide_eq_false hT
          have dT' : decide ((tq : Int) + 1 < (en : Int)) = false := decide_eq_false (by omega)
          have HT := Lib.hid hT
          have Q4 := Lib.hid (four_cells_al HA4.out (.int .i64 i) (.int .i64 ((en : Int) - i)) (.int .i64 1) (.slice a' m c'))
          go_wp2_with fail
          simp only [Exit.jump]
          obtain ⟨q0, q1, q2, q3⟩ := Q4.out
          refine bodyPost_ret (v := .tuple #[.agg #[.int .i64 i, .int .i64 ((en : Int) - i), .int .i64 1, .slice a' m c'], .int .i64 en]) (by simp [results, Tryz.results171, go_sem, q0, q1, q2, q3]) rfl ?_
          obtain ⟨f1, f2, f3, f4⟩ := HF.out
          rw [if_neg HT.out] at f3
          refine ⟨a', c', ?_, ?_, ?_⟩
          · rw [fdV_eq (i := (i : Int)) (j := (en : Int) - i) (k := 1) (by rw [f1]) (by rw [f2]) f3, f2, f4, HPL.out, HM.out]
          · rw [f4, HPL.out, HM.out]
            exact (own_mono (four_own HA4.out HO4.out (by decide) _ _ _ _) (by omega)).alloc _
          · exact (four_below (HB1.out.trans (HB4.out.mono (by omega))) (Nat.le_refl _) _ _ _ _).alloc (by simp only [size_set]; omega) _
end Go.Proofs.YtkgakgceamafcaaGreat

namespace Go.Proofs.YtkgakgceamafcaaGreat
open Go Go.RowKit
set_option linter.unusedVariables false

set_option maxRecDepth 100000 in
set_option maxHeartbeats 1600000 in
theorem field_of {w : World} {b off : Nat} {c : Nat} {l : List UInt8} (hr : Rd w 1 (some ⟨b, off, none⟩) l.length (bc l)) (hbw : b < w.heap.size) (hl : l.length ≤ 1000000) (hlc : l.length ≤ c) (hc : c ≤ maxLen) (i : Nat) (hi : i ≤ l.length) :
    Calls Tryz.prog 144 #[.slice (some ⟨b, off, none⟩) l.length c, .int .i64 i] w (FdPost (fieldP l i) w) := by
  have al := below_al w (Obj.cells #[Value.int IntKind.i64 0, Value.int IntKind.i64 0, Value.int IntKind.i64 0, Value.slice none 0 0] 180)
  have hz1 : w.heap.size < (w.alloc (Obj.cells #[Value.int IntKind.i64 0, Value.int IntKind.i64 0, Value.int IntKind.i64 0, Value.slice none 0 0] 180)).heap.size := by simp
  have HA := Lib.hid (heap_alloc_new w (Obj.cells #[Value.int IntKind.i64 0, Value.int IntKind.i64 0, Value.int IntKind.i64 0, Value.slice none 0 0] 180))
  have HB1 := Lib.hid al
  have HR := Lib.hid (hr.below al)
  have hbw1 : b < (w.alloc (Obj.cells #[Value.int IntKind.i64 0, Value.int IntKind.i64 0, Value.int IntKind.i64 0, Value.slice none 0 0] 180)).heap.size := by omega
  clear al hr
  by_cases hq : quAt l i = true
  · have HC := Lib.hid (quoted_of (c := c) HR.out hbw1 hl i hq)
    have HQ := Lib.hid (quoteAt_yes (c := c) HR.out hl i hq)
    clear hq HR
    generalize fieldP l i = F at *
    go_enter Tryz.func144, Tryz.ntmps144
    go_wp2_with fail
    generalize w.alloc (Obj.cells #[Value.int IntKind.i64 0, Value.int IntKind.i64 0, Value.int IntKind.i64 0, Value.slice none 0 0] 180) = w1 at *
    refine HQ.out.mono ?_; rintro e w1 ⟨rfl, rfl⟩
    go_wp2_with fail
    refine HC.out.mono ?_; rintro e w2 ⟨a', c', rfl, ho2, hb2⟩
    have HO2 := Lib.hid (own_mono ho2 (Nat.le_of_lt hz1))
    have HB2 := Lib.hid (HB1.out.trans (hb2.mono (Nat.le_of_lt hz1)))
    have HA2 := Lib.hid ((hb2.block w.heap.size hz1).trans HA.out)
    clear ho2 hb2 HQ HC HB1 HA
    generalize hm : (canon F.pl).length = m at *
    have HM := Lib.hid hm
    clear hm
    have y0 : w2.cell? ⟨w.heap.size, 0, none⟩ = some (.int .i64 0) := by rw [cell_at HA2.out]; rfl
    have y1 : w2.cell? ⟨w.heap.size, 1, none⟩ = some (.int .i64 0) := by rw [cell_at HA2.out]; rfl
    have y2 : w2.cell? ⟨w.heap.size, 2, none⟩ = some (.int .i64 0) := by rw [cell_at HA2.out]; rfl
    have y3 : w2.cell? ⟨w.heap.size, 3, none⟩ = some (.slice none 0 0) := by rw [cell_at HA2.out]; rfl
    have z0 := unfrozen HA2.out 0
    have z1 := unfrozen HA2.out 1
    have z2 := unfrozen HA2.out 2
    have z3 := unfrozen HA2.out 3
    have Q4 := Lib.hid (four_cells HA2.out (.int .i64 F.from_) (.int .i64 ((F.to_ : Int) - F.from_)) (.int .i64 F.kind) (.slice a' m c'))
    unfold fdV
    go_wp2_with fail
    have q0 := Q4.out 0 (.int .i64 F.from_) rfl
    have q1 := Q4.out 1 (.int .i64 ((F.to_ : Int) - F.from_)) rfl
    have q2 := Q4.out 2 (.int .i64 F.kind) rfl
    have q3 := Q4.out 3 (.slice a' m c') rfl
    refine bodyPost_ret (v := .tuple #[.agg #[.int .i64 F.from_, .int .i64 ((F.to_ : Int) - F.from_), .int .i64 F.kind, .slice a' m c'], .int .i64 F.to_]) (by simp [results, Tryz.results144, go_sem, q0, q1, q2, q3]) rfl ?_
    refine ⟨a', c', by unfold fdV; rw [HM.out], ?_, four_below HB2.out (Nat.le_refl _) _ _ _ _⟩
    rw [HM.out]
    exact four_own HA2.out HO2.out (by decide) _ _ _ _
  · have hq := Bool.eq_false_iff.2 hq
    have HC := Lib.hid (plain_of (c := c) HR.out hbw1 hl hlc hc i hi hq)
    have HQ := Lib.hid (quoteAt_no (c := c) HR.out hl i hq)
    clear hq HR
    generalize fieldP l i = F at *
    go_enter Tryz.func144, Tryz.ntmps144
    go_wp2_with fail
    generalize w.alloc (Obj.cells #[Value.int IntKind.i64 0, Value.int IntKind.i64 0, Value.int IntKind.i64 0, Value.slice none 0 0] 180) = w1 at *
    refine HQ.out.mono ?_; rintro e w1 ⟨rfl, rfl⟩
    go_wp2_with fail
    refine HC.out.mono ?_; rintro e w2 ⟨a', c', rfl, ho2, hb2⟩
    have HO2 := Lib.hid (own_mono ho2 (Nat.le_of_lt hz1))
    have HB2 := Lib.hid (HB1.out.trans (hb2.mono (Nat.le_of_lt hz1)))
    have HA2 := Lib.hid ((hb2.block w.heap.size hz1).trans HA.out)
    clear ho2 hb2 HQ HC HB1 HA
    generalize hm : (canon F.pl).length = m at *
    have HM := Lib.hid hm
    clear hm
    have y0 : w2.cell? ⟨w.heap.size, 0, none⟩ = some (.int .i64 0) := by rw [cell_at HA2.out]; rfl
    have y1 : w2.cell? ⟨w.heap.size, 1, none⟩ = some (.int .i64 0) := by rw [cell_at HA2.out]; rfl
    have y2 : w2.cell? ⟨w.heap.size, 2, none⟩ = some (.int .i64 0) := by rw [cell_at HA2.out]; rfl
    have y3 : w2.cell? ⟨w.heap.size, 3, none⟩ = some (.slice none 0 0) := by rw [cell_at HA2.out]; rfl
    have z0 := unfrozen HA2.out 0
    have z1 := unfrozen HA2.out 1
    have z2 := unfrozen HA2.out 2
    have z3 := unfrozen HA2.out 3
    have Q4 := Lib.hid (four_cells HA2.out (.int .i64 F.from_) (.int .i64 ((F.to_ : Int) - F.from_)) (.int .i64 F.kind) (.slice a' m c'))
    unfold fdV
    go_wp2_with fail
    have q0 := Q4.out 0 (.int .i64 F.from_) rfl
    have q1 := Q4.out 1 (.int .i64 ((F.to_ : Int) - F.from_)) rfl
    have q2 := Q4.out 2 (.int .i64 F.kind) rfl
    have q3 := Q4.out 3 (.slice a' m c') rfl
    refine bodyPost_ret (v := .tuple #[.agg #[.int .i64 F.from_, .int .i64 ((F.to_ : Int) - F.from_), .int .i64 F.kind, .slice a' m c'], .int .i64 F.to_]) (by simp [results, Tryz.results144, go_sem, q0, q1, q2, q3]) rfl ?_
    refine ⟨a', c', by unfold fdV; rw [HM.out], ?_, four_below HB2.out (Nat.le_refl _) _ _ _ _⟩
    rw [HM.out]
    exact four_own HA2.out HO2.out (by decide) _ _ _ _

end Go.Proofs.YtkgakgceamafcaaGreat
