/-
  Contracts of layer 9, nodes of ints: insert; at this seat's numbers.
-/
import Derived.Test.YtofncnommekbjaaTrH
namespace Go.Proofs.Ytofncnommekbjaa
open Go Go.RowKit
set_option linter.unusedVariables false

set_option maxRecDepth 100000 in
set_option maxHeartbeats 1000000 in
theorem ins0_i (X : Int) {w : World} {t : List (El 0)} {b : Nat} (i : Nat) (H : In w 95 0 t b) (hw : Wf 0 t) (hi : i ≤ (flatL 0 t).length) (hf : (flatL 0 t).length ≤ 100000) :
    Calls Try.prog 77 #[ptr b, .int .i64 i, .int .i64 X] w fun e w' => ∃ a' c', e = .returned (.slice a' (insT 0 t i (.int .i64 X)).length c') ∧ Es w' 95 1 (insT 0 t i (.int .i64 X)) a' c' ∧ Below w.heap.size w w' := by
  have HL := Lib.hid (isleaf_i H)
  obtain ⟨g, o, c, hh, he⟩ := H.es hw.len.1
  have h0 : (flatL 0 t).length = t.length := flatLen0 t
  rw [h0] at hi hf
  obtain ⟨n, hn⟩ : ∃ n, t.length = n := ⟨_, rfl⟩
  have hn6 := hw.len.2
  rw [hn] at hi hf hn6
  have c0 : w.cell? ⟨b, 0, none⟩ = some (.slice none 0 0) := by rw [cell_at hh]; rfl
  have c1 : w.cell? ⟨b, 1, none⟩ = some (.slice (some ⟨g, o, none⟩) n c) := by rw [cell_at hh, ← hn]; rfl
  have al := t_al w (Obj.cells #[.int .i64 X] 3)
  have hnw : Sl (w.alloc (Obj.cells #[.int .i64 X] 3)) (some ⟨w.heap.size, 0, none⟩) 1 [.int .i64 X] := Sl.new (xs := [.int .i64 X]) (heap_alloc_new w (Obj.cells #[.int .i64 X] 3)) (by unfold maxLen; simp) (fun u hu => by simp at hu; subst hu; rfl)
  have HAL := Lib.hid al
  have HR := Lib.hid (ereplI_i (I := i) (J := i) (i := i) (j := i) (m := 1) (os := v0 [.int .i64 X]) (he.below al) (Es.ofSl hnw) hn rfl (by omega) (by omega) (by omega) rfl rfl)
  rw [show i + 1 + (n - i) = n + 1 by omega] at HR
  have hrl : (replL t i i (v0 [.int .i64 X])).length = n + 1 := by rw [replL_len _ _ (by omega) (by omega), hn]; show i + 1 + _ = _; omega
  have HRL := Lib.hid hrl
  have hpl : (insT 0 t i (.int .i64 X)).length = fewN (n + 1) := by rw [← hrl]; exact pts_len _
  have hpd : insT 0 t i (.int .i64 X) = pts (replL t i i (v0 [.int .i64 X])) := rfl
  rw [hpl, hpd]
  clear H hh he al hnw h0 hw hrl hpl hpd
  go_enter Try.func77, Try.ntmps77
  go_wp2_with fail
  refine HL.out.mono ?_; rintro e w1 ⟨rfl, rfl⟩
  go_wp2_with fail
  refine HR.out.mono ?_; rintro e w2 ⟨a2, c2, rfl, he2, hb2⟩
  have HE := Lib.hid (pack_li he2 HRL.out (by omega) (by rw [flatLen0, HRL.out]; omega))
  have HB2 := Lib.hid (HAL.out.trans (hb2.mono HAL.out.size))
  clear he2 hb2 HR HL
  go_wp2_with fail
  refine HE.out.mono ?_; rintro e w3 ⟨a3, c3, rfl, hin, hb3⟩
  have HI := Lib.hid hin
  have HB3 := Lib.hid (HB2.out.trans (hb3.mono HB2.out.size))
  clear hin hb3 HE
  go_wp2_with fail
  go_ret
  exact ⟨a3, c3, rfl, HI.out, HB3.out⟩

theorem ins_few {lo : Nat} {h : Nat} {t : List (El h)} {i : Nat} {x : Value} (h1 : 1 ≤ lo) (H : Ok lo h t) (hi : i ≤ (flatL h t).length) : 1 ≤ (insT h t i x).length ∧ (insT h t i x).length ≤ 2 := by
  rcases ok_ins h t i x h1 H hi with h | h <;> omega
set_option maxRecDepth 100000 in
set_option maxHeartbeats 1000000 in
theorem insS_i (X : Int) (h : Nat) (REC : ∀ {lo : Nat} {w : World} {t : List (El h)} {b : Nat} (i : Nat), In w 95 h t b → 1 ≤ lo → Ok lo h t → i ≤ (flatL h t).length → (flatL h t).length ≤ 100000 →
      Calls Try.prog 77 #[ptr b, .int .i64 i, .int .i64 X] w fun e w' => ∃ a' c', e = .returned (.slice a' (insT h t i (.int .i64 X)).length c') ∧ Es w' 95 (h + 1) (insT h t i (.int .i64 X)) a' c' ∧ Below w.heap.size w w')
    {lo : Nat} {w : World} {ks : List (El (h + 1))} {b : Nat} (i : Nat) (H : In w 95 (h + 1) ks b) (hlo : 1 ≤ lo) (hok : Ok lo (h + 1) ks) (hi : i ≤ (flatL (h + 1) ks).length) (hf : (flatL (h + 1) ks).length ≤ 100000) :
    Calls Try.prog 77 #[ptr b, .int .i64 i, .int .i64 X] w fun e w' => ∃ a' c', e = .returned (.slice a' (insT (h + 1) ks i (.int .i64 X)).length c') ∧ Es w' 95 (h + 1 + 1) (insT (h + 1) ks i (.int .i64 X)) a' c' ∧ Below w.heap.size w w' := by
  have hw := hok.wf hlo
  have HL := Lib.hid (notleaf_i H hw.len.1)
  have HK := Lib.hid (kid_i H hw.len.1 (by have := hw.len.2; omega) i (by omega))
  obtain ⟨h1, h2, _, h3⟩ := kid_at hw.len.1 i
  have h3 := h3 hi
  have hfs := flat_ins (h + 1) ks i (.int .i64 X) hw hi
  have hokk := hok.kid h1
  have hfk := nth_flat h1
  have hfi := flat_ins h _ _ (.int .i64 X) (hw.kid h1) h3
  have hil := ins_few (x := (.int .i64 X)) (by omega) hokk h3
  have hdef : insT (h + 1) ks i (.int .i64 X) = pts (replL ks (kidP (szs h ks) i).1 ((kidP (szs h ks) i).1 + 1) (insT h (nth ks (kidP (szs h ks) i).1) (kidP (szs h ks) i).2 (.int .i64 X))) := rfl
  have hfl : (flatL (h + 1) (replL ks (kidP (szs h ks) i).1 ((kidP (szs h ks) i).1 + 1) (insT h (nth ks (kidP (szs h ks) i).1) (kidP (szs h ks) i).2 (.int .i64 X)))).length ≤ 1000000 := by
    have e1 := flatL_pts (h + 1) (replL ks (kidP (szs h ks) i).1 ((kidP (szs h ks) i).1 + 1) (insT h (nth ks (kidP (szs h ks) i).1) (kidP (szs h ks) i).2 (.int .i64 X)))
    rw [← hdef, hfs] at e1
    rw [← e1, replL_len _ _ (by omega) (by omega)]; simp; omega
  rw [hdef]
  generalize (kidP (szs h ks) i).1 = k at *
  generalize (kidP (szs h ks) i).2 = j at *
  obtain ⟨m, hm⟩ : ∃ m, (insT h (nth ks k) j (.int .i64 X)).length = m := ⟨_, rfl⟩
  rw [hm] at hil
  obtain ⟨g, o, c, hh, he⟩ := H.es hw.len.1
  obtain ⟨b', hcb, hin⟩ := he.at (x := nth ks k) (nth_at h1)
  obtain ⟨n, hn⟩ : ∃ n, ks.length = n := ⟨_, rfl⟩
  have hn6 := hw.len.2
  rw [hn] at h1 hn6
  have c0 : w.cell? ⟨b, 0, none⟩ = some (.slice (some ⟨g, o, none⟩) n c) := by rw [cell_at hh, ← hn]; rfl
  have hbl := H.lt
  have hgl : g < w.heap.size := by
    obtain ⟨g', o', e', hg⟩ := (he.has (by omega))
    cases e'; exact hg
  have IH := Lib.hid (fun w' (hb : Below w.heap.size w w') => REC (w := w') j (hin.below hb) (show 1 ≤ 3 by omega) hokk h3 (by omega))
  rw [hm] at IH
  have hrl : (replL ks k (k + 1) (insT h (nth ks k) j (.int .i64 X))).length = n - 1 + m := by rw [replL_len _ _ (by omega) (by omega), hn, hm]; omega
  have HRp : Hid (∀ w5 a5 c5, Below w.heap.size w w5 → Es w5 95 (h + 1) (insT h (nth ks k) j (.int .i64 X)) a5 c5 → Calls Try.prog 96 #[.slice (some ⟨g, o, none⟩) n c, .int .i64 k, .int .i64 ((k : Int) + 1), .slice a5 m c5] w5 fun e w6 => ∃ a c', e = .returned (.slice a (n - 1 + m) c') ∧ Es w6 95 (h + 1) (replL ks k (k + 1) (insT h (nth ks k) j (.int .i64 X))) a c' ∧ Below w5.heap.size w5 w6) := by
    refine Lib.hid (fun w5 a5 c5 hb hi5 => ?_)
    refine (ereplN_i (i := k) (j := k + 1) (he.below hb) hi5 hn hm (by omega) (by omega) (by omega) rfl (by omega)).mono ?_
    rintro e w6 ⟨a6, c6, rfl, he6, hb6⟩
    exact ⟨a6, c6, by rw [show k + m + (n - (k + 1)) = n - 1 + m by omega], he6, hb6⟩
  have HAb := Lib.hid (fun w6 a6 c6 (he6 : Es w6 95 (h + 1) (replL ks k (k + 1) (insT h (nth ks k) j (.int .i64 X))) a6 c6) => pack_ni he6 hrl (by omega) hfl)
  have HPL : Hid ((pts (replL ks k (k + 1) (insT h (nth ks k) j (.int .i64 X)))).length = fewN (n - 1 + m)) := by rw [pts_len, hrl]; exact Lib.hid rfl
  have e0 : (0 : Int) ≤ (k : Int) := by omega
  have e1 : (k : Int) < (n : Int) := by omega
  have hwr : IntKind.i64.wrap ((k : Int) + 1) = (k : Int) + 1 := by rw [IntKind.wrap_i64]; omega
  rw [HPL.out]
  generalize pts (replL ks k (k + 1) (insT h (nth ks k) j (.int .i64 X))) = R at *
  clear H hh he hin hfs hokk hfk hdef hfl hw hok hi hf h2 h3 hfi hrl hm
  go_enter Try.func77, Try.ntmps77
  go_wp2_with fail
  refine HL.out.mono ?_; rintro e w1 ⟨rfl, rfl⟩
  go_wp2_with fail
  refine HK.out.mono ?_; rintro e w1 ⟨rfl, rfl⟩
  go_upto_region 4 with fail
  have ld0 := fun w' (h : Below w.heap.size w w') => (h.cell (p := ⟨b, 0, none⟩) hbl).trans c0
  have ld1 := fun w' (h : Below w.heap.size w w') => (h.cell (p := ⟨g, o + k, none⟩) hgl).trans hcb
  have hb0 : Below w.heap.size w w.drew := (Below.refl _ _).drew
  clear c0 hcb HL HK
  go_region_held_law (fun w' => Below w.heap.size w w')
    (first | assumption | exact Below.alloc (by assumption) (Below.size (by assumption)) _)
    ((first
      | (go_at_call 77; refine (IH.out _ hb0).mono ?_; rintro e w5 ⟨a5, c5, rfl, hi5, hb5⟩; have hs5 := hb0.trans (hb5.mono hb0.size); have HI5 := Lib.hid hi5; clear hb5 hi5)
      | (go_at_call 96; refine (HRp.out w5 a5 c5 hs5 HI5.out).mono ?_; rintro e w6 ⟨a6, c6, rfl, he6, hb6⟩; have hs6 := hs5.trans (hb6.mono hs5.size); have HE6 := Lib.hid he6; clear hb6 he6)
      | (go_at_call 74; refine (HAb.out w6 a6 c6 HE6.out).mono ?_; rintro e w7 ⟨a7, c7, rfl, hi7, hb7⟩; have hs7 := hs6.trans (hb7.mono hs6.size); have HI7 := Lib.hid hi7; clear hb7 hi7)))
  all_goals
    have HS7 := Lib.hid hs7
    clear ld0 ld1 hs7 hs6 hs5 hb0
    go_wp2_with fail
    go_ret
    exact ⟨a7, c7, rfl, HI7.out, HS7.out⟩

theorem ins_i (X : Int) : ∀ (h : Nat) {lo : Nat} {w : World} {t : List (El h)} {b : Nat} (i : Nat), In w 95 h t b → 1 ≤ lo → Ok lo h t → i ≤ (flatL h t).length → (flatL h t).length ≤ 100000 →
    Calls Try.prog 77 #[ptr b, .int .i64 i, .int .i64 X] w fun e w' => ∃ a' c', e = .returned (.slice a' (insT h t i (.int .i64 X)).length c') ∧ Es w' 95 (h + 1) (insT h t i (.int .i64 X)) a' c' ∧ Below w.heap.size w w'
  | 0, lo, w, t, b, i, H, hlo, hok, hi, hf => ins0_i X i H (hok.wf hlo) hi hf
  | h + 1, lo, w, t, b, i, H, hlo, hok, hi, hf => insS_i X h (fun i => ins_i X h i) i H hlo hok hi hf

end Go.Proofs.Ytofncnommekbjaa
