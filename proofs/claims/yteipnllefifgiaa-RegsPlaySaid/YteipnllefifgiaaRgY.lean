/-
  One call of both: step; at this seat's numbers.
-/
import Derived.Test.YteipnllefifgiaaRgX
namespace Go.Proofs.Yteipnllefifgiaa
open Go Go.RowKit
set_option linter.unusedVariables false

theorem gR_set {S : List RV} {i j : Nat} {v : RV} : gR (S.set i v) j = if i = j ∧ i < S.length then v else gR S j := by
  unfold gR
  rw [List.getD_eq_getElem?_getD, List.getD_eq_getElem?_getD, List.getElem?_set]
  by_cases h : i = j
  · subst h
    by_cases h2 : i < S.length
    · rw [if_pos rfl, if_pos h2, if_pos ⟨rfl, h2⟩]; rfl
    · rw [if_pos rfl, if_neg h2, if_neg (fun h => h2 h.2), List.getElem?_eq_none (by omega)]
  · rw [if_neg h, if_neg (fun h2 => h h2.1)]
theorem appM_pos {S : List RV} {i : Nat} {x k : Int} {M : List (List ByteArray)} (h : 0 < M.length) : ¬ appM S i x k M = [] := fun e => by
  have : 0 < (appM S i x k M).length := by
    unfold appM
    split
    · rw [List.length_append]; omega
    · exact h
  rw [e] at this; simp at this
theorem zk_set {S : List RV} (h : Zk S) (x k : Int) (M : List (List ByteArray)) : Zk (setS S x k M).2 := by
  unfold setS
  cases hr : regI x with
  | none => exact h
  | some i =>
    simp only []
    split
    · rename_i hf
      split
      · exact h
      · intro j hj
        simp only [gR_set] at hj ⊢
        split
        · rename_i h1
          rw [if_pos h1] at hj
          exact absurd hj (appM_pos hf.2.2)
        · rename_i h1
          rw [if_neg h1] at hj
          split
          · rename_i h2
            rw [if_pos h2] at hj
            exact absurd hj (appM_pos hf.2.2)
          · rename_i h2
            rw [if_neg h2] at hj
            exact h j hj
    · exact h
theorem zk_drop {S : List RV} (h : Zk S) (x : Int) : Zk (dropS S x).2 := by
  unfold dropS
  split
  · split
    · intro j hj
      simp only [gR_set] at hj ⊢
      split
      · rfl
      · rename_i h1
        rw [if_neg h1] at hj
        exact h j hj
    · exact h
  · exact h

/-- What step leaves: both machines with the same. -/
def StPost (lo b b' : Nat) (w : World) (e : Ending) (w' : World) : Prop :=
  e = .returned (.bool true) ∧ ∃ R R' hi hi', Rg w' 57 lo hi b R ∧ Rg w' 31 lo hi' b' R' ∧ sem R' = sem R ∧ Zk (sem R) ∧ Below b w w' ∧ w.heap.size ≤ w'.heap.size ∧ ∀ m, m < w.heap.size → m ≠ b → m ≠ b' → w'.heap[m]? = w.heap[m]?

set_option maxRecDepth 100000 in
set_option maxHeartbeats 16000000 in
theorem step_of {w : World} {lo hi hi' b b' : Nat} {R R' : List Rv} (H : Rg w 57 lo hi b R) (H' : Rg w 31 lo hi' b' R') (hs : sem R' = sem R) (hz : Zk (sem R)) (hbb : b < b') (hlo : lo ≤ w.heap.size) (K x k : Int) {a : Option Addr} {c : Nat} {T : List TxM} (HT : TxIn w a T) :
    Calls Try.prog 8 #[.pointer (some ⟨b, 0, none⟩), .pointer (some ⟨b', 0, none⟩), .agg #[.int .i64 K, .int .i64 x, .int .i64 k, .slice a T.length c]] w (StPost lo b b' w) := by
  unfold StPost
  have HLO := Lib.hid hlo
  have HBB := Lib.hid hbb
  have HSR := Lib.hid hs
  have HZK := Lib.hid hz
  have HBL := Lib.hid (And.intro H.lt H'.lt)
  have al := t_al w (.cells #[.int .i64 K, .int .i64 x, .int .i64 k, .slice a T.length c] 33)
  have hnw := heap_alloc_new w (.cells #[.int .i64 K, .int .i64 x, .int .i64 k, .slice a T.length c] 33)
  have hsz : (w.alloc (.cells #[.int .i64 K, .int .i64 x, .int .i64 k, .slice a T.length c] 33)).heap.size = w.heap.size + 1 := by simp
  have HF : Hid (∀ w', Below (w.alloc (.cells #[.int .i64 K, .int .i64 x, .int .i64 k, .slice a T.length c] 33)).heap.size (w.alloc (.cells #[.int .i64 K, .int .i64 x, .int .i64 k, .slice a T.length c] 33)) w' → Calls Try.prog 11 #[.slice a T.length c] w' (FwPost (txL T) w')) := Lib.hid (fun w' hb => few_of ((HT.below al).below hb))
  unfold FwPost at HF
  have HR1 := Lib.hid (H.below al)
  have HR1' := Lib.hid (H'.below al)
  have HFW := Lib.hid (fewM_of (txL T))
  generalize T.length = n at *
  have HAL := Lib.hid al
  generalize hw1 : w.alloc (.cells #[.int .i64 K, .int .i64 x, .int .i64 k, .slice a n c] 33) = w1 at *
  have HNW := Lib.hid hnw
  have HSZ := Lib.hid hsz
  have k2 : w1.cell? ⟨w.heap.size, 2, none⟩ = some (.int .i64 k) := by rw [cell_at hnw]; rfl
  have k3 : w1.cell? ⟨w.heap.size, 3, none⟩ = some (.slice a n c) := by rw [cell_at hnw]; rfl
  have hlt1 : w.heap.size < w1.heap.size := by omega
  have hne1 : ¬ (w.heap.size = w1.heap.size) := by omega
  have hne2 : ¬ (w1.heap.size = w.heap.size) := by omega
  have hb10 : Below w1.heap.size w1 w1.drew := (Below.refl _ w1).drew
  clear H H' HT al hnw hsz hs hz hbb hlo
  go_enter Try.func8, Try.ntmps8
  go_upto_region 1 with fail
  try rw [hw1]
  clear hw1
  go_region_held3 (fun w' => w'.cell? ⟨w.heap.size, 2, none⟩ = some (.int .i64 k) ∧ w'.cell? ⟨w.heap.size, 3, none⟩ = some (.slice a n c)) (first | assumption | (refine ⟨?_, ?_⟩ <;> assumption) | go_keep)
    (first
      | (go_at_call 11; refine (HF.out _ (by first | assumption | exact t_al _ _ | exact hb10 | exact (t_al _ _).drew | exact hb10.alloc (Nat.le_refl _) _)).mono ?_; rintro e w3 ⟨a3, c3, T3, ht3, rfl, ⟨hm3, hwr3⟩, hb3⟩; have k2' : w3.cell? ⟨w.heap.size, 2, none⟩ = some (.int .i64 k) := (hb3.cell (p := ⟨w.heap.size, 2, none⟩) (by first | exact hlt1 | (simp; omega))).trans (by first | assumption | go_keep); have k3' : w3.cell? ⟨w.heap.size, 3, none⟩ = some (.slice a n c) := (hb3.cell (p := ⟨w.heap.size, 3, none⟩) (by first | exact hlt1 | (simp; omega))).trans (by first | assumption | go_keep); (try (have hB3 : w3.heap[w1.heap.size]? = some (.cells #[.int .i64 0, .slice none 0 0] 28 (0, 0)) := (hb3.block w1.heap.size (by simp)).trans (heap_alloc_new w1 _); have zB := fun j => unfrozen hB3 j; have cB0 : w3.cell? ⟨w1.heap.size, 0, none⟩ = some (.int .i64 0) := (by rw [cell_at hB3]; rfl); have cB1 : w3.cell? ⟨w1.heap.size, 1, none⟩ = some (.slice none 0 0) := (by rw [cell_at hB3]; rfl)))))
  · have hk : ∃ lo3 hi3, (Below w1.heap.size w1 (w3.alloc (.cells #[.int .i64 k, .slice a3 T3.length c3] 28)) ∧ Mx (w3.alloc (.cells #[.int .i64 k, .slice a3 T3.length c3] 28)) lo3 hi3 a3 c3 T3 ∧ w1.heap.size ≤ lo3 ∧ hi3 ≤ (w3.alloc (.cells #[.int .i64 k, .slice a3 T3.length c3] 28)).heap.size ∧ (w3.alloc (.cells #[.int .i64 k, .slice a3 T3.length c3] 28)).heap[w3.heap.size]? = some (.cells #[.int .i64 k, .slice a3 T3.length c3] 28 (0, 0)) ∧ w1.heap.size ≤ w3.heap.size ∧ w3.heap.size < (w3.alloc (.cells #[.int .i64 k, .slice a3 T3.length c3] 28)).heap.size ∧ txL T3 = fewM (txL T)) := by
      have hb3' : Below w1.heap.size w1 w3 := hb10.trans hb3
      have hz := hb3'.size
      exact ⟨w1.heap.size, w3.heap.size, hb3'.alloc hz _, hm3.below (t_al _ _), Nat.le_refl _, by simp, heap_alloc_new _ _, hz, by simp, ht3⟩
    obtain ⟨lo3, hi3, hk2⟩ := hk
    have HQ := Lib.hid hk2
    clear hk2
    generalize w3.alloc (.cells #[.int .i64 k, .slice a3 T3.length c3] 28) = w4 at *
    generalize w3.heap.size = pw at HQ ⊢
    have c0 : w4.cell? ⟨w.heap.size, 0, none⟩ = some (.int .i64 K) := by
      rw [cell_at ((HQ.out.1.block _ (by have := HSZ.out; omega)).trans HNW.out)]; rfl
    clear hb3 hm3 hwr3 ht3 k2 k3 hne1 hne2 hb10 k2' k3' hlt1
    by_cases K0 : K = 0
    · subst K0
      have hR4 := (HR1.out.below HQ.out.1)
      have hR4' := (HR1'.out.below HQ.out.1)
      have HM4 := Lib.hid HQ.out.2.1
      obtain ⟨er, S2, hS⟩ : ∃ er S2, setS (sem R) x k (txL T3) = (er, S2) := ⟨_, _, rfl⟩
      have HZ2 : Hid (Zk S2) := Lib.hid (by have h := zk_set HZK.out x k (txL T3); rw [hS] at h; exact h)
      have hT3 : T3.length ≤ 12 ∧ szM (txL T3) ≤ 6540 := by rw [← txL_len, HQ.out.2.2.2.2.2.2.2]; exact ⟨HFW.out.1, HFW.out.2.1⟩
      have hord : lo ≤ w.heap.size ∧ w1.heap.size = w.heap.size + 1 ∧ w1.heap.size ≤ w4.heap.size ∧ b < w.heap.size ∧ b' < w.heap.size ∧ w1.heap.size ≤ lo3 ∧ hi3 ≤ w4.heap.size ∧ w1.heap.size ≤ pw ∧ pw < w4.heap.size ∧ b < b' := ⟨HLO.out, HSZ.out, HQ.out.1.size, HBL.out.1, HBL.out.2, HQ.out.2.2.1, HQ.out.2.2.2.1, HQ.out.2.2.2.2.2.1, HQ.out.2.2.2.2.2.2.1, HBB.out⟩
      have D1 : Hid (∀ w', Below w4.heap.size w4 w' → Calls Try.prog 12 #[.pointer (some ⟨b, 0, none⟩), .int .i64 x, .agg #[.int .i64 k, .slice a3 T3.length c3]] w' fun e w'' => e = .returned (.int .i64 er) ∧ ∃ R5, sem R5 = S2 ∧ Rg w'' 57 lo w''.heap.size b R5 ∧ Only b w' w'') := Lib.hid (fun w' hb => by
        have h := set_of (hR4.below hb) (by have := hb.size; omega) x k (HM4.out.below hb) (by have := hb.size; omega) (by omega) (by omega)
        rw [hS] at h
        exact h)
      have HNX : Hid (∀ w' w'', Below w4.heap.size w4 w' → Only b w' w'' → (w''.cell? ⟨w.heap.size, 1, none⟩ = some (.int .i64 x) ∧ w''.cell? ⟨pw, 0, none⟩ = some (.int .i64 k) ∧ w''.cell? ⟨pw, 1, none⟩ = some (.slice a3 T3.length c3)) ∧ Calls Try.prog 23 #[.pointer (some ⟨b', 0, none⟩), .int .i64 x, .agg #[.int .i64 k, .slice a3 T3.length c3]] w'' (fun e w3 => e = .returned (.int .i64 er) ∧ ∃ R6, sem R6 = S2 ∧ Rg w3 31 lo w3.heap.size b' R6 ∧ Only b' w'' w3)) := Lib.hid (fun w' w'' hb ho => by
        have hz' := hb.size
        have hz'' := ho.size
        have hg : w''.heap[w.heap.size]? = some (.cells #[.int .i64 0, .int .i64 x, .int .i64 k, .slice a n c] 33 (0, 0)) := (ho.oth _ (by omega) (by omega)).trans ((hb.block _ (by omega)).trans ((HQ.out.1.block _ (by omega)).trans HNW.out))
        have hp : w''.heap[pw]? = some (.cells #[.int .i64 k, .slice a3 T3.length c3] 28 (0, 0)) := (ho.oth _ (by omega) (by omega)).trans ((hb.block _ (by omega)).trans HQ.out.2.2.2.2.1)
        refine ⟨⟨by rw [cell_at hg]; rfl, by rw [cell_at hp]; rfl, by rw [cell_at hp]; rfl⟩, ?_⟩
        have hrr := (hR4'.below hb).keep (ho.keep (Or.inl (by have := HR1.out.bl; omega))) (ho.oth b' (by omega) (by omega))
        have hmm := (HM4.out.below hb).keep (ho.keep (Or.inl (by omega)))
        have h : Calls Try.prog 23 #[.pointer (some ⟨b', 0, none⟩), .int .i64 x, rgV k a3 T3.length c3] w'' (SetPost 31 lo b' (setS (sem R') x k (txL T3)) w'') := by
          cases hr : regI x with
          | none => exact rset_none hrr x k (by omega) hmm (by omega) (by omega) (by omega) (by omega) hr
          | some i =>
            by_cases h0 : 0 ≤ letK x
            · exact rset_letter hrr x k (by omega) hmm (by omega) (by omega) (by omega) (by omega) h0
            · have hx : x = 0 := by
                unfold regI at hr
                rw [if_neg h0] at hr
                split at hr
                · assumption
                · cases hr
              exact rset_last hrr x k (by omega) hmm (by omega) (by omega) (by omega) (by omega) hx
        rw [HSR.out, hS] at h
        exact h)
      have hw : Below w4.heap.size w4 w4.drew := (Below.refl _ w4).drew
      obtain ⟨⟨x4, p4, q4⟩, _⟩ := HNX.out w4 w4 (Below.refl _ _) ⟨Below.refl _ _, Nat.le_refl _, fun _ _ _ => rfl⟩
      have hgb : w.heap.size ≠ b' := by omega
      have hpb : pw ≠ b' := by omega
      have der : (er == er) = true := by simp
      have HORD := Lib.hid hord
      generalize T3.length = m3 at *
      clear hR4 hR4' hS hT3 hord
      go_upto_region 6 with fail
      go_region_held3 (fun w' => w'.cell? ⟨w.heap.size, 1, none⟩ = some (.int .i64 x) ∧ w'.cell? ⟨pw, 0, none⟩ = some (.int .i64 k) ∧ w'.cell? ⟨pw, 1, none⟩ = some (.slice a3 m3 c3)) (first | assumption | (refine ⟨?_, ?_, ?_⟩ <;> assumption) | go_keep)
        (first
          | (go_at_call 12; refine (D1.out _ (by assumption)).mono ?_; rintro e w5 ⟨rfl, R5, hs5, hR5, ho5⟩; obtain ⟨⟨x5, p5, q5⟩, hrs⟩ := HNX.out _ _ (by assumption) ho5; have HRS := Lib.hid hrs; have HC5 := Lib.hid (And.intro hs5 (And.intro hR5 ho5)); clear hrs hs5 hR5 ho5)
          | (go_at_call 23; refine (HRS.out).mono ?_; rintro e w6 ⟨rfl, R6, hs6, hR6, ho6⟩; have x6 : w6.cell? ⟨w.heap.size, 1, none⟩ = some (.int .i64 x) := (cell_same (ho6.oth w.heap.size (World.block_lt_of_cell? _ _ x5) hgb)).trans x5; have p6 : w6.cell? ⟨pw, 0, none⟩ = some (.int .i64 k) := (cell_same (ho6.oth pw (World.block_lt_of_cell? _ _ p5) hpb)).trans p5; have q6 : w6.cell? ⟨pw, 1, none⟩ = some (.slice a3 m3 c3) := (cell_same (ho6.oth pw (World.block_lt_of_cell? _ _ q5) hpb)).trans q5; have HC6 := Lib.hid (And.intro hs6 (And.intro hR6 ho6)); clear hs6 hR6 ho6))
      all_goals
        go_wp2_with fail
        go_ret
        refine ⟨rfl, R5, R6, w5.heap.size, w6.heap.size, HC5.out.2.1.keep (HC6.out.2.2.keep (Or.inl HC6.out.2.1.bl)) (HC6.out.2.2.oth b HC5.out.2.1.lt (by have := HORD.out; omega)), HC6.out.2.1, by rw [HC6.out.1, HC5.out.1], by rw [HC5.out.1]; exact HZ2.out, ?_, ?_, fun m hm hmb hmb' => ?_⟩
        · have h1 : Below b w w4.drew := (HAL.out.mono (by have := HORD.out; omega)).trans ((HQ.out.1.trans (hw.mono (by have := HORD.out; omega))).mono (by have := HORD.out; omega))
          exact (h1.trans HC5.out.2.2.low).trans (HC6.out.2.2.low.mono (by have := HORD.out; omega))
        · have := HC5.out.2.2.size
          have := HC6.out.2.2.size
          have h2 : w4.drew.heap.size = w4.heap.size := rfl
          have := HORD.out
          omega
        · have h3 := HC5.out.2.2.size
          have h2 : w4.drew.heap.size = w4.heap.size := rfl
          have h4 := HORD.out
          have h5 : w4.drew.heap[m]? = w4.heap[m]? := rfl
          exact (HC6.out.2.2.oth m (by omega) hmb').trans ((HC5.out.2.2.oth m (by omega) hmb).trans (h5.trans ((HQ.out.1.block m (by omega)).trans (HAL.out.block m hm))))
    · by_cases K1 : K = 1
      · subst K1
        clear K0
        have hR4 := (HR1.out.below HQ.out.1)
        have hR4' := (HR1'.out.below HQ.out.1)
        have HM4 := Lib.hid HQ.out.2.1
        obtain ⟨er, S2, hS⟩ : ∃ er S2, setS (sem R) x k (txL T3) = (er, S2) := ⟨_, _, rfl⟩
        have HZ2 : Hid (Zk S2) := Lib.hid (by have h := zk_set HZK.out x k (txL T3); rw [hS] at h; exact h)
        have hT3 : T3.length ≤ 12 ∧ szM (txL T3) ≤ 6540 := by rw [← txL_len, HQ.out.2.2.2.2.2.2.2]; exact ⟨HFW.out.1, HFW.out.2.1⟩
        have hord : lo ≤ w.heap.size ∧ w1.heap.size = w.heap.size + 1 ∧ w1.heap.size ≤ w4.heap.size ∧ b < w.heap.size ∧ b' < w.heap.size ∧ w1.heap.size ≤ lo3 ∧ hi3 ≤ w4.heap.size ∧ w1.heap.size ≤ pw ∧ pw < w4.heap.size ∧ b < b' := ⟨HLO.out, HSZ.out, HQ.out.1.size, HBL.out.1, HBL.out.2, HQ.out.2.2.1, HQ.out.2.2.2.1, HQ.out.2.2.2.2.2.1, HQ.out.2.2.2.2.2.2.1, HBB.out⟩
        have D1 : Hid (∀ w', Below w4.heap.size w4 w' → Calls Try.prog 12 #[.pointer (some ⟨b, 0, none⟩), .int .i64 x, .agg #[.int .i64 k, .slice a3 T3.length c3]] w' fun e w'' => e = .returned (.int .i64 er) ∧ ∃ R5, sem R5 = S2 ∧ Rg w'' 57 lo w''.heap.size b R5 ∧ Only b w' w'') := Lib.hid (fun w' hb => by
          have h := set_of (hR4.below hb) (by have := hb.size; omega) x k (HM4.out.below hb) (by have := hb.size; omega) (by omega) (by omega)
          rw [hS] at h
          exact h)
        have HNX : Hid (∀ w' w'', Below w4.heap.size w4 w' → Only b w' w'' → (w''.cell? ⟨w.heap.size, 1, none⟩ = some (.int .i64 x) ∧ w''.cell? ⟨pw, 0, none⟩ = some (.int .i64 k) ∧ w''.cell? ⟨pw, 1, none⟩ = some (.slice a3 T3.length c3)) ∧ Calls Try.prog 23 #[.pointer (some ⟨b', 0, none⟩), .int .i64 x, .agg #[.int .i64 k, .slice a3 T3.length c3]] w'' (fun e w3 => e = .returned (.int .i64 er) ∧ ∃ R6, sem R6 = S2 ∧ Rg w3 31 lo w3.heap.size b' R6 ∧ Only b' w'' w3)) := Lib.hid (fun w' w'' hb ho => by
          have hz' := hb.size
          have hz'' := ho.size
          have hg : w''.heap[w.heap.size]? = some (.cells #[.int .i64 1, .int .i64 x, .int .i64 k, .slice a n c] 33 (0, 0)) := (ho.oth _ (by omega) (by omega)).trans ((hb.block _ (by omega)).trans ((HQ.out.1.block _ (by omega)).trans HNW.out))
          have hp : w''.heap[pw]? = some (.cells #[.int .i64 k, .slice a3 T3.length c3] 28 (0, 0)) := (ho.oth _ (by omega) (by omega)).trans ((hb.block _ (by omega)).trans HQ.out.2.2.2.2.1)
          refine ⟨⟨by rw [cell_at hg]; rfl, by rw [cell_at hp]; rfl, by rw [cell_at hp]; rfl⟩, ?_⟩
          have hrr := (hR4'.below hb).keep (ho.keep (Or.inl (by have := HR1.out.bl; omega))) (ho.oth b' (by omega) (by omega))
          have hmm := (HM4.out.below hb).keep (ho.keep (Or.inl (by omega)))
          have h : Calls Try.prog 23 #[.pointer (some ⟨b', 0, none⟩), .int .i64 x, rgV k a3 T3.length c3] w'' (SetPost 31 lo b' (setS (sem R') x k (txL T3)) w'') := by
            cases hr : regI x with
            | none => exact rset_none hrr x k (by omega) hmm (by omega) (by omega) (by omega) (by omega) hr
            | some i =>
              by_cases h0 : 0 ≤ letK x
              · exact rset_letter hrr x k (by omega) hmm (by omega) (by omega) (by omega) (by omega) h0
              · have hx : x = 0 := by
                  unfold regI at hr
                  rw [if_neg h0] at hr
                  split at hr
                  · assumption
                  · cases hr
                exact rset_last hrr x k (by omega) hmm (by omega) (by omega) (by omega) (by omega) hx
          rw [HSR.out, hS] at h
          exact h)
        have hw : Below w4.heap.size w4 w4.drew := (Below.refl _ w4).drew
        obtain ⟨⟨x4, p4, q4⟩, _⟩ := HNX.out w4 w4 (Below.refl _ _) ⟨Below.refl _ _, Nat.le_refl _, fun _ _ _ => rfl⟩
        have hgb : w.heap.size ≠ b' := by omega
        have hpb : pw ≠ b' := by omega
        have der : (er == er) = true := by simp
        have HORD := Lib.hid hord
        generalize T3.length = m3 at *
        clear hR4 hR4' hS hT3 hord
        go_upto_region 6 with fail
        go_region_held3 (fun w' => w'.cell? ⟨w.heap.size, 1, none⟩ = some (.int .i64 x) ∧ w'.cell? ⟨pw, 0, none⟩ = some (.int .i64 k) ∧ w'.cell? ⟨pw, 1, none⟩ = some (.slice a3 m3 c3)) (first | assumption | (refine ⟨?_, ?_, ?_⟩ <;> assumption) | go_keep)
          (first
            | (go_at_call 12; refine (D1.out _ (by assumption)).mono ?_; rintro e w5 ⟨rfl, R5, hs5, hR5, ho5⟩; obtain ⟨⟨x5, p5, q5⟩, hrs⟩ := HNX.out _ _ (by assumption) ho5; have HRS := Lib.hid hrs; have HC5 := Lib.hid (And.intro hs5 (And.intro hR5 ho5)); clear hrs hs5 hR5 ho5)
            | (go_at_call 23; refine (HRS.out).mono ?_; rintro e w6 ⟨rfl, R6, hs6, hR6, ho6⟩; have x6 : w6.cell? ⟨w.heap.size, 1, none⟩ = some (.int .i64 x) := (cell_same (ho6.oth w.heap.size (World.block_lt_of_cell? _ _ x5) hgb)).trans x5; have p6 : w6.cell? ⟨pw, 0, none⟩ = some (.int .i64 k) := (cell_same (ho6.oth pw (World.block_lt_of_cell? _ _ p5) hpb)).trans p5; have q6 : w6.cell? ⟨pw, 1, none⟩ = some (.slice a3 m3 c3) := (cell_same (ho6.oth pw (World.block_lt_of_cell? _ _ q5) hpb)).trans q5; have HC6 := Lib.hid (And.intro hs6 (And.intro hR6 ho6)); clear hs6 hR6 ho6))
        all_goals
          go_wp2_with fail
          go_ret
          refine ⟨rfl, R5, R6, w5.heap.size, w6.heap.size, HC5.out.2.1.keep (HC6.out.2.2.keep (Or.inl HC6.out.2.1.bl)) (HC6.out.2.2.oth b HC5.out.2.1.lt (by have := HORD.out; omega)), HC6.out.2.1, by rw [HC6.out.1, HC5.out.1], by rw [HC5.out.1]; exact HZ2.out, ?_, ?_, fun m hm hmb hmb' => ?_⟩
          · have h1 : Below b w w4.drew := (HAL.out.mono (by have := HORD.out; omega)).trans ((HQ.out.1.trans (hw.mono (by have := HORD.out; omega))).mono (by have := HORD.out; omega))
            exact (h1.trans HC5.out.2.2.low).trans (HC6.out.2.2.low.mono (by have := HORD.out; omega))
          · have := HC5.out.2.2.size
            have := HC6.out.2.2.size
            have h2 : w4.drew.heap.size = w4.heap.size := rfl
            have := HORD.out
            omega
          · have h3 := HC5.out.2.2.size
            have h2 : w4.drew.heap.size = w4.heap.size := rfl
            have h4 := HORD.out
            have h5 : w4.drew.heap[m]? = w4.heap[m]? := rfl
            exact (HC6.out.2.2.oth m (by omega) hmb').trans ((HC5.out.2.2.oth m (by omega) hmb).trans (h5.trans ((HQ.out.1.block m (by omega)).trans (HAL.out.block m hm))))
      · by_cases K2 : K = 2
        · subst K2
          clear K0 K1
          have hR4 := (HR1.out.below HQ.out.1)
          have hR4' := (HR1'.out.below HQ.out.1)
          have HM4 := Lib.hid HQ.out.2.1
          obtain ⟨er, S2, hS⟩ : ∃ er S2, setS (sem R) x k (txL T3) = (er, S2) := ⟨_, _, rfl⟩
          have HZ2 : Hid (Zk S2) := Lib.hid (by have h := zk_set HZK.out x k (txL T3); rw [hS] at h; exact h)
          have hT3 : T3.length ≤ 12 ∧ szM (txL T3) ≤ 6540 := by rw [← txL_len, HQ.out.2.2.2.2.2.2.2]; exact ⟨HFW.out.1, HFW.out.2.1⟩
          have hord : lo ≤ w.heap.size ∧ w1.heap.size = w.heap.size + 1 ∧ w1.heap.size ≤ w4.heap.size ∧ b < w.heap.size ∧ b' < w.heap.size ∧ w1.heap.size ≤ lo3 ∧ hi3 ≤ w4.heap.size ∧ w1.heap.size ≤ pw ∧ pw < w4.heap.size ∧ b < b' := ⟨HLO.out, HSZ.out, HQ.out.1.size, HBL.out.1, HBL.out.2, HQ.out.2.2.1, HQ.out.2.2.2.1, HQ.out.2.2.2.2.2.1, HQ.out.2.2.2.2.2.2.1, HBB.out⟩
          have D1 : Hid (∀ w', Below w4.heap.size w4 w' → Calls Try.prog 12 #[.pointer (some ⟨b, 0, none⟩), .int .i64 x, .agg #[.int .i64 k, .slice a3 T3.length c3]] w' fun e w'' => e = .returned (.int .i64 er) ∧ ∃ R5, sem R5 = S2 ∧ Rg w'' 57 lo w''.heap.size b R5 ∧ Only b w' w'') := Lib.hid (fun w' hb => by
            have h := set_of (hR4.below hb) (by have := hb.size; omega) x k (HM4.out.below hb) (by have := hb.size; omega) (by omega) (by omega)
            rw [hS] at h
            exact h)
          have HNX : Hid (∀ w' w'', Below w4.heap.size w4 w' → Only b w' w'' → (w''.cell? ⟨w.heap.size, 1, none⟩ = some (.int .i64 x) ∧ w''.cell? ⟨pw, 0, none⟩ = some (.int .i64 k) ∧ w''.cell? ⟨pw, 1, none⟩ = some (.slice a3 T3.length c3)) ∧ Calls Try.prog 23 #[.pointer (some ⟨b', 0, none⟩), .int .i64 x, .agg #[.int .i64 k, .slice a3 T3.length c3]] w'' (fun e w3 => e = .returned (.int .i64 er) ∧ ∃ R6, sem R6 = S2 ∧ Rg w3 31 lo w3.heap.size b' R6 ∧ Only b' w'' w3)) := Lib.hid (fun w' w'' hb ho => by
            have hz' := hb.size
            have hz'' := ho.size
            have hg : w''.heap[w.heap.size]? = some (.cells #[.int .i64 2, .int .i64 x, .int .i64 k, .slice a n c] 33 (0, 0)) := (ho.oth _ (by omega) (by omega)).trans ((hb.block _ (by omega)).trans ((HQ.out.1.block _ (by omega)).trans HNW.out))
            have hp : w''.heap[pw]? = some (.cells #[.int .i64 k, .slice a3 T3.length c3] 28 (0, 0)) := (ho.oth _ (by omega) (by omega)).trans ((hb.block _ (by omega)).trans HQ.out.2.2.2.2.1)
            refine ⟨⟨by rw [cell_at hg]; rfl, by rw [cell_at hp]; rfl, by rw [cell_at hp]; rfl⟩, ?_⟩
            have hrr := (hR4'.below hb).keep (ho.keep (Or.inl (by have := HR1.out.bl; omega))) (ho.oth b' (by omega) (by omega))
            have hmm := (HM4.out.below hb).keep (ho.keep (Or.inl (by omega)))
            have h : Calls Try.prog 23 #[.pointer (some ⟨b', 0, none⟩), .int .i64 x, rgV k a3 T3.length c3] w'' (SetPost 31 lo b' (setS (sem R') x k (txL T3)) w'') := by
              cases hr : regI x with
              | none => exact rset_none hrr x k (by omega) hmm (by omega) (by omega) (by omega) (by omega) hr
              | some i =>
                by_cases h0 : 0 ≤ letK x
                · exact rset_letter hrr x k (by omega) hmm (by omega) (by omega) (by omega) (by omega) h0
                · have hx : x = 0 := by
                    unfold regI at hr
                    rw [if_neg h0] at hr
                    split at hr
                    · assumption
                    · cases hr
                  exact rset_last hrr x k (by omega) hmm (by omega) (by omega) (by omega) (by omega) hx
            rw [HSR.out, hS] at h
            exact h)
          have hw : Below w4.heap.size w4 w4.drew := (Below.refl _ w4).drew
          obtain ⟨⟨x4, p4, q4⟩, _⟩ := HNX.out w4 w4 (Below.refl _ _) ⟨Below.refl _ _, Nat.le_refl _, fun _ _ _ => rfl⟩
          have hgb : w.heap.size ≠ b' := by omega
          have hpb : pw ≠ b' := by omega
          have der : (er == er) = true := by simp
          have HORD := Lib.hid hord
          generalize T3.length = m3 at *
          clear hR4 hR4' hS hT3 hord
          go_upto_region 6 with fail
          go_region_held3 (fun w' => w'.cell? ⟨w.heap.size, 1, none⟩ = some (.int .i64 x) ∧ w'.cell? ⟨pw, 0, none⟩ = some (.int .i64 k) ∧ w'.cell? ⟨pw, 1, none⟩ = some (.slice a3 m3 c3)) (first | assumption | (refine ⟨?_, ?_, ?_⟩ <;> assumption) | go_keep)
            (first
              | (go_at_call 12; refine (D1.out _ (by assumption)).mono ?_; rintro e w5 ⟨rfl, R5, hs5, hR5, ho5⟩; obtain ⟨⟨x5, p5, q5⟩, hrs⟩ := HNX.out _ _ (by assumption) ho5; have HRS := Lib.hid hrs; have HC5 := Lib.hid (And.intro hs5 (And.intro hR5 ho5)); clear hrs hs5 hR5 ho5)
              | (go_at_call 23; refine (HRS.out).mono ?_; rintro e w6 ⟨rfl, R6, hs6, hR6, ho6⟩; have x6 : w6.cell? ⟨w.heap.size, 1, none⟩ = some (.int .i64 x) := (cell_same (ho6.oth w.heap.size (World.block_lt_of_cell? _ _ x5) hgb)).trans x5; have p6 : w6.cell? ⟨pw, 0, none⟩ = some (.int .i64 k) := (cell_same (ho6.oth pw (World.block_lt_of_cell? _ _ p5) hpb)).trans p5; have q6 : w6.cell? ⟨pw, 1, none⟩ = some (.slice a3 m3 c3) := (cell_same (ho6.oth pw (World.block_lt_of_cell? _ _ q5) hpb)).trans q5; have HC6 := Lib.hid (And.intro hs6 (And.intro hR6 ho6)); clear hs6 hR6 ho6))
          all_goals
            go_wp2_with fail
            go_ret
            refine ⟨rfl, R5, R6, w5.heap.size, w6.heap.size, HC5.out.2.1.keep (HC6.out.2.2.keep (Or.inl HC6.out.2.1.bl)) (HC6.out.2.2.oth b HC5.out.2.1.lt (by have := HORD.out; omega)), HC6.out.2.1, by rw [HC6.out.1, HC5.out.1], by rw [HC5.out.1]; exact HZ2.out, ?_, ?_, fun m hm hmb hmb' => ?_⟩
            · have h1 : Below b w w4.drew := (HAL.out.mono (by have := HORD.out; omega)).trans ((HQ.out.1.trans (hw.mono (by have := HORD.out; omega))).mono (by have := HORD.out; omega))
              exact (h1.trans HC5.out.2.2.low).trans (HC6.out.2.2.low.mono (by have := HORD.out; omega))
            · have := HC5.out.2.2.size
              have := HC6.out.2.2.size
              have h2 : w4.drew.heap.size = w4.heap.size := rfl
              have := HORD.out
              omega
            · have h3 := HC5.out.2.2.size
              have h2 : w4.drew.heap.size = w4.heap.size := rfl
              have h4 := HORD.out
              have h5 : w4.drew.heap[m]? = w4.heap[m]? := rfl
              exact (HC6.out.2.2.oth m (by omega) hmb').trans ((HC5.out.2.2.oth m (by omega) hmb).trans (h5.trans ((HQ.out.1.block m (by omega)).trans (HAL.out.block m hm))))
        · have E0 : (K == 0) = false := by rw [beq_eq_false_iff_ne]; exact K0
          have E1 : (K == 1) = false := by rw [beq_eq_false_iff_ne]; exact K1
          have E2 : (K == 2) = false := by rw [beq_eq_false_iff_ne]; exact K2
          by_cases K3 : K = 3
          · subst K3
            clear K0 K1 K2 E0 E1 E2
            have hR4 := (HR1.out.below HQ.out.1)
            have hR4' := (HR1'.out.below HQ.out.1)
            obtain ⟨er, S2, hS⟩ : ∃ er S2, dropS (sem R) x = (er, S2) := ⟨_, _, rfl⟩
            have HZ2 : Hid (Zk S2) := Lib.hid (by have h := zk_drop HZK.out x; rw [hS] at h; exact h)
            have hord : lo ≤ w.heap.size ∧ w1.heap.size = w.heap.size + 1 ∧ w1.heap.size ≤ w4.heap.size ∧ b < w.heap.size ∧ b' < w.heap.size ∧ b < b' := ⟨HLO.out, HSZ.out, HQ.out.1.size, HBL.out.1, HBL.out.2, HBB.out⟩
            have D1 : Hid (∀ w', Below w4.heap.size w4 w' → Calls Try.prog 21 #[.pointer (some ⟨b, 0, none⟩), .int .i64 x] w' fun e w'' => e = .returned (.bool er) ∧ ∃ R5, sem R5 = S2 ∧ Rg w'' 57 lo w''.heap.size b R5 ∧ Only b w' w'') := Lib.hid (fun w' hb => by
              have h := drop_of (hR4.below hb) x
              rw [hS] at h
              exact h)
            have HNX : Hid (∀ w' w'', Below w4.heap.size w4 w' → Only b w' w'' → w''.cell? ⟨w.heap.size, 1, none⟩ = some (.int .i64 x) ∧ Calls Try.prog 24 #[.pointer (some ⟨b', 0, none⟩), .int .i64 x] w'' (fun e w3 => e = .returned (.bool er) ∧ ∃ R6, sem R6 = S2 ∧ Rg w3 31 lo w3.heap.size b' R6 ∧ Only b' w'' w3)) := Lib.hid (fun w' w'' hb ho => by
              have hz' := hb.size
              have hz'' := ho.size
              have hg : w''.heap[w.heap.size]? = some (.cells #[.int .i64 3, .int .i64 x, .int .i64 k, .slice a n c] 33 (0, 0)) := (ho.oth _ (by omega) (by omega)).trans ((hb.block _ (by omega)).trans ((HQ.out.1.block _ (by omega)).trans HNW.out))
              refine ⟨by rw [cell_at hg]; rfl, ?_⟩
              have h := rdrop_of ((hR4'.below hb).keep (ho.keep (Or.inl (by have := HR1.out.bl; omega))) (ho.oth b' (by omega) (by omega))) x
              rw [HSR.out, hS] at h
              exact h)
            have hw : Below w4.heap.size w4 w4.drew := (Below.refl _ w4).drew
            obtain ⟨x4, _⟩ := HNX.out w4 w4 (Below.refl _ _) ⟨Below.refl _ _, Nat.le_refl _, fun _ _ _ => rfl⟩
            have hgb : w.heap.size ≠ b' := by omega
            have der : (er == er) = true := by simp
            have HORD := Lib.hid hord
            generalize T3.length = m3 at *
            clear hR4 hR4' hS hord
            go_upto_region 8 with fail
            go_region_held3 (fun w' => w'.cell? ⟨w.heap.size, 1, none⟩ = some (.int .i64 x)) (first | assumption | go_keep)
              (first
                | (go_at_call 21; refine (D1.out _ (by assumption)).mono ?_; rintro e w5 ⟨rfl, R5, hs5, hR5, ho5⟩; obtain ⟨x5, hrs⟩ := HNX.out _ _ (by assumption) ho5; have HRS := Lib.hid hrs; have HC5 := Lib.hid (And.intro hs5 (And.intro hR5 ho5)); clear hrs hs5 hR5 ho5)
                | (go_at_call 24; refine (HRS.out).mono ?_; rintro e w6 ⟨rfl, R6, hs6, hR6, ho6⟩; have x6 : w6.cell? ⟨w.heap.size, 1, none⟩ = some (.int .i64 x) := (cell_same (ho6.oth w.heap.size (World.block_lt_of_cell? _ _ x5) hgb)).trans x5; have HC6 := Lib.hid (And.intro hs6 (And.intro hR6 ho6)); clear hs6 hR6 ho6))
            all_goals
              go_wp2_with fail
              go_ret
              refine ⟨rfl, R5, R6, w5.heap.size, w6.heap.size, HC5.out.2.1.keep (HC6.out.2.2.keep (Or.inl HC6.out.2.1.bl)) (HC6.out.2.2.oth b HC5.out.2.1.lt (by have := HORD.out; omega)), HC6.out.2.1, by rw [HC6.out.1, HC5.out.1], by rw [HC5.out.1]; exact HZ2.out, ?_, ?_, fun m hm hmb hmb' => ?_⟩
              · have h1 : Below b w w4.drew := (HAL.out.mono (by have := HORD.out; omega)).trans ((HQ.out.1.trans (hw.mono (by have := HORD.out; omega))).mono (by have := HORD.out; omega))
                exact (h1.trans HC5.out.2.2.low).trans (HC6.out.2.2.low.mono (by have := HORD.out; omega))
              · have := HC5.out.2.2.size
                have := HC6.out.2.2.size
                have h2 : w4.drew.heap.size = w4.heap.size := rfl
                have := HORD.out
                omega
              · have h3 := HC5.out.2.2.size
                have h2 : w4.drew.heap.size = w4.heap.size := rfl
                have h4 := HORD.out
                have h5 : w4.drew.heap[m]? = w4.heap[m]? := rfl
                exact (HC6.out.2.2.oth m (by omega) hmb').trans ((HC5.out.2.2.oth m (by omega) hmb).trans (h5.trans ((HQ.out.1.block m (by omega)).trans (HAL.out.block m hm))))
          · have E3 : (K == 3) = false := by rw [beq_eq_false_iff_ne]; exact K3
            clear K0 K1 K2 K3
            have hR4 := Lib.hid (HR1.out.below HQ.out.1)
            have hR4' := Lib.hid (HR1'.out.below HQ.out.1)
            go_wp2_with fail
            go_ret
            exact ⟨rfl, R, R', hi, hi', hR4.out, hR4'.out, HSR.out, HZK.out, (HAL.out.mono (Nat.le_of_lt HBL.out.1)).trans (HQ.out.1.mono (by have := HSZ.out; have := HBL.out; omega)), by have := HSZ.out; have := HQ.out.1.size; omega, fun m hm _ _ => (HQ.out.1.block m (by have := HSZ.out; omega)).trans (HAL.out.block m hm)⟩
  · have hk : ∃ lo3 hi3, (Below w1.heap.size w1 (set2 w3 w1.heap.size 0 (.int .i64 k) (.slice a3 T3.length c3)) ∧ Mx (set2 w3 w1.heap.size 0 (.int .i64 k) (.slice a3 T3.length c3)) lo3 hi3 a3 c3 T3 ∧ w1.heap.size ≤ lo3 ∧ hi3 ≤ (set2 w3 w1.heap.size 0 (.int .i64 k) (.slice a3 T3.length c3)).heap.size ∧ (set2 w3 w1.heap.size 0 (.int .i64 k) (.slice a3 T3.length c3)).heap[w1.heap.size]? = some (.cells #[.int .i64 k, .slice a3 T3.length c3] 28 (0, 0)) ∧ w1.heap.size ≤ w1.heap.size ∧ w1.heap.size < (set2 w3 w1.heap.size 0 (.int .i64 k) (.slice a3 T3.length c3)).heap.size ∧ txL T3 = fewM (txL T)) := by
      have hb3' : Below (w1.alloc (.cells #[.int .i64 0, .slice none 0 0] 28)).heap.size (w1.alloc (.cells #[.int .i64 0, .slice none 0 0] 28)) w3 := (Below.refl _ _).drew.trans hb3
      have hz : w1.heap.size + 1 ≤ w3.heap.size := by have := hb3'.size; simpa using this
      have hm3' : Mx w3 (w1.heap.size + 1) w3.heap.size a3 c3 T3 := by
        have h : Mx w3 (w1.alloc (.cells #[.int .i64 0, .slice none 0 0] 28)).heap.size w3.heap.size a3 c3 T3 := hm3
        simpa using h
      refine ⟨w1.heap.size + 1, w3.heap.size, set2_below ((t_al w1 _).trans (hb3'.mono (by simp))) (Nat.le_refl _) _ _, hm3'.keep (set2_keep (Or.inl (Nat.lt_succ_self _))), Nat.le_succ _, by rw [set2_size]; exact Nat.le_refl _, set2_at hB3 _ _, Nat.le_refl _, by rw [set2_size]; exact hz, ht3⟩
    obtain ⟨lo3, hi3, hk2⟩ := hk
    have HQ := Lib.hid hk2
    rw [show (w3.setCell ⟨w1.heap.size, 0, none⟩ (.int .i64 k)).setCell ⟨w1.heap.size, 1, none⟩ (.slice a3 T3.length c3) = set2 w3 w1.heap.size 0 (.int .i64 k) (.slice a3 T3.length c3) from rfl]
    generalize set2 w3 w1.heap.size 0 (.int .i64 k) (.slice a3 T3.length c3) = w4 at *
    obtain ⟨pw, hpw⟩ : ∃ pw, w1.heap.size = pw := ⟨_, rfl⟩
    have HQ2 : Hid (Below w1.heap.size w1 w4 ∧ Mx w4 lo3 hi3 a3 c3 T3 ∧ w1.heap.size ≤ lo3 ∧ hi3 ≤ w4.heap.size ∧ w4.heap[pw]? = some (.cells #[.int .i64 k, .slice a3 T3.length c3] 28 (0, 0)) ∧ w1.heap.size ≤ pw ∧ pw < w4.heap.size ∧ txL T3 = fewM (txL T)) := Lib.hid (by rw [← hpw]; exact hk2)
    clear HQ hk2 hB3 zB cB0 cB1
    have HQ := HQ2
    clear HQ2
    conv in (Value.pointer (some ⟨w1.heap.size, 0, none⟩)) => rw [hpw]
    clear hpw
    have c0 : w4.cell? ⟨w.heap.size, 0, none⟩ = some (.int .i64 K) := by
      rw [cell_at ((HQ.out.1.block _ (by have := HSZ.out; omega)).trans HNW.out)]; rfl
    clear hb3 hm3 hwr3 ht3 k2 k3 hne1 hne2 hb10 k2' k3' hlt1
    by_cases K0 : K = 0
    · subst K0
      have hR4 := (HR1.out.below HQ.out.1)
      have hR4' := (HR1'.out.below HQ.out.1)
      have HM4 := Lib.hid HQ.out.2.1
      obtain ⟨er, S2, hS⟩ : ∃ er S2, setS (sem R) x k (txL T3) = (er, S2) := ⟨_, _, rfl⟩
      have HZ2 : Hid (Zk S2) := Lib.hid (by have h := zk_set HZK.out x k (txL T3); rw [hS] at h; exact h)
      have hT3 : T3.length ≤ 12 ∧ szM (txL T3) ≤ 6540 := by rw [← txL_len, HQ.out.2.2.2.2.2.2.2]; exact ⟨HFW.out.1, HFW.out.2.1⟩
      have hord : lo ≤ w.heap.size ∧ w1.heap.size = w.heap.size + 1 ∧ w1.heap.size ≤ w4.heap.size ∧ b < w.heap.size ∧ b' < w.heap.size ∧ w1.heap.size ≤ lo3 ∧ hi3 ≤ w4.heap.size ∧ w1.heap.size ≤ pw ∧ pw < w4.heap.size ∧ b < b' := ⟨HLO.out, HSZ.out, HQ.out.1.size, HBL.out.1, HBL.out.2, HQ.out.2.2.1, HQ.out.2.2.2.1, HQ.out.2.2.2.2.2.1, HQ.out.2.2.2.2.2.2.1, HBB.out⟩
      have D1 : Hid (∀ w', Below w4.heap.size w4 w' → Calls Try.prog 12 #[.pointer (some ⟨b, 0, none⟩), .int .i64 x, .agg #[.int .i64 k, .slice a3 T3.length c3]] w' fun e w'' => e = .returned (.int .i64 er) ∧ ∃ R5, sem R5 = S2 ∧ Rg w'' 57 lo w''.heap.size b R5 ∧ Only b w' w'') := Lib.hid (fun w' hb => by
        have h := set_of (hR4.below hb) (by have := hb.size; omega) x k (HM4.out.below hb) (by have := hb.size; omega) (by omega) (by omega)
        rw [hS] at h
        exact h)
      have HNX : Hid (∀ w' w'', Below w4.heap.size w4 w' → Only b w' w'' → (w''.cell? ⟨w.heap.size, 1, none⟩ = some (.int .i64 x) ∧ w''.cell? ⟨pw, 0, none⟩ = some (.int .i64 k) ∧ w''.cell? ⟨pw, 1, none⟩ = some (.slice a3 T3.length c3)) ∧ Calls Try.prog 23 #[.pointer (some ⟨b', 0, none⟩), .int .i64 x, .agg #[.int .i64 k, .slice a3 T3.length c3]] w'' (fun e w3 => e = .returned (.int .i64 er) ∧ ∃ R6, sem R6 = S2 ∧ Rg w3 31 lo w3.heap.size b' R6 ∧ Only b' w'' w3)) := Lib.hid (fun w' w'' hb ho => by
        have hz' := hb.size
        have hz'' := ho.size
        have hg : w''.heap[w.heap.size]? = some (.cells #[.int .i64 0, .int .i64 x, .int .i64 k, .slice a n c] 33 (0, 0)) := (ho.oth _ (by omega) (by omega)).trans ((hb.block _ (by omega)).trans ((HQ.out.1.block _ (by omega)).trans HNW.out))
        have hp : w''.heap[pw]? = some (.cells #[.int .i64 k, .slice a3 T3.length c3] 28 (0, 0)) := (ho.oth _ (by omega) (by omega)).trans ((hb.block _ (by omega)).trans HQ.out.2.2.2.2.1)
        refine ⟨⟨by rw [cell_at hg]; rfl, by rw [cell_at hp]; rfl, by rw [cell_at hp]; rfl⟩, ?_⟩
        have hrr := (hR4'.below hb).keep (ho.keep (Or.inl (by have := HR1.out.bl; omega))) (ho.oth b' (by omega) (by omega))
        have hmm := (HM4.out.below hb).keep (ho.keep (Or.inl (by omega)))
        have h : Calls Try.prog 23 #[.pointer (some ⟨b', 0, none⟩), .int .i64 x, rgV k a3 T3.length c3] w'' (SetPost 31 lo b' (setS (sem R') x k (txL T3)) w'') := by
          cases hr : regI x with
          | none => exact rset_none hrr x k (by omega) hmm (by omega) (by omega) (by omega) (by omega) hr
          | some i =>
            by_cases h0 : 0 ≤ letK x
            · exact rset_letter hrr x k (by omega) hmm (by omega) (by omega) (by omega) (by omega) h0
            · have hx : x = 0 := by
                unfold regI at hr
                rw [if_neg h0] at hr
                split at hr
                · assumption
                · cases hr
              exact rset_last hrr x k (by omega) hmm (by omega) (by omega) (by omega) (by omega) hx
        rw [HSR.out, hS] at h
        exact h)
      have hw : Below w4.heap.size w4 w4.drew := (Below.refl _ w4).drew
      obtain ⟨⟨x4, p4, q4⟩, _⟩ := HNX.out w4 w4 (Below.refl _ _) ⟨Below.refl _ _, Nat.le_refl _, fun _ _ _ => rfl⟩
      have hgb : w.heap.size ≠ b' := by omega
      have hpb : pw ≠ b' := by omega
      have der : (er == er) = true := by simp
      have HORD := Lib.hid hord
      generalize T3.length = m3 at *
      clear hR4 hR4' hS hT3 hord
      go_upto_region 6 with fail
      go_region_held3 (fun w' => w'.cell? ⟨w.heap.size, 1, none⟩ = some (.int .i64 x) ∧ w'.cell? ⟨pw, 0, none⟩ = some (.int .i64 k) ∧ w'.cell? ⟨pw, 1, none⟩ = some (.slice a3 m3 c3)) (first | assumption | (refine ⟨?_, ?_, ?_⟩ <;> assumption) | go_keep)
        (first
          | (go_at_call 12; refine (D1.out _ (by assumption)).mono ?_; rintro e w5 ⟨rfl, R5, hs5, hR5, ho5⟩; obtain ⟨⟨x5, p5, q5⟩, hrs⟩ := HNX.out _ _ (by assumption) ho5; have HRS := Lib.hid hrs; have HC5 := Lib.hid (And.intro hs5 (And.intro hR5 ho5)); clear hrs hs5 hR5 ho5)
          | (go_at_call 23; refine (HRS.out).mono ?_; rintro e w6 ⟨rfl, R6, hs6, hR6, ho6⟩; have x6 : w6.cell? ⟨w.heap.size, 1, none⟩ = some (.int .i64 x) := (cell_same (ho6.oth w.heap.size (World.block_lt_of_cell? _ _ x5) hgb)).trans x5; have p6 : w6.cell? ⟨pw, 0, none⟩ = some (.int .i64 k) := (cell_same (ho6.oth pw (World.block_lt_of_cell? _ _ p5) hpb)).trans p5; have q6 : w6.cell? ⟨pw, 1, none⟩ = some (.slice a3 m3 c3) := (cell_same (ho6.oth pw (World.block_lt_of_cell? _ _ q5) hpb)).trans q5; have HC6 := Lib.hid (And.intro hs6 (And.intro hR6 ho6)); clear hs6 hR6 ho6))
      all_goals
        go_wp2_with fail
        go_ret
        refine ⟨rfl, R5, R6, w5.heap.size, w6.heap.size, HC5.out.2.1.keep (HC6.out.2.2.keep (Or.inl HC6.out.2.1.bl)) (HC6.out.2.2.oth b HC5.out.2.1.lt (by have := HORD.out; omega)), HC6.out.2.1, by rw [HC6.out.1, HC5.out.1], by rw [HC5.out.1]; exact HZ2.out, ?_, ?_, fun m hm hmb hmb' => ?_⟩
        · have h1 : Below b w w4.drew := (HAL.out.mono (by have := HORD.out; omega)).trans ((HQ.out.1.trans (hw.mono (by have := HORD.out; omega))).mono (by have := HORD.out; omega))
          exact (h1.trans HC5.out.2.2.low).trans (HC6.out.2.2.low.mono (by have := HORD.out; omega))
        · have := HC5.out.2.2.size
          have := HC6.out.2.2.size
          have h2 : w4.drew.heap.size = w4.heap.size := rfl
          have := HORD.out
          omega
        · have h3 := HC5.out.2.2.size
          have h2 : w4.drew.heap.size = w4.heap.size := rfl
          have h4 := HORD.out
          have h5 : w4.drew.heap[m]? = w4.heap[m]? := rfl
          exact (HC6.out.2.2.oth m (by omega) hmb').trans ((HC5.out.2.2.oth m (by omega) hmb).trans (h5.trans ((HQ.out.1.block m (by omega)).trans (HAL.out.block m hm))))
    · by_cases K1 : K = 1
      · subst K1
        clear K0
        have hR4 := (HR1.out.below HQ.out.1)
        have hR4' := (HR1'.out.below HQ.out.1)
        have HM4 := Lib.hid HQ.out.2.1
        obtain ⟨er, S2, hS⟩ : ∃ er S2, setS (sem R) x k (txL T3) = (er, S2) := ⟨_, _, rfl⟩
        have HZ2 : Hid (Zk S2) := Lib.hid (by have h := zk_set HZK.out x k (txL T3); rw [hS] at h; exact h)
        have hT3 : T3.length ≤ 12 ∧ szM (txL T3) ≤ 6540 := by rw [← txL_len, HQ.out.2.2.2.2.2.2.2]; exact ⟨HFW.out.1, HFW.out.2.1⟩
        have hord : lo ≤ w.heap.size ∧ w1.heap.size = w.heap.size + 1 ∧ w1.heap.size ≤ w4.heap.size ∧ b < w.heap.size ∧ b' < w.heap.size ∧ w1.heap.size ≤ lo3 ∧ hi3 ≤ w4.heap.size ∧ w1.heap.size ≤ pw ∧ pw < w4.heap.size ∧ b < b' := ⟨HLO.out, HSZ.out, HQ.out.1.size, HBL.out.1, HBL.out.2, HQ.out.2.2.1, HQ.out.2.2.2.1, HQ.out.2.2.2.2.2.1, HQ.out.2.2.2.2.2.2.1, HBB.out⟩
        have D1 : Hid (∀ w', Below w4.heap.size w4 w' → Calls Try.prog 12 #[.pointer (some ⟨b, 0, none⟩), .int .i64 x, .agg #[.int .i64 k, .slice a3 T3.length c3]] w' fun e w'' => e = .returned (.int .i64 er) ∧ ∃ R5, sem R5 = S2 ∧ Rg w'' 57 lo w''.heap.size b R5 ∧ Only b w' w'') := Lib.hid (fun w' hb => by
          have h := set_of (hR4.below hb) (by have := hb.size; omega) x k (HM4.out.below hb) (by have := hb.size; omega) (by omega) (by omega)
          rw [hS] at h
          exact h)
        have HNX : Hid (∀ w' w'', Below w4.heap.size w4 w' → Only b w' w'' → (w''.cell? ⟨w.heap.size, 1, none⟩ = some (.int .i64 x) ∧ w''.cell? ⟨pw, 0, none⟩ = some (.int .i64 k) ∧ w''.cell? ⟨pw, 1, none⟩ = some (.slice a3 T3.length c3)) ∧ Calls Try.prog 23 #[.pointer (some ⟨b', 0, none⟩), .int .i64 x, .agg #[.int .i64 k, .slice a3 T3.length c3]] w'' (fun e w3 => e = .returned (.int .i64 er) ∧ ∃ R6, sem R6 = S2 ∧ Rg w3 31 lo w3.heap.size b' R6 ∧ Only b' w'' w3)) := Lib.hid (fun w' w'' hb ho => by
          have hz' := hb.size
          have hz'' := ho.size
          have hg : w''.heap[w.heap.size]? = some (.cells #[.int .i64 1, .int .i64 x, .int .i64 k, .slice a n c] 33 (0, 0)) := (ho.oth _ (by omega) (by omega)).trans ((hb.block _ (by omega)).trans ((HQ.out.1.block _ (by omega)).trans HNW.out))
          have hp : w''.heap[pw]? = some (.cells #[.int .i64 k, .slice a3 T3.length c3] 28 (0, 0)) := (ho.oth _ (by omega) (by omega)).trans ((hb.block _ (by omega)).trans HQ.out.2.2.2.2.1)
          refine ⟨⟨by rw [cell_at hg]; rfl, by rw [cell_at hp]; rfl, by rw [cell_at hp]; rfl⟩, ?_⟩
          have hrr := (hR4'.below hb).keep (ho.keep (Or.inl (by have := HR1.out.bl; omega))) (ho.oth b' (by omega) (by omega))
          have hmm := (HM4.out.below hb).keep (ho.keep (Or.inl (by omega)))
          have h : Calls Try.prog 23 #[.pointer (some ⟨b', 0, none⟩), .int .i64 x, rgV k a3 T3.length c3] w'' (SetPost 31 lo b' (setS (sem R') x k (txL T3)) w'') := by
            cases hr : regI x with
            | none => exact rset_none hrr x k (by omega) hmm (by omega) (by omega) (by omega) (by omega) hr
            | some i =>
              by_cases h0 : 0 ≤ letK x
              · exact rset_letter hrr x k (by omega) hmm (by omega) (by omega) (by omega) (by omega) h0
              · have hx : x = 0 := by
                  unfold regI at hr
                  rw [if_neg h0] at hr
                  split at hr
                  · assumption
                  · cases hr
                exact rset_last hrr x k (by omega) hmm (by omega) (by omega) (by omega) (by omega) hx
          rw [HSR.out, hS] at h
          exact h)
        have hw : Below w4.heap.size w4 w4.drew := (Below.refl _ w4).drew
        obtain ⟨⟨x4, p4, q4⟩, _⟩ := HNX.out w4 w4 (Below.refl _ _) ⟨Below.refl _ _, Nat.le_refl _, fun _ _ _ => rfl⟩
        have hgb : w.heap.size ≠ b' := by omega
        have hpb : pw ≠ b' := by omega
        have der : (er == er) = true := by simp
        have HORD := Lib.hid hord
        generalize T3.length = m3 at *
        clear hR4 hR4' hS hT3 hord
        go_upto_region 6 with fail
        go_region_held3 (fun w' => w'.cell? ⟨w.heap.size, 1, none⟩ = some (.int .i64 x) ∧ w'.cell? ⟨pw, 0, none⟩ = some (.int .i64 k) ∧ w'.cell? ⟨pw, 1, none⟩ = some (.slice a3 m3 c3)) (first | assumption | (refine ⟨?_, ?_, ?_⟩ <;> assumption) | go_keep)
          (first
            | (go_at_call 12; refine (D1.out _ (by assumption)).mono ?_; rintro e w5 ⟨rfl, R5, hs5, hR5, ho5⟩; obtain ⟨⟨x5, p5, q5⟩, hrs⟩ := HNX.out _ _ (by assumption) ho5; have HRS := Lib.hid hrs; have HC5 := Lib.hid (And.intro hs5 (And.intro hR5 ho5)); clear hrs hs5 hR5 ho5)
            | (go_at_call 23; refine (HRS.out).mono ?_; rintro e w6 ⟨rfl, R6, hs6, hR6, ho6⟩; have x6 : w6.cell? ⟨w.heap.size, 1, none⟩ = some (.int .i64 x) := (cell_same (ho6.oth w.heap.size (World.block_lt_of_cell? _ _ x5) hgb)).trans x5; have p6 : w6.cell? ⟨pw, 0, none⟩ = some (.int .i64 k) := (cell_same (ho6.oth pw (World.block_lt_of_cell? _ _ p5) hpb)).trans p5; have q6 : w6.cell? ⟨pw, 1, none⟩ = some (.slice a3 m3 c3) := (cell_same (ho6.oth pw (World.block_lt_of_cell? _ _ q5) hpb)).trans q5; have HC6 := Lib.hid (And.intro hs6 (And.intro hR6 ho6)); clear hs6 hR6 ho6))
        all_goals
          go_wp2_with fail
          go_ret
          refine ⟨rfl, R5, R6, w5.heap.size, w6.heap.size, HC5.out.2.1.keep (HC6.out.2.2.keep (Or.inl HC6.out.2.1.bl)) (HC6.out.2.2.oth b HC5.out.2.1.lt (by have := HORD.out; omega)), HC6.out.2.1, by rw [HC6.out.1, HC5.out.1], by rw [HC5.out.1]; exact HZ2.out, ?_, ?_, fun m hm hmb hmb' => ?_⟩
          · have h1 : Below b w w4.drew := (HAL.out.mono (by have := HORD.out; omega)).trans ((HQ.out.1.trans (hw.mono (by have := HORD.out; omega))).mono (by have := HORD.out; omega))
            exact (h1.trans HC5.out.2.2.low).trans (HC6.out.2.2.low.mono (by have := HORD.out; omega))
          · have := HC5.out.2.2.size
            have := HC6.out.2.2.size
            have h2 : w4.drew.heap.size = w4.heap.size := rfl
            have := HORD.out
            omega
          · have h3 := HC5.out.2.2.size
            have h2 : w4.drew.heap.size = w4.heap.size := rfl
            have h4 := HORD.out
            have h5 : w4.drew.heap[m]? = w4.heap[m]? := rfl
            exact (HC6.out.2.2.oth m (by omega) hmb').trans ((HC5.out.2.2.oth m (by omega) hmb).trans (h5.trans ((HQ.out.1.block m (by omega)).trans (HAL.out.block m hm))))
      · by_cases K2 : K = 2
        · subst K2
          clear K0 K1
          have hR4 := (HR1.out.below HQ.out.1)
          have hR4' := (HR1'.out.below HQ.out.1)
          have HM4 := Lib.hid HQ.out.2.1
          obtain ⟨er, S2, hS⟩ : ∃ er S2, setS (sem R) x k (txL T3) = (er, S2) := ⟨_, _, rfl⟩
          have HZ2 : Hid (Zk S2) := Lib.hid (by have h := zk_set HZK.out x k (txL T3); rw [hS] at h; exact h)
          have hT3 : T3.length ≤ 12 ∧ szM (txL T3) ≤ 6540 := by rw [← txL_len, HQ.out.2.2.2.2.2.2.2]; exact ⟨HFW.out.1, HFW.out.2.1⟩
          have hord : lo ≤ w.heap.size ∧ w1.heap.size = w.heap.size + 1 ∧ w1.heap.size ≤ w4.heap.size ∧ b < w.heap.size ∧ b' < w.heap.size ∧ w1.heap.size ≤ lo3 ∧ hi3 ≤ w4.heap.size ∧ w1.heap.size ≤ pw ∧ pw < w4.heap.size ∧ b < b' := ⟨HLO.out, HSZ.out, HQ.out.1.size, HBL.out.1, HBL.out.2, HQ.out.2.2.1, HQ.out.2.2.2.1, HQ.out.2.2.2.2.2.1, HQ.out.2.2.2.2.2.2.1, HBB.out⟩
          have D1 : Hid (∀ w', Below w4.heap.size w4 w' → Calls Try.prog 12 #[.pointer (some ⟨b, 0, none⟩), .int .i64 x, .agg #[.int .i64 k, .slice a3 T3.length c3]] w' fun e w'' => e = .returned (.int .i64 er) ∧ ∃ R5, sem R5 = S2 ∧ Rg w'' 57 lo w''.heap.size b R5 ∧ Only b w' w'') := Lib.hid (fun w' hb => by
            have h := set_of (hR4.below hb) (by have := hb.size; omega) x k (HM4.out.below hb) (by have := hb.size; omega) (by omega) (by omega)
            rw [hS] at h
            exact h)
          have HNX : Hid (∀ w' w'', Below w4.heap.size w4 w' → Only b w' w'' → (w''.cell? ⟨w.heap.size, 1, none⟩ = some (.int .i64 x) ∧ w''.cell? ⟨pw, 0, none⟩ = some (.int .i64 k) ∧ w''.cell? ⟨pw, 1, none⟩ = some (.slice a3 T3.length c3)) ∧ Calls Try.prog 23 #[.pointer (some ⟨b', 0, none⟩), .int .i64 x, .agg #[.int .i64 k, .slice a3 T3.length c3]] w'' (fun e w3 => e = .returned (.int .i64 er) ∧ ∃ R6, sem R6 = S2 ∧ Rg w3 31 lo w3.heap.size b' R6 ∧ Only b' w'' w3)) := Lib.hid (fun w' w'' hb ho => by
            have hz' := hb.size
            have hz'' := ho.size
            have hg : w''.heap[w.heap.size]? = some (.cells #[.int .i64 2, .int .i64 x, .int .i64 k, .slice a n c] 33 (0, 0)) := (ho.oth _ (by omega) (by omega)).trans ((hb.block _ (by omega)).trans ((HQ.out.1.block _ (by omega)).trans HNW.out))
            have hp : w''.heap[pw]? = some (.cells #[.int .i64 k, .slice a3 T3.length c3] 28 (0, 0)) := (ho.oth _ (by omega) (by omega)).trans ((hb.block _ (by omega)).trans HQ.out.2.2.2.2.1)
            refine ⟨⟨by rw [cell_at hg]; rfl, by rw [cell_at hp]; rfl, by rw [cell_at hp]; rfl⟩, ?_⟩
            have hrr := (hR4'.below hb).keep (ho.keep (Or.inl (by have := HR1.out.bl; omega))) (ho.oth b' (by omega) (by omega))
            have hmm := (HM4.out.below hb).keep (ho.keep (Or.inl (by omega)))
            have h : Calls Try.prog 23 #[.pointer (some ⟨b', 0, none⟩), .int .i64 x, rgV k a3 T3.length c3] w'' (SetPost 31 lo b' (setS (sem R') x k (txL T3)) w'') := by
              cases hr : regI x with
              | none => exact rset_none hrr x k (by omega) hmm (by omega) (by omega) (by omega) (by omega) hr
              | some i =>
                by_cases h0 : 0 ≤ letK x
                · exact rset_letter hrr x k (by omega) hmm (by omega) (by omega) (by omega) (by omega) h0
                · have hx : x = 0 := by
                    unfold regI at hr
                    rw [if_neg h0] at hr
                    split at hr
                    · assumption
                    · cases hr
                  exact rset_last hrr x k (by omega) hmm (by omega) (by omega) (by omega) (by omega) hx
            rw [HSR.out, hS] at h
            exact h)
          have hw : Below w4.heap.size w4 w4.drew := (Below.refl _ w4).drew
          obtain ⟨⟨x4, p4, q4⟩, _⟩ := HNX.out w4 w4 (Below.refl _ _) ⟨Below.refl _ _, Nat.le_refl _, fun _ _ _ => rfl⟩
          have hgb : w.heap.size ≠ b' := by omega
          have hpb : pw ≠ b' := by omega
          have der : (er == er) = true := by simp
          have HORD := Lib.hid hord
          generalize T3.length = m3 at *
          clear hR4 hR4' hS hT3 hord
          go_upto_region 6 with fail
          go_region_held3 (fun w' => w'.cell? ⟨w.heap.size, 1, none⟩ = some (.int .i64 x) ∧ w'.cell? ⟨pw, 0, none⟩ = some (.int .i64 k) ∧ w'.cell? ⟨pw, 1, none⟩ = some (.slice a3 m3 c3)) (first | assumption | (refine ⟨?_, ?_, ?_⟩ <;> assumption) | go_keep)
            (first
              | (go_at_call 12; refine (D1.out _ (by assumption)).mono ?_; rintro e w5 ⟨rfl, R5, hs5, hR5, ho5⟩; obtain ⟨⟨x5, p5, q5⟩, hrs⟩ := HNX.out _ _ (by assumption) ho5; have HRS := Lib.hid hrs; have HC5 := Lib.hid (And.intro hs5 (And.intro hR5 ho5)); clear hrs hs5 hR5 ho5)
              | (go_at_call 23; refine (HRS.out).mono ?_; rintro e w6 ⟨rfl, R6, hs6, hR6, ho6⟩; have x6 : w6.cell? ⟨w.heap.size, 1, none⟩ = some (.int .i64 x) := (cell_same (ho6.oth w.heap.size (World.block_lt_of_cell? _ _ x5) hgb)).trans x5; have p6 : w6.cell? ⟨pw, 0, none⟩ = some (.int .i64 k) := (cell_same (ho6.oth pw (World.block_lt_of_cell? _ _ p5) hpb)).trans p5; have q6 : w6.cell? ⟨pw, 1, none⟩ = some (.slice a3 m3 c3) := (cell_same (ho6.oth pw (World.block_lt_of_cell? _ _ q5) hpb)).trans q5; have HC6 := Lib.hid (And.intro hs6 (And.intro hR6 ho6)); clear hs6 hR6 ho6))
          all_goals
            go_wp2_with fail
            go_ret
            refine ⟨rfl, R5, R6, w5.heap.size, w6.heap.size, HC5.out.2.1.keep (HC6.out.2.2.keep (Or.inl HC6.out.2.1.bl)) (HC6.out.2.2.oth b HC5.out.2.1.lt (by have := HORD.out; omega)), HC6.out.2.1, by rw [HC6.out.1, HC5.out.1], by rw [HC5.out.1]; exact HZ2.out, ?_, ?_, fun m hm hmb hmb' => ?_⟩
            · have h1 : Below b w w4.drew := (HAL.out.mono (by have := HORD.out; omega)).trans ((HQ.out.1.trans (hw.mono (by have := HORD.out; omega))).mono (by have := HORD.out; omega))
              exact (h1.trans HC5.out.2.2.low).trans (HC6.out.2.2.low.mono (by have := HORD.out; omega))
            · have := HC5.out.2.2.size
              have := HC6.out.2.2.size
              have h2 : w4.drew.heap.size = w4.heap.size := rfl
              have := HORD.out
              omega
            · have h3 := HC5.out.2.2.size
              have h2 : w4.drew.heap.size = w4.heap.size := rfl
              have h4 := HORD.out
              have h5 : w4.drew.heap[m]? = w4.heap[m]? := rfl
              exact (HC6.out.2.2.oth m (by omega) hmb').trans ((HC5.out.2.2.oth m (by omega) hmb).trans (h5.trans ((HQ.out.1.block m (by omega)).trans (HAL.out.block m hm))))
        · have E0 : (K == 0) = false := by rw [beq_eq_false_iff_ne]; exact K0
          have E1 : (K == 1) = false := by rw [beq_eq_false_iff_ne]; exact K1
          have E2 : (K == 2) = false := by rw [beq_eq_false_iff_ne]; exact K2
          by_cases K3 : K = 3
          · subst K3
            clear K0 K1 K2 E0 E1 E2
            have hR4 := (HR1.out.below HQ.out.1)
            have hR4' := (HR1'.out.below HQ.out.1)
            obtain ⟨er, S2, hS⟩ : ∃ er S2, dropS (sem R) x = (er, S2) := ⟨_, _, rfl⟩
            have HZ2 : Hid (Zk S2) := Lib.hid (by have h := zk_drop HZK.out x; rw [hS] at h; exact h)
            have hord : lo ≤ w.heap.size ∧ w1.heap.size = w.heap.size + 1 ∧ w1.heap.size ≤ w4.heap.size ∧ b < w.heap.size ∧ b' < w.heap.size ∧ b < b' := ⟨HLO.out, HSZ.out, HQ.out.1.size, HBL.out.1, HBL.out.2, HBB.out⟩
            have D1 : Hid (∀ w', Below w4.heap.size w4 w' → Calls Try.prog 21 #[.pointer (some ⟨b, 0, none⟩), .int .i64 x] w' fun e w'' => e = .returned (.bool er) ∧ ∃ R5, sem R5 = S2 ∧ Rg w'' 57 lo w''.heap.size b R5 ∧ Only b w' w'') := Lib.hid (fun w' hb => by
              have h := drop_of (hR4.below hb) x
              rw [hS] at h
              exact h)
            have HNX : Hid (∀ w' w'', Below w4.heap.size w4 w' → Only b w' w'' → w''.cell? ⟨w.heap.size, 1, none⟩ = some (.int .i64 x) ∧ Calls Try.prog 24 #[.pointer (some ⟨b', 0, none⟩), .int .i64 x] w'' (fun e w3 => e = .returned (.bool er) ∧ ∃ R6, sem R6 = S2 ∧ Rg w3 31 lo w3.heap.size b' R6 ∧ Only b' w'' w3)) := Lib.hid (fun w' w'' hb ho => by
              have hz' := hb.size
              have hz'' := ho.size
              have hg : w''.heap[w.heap.size]? = some (.cells #[.int .i64 3, .int .i64 x, .int .i64 k, .slice a n c] 33 (0, 0)) := (ho.oth _ (by omega) (by omega)).trans ((hb.block _ (by omega)).trans ((HQ.out.1.block _ (by omega)).trans HNW.out))
              refine ⟨by rw [cell_at hg]; rfl, ?_⟩
              have h := rdrop_of ((hR4'.below hb).keep (ho.keep (Or.inl (by have := HR1.out.bl; omega))) (ho.oth b' (by omega) (by omega))) x
              rw [HSR.out, hS] at h
              exact h)
            have hw : Below w4.heap.size w4 w4.drew := (Below.refl _ w4).drew
            obtain ⟨x4, _⟩ := HNX.out w4 w4 (Below.refl _ _) ⟨Below.refl _ _, Nat.le_refl _, fun _ _ _ => rfl⟩
            have hgb : w.heap.size ≠ b' := by omega
            have der : (er == er) = true := by simp
            have HORD := Lib.hid hord
            generalize T3.length = m3 at *
            clear hR4 hR4' hS hord
            go_upto_region 8 with fail
            go_region_held3 (fun w' => w'.cell? ⟨w.heap.size, 1, none⟩ = some (.int .i64 x)) (first | assumption | go_keep)
              (first
                | (go_at_call 21; refine (D1.out _ (by assumption)).mono ?_; rintro e w5 ⟨rfl, R5, hs5, hR5, ho5⟩; obtain ⟨x5, hrs⟩ := HNX.out _ _ (by assumption) ho5; have HRS := Lib.hid hrs; have HC5 := Lib.hid (And.intro hs5 (And.intro hR5 ho5)); clear hrs hs5 hR5 ho5)
                | (go_at_call 24; refine (HRS.out).mono ?_; rintro e w6 ⟨rfl, R6, hs6, hR6, ho6⟩; have x6 : w6.cell? ⟨w.heap.size, 1, none⟩ = some (.int .i64 x) := (cell_same (ho6.oth w.heap.size (World.block_lt_of_cell? _ _ x5) hgb)).trans x5; have HC6 := Lib.hid (And.intro hs6 (And.intro hR6 ho6)); clear hs6 hR6 ho6))
            all_goals
              go_wp2_with fail
              go_ret
              refine ⟨rfl, R5, R6, w5.heap.size, w6.heap.size, HC5.out.2.1.keep (HC6.out.2.2.keep (Or.inl HC6.out.2.1.bl)) (HC6.out.2.2.oth b HC5.out.2.1.lt (by have := HORD.out; omega)), HC6.out.2.1, by rw [HC6.out.1, HC5.out.1], by rw [HC5.out.1]; exact HZ2.out, ?_, ?_, fun m hm hmb hmb' => ?_⟩
              · have h1 : Below b w w4.drew := (HAL.out.mono (by have := HORD.out; omega)).trans ((HQ.out.1.trans (hw.mono (by have := HORD.out; omega))).mono (by have := HORD.out; omega))
                exact (h1.trans HC5.out.2.2.low).trans (HC6.out.2.2.low.mono (by have := HORD.out; omega))
              · have := HC5.out.2.2.size
                have := HC6.out.2.2.size
                have h2 : w4.drew.heap.size = w4.heap.size := rfl
                have := HORD.out
                omega
              · have h3 := HC5.out.2.2.size
                have h2 : w4.drew.heap.size = w4.heap.size := rfl
                have h4 := HORD.out
                have h5 : w4.drew.heap[m]? = w4.heap[m]? := rfl
                exact (HC6.out.2.2.oth m (by omega) hmb').trans ((HC5.out.2.2.oth m (by omega) hmb).trans (h5.trans ((HQ.out.1.block m (by omega)).trans (HAL.out.block m hm))))
          · have E3 : (K == 3) = false := by rw [beq_eq_false_iff_ne]; exact K3
            clear K0 K1 K2 K3
            have hR4 := Lib.hid (HR1.out.below HQ.out.1)
            have hR4' := Lib.hid (HR1'.out.below HQ.out.1)
            go_wp2_with fail
            go_ret
            exact ⟨rfl, R, R', hi, hi', hR4.out, hR4'.out, HSR.out, HZK.out, (HAL.out.mono (Nat.le_of_lt HBL.out.1)).trans (HQ.out.1.mono (by have := HSZ.out; have := HBL.out; omega)), by have := HSZ.out; have := HQ.out.1.size; omega, fun m hm _ _ => (HQ.out.1.block m (by have := HSZ.out; omega)).trans (HAL.out.block m hm)⟩


end Go.Proofs.Yteipnllefifgiaa
