/-
  Grammar's example; GrammarMoves, at this seat's numbers.
-/
import Derived.Test.YtjmpokgdgnjojaaDoorGrG
namespace Go.Proofs.YtjmpokgdgnjojaaDoor
open Go Go.RowKit
set_option linter.unusedVariables false

def awL : List Int := [50, 34, 97, 51, 100, 119]
/-- The parser, and the last answer, behind some keys of the example. -/
def awS : Nat → Ps × (Cm × Int)
  | 0 => (p0M, (c0M, 2))
  | i + 1 => let x := keyF (awS i).1 (awL.getD i 0) 0 false; (x.2, (x.1.1, x.1.2.1))
theorem awS_bg : ∀ i, i ≤ 6 → (awS i).1.bg.length ≤ i := by
  intro i
  induction i with
  | zero => intro _; exact Nat.le_refl _
  | succ i ih =>
    intro h
    have := ih (by omega)
    show (keyF (awS i).1 (awL.getD i 0) 0 false).2.bg.length ≤ i + 1
    unfold keyF
    simp only
    split
    · simp [p0M]
    · split
      · split
        · simp; omega
        · simp [p0M]
      · simp [p0M]
theorem awS_end : (awS 6).2 = (⟨100, 119, 6, 97, 0⟩, 1) := by rfl
theorem awS_fresh : (awS 6).1.bg = [] := by rfl

theorem PsIn.row {w : World} {B p t : Nat} {v : Value} {S : Ps} {c : Cm} {cs : Array Value} (H : PsIn w B p v S) (ht : w.heap[t]? = some (cmO c)) : PsIn (w.setRow t cs) B p v S := by
  obtain ⟨⟨nx, h1, h3⟩, h2, h4, h5, h6⟩ := H
  have ne : ∀ b cs' T fr, w.heap[b]? = some (.cells cs' T fr) → T ≠ 23 → b ≠ t := fun b cs' T fr hb hT e => by
    subst e; rw [ht] at hb; cases hb; exact hT rfl
  refine ⟨⟨nx, (setRow_other _ _ _ _ (ne _ _ _ _ h1 (by decide))).trans h1, ?_⟩, own_same h2 (fun b hb => ?_), h4, h5, h6⟩
  · cases hst : S.st with
    | none => rw [hst] at h3; exact h3
    | some st =>
      rw [hst] at h3
      cases st <;> first
        | exact h3
        | (obtain ⟨b3, b4, b5, e, q3, q4, q5, hx⟩ := h3
           exact ⟨b3, b4, b5, e, (setRow_other _ _ _ _ (ne _ _ _ _ q3 (by decide))).trans q3, (setRow_other _ _ _ _ (ne _ _ _ _ q4 (by decide))).trans q4, (setRow_other _ _ _ _ (ne _ _ _ _ q5 (by decide))).trans q5, hx⟩)
  · obtain ⟨cs', fr, hk, _⟩ := own_cells h2 hb
    exact setRow_other _ _ _ _ (ne _ _ _ _ hk (by decide))
set_option maxRecDepth 100000 in
set_option maxHeartbeats 8000000 in
theorem awake24_of (w : World) : Calls Tryd.prog 10 #[] w fun e w' => e = .returned (.bool true) ∧ Below w.heap.size w w' := by
  have HN := Lib.hid (gnew_of w)
  have H0 := PsIn.start (w := w) (B := w.heap.size) (Nat.le_refl _)
  have B0 := t_al w (.cells (prC (.slice none 0 0) c0M .nilFunc) 44)
  have z0 : (w.alloc (.cells (prC (.slice none 0 0) c0M .nilFunc) 44)).heap.size = w.heap.size + 1 := by simp
  generalize hw0 : w.alloc (.cells (prC (.slice none 0 0) c0M .nilFunc) 44) = w0 at *
  have H1 := (H0.below (t_al w0 z5O)).below (t_al (w0.alloc z5O) (.cells (nums awL).toArray 3))
  have z1 : (w0.alloc z5O).heap.size = w.heap.size + 1 + 1 := by simp [z0]
  have hcm : ((w0.alloc z5O).alloc (.cells (nums awL).toArray 3)).heap[w.heap.size + 1]? = some (cmO c0M) := by rw [← z0]; exact heap_mid w0 z5O _
  have hlt : ((w0.alloc z5O).alloc (.cells (nums awL).toArray 3)).heap[w.heap.size + 1 + 1]? = some (.cells (nums awL).toArray 3 (0, 0)) := by rw [← z1]; exact heap_alloc_new _ _
  have hbb : Below w.heap.size w ((w0.alloc z5O).alloc (.cells (nums awL).toArray 3)) := (B0.alloc (by rw [z0]; omega) z5O).alloc (by rw [z1]; omega) _
  have HS := Lib.hid (And.intro H1 (And.intro hcm (And.intro hlt hbb)))
  have HZ := Lib.hid (And.intro z0 z1)
  clear H0 B0 z0 z1 H1 hcm hlt hbb
  go_enter Tryd.func10, Tryd.ntmps10
  go_wp2_with fail
  refine HN.out.mono ?_; rintro e w1 ⟨rfl, rfl⟩
  have HZ0 := HZ.out.1
  go_wp2_with fail
  generalize hp : w.heap.size = p at *
  clear hw0 HN HZ0 HZ
  go_loopw [2, 9] (fun v2 v9 wr => ∃ (i : Nat) (v : Value), i ≤ 6 ∧ v9 = .int .i64 i ∧ v2 = .int .i64 (awS i).2.2 ∧ PsIn wr p p v (awS i).1 ∧ wr.heap[p + 1]? = some (cmO (awS i).2.1) ∧ wr.heap[p + 1 + 1]? = some (.cells (nums awL).toArray 3 (0, 0)) ∧ v.ownBlock ≠ some (p + 1 + 1) ∧ ((awS i).1.bg = [] → v = .slice none 0 0) ∧ Below p w wr) (fun _ v9 _ => 6 - (intOf v9).toNat)
  case atStart => exact ⟨0, _, by omega, rfl, rfl, HS.out.1, HS.out.2.1, HS.out.2.2.1, (fun e => by cases e), fun _ => rfl, HS.out.2.2.2⟩
  case round =>
    obtain ⟨i, v, hi, rfl, rfl, hP, hc, hl, hv, hf, hb⟩ := hrel
    have hpz : p ≤ wr.heap.size := by rw [← hp]; rw [← hp] at hb; exact hb.size
    by_cases hlt : i < 6
    · obtain ⟨x, hx⟩ : ∃ x, awL[i]? = some x := ⟨_, List.getElem?_eq_getElem (show i < awL.length from hlt)⟩
      have hx0 : awL.getD i 0 = x := by rw [List.getD_eq_getElem?_getD, hx]; rfl
      have c0 : wr.cell? ⟨p + 1 + 1, i, none⟩ = some (.int .i64 x) := by
        rw [cell_at hl, List.getElem?_toArray, nums_at hx]
      have hbg := awS_bg i hi
      have HK := key_of hP hpz (by omega) x 0 false
      have e1 : awS (i + 1) = ((keyF (awS i).1 x 0 false).2, ((keyF (awS i).1 x 0 false).1.1, (keyF (awS i).1 x 0 false).1.2.1)) := by
        show (let y := keyF (awS i).1 (awL.getD i 0) 0 false; (y.2, (y.1.1, y.1.2.1))) = _
        rw [hx0]
      have HE := Lib.hid e1
      have HK := Lib.hid HK
      have HG : Hid (∀ wk v', KMv p p v v' wr wk → wk.heap[p + 1]? = some (cmO (awS i).2.1) ∧ wk.heap[p + 1 + 1]? = some (.cells (nums awL).toArray 3 (0, 0)) ∧ v'.ownBlock ≠ some (p + 1 + 1) ∧ Below p w wk) := Lib.hid fun wk v' m => by
        obtain ⟨nx, h1, _⟩ := hP.pr
        refine ⟨m.oth _ _ hc (by omega) (own_ne hP.ow hc (by decide)), m.oth _ _ hl (by omega) hv, fun e => ?_, hb.trans m.low⟩
        rcases m.new _ e with h | h
        · exact hv h
        · have := lt_of_heap hl; omega
      clear hP hc hl hv hf hb hx hx0 e1 hbg
      generalize keyF (awS i).1 x 0 false = y at *
      go_wp2_with fail
      refine HK.out.mono ?_; rintro e wk ⟨rfl, v', hP2, m2, hf2, _⟩
      obtain ⟨g1, g2, g3, g4⟩ := HG.out wk v' m2
      have H8 := Lib.hid g1
      have HF : Hid (PsIn (wk.setRow (p + 1) (cmA y.1.1)) p p v' y.2 ∧ (wk.setRow (p + 1) (cmA y.1.1)).heap[p + 1]? = some (cmO y.1.1) ∧ (wk.setRow (p + 1) (cmA y.1.1)).heap[p + 1 + 1]? = some (.cells (nums awL).toArray 3 (0, 0)) ∧ v'.ownBlock ≠ some (p + 1 + 1) ∧ (y.2.bg = [] → v' = .slice none 0 0) ∧ Below p w (wk.setRow (p + 1) (cmA y.1.1))) :=
        ⟨hP2.row g1, setRow_heap wk (p + 1) _ _ _ _ g1, (setRow_other _ _ _ _ (by omega)).trans g2, g3, hf2, g4.trans (setRow_low (by omega))⟩
      clear hP2 m2 hf2 g1 g2 g3 g4
      go_wp2_with (refine wpList_store_row rfl 23 _ _ rfl (p + 1) (cmA y.1.1) rfl rfl 23 _ H8.out (cmA_size y.1.1) rfl (cmA_one y.1.1) ?_)
      go_roundw
      case rel =>
        refine ⟨i + 1, v', by omega, by go_num, ?_⟩
        rw [HE.out]
        exact ⟨rfl, HF.out⟩
      case measure => simp [intOf]; omega
    · obtain rfl : i = 6 := by omega
      rw [awS_end] at hc
      obtain ⟨q0, q1, q2, q3, q4⟩ := rowCells hc
      have hv0 := hf awS_fresh
      subst hv0
      have HM : Hid (Calls Tryd.prog 16 #[.int .i64 119] wr fun e w' => e = .returned (.bool true) ∧ Below wr.heap.size wr w') := Lib.hid (gmoves_of 119 wr)
      have HQ := Lib.hid (fun w2 (b2 : Below wr.heap.size wr w2) => pending_fresh (hP.below b2))
      have HB := Lib.hid hb
      rw [awS_end]
      simp only at q0 q1 q2 q3 q4
      clear hP hc hl hv hf hb
      go_wp2_with fail
      refine HM.out.mono ?_; rintro e w2 ⟨rfl, b2⟩
      have HQ2 := Lib.hid (HQ.out w2 b2)
      have HB2 := Lib.hid (HB.out.trans (b2.mono hpz))
      clear b2
      go_wp2_with fail
      refine HQ2.out.mono ?_; rintro e w3 ⟨rfl, rfl⟩
      go_wp2_with fail
      go_ret
      exact ⟨rfl, by rw [hp]; exact HB2.out⟩
end Go.Proofs.YtjmpokgdgnjojaaDoor
