/-
  Contracts of layer 9, trees of strings: Height, At; at this seat's numbers.
-/
import Derived.Test.YtofncnommekbjaaTsO
import Derived.Test.YtofncnommekbjaaTrQ
namespace Go.Proofs.Ytofncnommekbjaa
open Go Go.RowKit
set_option linter.unusedVariables false


/-- At where there is no such thing. -/
theorem atno_s {w : World} {pv : Value} {L : List Value} (I : Int) (H : Tin w 103 pv L) (hI : ¬ (0 ≤ I ∧ I < L.length)) :
    Calls Try.prog 22 #[.agg #[pv], .int .i64 I] w fun e w' => e = .returned (.tuple #[.string ByteArray.empty, .bool false]) ∧ Below w.heap.size w w' := by
  have hh := heap_alloc_new w (Obj.cells #[pv] 48)
  have al := t_al w (Obj.cells #[pv] 48)
  have c0 : (w.alloc (Obj.cells #[pv] 48)).cell? ⟨w.heap.size, 0, none⟩ = some pv := by rw [cell_at hh]; rfl
  have HH := Lib.hid (has_s I (H.below al))
  rw [show decide (0 ≤ I ∧ I < L.length) = false from decide_eq_false hI] at HH
  have AL := Lib.hid al
  have hone := H.one
  clear hh al H hI
  rcases hone with rfl | ⟨b, rfl⟩
  all_goals
    go_enter Try.func22, Try.ntmps22
    go_wp2_with fail
    refine HH.out.mono ?_; rintro e w2 ⟨rfl, hb2⟩
    have HB := Lib.hid (AL.out.trans (hb2.mono AL.out.size))
    clear hb2
    go_wp2_with fail
    go_ret2
    exact ⟨rfl, HB.out⟩

set_option maxRecDepth 100000 in
set_option maxHeartbeats 1000000 in
theorem atyes_s {w : World} {pv : Value} {L : List Value} (i : Nat) (H : Tin w 103 pv L) (hi : i < L.length) (hf : L.length ≤ 100000) :
    Calls Try.prog 22 #[.agg #[pv], .int .i64 i] w fun e w' => (∃ x, L[i]? = some x ∧ e = .returned (.tuple #[x, .bool true])) ∧ Below w.heap.size w w' := by
  have hT := H
  rcases H with ⟨_, rfl⟩ | ⟨b, h, t, rfl, hin, hok, rfl⟩
  · simp at hi
  have hh := heap_alloc_new w (Obj.cells #[ptr b] 48)
  have al := t_al w (Obj.cells #[ptr b] 48)
  have c0 : (w.alloc (Obj.cells #[ptr b] 48)).cell? ⟨w.heap.size, 0, none⟩ = some (ptr b) := by rw [cell_at hh]; rfl
  have HH := Lib.hid (has_s (i : Int) (hT.below al))
  rw [show decide (0 ≤ (i : Int) ∧ (i : Int) < (flatL h t).length) = true from decide_eq_true ⟨by omega, by omega⟩] at HH
  have AL := Lib.hid al
  have HI := Lib.hid (hin.below al)
  have HO := Lib.hid hok
  obtain ⟨L, hL⟩ : ∃ L, flatL h t = L := ⟨_, rfl⟩
  have HLL := Lib.hid hL
  rw [hL] at hi hf ⊢
  have hz := lt_of_heap hh
  clear hh al hT hin hok hL
  go_enter Try.func22, Try.ntmps22
  go_upto_region 1 with fail
  generalize w.alloc (Obj.cells #[ptr b] 48) = w1 at *
  go_wp2_with fail
  refine HH.out.mono ?_; rintro e w2 ⟨rfl, hb2⟩
  have r1 := (hb2.cell (p := ⟨w.heap.size, 0, none⟩) hz).trans c0
  have HB2 := Lib.hid (AL.out.trans (hb2.mono AL.out.size))
  have HI2 := Lib.hid (HI.out.below hb2)
  clear hb2 c0 HH
  go_wp2_with fail
  go_loopw [1, 7, 8] (fun v1 v7 v8 wr => ∃ (j h' b' lo : Nat) (t' : List (El h')), v1 = .int .i64 j ∧ v7 = ptr b' ∧ In wr 103 h' t' b' ∧ 1 ≤ lo ∧ (h' = 0 ∨ 2 ≤ lo) ∧ Ok lo h' t' ∧ j < (flatL h' t').length ∧ (flatL h' t').length ≤ 100000 ∧ (flatL h' t')[j]? = L[i]? ∧ wr = w2) (fun _ v7 _ w => numV v7 w)
  case atStart => exact ⟨i, h, b, rlo h, t, rfl, rfl, HI2.out, rlo_pos h, by unfold rlo; by_cases e : h = 0 <;> simp [e], HO.out, by rw [HLL.out]; exact hi, by rw [HLL.out]; exact hf, by rw [HLL.out], rfl⟩
  case round =>
    obtain ⟨j, h', b', lo, t', rfl, rfl, hin, hlo, hlo2, hok', hj, hf', hji, hww⟩ := hrel
    have hww2 := hww.symm
    subst hww2
    clear hww
    have HI' := Lib.hid hin
    cases h' with
    | zero =>
      have HL := Lib.hid (isleaf_s hin)
      obtain ⟨a, c, k0, k1, hsl⟩ := hin.items
      have hft : flatL 0 t' = t' := flatL_zero t'
      rw [hft] at hj hji
      obtain ⟨g, o, rfl, hg, hcx⟩ := hsl.rd.2 (by omega)
      have hx : (t' : List Value)[j]? = some ((t' : List Value)[j]'hj) := List.getElem?_eq_getElem hj
      obtain ⟨x, hcj, hji2⟩ : ∃ x : Value, w2.cell? ⟨g, o + j, none⟩ = some x ∧ L[i]? = some x := ⟨_, hcx j _ hx, hji.symm.trans hx⟩
      have HJ := Lib.hid hji2
      obtain ⟨n, hn⟩ : ∃ n, @List.length Value t' = n := ⟨_, rfl⟩
      have hn2 : j < n := by rw [← hn]; exact hj
      have k1' : w1 = w1 := rfl
      rw [hn] at k1
      have e0 : (0 : Int) ≤ (j : Int) := by omega
      have e1 : (j : Int) < (n : Int) := by omega
      clear hin hok' hsl hft hcx hx hji hji2 hj hn k1' hf'
      go_wp2_with fail
      refine HL.out.mono ?_; rintro e w3 ⟨rfl, rfl⟩
      go_wp2_with fail
      go_ret2
      exact ⟨⟨x, HJ.out, rfl⟩, HB2.out⟩
    | succ h' =>
      have hl1 : 1 ≤ t'.length := by have := hok'.len; omega
      have hl6 := hok'.len.2
      have HL := Lib.hid (notleaf_s hin hl1)
      have HK := Lib.hid (kid_s hin hl1 (by omega) j (by omega))
      obtain ⟨a, c, k0, k1, hes⟩ := hin.kids
      obtain ⟨g, o, rfl, hg⟩ := hes.has hl1
      obtain ⟨q1, q2, q3, _⟩ := kid_at hl1 j
      have q3 := q3 hj
      have hidx := flat_idx hl1 j hj
      have hlt := kid_lt (by omega) hok' q1
      obtain ⟨b2, hcb, hin2⟩ := hes.at (x := nth t' (kidP (szs h' t') j).1) (nth_at q1)
      have HI2' := Lib.hid hin2
      have HO2 := Lib.hid (hok'.kid q1)
      have hn1 := numV_in hin
      have hn2 := numV_in hin2
      have HN := Lib.hid (And.intro hlt (And.intro hn1 hn2))
      have HX := Lib.hid (And.intro q3 (And.intro (show _ ≤ 100000 from Nat.le_trans (Nat.le_of_lt hlt) hf') (hidx.symm.trans hji)))
      generalize (kidP (szs h' t') j).1 = kk at *
      generalize (kidP (szs h' t') j).2 = jj at *
      generalize t'.length = n at *
      have e0 : (0 : Int) ≤ (kk : Int) := by omega
      have e1 : (kk : Int) < (n : Int) := by omega
      clear hin hok' hes hin2 hlt hn1 hn2 q2 q3 hidx hji hj hf'
      go_wp2_with fail
      refine HL.out.mono ?_; rintro e w3 ⟨rfl, rfl⟩
      go_wp2_with fail
      refine HK.out.mono ?_; rintro e w3 ⟨rfl, rfl⟩
      go_wp2_with fail
      go_roundw
      case rel => exact ⟨jj, h', b2, 3, nth t' kk, rfl, rfl, HI2'.out, by omega, .inr (by omega), HO2.out, HX.out.1, HX.out.2.1, HX.out.2.2, by first | rfl | trivial⟩
      case measure =>
        obtain ⟨m1, m2, m3⟩ := HN.out
        show numV (ptr b2) _ < numV (ptr b') _
        rw [m2, m3]; exact m1

end Go.Proofs.Ytofncnommekbjaa
