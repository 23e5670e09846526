/-
  Texts of this seat, put together (a claim holds few texts): TgQ, WgA, WgB.
-/
import Derived.Test.YtkgakgceamafcaaGreatMk5
import Derived.RangeFuncNested
import Derived.RangeFuncBound
import Derived.RangeFuncCalls
import Derived.RangeFuncLeaves
import Derived.Shelf.Abstract
import Derived.Shelf.RegionOpen
import Derived.OwnWalkIn
import Derived.TacticsInMore
import Derived.LoopNIn
import Derived.LoopIn

namespace Go.Proofs.YtkgakgceamafcaaGreat
open Go Go.RowKit
set_option linter.unusedVariables false

theorem ok_pow : ∀ (h : Nat) {lo : Nat} {t : List (El h)}, Ok lo h t → lo * 3 ^ h ≤ (flatL h t).length
  | 0, lo, t, H => by have h1 := H.1; have h2 := flatLen0 t; simp; omega
  | h + 1, lo, ks, H => by
    have hk : ∀ n, n ≤ ks.length → n * (3 * 3 ^ h) ≤ (flatL (h + 1) (ks.take n)).length := by
      intro n
      induction n with
      | zero => intro _; simp
      | succ n ih =>
        intro hn
        have h1 := ih (by omega)
        have h2 := flat_take (nth_at (ks := ks) (k := n) (by omega))
        have h3 := ok_pow h (H.kid (k := n) (by omega))
        have h4 : (flatL h (mk1 (nth ks n))).length = (flatL h (nth ks n)).length := rfl
        rw [h2, h4, Nat.succ_mul]; omega
    have h5 := hk ks.length (Nat.le_refl _)
    rw [List.take_length] at h5
    have h6 : lo * (3 * 3 ^ h) ≤ ks.length * (3 * 3 ^ h) := Nat.mul_le_mul_right _ H.1
    rw [Nat.pow_succ, Nat.mul_comm (3 ^ h) 3]
    omega
theorem ok_pos {h lo : Nat} {t : List (El h)} (h1 : 1 ≤ lo) (H : Ok lo h t) : 1 ≤ (flatL h t).length := by
  have h2 := ok_pow h H
  have h3 : 0 < 3 ^ h := Nat.pow_pos (by omega)
  have h4 : 1 * 3 ^ h ≤ lo * 3 ^ h := Nat.mul_le_mul_right _ h1
  omega
theorem kid_lt {lo h : Nat} {ks : List (El (h + 1))} {k : Nat} (hlo : 2 ≤ lo) (H : Ok lo (h + 1) ks) (hk : k < ks.length) : (flatL h (nth ks k)).length < (flatL (h + 1) ks).length := by
  have hl := H.len
  rw [flat_split hk, List.length_append, List.length_append]
  rcases Nat.eq_zero_or_pos k with rfl | h0
  · have h1 : nth (ks.drop (0 + 1)) 0 = nth ks 1 := by unfold nth; rw [List.getElem?_drop]
    have h2 := nth_flat (ks := ks.drop (0 + 1)) (k := 0) (by rw [List.length_drop]; omega)
    rw [h1] at h2
    have h3 := ok_pos (by omega) (H.kid (k := 1) (by omega))
    omega
  · have h1 : nth (ks.take k) 0 = nth ks 0 := by unfold nth; rw [List.getElem?_take, if_pos h0]
    have h2 := nth_flat (ks := ks.take k) (k := 0) (by rw [List.length_take]; omega)
    rw [h1] at h2
    have h3 := ok_pos (by omega) (H.kid (k := 0) (by omega))
    omega
theorem ok_h : ∀ (h : Nat) {lo : Nat} {t : List (El h)}, 1 ≤ lo → Ok lo h t → h < (flatL h t).length := by
  intro h lo t h1 H
  have h2 := ok_pow h H
  have h3 : h < 3 ^ h := Nat.lt_pow_self (by omega)
  have h4 : 1 * 3 ^ h ≤ lo * 3 ^ h := Nat.mul_le_mul_right _ h1
  omega
/-- How many values lie below a node in memory. -/
def numV (v : Value) (w : World) : Nat := match v with
  | .pointer (some p) => (intOf ((w.cell? ⟨p.block, 2, none⟩).getD (.int .i64 0))).toNat
  | _ => 0
theorem numV_in {w : World} {T : TypeId} {h : Nat} {t : List (El h)} {b : Nat} (H : In w T h t b) : numV (ptr b) w = (flatL h t).length := by
  show (intOf ((w.cell? ⟨b, 2, none⟩).getD (.int .i64 0))).toNat = _
  rw [H.num]; simp [intOf]
theorem flat_idx {h : Nat} {ks : List (El (h + 1))} (hn : 1 ≤ ks.length) (i : Nat) (hi : i < (flatL (h + 1) ks).length) : (flatL (h + 1) ks)[i]? = (flatL h (nth ks (kidP (szs h ks) i).1))[(kidP (szs h ks) i).2]? := by
  obtain ⟨h1, h2, h3, _⟩ := kid_at hn i
  have h3 := h3 hi
  rw [flat_split h1]
  generalize (kidP (szs h ks) i).2 = j at *
  generalize (kidP (szs h ks) i).1 = k at *
  rw [List.append_assoc, List.getElem?_append_right (by omega), List.getElem?_append_left (by omega)]
  congr 1; omega

set_option maxRecDepth 100000 in
set_option maxHeartbeats 1000000 in
theorem height_i {w : World} {h b : Nat} {t : List (El h)} (H : In w 194 h t b) (hok : Ok (rlo h) h t) (hf : (flatL h t).length ≤ 100000) :
    Calls Tryz.prog 208 #[.agg #[ptr b]] w fun e w' => e = .returned (.int .i64 (h + 1 : Nat)) ∧ Below w.heap.size w w' := by
  have hh := heap_alloc_new w (Obj.cells #[ptr b] 25)
  have al := t_al w (Obj.cells #[ptr b] 25)
  have c0 : (w.alloc (Obj.cells #[ptr b] 25)).cell? ⟨w.heap.size, 0, none⟩ = some (ptr b) := by rw [cell_at hh]; rfl
  have AL := Lib.hid al
  have HI := Lib.hid (H.below al)
  have HO := Lib.hid hok
  have hhl := ok_h h (rlo_pos h) hok
  clear hh al H hok
  go_enter Tryz.func208, Tryz.ntmps208
  go_upto_region 1 with fail
  generalize w.alloc (Obj.cells #[ptr b] 25) = w1 at *
  go_wp2_with fail
  go_loopw [3, 4] (fun v3 v4 wr => ∃ (k h' b' lo : Nat) (t' : List (El h')), v3 = .int .i64 k ∧ v4 = ptr b' ∧ k + h' = h + 1 ∧ In wr 194 h' t' b' ∧ 1 ≤ lo ∧ (h' = 0 ∨ 2 ≤ lo) ∧ Ok lo h' t' ∧ wr = w1) (fun _ v4 w => numV v4 w)
  case atStart => exact ⟨1, h, b, rlo h, t, rfl, rfl, by omega, HI.out, rlo_pos h, by unfold rlo; by_cases e : h = 0 <;> simp [e], HO.out, rfl⟩
  case round =>
    obtain ⟨k, h', b', lo, t', rfl, rfl, hk, hin, hlo, hlo2, hok', hww⟩ := hrel
    have hww2 := hww.symm
    subst hww2
    clear hww
    have HI' := Lib.hid hin
    cases h' with
    | zero =>
      have HL := Lib.hid (isleaf_i hin)
      have hke : k = h + 1 := by omega
      subst hke
      clear hin hok'
      go_wp2_with fail
      refine HL.out.mono ?_; rintro e w2 ⟨rfl, rfl⟩
      go_wp2_with fail
      go_ret
      exact ⟨rfl, AL.out⟩
    | succ h' =>
      have hl1 : 1 ≤ t'.length := by have := hok'.len; omega
      have HL := Lib.hid (notleaf_i hin hl1)
      obtain ⟨a, c, k0, k1, hes⟩ := hin.kids
      obtain ⟨g, o, rfl, hg⟩ := hes.has hl1
      obtain ⟨b2, hcb, hin2⟩ := hes.at (x := nth t' 0) (nth_at hl1)
      rw [Nat.add_zero] at hcb
      have HI2 := Lib.hid hin2
      have HO2 := Lib.hid (hok'.kid (k := 0) hl1)
      have hlt := kid_lt (by omega) hok' (k := 0) hl1
      have hn1 := numV_in hin
      have hn2 := numV_in hin2
      have HN := Lib.hid (And.intro hlt (And.intro hn1 hn2))
      have e1 : (0 : Int) < (t'.length : Int) := by omega
      have hwk : IntKind.i64.wrap ((k : Int) + 1) = (k : Int) + 1 := by rw [IntKind.wrap_i64]; omega
      generalize t'.length = n at *
      clear hin hok' hes hin2 hlt hn1 hn2
      go_wp2_with fail
      refine HL.out.mono ?_; rintro e w2 ⟨rfl, rfl⟩
      go_wp2_with fail
      go_roundw
      case rel => exact ⟨k + 1, h', b2, 3, nth t' 0, by go_num, rfl, by omega, HI2.out, by omega, .inr (by omega), HO2.out, by first | rfl | trivial⟩
      case measure =>
        obtain ⟨m1, m2, m3⟩ := HN.out
        show numV (ptr b2) _ < numV (ptr b') _
        rw [m2, m3]; exact m1

/-- A box of a row whose cells are set. -/
theorem row_set {w0 w : World} {p B T : Nat} {u0 u1 u2 v0 v1 v2 : Value} (h : w.heap[p]? = some (.cells #[u0, u1, u2] T (0, 0))) (hb : Below B w0 w) (hp : B ≤ p) :
    ∃ w', ((w.setCell ⟨p, 0, none⟩ v0).setCell ⟨p, 1, none⟩ v1).setCell ⟨p, 2, none⟩ v2 = w' ∧ w'.cell? ⟨p, 0, none⟩ = some v0 ∧ w'.cell? ⟨p, 1, none⟩ = some v1 ∧ w'.cell? ⟨p, 2, none⟩ = some v2 ∧ Below B w0 w' := by
  have h1 := heap_set_at (o := 0) (u := v0) h
  have h2 := heap_set_at (o := 1) (u := v1) h1
  have h3 := heap_set_at (o := 2) (u := v2) h2
  refine ⟨_, rfl, by rw [cell_at h3]; rfl, by rw [cell_at h3]; rfl, by rw [cell_at h3]; rfl, ?_⟩
  exact ((hb.setCell (p := ⟨p, 0, none⟩) hp v0).setCell (p := ⟨p, 1, none⟩) hp v1).setCell (p := ⟨p, 2, none⟩) hp v2

/-- At where there is no such thing. -/
theorem atno_i {w : World} {pv : Value} {L : List Value} (I : Int) (H : Tin w 194 pv L) (hI : ¬ (0 ≤ I ∧ I < L.length)) :
    Calls Tryz.prog 107 #[.agg #[pv], .int .i64 I] w fun e w' => e = .returned (.tuple #[.agg #[.slice none 0 0, .int .i64 0, .bool false], .bool false]) ∧ Below w.heap.size w w' := by
  obtain ⟨w1, hw1, hb1, hz1, hA, hC⟩ := two_blocks w (Obj.cells #[pv] 25) (Obj.cells #[.slice none 0 0, .int .i64 0, .bool false] 103)
  have HH := Lib.hid (has_i I (H.below hb1))
  rw [show decide (0 ≤ I ∧ I < L.length) = false from decide_eq_false hI] at HH
  have c0 : w1.cell? ⟨w.heap.size, 0, none⟩ = some pv := by rw [cell_at hA]; rfl
  have HB := Lib.hid hb1
  have HC := Lib.hid hC
  have hone := H.one
  clear H hb1 hC hA hI
  rcases hone with rfl | ⟨b, rfl⟩
  all_goals
    go_enter Tryz.func107, Tryz.ntmps107
    go_upto_region 1 with fail
    go_wp2_with fail
    refine HH.out.mono ?_; rintro e w2 ⟨rfl, hb2⟩
    have HB2 := Lib.hid (HB.out.trans (hb2.mono (by omega)))
    have hc2 := (hb2.block (w.heap.size + 1) (by omega)).trans HC.out
    have HC2 := Lib.hid hc2
    have al := t_al w2 (Obj.cells #[.slice none 0 0, .int .i64 0, .bool false] 103)
    have hh := heap_alloc_new w2 (Obj.cells #[.slice none 0 0, .int .i64 0, .bool false] 103)
    go_upto_region 3 with fail
    generalize w2.alloc (Obj.cells #[.slice none 0 0, .int .i64 0, .bool false] 103) = w3 at *
    have hc3 := (al.block (w.heap.size + 1) (lt_of_heap hc2)).trans hc2
    have HC3 := Lib.hid hc3
    have HB3 := Lib.hid (HB2.out.trans (al.mono HB2.out.size))
    have zz := fun i => unfrozen hc3 i
    have q0 : w3.cell? ⟨w2.heap.size, 0, none⟩ = some (.slice none 0 0) := by rw [cell_at hh]; rfl
    have q1 : w3.cell? ⟨w2.heap.size, 1, none⟩ = some (.int .i64 0) := by rw [cell_at hh]; rfl
    have q2 : w3.cell? ⟨w2.heap.size, 2, none⟩ = some (.bool false) := by rw [cell_at hh]; rfl
    have r0 : w3.cell? ⟨w.heap.size + 1, 0, none⟩ = some (.slice none 0 0) := by rw [cell_at hc3]; rfl
    have r1 : w3.cell? ⟨w.heap.size + 1, 1, none⟩ = some (.int .i64 0) := by rw [cell_at hc3]; rfl
    have r2 : w3.cell? ⟨w.heap.size + 1, 2, none⟩ = some (.bool false) := by rw [cell_at hc3]; rfl
    clear hb2 hc2 hc3 al hh
    go_wp2_with fail
    obtain ⟨w4, hw4, s0, s1, s2, hb4⟩ := row_set (v0 := .slice none 0 0) (v1 := .int .i64 0) (v2 := .bool false) HC3.out HB3.out (Nat.le_succ _)
    rw [hw4]
    exact bodyPost_ret (v := .tuple #[.agg #[.slice none 0 0, .int .i64 0, .bool false], .bool false]) (by simp [results, Tryz.results107, go_sem, s0, s1, s2]) rfl ⟨rfl, hb4⟩

set_option maxRecDepth 100000 in
set_option maxHeartbeats 1000000 in
theorem atyes_i {w : World} {pv : Value} {L : List Value} (i : Nat) (H : Tin w 194 pv L) (hi : i < L.length) (hf : L.length ≤ 100000) :
    Calls Tryz.prog 107 #[.agg #[pv], .int .i64 i] w fun e w' => (∃ x, L[i]? = some x ∧ e = .returned (.tuple #[x, .bool true])) ∧ Below w.heap.size w w' := by
  have hT := H
  rcases H with ⟨_, rfl⟩ | ⟨b, h, t, rfl, hin, hok, rfl⟩
  · simp at hi
  obtain ⟨w1, hw1, al, hz1, hh, hC⟩ := two_blocks w (Obj.cells #[ptr b] 25) (Obj.cells #[.slice none 0 0, .int .i64 0, .bool false] 103)
  have c0 : w1.cell? ⟨w.heap.size, 0, none⟩ = some (ptr b) := by rw [cell_at hh]; rfl
  have HC := Lib.hid hC
  have HH := Lib.hid (has_i (i : Int) (hT.below al))
  rw [show decide (0 ≤ (i : Int) ∧ (i : Int) < (flatL h t).length) = true from decide_eq_true ⟨by omega, by omega⟩] at HH
  have AL := Lib.hid al
  have HI := Lib.hid (hin.below al)
  have HO := Lib.hid hok
  obtain ⟨L, hL⟩ : ∃ L, flatL h t = L := ⟨_, rfl⟩
  have HLL := Lib.hid hL
  rw [hL] at hi hf ⊢
  have hz := lt_of_heap hh
  clear hh al hT hin hok hL hC
  go_enter Tryz.func107, Tryz.ntmps107
  go_upto_region 1 with fail
  go_wp2_with fail
  refine HH.out.mono ?_; rintro e w2 ⟨rfl, hb2⟩
  have r1 := (hb2.cell (p := ⟨w.heap.size, 0, none⟩) hz).trans c0
  have HB2 := Lib.hid (AL.out.trans (hb2.mono AL.out.size))
  have HC2 := Lib.hid ((hb2.block _ (lt_of_heap HC.out)).trans HC.out)
  have HI2 := Lib.hid (HI.out.below hb2)
  clear hb2 c0 HH
  go_wp2_with fail
  go_loopw [1, 7, 8] (fun v1 v7 v8 wr => ∃ (j h' b' lo : Nat) (t' : List (El h')), v1 = .int .i64 j ∧ v7 = ptr b' ∧ In wr 194 h' t' b' ∧ 1 ≤ lo ∧ (h' = 0 ∨ 2 ≤ lo) ∧ Ok lo h' t' ∧ j < (flatL h' t').length ∧ (flatL h' t').length ≤ 100000 ∧ (flatL h' t')[j]? = L[i]? ∧ wr = w2) (fun _ v7 _ w => numV v7 w)
  case atStart => exact ⟨i, h, b, rlo h, t, rfl, rfl, HI2.out, rlo_pos h, by unfold rlo; by_cases e : h = 0 <;> simp [e], HO.out, by rw [HLL.out]; exact hi, by rw [HLL.out]; exact hf, by rw [HLL.out], rfl⟩
  case round =>
    obtain ⟨j, h', b', lo, t', rfl, rfl, hin, hlo, hlo2, hok', hj, hf', hji, hww⟩ := hrel
    have hww2 := hww.symm
    subst hww2
    clear hww
    have HI' := Lib.hid hin
    cases h' with
    | zero =>
      have HL := Lib.hid (isleaf_i hin)
      obtain ⟨a, c, k0, k1, hsl⟩ := hin.items
      have hft : flatL 0 t' = t' := flatL_zero t'
      rw [hft] at hj hji
      have hx : (t' : List Value)[j]? = some ((t' : List Value)[j]'hj) := List.getElem?_eq_getElem hj
      obtain ⟨g, o, xa, xn, xc, xe, xb, rfl, hg, hx3, hc0, hc1, hc2⟩ := hsl.at hx
      rw [hx3] at hx
      have hji2 := hji.symm.trans hx
      unfold row3 at hji2
      have HJ := Lib.hid hji2
      obtain ⟨n, hn⟩ : ∃ n, @List.length Value t' = n := ⟨_, rfl⟩
      have hn2 : j < n := by rw [← hn]; exact hj
      rw [hn] at k1
      have e0 : (0 : Int) ≤ (j : Int) := by omega
      have e1 : (j : Int) < (n : Int) := by omega
      clear hin hok' hsl hft hx hx3 hji hji2 hj hn hf'
      go_wp2_with fail
      refine HL.out.mono ?_; rintro e w3 ⟨rfl, rfl⟩
      have hc3 := HC2.out
      have zz := fun i => unfrozen hc3 i
      have r0 : w2.cell? ⟨w.heap.size + 1, 0, none⟩ = some (.slice none 0 0) := by rw [cell_at hc3]; rfl
      have r1 : w2.cell? ⟨w.heap.size + 1, 1, none⟩ = some (.int .i64 0) := by rw [cell_at hc3]; rfl
      have r2 : w2.cell? ⟨w.heap.size + 1, 2, none⟩ = some (.bool false) := by rw [cell_at hc3]; rfl
      clear hc3
      go_wp2_with fail
      obtain ⟨w4, hw4, s0, s1, s2, hb4⟩ := row_set (v0 := .slice xa xn xc) (v1 := .int .i64 xe) (v2 := .bool xb) HC2.out HB2.out (Nat.le_succ _)
      rw [hw4]
      exact bodyPost_ret (v := .tuple #[.agg #[.slice xa xn xc, .int .i64 xe, .bool xb], .bool true]) (by simp [results, Tryz.results107, go_sem, s0, s1, s2]) rfl ⟨⟨_, HJ.out, rfl⟩, hb4⟩
    | succ h' =>
      have hl1 : 1 ≤ t'.length := by have := hok'.len; omega
      have hl6 := hok'.len.2
      have HL := Lib.hid (notleaf_i hin hl1)
      have HK := Lib.hid (kid_i hin hl1 (by omega) j (by omega))
      obtain ⟨a, c, k0, k1, hes⟩ := hin.kids
      obtain ⟨g, o, rfl, hg⟩ := hes.has hl1
      obtain ⟨q1, q2, q3, _⟩ := kid_at hl1 j
      have q3 := q3 hj
      have hidx := flat_idx hl1 j hj
      have hlt := kid_lt (by omega) hok' q1
      obtain ⟨b2, hcb, hin2⟩ := hes.at (x := nth t' (kidP (szs h' t') j).1) (nth_at q1)
      have HI2' := Lib.hid hin2
      have HO2 := Lib.hid (hok'.kid q1)
      have hn1 := numV_in hin
      have hn2 := numV_in hin2
      have HN := Lib.hid (And.intro hlt (And.intro hn1 hn2))
      have HX := Lib.hid (And.intro q3 (And.intro (show _ ≤ 100000 from Nat.le_trans (Nat.le_of_lt hlt) hf') (hidx.symm.trans hji)))
      generalize (kidP (szs h' t') j).1 = kk at *
      generalize (kidP (szs h' t') j).2 = jj at *
      generalize t'.length = n at *
      have e0 : (0 : Int) ≤ (kk : Int) := by omega
      have e1 : (kk : Int) < (n : Int) := by omega
      clear hin hok' hes hin2 hlt hn1 hn2 q2 q3 hidx hji hj hf'
      go_wp2_with fail
      refine HL.out.mono ?_; rintro e w3 ⟨rfl, rfl⟩
      go_wp2_with fail
      refine HK.out.mono ?_; rintro e w3 ⟨rfl, rfl⟩
      go_wp2_with fail
      go_roundw
      case rel => exact ⟨jj, h', b2, 3, nth t' kk, rfl, rfl, HI2'.out, by omega, .inr (by omega), HO2.out, HX.out.1, HX.out.2.1, HX.out.2.2, by first | rfl | trivial⟩
      case measure =>
        obtain ⟨m1, m2, m3⟩ := HN.out
        show numV (ptr b2) _ < numV (ptr b') _
        rw [m2, m3]; exact m1

end Go.Proofs.YtkgakgceamafcaaGreat

namespace Go.Proofs.YtkgakgceamafcaaGreat
open Go Go.RowKit Go.Shelf
set_option linter.unusedVariables false

abbrev Bls := Nat → Prop
/-- Blocks of D have been turned, and new ones made, at most. -/
structure Moves (D : Bls) (W W' : World) : Prop where
  os : W'.os = W.os
  tape : W'.tape = W.tape
  output : W'.output = W.output
  size : W.heap.size ≤ W'.heap.size
  block : ∀ k, k < W.heap.size → ¬ D k → W'.heap[k]? = W.heap[k]?
theorem Moves.below {D : Bls} {W W' : World} (h : Below W.heap.size W W') : Moves D W W' := ⟨h.os, h.tape, h.output, h.size, fun k hk _ => h.block k hk⟩
theorem Moves.put {D : Bls} {W : World} {l : Nat} (o : Obj) (hl : D l) : Moves D W (W.putObj l o) :=
  ⟨(grownBy_putObj' W l o).os, (grownBy_putObj' W l o).tape, (grownBy_putObj' W l o).output, (grownBy_putObj' W l o).size, fun k hk hd => (grownBy_putObj' W l o).block k hk (fun e => by cases e; exact hd hl)⟩
theorem Moves.mono {D D' : Bls} {W W' : World} (h : Moves D W W') (hd : ∀ k, D k → D' k) : Moves D' W W' := ⟨h.os, h.tape, h.output, h.size, fun k hk hn => h.block k hk (fun e => hn (hd k e))⟩
theorem Moves.cell {D : Bls} {W W' : World} (h : Moves D W W') {b : Nat} {o : Nat} (hb : b < W.heap.size) (hd : ¬ D b) : W'.cell? ⟨b, o, none⟩ = W.cell? ⟨b, o, none⟩ := by
  have := h.block b hb hd
  simp only [World.cell?, this]
/-- What the blocks of D hold is as it was. -/
def Same (D : Bls) (W W' : World) : Prop := ∀ k, D k → W'.heap[k]? = W.heap[k]?
theorem Same.refl (D : Bls) (W : World) : Same D W W := fun _ _ => rfl
theorem Same.trans {D : Bls} {W W' W'' : World} (h : Same D W W') (h' : Same D W' W'') : Same D W W'' := fun k hk => (h' k hk).trans (h k hk)
theorem Same.mono {D D' : Bls} {W W' : World} (h : Same D W W') (hd : ∀ k, D' k → D k) : Same D' W W' := fun k hk => h k (hd k hk)
theorem Same.below {D : Bls} {W W' : World} (h : Below W.heap.size W W') (hd : ∀ k, D k → k < W.heap.size) : Same D W W' := fun k hk => h.block k (hd k hk)
theorem Same.cell {D : Bls} {W W' : World} (h : Same D W W') {b : Nat} {o : Nat} (hd : D b) : W'.cell? ⟨b, o, none⟩ = W.cell? ⟨b, o, none⟩ := by
  have := h b hd
  simp only [World.cell?, this]
/-- Those blocks are there. -/
def Have (D : Bls) (W : World) : Prop := ∀ k, D k → k < W.heap.size
/-- What stands whatever the blocks of D are turned into; and new blocks may come to them. -/
def Firm {β : Type} (J : β → Bls → World → Prop) : Prop := ∀ s D D' W W', J s D W → Moves D W W' → (∀ k, D' k → D k ∨ W.heap.size ≤ k) → J s D' W'
theorem Firm.go {β : Type} {J : β → Bls → World → Prop} (h : Firm J) {s : β} {D : Bls} {W W' : World} (hs : J s D W) (hm : Moves D W W') : J s D W' := h s D D W W' hs hm (fun _ hk => .inl hk)
theorem Firm.below {β : Type} {J : β → Bls → World → Prop} (h : Firm J) {s : β} {D : Bls} {W W' : World} (hs : J s D W) (hb : Below W.heap.size W W') : J s D W' := h.go hs (Moves.below hb)
/-- An iterator's contract: whatever the rounds' word is, if it stands firm. -/
def Iter {α : Type} (F : Fence) (n : Nat) (P : Program) (g : Nat) (lb : Array Value) (encs : α → Array Value) (n₀ : Nat) (S Sp : List α → Prop) (N : List α → α → Prop) (D0 : Bls) (w : World) : Prop :=
  ∀ (l : Nat) (J Jx : List α → Bls → World → Prop) (W : World), Below w.heap.size w W → Firm J → Firm Jx →
    (∀ pre x D W1, J pre D W1 → Have D W1 → N pre x → YieldAt F (n - 1) P l (encs x) W1 fun e W' => Same D W1 W' ∧
      ((e = .returned (.bool true) ∧ J (pre ++ [x]) D W' ∧ Below n₀ W1 W') ∨ (e = .returned (.bool false) ∧ Jx (pre ++ [x]) D W'))) →
    J [] D0 W →
    CallsIn F n P g (#[.func (.yield l) #[] #[]] ++ lb) W fun e W' => (∃ v, e = .returned v) ∧ ((∃ xs D, S xs ∧ J xs D W') ∨ (∃ pre D, Sp pre ∧ Jx pre D W'))

/-- What the body of a round owes. -/
def roundPost {α : Type} (n₀ : Nat) (E : Bls) (I : List α → Bls → World → Prop) (Ix : Code → List α → Bls → World → Prop) (s : List α) (U : World) : Exit → Act → World → Prop
  | .normal, _, Z => Same E U Z ∧ Below n₀ U Z ∧ I s E Z
  | .ret, _, Z => Same E U Z ∧ Ix .ret s E Z
  | .exit id, _, Z => Same E U Z ∧ Ix (.exit id) s E Z
  | .goto t, _, Z => Same E U Z ∧ Ix (.goto t) s E Z
  | .panic _, _, _ => False
  | .outgrown, _, _ => False

theorem round_of {α : Type} {F : Fence} {m : Nat} {P : Program} {l n₀ d : Nat} {N : List α → α → Prop} {fn : FuncId} {assign body : Code} {ps : Array Tmp} {tmps : Array Value} {encs : α → Array Value} {W : World} {D : Bls}
    {rec : LoopState → Option Code → Loop} (hrec : rec = fun st pe => { state := st, pending := pe, fn, tmps := tmps, params := ps, assign, body, defers := d })
    (hfn : F.fn fn) (hps : ∀ x, (encs x).size = ps.size) (hn : n₀ ≤ l) (hl : W.heap[l]? = some (.loop (rec .ready none))) (hD : D l) (hbd : Have D W)
    (I : List α → Bls → World → Prop) (Ix : Code → List α → Bls → World → Prop) (hI : Firm I) (hIx : ∀ c, Firm (Ix c)) (Ax : α → Act → Bls → World → Prop)
    (hAx : ∀ x a' E V r o, Ax x a' E V → V.heap[l]? = some (.loop r) → Ax x a' E (V.putObj l o))
    (hassign : ∀ (pre : List α) (x : α) (E : Bls) (W : World) (K : Act → World → Prop), I pre E W → Have E W → (∀ a' E' W', (∀ k, E k → E' k) → Have E' W' → Same E W W' → Below n₀ W W' → I pre E' W' → Ax x a' E' W' → K a' W') →
      assign.wpIn (F.inRound l) m P (Exit.then K (fun _ _ _ => False)) { tmps := (ps.zip (encs x)).foldl (fun t (p, v) => t.setIfInBounds p v) tmps, defers := [] } W)
    (hbody : ∀ (pre : List α) (x : α) (a' : Act) (E : Bls) (W : World), E l → (∃ r, W.heap[l]? = some (.loop r)) → Have E W → I pre E W → Ax x a' E W → N pre x → body.wpIn (F.inRound l) m P (roundPost n₀ E I Ix (pre ++ [x]) W) a' W)
    (pre : List α) (x : α) (hi : I pre D W) (hN : N pre x) :
    YieldAt F m P l (encs x) W fun e W' => (∀ k, D k → k ≠ l → W'.heap[k]? = W.heap[k]?) ∧
      ((e = .returned (.bool true) ∧ I (pre ++ [x]) D W' ∧ W'.heap[l]? = some (.loop (rec .ready none)) ∧ Below n₀ W W') ∨
      (e = .returned (.bool false) ∧ ∃ c, Ix c (pre ++ [x]) D W' ∧ W'.heap[l]? = some (.loop (rec .done (some c))))) := by
  have hy := run_yield (P := P) (args := encs x) hl (by rw [hrec]; exact hps x)
  rw [hrec] at hy
  refine ⟨fn, _, assign, body, hy, roundIn_of_wpIn hfn (hassign pre x D W _ hi hbd fun a' E V hsub hbE hsame hbel hiV hax => ?_)⟩
  have hlV := (hsame l hD).trans hl
  have hEl := hsub l hD
  refine ⟨_, run_beginRound hlV (by rw [hrec]), ?_⟩
  obtain ⟨U, hU⟩ : ∃ U, V.putObj l (.loop { rec .ready none with state := .busy }) = U := ⟨_, rfl⟩
  rw [hU]
  have hlU : U.heap[l]? = some (.loop { rec .ready none with state := .busy }) := by rw [← hU]; exact World.putObj_heap_same (Array.getElem?_eq_some_iff.1 hlV).1
  have hiU : I pre E U := by rw [← hU]; exact hI.go hiV (Moves.put _ hEl)
  have haU : Ax x a' E U := by rw [← hU]; exact hAx _ _ _ _ _ _ hax hlV
  have hbU : Have E U := fun k hk => by rw [← hU]; exact Nat.lt_of_lt_of_le (hbE k hk) (grownBy_putObj' V l _).size
  have put (w1 : World) (o : Obj) : Below n₀ w1 (w1.putObj l o) :=
    ⟨(grownBy_putObj' w1 l o).os, (grownBy_putObj' w1 l o).tape, (grownBy_putObj' w1 l o).output, (grownBy_putObj' w1 l o).size, fun k hk => World.putObj_heap_other (by omega)⟩
  have hbelU : Below n₀ W U := by rw [← hU]; exact hbel.trans (put _ _)
  have saU : ∀ k, D k → k ≠ l → U.heap[k]? = W.heap[k]? := fun k hk hkl => by rw [← hU]; exact (World.putObj_heap_other hkl).trans (hsame k hk)
  refine wpIn_mono (hbody pre x a' E U hEl ⟨_, hlU⟩ hbU hiU haU hN) ?_
  have ends (jump : Option Code) (Z : World) (hk : Same E U Z) :
      (Instr.endRound l jump).run P Z = .ok (.bool jump.isNone) (Z.putObj l (.loop (rec (if jump.isNone then .ready else .done) jump))) ∧
      (Z.putObj l (.loop (rec (if jump.isNone then .ready else .done) jump))).heap[l]? = some (.loop (rec (if jump.isNone then .ready else .done) jump)) ∧
      (∀ k, D k → k ≠ l → (Z.putObj l (.loop (rec (if jump.isNone then .ready else .done) jump))).heap[k]? = W.heap[k]?) := by
    have hlZ := (hk l hEl).trans hlU
    have he := run_endRound (P := P) jump hlZ
    rw [hrec] at he ⊢
    rw [hrec] at hlZ
    exact ⟨he, World.putObj_heap_same (Array.getElem?_eq_some_iff.1 hlZ).1, fun k h1 h2 => (World.putObj_heap_other h2).trans ((hk k (hsub k h1)).trans (saU k h1 h2))⟩
  have away (c : Code) (Z : World) (hk : Same E U Z) (hx : Ix c (pre ++ [x]) E Z) :
      ∃ v Z', (Instr.endRound l (some c)).run P Z = .ok v Z' ∧ ((∀ k, D k → k ≠ l → Z'.heap[k]? = W.heap[k]?) ∧
        ((Ending.returned v = .returned (.bool true) ∧ I (pre ++ [x]) D Z' ∧ Z'.heap[l]? = some (.loop (rec .ready none)) ∧ Below n₀ W Z') ∨
        (Ending.returned v = .returned (.bool false) ∧ ∃ c, Ix c (pre ++ [x]) D Z' ∧ Z'.heap[l]? = some (.loop (rec .done (some c)))))) := by
    obtain ⟨h1, h2, h3⟩ := ends (some c) Z hk
    exact ⟨_, _, h1, h3, .inr ⟨rfl, c, hIx c _ _ _ _ _ hx (Moves.put _ hEl) (fun k h => .inl (hsub k h)), h2⟩⟩
  rintro e a3 Z hp
  cases e with
  | normal =>
    obtain ⟨hk, hb, hx⟩ := hp
    obtain ⟨h1, h2, h3⟩ := ends none Z hk
    exact ⟨_, _, h1, h3, .inl ⟨rfl, hI _ _ _ _ _ hx (Moves.put _ hEl) (fun k h => .inl (hsub k h)), h2, hbelU.trans (hb.trans (put _ _))⟩⟩
  | ret => exact away .ret Z hp.1 hp.2
  | exit id => exact away (.exit id) Z hp.1 hp.2
  | goto t => exact away (.goto t) Z hp.1 hp.2
  | panic ch => exact hp.elim
  | outgrown => exact hp.elim

end Go.Proofs.YtkgakgceamafcaaGreat

namespace Go.Proofs.YtkgakgceamafcaaGreat
open Go Go.RowKit Go.Shelf
set_option linter.unusedVariables false

theorem lt_of_at {w : World} {k : Nat} {o : Obj} (h : w.heap[k]? = some o) : k < w.heap.size := (Array.getElem?_eq_some_iff.1 h).1

theorem range_outer {α : Type} {F : Fence} {n : Nat} {P : Program} {g : Operand} {ps : Array Tmp} {assign body : Code} {Q : Exit → Act → World → Prop} {a : Act} {w : World}
    (hro : F.round = none) (h1 : F.depth.isSome = true → 1 ≤ n) {gf : Nat} {lb : Array Value} (hg : a.eval g = .func (.func gf) #[] lb) (hFg : F.fn gf) (eg : ∀ args w, (callFunc gf args).run P w = .ok (.enter gf args) w)
    {encs : α → Array Value} {n₀ : Nat} {S Sp : List α → Prop} {N : List α → α → Prop} {D0 : Bls} {w0 : World} (hseq : Iter F (n - 1) P gf lb encs n₀ S Sp N D0 w0) (hn : n₀ ≤ w.heap.size) (hb0 : Below w0.heap.size w0 w) (hD0 : Have D0 w) (hps : ∀ x, (encs x).size = ps.size)
    (I : List α → Bls → World → Prop) (Ix : Code → List α → Bls → World → Prop) (hI : Firm I) (hIx : ∀ c, Firm (Ix c)) (h0 : I [] D0 w) (Ax : α → Act → Bls → World → Prop)
    (hAx : ∀ x a' E V l r o, Ax x a' E V → V.heap[l]? = some (.loop r) → Ax x a' E (V.putObj l o))
    (hassign : ∀ (l : Nat) (pre : List α) (x : α) (E : Bls) (W : World) (K : Act → World → Prop), w.heap.size ≤ l → I pre E W → Have E W → (∀ a' E' W', (∀ k, E k → E' k) → Have E' W' → Same E W W' → Below n₀ W W' → I pre E' W' → Ax x a' E' W' → K a' W') →
      assign.wpIn (F.inRound l) (n - 1 - 1) P (Exit.then K (fun _ _ _ => False)) { tmps := (ps.zip (encs x)).foldl (fun t (p, v) => t.setIfInBounds p v) a.tmps, defers := [] } W)
    (hbody : ∀ (l : Nat) (pre : List α) (x : α) (a' : Act) (E : Bls) (W : World), E l → (∃ r, W.heap[l]? = some (.loop r)) → Have E W → I pre E W → Ax x a' E W → N pre x → body.wpIn (F.inRound l) (n - 1 - 1) P (roundPost n₀ E I Ix (pre ++ [x]) W) a' W)
    (hdone : ∀ (d : Nat) (xs : List α) (E : Bls) (W : World), w.heap.size ≤ d → E d → S xs → I xs E W → W.heap[d]? = some (.deferred (some [])) → Q .normal { a with defers := { target := .collected d, args := #[] } :: a.defers } W)
    (hstop : ∀ (d : Nat) (c : Code) (pre : List α) (E : Bls) (W : World), w.heap.size ≤ d → E d → Sp pre → Ix c pre E W → W.heap[d]? = some (.deferred (some [])) → c.wpIn F n P Q { a with defers := { target := .collected d, args := #[] } :: a.defers } W) :
    (Code.rangeFunc g ps assign body).wpIn F n P Q a w := by
  refine wpIn_rangeFunc fun fn hfn => ?_
  rw [hro]
  obtain ⟨rec, hrec⟩ : ∃ rec : LoopState → Option Code → Loop, rec = fun st pe => { state := st, pending := pe, fn, tmps := a.tmps, params := ps, assign, body, defers := w.heap.size } := ⟨_, rfl⟩
  have hnew1 := World.alloc_heap_new w (.deferred (some []))
  have hnew2 := World.alloc_heap_new (w.alloc (.deferred (some []))) (.loop (rec .ready none))
  have hol := (t_al (w.alloc (.deferred (some []))) (.loop (rec .ready none))).block w.heap.size (by simp)
  have hsz : ((w.alloc (.deferred (some []))).alloc (.loop (rec .ready none))).heap.size = w.heap.size + 2 := by simp
  have hen := run_enterLoop_outer (P := P) (w := w) fn a.tmps ps assign body
  have hrd : (.loop { state := .ready, pending := none, fn, tmps := a.tmps, params := ps, assign, body, defers := w.heap.size } : Obj) = .loop (rec .ready none) := by rw [hrec]
  rw [hrd] at hen
  have hbw : Below w.heap.size w ((w.alloc (.deferred (some []))).alloc (.loop (rec .ready none))) := (t_al w _).trans ((t_al _ _).mono (by simp))
  generalize (w.alloc (.deferred (some []))).alloc (.loop (rec .ready none)) = V at *
  rw [World.size_alloc] at hnew2
  have hD : V.heap[w.heap.size]? = some (.deferred (some [])) := hol.trans hnew1
  obtain ⟨L, hL⟩ : ∃ L : Bls, L = fun k => k = w.heap.size ∨ k = w.heap.size + 1 := ⟨_, rfl⟩
  have L0 : L w.heap.size := by rw [hL]; exact .inl rfl
  have L1 : L (w.heap.size + 1) := by rw [hL]; exact .inr rfl
  have Lx : ∀ k, L k → k = w.heap.size ∨ k = w.heap.size + 1 := fun k hk => by rw [hL] at hk; exact hk
  clear hL hol hnew1 hrd
  have hI1 : I [] (fun k => D0 k ∨ L k) V := hI _ _ _ _ _ h0 (Moves.below hbw) (fun k hk => hk.elim .inl (fun h => .inr (by rcases Lx k h with h | h <;> omega)))
  refine ⟨w.heap.size + 1, _, V, { target := .fn (.func gf) lb, args := #[.func (.yield (w.heap.size + 1)) #[] #[]] }, V, gf, #[.func (.yield (w.heap.size + 1)) #[] #[]] ++ lb, V, hen, by simp only [resolve, hg]; simp [go_sem], ?_, by simp [invoke, go_sem, eg], h1, ?_⟩
  · intro f' hf'; simp [Target.leads] at hf'; subst hf'; exact hFg
  have firm {β : Type} {Y : β → Bls → World → Prop} (hY : Firm Y) (st : LoopState) (pe : Option Code) : Firm (fun (pre : β) (D : Bls) (W : World) => Y pre (fun k => D k ∨ L k) W ∧ W.heap[w.heap.size + 1]? = some (.loop (rec st pe)) ∧ W.heap[w.heap.size]? = some (.deferred (some [])) ∧ (∀ k, L k → ¬ D k)) := by
    rintro s D D' A A' ⟨h1, h2, h3, h4⟩ hm hd
    refine ⟨hY _ _ _ _ _ h1 (hm.mono fun _ h => .inl h) (fun k hk => hk.elim (fun h => (hd k h).elim (fun h => .inl (.inl h)) .inr) (fun h => .inl (.inr h))), (hm.block _ (lt_of_at h2) (h4 _ L1)).trans h2, (hm.block _ (lt_of_at h3) (h4 _ L0)).trans h3, fun k hk hD' => ?_⟩
    rcases hd k hD' with h | h
    · exact h4 k hk h
    · have i1 := lt_of_at h2
      have i2 := lt_of_at h3
      rcases Lx k hk with e | e <;> omega
  refine (hseq (w.heap.size + 1)
    (fun pre D W => I pre (fun k => D k ∨ L k) W ∧ W.heap[w.heap.size + 1]? = some (.loop (rec .ready none)) ∧ W.heap[w.heap.size]? = some (.deferred (some [])) ∧ (∀ k, L k → ¬ D k))
    (fun pre D W => ∃ c, Ix c pre (fun k => D k ∨ L k) W ∧ W.heap[w.heap.size + 1]? = some (.loop (rec .done (some c))) ∧ W.heap[w.heap.size]? = some (.deferred (some [])) ∧ (∀ k, L k → ¬ D k))
    V (hb0.trans (hbw.mono hb0.size)) (firm hI _ _)
    (fun s D D' A A' ⟨c, hs⟩ hm hd => ⟨c, firm (hIx c) _ _ s D D' A A' hs hm hd⟩) ?_ ⟨hI1, hnew2, hD, fun k hk hd => by have := hD0 k hd; rcases Lx k hk with e | e <;> omega⟩).mono ?_
  · rintro pre x D W ⟨hi, hl, hk, hLD⟩ hbd hN
    refine (round_of hrec hfn hps (by omega) hl (D := fun k => D k ∨ L k) (.inr L1) (fun k h => h.elim (hbd k) (fun h => by rcases Lx k h with e | e; rw [e]; exact lt_of_at hk; rw [e]; exact lt_of_at hl)) I Ix hI hIx Ax (fun x a' E V r o => hAx x a' E V _ r o) (fun pre x E W K => hassign _ pre x E W K (by omega)) (fun pre x a' E W => hbody _ pre x a' E W) pre x hi hN).mono ?_
    rintro e W' ⟨hs, (⟨rfl, h2, h3, h4⟩ | ⟨rfl, c, h2, h3⟩)⟩
    · exact ⟨fun k hkD => hs k (.inl hkD) (fun e => hLD _ L1 (by rw [e] at hkD; exact hkD)), .inl ⟨rfl, ⟨h2, h3, (hs _ (.inr L0) (by omega)).trans hk, hLD⟩, h4⟩⟩
    · exact ⟨fun k hkD => hs k (.inl hkD) (fun e => hLD _ L1 (by rw [e] at hkD; exact hkD)), .inr ⟨rfl, c, h2, h3, (hs _ (.inr L0) (by omega)).trans hk, hLD⟩⟩
  · rintro e W2 ⟨⟨v, rfl⟩, (⟨xs, D, hS, hi, hl, hk, _⟩ | ⟨pre, D, hSp, c, hi, hl, hk, _⟩)⟩
    · have he := run_endLoop (P := P) hl (by rw [hrec]; simp)
      rw [hrec] at he
      exact ⟨none, _, he, hdone _ xs _ _ (Nat.le_refl _) (.inr L0) hS (hI.go hi (Moves.put _ (.inr L1))) ((World.putObj_heap_other (by omega)).trans hk)⟩
    · have he := run_endLoop (P := P) hl (by rw [hrec]; simp)
      rw [hrec] at he
      exact ⟨some c, _, he, hstop _ c pre _ _ (Nat.le_refl _) (.inr L0) hSp ((hIx c).go hi (Moves.put _ (.inr L1))) ((World.putObj_heap_other (by omega)).trans hk)⟩

theorem range_inner {α : Type} {F : Fence} {n : Nat} {P : Program} {g : Operand} {ps : Array Tmp} {assign body : Code} {Q : Exit → Act → World → Prop} {a : Act} {w : World}
    {l₀ : Nat} {r₀ : Loop} (hro : F.round = some l₀) (hl₀ : w.heap[l₀]? = some (.loop r₀)) (h1 : F.depth.isSome = true → 1 ≤ n) {gf : Nat} {lb : Array Value} (hg : a.eval g = .func (.func gf) #[] lb) (hFg : F.fn gf) (eg : ∀ args w, (callFunc gf args).run P w = .ok (.enter gf args) w)
    {encs : α → Array Value} {n₀ : Nat} {S Sp : List α → Prop} {N : List α → α → Prop} {D0 : Bls} {w0 : World} (hseq : Iter F (n - 1) P gf lb encs n₀ S Sp N D0 w0) (hn : n₀ ≤ w.heap.size) (hb0 : Below w0.heap.size w0 w) (hD0 : Have D0 w) (hps : ∀ x, (encs x).size = ps.size)
    (I : List α → Bls → World → Prop) (Ix : Code → List α → Bls → World → Prop) (hI : Firm I) (hIx : ∀ c, Firm (Ix c)) (h0 : I [] D0 w) (Ax : α → Act → Bls → World → Prop)
    (hAx : ∀ x a' E V l r o, Ax x a' E V → V.heap[l]? = some (.loop r) → Ax x a' E (V.putObj l o))
    (hassign : ∀ (l : Nat) (pre : List α) (x : α) (E : Bls) (W : World) (K : Act → World → Prop), w.heap.size ≤ l → I pre E W → Have E W → (∀ a' E' W', (∀ k, E k → E' k) → Have E' W' → Same E W W' → Below n₀ W W' → I pre E' W' → Ax x a' E' W' → K a' W') →
      assign.wpIn (F.inRound l) (n - 1 - 1) P (Exit.then K (fun _ _ _ => False)) { tmps := (ps.zip (encs x)).foldl (fun t (p, v) => t.setIfInBounds p v) a.tmps, defers := [] } W)
    (hbody : ∀ (l : Nat) (pre : List α) (x : α) (a' : Act) (E : Bls) (W : World), E l → (∃ r, W.heap[l]? = some (.loop r)) → Have E W → I pre E W → Ax x a' E W → N pre x → body.wpIn (F.inRound l) (n - 1 - 1) P (roundPost n₀ E I Ix (pre ++ [x]) W) a' W)
    (hdone : ∀ (xs : List α) (E : Bls) (W : World), S xs → I xs E W → Q .normal a W)
    (hstop : ∀ (c : Code) (pre : List α) (E : Bls) (W : World), Sp pre → Ix c pre E W → c.wpIn F n P Q a W) :
    (Code.rangeFunc g ps assign body).wpIn F n P Q a w := by
  refine wpIn_rangeFunc fun fn hfn => ?_
  rw [hro]
  obtain ⟨rec, hrec⟩ : ∃ rec : LoopState → Option Code → Loop, rec = fun st pe => { state := st, pending := pe, fn, tmps := a.tmps, params := ps, assign, body, defers := r₀.defers } := ⟨_, rfl⟩
  have hnew := World.alloc_heap_new w (.loop (rec .ready none))
  have hsz : (w.alloc (.loop (rec .ready none))).heap.size = w.heap.size + 1 := by simp
  have hen := run_enterLoop_inner (P := P) hl₀ fn a.tmps ps assign body
  have hrd : (.loop { state := .ready, pending := none, fn, tmps := a.tmps, params := ps, assign, body, defers := r₀.defers } : Obj) = .loop (rec .ready none) := by rw [hrec]
  rw [hrd] at hen
  have hbw : Below w.heap.size w (w.alloc (.loop (rec .ready none))) := t_al w _
  generalize w.alloc (.loop (rec .ready none)) = V at *
  obtain ⟨L, hL⟩ : ∃ L : Bls, L = fun k => k = w.heap.size := ⟨_, rfl⟩
  have L1 : L w.heap.size := by rw [hL]
  have Lx : ∀ k, L k → k = w.heap.size := fun k hk => by rw [hL] at hk; exact hk
  clear hL hrd
  have hI1 : I [] (fun k => D0 k ∨ L k) V := hI _ _ _ _ _ h0 (Moves.below hbw) (fun k hk => hk.elim .inl (fun h => .inr (by have := Lx k h; omega)))
  refine ⟨w.heap.size, _, V, { target := .fn (.func gf) lb, args := #[.func (.yield w.heap.size) #[] #[]] }, V, gf, #[.func (.yield w.heap.size) #[] #[]] ++ lb, V, hen, by simp only [resolve, hg]; simp [go_sem], ?_, by simp [invoke, go_sem, eg], h1, ?_⟩
  · intro f' hf'; simp [Target.leads] at hf'; subst hf'; exact hFg
  have firm {β : Type} {Y : β → Bls → World → Prop} (hY : Firm Y) (st : LoopState) (pe : Option Code) : Firm (fun (pre : β) (D : Bls) (W : World) => Y pre (fun k => D k ∨ L k) W ∧ W.heap[w.heap.size]? = some (.loop (rec st pe)) ∧ (∀ k, L k → ¬ D k)) := by
    rintro s D D' A A' ⟨h1, h2, h4⟩ hm hd
    refine ⟨hY _ _ _ _ _ h1 (hm.mono fun _ h => .inl h) (fun k hk => hk.elim (fun h => (hd k h).elim (fun h => .inl (.inl h)) .inr) (fun h => .inl (.inr h))), (hm.block _ (lt_of_at h2) (h4 _ L1)).trans h2, fun k hk hD' => ?_⟩
    rcases hd k hD' with h | h
    · exact h4 k hk h
    · have i1 := lt_of_at h2
      have := Lx k hk
      omega
  refine (hseq w.heap.size
    (fun pre D W => I pre (fun k => D k ∨ L k) W ∧ W.heap[w.heap.size]? = some (.loop (rec .ready none)) ∧ (∀ k, L k → ¬ D k))
    (fun pre D W => ∃ c, Ix c pre (fun k => D k ∨ L k) W ∧ W.heap[w.heap.size]? = some (.loop (rec .done (some c))) ∧ (∀ k, L k → ¬ D k))
    V (hb0.trans (hbw.mono hb0.size)) (firm hI _ _)
    (fun s D D' A A' ⟨c, hs⟩ hm hd => ⟨c, firm (hIx c) _ _ s D D' A A' hs hm hd⟩) ?_ ⟨hI1, hnew, fun k hk hd => by have := hD0 k hd; have := Lx k hk; omega⟩).mono ?_
  · rintro pre x D W ⟨hi, hl, hLD⟩ hbd hN
    refine (round_of hrec hfn hps hn hl (D := fun k => D k ∨ L k) (.inr L1) (fun k h => h.elim (hbd k) (fun h => by rw [Lx k h]; exact lt_of_at hl)) I Ix hI hIx Ax (fun x a' E V r o => hAx x a' E V _ r o) (fun pre x E W K => hassign _ pre x E W K (Nat.le_refl _)) (fun pre x a' E W => hbody _ pre x a' E W) pre x hi hN).mono ?_
    rintro e W' ⟨hs, (⟨rfl, h2, h3, h4⟩ | ⟨rfl, c, h2, h3⟩)⟩
    · exact ⟨fun k hkD => hs k (.inl hkD) (fun e => hLD _ L1 (by rw [e] at hkD; exact hkD)), .inl ⟨rfl, ⟨h2, h3, hLD⟩, h4⟩⟩
    · exact ⟨fun k hkD => hs k (.inl hkD) (fun e => hLD _ L1 (by rw [e] at hkD; exact hkD)), .inr ⟨rfl, c, h2, h3, hLD⟩⟩
  · rintro e W2 ⟨⟨v, rfl⟩, (⟨xs, D, hS, hi, hl, _⟩ | ⟨pre, D, hSp, c, hi, hl, _⟩)⟩
    · have he := run_endLoop (P := P) hl (by rw [hrec]; simp)
      rw [hrec] at he
      exact ⟨none, _, he, hdone xs _ _ hS (hI.go hi (Moves.put _ (.inr L1)))⟩
    · have he := run_endLoop (P := P) hl (by rw [hrec]; simp)
      rw [hrec] at he
      exact ⟨some c, _, he, hstop c pre _ _ hSp ((hIx c).go hi (Moves.put _ (.inr L1)))⟩

end Go.Proofs.YtkgakgceamafcaaGreat
