/-
  Contracts of layer 9, trees of ints: Height, At; at this seat's numbers.
-/
import Derived.Test.YtofncnommekbjaaTrO
namespace Go.Proofs.Ytofncnommekbjaa
open Go Go.RowKit
set_option linter.unusedVariables false

theorem ok_pow : ∀ (h : Nat) {lo : Nat} {t : List (El h)}, Ok lo h t → lo * 3 ^ h ≤ (flatL h t).length
  | 0, lo, t, H => by have h1 := H.1; have h2 := flatLen0 t; simp; omega
  | h + 1, lo, ks, H => by
    have hk : ∀ n, n ≤ ks.length → n * (3 * 3 ^ h) ≤ (flatL (h + 1) (ks.take n)).length := by
      intro n
      induction n with
      | zero => intro _; simp
      | succ n ih =>
        intro hn
        have h1 := ih (by omega)
        have h2 := flat_take (nth_at (ks := ks) (k := n) (by omega))
        have h3 := ok_pow h (H.kid (k := n) (by omega))
        have h4 : (flatL h (mk1 (nth ks n))).length = (flatL h (nth ks n)).length := rfl
        rw [h2, h4, Nat.succ_mul]; omega
    have h5 := hk ks.length (Nat.le_refl _)
    rw [List.take_length] at h5
    have h6 : lo * (3 * 3 ^ h) ≤ ks.length * (3 * 3 ^ h) := Nat.mul_le_mul_right _ H.1
    rw [Nat.pow_succ, Nat.mul_comm (3 ^ h) 3]
    omega
theorem ok_pos {h lo : Nat} {t : List (El h)} (h1 : 1 ≤ lo) (H : Ok lo h t) : 1 ≤ (flatL h t).length := by
  have h2 := ok_pow h H
  have h3 : 0 < 3 ^ h := Nat.pow_pos (by omega)
  have h4 : 1 * 3 ^ h ≤ lo * 3 ^ h := Nat.mul_le_mul_right _ h1
  omega
theorem kid_lt {lo h : Nat} {ks : List (El (h + 1))} {k : Nat} (hlo : 2 ≤ lo) (H : Ok lo (h + 1) ks) (hk : k < ks.length) : (flatL h (nth ks k)).length < (flatL (h + 1) ks).length := by
  have hl := H.len
  rw [flat_split hk, List.length_append, List.length_append]
  rcases Nat.eq_zero_or_pos k with rfl | h0
  · have h1 : nth (ks.drop (0 + 1)) 0 = nth ks 1 := by unfold nth; rw [List.getElem?_drop]
    have h2 := nth_flat (ks := ks.drop (0 + 1)) (k := 0) (by rw [List.length_drop]; omega)
    rw [h1] at h2
    have h3 := ok_pos (by omega) (H.kid (k := 1) (by omega))
    omega
  · have h1 : nth (ks.take k) 0 = nth ks 0 := by unfold nth; rw [List.getElem?_take, if_pos h0]
    have h2 := nth_flat (ks := ks.take k) (k := 0) (by rw [List.length_take]; omega)
    rw [h1] at h2
    have h3 := ok_pos (by omega) (H.kid (k := 0) (by omega))
    omega
theorem ok_h : ∀ (h : Nat) {lo : Nat} {t : List (El h)}, 1 ≤ lo → Ok lo h t → h < (flatL h t).length := by
  intro h lo t h1 H
  have h2 := ok_pow h H
  have h3 : h < 3 ^ h := Nat.lt_pow_self (by omega)
  have h4 : 1 * 3 ^ h ≤ lo * 3 ^ h := Nat.mul_le_mul_right _ h1
  omega
/-- How many values lie below a node in memory. -/
def numV (v : Value) (w : World) : Nat := match v with
  | .pointer (some p) => (intOf ((w.cell? ⟨p.block, 2, none⟩).getD (.int .i64 0))).toNat
  | _ => 0
theorem numV_in {w : World} {T : TypeId} {h : Nat} {t : List (El h)} {b : Nat} (H : In w T h t b) : numV (ptr b) w = (flatL h t).length := by
  show (intOf ((w.cell? ⟨b, 2, none⟩).getD (.int .i64 0))).toNat = _
  rw [H.num]; simp [intOf]
theorem flat_idx {h : Nat} {ks : List (El (h + 1))} (hn : 1 ≤ ks.length) (i : Nat) (hi : i < (flatL (h + 1) ks).length) : (flatL (h + 1) ks)[i]? = (flatL h (nth ks (kidP (szs h ks) i).1))[(kidP (szs h ks) i).2]? := by
  obtain ⟨h1, h2, h3, _⟩ := kid_at hn i
  have h3 := h3 hi
  rw [flat_split h1]
  generalize (kidP (szs h ks) i).2 = j at *
  generalize (kidP (szs h ks) i).1 = k at *
  rw [List.append_assoc, List.getElem?_append_right (by omega), List.getElem?_append_left (by omega)]
  congr 1; omega

set_option maxRecDepth 100000 in
set_option maxHeartbeats 1000000 in
theorem height_i {w : World} {h b : Nat} {t : List (El h)} (H : In w 95 h t b) (hok : Ok (rlo h) h t) (hf : (flatL h t).length ≤ 100000) :
    Calls Try.prog 48 #[.agg #[ptr b]] w fun e w' => e = .returned (.int .i64 (h + 1 : Nat)) ∧ Below w.heap.size w w' := by
  have hh := heap_alloc_new w (Obj.cells #[ptr b] 27)
  have al := t_al w (Obj.cells #[ptr b] 27)
  have c0 : (w.alloc (Obj.cells #[ptr b] 27)).cell? ⟨w.heap.size, 0, none⟩ = some (ptr b) := by rw [cell_at hh]; rfl
  have AL := Lib.hid al
  have HI := Lib.hid (H.below al)
  have HO := Lib.hid hok
  have hhl := ok_h h (rlo_pos h) hok
  clear hh al H hok
  go_enter Try.func48, Try.ntmps48
  go_upto_region 1 with fail
  generalize w.alloc (Obj.cells #[ptr b] 27) = w1 at *
  go_wp2_with fail
  go_loopw [3, 4] (fun v3 v4 wr => ∃ (k h' b' lo : Nat) (t' : List (El h')), v3 = .int .i64 k ∧ v4 = ptr b' ∧ k + h' = h + 1 ∧ In wr 95 h' t' b' ∧ 1 ≤ lo ∧ (h' = 0 ∨ 2 ≤ lo) ∧ Ok lo h' t' ∧ wr = w1) (fun _ v4 w => numV v4 w)
  case atStart => exact ⟨1, h, b, rlo h, t, rfl, rfl, by omega, HI.out, rlo_pos h, by unfold rlo; by_cases e : h = 0 <;> simp [e], HO.out, rfl⟩
  case round =>
    obtain ⟨k, h', b', lo, t', rfl, rfl, hk, hin, hlo, hlo2, hok', hww⟩ := hrel
    have hww2 := hww.symm
    subst hww2
    clear hww
    have HI' := Lib.hid hin
    cases h' with
    | zero =>
      have HL := Lib.hid (isleaf_i hin)
      have hke : k = h + 1 := by omega
      subst hke
      clear hin hok'
      go_wp2_with fail
      refine HL.out.mono ?_; rintro e w2 ⟨rfl, rfl⟩
      go_wp2_with fail
      go_ret
      exact ⟨rfl, AL.out⟩
    | succ h' =>
      have hl1 : 1 ≤ t'.length := by have := hok'.len; omega
      have HL := Lib.hid (notleaf_i hin hl1)
      obtain ⟨a, c, k0, k1, hes⟩ := hin.kids
      obtain ⟨g, o, rfl, hg⟩ := hes.has hl1
      obtain ⟨b2, hcb, hin2⟩ := hes.at (x := nth t' 0) (nth_at hl1)
      rw [Nat.add_zero] at hcb
      have HI2 := Lib.hid hin2
      have HO2 := Lib.hid (hok'.kid (k := 0) hl1)
      have hlt := kid_lt (by omega) hok' (k := 0) hl1
      have hn1 := numV_in hin
      have hn2 := numV_in hin2
      have HN := Lib.hid (And.intro hlt (And.intro hn1 hn2))
      have e1 : (0 : Int) < (t'.length : Int) := by omega
      have hwk : IntKind.i64.wrap ((k : Int) + 1) = (k : Int) + 1 := by rw [IntKind.wrap_i64]; omega
      generalize t'.length = n at *
      clear hin hok' hes hin2 hlt hn1 hn2
      go_wp2_with fail
      refine HL.out.mono ?_; rintro e w2 ⟨rfl, rfl⟩
      go_wp2_with fail
      go_roundw
      case rel => exact ⟨k + 1, h', b2, 3, nth t' 0, by go_num, rfl, by omega, HI2.out, by omega, .inr (by omega), HO2.out, by first | rfl | trivial⟩
      case measure =>
        obtain ⟨m1, m2, m3⟩ := HN.out
        show numV (ptr b2) _ < numV (ptr b') _
        rw [m2, m3]; exact m1

/-- At where there is no such thing. -/
theorem atno_i {w : World} {pv : Value} {L : List Value} (I : Int) (H : Tin w 95 pv L) (hI : ¬ (0 ≤ I ∧ I < L.length)) :
    Calls Try.prog 56 #[.agg #[pv], .int .i64 I] w fun e w' => e = .returned (.tuple #[.int .i64 0, .bool false]) ∧ Below w.heap.size w w' := by
  have hh := heap_alloc_new w (Obj.cells #[pv] 27)
  have al := t_al w (Obj.cells #[pv] 27)
  have c0 : (w.alloc (Obj.cells #[pv] 27)).cell? ⟨w.heap.size, 0, none⟩ = some pv := by rw [cell_at hh]; rfl
  have HH := Lib.hid (has_i I (H.below al))
  rw [show decide (0 ≤ I ∧ I < L.length) = false from decide_eq_false hI] at HH
  have AL := Lib.hid al
  have hone := H.one
  clear hh al H hI
  rcases hone with rfl | ⟨b, rfl⟩
  all_goals
    go_enter Try.func56, Try.ntmps56
    go_wp2_with fail
    refine HH.out.mono ?_; rintro e w2 ⟨rfl, hb2⟩
    have HB := Lib.hid (AL.out.trans (hb2.mono AL.out.size))
    clear hb2
    go_wp2_with fail
    go_ret2
    exact ⟨rfl, HB.out⟩

set_option maxRecDepth 100000 in
set_option maxHeartbeats 1000000 in
theorem atyes_i {w : World} {pv : Value} {L : List Value} (i : Nat) (H : Tin w 95 pv L) (hi : i < L.length) (hf : L.length ≤ 100000) :
    Calls Try.prog 56 #[.agg #[pv], .int .i64 i] w fun e w' => (∃ x, L[i]? = some x ∧ e = .returned (.tuple #[x, .bool true])) ∧ Below w.heap.size w w' := by
  have hT := H
  rcases H with ⟨_, rfl⟩ | ⟨b, h, t, rfl, hin, hok, rfl⟩
  · simp at hi
  have hh := heap_alloc_new w (Obj.cells #[ptr b] 27)
  have al := t_al w (Obj.cells #[ptr b] 27)
  have c0 : (w.alloc (Obj.cells #[ptr b] 27)).cell? ⟨w.heap.size, 0, none⟩ = some (ptr b) := by rw [cell_at hh]; rfl
  have HH := Lib.hid (has_i (i : Int) (hT.below al))
  rw [show decide (0 ≤ (i : Int) ∧ (i : Int) < (flatL h t).length) = true from decide_eq_true ⟨by omega, by omega⟩] at HH
  have AL := Lib.hid al
  have HI := Lib.hid (hin.below al)
  have HO := Lib.hid hok
  obtain ⟨L, hL⟩ : ∃ L, flatL h t = L := ⟨_, rfl⟩
  have HLL := Lib.hid hL
  rw [hL] at hi hf ⊢
  have hz := lt_of_heap hh
  clear hh al hT hin hok hL
  go_enter Try.func56, Try.ntmps56
  go_upto_region 1 with fail
  generalize w.alloc (Obj.cells #[ptr b] 27) = w1 at *
  go_wp2_with fail
  refine HH.out.mono ?_; rintro e w2 ⟨rfl, hb2⟩
  have r1 := (hb2.cell (p := ⟨w.heap.size, 0, none⟩) hz).trans c0
  have HB2 := Lib.hid (AL.out.trans (hb2.mono AL.out.size))
  have HI2 := Lib.hid (HI.out.below hb2)
  clear hb2 c0 HH
  go_wp2_with fail
  go_loopw [1, 7, 8] (fun v1 v7 v8 wr => ∃ (j h' b' lo : Nat) (t' : List (El h')), v1 = .int .i64 j ∧ v7 = ptr b' ∧ In wr 95 h' t' b' ∧ 1 ≤ lo ∧ (h' = 0 ∨ 2 ≤ lo) ∧ Ok lo h' t' ∧ j < (flatL h' t').length ∧ (flatL h' t').length ≤ 100000 ∧ (flatL h' t')[j]? = L[i]? ∧ wr = w2) (fun _ v7 _ w => numV v7 w)
  case atStart => exact ⟨i, h, b, rlo h, t, rfl, rfl, HI2.out, rlo_pos h, by unfold rlo; by_cases e : h = 0 <;> simp [e], HO.out, by rw [HLL.out]; exact hi, by rw [HLL.out]; exact hf, by rw [HLL.out], rfl⟩
  case round =>
    obtain ⟨j, h', b', lo, t', rfl, rfl, hin, hlo, hlo2, hok', hj, hf', hji, hww⟩ := hrel
    have hww2 := hww.symm
    subst hww2
    clear hww
    have HI' := Lib.hid hin
    cases h' with
    | zero =>
      have HL := Lib.hid (isleaf_i hin)
      obtain ⟨a, c, k0, k1, hsl⟩ := hin.items
      have hft : flatL 0 t' = t' := flatL_zero t'
      rw [hft] at hj hji
      obtain ⟨g, o, rfl, hg, hcx⟩ := hsl.rd.2 (by omega)
      have hx : (t' : List Value)[j]? = some ((t' : List Value)[j]'hj) := List.getElem?_eq_getElem hj
      obtain ⟨x, hcj, hji2⟩ : ∃ x : Value, w2.cell? ⟨g, o + j, none⟩ = some x ∧ L[i]? = some x := ⟨_, hcx j _ hx, hji.symm.trans hx⟩
      have HJ := Lib.hid hji2
      obtain ⟨n, hn⟩ : ∃ n, @List.length Value t' = n := ⟨_, rfl⟩
      have hn2 : j < n := by rw [← hn]; exact hj
      have k1' : w1 = w1 := rfl
      rw [hn] at k1
      have e0 : (0 : Int) ≤ (j : Int) := by omega
      have e1 : (j : Int) < (n : Int) := by omega
      clear hin hok' hsl hft hcx hx hji hji2 hj hn k1' hf'
      go_wp2_with fail
      refine HL.out.mono ?_; rintro e w3 ⟨rfl, rfl⟩
      go_wp2_with fail
      go_ret2
      exact ⟨⟨x, HJ.out, rfl⟩, HB2.out⟩
    | succ h' =>
      have hl1 : 1 ≤ t'.length := by have := hok'.len; omega
      have hl6 := hok'.len.2
      have HL := Lib.hid (notleaf_i hin hl1)
      have HK := Lib.hid (kid_i hin hl1 (by omega) j (by omega))
      obtain ⟨a, c, k0, k1, hes⟩ := hin.kids
      obtain ⟨g, o, rfl, hg⟩ := hes.has hl1
      obtain ⟨q1, q2, q3, _⟩ := kid_at hl1 j
      have q3 := q3 hj
      have hidx := flat_idx hl1 j hj
      have hlt := kid_lt (by omega) hok' q1
      obtain ⟨b2, hcb, hin2⟩ := hes.at (x := nth t' (kidP (szs h' t') j).1) (nth_at q1)
      have HI2' := Lib.hid hin2
      have HO2 := Lib.hid (hok'.kid q1)
      have hn1 := numV_in hin
      have hn2 := numV_in hin2
      have HN := Lib.hid (And.intro hlt (And.intro hn1 hn2))
      have HX := Lib.hid (And.intro q3 (And.intro (show _ ≤ 100000 from Nat.le_trans (Nat.le_of_lt hlt) hf') (hidx.symm.trans hji)))
      generalize (kidP (szs h' t') j).1 = kk at *
      generalize (kidP (szs h' t') j).2 = jj at *
      generalize t'.length = n at *
      have e0 : (0 : Int) ≤ (kk : Int) := by omega
      have e1 : (kk : Int) < (n : Int) := by omega
      clear hin hok' hes hin2 hlt hn1 hn2 q2 q3 hidx hji hj hf'
      go_wp2_with fail
      refine HL.out.mono ?_; rintro e w3 ⟨rfl, rfl⟩
      go_wp2_with fail
      refine HK.out.mono ?_; rintro e w3 ⟨rfl, rfl⟩
      go_wp2_with fail
      go_roundw
      case rel => exact ⟨jj, h', b2, 3, nth t' kk, rfl, rfl, HI2'.out, by omega, .inr (by omega), HO2.out, HX.out.1, HX.out.2.1, HX.out.2.2, by first | rfl | trivial⟩
      case measure =>
        obtain ⟨m1, m2, m3⟩ := HN.out
        show numV (ptr b2) _ < numV (ptr b') _
        rw [m2, m3]; exact m1

end Go.Proofs.Ytofncnommekbjaa
