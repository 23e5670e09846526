/-
  Contracts of the document's own rows of numbers: Set, Insert, Delete, Held; at this seat's numbers.
-/
import Derived.Test.YtofncnommekbjaaTrY
import Derived.Test.YtofncnommekbjaaTrU
namespace Go.Proofs.Ytofncnommekbjaa
open Go Go.RowKit
set_option linter.unusedVariables false

def setZ (l : List Int) (I x : Int) : List Int := if 0 ≤ I ∧ I < l.length then replL l I.toNat (I.toNat + 1) [x] else l
def insZ (l : List Int) (I x : Int) : List Int := if 0 ≤ I ∧ I ≤ l.length then replL l I.toNat I.toNat [x] else l
def delZ (l : List Int) (I : Int) : List Int := if 0 ≤ I ∧ I < l.length then replL l I.toNat (I.toNat + 1) [] else l
theorem nums_repl (l o : List Int) (i j : Nat) : nums (replL l i j o) = replL (nums l) i j (nums o) := by
  unfold replL; rw [← nums_app, ← nums_app, nums_take, nums_drop]
theorem nums_setZ (l : List Int) (I x : Int) : nums (setZ l I x) = setV (nums l) I (.int .i64 x) := by
  unfold setZ setV; rw [nums_len]; split
  · rw [nums_repl]; rfl
  · rfl
theorem nums_insZ (l : List Int) (I x : Int) : nums (insZ l I x) = insV (nums l) I (.int .i64 x) := by
  unfold insZ insV; rw [nums_len]; split
  · rw [nums_repl]; rfl
  · rfl
theorem nums_delZ (l : List Int) (I : Int) : nums (delZ l I) = delV (nums l) I := by
  unfold delZ delV; rw [nums_len]; split
  · rw [nums_repl]; rfl
  · rfl
theorem setZ_at {l : List Int} {i k : Nat} {x : Int} (hi : i < l.length) : (setZ l i x)[k]? = if k = i then some x else l[k]? := by
  unfold setZ
  rw [if_pos ⟨by omega, by omega⟩, Int.toNat_natCast, repl_set hi, List.getElem?_set]
  by_cases h : k = i
  · subst h; simp [hi]
  · rw [if_neg h, if_neg (fun hh => h hh.symm)]
theorem setZ_len (l : List Int) (I x : Int) : (setZ l I x).length = l.length := by
  have := setV_len (nums l) I (.int .i64 x)
  rw [← nums_setZ, nums_len, nums_len] at this
  exact this
theorem insZ_len (l : List Int) (I x : Int) : (insZ l I x).length = if 0 ≤ I ∧ I ≤ l.length then l.length + 1 else l.length := by
  have := insV_len (nums l) I (.int .i64 x)
  rw [← nums_insZ, nums_len, nums_len] at this
  exact this
theorem delZ_len (l : List Int) (I : Int) : (delZ l I).length = if 0 ≤ I ∧ I < l.length then l.length - 1 else l.length := by
  have := delV_len (nums l) I
  rw [← nums_delZ, nums_len, nums_len] at this
  exact this
theorem insZ_at {l : List Int} {i k : Nat} {x : Int} (hi : i ≤ l.length) : (insZ l i x)[k]? = if k < i then l[k]? else if k = i then some x else l[k - 1]? := by
  unfold insZ
  rw [if_pos ⟨by omega, by omega⟩, Int.toNat_natCast]
  unfold replL
  by_cases h1 : k < i
  · rw [if_pos h1, List.append_assoc, List.getElem?_append_left (by rw [List.length_take]; omega), List.getElem?_take, if_pos h1]
  · rw [if_neg h1, List.append_assoc, List.getElem?_append_right (by rw [List.length_take]; omega), List.length_take, Nat.min_eq_left hi]
    by_cases h2 : k = i
    · subst h2; simp
    · rw [if_neg h2, List.getElem?_append_right (by simp; omega), List.getElem?_drop]
      congr 1
      simp
      omega
theorem delZ_at {l : List Int} {i k : Nat} (hi : i < l.length) : (delZ l i)[k]? = if k < i then l[k]? else l[k + 1]? := by
  unfold delZ
  rw [if_pos ⟨by omega, by omega⟩, Int.toNat_natCast]
  unfold replL
  rw [List.append_nil]
  by_cases h1 : k < i
  · rw [if_pos h1, List.getElem?_append_left (by rw [List.length_take]; omega), List.getElem?_take, if_pos h1]
  · rw [if_neg h1, List.getElem?_append_right (by rw [List.length_take]; omega), List.length_take, Nat.min_eq_left (by omega), List.getElem?_drop]
    congr 1
    omega
theorem nums_snoc {l : List Int} {k : Nat} {x : Int} (h : l[k]? = some x) : nums (l.take k) ++ [Value.int .i64 x] = nums (l.take (k + 1)) := by
  rw [List.take_add_one, h, ← nums_app]; rfl

set_option maxRecDepth 100000 in
set_option maxHeartbeats 1600000 in
theorem nset (X : Int) {w : World} {a : Option Addr} {c : Nat} (l : List Int) (I : Int) (H : Sl w a c (nums l)) (hn : l.length ≤ 1000000) :
    Calls Try.prog 55 #[.slice a l.length c, .int .i64 I, .int .i64 X] w fun e w' => ∃ a' c', e = .returned (.tuple #[.slice a' (setZ l I X).length c', .bool (decide (0 ≤ I ∧ I < l.length))]) ∧ Sl w' a' c' (nums (setZ l I X)) ∧ (a' = a ∨ ∀ d, a' = some d → TyAt w' d.block) ∧ Below w.heap.size w w' := by
  obtain ⟨i0, hi0, hz0, hz1, hz2⟩ := info_parts info_int
  have HS := Lib.hid H
  by_cases hI : 0 ≤ I ∧ I < l.length
  · obtain ⟨i, rfl⟩ : ∃ i : Nat, I = (i : Int) := ⟨I.toNat, by omega⟩
    rw [decide_eq_true hI]
    have hi : i < l.length := by omega
    have HAt := Lib.hid (fun k => setZ_at (x := X) (k := k) hi)
    have hsl := setZ_len l i X
    have d0 : decide ((i : Int) < 0) = false := decide_eq_false (by omega)
    obtain ⟨n, hnn⟩ : ∃ n, l.length = n := ⟨_, rfl⟩
    have HN := Lib.hid hnn
    rw [hnn] at hn hi hsl ⊢
    have d1 : decide ((n : Int) ≤ (i : Int)) = false := decide_eq_false (by omega)
    have d1n : decide (n ≤ i) = false := decide_eq_false (by omega)
    rw [hsl]
    obtain ⟨z, hz⟩ : ∃ z, setZ l i X = z := ⟨_, rfl⟩
    rw [hz] at HAt hsl ⊢
    have HZL := Lib.hid hsl
    clear H hI hnn hsl hz
    obtain ⟨g, o, rfl⟩ := HS.out.numsome (by rw [HN.out]; omega)
    go_enter Try.func55, Try.ntmps55
    go_wp2_with fail
    go_loopw [8, 22] (fun v8 v22 wr => ∃ k : Nat, v22 = .int .i64 k ∧ k ≤ n ∧ wr.ownsRow w.heap.size 3 1 v8 k (nums (z.take k)) ∧ Below w.heap.size w wr) (fun _ v22 _ => n - (intOf v22).toNat)
    case atStart => exact ⟨0, rfl, by omega, t_nil _ _ _ _, Below.refl _ _⟩
    case round =>
      obtain ⟨k, rfl, hk, hown, hb⟩ := hrel
      have HB := Lib.hid hb
      have HO := Lib.hid hown
      clear hb hown
      by_cases hlt : k < n
      · have dk : decide (k < n) = true := decide_eq_true hlt
        obtain ⟨x, hx⟩ : ∃ x, l[k]? = some x := ⟨_, List.getElem?_eq_getElem (by rw [HN.out]; exact hlt)⟩
        have c0 := ((HS.out.below HB.out).num hx).1
        have e0 : (0 : Int) ≤ (k : Int) := by omega
        have e1 : (k : Int) < (n : Int) := by omega
        have HX := Lib.hid hx
        clear hx
        by_cases hki : k = i
        · subst hki
          have hq : ((k : Int) == (k : Int)) = true := by simp
          have hzk := HAt.out k
          rw [if_pos rfl] at hzk
          have HZ := Lib.hid hzk
          clear hzk
          go_wp2_with (first
            | (at_builtin; refine wpList_append_own _ rfl _ _ 22 rfl w.heap.size 3 i0 (.int .i64 0) 1 8 Try.underlying22 hi0 hz0 hz1 hz2 rfl (by decide) _ _ _ rfl (HO.out.alloc _) ⟨wr.heap.size, 0, none⟩ 1 1 [.int .i64 X] rfl rfl ?c1 ?c2 ?c3 ?c4 ?c5 ?_)
            | fail)
          case c1 =>
            intro j u hj
            match j, hj with
            | 0, hj => simp at hj; subst hj; simp [Addr.add]
          case c2 => intro u hu; simp at hu; subst hu; rfl
          case c3 => unfold maxLen; omega
          case c4 => omega
          case c5 => have := HB.out.size; simp; omega
          intro v' w2 hown' hgrow _
          have HG := Lib.hid hgrow
          have HO2 := Lib.hid hown'
          clear hgrow hown'
          go_wp2_with fail
          go_roundw
          case rel =>
            refine ⟨k + 1, by go_num, by omega, ?_, ?_⟩
            · rw [← nums_snoc HZ.out]; exact HO2.out
            · exact (HB.out.alloc HB.out.size _).grown HG.out (by have := HB.out.size; simp; omega) (fun j hj => (HO.out.lt j hj).1)
          case measure => simp [intOf]; omega
        · have hq : ((k : Int) == (i : Int)) = false := by simp; omega
          have hzk := HAt.out k
          rw [if_neg hki, HX.out] at hzk
          have HZ := Lib.hid hzk
          clear hzk
          go_wp2_with (first
            | (at_builtin; refine wpList_append_own _ rfl _ _ 22 rfl w.heap.size 3 i0 (.int .i64 0) 1 8 Try.underlying22 hi0 hz0 hz1 hz2 rfl (by decide) _ _ _ rfl (HO.out.alloc _) ⟨wr.heap.size, 0, none⟩ 1 1 [.int .i64 x] rfl rfl ?c1 ?c2 ?c3 ?c4 ?c5 ?_)
            | fail)
          case c1 =>
            intro j u hj
            match j, hj with
            | 0, hj => simp at hj; subst hj; simp [Addr.add]
          case c2 => intro u hu; simp at hu; subst hu; rfl
          case c3 => unfold maxLen; omega
          case c4 => omega
          case c5 => have := HB.out.size; simp; omega
          intro v' w2 hown' hgrow _
          have HG := Lib.hid hgrow
          have HO2 := Lib.hid hown'
          clear hgrow hown'
          go_wp2_with fail
          go_roundw
          case rel =>
            refine ⟨k + 1, by go_num, by omega, ?_, ?_⟩
            · rw [← nums_snoc HZ.out]; exact HO2.out
            · exact (HB.out.alloc HB.out.size _).grown HG.out (by have := HB.out.size; simp; omega) (fun j hj => (HO.out.lt j hj).1)
          case measure => simp [intOf]; omega
      · have dk : decide (k < n) = false := decide_eq_false hlt
        have hkn : k = n := by omega
        subst hkn
        have ho := HO.out
        have htk : z.take k = z := List.take_of_length_le (by rw [HZL.out]; omega)
        rw [htk] at ho
        obtain ⟨a', c', rfl⟩ : ∃ a' c', u8 = .slice a' k c' := by
          rcases ho.2 with ⟨h1, h2⟩ | ⟨g, cap, cur, h1, _⟩
          · exact ⟨none, 0, by rw [h1, h2]⟩
          · exact ⟨_, _, h1⟩
        have ho2 : wr.ownsRow w.heap.size 3 1 (.slice a' (nums z).length c') (nums z).length (nums z) := by
          rw [show (nums z).length = k by rw [nums_len, HZL.out]]; exact ho
        have HSl := Lib.hid (Sl.own ho2 (nums_one _))
        have HTy : Hid (∀ d, a' = some d → TyAt wr d.block) := Lib.hid (fun d hd => by subst hd; exact TyAt.own ho2 (by unfold okT; simp))
        clear ho ho2 htk
        go_wp2_with fail
        go_ret2
        exact ⟨a', c', rfl, HSl.out, .inr HTy.out, HB.out⟩
  · rw [decide_eq_false hI]
    have hz : setZ l I X = l := by unfold setZ; rw [if_neg hI]
    rw [hz]
    clear hz
    generalize l.length = n at *
    by_cases h0 : I < 0
    · have d0 : decide (I < 0) = true := decide_eq_true h0
      clear H
      go_enter Try.func55, Try.ntmps55
      go_wp2_with fail
      go_ret2
      exact ⟨a, c, rfl, HS.out, .inl rfl, Below.refl _ _⟩
    · have d0 : decide (I < 0) = false := decide_eq_false h0
      have d1 : decide ((n : Int) ≤ I) = true := decide_eq_true (by omega)
      clear H
      go_enter Try.func55, Try.ntmps55
      go_wp2_with fail
      go_ret2
      exact ⟨a, c, rfl, HS.out, .inl rfl, Below.refl _ _⟩


set_option maxRecDepth 100000 in
set_option maxHeartbeats 1600000 in
theorem ndel {w : World} {a : Option Addr} {c : Nat} (l : List Int) (I : Int) (H : Sl w a c (nums l)) (hn : l.length ≤ 1000000) :
    Calls Try.prog 53 #[.slice a l.length c, .int .i64 I] w fun e w' => ∃ a' c', e = .returned (.tuple #[.slice a' (delZ l I).length c', .bool (decide (0 ≤ I ∧ I < l.length))]) ∧ Sl w' a' c' (nums (delZ l I)) ∧ (a' = a ∨ ∀ d, a' = some d → TyAt w' d.block) ∧ Below w.heap.size w w' := by
  obtain ⟨i0, hi0, hz0, hz1, hz2⟩ := info_parts info_int
  have HS := Lib.hid H
  by_cases hI : 0 ≤ I ∧ I < l.length
  · obtain ⟨i, rfl⟩ : ∃ i : Nat, I = (i : Int) := ⟨I.toNat, by omega⟩
    rw [decide_eq_true hI]
    have hi : i < l.length := by omega
    have HAt := Lib.hid (fun k => delZ_at (k := k) hi)
    have hsl := delZ_len l i
    rw [if_pos hI] at hsl
    have d0 : decide ((i : Int) < 0) = false := decide_eq_false (by omega)
    obtain ⟨n, hnn⟩ : ∃ n, l.length = n := ⟨_, rfl⟩
    have HN := Lib.hid hnn
    rw [hnn] at hn hi hsl ⊢
    have d1 : decide ((n : Int) ≤ (i : Int)) = false := decide_eq_false (by omega)
    have d1n : decide (n ≤ i) = false := decide_eq_false (by omega)
    rw [hsl]
    obtain ⟨z, hz⟩ : ∃ z, delZ l i = z := ⟨_, rfl⟩
    rw [hz] at HAt hsl ⊢
    have HZL := Lib.hid hsl
    obtain ⟨N, hN⟩ : ∃ N, n - 1 = N := ⟨_, rfl⟩
    rw [hN] at HZL ⊢
    clear H hI hnn hsl hz
    obtain ⟨g, o, rfl⟩ := HS.out.numsome (by rw [HN.out]; omega)
    go_enter Try.func53, Try.ntmps53
    go_wp2_with fail
    go_loopw [6, 20] (fun v6 v20 wr => ∃ k m : Nat, v20 = .int .i64 k ∧ k ≤ n ∧ (k ≤ i ∧ m = k ∨ i < k ∧ m + 1 = k) ∧ wr.ownsRow w.heap.size 3 1 v6 m (nums (z.take m)) ∧ Below w.heap.size w wr) (fun _ v20 _ => n - (intOf v20).toNat)
    case atStart => exact ⟨0, 0, rfl, by omega, .inl ⟨by omega, rfl⟩, t_nil _ _ _ _, Below.refl _ _⟩
    case round =>
      obtain ⟨k, m, rfl, hk, hm, hown, hb⟩ := hrel
      have HB := Lib.hid hb
      have HO := Lib.hid hown
      clear hb hown
      by_cases hlt : k < n
      · have dk : decide (k < n) = true := decide_eq_true hlt
        obtain ⟨x, hx⟩ : ∃ x, l[k]? = some x := ⟨_, List.getElem?_eq_getElem (by rw [HN.out]; exact hlt)⟩
        have c0 := ((HS.out.below HB.out).num hx).1
        have e0 : (0 : Int) ≤ (k : Int) := by omega
        have e1 : (k : Int) < (n : Int) := by omega
        have HX := Lib.hid hx
        clear hx
        by_cases hki : k = i
        · subst hki
          have hq : ((k : Int) == (k : Int)) = true := by simp
          have HM := Lib.hid hm
          clear hm
          go_wp2_with fail
          go_roundw
          case rel => exact ⟨k + 1, m, by go_num, by omega, by have := HM.out; omega, HO.out, HB.out⟩
          case measure => simp [intOf]; omega
        · have hq : ((k : Int) == (i : Int)) = false := by simp; omega
          have hzk := HAt.out m
          have hmx : z[m]? = some x := by
            rw [hzk]
            rcases hm with ⟨h1, rfl⟩ | ⟨h1, h2⟩
            · rw [if_pos (by omega)]; exact HX.out
            · rw [if_neg (by omega), h2]; exact HX.out
          have HZ := Lib.hid hmx
          have hm2 : m ≤ 1000000 := by omega
          have HM := Lib.hid hm
          clear hzk hmx hm
          go_wp2_with (first
            | (at_builtin; refine wpList_append_own _ rfl _ _ 22 rfl w.heap.size 3 i0 (.int .i64 0) 1 8 Try.underlying22 hi0 hz0 hz1 hz2 rfl (by decide) _ _ _ rfl (HO.out.alloc _) ⟨wr.heap.size, 0, none⟩ 1 1 [.int .i64 x] rfl rfl ?c1 ?c2 ?c3 ?c4 ?c5 ?_)
            | fail)
          case c1 =>
            intro j u hj
            match j, hj with
            | 0, hj => simp at hj; subst hj; simp [Addr.add]
          case c2 => intro u hu; simp at hu; subst hu; rfl
          case c3 => unfold maxLen; omega
          case c4 => omega
          case c5 => have := HB.out.size; simp; omega
          intro v' w2 hown' hgrow _
          have HG := Lib.hid hgrow
          have HO2 := Lib.hid hown'
          clear hgrow hown'
          go_wp2_with fail
          go_roundw
          case rel =>
            refine ⟨k + 1, m + 1, by go_num, by omega, by have := HM.out; omega, ?_, ?_⟩
            · rw [← nums_snoc HZ.out]; exact HO2.out
            · exact (HB.out.alloc HB.out.size _).grown HG.out (by have := HB.out.size; simp; omega) (fun j hj => (HO.out.lt j hj).1)
          case measure => simp [intOf]; omega
      · have dk : decide (k < n) = false := decide_eq_false hlt
        have hkn : k = n := by omega
        subst hkn
        have ho := HO.out
        have hmN : m = N := by omega
        subst hmN
        have htk : z.take m = z := List.take_of_length_le (by rw [HZL.out]; omega)
        rw [htk] at ho
        obtain ⟨a', c', rfl⟩ : ∃ a' c', u6 = .slice a' m c' := by
          rcases ho.2 with ⟨h1, h2⟩ | ⟨g, cap, cur, h1, _⟩
          · exact ⟨none, 0, by rw [h1, h2]⟩
          · exact ⟨_, _, h1⟩
        have ho2 : wr.ownsRow w.heap.size 3 1 (.slice a' (nums z).length c') (nums z).length (nums z) := by
          rw [show (nums z).length = m by rw [nums_len, HZL.out]]; exact ho
        have HSl := Lib.hid (Sl.own ho2 (nums_one _))
        have HTy : Hid (∀ d, a' = some d → TyAt wr d.block) := Lib.hid (fun d hd => by subst hd; exact TyAt.own ho2 (by unfold okT; simp))
        clear ho ho2 htk hm hN
        go_wp2_with fail
        go_ret2
        exact ⟨a', c', rfl, HSl.out, .inr HTy.out, HB.out⟩
  · rw [decide_eq_false hI]
    have hz : delZ l I = l := by unfold delZ; rw [if_neg hI]
    rw [hz]
    clear hz
    generalize l.length = n at *
    by_cases h0 : I < 0
    · have d0 : decide (I < 0) = true := decide_eq_true h0
      clear H
      go_enter Try.func53, Try.ntmps53
      go_wp2_with fail
      go_ret2
      exact ⟨a, c, rfl, HS.out, .inl rfl, Below.refl _ _⟩
    · have d0 : decide (I < 0) = false := decide_eq_false h0
      have d1 : decide ((n : Int) ≤ I) = true := decide_eq_true (by omega)
      clear H
      go_enter Try.func53, Try.ntmps53
      go_wp2_with fail
      go_ret2
      exact ⟨a, c, rfl, HS.out, .inl rfl, Below.refl _ _⟩


set_option maxRecDepth 100000 in
set_option maxHeartbeats 1600000 in
theorem nins (X : Int) {w : World} {a : Option Addr} {c : Nat} (l : List Int) (I : Int) (H : Sl w a c (nums l)) (hn : l.length ≤ 1000000) :
    Calls Try.prog 51 #[.slice a l.length c, .int .i64 I, .int .i64 X] w fun e w' => ∃ a' c', e = .returned (.tuple #[.slice a' (insZ l I X).length c', .bool (decide (0 ≤ I ∧ I ≤ l.length))]) ∧ Sl w' a' c' (nums (insZ l I X)) ∧ (a' = a ∨ ∀ d, a' = some d → TyAt w' d.block) ∧ Below w.heap.size w w' := by
  obtain ⟨i0, hi0, hz0, hz1, hz2⟩ := info_parts info_int
  have HS := Lib.hid H
  by_cases hI : 0 ≤ I ∧ I ≤ l.length
  · obtain ⟨i, rfl⟩ : ∃ i : Nat, I = (i : Int) := ⟨I.toNat, by omega⟩
    rw [decide_eq_true hI]
    have hi : i ≤ l.length := by omega
    have HAt := Lib.hid (fun k => insZ_at (x := X) (k := k) hi)
    have hsl := insZ_len l i X
    rw [if_pos hI] at hsl
    have d0 : decide ((i : Int) < 0) = false := decide_eq_false (by omega)
    obtain ⟨n, hnn⟩ : ∃ n, l.length = n := ⟨_, rfl⟩
    have HN := Lib.hid hnn
    rw [hnn] at hn hi hsl ⊢
    have d1 : decide ((n : Int) < (i : Int)) = false := decide_eq_false (by omega)
    have d1n : decide (n < i) = false := decide_eq_false (by omega)
    rw [hsl]
    obtain ⟨z, hz⟩ : ∃ z, insZ l i X = z := ⟨_, rfl⟩
    rw [hz] at HAt hsl ⊢
    have HZL := Lib.hid hsl
    clear H hI hnn hsl hz
    go_enter Try.func51, Try.ntmps51
    go_wp2_with fail
    go_loopw [8, 9] (fun v8 v9 wr => ∃ k m : Nat, v9 = .int .i64 k ∧ k ≤ n + 1 ∧ (k ≤ i ∧ m = k ∨ i < k ∧ k ≤ n ∧ m = k + 1 ∨ i < k ∧ k = n + 1 ∧ m = k) ∧ wr.ownsRow w.heap.size 3 1 v8 m (nums (z.take m)) ∧ Below w.heap.size w wr) (fun _ v9 _ => n + 1 - (intOf v9).toNat)
    case atStart => exact ⟨0, 0, rfl, by omega, .inl ⟨by omega, rfl⟩, t_nil _ _ _ _, Below.refl _ _⟩
    case round =>
      obtain ⟨k, m, rfl, hk, hm, hown, hb⟩ := hrel
      have HB := Lib.hid hb
      have HO := Lib.hid hown
      clear hb hown
      have hwk : IntKind.i64.wrap ((k : Int) + 1) = (k : Int) + 1 := by rw [IntKind.wrap_i64]; omega
      by_cases hlt : k ≤ n
      · have dk : decide (k ≤ n) = true := decide_eq_true hlt
        have dki : decide ((k : Int) ≤ (n : Int)) = true := decide_eq_true (by omega)
        by_cases hki : k = i
        · subst hki
          have hq : ((k : Int) == (k : Int)) = true := by simp
          have hmk : m = k := by omega
          subst hmk
          have hzk := HAt.out m
          rw [if_neg (by omega), if_pos rfl] at hzk
          have HZ := Lib.hid hzk
          have hm2 : m ≤ 1000000 := by omega
          clear hzk hm
          go_wp2_with (first
            | (at_builtin; refine wpList_append_own _ rfl _ _ 22 rfl w.heap.size 3 i0 (.int .i64 0) 1 8 Try.underlying22 hi0 hz0 hz1 hz2 rfl (by decide) _ _ _ rfl (HO.out.alloc _) ⟨wr.heap.size, 0, none⟩ 1 1 [.int .i64 X] rfl rfl ?c1 ?c2 ?c3 ?c4 ?c5 ?_)
            | fail)
          case c1 =>
            intro j u hj
            match j, hj with
            | 0, hj => simp at hj; subst hj; simp [Addr.add]
          case c2 => intro u hu; simp at hu; subst hu; rfl
          case c3 => unfold maxLen; omega
          case c4 => omega
          case c5 => have := HB.out.size; simp; omega
          intro v' w2 hown' hgrow _
          have HG := Lib.hid hgrow
          have HO2 : Hid (w2.ownsRow w.heap.size 3 1 v' (m + 1) (nums (z.take (m + 1)))) := by rw [← nums_snoc HZ.out]; exact Lib.hid hown'
          have HB2 : Hid (Below w.heap.size w w2) := Lib.hid ((HB.out.alloc HB.out.size _).grown HG.out (by have := HB.out.size; simp; omega) (fun j hj => (HO.out.lt j hj).1))
          clear hgrow hown'
          by_cases hln : m < n
          · have dl : decide (m < n) = true := decide_eq_true hln
            have dli : decide ((m : Int) < (n : Int)) = true := decide_eq_true (by omega)
            obtain ⟨g, o, rfl⟩ := HS.out.numsome (by rw [HN.out]; omega)
            obtain ⟨x, hx⟩ : ∃ x, l[m]? = some x := ⟨_, List.getElem?_eq_getElem (by rw [HN.out]; exact hln)⟩
            have c0 := ((HS.out.below HB2.out).num hx).1
            have e0 : (0 : Int) ≤ (m : Int) := by omega
            have e1 : (m : Int) < (n : Int) := by omega
            have hzk := HAt.out (m + 1)
            rw [if_neg (by omega), if_neg (by omega), Nat.add_sub_cancel, hx] at hzk
            have HZ2 := Lib.hid hzk
            have hm3 : m + 1 ≤ 1000001 := by omega
            clear hzk hx
            go_wp2_with (first
              | (at_builtin; refine wpList_append_own _ rfl _ _ 22 rfl w.heap.size 3 i0 (.int .i64 0) 1 8 Try.underlying22 hi0 hz0 hz1 hz2 rfl (by decide) _ _ _ rfl (HO2.out.alloc _) ⟨w2.heap.size, 0, none⟩ 1 1 [.int .i64 x] rfl rfl ?c1 ?c2 ?c3 ?c4 ?c5 ?_)
              | fail)
            case c1 =>
              intro j u hj
              match j, hj with
              | 0, hj => simp at hj; subst hj; simp [Addr.add]
            case c2 => intro u hu; simp at hu; subst hu; rfl
            case c3 => unfold maxLen; omega
            case c4 => omega
            case c5 => have := HB2.out.size; simp; omega
            intro v'' w3 hown' hgrow _
            have HG2 := Lib.hid hgrow
            have HO3 := Lib.hid hown'
            clear hgrow hown'
            go_wp2_with fail
            go_roundw
            case rel =>
              refine ⟨m + 1, m + 2, by go_num, by omega, .inr (.inl ⟨by omega, by omega, rfl⟩), ?_, ?_⟩
              · rw [← nums_snoc HZ2.out]; exact HO3.out
              · exact (HB2.out.alloc HB2.out.size _).grown HG2.out (by have := HB2.out.size; simp; omega) (fun j hj => (HO2.out.lt j hj).1)
            case measure => simp [intOf]; omega
          · have dl : decide (m < n) = false := decide_eq_false hln
            have dli : decide ((m : Int) < (n : Int)) = false := decide_eq_false (by omega)
            go_wp2_with fail
            go_roundw
            case rel => exact ⟨m + 1, m + 1, by go_num, by omega, .inr (.inr ⟨by omega, by omega, rfl⟩), HO2.out, HB2.out⟩
            case measure => simp [intOf]; omega
        · have hq : ((k : Int) == (i : Int)) = false := by simp; omega
          by_cases hln : k < n
          · have dl : decide (k < n) = true := decide_eq_true hln
            have dli : decide ((k : Int) < (n : Int)) = true := decide_eq_true (by omega)
            obtain ⟨g, o, rfl⟩ := HS.out.numsome (by rw [HN.out]; omega)
            obtain ⟨x, hx⟩ : ∃ x, l[k]? = some x := ⟨_, List.getElem?_eq_getElem (by rw [HN.out]; exact hln)⟩
            have c0 := ((HS.out.below HB.out).num hx).1
            have e0 : (0 : Int) ≤ (k : Int) := by omega
            have e1 : (k : Int) < (n : Int) := by omega
            have hzk := HAt.out m
            have hmx : z[m]? = some x := by
              rw [hzk]
              rcases hm with ⟨h1, rfl⟩ | ⟨h1, h2, rfl⟩ | ⟨h1, h2, _⟩
              · rw [if_pos (by omega)]; exact hx
              · rw [if_neg (by omega), if_neg (by omega), Nat.add_sub_cancel]; exact hx
              · omega
            have HZ := Lib.hid hmx
            have hm2 : m ≤ 1000001 := by omega
            have HM := Lib.hid hm
            clear hzk hmx hm hx
            go_wp2_with (first
              | (at_builtin; refine wpList_append_own _ rfl _ _ 22 rfl w.heap.size 3 i0 (.int .i64 0) 1 8 Try.underlying22 hi0 hz0 hz1 hz2 rfl (by decide) _ _ _ rfl (HO.out.alloc _) ⟨wr.heap.size, 0, none⟩ 1 1 [.int .i64 x] rfl rfl ?c1 ?c2 ?c3 ?c4 ?c5 ?_)
              | fail)
            case c1 =>
              intro j u hj
              match j, hj with
              | 0, hj => simp at hj; subst hj; simp [Addr.add]
            case c2 => intro u hu; simp at hu; subst hu; rfl
            case c3 => unfold maxLen; omega
            case c4 => omega
            case c5 => have := HB.out.size; simp; omega
            intro v' w2 hown' hgrow _
            have HG := Lib.hid hgrow
            have HO2 := Lib.hid hown'
            clear hgrow hown'
            go_wp2_with fail
            go_roundw
            case rel =>
              refine ⟨k + 1, m + 1, by go_num, by omega, by have := HM.out; omega, ?_, ?_⟩
              · rw [← nums_snoc HZ.out]; exact HO2.out
              · exact (HB.out.alloc HB.out.size _).grown HG.out (by have := HB.out.size; simp; omega) (fun j hj => (HO.out.lt j hj).1)
            case measure => simp [intOf]; omega
          · have dl : decide (k < n) = false := decide_eq_false hln
            have dli : decide ((k : Int) < (n : Int)) = false := decide_eq_false (by omega)
            have HM := Lib.hid hm
            clear hm
            go_wp2_with fail
            go_roundw
            case rel => exact ⟨k + 1, m, by go_num, by omega, by have := HM.out; omega, HO.out, HB.out⟩
            case measure => simp [intOf]; omega
      · have dk : decide (k ≤ n) = false := decide_eq_false hlt
        have dki : decide ((k : Int) ≤ (n : Int)) = false := decide_eq_false (by omega)
        have hkn : k = n + 1 := by omega
        have hmN : m = n + 1 := by omega
        subst hmN
        have ho := HO.out
        have htk : z.take (n + 1) = z := List.take_of_length_le (by rw [HZL.out]; omega)
        rw [htk] at ho
        obtain ⟨a', c', rfl⟩ : ∃ a' c', u8 = .slice a' (n + 1) c' := by
          rcases ho.2 with ⟨h1, h2⟩ | ⟨g, cap, cur, h1, _⟩
          · exact ⟨none, 0, by rw [h1, h2]⟩
          · exact ⟨_, _, h1⟩
        have ho2 : wr.ownsRow w.heap.size 3 1 (.slice a' (nums z).length c') (nums z).length (nums z) := by
          rw [show (nums z).length = n + 1 by rw [nums_len, HZL.out]]; exact ho
        have HSl := Lib.hid (Sl.own ho2 (nums_one _))
        have HTy : Hid (∀ d, a' = some d → TyAt wr d.block) := Lib.hid (fun d hd => by subst hd; exact TyAt.own ho2 (by unfold okT; simp))
        clear ho ho2 htk hm hkn
        go_wp2_with fail
        go_ret2
        exact ⟨a', c', rfl, HSl.out, .inr HTy.out, HB.out⟩
  · rw [decide_eq_false hI]
    have hz : insZ l I X = l := by unfold insZ; rw [if_neg hI]
    rw [hz]
    clear hz
    generalize l.length = n at *
    by_cases h0 : I < 0
    · have d0 : decide (I < 0) = true := decide_eq_true h0
      clear H
      go_enter Try.func51, Try.ntmps51
      go_wp2_with fail
      go_ret2
      exact ⟨a, c, rfl, HS.out, .inl rfl, Below.refl _ _⟩
    · have d0 : decide (I < 0) = false := decide_eq_false h0
      have d1 : decide ((n : Int) < I) = true := decide_eq_true (by omega)
      clear H
      go_enter Try.func51, Try.ntmps51
      go_wp2_with fail
      go_ret2
      exact ⟨a, c, rfl, HS.out, .inl rfl, Below.refl _ _⟩


theorem nheld {w : World} {a : Option Addr} {c n : Nat} (I : Int) :
    Calls Try.prog 19 #[.slice a n c, .int .i64 I] w fun e w' => e = .returned (.int .i64 (heldN I n)) ∧ w = w' := by
  by_cases h0 : I < 0
  · have hh : heldN I n = 0 := by unfold heldN; rw [if_pos (by omega)]
    rw [hh]
    have d0 : decide (I < 0) = true := decide_eq_true h0
    go_enter Try.func19, Try.ntmps19
    go_wp2_with fail
    go_ret
    exact ⟨rfl, rfl⟩
  · have d0 : decide (I < 0) = false := decide_eq_false h0
    by_cases h1 : (n : Int) < I
    · have hh : heldN I n = n := by unfold heldN; rw [if_neg (by omega), if_pos (by omega)]
      rw [hh]
      have d1 : decide ((n : Int) < I) = true := decide_eq_true h1
      clear hh
      go_enter Try.func19, Try.ntmps19
      go_wp2_with fail
      go_ret
      exact ⟨rfl, rfl⟩
    · have d1 : decide ((n : Int) < I) = false := decide_eq_false h1
      have hh : ((heldN I n : Nat) : Int) = I := by unfold heldN; split <;> (try split) <;> omega
      rw [hh]
      clear hh
      go_enter Try.func19, Try.ntmps19
      go_wp2_with fail
      go_ret
      exact ⟨rfl, rfl⟩

end Go.Proofs.Ytofncnommekbjaa
