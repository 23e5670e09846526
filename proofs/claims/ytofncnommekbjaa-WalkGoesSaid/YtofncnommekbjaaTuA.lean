/-
  The contract of the law's All, at this seat's numbers.
-/
import Derived.Test.YtofncnommekbjaaTrZ
namespace Go.Proofs.Ytofncnommekbjaa
open Go Go.RowKit
set_option linter.unusedVariables false

theorem atV_nums {l : List Int} {k : Nat} {x : Int} (h : l[k]? = some x) (z : Value) : atV (nums l) (k : Int) z = .int .i64 x := by
  have hk := (List.getElem?_eq_some_iff.1 h).1
  unfold atV
  rw [if_pos ⟨by omega, by rw [nums_len]; omega⟩, Int.toNat_natCast, List.getD_eq_getElem?_getD, nums_at h]; rfl
set_option maxRecDepth 100000 in
set_option maxHeartbeats 1600000 in
/-- A tree's numbers, one by one. -/
theorem nall {w : World} {x : Option Addr} {l : List Int} (H : Tin w 95 (.pointer x) (nums l)) (hn : l.length ≤ 1000) :
    Calls Try.prog 16 #[.agg #[.pointer x]] w fun e w' => ∃ a c, e = .returned (.slice a l.length c) ∧ Sl w' a c (nums l) ∧ Below w.heap.size w w' := by
  obtain ⟨i0, hi0, hz0, hz1, hz2⟩ := info_parts info_int
  have hh := heap_alloc_new w (Obj.cells #[Value.pointer x] 27)
  have al := t_al w (Obj.cells #[Value.pointer x] 27)
  have hz1' : (w.alloc (Obj.cells #[Value.pointer x] 27)).heap.size = w.heap.size + 1 := by simp
  obtain ⟨w1, hw1⟩ : ∃ w1, w.alloc (Obj.cells #[Value.pointer x] 27) = w1 := ⟨_, rfl⟩
  rw [hw1] at hh al hz1'
  have c0 : w1.cell? ⟨w.heap.size, 0, none⟩ = some (.pointer x) := by rw [cell_at hh]; rfl
  have AL := Lib.hid al
  have HT := Lib.hid (H.below al)
  have HC := Lib.hid c0
  have hlt1 : w.heap.size < w1.heap.size := by omega
  obtain ⟨n, hnn⟩ : ∃ n, l.length = n := ⟨_, rfl⟩
  have HN := Lib.hid hnn
  rw [hnn] at hn ⊢
  have HNL : Hid ((nums l).length = n) := Lib.hid (by rw [nums_len]; exact hnn)
  clear H hh al hnn c0 hz1'
  go_enter Try.func16, Try.ntmps16
  go_wp2_with fail
  go_loopw [3, 4] (fun v3 v4 wr => ∃ k : Nat, v4 = .int .i64 k ∧ k ≤ n ∧ wr.ownsRow w1.heap.size 3 1 v3 k (nums (l.take k)) ∧ Below w1.heap.size w1 wr) (fun _ v4 _ => n - (intOf v4).toNat)
  case atStart => exact ⟨0, rfl, by omega, t_nil _ _ _ _, Below.refl _ _⟩
  case round =>
    obtain ⟨k, rfl, hk, hown, hb⟩ := hrel
    have c1 := (hb.cell (p := ⟨w.heap.size, 0, none⟩) hlt1).trans HC.out
    have HLn := Lib.hid (len_i (HT.out.below hb))
    rw [HNL.out] at HLn
    have HB := Lib.hid hb
    have HO := Lib.hid hown
    have hltr := Nat.lt_of_lt_of_le hlt1 hb.size
    clear hb hown
    by_cases hlt : k < n
    · have dk : decide (k < n) = true := decide_eq_true hlt
      have d2 : decide (k < 2000) = true := decide_eq_true (by omega)
      have d2i : decide ((k : Int) < 2000) = true := decide_eq_true (by omega)
      obtain ⟨y, hy⟩ : ∃ y, l[k]? = some y := ⟨_, List.getElem?_eq_getElem (by rw [HN.out]; exact hlt)⟩
      have HY := Lib.hid hy
      clear hy
      go_wp2_with fail
      refine HLn.out.mono ?_; rintro e w2 ⟨rfl, hb2⟩
      have c2 := (hb2.cell (p := ⟨w.heap.size, 0, none⟩) hltr).trans c1
      have HB2 := Lib.hid (HB.out.trans (hb2.mono HB.out.size))
      have HO2 := Lib.hid (own_below HO.out hb2)
      have HA := Lib.hid (tat_i (k : Int) (HT.out.below HB2.out) (by rw [HNL.out]; omega))
      rw [atV_nums HY.out, HNL.out, show decide (0 ≤ (k : Int) ∧ (k : Int) < (n : Int)) = true from decide_eq_true ⟨by omega, by omega⟩] at HA
      clear hb2 HLn c1
      go_wp2_with fail
      refine HA.out.mono ?_; rintro e w3 ⟨rfl, hb3⟩
      have HB3 := Lib.hid (HB2.out.trans (hb3.mono HB2.out.size))
      have HO3 := Lib.hid (own_below HO2.out hb3)
      clear hb3 HA c2
      go_wp2_with (first
        | (at_builtin; refine wpList_append_own _ rfl _ _ 22 rfl w1.heap.size 3 i0 (.int .i64 0) 1 8 Try.underlying22 hi0 hz0 hz1 hz2 rfl (by decide) _ _ _ rfl (HO3.out.alloc _) ⟨w3.heap.size, 0, none⟩ 1 1 [.int .i64 y] rfl rfl ?c1 ?c2 ?c3 ?c4 ?c5 ?_)
        | fail)
      case c1 =>
        intro j u hj
        match j, hj with
        | 0, hj => simp at hj; subst hj; simp [Addr.add]
      case c2 => intro u hu; simp at hu; subst hu; rfl
      case c3 => unfold maxLen; omega
      case c4 => omega
      case c5 => have := HB3.out.size; simp; omega
      intro v' w4 hown' hgrow _
      have HG := Lib.hid hgrow
      have HO4 := Lib.hid hown'
      clear hgrow hown'
      go_wp2_with fail
      go_roundw
      case rel =>
        refine ⟨k + 1, by go_num, by omega, ?_, ?_⟩
        · rw [← nums_snoc HY.out]; exact HO4.out
        · exact (HB3.out.alloc HB3.out.size _).grown HG.out (by have := HB3.out.size; simp; omega) (fun j hj => (HO3.out.lt j hj).1)
      case measure => simp [intOf]; omega
    · have dk : decide (k < n) = false := decide_eq_false hlt
      have hkn : k = n := by omega
      subst hkn
      go_wp2_with fail
      refine HLn.out.mono ?_; rintro e w2 ⟨rfl, hb2⟩
      have HB2 := Lib.hid (HB.out.trans (hb2.mono HB.out.size))
      have ho := own_below HO.out hb2
      have htk : l.take k = l := List.take_of_length_le (by rw [HN.out]; omega)
      rw [htk] at ho
      obtain ⟨a', c', rfl⟩ : ∃ a' c', u3 = .slice a' k c' := by
        rcases ho.2 with ⟨h1, h2⟩ | ⟨g, cap, cur, h1, _⟩
        · exact ⟨none, 0, by rw [h1, h2]⟩
        · exact ⟨_, _, h1⟩
      have ho2 : w2.ownsRow w1.heap.size 3 1 (.slice a' (nums l).length c') (nums l).length (nums l) := by
        rw [HNL.out]; exact ho
      have HSl := Lib.hid (Sl.own ho2 (nums_one _))
      have hq : ((k : Int) < (k : Int)) = False := by simp
      clear ho ho2 htk hb2 HLn c1
      go_wp2_with fail
      go_ret
      exact ⟨a', c', rfl, HSl.out, AL.out.trans (HB2.out.mono AL.out.size)⟩

end Go.Proofs.Ytofncnommekbjaa
