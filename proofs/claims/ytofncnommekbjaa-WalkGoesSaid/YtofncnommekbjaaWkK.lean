/-
  The reference's Stretch and Slice.
-/
import Derived.Test.YtofncnommekbjaaTrZ
import Derived.Test.YtofncnommekbjaaTrV
namespace Go.Proofs.Ytofncnommekbjaa
open Go Go.RowKit
set_option linter.unusedVariables false

theorem nstretch {w : World} {a : Option Addr} {c n : Nat} (I K : Int) :
    Calls Try.prog 28 #[.slice a n c, .int .i64 I, .int .i64 K] w fun e w' => e = .returned (.tuple #[.int .i64 (heldN I n), .int .i64 ((max (heldN I n) (heldN K n) : Nat) : Int)]) ∧ w = w' := by
  have H1 := Lib.hid (nheld (w := w) (a := a) (c := c) (n := n) I)
  have H2 := Lib.hid (nheld (w := w) (a := a) (c := c) (n := n) K)
  generalize heldN I n = p at *
  generalize heldN K n = q at *
  by_cases h : q < p
  · rw [show max p q = p by omega]
    have d : decide (q < p) = true := decide_eq_true h
    have d' : decide ((q : Int) < (p : Int)) = true := decide_eq_true (by omega)
    clear h
    go_enter Try.func28, Try.ntmps28
    go_wp2_with fail
    refine H1.out.mono ?_; clear H1; rintro e w1 ⟨rfl, rfl⟩
    go_wp2_with fail
    refine H2.out.mono ?_; clear H2; rintro e w1 ⟨rfl, rfl⟩
    go_wp2_with fail
    go_ret2
    exact ⟨rfl, rfl⟩
  · rw [show max p q = q by omega]
    have d : decide (q < p) = false := decide_eq_false h
    have d' : decide ((q : Int) < (p : Int)) = false := decide_eq_false (by omega)
    clear h
    go_enter Try.func28, Try.ntmps28
    go_wp2_with fail
    refine H1.out.mono ?_; clear H1; rintro e w1 ⟨rfl, rfl⟩
    go_wp2_with fail
    refine H2.out.mono ?_; clear H2; rintro e w1 ⟨rfl, rfl⟩
    go_wp2_with fail
    go_ret2
    exact ⟨rfl, rfl⟩

theorem heldN_le (I : Int) (n : Nat) : heldN I n ≤ n := by
  unfold heldN
  split
  · omega
  · split
    · omega
    · omega
/-- The numbers from I to K. -/
def slZ (l : List Int) (I K : Int) : List Int := (l.drop (heldN I l.length)).take (max (heldN I l.length) (heldN K l.length) - heldN I l.length)

set_option maxRecDepth 100000 in
set_option maxHeartbeats 1600000 in
theorem nslice {w : World} {a : Option Addr} {c : Nat} (l : List Int) (I K : Int) (H : Sl w a c (nums l)) (hn : l.length ≤ 1000000) :
    Calls Try.prog 27 #[.slice a l.length c, .int .i64 I, .int .i64 K] w fun e w' => ∃ a' c', e = .returned (.slice a' (slZ l I K).length c') ∧ Sl w' a' c' (nums (slZ l I K)) ∧ (∀ d, a' = some d → TyAt w' d.block) ∧ w'.ownsRow w.heap.size 3 1 (.slice a' (slZ l I K).length c') (slZ l I K).length (nums (slZ l I K)) ∧ Below w.heap.size w w' := by
  obtain ⟨i0, hi0, hz0, hz1, hz2⟩ := info_parts info_int
  unfold slZ
  have HS := Lib.hid H
  have HT := Lib.hid (nstretch (w := w) (a := a) (c := c) (n := l.length) I K)
  have hp := heldN_le I l.length
  have hr : max (heldN I l.length) (heldN K l.length) ≤ l.length := by have := heldN_le K l.length; omega
  have hpr : heldN I l.length ≤ max (heldN I l.length) (heldN K l.length) := by omega
  generalize max (heldN I l.length) (heldN K l.length) = r at *
  generalize heldN I l.length = p at *
  have hzl : ((l.drop p).take (r - p)).length = r - p := by rw [List.length_take, List.length_drop]; omega
  obtain ⟨n, hnn⟩ : ∃ n, l.length = n := ⟨_, rfl⟩
  have HN := Lib.hid hnn
  rw [hnn] at hn hp hr HT ⊢
  rw [hzl]
  have HZL := Lib.hid hzl
  clear H hnn hzl
  go_enter Try.func27, Try.ntmps27
  go_wp2_with fail
  refine HT.out.mono ?_; clear HT; rintro e w1 ⟨rfl, rfl⟩
  go_wp2_with fail
  go_loopw [7, 8] (fun v7 v8 wr => ∃ k m : Nat, v8 = .int .i64 k ∧ k = p + m ∧ k ≤ r ∧ wr.ownsRow w.heap.size 3 1 v7 m (nums ((l.drop p).take m)) ∧ Below w.heap.size w wr) (fun _ v8 _ => r - (intOf v8).toNat)
  case atStart => exact ⟨p, 0, rfl, by omega, hpr, t_nil _ _ _ _, Below.refl _ _⟩
  case round =>
    obtain ⟨k, m, rfl, hkm, hk, hown, hb⟩ := hrel
    have HB := Lib.hid hb
    have HO := Lib.hid hown
    have HK := Lib.hid hkm
    clear hb hown hkm
    by_cases hlt : k < r
    · have dk : decide (k < r) = true := decide_eq_true hlt
      have dk' : decide ((k : Int) < (r : Int)) = true := decide_eq_true (by omega)
      obtain ⟨x, hx⟩ : ∃ x, l[k]? = some x := ⟨_, List.getElem?_eq_getElem (by rw [HN.out]; omega)⟩
      obtain ⟨g, o, rfl⟩ := HS.out.numsome (by rw [HN.out]; omega)
      have c0 := ((HS.out.below HB.out).num hx).1
      have e0 : (0 : Int) ≤ (k : Int) := by omega
      have e1 : (k : Int) < (n : Int) := by omega
      have HZ := Lib.hid (show (l.drop p)[m]? = some x by rw [List.getElem?_drop, ← HK.out]; exact hx)
      clear hx
      go_wp2_with (first
        | (at_builtin; refine wpList_append_own _ rfl _ _ 22 rfl w.heap.size 3 i0 (.int .i64 0) 1 8 Try.underlying22 hi0 hz0 hz1 hz2 rfl (by decide) _ _ _ rfl (HO.out.alloc _) ⟨wr.heap.size, 0, none⟩ 1 1 [.int .i64 x] rfl rfl ?c1 ?c2 ?c3 ?c4 ?c5 ?_)
        | fail)
      case c1 =>
        intro j u hj
        match j, hj with
        | 0, hj => simp at hj; subst hj; simp [Addr.add]
      case c2 => intro u hu; simp at hu; subst hu; rfl
      case c3 => have := HK.out; unfold maxLen; omega
      case c4 => have := HK.out; omega
      case c5 => have := HB.out.size; simp; omega
      intro v' w2 hown' hgrow _
      have HG := Lib.hid hgrow
      have HO2 := Lib.hid hown'
      clear hgrow hown'
      go_wp2_with fail
      go_roundw
      case rel =>
        refine ⟨k + 1, m + 1, by go_num, by have := HK.out; omega, by omega, ?_, ?_⟩
        · rw [← nums_snoc HZ.out]; exact HO2.out
        · exact (HB.out.alloc HB.out.size _).grown HG.out (by have := HB.out.size; simp; omega) (fun j hj => (HO.out.lt j hj).1)
      case measure => simp [intOf]; omega
    · have dk : decide (k < r) = false := decide_eq_false hlt
      have dk' : decide ((k : Int) < (r : Int)) = false := decide_eq_false (by omega)
      have hkn : k = r := by omega
      have ho := HO.out
      have hm : m = r - p := by have := HK.out; omega
      subst hm
      obtain ⟨a', c', rfl⟩ : ∃ a' c', u7 = .slice a' (r - p) c' := by
        rcases ho.2 with ⟨h1, h2⟩ | ⟨g, cap, cur, h1, _⟩
        · exact ⟨none, 0, by rw [h1, h2]⟩
        · exact ⟨_, _, h1⟩
      have ho2 : wr.ownsRow w.heap.size 3 1 (.slice a' (nums ((l.drop p).take (r - p))).length c') (nums ((l.drop p).take (r - p))).length (nums ((l.drop p).take (r - p))) := by
        rw [show (nums ((l.drop p).take (r - p))).length = r - p by rw [nums_len, HZL.out]]; exact ho
      have HSl := Lib.hid (Sl.own ho2 (nums_one _))
      have HTy : Hid (∀ d, a' = some d → TyAt wr d.block) := Lib.hid (fun d hd => by subst hd; exact TyAt.own ho2 (by unfold okT; simp))
      have HOW := Lib.hid ho
      clear ho ho2 hkn
      go_wp2_with fail
      go_ret
      exact ⟨a', c', rfl, HSl.out, HTy.out, HOW.out, HB.out⟩

end Go.Proofs.Ytofncnommekbjaa
