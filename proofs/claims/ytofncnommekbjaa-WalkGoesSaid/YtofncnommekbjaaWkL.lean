/-
  The reference's Splice.
-/
import Derived.Test.YtofncnommekbjaaWkK
namespace Go.Proofs.Ytofncnommekbjaa
open Go Go.RowKit
set_option linter.unusedVariables false

/-- The numbers with others in the place of those from I to K. -/
def spZ (l : List Int) (I K : Int) (o : List Int) : List Int := l.take (heldN I l.length) ++ o ++ l.drop (max (heldN I l.length) (heldN K l.length))
theorem slZ_zero (l : List Int) {p : Nat} (h : p ≤ l.length) : slZ l 0 p = l.take p := by
  have h0 : heldN 0 l.length = 0 := by unfold heldN; rw [if_pos (by omega)]
  have h1 : heldN (p : Int) l.length = p := by
    unfold heldN
    split
    · omega
    · split
      · omega
      · omega
  unfold slZ
  rw [h0, h1]
  simp
theorem nums_snoc' {A o : List Int} {k : Nat} {x : Int} (h : o[k]? = some x) : nums (A ++ o.take k) ++ [Value.int .i64 x] = nums (A ++ o.take (k + 1)) := by
  rw [← nums_app, ← nums_app, List.append_assoc, nums_snoc h]

set_option maxRecDepth 100000 in
set_option maxHeartbeats 4000000 in
theorem nsplice {w : World} {a b : Option Addr} {c d : Nat} (l o : List Int) (I K : Int) (H : Sl w a c (nums l)) (H' : Sl w b d (nums o)) (hn : l.length + o.length + l.length ≤ 1000000) :
    Calls Try.prog 35 #[.slice a l.length c, .int .i64 I, .int .i64 K, .slice b o.length d] w fun e w' => ∃ a' c', e = .returned (.slice a' (spZ l I K o).length c') ∧ Sl w' a' c' (nums (spZ l I K o)) ∧ (∀ d, a' = some d → TyAt w' d.block) ∧ Below w.heap.size w w' := by
  obtain ⟨i0, hi0, hz0, hz1, hz2⟩ := info_parts info_int
  unfold spZ
  have HS := Lib.hid H
  have HS' := Lib.hid H'
  have HT := Lib.hid (nstretch (w := w) (a := a) (c := c) (n := l.length) I K)
  have hp := heldN_le I l.length
  have hr : max (heldN I l.length) (heldN K l.length) ≤ l.length := by have := heldN_le K l.length; omega
  generalize max (heldN I l.length) (heldN K l.length) = r at *
  generalize heldN I l.length = p at *
  have HC := Lib.hid (nslice l 0 p H (by omega))
  rw [slZ_zero l hp] at HC
  have hAl : (l.take p).length ≤ l.length := by rw [List.length_take]; omega
  obtain ⟨A, hA⟩ : ∃ A, l.take p = A := ⟨_, rfl⟩
  rw [hA] at HC hAl ⊢
  obtain ⟨sA, hsA⟩ : ∃ sA, A.length = sA := ⟨_, rfl⟩
  have HSA := Lib.hid hsA
  obtain ⟨n, hnn⟩ : ∃ n, l.length = n := ⟨_, rfl⟩
  have HN := Lib.hid hnn
  obtain ⟨no, hno⟩ : ∃ no, o.length = no := ⟨_, rfl⟩
  have HNO := Lib.hid hno
  obtain ⟨tot, htot⟩ : ∃ tot, (A ++ o ++ l.drop r).length = tot := ⟨_, rfl⟩
  have htl : tot = sA + no + (n - r) := by rw [← htot, List.length_append, List.length_append, List.length_drop, hsA, hno, hnn]
  rw [htot]
  have HTO := Lib.hid (And.intro htot htl)
  rw [hsA] at hAl HC
  rw [hnn] at hn hr HT HC hAl ⊢
  rw [hno] at hn ⊢
  clear H H' hnn hno hA hsA hp htot htl
  go_enter Try.func35, Try.ntmps35
  go_wp2_with fail
  refine HT.out.mono ?_; clear HT; rintro e w1 ⟨rfl, rfl⟩
  go_wp2_with fail
  refine HC.out.mono ?_; clear HC; rintro e w1 ⟨a1, c1, rfl, _, _, ho1, hb1⟩
  have HO1 := Lib.hid ho1
  have HB1 := Lib.hid hb1
  clear ho1 hb1
  go_wp2_with fail
  go_loopw [9, 25] (fun v9 v25 wr => ∃ k m : Nat, v25 = .int .i64 k ∧ m = sA + k ∧ k ≤ no ∧ wr.ownsRow w.heap.size 3 1 v9 m (nums (A ++ o.take k)) ∧ Below w.heap.size w wr) (fun _ v25 _ => no - (intOf v25).toNat)
  case atStart => exact ⟨0, sA, rfl, rfl, Nat.zero_le _, by rw [List.take_zero, List.append_nil]; exact HO1.out, HB1.out⟩
  case round =>
    obtain ⟨k, m, rfl, hkm, hk, hown, hb⟩ := hrel
    have HB := Lib.hid hb
    have HO := Lib.hid hown
    have HK := Lib.hid hkm
    clear hb hown hkm
    by_cases hlt : k < no
    · have dk : decide (k < no) = true := decide_eq_true hlt
      have dk' : decide ((k : Int) < (no : Int)) = true := decide_eq_true (by omega)
      obtain ⟨x, hx⟩ : ∃ x, o[k]? = some x := ⟨_, List.getElem?_eq_getElem (by rw [HNO.out]; omega)⟩
      obtain ⟨g, q, rfl⟩ := HS'.out.numsome (by rw [HNO.out]; omega)
      have c0 := ((HS'.out.below HB.out).num hx).1
      have e0 : (0 : Int) ≤ (k : Int) := by omega
      have e1 : (k : Int) < (no : Int) := by omega
      have HZ := Lib.hid hx
      clear hx
      go_wp2_with (first
        | (at_builtin; refine wpList_append_own _ rfl _ _ 22 rfl w.heap.size 3 i0 (.int .i64 0) 1 8 Try.underlying22 hi0 hz0 hz1 hz2 rfl (by decide) _ _ _ rfl (HO.out.alloc _) ⟨wr.heap.size, 0, none⟩ 1 1 [.int .i64 x] rfl rfl ?c1 ?c2 ?c3 ?c4 ?c5 ?_)
        | fail)
      case c1 =>
        intro j u hj
        match j, hj with
        | 0, hj => simp at hj; subst hj; simp [Addr.add]
      case c2 => intro u hu; simp at hu; subst hu; rfl
      case c3 => have := HK.out; unfold maxLen; omega
      case c4 => have := HK.out; omega
      case c5 => have := HB.out.size; simp; omega
      intro v' w2 hown' hgrow _
      have HG := Lib.hid hgrow
      have HO2 := Lib.hid hown'
      clear hgrow hown'
      go_wp2_with fail
      go_roundw
      case rel =>
        refine ⟨k + 1, m + 1, by go_num, by have := HK.out; omega, by omega, ?_, ?_⟩
        · rw [← nums_snoc' HZ.out]; exact HO2.out
        · exact (HB.out.alloc HB.out.size _).grown HG.out (by have := HB.out.size; simp; omega) (fun j hj => (HO.out.lt j hj).1)
      case measure => simp [intOf]; omega
    · have dk : decide (k < no) = false := decide_eq_false hlt
      have dk' : decide ((k : Int) < (no : Int)) = false := decide_eq_false (by omega)
      have hkn : k = no := by omega
      have hto : o.take k = o := List.take_of_length_le (by rw [HNO.out]; omega)
      have HO9 := Lib.hid (show wr.ownsRow w.heap.size 3 1 u9 m (nums (A ++ o)) by have := HO.out; rw [hto] at this; exact this)
      have HB9 := HB
      have HM := Lib.hid (show m = sA + no by have := HK.out; omega)
      clear hkn hto HO HB HK
      go_wp2_with fail
      go_loopw [9, 12] (fun v9 v12 wr => ∃ k t : Nat, v12 = .int .i64 k ∧ t + r = sA + no + k ∧ (r ≤ k ∧ k ≤ n) ∧ wr.ownsRow w.heap.size 3 1 v9 t (nums ((A ++ o) ++ (l.drop r).take (k - r))) ∧ Below w.heap.size w wr) (fun _ v12 _ => n - (intOf v12).toNat)
      case atStart => exact ⟨r, m, rfl, by have := HM.out; omega, ⟨Nat.le_refl _, hr⟩, by rw [Nat.sub_self, List.take_zero, List.append_nil]; exact HO9.out, HB9.out⟩
      case round =>
        obtain ⟨k, t, rfl, hkt, ⟨hrk, hk⟩, hown, hb⟩ := hrel
        have HB := Lib.hid hb
        have HO := Lib.hid hown
        have HK := Lib.hid hkt
        clear hb hown hkt
        by_cases hlt2 : k < n
        · have dk2 : decide (k < n) = true := decide_eq_true hlt2
          have dk2' : decide ((k : Int) < (n : Int)) = true := decide_eq_true (by omega)
          obtain ⟨x, hx⟩ : ∃ x, l[k]? = some x := ⟨_, List.getElem?_eq_getElem (by rw [HN.out]; omega)⟩
          obtain ⟨g, q, rfl⟩ := HS.out.numsome (by rw [HN.out]; omega)
          have c0 := ((HS.out.below HB.out).num hx).1
          have e0 : (0 : Int) ≤ (k : Int) := by omega
          have e1 : (k : Int) < (n : Int) := by omega
          have HZ := Lib.hid (show (l.drop r)[k - r]? = some x by rw [List.getElem?_drop, show r + (k - r) = k by omega]; exact hx)
          clear hx
          go_wp2_with (first
            | (at_builtin; refine wpList_append_own _ rfl _ _ 22 rfl w.heap.size 3 i0 (.int .i64 0) 1 8 Try.underlying22 hi0 hz0 hz1 hz2 rfl (by decide) _ _ _ rfl (HO.out.alloc _) ⟨wr.heap.size, 0, none⟩ 1 1 [.int .i64 x] rfl rfl ?c1 ?c2 ?c3 ?c4 ?c5 ?_)
            | fail)
          case c1 =>
            intro j u hj
            match j, hj with
            | 0, hj => simp at hj; subst hj; simp [Addr.add]
          case c2 => intro u hu; simp at hu; subst hu; rfl
          case c3 => have := HK.out; unfold maxLen; omega
          case c4 => have := HK.out; omega
          case c5 => have := HB.out.size; simp; omega
          intro v' w2 hown' hgrow _
          have HG := Lib.hid hgrow
          have HO2 := Lib.hid hown'
          clear hgrow hown'
          go_wp2_with fail
          go_roundw
          case rel =>
            refine ⟨k + 1, t + 1, by go_num, by have := HK.out; omega, by omega, ?_, ?_⟩
            · rw [show k + 1 - r = (k - r) + 1 by omega, ← nums_snoc' HZ.out, List.append_assoc]; exact HO2.out
            · exact (HB.out.alloc HB.out.size _).grown HG.out (by have := HB.out.size; simp; omega) (fun j hj => (HO.out.lt j hj).1)
          case measure => simp [intOf]; omega
        · have dk2 : decide (k < n) = false := decide_eq_false hlt2
          have dk2' : decide ((k : Int) < (n : Int)) = false := decide_eq_false (by omega)
          have hkn : k = n := by omega
          have htd : (l.drop r).take (k - r) = l.drop r := List.take_of_length_le (by rw [List.length_drop, HN.out]; omega)
          have hm : t = tot := by have := HK.out; have := HTO.out.2; omega
          have ho := HO.out
          rw [htd] at ho
          subst hm
          obtain ⟨a', c', hv⟩ : ∃ a' c', u9 = .slice a' t c' := by
            rcases ho.2 with ⟨h1, h2⟩ | ⟨g, cap, cur, h1, _⟩
            · exact ⟨none, 0, by rw [h1, h2]⟩
            · exact ⟨_, _, h1⟩
          subst hv
          have ho2 : wr.ownsRow w.heap.size 3 1 (.slice a' (nums (A ++ o ++ l.drop r)).length c') (nums (A ++ o ++ l.drop r)).length (nums (A ++ o ++ l.drop r)) := by
            rw [show (nums (A ++ o ++ l.drop r)).length = t by rw [nums_len]; exact HTO.out.1]; exact ho
          have HSl := Lib.hid (Sl.own ho2 (nums_one _))
          have HTy : Hid (∀ d, a' = some d → TyAt wr d.block) := Lib.hid (fun d hd => by subst hd; exact TyAt.own ho2 (by unfold okT; simp))
          clear ho ho2 hkn htd
          go_wp2_with fail
          go_ret
          exact ⟨a', c', rfl, HSl.out, HTy.out, HB.out⟩

end Go.Proofs.Ytofncnommekbjaa
