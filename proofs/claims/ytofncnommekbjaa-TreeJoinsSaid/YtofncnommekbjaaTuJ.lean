/-
  The walk of TreeJoins, at this seat's numbers.
-/
import Derived.Test.YtofncnommekbjaaTuC
import Derived.Test.YtofncnommekbjaaTrV
import Derived.Test.YtofncnommekbjaaLiftT
namespace Go.Proofs.Ytofncnommekbjaa
open Go Go.RowKit
set_option linter.unusedVariables false

theorem two_boxes (w4 : World) (TT : TypeId) (x y : Option Addr) : ∃ w5 w6, (w4.alloc (Obj.cells #[Value.pointer none] TT)).alloc (Obj.cells #[Value.pointer none] TT) = w5 ∧ (w5.setCell ⟨w4.heap.size, 0, none⟩ (.pointer x)).setCell ⟨w4.heap.size + 1, 0, none⟩ (.pointer y) = w6 ∧
    (∀ i, w5.frozen? ⟨w4.heap.size, i, none⟩ = false) ∧ w5.cell? ⟨w4.heap.size, 0, none⟩ = some (.pointer none) ∧ (∀ i, (w5.setCell ⟨w4.heap.size, 0, none⟩ (.pointer x)).frozen? ⟨w4.heap.size + 1, i, none⟩ = false) ∧ (w5.setCell ⟨w4.heap.size, 0, none⟩ (.pointer x)).cell? ⟨w4.heap.size + 1, 0, none⟩ = some (.pointer none) ∧
    Below w4.heap.size w4 w6 ∧ w6.heap.size = w4.heap.size + 2 ∧ w6.cell? ⟨w4.heap.size, 0, none⟩ = some (.pointer x) ∧ w6.cell? ⟨w4.heap.size + 1, 0, none⟩ = some (.pointer y) ∧ w5.heap.size = w4.heap.size + 2 := by
  obtain ⟨w5, hw5, hb5, hz5, hE, hF⟩ := two_blocks w4 (Obj.cells #[Value.pointer none] TT) (Obj.cells #[Value.pointer none] TT)
  have hF2 : (w5.setCell ⟨w4.heap.size, 0, none⟩ (Value.pointer x)).heap[w4.heap.size + 1]? = some (.cells #[Value.pointer none] TT (0, 0)) := (heap_set_other (by omega)).trans hF
  have hE2 : (w5.setCell ⟨w4.heap.size, 0, none⟩ (Value.pointer x)).heap[w4.heap.size]? = some (.cells #[Value.pointer x] TT (0, 0)) := by rw [heap_set_at hE]; rfl
  have m1 := (heap_set_other (w := w5.setCell ⟨w4.heap.size, 0, none⟩ (Value.pointer x)) (p := w4.heap.size + 1) (b := w4.heap.size) (o := 0) (u := Value.pointer y) (by omega)).trans hE2
  have m2 : ((w5.setCell ⟨w4.heap.size, 0, none⟩ (Value.pointer x)).setCell ⟨w4.heap.size + 1, 0, none⟩ (Value.pointer y)).heap[w4.heap.size + 1]? = some (.cells #[Value.pointer y] TT (0, 0)) := by rw [heap_set_at hF2]; rfl
  refine ⟨w5, _, hw5, rfl, fun i => unfrozen hE i, by rw [cell_at hE]; rfl, fun i => unfrozen hF2 i, by rw [cell_at hF2]; rfl, ?_, by rw [size_set, size_set]; exact hz5, by rw [cell_at m1]; rfl, by rw [cell_at m2]; rfl, hz5⟩
  exact (hb5.setCell (p := ⟨w4.heap.size, 0, none⟩) (Nat.le_refl _) _).setCell (p := ⟨w4.heap.size + 1, 0, none⟩) (by show w4.heap.size ≤ w4.heap.size + 1; omega) _

set_option maxRecDepth 100000 in
set_option maxHeartbeats 8000000 in
theorem treeJoins_walk (a : Option Addr) (c : Nat) (l0 : List Int) (b : Option Addr) (d : Nat) (m0 : List Int) (I : Int) (w : World) (hl0 : Sl w a c (l0.map (Value.int .i64)) ∧ ∀ x ∈ l0, I64 x) (hm0 : Sl w b d (m0.map (Value.int .i64)) ∧ ∀ x ∈ m0, I64 x) (_ : -9223372036854775808 ≤ I) (_ : I ≤ 9223372036854775807) :
    Calls Try.prog 4 #[.slice a l0.length c, .slice b m0.length d, .int .i64 I] w fun e w' => e = .returned (.bool true) ∧ Below w.heap.size w w' := by
  obtain ⟨i0, hi0, hz0, hz1, hz2⟩ := info_parts info_int
  have HF1 := Lib.hid (nfew l0 hl0.1)
  have HF2 := Lib.hid (nfew m0 hm0.1)
  have hlen : (l0.take 300).length ≤ 300 := by rw [List.length_take]; omega
  have hmlen : (m0.take 300).length ≤ 300 := by rw [List.length_take]; omega
  generalize l0.take 300 = l at *
  generalize m0.take 300 = m at *
  generalize l0.length = n0 at *
  generalize m0.length = n1 at *
  clear hl0 hm0
  obtain ⟨n, hn⟩ : ∃ n, l.length = n := ⟨_, rfl⟩
  obtain ⟨p, hp⟩ : ∃ p, m.length = p := ⟨_, rfl⟩
  rw [hn] at HF1 hlen
  rw [hp] at HF2 hmlen
  have HNP := Lib.hid (And.intro hn hp)
  clear hn hp
  go_enter Try.func4, Try.ntmps4
  go_wp2_with fail
  refine HF1.out.mono ?_; rintro e w1 ⟨rfl, hS1, rfl⟩
  have HS := Lib.hid hS1
  clear hS1 HF1
  go_wp2_with fail
  refine HF2.out.mono ?_; rintro e w2 ⟨rfl, hM1, rfl⟩
  have HM := Lib.hid hM1
  clear hM1 HF2
  have HO1 := Lib.hid (tof_i (n := n) HS.out (by rw [nums_len]; exact HNP.out.1) (by omega) (nums_gd _))
  go_wp2_with fail
  refine HO1.out.mono ?_; rintro e w2 ⟨x1, rfl, ht1, hb2⟩
  have HO2 := Lib.hid (tof_i (n := p) (HM.out.below hb2) (by rw [nums_len]; exact HNP.out.2) (by omega) (nums_gd _))
  have HT1 := Lib.hid ht1
  have HB2 := Lib.hid hb2
  clear ht1 hb2 HO1
  go_wp2_with fail
  refine HO2.out.mono ?_; rintro e w3 ⟨x2, rfl, ht2, hb3⟩
  obtain ⟨w4, w5, hw4, hw5, zA, rA, zB, rB, hb35, hz35, q1, q2, hz4⟩ := two_boxes w3 27 x1 x2
  have HT5 := Lib.hid (And.intro ((HT1.out.below hb3).below hb35) (ht2.below hb35))
  have HB5 := Lib.hid (HB2.out.trans ((hb3.trans (hb35.mono hb3.size)).mono HB2.out.size))
  have HSp := Lib.hid (split_i n (pv := .pointer x1) I (by rw [nums_len, HNP.out.1]; exact Nat.le_refl _) HT5.out.1 (nums_gd _) (by rw [nums_len, HNP.out.1]; omega))
  rw [nums_len, HNP.out.1] at HSp
  unfold SpPost at HSp
  have hlt5 : w3.heap.size + 1 < w5.heap.size := by omega
  have Q12 := Lib.hid (And.intro q1 q2)
  clear ht2 hb3 hb35 HO2 HT1
  go_wp2_with fail
  refine HSp.out.mono ?_; rintro e w6 ⟨x3, x4, rfl, ht3, ht4, hb6⟩
  have HB6 := Lib.hid hb6
  obtain ⟨w7, w8, hw7, hw8, zC, rC, zD, rD, hb68, hz68, q3, q4, hz7⟩ := two_boxes w6 27 x3 x4
  have hb58 := hb6.trans (hb68.mono hb6.size)
  have HT8 := Lib.hid (And.intro (HT5.out.1.below hb58) (And.intro (HT5.out.2.below hb58) (And.intro (ht3.below hb68) (ht4.below hb68))))
  have HB8 := Lib.hid (HB5.out.trans (hb58.mono HB5.out.size))
  have hq1 := (hb58.cell (p := ⟨w3.heap.size, 0, none⟩) (by show w3.heap.size < _; omega)).trans q1
  have hq2 := (hb58.cell (p := ⟨w3.heap.size + 1, 0, none⟩) (by show w3.heap.size + 1 < _; omega)).trans q2
  have HQ := Lib.hid (And.intro hq1 (And.intro hq2 (And.intro q3 q4)))
  have hlt8 : w3.heap.size + 1 < w8.heap.size := Nat.lt_of_lt_of_le hlt5 hb58.size
  have hlt8' : w6.heap.size + 1 < w8.heap.size := by omega
  obtain ⟨k, hk⟩ : ∃ k, heldN I n = k := ⟨_, rfl⟩
  have hkn : k ≤ n := by rw [← hk]; unfold heldN; split <;> (try split) <;> omega
  have HH := Lib.hid (nheld (w := w8) (a := a) (c := c) (n := n) I)
  rw [hk] at HH HT8
  clear ht3 ht4 hb6 hb68 hb58 hq1 hq2 hw4 hw5 zA rA zB rB hz35 hz4 HSp hk q1 q2
  go_wp2_with fail
  refine HH.out.mono ?_; rintro e w9 ⟨rfl, rfl⟩
  clear HH hw7 hw8 zC rC zD rD q3 q4 hz68 hz7
  go_wp2_with fail
  go_loopw [12, 36] (fun v12 v36 wr => ∃ k : Nat, v36 = .int .i64 k ∧ k ≤ n ∧ wr.ownsRow w8.heap.size 3 1 v12 k (nums (l.take k)) ∧ Below w8.heap.size w8 wr) (fun _ v36 _ => n - (intOf v36).toNat)
  case atStart => exact ⟨0, rfl, by omega, t_nil _ _ _ _, Below.refl _ _⟩
  case round =>
    obtain ⟨q, rfl, hq, hown, hb⟩ := hrel
    have HB := Lib.hid hb
    have HO := Lib.hid hown
    clear hb hown
    by_cases hlt : q < n
    · have dk : decide (q < n) = true := decide_eq_true hlt
      obtain ⟨g, o, rfl⟩ := HS.out.numsome (by rw [HNP.out.1]; omega)
      obtain ⟨x, hx⟩ : ∃ x, l[q]? = some x := ⟨_, List.getElem?_eq_getElem (by rw [HNP.out.1]; exact hlt)⟩
      have c0 := ((HS.out.below (HB8.out.trans (HB.out.mono HB8.out.size))).num hx).1
      have e0 : (0 : Int) ≤ (q : Int) := by omega
      have e1 : (q : Int) < (n : Int) := by omega
      have HX := Lib.hid hx
      clear hx
      go_wp2_with (first
        | (at_builtin; refine wpList_append_own _ rfl _ _ 22 rfl w8.heap.size 3 i0 (.int .i64 0) 1 8 Try.underlying22 hi0 hz0 hz1 hz2 rfl (by decide) _ _ _ rfl (HO.out.alloc _) ⟨wr.heap.size, 0, none⟩ 1 1 [.int .i64 x] rfl rfl ?c1 ?c2 ?c3 ?c4 ?c5 ?_)
        | fail)
      case c1 =>
        intro j u hj
        match j, hj with
        | 0, hj => simp at hj; subst hj; simp [Addr.add]
      case c2 => intro u hu; simp at hu; subst hu; rfl
      case c3 => unfold maxLen; omega
      case c4 => omega
      case c5 => have := HB.out.size; simp; omega
      intro v' wN hown' hgrow _
      have HG := Lib.hid hgrow
      have HON := Lib.hid hown'
      clear hgrow hown'
      go_wp2_with fail
      go_roundw
      case rel =>
        refine ⟨q + 1, by go_num, by omega, ?_, ?_⟩
        · rw [← nums_snoc HX.out]; exact HON.out
        · exact (HB.out.alloc HB.out.size _).grown HG.out (by have := HB.out.size; simp; omega) (fun j hj => (HO.out.lt j hj).1)
      case measure => simp [intOf]; omega
    · have dk : decide (q < n) = false := decide_eq_false hlt
      have hqn : q = n := by omega
      subst hqn
      have htk : l.take q = l := List.take_of_length_le (by rw [HNP.out.1]; omega)
      have ho1 := HO.out
      rw [htk] at ho1
      obtain ⟨wo, rfl⟩ : ∃ wo : World, wo = wr := ⟨_, rfl⟩
      have HOo := Lib.hid ho1
      have HBo := Lib.hid HB.out
      clear ho1 htk HO HB
      go_wp2_with fail
      go_loopw [12, 47] (fun v12 v47 wr => ∃ k : Nat, v47 = .int .i64 k ∧ k ≤ p ∧ wr.ownsRow w8.heap.size 3 1 v12 (q + k) (nums (l ++ m.take k)) ∧ Below w8.heap.size w8 wr) (fun _ v47 _ => p - (intOf v47).toNat)
      case atStart => exact ⟨0, rfl, by omega, by rw [List.take_zero, List.append_nil]; exact HOo.out, HBo.out⟩
      case round =>
        obtain ⟨r, rfl, hr, hown, hb⟩ := hrel
        have HB := Lib.hid hb
        have HO := Lib.hid hown
        by_cases hltr : r < p
        · have dkr : decide (r < p) = true := decide_eq_true hltr
          obtain ⟨g, o, rfl⟩ := HM.out.numsome (by rw [HNP.out.2]; omega)
          obtain ⟨x, hx⟩ : ∃ x, m[r]? = some x := ⟨_, List.getElem?_eq_getElem (by rw [HNP.out.2]; exact hltr)⟩
          have c0 := ((HM.out.below (HB8.out.trans (HB.out.mono HB8.out.size))).num hx).1
          have e0 : (0 : Int) ≤ (r : Int) := by omega
          have e1 : (r : Int) < (p : Int) := by omega
          have HX : Hid (nums (l ++ m.take r) ++ [Value.int .i64 x] = nums (l ++ m.take (r + 1))) := by
            rw [← nums_app, ← nums_app, List.append_assoc, nums_snoc hx]; exact Lib.hid rfl
          clear hx hown hb
          go_wp2_with (first
            | (at_builtin; refine wpList_append_own _ rfl _ _ 22 rfl w8.heap.size 3 i0 (.int .i64 0) 1 8 Try.underlying22 hi0 hz0 hz1 hz2 rfl (by decide) _ _ _ rfl (HO.out.alloc _) ⟨wr.heap.size, 0, none⟩ 1 1 [.int .i64 x] rfl rfl ?c1 ?c2 ?c3 ?c4 ?c5 ?_)
            | fail)
          case c1 =>
            intro j u hj
            match j, hj with
            | 0, hj => simp at hj; subst hj; simp [Addr.add]
          case c2 => intro u hu; simp at hu; subst hu; rfl
          case c3 => unfold maxLen; omega
          case c4 => omega
          case c5 => have := HB.out.size; simp; omega
          intro v' wN hown' hgrow _
          have HG := Lib.hid hgrow
          have HON := Lib.hid hown'
          clear hgrow hown'
          go_wp2_with fail
          go_roundw
          case rel =>
            refine ⟨r + 1, by go_num, by omega, ?_, ?_⟩
            · rw [← HX.out]; exact HON.out
            · exact (HB.out.alloc HB.out.size _).grown HG.out (by have := HB.out.size; simp; omega) (fun j hj => (HO.out.lt j hj).1)
          case measure => simp [intOf]; omega
        · have dkr : decide (r < p) = false := decide_eq_false hltr
          have hrp : r = p := by omega
          subst hrp
          have htk : m.take r = m := List.take_of_length_le (by rw [HNP.out.2]; omega)
          rw [htk] at hown
          have hlm : (l ++ m).length = q + r := by rw [List.length_append, HNP.out.1, HNP.out.2]
          have hl600 : q + r ≤ 600 := by omega
          obtain ⟨N, hN⟩ : ∃ N, q + r = N := ⟨_, rfl⟩
          rw [hN] at hown hlm hl600
          clear hN
          obtain ⟨a', c', hv⟩ : ∃ a' c', u12 = .slice a' N c' := by
            rcases hown.2 with ⟨h1, h2⟩ | ⟨g, cap, cur, h1, _⟩
            · exact ⟨none, 0, by rw [h1, h2]⟩
            · exact ⟨_, _, h1⟩
          subst hv
          have ho2 : wr.ownsRow w8.heap.size 3 1 (.slice a' (nums (l ++ m)).length c') (nums (l ++ m)).length (nums (l ++ m)) := by
            rw [nums_len, hlm]; exact hown
          have HBoth := Lib.hid (Sl.own ho2 (nums_one _))
          have HB9 := Lib.hid (HB8.out.trans (hb.mono HB8.out.size))
          have HSr := Lib.hid (HS.out.below HB9.out)
          obtain ⟨t1, t2, t3, t4⟩ := HT8.out
          obtain ⟨y1, y2, y3, y4⟩ := HQ.out
          have z1 := (hb.cell (p := ⟨w3.heap.size, 0, none⟩) (by show w3.heap.size < _; omega)).trans y1
          have z2 := (hb.cell (p := ⟨w3.heap.size + 1, 0, none⟩) (by show w3.heap.size + 1 < _; omega)).trans y2
          have z3 := (hb.cell (p := ⟨w6.heap.size, 0, none⟩) (by show w6.heap.size < _; omega)).trans y3
          have z4 := (hb.cell (p := ⟨w6.heap.size + 1, 0, none⟩) (by show w6.heap.size + 1 < _; omega)).trans y4
          have HTr := Lib.hid (And.intro (t1.below hb) (And.intro (t2.below hb) (And.intro (t3.below hb) (t4.below hb))))
          have hltw : w3.heap.size + 1 < wr.heap.size := Nat.lt_of_lt_of_le hlt8 hb.size
          have hltw' : w6.heap.size + 1 < wr.heap.size := Nat.lt_of_lt_of_le hlt8' hb.size
          have HZ := Lib.hid (And.intro z1 (And.intro z2 (And.intro z3 z4)))
          have HLM := Lib.hid hlm
          clear htk hown ho2 hb t1 t2 t3 t4 y1 y2 y3 y4 z1 z2 z3 z4 hlm HO HB
          clear HB8 HQ HT8 HOo HBo
          obtain ⟨w8, rfl⟩ : ∃ w8 : World, w8 = wr := ⟨_, rfl⟩
          have HJ1 := Lib.hid (fun w' (hb : Below w8.heap.size w8 w') => Join_i (HTr.out.1.below hb) (HTr.out.2.1.below hb) (nums_gd _) (nums_gd _) (by rw [nums_len, nums_len, HNP.out.1, HNP.out.2]; omega))
          have HJ2 := Lib.hid (fun w' (hb : Below w8.heap.size w8 w') => Join_i (HTr.out.2.2.1.below hb) (HTr.out.2.2.2.below hb) (gd_take (nums_gd _) _) (gd_drop (nums_gd _) _) (by rw [List.length_take, List.length_drop, nums_len, HNP.out.1]; omega))
          rw [nums_app] at HJ1
          rw [List.take_append_drop] at HJ2
          have HF3 := Lib.hid (fun w' xx (hb : Below w8.heap.size w8 w') (ht : Tin w' 95 (.pointer xx) (nums (l ++ m))) => Fits_of ht (HBoth.out.below hb) (by rw [HLM.out]; omega))
          have HF4 := Lib.hid (fun w' xx (hb : Below w8.heap.size w8 w') (ht : Tin w' 95 (.pointer xx) (nums l)) => Fits_of ht (HSr.out.below hb) (by rw [HNP.out.1]; omega))
          have HF5 := Lib.hid (fun w' (hb : Below w8.heap.size w8 w') => Fits_of (HTr.out.1.below hb) (HSr.out.below hb) (by rw [HNP.out.1]; omega))
          have HAw := Lib.hid (fun w' (hb : Below w8.heap.size w8 w') => awake9_of (w := w'))
          rw [HLM.out] at HF3
          rw [HNP.out.1] at HF4 HF5
          have HB8 := HB9
          have HF1 := Lib.hid (fun w' (hb : Below w8.heap.size w8 w') (a : Option Addr) (hs : Sl w8 a c (nums (l.take k))) => Fits_of (by rw [← nums_take]; exact HTr.out.2.2.1.below hb) (hs.below hb) (by rw [List.length_take]; omega))
          have HF2 := Lib.hid (fun w' (hb : Below w8.heap.size w8 w') (a : Option Addr) (cc : Nat) (hs : Sl w8 a cc (nums (l.drop k))) => Fits_of (by rw [← nums_drop]; exact HTr.out.2.2.2.below hb) (hs.below hb) (by rw [List.length_drop, HNP.out.1]; omega))
          have hlk : (l.take k).length = k := by rw [List.length_take, HNP.out.1]; omega
          have hld : (l.drop k).length = q - k := by rw [List.length_drop, HNP.out.1]
          rw [hlk] at HF1
          rw [hld] at HF2
          have HTk : Hid (Sl w8 a c (nums (l.take k))) := by rw [← nums_take]; exact Lib.hid (HSr.out.take k)
          have HLD := Lib.hid hld
          clear hlk hld HB9 HM
          rcases hA : a with _ | ad
          · subst hA
            obtain ⟨hl0, rfl⟩ := HSr.out.empty
            have hn0 : q = 0 := by have := congrArg List.length hl0; rw [nums_len, HNP.out.1] at this; simpa using this
            subst hn0
            have hk0 : k = 0 := by omega
            subst hk0
            have hdr : Hid (Sl w8 none 0 (nums (l.drop 0))) := by rw [List.drop_zero]; exact HSr
            clear hl0 hkn
            go_upto_region 16 with fail
            have ld0 := fun w' (h : Below w8.heap.size w8 w' ) => (h.cell (p := ⟨w3.heap.size, 0, none⟩) (by show w3.heap.size < _; omega)).trans HZ.out.1
            have ld1 := fun w' (h : Below w8.heap.size w8 w' ) => (h.cell (p := ⟨w3.heap.size + 1, 0, none⟩) (by show w3.heap.size + 1 < _; omega)).trans HZ.out.2.1
            have ld2 := fun w' (h : Below w8.heap.size w8 w' ) => (h.cell (p := ⟨w6.heap.size, 0, none⟩) (by show w6.heap.size < _; omega)).trans HZ.out.2.2.1
            have ld3 := fun w' (h : Below w8.heap.size w8 w' ) => (h.cell (p := ⟨w6.heap.size + 1, 0, none⟩) (by show w6.heap.size + 1 < _; omega)).trans HZ.out.2.2.2
            have hsB0 : Below w8.heap.size w8 w8.drew := (Below.refl _ _).drew
            have B0 := Lib.hid hsB0
            go_region_held3 (fun w' => Below w8.heap.size w8 w')
              (first | assumption)
              ((first
                | (go_at_call 17; have XX := BF5; clear XX; refine (HAw.out _ BF5.out).mono ?_; rintro e wZ ⟨rfl, hbZ⟩; have hsBZ := hsBF5.trans (hbZ.mono hsBF5.size); have BZ := Lib.hid hsBZ; clear hbZ)
                | (go_at_call 13; have XX := BF4; clear XX; refine (HF5.out _ BF4.out).mono ?_; rintro e wY ⟨rfl, hbY⟩; have hsBF5 := hsBF4.trans (hbY.mono hsBF4.size); have BF5 := Lib.hid hsBF5; clear hbY)
                | (go_at_call 13; have XX := BJ2; clear XX; refine (HF4.out _ xJ2 BJ2.out TJ2.out).mono ?_; rintro e wX ⟨rfl, hbX⟩; have hsBF4 := hsBJ2.trans (hbX.mono hsBJ2.size); have BF4 := Lib.hid hsBF4; clear hbX)
                | (go_at_call 20; have XX := BF3; clear XX; refine (HJ2.out _ BF3.out).mono ?_; rintro e wW ⟨xJ2, rfl, htW, hbW⟩; have hsBJ2 := hsBF3.trans (hbW.mono hsBF3.size); have BJ2 := Lib.hid hsBJ2; have TJ2 := Lib.hid htW; clear htW; clear hbW)
                | (go_at_call 13; have XX := BJ1; clear XX; refine (HF3.out _ xJ1 BJ1.out TJ1.out).mono ?_; rintro e wV ⟨rfl, hbV⟩; have hsBF3 := hsBJ1.trans (hbV.mono hsBJ1.size); have BF3 := Lib.hid hsBF3; clear hbV)
                | (go_at_call 20; have XX := BF2; clear XX; refine (HJ1.out _ BF2.out).mono ?_; rintro e wU ⟨xJ1, rfl, htU, hbU⟩; have hsBJ1 := hsBF2.trans (hbU.mono hsBF2.size); have BJ1 := Lib.hid hsBJ1; have TJ1 := Lib.hid htU; clear htU; clear hbU)
                | (go_at_call 13; have XX := BF1; clear XX; refine (HF2.out _ BF1.out none 0 hdr.out).mono ?_; rintro e wT ⟨rfl, hbT⟩; have hsBF2 := hsBF1.trans (hbT.mono hsBF1.size); have BF2 := Lib.hid hsBF2; clear hbT)
                | (go_at_call 13; refine (HF1.out _ B0.out none HTk.out).mono ?_; rintro e wS ⟨rfl, hbS⟩; have hsBF1 := hsB0.trans (hbS.mono hsB0.size); have BF1 := Lib.hid hsBF1; clear hbS)))
            all_goals
              clear ld0 ld1 ld2 ld3
              go_wp2_with fail
              go_ret
              exact ⟨rfl, HB8.out.trans (BZ.out.mono HB8.out.size)⟩
          · obtain ⟨g, o, rfl⟩ : ∃ g o, ad = ⟨g, o, none⟩ := HSr.out.form ad hA
            subst hA
            have hcap := HSr.out.cap
            rw [nums_len, HNP.out.1] at hcap
            by_cases hck : c = k
            · have hcn : c = q := by omega
              have hkq : k = q := by omega
              have HD : Hid (Sl w8 (some ⟨g, o, none⟩) 0 (nums (l.drop k))) := by
                have := HSr.out.drop (i := k) (by rw [nums_len, HNP.out.1]; omega) ⟨g, o, none⟩ (fun hh => by rw [nums_len, HNP.out.1] at hh; omega) ⟨g, o, rfl⟩
                rw [nums_drop, show c - k = 0 by omega] at this
                exact Lib.hid this
              subst hkq
              subst hck
              have e0 : (0 : Int) ≤ (c : Int) := by omega
              clear hcn hcap hkn
              rw [Nat.sub_self] at HF2
              go_upto_region 16 with fail
              have ld0 := fun w' (h : Below w8.heap.size w8 w' ) => (h.cell (p := ⟨w3.heap.size, 0, none⟩) (by show w3.heap.size < _; omega)).trans HZ.out.1
              have ld1 := fun w' (h : Below w8.heap.size w8 w' ) => (h.cell (p := ⟨w3.heap.size + 1, 0, none⟩) (by show w3.heap.size + 1 < _; omega)).trans HZ.out.2.1
              have ld2 := fun w' (h : Below w8.heap.size w8 w' ) => (h.cell (p := ⟨w6.heap.size, 0, none⟩) (by show w6.heap.size < _; omega)).trans HZ.out.2.2.1
              have ld3 := fun w' (h : Below w8.heap.size w8 w' ) => (h.cell (p := ⟨w6.heap.size + 1, 0, none⟩) (by show w6.heap.size + 1 < _; omega)).trans HZ.out.2.2.2
              have hsB0 : Below w8.heap.size w8 w8.drew := (Below.refl _ _).drew
              have B0 := Lib.hid hsB0
              go_region_held3 (fun w' => Below w8.heap.size w8 w')
                (first | assumption)
                ((first
                  | (go_at_call 17; have XX := BF5; clear XX; refine (HAw.out _ BF5.out).mono ?_; rintro e wZ ⟨rfl, hbZ⟩; have hsBZ := hsBF5.trans (hbZ.mono hsBF5.size); have BZ := Lib.hid hsBZ; clear hbZ)
                  | (go_at_call 13; have XX := BF4; clear XX; refine (HF5.out _ BF4.out).mono ?_; rintro e wY ⟨rfl, hbY⟩; have hsBF5 := hsBF4.trans (hbY.mono hsBF4.size); have BF5 := Lib.hid hsBF5; clear hbY)
                  | (go_at_call 13; have XX := BJ2; clear XX; refine (HF4.out _ xJ2 BJ2.out TJ2.out).mono ?_; rintro e wX ⟨rfl, hbX⟩; have hsBF4 := hsBJ2.trans (hbX.mono hsBJ2.size); have BF4 := Lib.hid hsBF4; clear hbX)
                  | (go_at_call 20; have XX := BF3; clear XX; refine (HJ2.out _ BF3.out).mono ?_; rintro e wW ⟨xJ2, rfl, htW, hbW⟩; have hsBJ2 := hsBF3.trans (hbW.mono hsBF3.size); have BJ2 := Lib.hid hsBJ2; have TJ2 := Lib.hid htW; clear htW; clear hbW)
                  | (go_at_call 13; have XX := BJ1; clear XX; refine (HF3.out _ xJ1 BJ1.out TJ1.out).mono ?_; rintro e wV ⟨rfl, hbV⟩; have hsBF3 := hsBJ1.trans (hbV.mono hsBJ1.size); have BF3 := Lib.hid hsBF3; clear hbV)
                  | (go_at_call 20; have XX := BF2; clear XX; refine (HJ1.out _ BF2.out).mono ?_; rintro e wU ⟨xJ1, rfl, htU, hbU⟩; have hsBJ1 := hsBF2.trans (hbU.mono hsBF2.size); have BJ1 := Lib.hid hsBJ1; have TJ1 := Lib.hid htU; clear htU; clear hbU)
                  | (go_at_call 13; have XX := BF1; clear XX; refine (HF2.out _ BF1.out _ _ HD.out).mono ?_; rintro e wT ⟨rfl, hbT⟩; have hsBF2 := hsBF1.trans (hbT.mono hsBF1.size); have BF2 := Lib.hid hsBF2; clear hbT)
                  | (go_at_call 13; refine (HF1.out _ B0.out _ HTk.out).mono ?_; rintro e wS ⟨rfl, hbS⟩; have hsBF1 := hsB0.trans (hbS.mono hsB0.size); have BF1 := Lib.hid hsBF1; clear hbS)))
              all_goals
                clear ld0 ld1 ld2 ld3
                go_wp2_with fail
                go_ret
                exact ⟨rfl, HB8.out.trans (BZ.out.mono HB8.out.size)⟩
            · have HD : Hid (Sl w8 (some ⟨g, o + k, none⟩) (c - k) (nums (l.drop k))) := by
                have := HSr.out.drop (i := k) (by rw [nums_len, HNP.out.1]; omega) ⟨g, o + k, none⟩ (fun hh => rfl) ⟨g, o + k, rfl⟩
                rw [nums_drop] at this
                exact Lib.hid this
              have e0 : (0 : Int) ≤ (k : Int) := by omega
              have e1 : (k : Int) ≤ (c : Int) := by omega
              have e2 : (k : Int) ≤ (q : Int) := by omega
              have e3 : (q : Int) ≤ (c : Int) := by omega
              have g0 : ¬ ((c : Int) - (k : Int) = 0) := by omega
              have g1 : c - k ≠ 0 := by omega
              go_upto_region 16 with fail
              have ld0 := fun w' (h : Below w8.heap.size w8 w' ) => (h.cell (p := ⟨w3.heap.size, 0, none⟩) (by show w3.heap.size < _; omega)).trans HZ.out.1
              have ld1 := fun w' (h : Below w8.heap.size w8 w' ) => (h.cell (p := ⟨w3.heap.size + 1, 0, none⟩) (by show w3.heap.size + 1 < _; omega)).trans HZ.out.2.1
              have ld2 := fun w' (h : Below w8.heap.size w8 w' ) => (h.cell (p := ⟨w6.heap.size, 0, none⟩) (by show w6.heap.size < _; omega)).trans HZ.out.2.2.1
              have ld3 := fun w' (h : Below w8.heap.size w8 w' ) => (h.cell (p := ⟨w6.heap.size + 1, 0, none⟩) (by show w6.heap.size + 1 < _; omega)).trans HZ.out.2.2.2
              have hsB0 : Below w8.heap.size w8 w8.drew := (Below.refl _ _).drew
              have B0 := Lib.hid hsB0
              go_region_held3 (fun w' => Below w8.heap.size w8 w')
                (first | assumption)
                ((first
                  | (go_at_call 17; have XX := BF5; clear XX; refine (HAw.out _ BF5.out).mono ?_; rintro e wZ ⟨rfl, hbZ⟩; have hsBZ := hsBF5.trans (hbZ.mono hsBF5.size); have BZ := Lib.hid hsBZ; clear hbZ)
                  | (go_at_call 13; have XX := BF4; clear XX; refine (HF5.out _ BF4.out).mono ?_; rintro e wY ⟨rfl, hbY⟩; have hsBF5 := hsBF4.trans (hbY.mono hsBF4.size); have BF5 := Lib.hid hsBF5; clear hbY)
                  | (go_at_call 13; have XX := BJ2; clear XX; refine (HF4.out _ xJ2 BJ2.out TJ2.out).mono ?_; rintro e wX ⟨rfl, hbX⟩; have hsBF4 := hsBJ2.trans (hbX.mono hsBJ2.size); have BF4 := Lib.hid hsBF4; clear hbX)
                  | (go_at_call 20; have XX := BF3; clear XX; refine (HJ2.out _ BF3.out).mono ?_; rintro e wW ⟨xJ2, rfl, htW, hbW⟩; have hsBJ2 := hsBF3.trans (hbW.mono hsBF3.size); have BJ2 := Lib.hid hsBJ2; have TJ2 := Lib.hid htW; clear htW; clear hbW)
                  | (go_at_call 13; have XX := BJ1; clear XX; refine (HF3.out _ xJ1 BJ1.out TJ1.out).mono ?_; rintro e wV ⟨rfl, hbV⟩; have hsBF3 := hsBJ1.trans (hbV.mono hsBJ1.size); have BF3 := Lib.hid hsBF3; clear hbV)
                  | (go_at_call 20; have XX := BF2; clear XX; refine (HJ1.out _ BF2.out).mono ?_; rintro e wU ⟨xJ1, rfl, htU, hbU⟩; have hsBJ1 := hsBF2.trans (hbU.mono hsBF2.size); have BJ1 := Lib.hid hsBJ1; have TJ1 := Lib.hid htU; clear htU; clear hbU)
                  | (go_at_call 13; have XX := BF1; clear XX; refine (HF2.out _ BF1.out _ _ HD.out).mono ?_; rintro e wT ⟨rfl, hbT⟩; have hsBF2 := hsBF1.trans (hbT.mono hsBF1.size); have BF2 := Lib.hid hsBF2; clear hbT)
                  | (go_at_call 13; refine (HF1.out _ B0.out _ HTk.out).mono ?_; rintro e wS ⟨rfl, hbS⟩; have hsBF1 := hsB0.trans (hbS.mono hsB0.size); have BF1 := Lib.hid hsBF1; clear hbS)))
              all_goals
                clear ld0 ld1 ld2 ld3
                go_wp2_with fail
                go_ret
                exact ⟨rfl, HB8.out.trans (BZ.out.mono HB8.out.size)⟩

end Go.Proofs.Ytofncnommekbjaa
