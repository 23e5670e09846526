/-
  The document's second, operated, normal, for any keys, at this seat's numbers.
-/
import Derived.Test.YtjmpokgdgnjojaaDoorGrS
namespace Go.Proofs.YtjmpokgdgnjojaaDoor
open Go Go.RowKit
set_option linter.unusedVariables false

theorem cntGo_suf (ct : Int) : ∀ (l : List Int) (n : Int), (cntGo ct n l).2.2 <:+ l := by
  intro l
  induction l with
  | nil => intro n; rw [cntGo]; exact List.suffix_refl _
  | cons x t ih =>
    intro n
    rw [cntGo_cons]
    generalize (if 0 < ct then (n * 10 + x - 48) * ct else n * 10 + x - 48) = m
    split
    · split
      · exact List.suffix_cons _ _
      · exact (ih _).trans (List.suffix_cons _ _)
    · exact List.suffix_refl _
theorem cntR_suf (ct : Int) (l : List Int) : (cntR ct l).2.2 <:+ l := by
  unfold cntR
  simp only
  split
  · exact cntGo_suf ct l 0
  · exact cntGo_suf ct l 0
theorem cntR_drop (ct : Int) (l : List Int) (i : Nat) : (cntR ct (l.drop i)).2.2 = l.drop (l.length - (cntR ct (l.drop i)).2.2.length) :=
  List.suffix_iff_eq_drop.1 ((cntR_suf ct (l.drop i)).trans (List.drop_suffix i l))
theorem head_at {l : List Int} {i : Nat} {x : Int} {t : List Int} (h : x :: t = l.drop i) : l[i]? = some x ∧ t = l.drop (i + 1) := by
  have h0 : (l.drop i)[0]? = some x := by rw [← h]; rfl
  refine ⟨by rw [List.getElem?_drop] at h0; simpa using h0, ?_⟩
  rw [show l.drop (i + 1) = (l.drop i).drop 1 by rw [List.drop_drop], ← h]; rfl

/-- How a part of a reading ends. -/
def RgP (w0 : World) (q : Nat) (a : Option Addr) (k : Nat) (l : List Int) (T : Cm × Int × Int) (e : Ending) (w' : World) : Prop :=
  e = .returned (.tuple #[]) ∧ ∃ i, RgIn w0 w' q a k l i T.1 T.2.1 T.2.2
section
variable {w0 w : World} {q : Nat} {a : Option Addr} {k : Nat} {l : List Int} {at_ : Nat} {c : Cm} {wh er : Int}
theorem RgP.mk {i : Nat} (h : RgIn w0 w q a k l i c wh er) : RgP w0 q a k l (c, wh, er) (.returned (.tuple #[])) w := ⟨rfl, i, h⟩
theorem RgIn.setCh (H : RgIn w0 w q a k l at_ c wh er) (v : Int) : RgIn w0 (w.setCell ⟨q, 6, none⟩ (.int .i64 v)) q a k l at_ { c with ch := v } wh er := ⟨heap_set_at H.box, H.sq, H.low.setCell (p := ⟨q, 6, none⟩) H.lo _, H.lo⟩
theorem RgIn.setRg (H : RgIn w0 w q a k l at_ c wh er) (v : Int) : RgIn w0 (w.setCell ⟨q, 5, none⟩ (.int .i64 v)) q a k l at_ { c with rg := v } wh er := ⟨heap_set_at H.box, H.sq, H.low.setCell (p := ⟨q, 5, none⟩) H.lo _, H.lo⟩

set_option maxRecDepth 100000 in
set_option maxHeartbeats 4000000 in
theorem second_all (H : RgIn w0 w q a k l at_ c 0 0) (hat : at_ ≤ l.length) {f : Int} (hf : 0 ≤ f ∧ f ≤ 1000) {s : ByteArray} (hs : s.size ≤ 1000) : Calls Tryd.prog 22 #[pbox q, .int .i64 f, .string s] w (RgP w0 q a k l (secR c f s (l.drop at_))) := by
  by_cases hlt : at_ < l.length
  · obtain ⟨x, hx⟩ : ∃ x, l[at_]? = some x := ⟨_, List.getElem?_eq_getElem hlt⟩
    rw [drop_at hx]
    have HK := Lib.hid (rkey_some H hx)
    have hIn := fun w => rin_of s x w hs
    unfold secR
    simp only
    cases hi : inS s x
    · simp only [hi] at hIn
      rw [if_neg (by simp)]
      have HI := Lib.hid hIn
      clear H hat hf hs hlt hx hIn hi
      go_enter Tryd.func22, Tryd.ntmps22
      go_wp2_with fail
      refine HK.out.mono ?_; rintro e w1 ⟨rfl, hw1⟩
      have HW := Lib.hid (rwrong_of hw1)
      clear hw1
      go_wp2_with fail
      refine (HI.out _).mono ?_; rintro e _ ⟨rfl, rfl⟩
      go_wp2_with fail
      refine HW.out.mono ?_; rintro e w2 ⟨rfl, hw2⟩
      have HE := Lib.hid hw2
      clear hw2
      go_wp2_with fail
      first | (refine bodyPost_ret (results_none rfl _ _ _) rfl ?_) | go_end0
      exact RgP.mk HE.out
    · have hb := inS_small hi
      simp only [hi] at hIn
      rw [if_pos rfl]
      have HI := Lib.hid hIn
      have e1 : IntKind.i64.wrap (f * 256) = f * 256 := IntWalk.i64_in _ (by omega)
      have e2 : IntKind.i64.wrap (f * 256 + x) = f * 256 + x := IntWalk.i64_in _ (by omega)
      have f0 := hf.1
      have f1 := hf.2
      have x0 := hb.1
      have x1 := hb.2
      clear H hat hf hs hlt hx hIn hi hb
      go_enter Tryd.func22, Tryd.ntmps22
      go_wp2_with fail
      refine HK.out.mono ?_; rintro e w1 ⟨rfl, hw1⟩
      have HW := Lib.hid (rdone_of hw1 (f * 256 + x))
      clear hw1
      go_wp2_with fail
      refine (HI.out _).mono ?_; rintro e _ ⟨rfl, rfl⟩
      go_wp2_with fail
      refine HW.out.mono ?_; rintro e w2 ⟨rfl, hw2⟩
      have HE := Lib.hid hw2
      clear hw2
      go_wp2_with fail
      first | (refine bodyPost_ret (results_none rfl _ _ _) rfl ?_) | go_end0
      exact RgP.mk HE.out
  · obtain rfl : at_ = l.length := by omega
    rw [List.drop_length]
    unfold secR
    have HK := Lib.hid (rkey_none H)
    clear H hat hf hs hlt
    go_enter Tryd.func22, Tryd.ntmps22
    go_wp2_with fail
    refine HK.out.mono ?_; rintro e w1 ⟨rfl, hw1⟩
    have HE := Lib.hid hw1
    clear hw1
    go_wp2_with fail
    first | (refine bodyPost_ret (results_none rfl _ _ _) rfl ?_) | go_end0
    exact RgP.mk HE.out
set_option maxRecDepth 100000 in
set_option maxHeartbeats 8000000 in
theorem operated_all (H : RgIn w0 w q a k l at_ c 0 0) (hat : at_ ≤ l.length) (hc : 0 ≤ c.ct ∧ c.ct ≤ 9999) (op : Int) : Calls Tryd.prog 38 #[pbox q, .int .i64 op] w (RgP w0 q a k l (opdR c op (l.drop at_))) := by
  have hC : Calls Tryd.prog 36 #[pbox q] (w.setCell ⟨q, 2, none⟩ (.int .i64 op)) fun e w' => e = .returned (.bool (cntR c.ct (l.drop at_)).1) ∧ RgIn w0 w' q a k l (l.length - (cntR c.ct (l.drop at_)).2.2.length) { c with op := op, ct := (cntR c.ct (l.drop at_)).2.1 } (if (cntR c.ct (l.drop at_)).1 = true then 0 else 2) (if (cntR c.ct (l.drop at_)).1 = true then 0 else 5) := count_all (H.setOp op) hat hc
  have hsuf := cntR_drop c.ct l at_
  obtain ⟨c0, c1, c2, _⟩ := H.cs
  have f2 := H.fr 2
  unfold opdR
  generalize cntR c.ct (l.drop at_) = Y at hC hsuf ⊢
  obtain ⟨b, ct2, rest⟩ := Y
  simp only at hC hsuf ⊢
  clear H hat hc
  cases b
  · simp only [Bool.false_eq_true, if_false] at hC ⊢
    have HC := Lib.hid hC
    clear hC hsuf
    go_enter Tryd.func38, Tryd.ntmps38
    go_wp2_with fail
    refine HC.out.mono ?_; rintro e w1 ⟨rfl, hw1⟩
    have HE := Lib.hid hw1
    clear hw1
    go_wp2_with fail
    first | (refine bodyPost_ret (results_none rfl _ _ _) rfl ?_) | go_end0
    exact RgP.mk HE.out
  · simp only [if_true] at hC ⊢
    obtain ⟨C, hCC⟩ : ∃ C : Cm, C = { c with op := op, ct := ct2 } := ⟨_, rfl⟩
    rw [← hCC] at hC ⊢
    cases rest with
    | nil =>
      simp only [List.length_nil, Nat.sub_zero] at hC ⊢
      have HC := Lib.hid hC
      clear hC hsuf hCC
      go_enter Tryd.func38, Tryd.ntmps38
      go_wp2_with fail
      refine HC.out.mono ?_; rintro e w1 ⟨rfl, hw1⟩
      have HK := Lib.hid (rkey_none hw1)
      clear hw1
      go_wp2_with fail
      refine HK.out.mono ?_; rintro e w2 ⟨rfl, hw2⟩
      have HE := Lib.hid hw2
      clear hw2
      go_wp2_with fail
      first | (refine bodyPost_ret (results_none rfl _ _ _) rfl ?_) | go_end0
      exact RgP.mk HE.out
    | cons x t =>
      simp only at hC ⊢
      rw [show ({ c with op := op, ct := ct2, vb := x } : Cm) = { C with vb := x } by rw [hCC], show ({ c with op := op, ct := ct2, vb := rmotN x } : Cm) = { C with vb := rmotN x } by rw [hCC]]
      obtain ⟨hx, ht⟩ := head_at hsuf
      obtain ⟨i, hi⟩ : ∃ i, i = l.length - (x :: t).length := ⟨_, rfl⟩
      rw [← hi] at hC hx ht
      rw [ht]
      have hil := (List.getElem?_eq_some_iff.1 hx).1
      have HC := Lib.hid hC
      have HKx := Lib.hid (fun w' (h : RgIn w0 w' q a k l i C 0 0) => rkey_some h hx)
      have HM := Lib.hid (fun w => rmotion_of x w)
      clear hC hsuf hCC ht hi hx
      by_cases hxo : x = op
      · subst hxo
        rw [if_pos rfl]
        have z1 : (x == x) = true := by simp
        have z2 : (x != x) = false := by simp
        go_enter Tryd.func38, Tryd.ntmps38
        go_wp2_with fail
        refine HC.out.mono ?_; rintro e w1 ⟨rfl, hw1⟩
        have HK := Lib.hid (HKx.out _ hw1)
        clear hw1
        go_wp2_with fail
        refine HK.out.mono ?_; rintro e w2 ⟨rfl, hw2⟩
        have H2 := Lib.hid hw2
        clear hw2
        go_wp2_with fail
        refine (rdone_of H2.out x).mono ?_; rintro e w3 ⟨rfl, hw3⟩
        have HE := Lib.hid hw3
        clear hw3
        go_wp2_with fail
        first | (refine bodyPost_ret (results_none rfl _ _ _) rfl ?_) | go_end0
        exact RgP.mk HE.out
      · rw [if_neg hxo]
        have z1 : (x == op) = false := beq_eq_false_iff_ne.2 hxo
        have z2 : (x != op) = true := bne_iff_ne.2 hxo
        clear hxo
        by_cases hm : 0 < rmotN x
        · rw [if_pos hm]
          have dm : decide (0 < rmotN x) = true := decide_eq_true hm
          generalize rmotN x = m at *
          clear hm
          go_enter Tryd.func38, Tryd.ntmps38
          go_wp2_with fail
          refine HC.out.mono ?_; rintro e w1 ⟨rfl, hw1⟩
          have HK := Lib.hid (HKx.out _ hw1)
          clear hw1
          go_wp2_with fail
          refine HK.out.mono ?_; rintro e w2 ⟨rfl, hw2⟩
          have H2 := Lib.hid hw2
          clear hw2
          go_wp2_with fail
          refine (HM.out _).mono ?_; rintro e _ ⟨rfl, rfl⟩
          go_wp2_with fail
          refine (rdone_of H2.out x).mono ?_; rintro e w3 ⟨rfl, hw3⟩
          obtain ⟨d0, d1, d2, d3, _⟩ := hw3.cs
          have g3 := hw3.fr 3
          have H3 := Lib.hid (hw3.setVb m)
          clear hw3 H2
          go_wp2_with fail
          refine (HM.out _).mono ?_; rintro e _ ⟨rfl, rfl⟩
          go_wp2_with fail
          first | (refine bodyPost_ret (results_none rfl _ _ _) rfl ?_) | go_end0
          exact RgP.mk H3.out
        · rw [if_neg hm]
          have dm : decide (0 < rmotN x) = false := decide_eq_false hm
          generalize rmotN x = m at *
          clear hm
          by_cases h5 : x = 105
          · subst h5
            rw [if_pos rfl]
            have HS := Lib.hid (fun w' (h : RgIn w0 w' q a k l (i + 1) C 0 0) => second_all h (by omega) (f := 105) (by omega) (s := s_wi) (by decide))
            go_enter Tryd.func38, Tryd.ntmps38
            go_wp2_with fail
            refine HC.out.mono ?_; rintro e w1 ⟨rfl, hw1⟩
            have HK := Lib.hid (HKx.out _ hw1)
            clear hw1
            go_wp2_with fail
            refine HK.out.mono ?_; rintro e w2 ⟨rfl, hw2⟩
            have H2 := Lib.hid hw2
            clear hw2
            go_wp2_with fail
            refine (HM.out _).mono ?_; rintro e _ ⟨rfl, rfl⟩
            go_wp2_with fail
            refine (HS.out _ H2.out).mono ?_; rintro e w3 ⟨rfl, i3, hw3⟩
            have HE := Lib.hid hw3
            clear hw3
            go_wp2_with fail
            first | (refine bodyPost_ret (results_none rfl _ _ _) rfl ?_) | go_end0
            exact RgP.mk HE.out
          · rw [if_neg h5]
            have z5 : (x == 105) = false := beq_eq_false_iff_ne.2 h5
            clear h5
            by_cases h3 : x = 103
            · subst h3
              rw [if_pos rfl]
              have HS := Lib.hid (fun w' (h : RgIn w0 w' q a k l (i + 1) C 0 0) => second_all h (by omega) (f := 103) (by omega) (s := s_g) (by decide))
              go_enter Tryd.func38, Tryd.ntmps38
              go_wp2_with fail
              refine HC.out.mono ?_; rintro e w1 ⟨rfl, hw1⟩
              have HK := Lib.hid (HKx.out _ hw1)
              clear hw1
              go_wp2_with fail
              refine HK.out.mono ?_; rintro e w2 ⟨rfl, hw2⟩
              have H2 := Lib.hid hw2
              clear hw2
              go_wp2_with fail
              refine (HM.out _).mono ?_; rintro e _ ⟨rfl, rfl⟩
              go_wp2_with fail
              refine (HS.out _ H2.out).mono ?_; rintro e w3 ⟨rfl, i3, hw3⟩
              have HE := Lib.hid hw3
              clear hw3
              go_wp2_with fail
              first | (refine bodyPost_ret (results_none rfl _ _ _) rfl ?_) | go_end0
              exact RgP.mk HE.out
            · rw [if_neg h3]
              have z3 : (x == 103) = false := beq_eq_false_iff_ne.2 h3
              clear h3
              go_enter Tryd.func38, Tryd.ntmps38
              go_wp2_with fail
              refine HC.out.mono ?_; rintro e w1 ⟨rfl, hw1⟩
              have HK := Lib.hid (HKx.out _ hw1)
              clear hw1
              go_wp2_with fail
              refine HK.out.mono ?_; rintro e w2 ⟨rfl, hw2⟩
              have H2 := Lib.hid hw2
              clear hw2
              go_wp2_with fail
              refine (HM.out _).mono ?_; rintro e _ ⟨rfl, rfl⟩
              go_wp2_with fail
              refine (rwrong_of H2.out).mono ?_; rintro e w3 ⟨rfl, hw3⟩
              have HE := Lib.hid hw3
              clear hw3
              go_wp2_with fail
              first | (refine bodyPost_ret (results_none rfl _ _ _) rfl ?_) | go_end0
              exact RgP.mk HE.out
set_option maxRecDepth 100000 in
set_option maxHeartbeats 8000000 in
theorem normal_let (H : RgIn w0 w q a k l at_ c 0 0) (hat : at_ ≤ l.length) {x : Int} (r : Bool) (ho : inS s_ops x = false) (hx : x = 64 ∨ (x = 113 ∧ r = false)) : Calls Tryd.prog 26 #[pbox q, .int .i64 x, .bool r] w (RgP w0 q a k l (letR c x (l.drop at_))) := by
  have hO := rin_of s_ops x w (by decide)
  rw [ho] at hO
  have HO := Lib.hid hO
  clear hO ho
  rcases hx with rfl | ⟨rfl, rfl⟩
  · skip
    by_cases hlt : at_ < l.length
    · obtain ⟨y, hy⟩ : ∃ y, l[at_]? = some y := ⟨_, List.getElem?_eq_getElem hlt⟩
      rw [drop_at hy]
      have HK := Lib.hid (rkey_some H hy)
      unfold letR
      simp only
      clear H hat hlt hy
      by_cases h1 : 97 ≤ y
      · have d1 : decide ((97 : Int) ≤ y) = true := decide_eq_true h1
        by_cases h2 : y ≤ 122
        · have d2 : decide (y ≤ (122 : Int)) = true := decide_eq_true h2
          rw [if_pos ⟨h1, h2⟩]
          go_enter Tryd.func26, Tryd.ntmps26
          go_wp2_with fail
          refine HO.out.mono ?_; rintro e _ ⟨rfl, rfl⟩
          go_wp2_with fail
          refine HK.out.mono ?_; rintro e w1 ⟨rfl, hw1⟩
          obtain ⟨c0, c1, c2, c3, c4, c5, c6, c7, c8⟩ := hw1.cs
          have f6 := hw1.fr 6
          have HD := Lib.hid (rdone_of (hw1.setCh y) 64)
          clear hw1
          go_wp2_with fail
          refine HD.out.mono ?_; rintro e w2 ⟨rfl, hw2⟩
          have HE := Lib.hid hw2
          clear hw2
          go_wp2_with fail
          first | (refine bodyPost_ret (results_none rfl _ _ _) rfl ?_) | go_end0
          exact RgP.mk HE.out
        · have d2 : decide (y ≤ (122 : Int)) = false := decide_eq_false h2
          rw [if_neg (fun h => h2 h.2)]
          go_enter Tryd.func26, Tryd.ntmps26
          go_wp2_with fail
          refine HO.out.mono ?_; rintro e _ ⟨rfl, rfl⟩
          go_wp2_with fail
          refine HK.out.mono ?_; rintro e w1 ⟨rfl, hw1⟩
          have HD := Lib.hid (rwrong_of hw1)
          clear hw1
          go_wp2_with fail
          refine HD.out.mono ?_; rintro e w2 ⟨rfl, hw2⟩
          have HE := Lib.hid hw2
          clear hw2
          go_wp2_with fail
          first | (refine bodyPost_ret (results_none rfl _ _ _) rfl ?_) | go_end0
          exact RgP.mk HE.out
      · have d1 : decide ((97 : Int) ≤ y) = false := decide_eq_false h1
        rw [if_neg (fun h => h1 h.1)]
        go_enter Tryd.func26, Tryd.ntmps26
        go_wp2_with fail
        refine HO.out.mono ?_; rintro e _ ⟨rfl, rfl⟩
        go_wp2_with fail
        refine HK.out.mono ?_; rintro e w1 ⟨rfl, hw1⟩
        have HD := Lib.hid (rwrong_of hw1)
        clear hw1
        go_wp2_with fail
        refine HD.out.mono ?_; rintro e w2 ⟨rfl, hw2⟩
        have HE := Lib.hid hw2
        clear hw2
        go_wp2_with fail
        first | (refine bodyPost_ret (results_none rfl _ _ _) rfl ?_) | go_end0
        exact RgP.mk HE.out
    · obtain rfl : at_ = l.length := by omega
      rw [List.drop_length]
      unfold letR
      have HK := Lib.hid (rkey_none H)
      clear H hat hlt
      go_enter Tryd.func26, Tryd.ntmps26
      go_wp2_with fail
      refine HO.out.mono ?_; rintro e _ ⟨rfl, rfl⟩
      go_wp2_with fail
      refine HK.out.mono ?_; rintro e w1 ⟨rfl, hw1⟩
      have HE := Lib.hid hw1
      clear hw1
      go_wp2_with fail
      first | (refine bodyPost_ret (results_none rfl _ _ _) rfl ?_) | go_end0
      exact RgP.mk HE.out
  · skip
    by_cases hlt : at_ < l.length
    · obtain ⟨y, hy⟩ : ∃ y, l[at_]? = some y := ⟨_, List.getElem?_eq_getElem hlt⟩
      rw [drop_at hy]
      have HK := Lib.hid (rkey_some H hy)
      unfold letR
      simp only
      clear H hat hlt hy
      by_cases h1 : 97 ≤ y
      · have d1 : decide ((97 : Int) ≤ y) = true := decide_eq_true h1
        by_cases h2 : y ≤ 122
        · have d2 : decide (y ≤ (122 : Int)) = true := decide_eq_true h2
          rw [if_pos ⟨h1, h2⟩]
          go_enter Tryd.func26, Tryd.ntmps26
          go_wp2_with fail
          refine HO.out.mono ?_; rintro e _ ⟨rfl, rfl⟩
          go_wp2_with fail
          refine HK.out.mono ?_; rintro e w1 ⟨rfl, hw1⟩
          obtain ⟨c0, c1, c2, c3, c4, c5, c6, c7, c8⟩ := hw1.cs
          have f6 := hw1.fr 6
          have HD := Lib.hid (rdone_of (hw1.setCh y) 113)
          clear hw1
          go_wp2_with fail
          refine HD.out.mono ?_; rintro e w2 ⟨rfl, hw2⟩
          have HE := Lib.hid hw2
          clear hw2
          go_wp2_with fail
          first | (refine bodyPost_ret (results_none rfl _ _ _) rfl ?_) | go_end0
          exact RgP.mk HE.out
        · have d2 : decide (y ≤ (122 : Int)) = false := decide_eq_false h2
          rw [if_neg (fun h => h2 h.2)]
          go_enter Tryd.func26, Tryd.ntmps26
          go_wp2_with fail
          refine HO.out.mono ?_; rintro e _ ⟨rfl, rfl⟩
          go_wp2_with fail
          refine HK.out.mono ?_; rintro e w1 ⟨rfl, hw1⟩
          have HD := Lib.hid (rwrong_of hw1)
          clear hw1
          go_wp2_with fail
          refine HD.out.mono ?_; rintro e w2 ⟨rfl, hw2⟩
          have HE := Lib.hid hw2
          clear hw2
          go_wp2_with fail
          first | (refine bodyPost_ret (results_none rfl _ _ _) rfl ?_) | go_end0
          exact RgP.mk HE.out
      · have d1 : decide ((97 : Int) ≤ y) = false := decide_eq_false h1
        rw [if_neg (fun h => h1 h.1)]
        go_enter Tryd.func26, Tryd.ntmps26
        go_wp2_with fail
        refine HO.out.mono ?_; rintro e _ ⟨rfl, rfl⟩
        go_wp2_with fail
        refine HK.out.mono ?_; rintro e w1 ⟨rfl, hw1⟩
        have HD := Lib.hid (rwrong_of hw1)
        clear hw1
        go_wp2_with fail
        refine HD.out.mono ?_; rintro e w2 ⟨rfl, hw2⟩
        have HE := Lib.hid hw2
        clear hw2
        go_wp2_with fail
        first | (refine bodyPost_ret (results_none rfl _ _ _) rfl ?_) | go_end0
        exact RgP.mk HE.out
    · obtain rfl : at_ = l.length := by omega
      rw [List.drop_length]
      unfold letR
      have HK := Lib.hid (rkey_none H)
      clear H hat hlt
      go_enter Tryd.func26, Tryd.ntmps26
      go_wp2_with fail
      refine HO.out.mono ?_; rintro e _ ⟨rfl, rfl⟩
      go_wp2_with fail
      refine HK.out.mono ?_; rintro e w1 ⟨rfl, hw1⟩
      have HE := Lib.hid hw1
      clear hw1
      go_wp2_with fail
      first | (refine bodyPost_ret (results_none rfl _ _ _) rfl ?_) | go_end0
      exact RgP.mk HE.out
set_option maxRecDepth 100000 in
set_option maxHeartbeats 8000000 in
theorem normal_all (H : RgIn w0 w q a k l at_ c 0 0) (hat : at_ ≤ l.length) (hc : 0 ≤ c.ct ∧ c.ct ≤ 9999) (x : Int) (r : Bool) : Calls Tryd.prog 26 #[pbox q, .int .i64 x, .bool r] w (RgP w0 q a k l (norR c x r (l.drop at_))) := by
  unfold norR
  cases ho : inS s_ops x
  · rw [if_neg (by simp)]
    by_cases h64 : x = 64
    · rw [if_pos h64]; exact normal_let H hat r ho (.inl h64)
    · rw [if_neg h64]
      have hO := rin_of s_ops x w (by decide)
      rw [ho] at hO
      have HO := Lib.hid hO
      have z64 : (x == 64) = false := beq_eq_false_iff_ne.2 h64
      by_cases h113 : x = 113
      · rw [if_pos h113]
        cases r
        · rw [if_neg (by simp)]; exact normal_let H hat false ho (.inr ⟨h113, rfl⟩)
        · rw [if_pos rfl]
          subst h113
          have HD := Lib.hid (rdone_of H 113)
          clear H hat hc ho h64 hO
          go_enter Tryd.func26, Tryd.ntmps26
          go_wp2_with fail
          refine HO.out.mono ?_; rintro e _ ⟨rfl, rfl⟩
          go_wp2_with fail
          refine HD.out.mono ?_; rintro e w2 ⟨rfl, hw2⟩
          have HE := Lib.hid hw2
          clear hw2
          go_wp2_with fail
          first | (refine bodyPost_ret (results_none rfl _ _ _) rfl ?_) | go_end0
          exact RgP.mk HE.out
      · rw [if_neg h113]
        have z113 : (x == 113) = false := beq_eq_false_iff_ne.2 h113
        have hA := rin_of s_na x w (by decide)
        have hR := rctrl_of s_nc x w (by decide)
        have HD := Lib.hid (rdone_of H x)
        have HW := Lib.hid (rwrong_of H)
        clear H hat hc ho h64 hO h113
        cases hn : inS s_na x
        · rw [if_neg (by simp)]
          rw [hn] at hA
          have HA := Lib.hid hA
          cases hcn : inR s_nc x
          · rw [if_neg (by simp)]
            rw [hcn] at hR
            have HR := Lib.hid hR
            clear hA hR hn hcn
            go_enter Tryd.func26, Tryd.ntmps26
            go_wp2_with fail
            refine HO.out.mono ?_; rintro e _ ⟨rfl, rfl⟩
            go_wp2_with fail
            refine HA.out.mono ?_; rintro e _ ⟨rfl, rfl⟩
            go_wp2_with fail
            refine HR.out.mono ?_; rintro e _ ⟨rfl, rfl⟩
            go_wp2_with fail
            refine HW.out.mono ?_; rintro e w2 ⟨rfl, hw2⟩
            have HE := Lib.hid hw2
            clear hw2
            go_wp2_with fail
            first | (refine bodyPost_ret (results_none rfl _ _ _) rfl ?_) | go_end0
            exact RgP.mk HE.out
          · rw [if_pos rfl]
            rw [hcn] at hR
            have HR := Lib.hid hR
            clear hA hR hn hcn
            go_enter Tryd.func26, Tryd.ntmps26
            go_wp2_with fail
            refine HO.out.mono ?_; rintro e _ ⟨rfl, rfl⟩
            go_wp2_with fail
            refine HA.out.mono ?_; rintro e _ ⟨rfl, rfl⟩
            go_wp2_with fail
            refine HR.out.mono ?_; rintro e _ ⟨rfl, rfl⟩
            go_wp2_with fail
            refine HD.out.mono ?_; rintro e w2 ⟨rfl, hw2⟩
            have HE := Lib.hid hw2
            clear hw2
            go_wp2_with fail
            first | (refine bodyPost_ret (results_none rfl _ _ _) rfl ?_) | go_end0
            exact RgP.mk HE.out
        · rw [if_pos rfl]
          rw [hn] at hA
          have HA := Lib.hid hA
          clear hA hR hn
          go_enter Tryd.func26, Tryd.ntmps26
          go_wp2_with fail
          refine HO.out.mono ?_; rintro e _ ⟨rfl, rfl⟩
          go_wp2_with fail
          refine HA.out.mono ?_; rintro e _ ⟨rfl, rfl⟩
          go_wp2_with fail
          refine HD.out.mono ?_; rintro e w2 ⟨rfl, hw2⟩
          have HE := Lib.hid hw2
          clear hw2
          go_wp2_with fail
          first | (refine bodyPost_ret (results_none rfl _ _ _) rfl ?_) | go_end0
          exact RgP.mk HE.out
  · rw [if_pos rfl]
    have hO := rin_of s_ops x w (by decide)
    rw [ho] at hO
    have HO := Lib.hid hO
    have HK := Lib.hid (operated_all H hat hc x)
    clear H hat hc ho hO
    go_enter Tryd.func26, Tryd.ntmps26
    go_wp2_with fail
    refine HO.out.mono ?_; rintro e _ ⟨rfl, rfl⟩
    go_wp2_with fail
    refine HK.out.mono ?_; rintro e w2 ⟨rfl, i2, hw2⟩
    have HE := Lib.hid hw2
    clear hw2
    go_wp2_with fail
    first | (refine bodyPost_ret (results_none rfl _ _ _) rfl ?_) | go_end0
    exact RgP.mk HE.out
end
end Go.Proofs.YtjmpokgdgnjojaaDoor
