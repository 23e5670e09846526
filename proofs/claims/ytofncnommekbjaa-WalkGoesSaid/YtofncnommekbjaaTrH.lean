/-
  Contracts of layer 9, nodes of ints: set, insert; at this seat's numbers.
-/
import Derived.Test.YtofncnommekbjaaTrF
import Derived.Test.YtofncnommekbjaaTrG
namespace Go.Proofs.Ytofncnommekbjaa
open Go Go.RowKit
set_option linter.unusedVariables false

/-- Values that stand for things. -/
def EsU (w : World) (T : TypeId) (h : Nat) (ts : List (El h)) (us : List Value) : Prop := us.length = ts.length ∧ ∀ (i : Nat) (x : El h) (y : Value), ts[i]? = some x → us[i]? = some y → InE w T h x y
theorem EsU.take {w : World} {T : TypeId} {h : Nat} {ts : List (El h)} {us : List Value} (H : EsU w T h ts us) (i : Nat) : EsU w T h (ts.take i) (us.take i) := by
  refine ⟨by rw [List.length_take, List.length_take, H.1], fun j x y hx hy => ?_⟩
  rw [List.getElem?_take] at hx hy
  split at hx
  · rename_i hj; rw [if_pos hj] at hy; exact H.2 j x y hx hy
  · cases hx
theorem EsU.drop {w : World} {T : TypeId} {h : Nat} {ts : List (El h)} {us : List Value} (H : EsU w T h ts us) (i : Nat) : EsU w T h (ts.drop i) (us.drop i) := by
  refine ⟨by rw [List.length_drop, List.length_drop, H.1], fun j x y hx hy => ?_⟩
  rw [List.getElem?_drop] at hx hy
  exact H.2 _ x y hx hy
theorem EsU.app {w : World} {T : TypeId} {h : Nat} {ts ss : List (El h)} {us vs : List Value} (H : EsU w T h ts us) (K : EsU w T h ss vs) : EsU w T h (ts ++ ss) (us ++ vs) := by
  refine ⟨by rw [List.length_append, List.length_append, H.1, K.1], fun j x y hx hy => ?_⟩
  by_cases h1 : j < ts.length
  · rw [List.getElem?_append_left h1] at hx
    rw [List.getElem?_append_left (by rw [H.1]; exact h1)] at hy
    exact H.2 _ x y hx hy
  · rw [List.getElem?_append_right (by omega)] at hx
    rw [List.getElem?_append_right (by rw [H.1]; omega), H.1] at hy
    exact K.2 _ x y hx hy
theorem EsU.below {w w' : World} {T : TypeId} {h : Nat} {ts : List (El h)} {us : List Value} (H : EsU w T h ts us) (hb : Below w.heap.size w w') : EsU w' T h ts us := ⟨H.1, fun i x y hx hy => (H.2 i x y hx hy).below hb⟩
theorem EsU.repl {w : World} {T : TypeId} {h : Nat} {ts ss : List (El h)} {us vs : List Value} (H : EsU w T h ts us) (K : EsU w T h ss vs) (i j : Nat) : EsU w T h (replL ts i j ss) (us.take i ++ vs ++ us.drop j) := ((H.take i).app K).app (H.drop j)
theorem Es.one {w : World} {T E : TypeId} {h : Nat} {t : List (El h)} {b : Nat} (H : In w T h t b) : Es (w.alloc (Obj.cells #[ptr b] E)) T (h + 1) [mk1 t] (some ⟨w.heap.size, 0, none⟩) 1 := by
  have hn : Sl (w.alloc (Obj.cells #[ptr b] E)) (some ⟨w.heap.size, 0, none⟩) [ptr b].length [ptr b] := Sl.new (heap_alloc_new w (Obj.cells #[ptr b] E)) (by unfold maxLen; simp) (fun u hu => by simp at hu; subst hu; rfl)
  refine ⟨[ptr b], hn, rfl, fun i x y hx hy => ?_⟩
  have hi : i = 0 := by
    have := (List.getElem?_eq_some_iff.1 hx).1
    simp at this; omega
  subst hi
  cases hx
  cases hy
  exact (in_of H).below (t_al w _)
theorem In.es {w : World} {T : TypeId} {h : Nat} {t : List (El h)} {b : Nat} (H : In w T h t b) (hn : 0 < t.length) : ∃ g o c, w.heap[b]? = some (.cells (nodeC h (some ⟨g, o, none⟩) t.length c (flatL h t).length) T (0, 0)) ∧ Es w T h t (some ⟨g, o, none⟩) c := by
  obtain ⟨a, c, h1, _, h2⟩ := H
  obtain ⟨g, o, rfl, _⟩ := h2.has hn
  exact ⟨g, o, c, h1, h2⟩
theorem nth_flat {h : Nat} {ks : List (El (h + 1))} {k : Nat} (hk : k < ks.length) : (flatL h (nth ks k)).length ≤ (flatL (h + 1) ks).length := by
  rw [flat_split hk, List.length_append, List.length_append]; omega
theorem ereplI_i {w : World} {g o c n i j m : Nat} {I J : Int} {a2 : Option Addr} {c2 : Nat} {ts os : List (El 0)} (H : Es w 95 0 ts (some ⟨g, o, none⟩) c) (H2 : Es w 95 0 os a2 c2) (hn : ts.length = n) (hm : os.length = m) (hij : i ≤ j) (hj : j ≤ n) (hl : n + m ≤ 1000000) (eI : I = i) (eJ : J = j) :
    Calls Try.prog 95 #[.slice (some ⟨g, o, none⟩) n c, .int .i64 I, .int .i64 J, .slice a2 m c2] w fun e w' => ∃ a c', e = .returned (.slice a (i + m + (n - j)) c') ∧ Es w' 95 0 (replL ts i j os) a c' ∧ Below w.heap.size w w' := by
  subst eI eJ
  obtain ⟨us, h1, h2⟩ := H
  obtain ⟨vs, k1, k2⟩ := H2
  refine (replaced_int h1 k1 (by rw [← hn]; exact h2.1) (by rw [← hm]; exact k2.1) hij hj hl).mono ?_
  rintro e w' ⟨a, c', rfl, hs, hb⟩
  exact ⟨a, c', rfl, ⟨_, hs, (EsU.repl (w := w) h2 k2 i j).below hb⟩, hb⟩
theorem ereplN_i {w : World} {h g o c n i j m : Nat} {I J : Int} {a2 : Option Addr} {c2 : Nat} {ts os : List (El (h + 1))} (H : Es w 95 (h + 1) ts (some ⟨g, o, none⟩) c) (H2 : Es w 95 (h + 1) os a2 c2) (hn : ts.length = n) (hm : os.length = m) (hij : i ≤ j) (hj : j ≤ n) (hl : n + m ≤ 1000000) (eI : I = i) (eJ : J = j) :
    Calls Try.prog 96 #[.slice (some ⟨g, o, none⟩) n c, .int .i64 I, .int .i64 J, .slice a2 m c2] w fun e w' => ∃ a c', e = .returned (.slice a (i + m + (n - j)) c') ∧ Es w' 95 (h + 1) (replL ts i j os) a c' ∧ Below w.heap.size w w' := by
  subst eI eJ
  obtain ⟨us, h1, h2⟩ := H
  obtain ⟨vs, k1, k2⟩ := H2
  refine (replaced_ni h1 k1 (by rw [← hn]; exact h2.1) (by rw [← hm]; exact k2.1) hij hj hl).mono ?_
  rintro e w' ⟨a, c', rfl, hs, hb⟩
  exact ⟨a, c', rfl, ⟨_, hs, (EsU.repl (w := w) h2 k2 i j).below hb⟩, hb⟩
/-- leaf of things in memory. -/
theorem eleaf_i {w : World} {a : Option Addr} {c n : Nat} {ts : List (El 0)} (H : Es w 95 0 ts a c) (hn : ts.length = n) (hl : n ≤ 1000000) :
    Calls Try.prog 45 #[.slice a n c] w fun e w' => ∃ b, e = .returned (ptr b) ∧ In w' 95 0 ts b ∧ Below w.heap.size w w' := by
  have hs := H.zero
  refine (leaf_i hs hn hl).mono ?_
  rintro e w' ⟨b, rfl, hr, hb⟩
  have h1 : (flatL 0 ts).length = n := by rw [flatLen0]; exact hn
  rw [← h1] at hr
  exact ⟨b, rfl, hr.in rfl hb (fun i x y hx hy => (Option.some.inj (hx.symm.trans hy)).symm), hb⟩
theorem eabove_i {w : World} {h : Nat} {a : Option Addr} {c n : Nat} {ts : List (El (h + 1))} (H : Es w 95 (h + 1) ts a c) (hn : ts.length = n) (hl : n ≤ 1000000) (hf : (flatL (h + 1) ts).length ≤ 1000000) :
    Calls Try.prog 75 #[.slice a n c] w fun e w' => ∃ b, e = .returned (ptr b) ∧ In w' 95 (h + 1) ts b ∧ Below w.heap.size w w' := by
  obtain ⟨us, h1, h2, h3⟩ := H
  refine (above_i h1 h2 h3 hn hl hf).mono ?_
  rintro e w' ⟨b, rfl, hr, hb⟩
  exact ⟨b, rfl, hr.in h2 hb h3, hb⟩

set_option maxRecDepth 100000 in
set_option maxHeartbeats 1000000 in
theorem set0_i (X : Int) {w : World} {t : List (El 0)} {b : Nat} (i : Nat) (H : In w 95 0 t b) (hw : Wf 0 t) (hi : i < (flatL 0 t).length) (hf : (flatL 0 t).length ≤ 100000) :
    Calls Try.prog 80 #[ptr b, .int .i64 i, .int .i64 X] w fun e w' => ∃ b', e = .returned (ptr b') ∧ In w' 95 0 (setT 0 t i (.int .i64 X)) b' ∧ Below w.heap.size w w' := by
  have HL := Lib.hid (isleaf_i H)
  obtain ⟨g, o, c, hh, he⟩ := H.es hw.len.1
  have h0 : (flatL 0 t).length = t.length := flatLen0 t
  rw [h0] at hi hf
  obtain ⟨n, hn⟩ : ∃ n, t.length = n := ⟨_, rfl⟩
  have hn6 := hw.len.2
  rw [hn] at hi hf hn6
  have c0 : w.cell? ⟨b, 0, none⟩ = some (.slice none 0 0) := by rw [cell_at hh]; rfl
  have c1 : w.cell? ⟨b, 1, none⟩ = some (.slice (some ⟨g, o, none⟩) n c) := by rw [cell_at hh, ← hn]; rfl
  have al := t_al w (Obj.cells #[.int .i64 X] 3)
  have hnw : Sl (w.alloc (Obj.cells #[.int .i64 X] 3)) (some ⟨w.heap.size, 0, none⟩) 1 [.int .i64 X] := Sl.new (xs := [.int .i64 X]) (heap_alloc_new w (Obj.cells #[.int .i64 X] 3)) (by unfold maxLen; simp) (fun u hu => by simp at hu; subst hu; rfl)
  have HAL := Lib.hid al
  have HR := Lib.hid (ereplI_i (I := i) (J := (i : Int) + 1) (i := i) (j := i + 1) (m := 1) (os := v0 [.int .i64 X]) (he.below al) (Es.ofSl hnw) hn rfl (by omega) (by omega) (by omega) rfl (by omega))
  rw [show i + 1 + (n - (i + 1)) = n by omega] at HR
  have hwr : IntKind.i64.wrap ((i : Int) + 1) = (i : Int) + 1 := by rw [IntKind.wrap_i64]; omega
  have hrl : (replL t i (i + 1) (v0 [.int .i64 X])).length = n := by rw [replL_len _ _ (by omega) (by omega), hn]; show i + 1 + _ = _; omega
  have HRL := Lib.hid hrl
  clear H hh he al hnw h0 hw hrl
  go_enter Try.func80, Try.ntmps80
  go_wp2_with fail
  refine HL.out.mono ?_; rintro e w1 ⟨rfl, rfl⟩
  go_wp2_with fail
  refine HR.out.mono ?_; rintro e w2 ⟨a2, c2, rfl, he2, hb2⟩
  have HE := Lib.hid (eleaf_i he2 HRL.out (by omega))
  have HB2 := Lib.hid (HAL.out.trans (hb2.mono HAL.out.size))
  clear he2 hb2 HR HL
  go_wp2_with fail
  refine HE.out.mono ?_; rintro e w3 ⟨b3, rfl, hin, hb3⟩
  have HI := Lib.hid hin
  have HB3 := Lib.hid (HB2.out.trans (hb3.mono HB2.out.size))
  clear hin hb3 HE
  go_wp2_with fail
  go_ret
  exact ⟨b3, rfl, HI.out, HB3.out⟩

set_option maxRecDepth 100000 in
set_option maxHeartbeats 1000000 in
theorem setS_i (X : Int) (h : Nat) (REC : ∀ {w : World} {t : List (El h)} {b : Nat} (i : Nat), In w 95 h t b → Wf h t → i < (flatL h t).length → (flatL h t).length ≤ 100000 →
      Calls Try.prog 80 #[ptr b, .int .i64 i, .int .i64 X] w fun e w' => ∃ b', e = .returned (ptr b') ∧ In w' 95 h (setT h t i (.int .i64 X)) b' ∧ Below w.heap.size w w')
    {w : World} {ks : List (El (h + 1))} {b : Nat} (i : Nat) (H : In w 95 (h + 1) ks b) (hw : Wf (h + 1) ks) (hi : i < (flatL (h + 1) ks).length) (hf : (flatL (h + 1) ks).length ≤ 100000) :
    Calls Try.prog 80 #[ptr b, .int .i64 i, .int .i64 X] w fun e w' => ∃ b', e = .returned (ptr b') ∧ In w' 95 (h + 1) (setT (h + 1) ks i (.int .i64 X)) b' ∧ Below w.heap.size w w' := by
  have HL := Lib.hid (notleaf_i H hw.len.1)
  have HK := Lib.hid (kid_i H hw.len.1 (by have := hw.len.2; omega) i (by omega))
  obtain ⟨h1, h2, h3, _⟩ := kid_at hw.len.1 i
  have h3 := h3 hi
  have hfs := flat_set (h + 1) ks i (.int .i64 X) hw hi
  have hwk := hw.kid h1
  have hfk := nth_flat h1
  have hdef : setT (h + 1) ks i (.int .i64 X) = replL ks (kidP (szs h ks) i).1 ((kidP (szs h ks) i).1 + 1) [mk1 (setT h (nth ks (kidP (szs h ks) i).1) (kidP (szs h ks) i).2 (.int .i64 X))] := rfl
  have hfl : (flatL (h + 1) (setT (h + 1) ks i (.int .i64 X))).length ≤ 1000000 := by
    rw [hfs, replL_len _ _ (by omega) (by omega)]; simp; omega
  generalize hT : setT (h + 1) ks i (.int .i64 X) = R at *
  generalize (kidP (szs h ks) i).1 = k at *
  generalize (kidP (szs h ks) i).2 = j at *
  obtain ⟨g, o, c, hh, he⟩ := H.es hw.len.1
  obtain ⟨b', hcb, hin⟩ := he.at (x := nth ks k) (nth_at h1)
  obtain ⟨n, hn⟩ : ∃ n, ks.length = n := ⟨_, rfl⟩
  have hn6 := hw.len.2
  rw [hn] at h1 hn6
  have c0 : w.cell? ⟨b, 0, none⟩ = some (.slice (some ⟨g, o, none⟩) n c) := by rw [cell_at hh, ← hn]; rfl
  have hbl := H.lt
  obtain ⟨us, hsl, _⟩ := id he
  have hgl : g < w.heap.size := by
    obtain ⟨g', o', e', hg⟩ := (he.has (by omega))
    cases e'; exact hg
  have IH := Lib.hid (fun w' (hb : Below w.heap.size w w') => REC (w := w') j (hin.below hb) hwk h3 (by omega))
  have HRp : Hid (∀ w5 b5, Below w.heap.size w w5 → In w5 95 h (setT h (nth ks k) j (.int .i64 X)) b5 → Calls Try.prog 96 #[.slice (some ⟨g, o, none⟩) n c, .int .i64 k, .int .i64 ((k : Int) + 1), .slice (some ⟨w5.heap.size, 0, none⟩) 1 1] (w5.alloc (Obj.cells #[ptr b5] 25)) fun e w6 => ∃ a c', e = .returned (.slice a n c') ∧ Es w6 95 (h + 1) R a c' ∧ Below w5.heap.size w5 w6) := by
    refine Lib.hid (fun w5 b5 hb hi5 => ?_)
    have al := t_al w5 (Obj.cells #[ptr b5] 25)
    refine (ereplN_i (i := k) (j := k + 1) ((he.below hb).below al) (Es.one hi5) hn rfl (by omega) (by omega) (by show n + 1 ≤ _; omega) rfl (by omega)).mono ?_
    rintro e w6 ⟨a6, c6, rfl, he6, hb6⟩
    refine ⟨a6, c6, by show Ending.returned (.slice a6 (k + 1 + (n - (k + 1))) c6) = _; rw [show k + 1 + (n - (k + 1)) = n by omega], by rw [hdef]; exact he6, al.trans (hb6.mono al.size)⟩
  have HAb := Lib.hid (fun w6 a6 c6 (he6 : Es w6 95 (h + 1) R a6 c6) => eabove_i he6 (show R.length = n by rw [hdef, replL_len _ _ (by omega) (by omega), hn]; simp; omega) (by omega) hfl)
  have e0 : (0 : Int) ≤ (k : Int) := by omega
  have e1 : (k : Int) < (n : Int) := by omega
  have hwr : IntKind.i64.wrap ((k : Int) + 1) = (k : Int) + 1 := by rw [IntKind.wrap_i64]; omega
  clear H hh he hin hfs hwk hfk hdef hfl hT hw hi hf h2 h3 hsl
  go_enter Try.func80, Try.ntmps80
  go_wp2_with fail
  refine HL.out.mono ?_; rintro e w1 ⟨rfl, rfl⟩
  go_wp2_with fail
  refine HK.out.mono ?_; rintro e w1 ⟨rfl, rfl⟩
  go_upto_region 4 with fail
  have ld0 := fun w' (h : Below w.heap.size w w') => (h.cell (p := ⟨b, 0, none⟩) hbl).trans c0
  have ld1 := fun w' (h : Below w.heap.size w w') => (h.cell (p := ⟨g, o + k, none⟩) hgl).trans hcb
  have hb0 : Below w.heap.size w w.drew := (Below.refl _ _).drew
  clear c0 hcb HL HK
  go_region_held_law (fun w' => Below w.heap.size w w')
    (first | assumption | exact Below.alloc (by assumption) (Below.size (by assumption)) _)
    ((first
      | (go_at_call 80; refine (IH.out _ hb0).mono ?_; rintro e w5 ⟨b5, rfl, hi5, hb5⟩; have hs5 := hb0.trans (hb5.mono hb0.size); have HI5 := Lib.hid hi5; clear hb5 hi5)
      | (go_at_call 96; refine (HRp.out w5 b5 hs5 HI5.out).mono ?_; rintro e w6 ⟨a6, c6, rfl, he6, hb6⟩; have hs6 := hs5.trans (hb6.mono hs5.size); have HE6 := Lib.hid he6; clear hb6 he6)
      | (go_at_call 75; refine (HAb.out w6 a6 c6 HE6.out).mono ?_; rintro e w7 ⟨b7, rfl, hi7, hb7⟩; have hs7 := hs6.trans (hb7.mono hs6.size); have HI7 := Lib.hid hi7; clear hb7 hi7)))
  all_goals
    have HS7 := Lib.hid hs7
    clear ld0 ld1 hs7 hs6 hs5 hb0
    go_wp2_with fail
    go_ret
    exact ⟨b7, rfl, HI7.out, HS7.out⟩

theorem set_i (X : Int) : ∀ (h : Nat) {w : World} {t : List (El h)} {b : Nat} (i : Nat), In w 95 h t b → Wf h t → i < (flatL h t).length → (flatL h t).length ≤ 100000 →
    Calls Try.prog 80 #[ptr b, .int .i64 i, .int .i64 X] w fun e w' => ∃ b', e = .returned (ptr b') ∧ In w' 95 h (setT h t i (.int .i64 X)) b' ∧ Below w.heap.size w w'
  | 0, w, t, b, i, H, hw, hi, hf => set0_i X i H hw hi hf
  | h + 1, w, t, b, i, H, hw, hi, hf => setS_i X h (fun i => set_i X h i) i H hw hi hf

end Go.Proofs.Ytofncnommekbjaa
