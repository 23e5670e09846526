/-
  Texts of this seat, put together (a claim holds few texts): TgF.
-/
import Derived.Test.YtkgakgceamafcaaMk7
import Derived.Deep.OwnRows

namespace Go.Proofs.Ytkgakgceamafcaa
open Go Go.RowKit
set_option linter.unusedVariables false

/-- Below which kid the i-th thing lies, by how many each one has; and which one it is there. -/
def kidP : List Nat → Nat → Nat × Nat
  | [], i => (0, i)
  | [_], i => (0, i)
  | x :: y :: r, i => if i < x then (0, i) else ((kidP (y :: r) (i - x)).1 + 1, (kidP (y :: r) (i - x)).2)
theorem kidP_stop {x y : Nat} {r : List Nat} {i : Nat} (h : i < x) : kidP (x :: y :: r) i = (0, i) := by simp [kidP, h]
theorem kidP_go {x y : Nat} {r : List Nat} {i : Nat} (h : ¬ i < x) : kidP (x :: y :: r) i = ((kidP (y :: r) (i - x)).1 + 1, (kidP (y :: r) (i - x)).2) := by simp [kidP, h]
theorem kidP_spec : ∀ (l : List Nat) (i : Nat), l ≠ [] → (kidP l i).1 < l.length ∧ (l.take (kidP l i).1).sum + (kidP l i).2 = i ∧ (i < l.sum → (kidP l i).2 < l.getD (kidP l i).1 0) ∧ (i ≤ l.sum → (kidP l i).2 ≤ l.getD (kidP l i).1 0)
  | [], i, h => absurd rfl h
  | [x], i, _ => by simp [kidP]
  | x :: y :: r, i, _ => by
    by_cases h : i < x
    · rw [kidP_stop h]; simp; omega
    · obtain ⟨h1, h2, h3, h4⟩ := kidP_spec (y :: r) (i - x) (by simp)
      rw [kidP_go h]
      refine ⟨by simp at h1 ⊢; omega, ?_, ?_, ?_⟩
      · simp only [List.take_succ_cons, List.sum_cons]; omega
      · intro hs; rw [List.sum_cons] at hs; simp only [List.getD_cons_succ]; exact h3 (by omega)
      · intro hs; rw [List.sum_cons] at hs; simp only [List.getD_cons_succ]; exact h4 (by omega)
/-- How many values lie below each. -/
def szs (h : Nat) (ks : List (El (h + 1))) : List Nat := ks.map fun k => (flatE (h + 1) k).length
theorem szs_len (h : Nat) (ks : List (El (h + 1))) : (szs h ks).length = ks.length := by unfold szs; simp
theorem szs_at {h : Nat} {ks : List (El (h + 1))} {k : Nat} {x : List (El h)} (hx : ks[k]? = some x) : (szs h ks)[k]? = some (flatL h x).length := by unfold szs; rw [List.getElem?_map, hx]; rfl
theorem szs_drop {h : Nat} {ks : List (El (h + 1))} {k : Nat} {x : List (El h)} (hx : ks[k]? = some x) : (szs h ks).drop k = (flatL h x).length :: (szs h ks).drop (k + 1) := by
  have h1 := szs_at hx
  have h2 := (List.getElem?_eq_some_iff.1 h1)
  rw [List.drop_eq_getElem_cons h2.1, h2.2]
theorem szs_sum (h : Nat) (ks : List (El (h + 1))) : (szs h ks).sum = (flatL (h + 1) ks).length := by
  induction ks with
  | nil => rfl
  | cons k ks ih => rw [flatL_cons, List.length_append, ← ih]; rfl

theorem Es.part {w : World} {T : TypeId} {h : Nat} {ts : List (El h)} {g o c n k : Nat} (H : Es w T h ts (Option.some ⟨g, o, Option.none⟩) c) (hn : ts.length = n) (hk : k < fewN n) : Es w T h (partOf ts k) (Option.some ⟨g, o + stp h (cutAt n k), Option.none⟩) (c - cutAt n k) ∧ (partOf ts k).length = cutAt n (k + 1) - cutAt n k := by
  subst hn
  have h0 : 0 < ts.length := by unfold fewN at hk; omega
  have h1 := cutAt_lt (k := k) h0
  have h2 := cutAt_le (n := ts.length) (k := k + 1) hk
  refine ⟨?_, partOf_len ts hk⟩
  have := (H.take (cutAt ts.length (k + 1))).drop (i := cutAt ts.length k) (by rw [List.length_take]; omega) ⟨g, o + stp h (cutAt ts.length k), Option.none⟩ (fun _ => rfl) ⟨g, _, rfl⟩
  exact this
theorem cut_div {n k : Nat} (hn : n ≤ 1000000) (hk : k ≤ fewN n) : IntKind.i64.wrap ((k : Int) * (n : Int)) = (k : Int) * (n : Int) ∧ IntKind.i64.wrap (((k : Int) * (n : Int)).tdiv (fewN n : Int)) = (cutAt n k : Int) := by
  have h1 : k * n ≤ 1000000 * 1000000 := Nat.mul_le_mul (by have := fewN_le n; omega) hn
  have h2 : (k : Int) * (n : Int) = ((k * n : Nat) : Int) := by rw [Int.natCast_mul]
  have h3 : ((k * n : Nat) : Int).tdiv (fewN n : Int) = (cutAt n k : Int) := by
    unfold cutAt
    rw [Int.tdiv_eq_ediv_of_nonneg (by omega)]; norm_cast
  have h4 := cutAt_le hk
  rw [h2, h3]
  constructor
  · rw [IntKind.wrap_i64]; omega
  · rw [IntKind.wrap_i64]; omega
theorem flatLen0 (t : List (El 0)) : (flatL 0 t).length = t.length := congrArg List.length (flatL_zero t)
/-- The cells of a row of nodes, the first ones of which are made. -/
def mkC (bs : List Nat) (n : Nat) : Array Value := (bs.map ptr ++ List.replicate (n - bs.length) (Value.pointer none)).toArray
theorem mkC_set {bs : List Nat} {n : Nat} (h : bs.length < n) (b : Nat) : (mkC bs n).setIfInBounds bs.length (ptr b) = mkC (bs ++ [b]) n := by
  apply Array.ext'
  unfold mkC
  have e : n - bs.length = (n - (bs ++ [b]).length) + 1 := by simp; omega
  rw [e, List.replicate_succ]
  simp
theorem mkC_full {bs : List Nat} {n : Nat} (h : bs.length = n) : mkC bs n = (bs.map ptr).toArray := by unfold mkC; simp [h]
theorem mkC_at {bs : List Nat} {n : Nat} (h : bs.length < n) : (mkC bs n)[bs.length]? = some (Value.pointer none) := by
  unfold mkC
  have e : n - bs.length = (n - bs.length - 1) + 1 := by omega
  rw [e, List.replicate_succ]
  simp
theorem mkC_len (bs : List Nat) (n : Nat) (h : bs.length ≤ n) : (mkC bs n).size = n := by unfold mkC; simp; omega
theorem mkC_made (n : Nat) : madeCells #[Value.pointer none] n = mkC [] n := by
  apply Array.ext
  · rw [size_madeCells]; simp [mkC]
  · intro i h1 h2
    simp [madeCells, mkC, Nat.mod_one]
theorem part_idx {α β : Type} {ts : List α} {us : List β} (hl : us.length = ts.length) {P : α → β → Prop} (H : ∀ (i : Nat) (x : α) (y : β), ts[i]? = some x → us[i]? = some y → P x y) (k : Nat) : (partOf us k).length = (partOf ts k).length ∧ ∀ (i : Nat) (x : α) (y : β), (partOf ts k)[i]? = some x → (partOf us k)[i]? = some y → P x y := by
  unfold partOf
  rw [hl]
  refine ⟨by rw [List.length_drop, List.length_drop, List.length_take, List.length_take, hl], fun i x y hx hy => ?_⟩
  rw [List.getElem?_drop, List.getElem?_take] at hx hy
  split at hx
  · rename_i h; rw [if_pos h] at hy; exact H _ x y hx hy
  · cases hx
theorem Sl.part {w : World} {us : List Value} {g o c n k : Nat} (H : Sl w (Option.some ⟨g, o, Option.none⟩) c us) (hn : us.length = n) (hk : k < fewN n) : Sl w (Option.some ⟨g, o + cutAt n k, Option.none⟩) (c - cutAt n k) (partOf us k) ∧ (partOf us k).length = cutAt n (k + 1) - cutAt n k := by
  subst hn
  have h0 : 0 < us.length := by unfold fewN at hk; omega
  have h1 := cutAt_lt (k := k) h0
  have h2 := cutAt_le (n := us.length) (k := k + 1) hk
  refine ⟨?_, partOf_len us hk⟩
  exact (H.take (cutAt us.length (k + 1))).drop (i := cutAt us.length k) (by rw [List.length_take]; omega) ⟨g, o + cutAt us.length k, Option.none⟩ (fun _ => rfl) ⟨g, _, rfl⟩
theorem S3.part {w : World} {us : List Value} {g o c n k : Nat} (H : S3 w (Option.some ⟨g, o, Option.none⟩) c us) (hn : us.length = n) (hk : k < fewN n) : S3 w (Option.some ⟨g, o + cutAt n k * 3, Option.none⟩) (c - cutAt n k) (partOf us k) ∧ (partOf us k).length = cutAt n (k + 1) - cutAt n k := by
  subst hn
  have h0 : 0 < us.length := by unfold fewN at hk; omega
  have h1 := cutAt_lt (k := k) h0
  have h2 := cutAt_le (n := us.length) (k := k + 1) hk
  refine ⟨?_, partOf_len us hk⟩
  exact (H.take (cutAt us.length (k + 1))).drop (i := cutAt us.length k) (by rw [List.length_take]; omega) ⟨g, o + cutAt us.length k * 3, Option.none⟩ (fun _ => rfl) ⟨g, _, rfl⟩
theorem part_flat {h : Nat} (ts : List (El h)) (k : Nat) : (flatL h (partOf ts k)).length ≤ (flatL h ts).length := by
  have h1 : ∀ (l : List (El h)) i, (flatL h (l.take i)).length ≤ (flatL h l).length := fun l i => by
    conv => rhs; rw [← List.take_append_drop i l, flatL_app, List.length_append]
    omega
  have h2 : ∀ (l : List (El h)) i, (flatL h (l.drop i)).length ≤ (flatL h l).length := fun l i => by
    conv => rhs; rw [← List.take_append_drop i l, flatL_app, List.length_append]
    omega
  exact Nat.le_trans (h2 _ _) (h1 _ _)
theorem ptr_one (bs : List Nat) : ∀ u ∈ bs.map ptr, u.oneCell' = true := by
  intro u hu
  obtain ⟨b, _, rfl⟩ := List.mem_map.1 hu
  rfl

set_option maxRecDepth 100000 in
set_option maxHeartbeats 4000000 in
theorem pack_li {w : World}  {a : Option Addr} {c n : Nat} {ts : List (El 0)} (H : Es w 118 0 ts a c) (hn : ts.length = n) (hl : n ≤ 100000) (hf : (flatL 0 ts).length ≤ 1000000) :
    Calls Try.prog 45 #[.func (.func 46) #[] #[], .slice a n c] w fun e w' => ∃ a' c', e = .returned (.slice a' (fewN n) c') ∧ Es w' 118 (0 + 1) (pts ts) a' c' ∧ Below w.heap.size w w' := by
  have hcap := H.cap
  obtain ⟨us, hsl, hul, hus⟩ := H
  replace hsl : S3 w a c us := hsl
  have HSL := Lib.hid hsl
  have HUL := Lib.hid hul
  have HUS := Lib.hid hus
  have HN := Lib.hid hn
  have HF := Lib.hid hf
  have hcm := hcap.2
  unfold maxLen at hcm
  have hcn := hcap.1
  rw [hn] at hcn
  obtain ⟨few, hfew⟩ : ∃ f, fewN n = f := ⟨_, rfl⟩
  have HFW := Lib.hid hfew
  have hfl : few ≤ n := by rw [← hfew]; exact fewN_le n
  have hwa : IntKind.i64.wrap ((n : Int) + 6) = (n : Int) + 6 := by rw [IntKind.wrap_i64]; omega
  have hwb : IntKind.i64.wrap ((n : Int) + 6 - 1) = (n : Int) + 5 := by rw [IntKind.wrap_i64]; omega
  have hwc : ((n : Int) + 5).tdiv 6 = (few : Int) := by rw [Int.tdiv_eq_ediv_of_nonneg (by omega), ← hfew]; unfold fewN; omega
  have hmk := fun w => Go.run_make_row' (P := Try.prog) 102 46 (.pointer none) 8 Try.underlying102 info_ni rfl .i64 .i64 few (by omega) (by omega) w
  rw [mkC_made] at hmk
  rw [hfew]
  clear hn hf hcap hfew hsl hul hus
  go_enter Try.func45, Try.ntmps45
  go_upto_region 3 with fail
  have hh := heap_alloc_new w (.cells (mkC [] few) 46)
  have al := t_al w (.cells (mkC [] few) 46)
  generalize w.alloc (.cells (mkC [] few) 46) = w2 at *
  have HH := Lib.hid hh
  have HAL := Lib.hid al
  clear hh al hmk
  go_wp2_with fail
  go_loopw [7, 17] (fun v7 v17 wr => ∃ bs : List Nat, v17 = .int .i64 bs.length ∧ bs.length ≤ few ∧ wr.heap[w.heap.size]? = some (.cells (mkC bs few) 46 (0, 0)) ∧ (∀ (i b : Nat), bs[i]? = some b → RawN (w.heap.size + 1) wr 118 0 (partOf us i) (flatL 0 (partOf ts i)).length b) ∧ Below w.heap.size w wr) (fun _ i _ => few - (intOf i).toNat)
  case atStart => exact ⟨[], rfl, by simp, HH.out, fun i b hb => by simp at hb, HAL.out⟩
  case round =>
    obtain ⟨bs, rfl, hbl, hw, hraw, hbw⟩ := hrel
    have HW := Lib.hid hw
    have HR := Lib.hid hraw
    have HBW := Lib.hid hbw
    have hzw := lt_of_heap hw
    obtain ⟨k, hk⟩ : ∃ k, bs.length = k := ⟨_, rfl⟩
    have HK := Lib.hid hk
    rw [hk] at hbl ⊢
    by_cases hlt : k < few
    · have dk : decide (k < few) = true := decide_eq_true hlt
      have hkf : k < fewN n := by rw [HFW.out]; exact hlt
      have hn0 : 0 < n := by unfold fewN at hkf; omega
      obtain ⟨g, o, rfl, hg, _⟩ := HSL.out.rd.2 (by rw [HUL.out, HN.out]; exact hn0)
      obtain ⟨hp1, hp2⟩ := HSL.out.part (k := k) (by rw [HUL.out, HN.out]) hkf
      obtain ⟨hpl, hpi⟩ := part_idx HUL.out HUS.out k
      have hc1 := cutAt_lt (n := n) (k := k) hn0
      have hc2 := cutAt_le (n := n) (k := k + 1) hkf
      have hM : Hid (∀ w', Below w.heap.size w w' → Calls Try.prog 46 #[.slice (some ⟨g, o + cutAt n k * 3, none⟩) (cutAt n (k + 1) - cutAt n k) (c - cutAt n k)] w' fun e w'' => ∃ b, e = .returned (ptr b) ∧ RawN w'.heap.size w'' 118 0 (partOf us k) (flatL 0 (partOf ts k)).length b ∧ Below w'.heap.size w' w'') := by
        refine Lib.hid (fun w' hb => ?_)
        have := leaf_i (hp1.below hb) hp2 (by omega)
        rw [flatLen0, ← hpl, hp2]
        exact this
      obtain ⟨hw1, hd1⟩ := cut_div (n := n) (k := k) (by omega) (by omega)
      obtain ⟨hw2, hd2⟩ := cut_div (n := n) (k := k + 1) (by omega) (by omega)
      rw [HFW.out] at hd1 hd2
      rw [show ((k + 1 : Nat) : Int) = (k : Int) + 1 by omega] at hw2 hd2
      have hwk : IntKind.i64.wrap ((k : Int) + 1) = (k : Int) + 1 := by rw [IntKind.wrap_i64]; omega
      have hf0 : ((few : Int) == 0) = false := by simp; omega
      have hf1 : ¬ (few : Int) = 0 := by omega
      have hf2 : ¬ few = 0 := by omega
      have e0 : (0 : Int) ≤ (k : Int) := by omega
      have e1 : (k : Int) < (few : Int) := by omega
      clear hp1 hp2 hpl hpi hraw
      generalize cutAt n k = q1 at *
      generalize cutAt n (k + 1) = q2 at *
      have e2 : (0 : Int) ≤ (q1 : Int) := by omega
      have e3 : (q1 : Int) ≤ (q2 : Int) := by omega
      have e4 : (q2 : Int) ≤ (c : Int) := by omega
      have e5 : ¬ ((c : Int) - (q1 : Int) = 0) := by omega
      have e6 : c - q1 ≠ 0 := by omega
      have e7 : ¬ c = q1 := by omega
      have hb0 : Below wr.heap.size wr wr.drew := (Below.refl _ _).drew
      go_wp2_with fail
      go_region_law (go_simp; go_at_call 46; refine (hM.out _ (hbw.drew)).mono ?_; rintro e w5 ⟨b', rfl, hraw5, hb5⟩; have hw5 := (hb5.block w.heap.size hzw).trans HW.out; have zz := (fun i => unfrozen hw5 i); have c0 : w5.cell? ⟨w.heap.size, k, none⟩ = some (.pointer none) := (by rw [cell_at hw5, ← HK.out]; exact mkC_at (by rw [HK.out]; exact hlt)); have HW5 := Lib.hid hw5; have HR5 := Lib.hid hraw5; have HB5 := Lib.hid hb5; clear hw5 hraw5 hb5)
      all_goals
        go_wp2_with fail
        have h1 := heap_set_at (o := k) (u := ptr b') HW5.out
        have h2 := (HBW.out.drew.trans (HB5.out.mono hbw.size)).setCell (p := ⟨w.heap.size, k, none⟩) (Nat.le_refl _) (ptr b')
        have h3 : (mkC bs few).setIfInBounds k (ptr b') = mkC (bs ++ [b']) few := by rw [← HK.out]; exact mkC_set (by rw [HK.out]; exact hlt) b'
        rw [h3] at h1
        have h4 : ∀ (i b : Nat), (bs ++ [b'])[i]? = some b → RawN (w.heap.size + 1) (w5.setCell ⟨w.heap.size, k, none⟩ (ptr b')) 118 0 (partOf us i) (flatL 0 (partOf ts i)).length b := fun i b hi => by
          rcases Nat.lt_or_ge i bs.length with h | h
          · rw [List.getElem?_append_left h] at hi
            exact ((HR.out i b hi).below ((Below.refl _ wr).drew.trans HB5.out)).set (by omega)
          · rw [List.getElem?_append_right h] at hi
            have hik : i = k := by
              have := (List.getElem?_eq_some_iff.1 hi).1
              simp at this; have := HK.out; omega
            subst hik
            rw [HK.out, Nat.sub_self] at hi
            cases hi
            exact (HR5.out.mono (by show w.heap.size + 1 ≤ wr.heap.size; omega)).set (by omega)
        have h5 : (bs ++ [b']).length = k + 1 := by rw [List.length_append, HK.out]; rfl
        unfold ptr at h1 h2 h4
        go_roundw
        case rel => exact ⟨bs ++ [b'], by rw [h5]; go_num, by rw [h5]; omega, h1, h4, h2⟩
        case measure => simp [intOf]; omega
    · have dk : decide (k < few) = false := decide_eq_false hlt
      have hkf : bs.length = few := by rw [HK.out]; omega
      clear hw hraw hbw
      go_wp2_with fail
      go_ret
      have h1 := HW.out
      rw [mkC_full hkf] at h1
      have h2 : (bs.map ptr).length = few := by rw [List.length_map, hkf]
      have hs := Sl.new h1 (by rw [h2]; unfold maxLen; omega) (ptr_one bs)
      rw [h2] at hs
      refine ⟨some ⟨w.heap.size, 0, none⟩, few, rfl, ⟨bs.map ptr, hs, by rw [h2, pts_len, HN.out, HFW.out], fun i x y hx hy => ?_⟩, HBW.out⟩
      have hif : i < fewN ts.length := by
        have := (List.getElem?_eq_some_iff.1 hx).1
        rwa [pts_len] at this
      rw [pts_at ts hif] at hx
      cases hx
      rw [List.getElem?_map] at hy
      obtain ⟨b, hb, rfl⟩ := Option.map_eq_some_iff.1 hy
      obtain ⟨hpl, hpi⟩ := part_idx HUL.out HUS.out i
      exact in_of ((HR.out i b hb).in hpl HBW.out hpi)

set_option maxRecDepth 100000 in
set_option maxHeartbeats 4000000 in
theorem pack_ni {w : World} {h : Nat} {a : Option Addr} {c n : Nat} {ts : List (El (h + 1))} (H : Es w 118 (h + 1) ts a c) (hn : ts.length = n) (hl : n ≤ 100000) (hf : (flatL (h + 1) ts).length ≤ 1000000) :
    Calls Try.prog 55 #[.func (.func 56) #[] #[], .slice a n c] w fun e w' => ∃ a' c', e = .returned (.slice a' (fewN n) c') ∧ Es w' 118 ((h + 1) + 1) (pts ts) a' c' ∧ Below w.heap.size w w' := by
  have hcap := H.cap
  obtain ⟨us, hsl, hul, hus⟩ := H
  replace hsl : Sl w a c us := hsl
  have HSL := Lib.hid hsl
  have HUL := Lib.hid hul
  have HUS := Lib.hid hus
  have HN := Lib.hid hn
  have HF := Lib.hid hf
  have hcm := hcap.2
  unfold maxLen at hcm
  have hcn := hcap.1
  rw [hn] at hcn
  obtain ⟨few, hfew⟩ : ∃ f, fewN n = f := ⟨_, rfl⟩
  have HFW := Lib.hid hfew
  have hfl : few ≤ n := by rw [← hfew]; exact fewN_le n
  have hwa : IntKind.i64.wrap ((n : Int) + 6) = (n : Int) + 6 := by rw [IntKind.wrap_i64]; omega
  have hwb : IntKind.i64.wrap ((n : Int) + 6 - 1) = (n : Int) + 5 := by rw [IntKind.wrap_i64]; omega
  have hwc : ((n : Int) + 5).tdiv 6 = (few : Int) := by rw [Int.tdiv_eq_ediv_of_nonneg (by omega), ← hfew]; unfold fewN; omega
  have hmk := fun w => Go.run_make_row' (P := Try.prog) 102 46 (.pointer none) 8 Try.underlying102 info_ni rfl .i64 .i64 few (by omega) (by omega) w
  rw [mkC_made] at hmk
  rw [hfew]
  clear hn hf hcap hfew hsl hul hus
  go_enter Try.func55, Try.ntmps55
  go_upto_region 3 with fail
  have hh := heap_alloc_new w (.cells (mkC [] few) 46)
  have al := t_al w (.cells (mkC [] few) 46)
  generalize w.alloc (.cells (mkC [] few) 46) = w2 at *
  have HH := Lib.hid hh
  have HAL := Lib.hid al
  clear hh al hmk
  go_wp2_with fail
  go_loopw [7, 17] (fun v7 v17 wr => ∃ bs : List Nat, v17 = .int .i64 bs.length ∧ bs.length ≤ few ∧ wr.heap[w.heap.size]? = some (.cells (mkC bs few) 46 (0, 0)) ∧ (∀ (i b : Nat), bs[i]? = some b → RawN (w.heap.size + 1) wr 118 (h + 1) (partOf us i) (flatL (h + 1) (partOf ts i)).length b) ∧ Below w.heap.size w wr) (fun _ i _ => few - (intOf i).toNat)
  case atStart => exact ⟨[], rfl, by simp, HH.out, fun i b hb => by simp at hb, HAL.out⟩
  case round =>
    obtain ⟨bs, rfl, hbl, hw, hraw, hbw⟩ := hrel
    have HW := Lib.hid hw
    have HR := Lib.hid hraw
    have HBW := Lib.hid hbw
    have hzw := lt_of_heap hw
    obtain ⟨k, hk⟩ : ∃ k, bs.length = k := ⟨_, rfl⟩
    have HK := Lib.hid hk
    rw [hk] at hbl ⊢
    by_cases hlt : k < few
    · have dk : decide (k < few) = true := decide_eq_true hlt
      have hkf : k < fewN n := by rw [HFW.out]; exact hlt
      have hn0 : 0 < n := by unfold fewN at hkf; omega
      obtain ⟨g, o, rfl, hg, _⟩ := HSL.out.rd.2 (by rw [HUL.out, HN.out]; exact hn0)
      obtain ⟨hp1, hp2⟩ := HSL.out.part (k := k) (by rw [HUL.out, HN.out]) hkf
      obtain ⟨hpl, hpi⟩ := part_idx HUL.out HUS.out k
      have hc1 := cutAt_lt (n := n) (k := k) hn0
      have hc2 := cutAt_le (n := n) (k := k + 1) hkf
      have hM : Hid (∀ w', Below w.heap.size w w' → Calls Try.prog 56 #[.slice (some ⟨g, o + cutAt n k, none⟩) (cutAt n (k + 1) - cutAt n k) (c - cutAt n k)] w' fun e w'' => ∃ b, e = .returned (ptr b) ∧ RawN w'.heap.size w'' 118 (h + 1) (partOf us k) (flatL (h + 1) (partOf ts k)).length b ∧ Below w'.heap.size w' w'') := by
        refine Lib.hid (fun w' hb => ?_)
        exact above_i (hp1.below hb) hpl (fun i x y hx hy => (hpi i x y hx hy).below hb) (by rw [← hpl, hp2]) (by omega) (Nat.le_trans (part_flat ts k) HF.out)
      obtain ⟨hw1, hd1⟩ := cut_div (n := n) (k := k) (by omega) (by omega)
      obtain ⟨hw2, hd2⟩ := cut_div (n := n) (k := k + 1) (by omega) (by omega)
      rw [HFW.out] at hd1 hd2
      rw [show ((k + 1 : Nat) : Int) = (k : Int) + 1 by omega] at hw2 hd2
      have hwk : IntKind.i64.wrap ((k : Int) + 1) = (k : Int) + 1 := by rw [IntKind.wrap_i64]; omega
      have hf0 : ((few : Int) == 0) = false := by simp; omega
      have hf1 : ¬ (few : Int) = 0 := by omega
      have hf2 : ¬ few = 0 := by omega
      have e0 : (0 : Int) ≤ (k : Int) := by omega
      have e1 : (k : Int) < (few : Int) := by omega
      clear hp1 hp2 hpl hpi hraw
      generalize cutAt n k = q1 at *
      generalize cutAt n (k + 1) = q2 at *
      have e2 : (0 : Int) ≤ (q1 : Int) := by omega
      have e3 : (q1 : Int) ≤ (q2 : Int) := by omega
      have e4 : (q2 : Int) ≤ (c : Int) := by omega
      have e5 : ¬ ((c : Int) - (q1 : Int) = 0) := by omega
      have e6 : c - q1 ≠ 0 := by omega
      have e7 : ¬ c = q1 := by omega
      have hb0 : Below wr.heap.size wr wr.drew := (Below.refl _ _).drew
      go_wp2_with fail
      go_region_law (go_simp; go_at_call 56; refine (hM.out _ (hbw.drew)).mono ?_; rintro e w5 ⟨b', rfl, hraw5, hb5⟩; have hw5 := (hb5.block w.heap.size hzw).trans HW.out; have zz := (fun i => unfrozen hw5 i); have c0 : w5.cell? ⟨w.heap.size, k, none⟩ = some (.pointer none) := (by rw [cell_at hw5, ← HK.out]; exact mkC_at (by rw [HK.out]; exact hlt)); have HW5 := Lib.hid hw5; have HR5 := Lib.hid hraw5; have HB5 := Lib.hid hb5; clear hw5 hraw5 hb5)
      all_goals
        go_wp2_with fail
        have h1 := heap_set_at (o := k) (u := ptr b') HW5.out
        have h2 := (HBW.out.drew.trans (HB5.out.mono hbw.size)).setCell (p := ⟨w.heap.size, k, none⟩) (Nat.le_refl _) (ptr b')
        have h3 : (mkC bs few).setIfInBounds k (ptr b') = mkC (bs ++ [b']) few := by rw [← HK.out]; exact mkC_set (by rw [HK.out]; exact hlt) b'
        rw [h3] at h1
        have h4 : ∀ (i b : Nat), (bs ++ [b'])[i]? = some b → RawN (w.heap.size + 1) (w5.setCell ⟨w.heap.size, k, none⟩ (ptr b')) 118 (h + 1) (partOf us i) (flatL (h + 1) (partOf ts i)).length b := fun i b hi => by
          rcases Nat.lt_or_ge i bs.length with h | h
          · rw [List.getElem?_append_left h] at hi
            exact ((HR.out i b hi).below ((Below.refl _ wr).drew.trans HB5.out)).set (by omega)
          · rw [List.getElem?_append_right h] at hi
            have hik : i = k := by
              have := (List.getElem?_eq_some_iff.1 hi).1
              simp at this; have := HK.out; omega
            subst hik
            rw [HK.out, Nat.sub_self] at hi
            cases hi
            exact (HR5.out.mono (by show w.heap.size + 1 ≤ wr.heap.size; omega)).set (by omega)
        have h5 : (bs ++ [b']).length = k + 1 := by rw [List.length_append, HK.out]; rfl
        unfold ptr at h1 h2 h4
        go_roundw
        case rel => exact ⟨bs ++ [b'], by rw [h5]; go_num, by rw [h5]; omega, h1, h4, h2⟩
        case measure => simp [intOf]; omega
    · have dk : decide (k < few) = false := decide_eq_false hlt
      have hkf : bs.length = few := by rw [HK.out]; omega
      clear hw hraw hbw
      go_wp2_with fail
      go_ret
      have h1 := HW.out
      rw [mkC_full hkf] at h1
      have h2 : (bs.map ptr).length = few := by rw [List.length_map, hkf]
      have hs := Sl.new h1 (by rw [h2]; unfold maxLen; omega) (ptr_one bs)
      rw [h2] at hs
      refine ⟨some ⟨w.heap.size, 0, none⟩, few, rfl, ⟨bs.map ptr, hs, by rw [h2, pts_len, HN.out, HFW.out], fun i x y hx hy => ?_⟩, HBW.out⟩
      have hif : i < fewN ts.length := by
        have := (List.getElem?_eq_some_iff.1 hx).1
        rwa [pts_len] at this
      rw [pts_at ts hif] at hx
      cases hx
      rw [List.getElem?_map] at hy
      obtain ⟨b, hb, rfl⟩ := Option.map_eq_some_iff.1 hy
      obtain ⟨hpl, hpi⟩ := part_idx HUL.out HUS.out i
      exact in_of ((HR.out i b hb).in hpl HBW.out hpi)

end Go.Proofs.Ytkgakgceamafcaa
