/-
  New; the chapter's example of layer 21; the walk of UndoNil, at this seat's numbers.
-/
import Derived.Test.YtmjlmciocockpaaUnE
namespace Go.Proofs.Ytmjlmciocockpaa
open Go Go.RowKit Go.Shelf
set_option linter.unusedVariables false

set_option maxRecDepth 100000 in
set_option maxHeartbeats 4000000 in
theorem unew_of (w : World) : Calls Try.prog 29 #[] w fun e w' => ∃ T s m q t R D b, e = .returned (pbox T) ∧ Us w' w.heap.size T s m q t R D [⟨0, -1, -1, b, .slice none 0 0⟩] 0 0 ∧ R.length ≤ 1 ∧ Below w.heap.size w w' := by
  have hmm := @run_makeMap Try.prog
  have hm0 := World.ownsMap_made (H := Unit) w Try.prog 3 pel
  have hm1 := hm0.alloc (.cells #[.int .i64 (-1), .int .i64 (-1), .slice none 0 0] 61)
  have hz1 : ((w.alloc (.map #[] 0)).alloc (.cells #[.int .i64 (-1), .int .i64 (-1), .slice none 0 0] 61)).heap.size = w.heap.size + 2 := by simp
  have hb1 : Below w.heap.size w ((w.alloc (.map #[] 0)).alloc (.cells #[.int .i64 (-1), .int .i64 (-1), .slice none 0 0] 61)) := ((Below.refl _ w).alloc (Nat.le_refl _) _).alloc (by simp) _
  have hs1 : ((w.alloc (.map #[] 0)).alloc (.cells #[.int .i64 (-1), .int .i64 (-1), .slice none 0 0] 61)).heap[w.heap.size + 1]? = some (.cells #[.int .i64 (-1), .int .i64 (-1), .slice none 0 0] 61 (0, 0)) := by
    have := heap_alloc_new (w.alloc (.map #[] 0)) (.cells #[.int .i64 (-1), .int .i64 (-1), .slice none 0 0] 61)
    rwa [World.size_alloc] at this
  obtain ⟨wa, hwa⟩ : ∃ wa, (w.alloc (.map #[] 0)).alloc (.cells #[.int .i64 (-1), .int .i64 (-1), .slice none 0 0] 61) = wa := ⟨_, rfl⟩
  rw [hwa] at hm1 hz1 hb1 hs1
  obtain ⟨w2, E2, M2, G2⟩ := World.ownsMap.update (t := 47) (w := wa) (val := pbox (w.heap.size + 1)) hm1 lawI Try.underlying47 (by unfold maxLen; omega) (keyI wf0) (pel_box (w.heap.size + 1))
  have b2 : Below w.heap.size w w2 := hb1.grown G2 (by omega) (fun k e => by cases e; exact Nat.le_refl _)
  have s2 : w2.heap[w.heap.size + 1]? = some (.cells #[.int .i64 (-1), .int .i64 (-1), .slice none 0 0] 61 (0, 0)) := (G2.block _ (by omega) (fun e => by injection e with e; omega)).trans hs1
  have z2 : w.heap.size + 2 ≤ w2.heap.size := by have := G2.size; omega
  have M2' : w2.ownsMap Try.prog 3 pel w.heap.size 1 ((DataW.map [] : DataW Unit).put (kI 0) (dI ((w.heap.size + 1 : Nat) : Int))) := M2
  generalize hD : (DataW.map [] : DataW Unit).put (kI 0) (dI ((w.heap.size + 1 : Nat) : Int)) = D at M2'
  have hD1 : Maps.has D (kI 0) = true ∧ D.atKey (kI 0) (dI (-1)) = dI ((w.heap.size + 1 : Nat) : Int) ∧ Maps.size D = 1 ∧ ∀ z, z ≠ 0 → Maps.has D (kI z) = false := by
    have tidy : Maps.Tidy (DataW.map [] : DataW Unit) := Maps.tidy_empty
    rw [← hD]
    refine ⟨Maps.has_put_same tidy.isMap (isKey 0) _, Maps.atKey_put_same tidy.isMap (isKey 0) _ _, by rw [Maps.size_put tidy]; rfl, fun z hz => by rw [Maps.has_put_other (key_ne hz)]; rfl⟩
  have al3 := t_al w2 (.cells #[.int .i64 0] 3)
  have hsl : Sl (w2.alloc (.cells #[.int .i64 0] 3)) (some ⟨w2.heap.size, 0, none⟩) 1 (nums [0]) := by
    have := Sl.new (w := w2.alloc (.cells (nums [0]).toArray 3)) (b := w2.heap.size) (T := 3) (fr := (0, 0)) (xs := nums [0]) (heap_alloc_new w2 _) (by decide) (nums_one [0])
    exact this
  have z3 : (w2.alloc (.cells #[.int .i64 0] 3)).heap.size = w2.heap.size + 1 := by simp
  have HNw := Lib.hid (new_of (l := [0]) hsl (by decide) (fun x hx => by rw [List.mem_singleton.1 hx]; exact wf0))
  have HF := Lib.hid (And.intro M2' (And.intro hD1 (And.intro b2 (And.intro s2 (And.intro z2 (And.intro al3 z3))))))
  clear hm0 hm1 hz1 hb1 hs1 M2 G2 b2 s2 z2 M2' hD hD1 al3 hsl z3
  go_enter Try.func29, Try.ntmps29
  go_wp2_with fail
  refine HNw.out.mono ?_; rintro e w4 ⟨q, t, R, rfl, hq, hp, hlo, hb4⟩
  have HQ := Lib.hid (And.intro hq (And.intro hp (And.intro hlo hb4)))
  clear hq hp hlo hb4 HNw
  go_wp2_with fail
  go_ret
  obtain ⟨M2, ⟨d1, d2, d3, d4⟩, b2, s2, z2, al3, z3⟩ := HF.out
  obtain ⟨hq, hp, hlo, hb4⟩ := HQ.out
  have hb24 : Below w2.heap.size w2 w4 := al3.trans (hb4.mono (by omega))
  have z4 : w2.heap.size + 1 ≤ w4.heap.size := by have := hb4.size; omega
  have al5 := t_al w4 (.cells #[.map (some w.heap.size), pbox q, .int .i64 0, .int .i64 0] 50)
  have h5 := heap_alloc_new w4 (.cells #[.map (some w.heap.size), pbox q, .int .i64 0, .int .i64 0] 50)
  have z5 : (w4.alloc (.cells #[.map (some w.heap.size), pbox q, .int .i64 0, .int .i64 0] 50)).heap.size = w4.heap.size + 1 := by simp
  obtain ⟨w5, hw5⟩ : ∃ w5, w4.alloc (.cells #[.map (some w.heap.size), pbox q, .int .i64 0, .int .i64 0] 50) = w5 := ⟨_, rfl⟩
  rw [hw5] at al5 h5 z5 ⊢
  have al6 := t_al w5 (.cells #[pbox w4.heap.size] 43)
  have h6 := heap_alloc_new w5 (.cells #[pbox w4.heap.size] 43)
  have hb46 : Below w4.heap.size w4 (w5.alloc (.cells #[pbox w4.heap.size] 43)) := al5.trans (al6.mono (by omega))
  have hb26 : Below w2.heap.size w2 (w5.alloc (.cells #[pbox w4.heap.size] 43)) := hb24.trans (hb46.mono (by omega))
  refine ⟨w5.heap.size, w4.heap.size, w.heap.size, q, t, R, D, w.heap.size + 1, by rw [z5]; rfl, ⟨h6, ?_, ?_, d3, hq.below hb46, fun x hx => ?_, fun z hz => ?_, fun x hx y hy _ => ?_, fun e => ?_, ⟨by omega, by omega, Nat.le_refl _, fun b hb => ?_, fun x hx => ?_⟩⟩, ?_, b2.trans (hb26.mono (by omega))⟩
  · exact (al6.block _ (by omega)).trans h5
  · obtain ⟨es, clock, hm, r⟩ := M2
    exact ⟨es, clock, (hb26.block _ (by omega)).trans hm, r⟩
  · rw [List.mem_singleton.1 hx]
    exact ⟨d1, d2, (hb26.block (w.heap.size + 1) (by omega)).trans s2, wf0⟩
  · exact d4 z (fun e => hz _ (List.mem_singleton.2 rfl) (by rw [e]))
  · rw [List.mem_singleton.1 hx, List.mem_singleton.1 hy]
  · have := hlo _ e; omega
  · have := hlo b hb; omega
  · rw [List.mem_singleton.1 hx]; show _ ≤ w.heap.size + 1; omega
  · rw [hp.length_eq]; exact setL_len [0]

theorem Rn.len {R R' : List Int} {y n : Int} (h : Rn R R' y n) : R'.length ≤ R.length + 1 := by
  obtain ⟨R1, h1, h2⟩ := h
  have l1 : R1.length ≤ R.length := by
    by_cases e : y ∈ R
    · rw [if_pos e] at h1
      have := h1.length_eq
      rw [List.length_cons] at this
      omega
    · rw [if_neg e] at h1
      rw [h1]; exact Nat.le_refl _
  rw [h2.length_eq]
  split
  · omega
  · rw [List.length_cons]; omega

set_option maxRecDepth 100000 in
set_option maxHeartbeats 4000000 in
theorem awake21_of (w : World) : Calls Try.prog 15 #[] w fun e w' => e = .returned (.bool true) ∧ Below w.heap.size w w' := by
  go_enter Try.func15, Try.ntmps15
  go_wp2_with fail
  refine (unew_of w).mono ?_; rintro e w1 ⟨T, s, m, q, t, R, D, b, rfl, h1, hR, hb1⟩
  have HB1 := Lib.hid hb1
  have HA := Lib.hid (add_few (y := ⟨0, -1, -1, b, .slice none 0 0⟩) h1 (by simp) hb1.size (by simp) (by omega) (by omega) (by omega) (fun x hx => by rw [List.mem_singleton.1 hx]; exact Int.le_refl _))
  have HR1 := Lib.hid hR
  clear h1 hb1 hR
  go_wp2_with fail
  refine HA.out.mono ?_; rintro e w2 ⟨rfl, t2, R2, D2, b2, h2, hR2, hb2⟩
  have HB2 := Lib.hid (HB1.out.trans hb2)
  have HR2 := Lib.hid (show R2.length ≤ 2 by have := hR2.len; have := HR1.out; omega)
  have hne2 : b2 ≠ b := fun e => by
    subst e
    have := h2.inj ⟨0, -1, 0 + 1, b2, .slice none 0 0⟩ (by simp [setX, setN]) ⟨0 + 1, 0, 0 + 1, b2, .slice none 0 0⟩ (by simp [setX, setN]) rfl
    simp at this
  have hL2 : setX ([⟨0, -1, -1, b, .slice none 0 0⟩] ++ [⟨0 + 1, 0, -1, b2, .slice none 0 0⟩]) b (0 + 1) = [⟨0, -1, 1, b, .slice none 0 0⟩, ⟨1, 0, -1, b2, .slice none 0 0⟩] := by simp [setX, setN, hne2]
  have h2' : Us w2 w.heap.size T s m q t2 R2 D2 [⟨0, -1, 1, b, .slice none 0 0⟩, ⟨1, 0, -1, b2, .slice none 0 0⟩] 1 1 := by
    have := h2
    rw [hL2] at this
    exact this
  have HU := Lib.hid (up_yes (x := ⟨1, 0, -1, b2, .slice none 0 0⟩) h2' (by simp) rfl (by simp) HB2.out.size)
  clear h2 h2' hL2 hne2 hb2 hR2 HA
  go_wp2_with fail
  refine HU.out.mono ?_; rintro e w3 ⟨rfl, h3, hb3⟩
  have HB3 := Lib.hid (HB2.out.trans hb3)
  have HA := Lib.hid (add_few (y := ⟨0, -1, 1, b, .slice none 0 0⟩) h3 (by simp) HB3.out.size (by simp) (by have := HR2.out; omega) (by omega) (by omega) (fun x hx => by
    simp only [List.mem_cons, List.not_mem_nil, or_false] at hx
    rcases hx with rfl | rfl <;> simp))
  clear h3 hb3 HU
  go_wp2_with fail
  refine HA.out.mono ?_; rintro e w4 ⟨rfl, t4, R4, D4, b4, h4, hR4, hb4⟩
  have HB4 := Lib.hid (HB3.out.trans hb4)
  have h4' : Us w4 w.heap.size T s m q t4 R4 D4 (setX ([⟨0, -1, 1, b, .slice none 0 0⟩, ⟨1, 0, -1, b2, .slice none 0 0⟩] ++ [⟨1 + 1, 0, -1, b4, .slice none 0 0⟩]) b (1 + 1)) 2 2 := h4
  have hne4 : b4 ≠ b := fun e => by
    subst e
    have := h4'.inj ⟨0, -1, 1 + 1, b4, .slice none 0 0⟩ (by simp [setX, setN]) ⟨1 + 1, 0, 1 + 1, b4, .slice none 0 0⟩ (by simp [setX, setN]) rfl
    simp at this
  have m0 : (⟨0, -1, 2, b, .slice none 0 0⟩ : Sn) ∈ setX ([⟨0, -1, 1, b, .slice none 0 0⟩, ⟨1, 0, -1, b2, .slice none 0 0⟩] ++ [⟨1 + 1, 0, -1, b4, .slice none 0 0⟩]) b (1 + 1) := by simp [setX, setN]
  have m2 : (⟨2, 0, -1, b4, .slice none 0 0⟩ : Sn) ∈ setX ([⟨0, -1, 1, b, .slice none 0 0⟩, ⟨1, 0, -1, b2, .slice none 0 0⟩] ++ [⟨1 + 1, 0, -1, b4, .slice none 0 0⟩]) b (1 + 1) := by simp [setX, setN, hne4]
  have HP := Lib.hid (uparent_of h4' m2)
  have HX := Lib.hid (unext_of h4' m0)
  have HH := Lib.hid (uhere_of h4')
  have HL := Lib.hid (ulen_of h4')
  rw [setX_len] at HL
  simp only [orN] at HP HX
  clear h4 h4' hR4 hb4 hne4 m0 m2 HA
  go_wp2_with fail
  refine HP.out.mono ?_; rintro e w5 ⟨rfl, rfl⟩
  go_wp2_with fail
  refine HX.out.mono ?_; rintro e w5 ⟨rfl, rfl⟩
  go_wp2_with fail
  refine HH.out.mono ?_; rintro e w5 ⟨rfl, rfl⟩
  go_wp2_with fail
  refine HL.out.mono ?_; rintro e w5 ⟨rfl, rfl⟩
  go_wp2_with fail
  go_ret
  exact ⟨rfl, HB4.out⟩

set_option maxRecDepth 100000 in
set_option maxHeartbeats 4000000 in
theorem undoNil_walk (n : Int) (w : World) (g0 : -9223372036854775808 ≤ n) (g1 : n ≤ 9223372036854775807) :
    Calls Try.prog 3 #[.int .i64 n] w fun e w' => e = .returned (.bool true) ∧ Below w.heap.size w w' := by
  have hn : Wf n := WalkArith.wf_i64 ⟨g0, g1⟩
  have HN := Lib.hid hn
  clear hn
  go_enter Try.func3, Try.ntmps3
  go_wp2_with fail
  refine (up_nil w).mono ?_; rintro e w1 ⟨rfl, hb⟩; have H1 := Lib.hid hb; clear hb
  go_wp2_with fail
  refine (down_nil w1).mono ?_; rintro e w2 ⟨rfl, hb⟩; have H2 := Lib.hid (H1.out.trans (hb.mono H1.out.size)); clear hb
  go_wp2_with fail
  refine (go_nil w2 n).mono ?_; rintro e w3 ⟨rfl, hb⟩; have H3 := Lib.hid (H2.out.trans (hb.mono H2.out.size)); clear hb
  go_wp2_with fail
  refine (older_nil w3).mono ?_; rintro e w4 ⟨rfl, hb⟩; have H4 := Lib.hid (H3.out.trans (hb.mono H3.out.size)); clear hb
  go_wp2_with fail
  refine (newer_nil w4).mono ?_; rintro e w5 ⟨rfl, hb⟩; have H5 := Lib.hid (H4.out.trans (hb.mono H4.out.size)); clear hb
  go_wp2_with fail
  refine (parent_nil w5 HN.out).mono ?_; rintro e w6 ⟨rfl, hb⟩; have H6 := Lib.hid (H5.out.trans (hb.mono H5.out.size)); clear hb
  go_wp2_with fail
  refine (next_nil w6 HN.out).mono ?_; rintro e w7 ⟨rfl, hb⟩; have H7 := Lib.hid (H6.out.trans (hb.mono H6.out.size)); clear hb
  go_wp2_with fail
  refine (add_nil w7 (.slice none 0 0)).mono ?_; rintro e w8 ⟨rfl, hb⟩; have H8 := Lib.hid (H7.out.trans (hb.mono H7.out.size)); clear hb
  go_wp2_with fail
  refine (here_nil w8).mono ?_; rintro e w9 ⟨rfl, hb⟩; have H9 := Lib.hid (H8.out.trans (hb.mono H8.out.size)); clear hb
  go_wp2_with fail
  refine (len_nilt w9).mono ?_; rintro e w10 ⟨rfl, hb⟩; have H10 := Lib.hid (H9.out.trans (hb.mono H9.out.size)); clear hb
  go_wp2_with fail
  refine (numbers_nil w10).mono ?_; rintro e w11 ⟨a, c, rfl, hb⟩; have H11 := Lib.hid (H10.out.trans (hb.mono H10.out.size)); clear hb
  go_wp2_with fail
  refine (awake21_of w11).mono ?_; rintro e w12 ⟨rfl, hb⟩; have H12 := Lib.hid (H11.out.trans (hb.mono H11.out.size)); clear hb
  go_wp2_with fail
  go_ret
  exact ⟨rfl, H12.out⟩

end Go.Proofs.Ytmjlmciocockpaa
