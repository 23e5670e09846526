/-
  Contracts of layer 9, trees of ints: Split; at this seat's numbers.
-/
import Derived.Test.YtofncnommekbjaaTrU
namespace Go.Proofs.Ytofncnommekbjaa
open Go Go.RowKit
set_option linter.unusedVariables false

theorem heldN_nat {j n : Nat} (h : j ≤ n) : heldN (j : Int) n = j := by unfold heldN; split <;> (try split) <;> omega
theorem gd_app {A B : List Value} (h : Gd A) (h' : Gd B) : Gd (A ++ B) := fun v hv => by
  rcases List.mem_append.1 hv with hh | hh
  · exact h v hh
  · exact h' v hh
theorem cut3 {A K B : List Value} {j i : Nat} (h : A.length + j = i) (hj : j ≤ K.length) : (A ++ K ++ B).take i = A ++ K.take j ∧ (A ++ K ++ B).drop i = K.drop j ++ B := by
  subst h
  rw [List.append_assoc, List.take_length_add_append, List.drop_length_add_append, List.take_append_of_le_length hj, List.drop_append_of_le_length hj]
  exact ⟨rfl, rfl⟩
set_option maxRecDepth 100000 in
set_option maxHeartbeats 2000000 in
/-- Split of a node that has kids. -/
theorem splitnode_i {w : World} {b h i : Nat} {ks : List (El (h + 1))} {L : List Value} (hin : In w 95 (h + 1) ks b) (hok : Ok 2 (h + 1) ks) (hL : flatL (h + 1) ks = L) (hg : Gd L) (hi0 : 0 < i) (hi : i < L.length) (hf : L.length ≤ 100000)
    (IH : ∀ (w' : World) (x : Option Addr) (Lk : List Value) (j : Nat), Tin w' 95 (.pointer x) Lk → Lk.length < L.length → Gd Lk → j ≤ Lk.length → Calls Try.prog 18 #[.agg #[.pointer x], .int .i64 j] w' (SpPost Lk j w')) :
    Calls Try.prog 18 #[.agg #[ptr b], .int .i64 i] w (SpPost L i w) := by
  obtain ⟨w1, hw1, hb1, hz1, hA, hD, hC⟩ := three_blocks w (Obj.cells #[ptr b] 27) (Obj.cells #[Value.pointer none] 27) (Obj.cells #[Value.pointer none] 27)
  have H1 := hin.below hb1
  have hl := hok.len
  have HLn := Lib.hid (len_i (pv := ptr b) (L := L) (.inr ⟨b, h + 1, ks, rfl, H1, hok, hL.symm⟩))
  have HLf := Lib.hid (fun w' (hb : Below w1.heap.size w1 w') => notleaf_i (H1.below hb) (by omega))
  have HK := Lib.hid (fun w' (hb : Below w1.heap.size w1 w') => kid_i (H1.below hb) (by omega) (by omega) i (by omega))
  obtain ⟨q1, q2, q3, _⟩ := kid_at (by omega) i (ks := ks)
  have q3 := q3 (by rw [hL]; exact hi)
  have hspl := flat_split q1
  have hlt := kid_lt (lo := 2) (by omega) hok q1
  have hokk := hok.kid q1
  generalize (kidP (szs h ks) i).1 = k at *
  generalize (kidP (szs h ks) i).2 = j at *
  obtain ⟨a, c, k0, k1, hes⟩ := H1.kids
  obtain ⟨g, o, rfl, hgz⟩ := hes.has (by omega)
  obtain ⟨bk, hcb, hink⟩ := hes.at (x := nth ks k) (nth_at q1)
  have hcap := hes.cap
  obtain ⟨Lk, hLk⟩ : ∃ Lk, flatL h (nth ks k) = Lk := ⟨_, rfl⟩
  obtain ⟨LA, hLA⟩ : ∃ LA, flatL (h + 1) (ks.take k) = LA := ⟨_, rfl⟩
  obtain ⟨LB, hLB⟩ : ∃ LB, flatL (h + 1) (ks.drop (k + 1)) = LB := ⟨_, rfl⟩
  rw [hLk] at q3 hlt hspl
  rw [hLA] at q2 hspl
  rw [hLB, hL] at hspl
  rw [hL] at hlt
  have hgA : Gd LA := fun v hv => hg v (by rw [hspl]; simp [hv])
  have hgB : Gd LB := fun v hv => hg v (by rw [hspl]; simp [hv])
  have hgk : Gd Lk := fun v hv => hg v (by rw [hspl]; simp [hv])
  have hlen : LA.length + Lk.length + LB.length = L.length := by rw [hspl]; simp; omega
  have e12 := cut3 (B := LB) q2 (Nat.le_of_lt q3)
  rw [← hspl] at e12
  have e1 := e12.1.symm
  have e2 := e12.2.symm
  clear e12
  have HTP : Hid (∀ w', Below w1.heap.size w1 w' → Calls Try.prog 43 #[.slice (some ⟨w'.heap.size, 0, none⟩) 1 1] (w'.alloc (Obj.cells #[ptr bk] 25)) fun e w'' => ∃ x, e = .returned (.agg #[.pointer x]) ∧ Tin w'' 95 (.pointer x) Lk ∧ Below w'.heap.size w' w'') := by
    refine Lib.hid (fun w' hb => ?_)
    have al := t_al w' (Obj.cells #[ptr bk] 25)
    have hfo : flatL (h + 1) [mk1 (nth ks k)] = Lk := (flat_one _).trans hLk
    have := top_i (n := 1) (Es.one (E := 25) (hink.below hb)) rfl (by omega) (⟨fun _ => ok_lower hokk (by have := rlo_le h; omega), fun hh => by simp at hh⟩ : TopOk h [mk1 (nth ks k)]) (by rw [hfo]; exact hgk) (by rw [hfo]; omega)
    rw [hfo] at this
    refine this.mono ?_
    rintro e w'' ⟨pv, rfl, h1, h2⟩
    obtain ⟨x, rfl⟩ := h1.ptr
    exact ⟨x, rfl, h1, al.trans (h2.mono al.size)⟩
  have HTA0 : Hid (∀ w', Below w1.heap.size w1 w' → Calls Try.prog 43 #[.slice (some ⟨g, o, none⟩) k c] w' fun e w'' => ∃ x, e = .returned (.agg #[.pointer x]) ∧ Tin w'' 95 (.pointer x) LA ∧ Below w'.heap.size w' w'') := by
    refine Lib.hid (fun w' hb => ?_)
    have := top_i (n := k) ((hes.below hb).take k) (by rw [List.length_take]; omega) (by omega) (topok_kids (oks_take hok.oks k)) (by rw [hLA]; exact hgA) (by rw [hLA]; omega)
    rw [hLA] at this
    refine this.mono ?_
    rintro e w'' ⟨pv, rfl, h1, h2⟩
    obtain ⟨x, rfl⟩ := h1.ptr
    exact ⟨x, rfl, h1, h2⟩
  have HTB0 : Hid (∀ w' (ad : Addr) (n' c' : Nat), Es w' 95 (h + 1) (ks.drop (k + 1)) (some ad) c' → (ks.drop (k + 1)).length = n' → Calls Try.prog 43 #[.slice (some ad) n' c'] w' fun e w'' => ∃ x, e = .returned (.agg #[.pointer x]) ∧ Tin w'' 95 (.pointer x) LB ∧ Below w'.heap.size w' w'') := by
    refine Lib.hid (fun w' ad n' c' he hn' => ?_)
    have := top_i he hn' (by rw [List.length_drop] at hn'; omega) (topok_kids (oks_drop hok.oks (k + 1))) (by rw [hLB]; exact hgB) (by rw [hLB]; omega)
    rw [hLB] at this
    refine this.mono ?_
    rintro e w'' ⟨pv, rfl, h1, h2⟩
    obtain ⟨x, rfl⟩ := h1.ptr
    exact ⟨x, rfl, h1, h2⟩
  have HSp := Lib.hid (fun w' x (hT : Tin w' 95 (.pointer x) Lk) => IH w' x Lk j hT hlt hgk (by omega))
  have HJ10 : Hid (∀ w' x x', Tin w' 95 (.pointer x) LA → Tin w' 95 (.pointer x') (Lk.take j) → Calls Try.prog 20 #[.agg #[.pointer x], .agg #[.pointer x']] w' fun e w'' => ∃ x'', e = .returned (.agg #[.pointer x'']) ∧ Tin w'' 95 (.pointer x'') (L.take i) ∧ Below w'.heap.size w' w'') := by
    refine Lib.hid (fun w' x x' h1 h2 => ?_)
    rw [← e1]
    exact Join_i h1 h2 hgA (gd_take hgk j) (by rw [List.length_take]; omega)
  have HJ20 : Hid (∀ w' x x', Tin w' 95 (.pointer x) (Lk.drop j) → Tin w' 95 (.pointer x') LB → Calls Try.prog 20 #[.agg #[.pointer x], .agg #[.pointer x']] w' fun e w'' => ∃ x'', e = .returned (.agg #[.pointer x'']) ∧ Tin w'' 95 (.pointer x'') (L.drop i) ∧ Below w'.heap.size w' w'') := by
    refine Lib.hid (fun w' x x' h1 h2 => ?_)
    rw [← e2]
    exact Join_i h1 h2 (gd_drop hgk j) hgB (by rw [List.length_drop]; omega)
  have c0 : w1.cell? ⟨w.heap.size, 0, none⟩ = some (ptr b) := by rw [cell_at hA]; rfl
  have HB := Lib.hid hb1
  have HCD := Lib.hid (And.intro hC hD)
  have hbz := hin.lt
  have hbz1 : b < w1.heap.size := by omega
  obtain ⟨n, hn⟩ : ∃ n, ks.length = n := ⟨_, rfl⟩
  have HES := Lib.hid hes
  rw [hn] at k0 q1 hl hcap
  obtain ⟨m, hm⟩ : ∃ m, L.length = m := ⟨_, rfl⟩
  rw [hm] at HLn hi
  have d0 : decide ((i : Int) ≤ 0) = false := decide_eq_false (by omega)
  have d1 : decide ((m : Int) ≤ (i : Int)) = false := decide_eq_false (by omega)
  have HGd := Lib.hid (And.intro (gd_take hg i) (gd_drop hg i))
  have HGk := Lib.hid (And.intro (gd_take hgk j) (gd_drop hgk j))
  have HNl := Lib.hid (show (ks.drop (k + 1)).length = n - (k + 1) by rw [List.length_drop, hn])
  have HNL := Lib.hid hn
  unfold SpPost at HSp ⊢
  generalize L.take i = RA at *
  generalize L.drop i = RB at *
  generalize Lk.take j = KA at *
  generalize Lk.drop j = KB at *
  clear hin hok hL hg H1 q2 q3 hspl hlt hokk hes hink hLk hLA hLB hgA hgB hgk hlen e1 e2 hA hC hD hn IH hm
  go_enter Try.func18, Try.ntmps18
  go_upto_region 3 with fail
  go_wp2_with fail
  refine HLn.out.mono ?_; rintro e w2 ⟨rfl, hb2⟩
  have c0 := (hb2.cell (p := ⟨w.heap.size, 0, none⟩) (by show w.heap.size < _; omega)).trans c0
  have k0 := (hb2.cell (p := ⟨b, 0, none⟩) hbz1).trans k0
  have k1 := (hb2.cell (p := ⟨b, 1, none⟩) hbz1).trans k1
  have hcb := (hb2.cell (p := ⟨g, o + k, none⟩) hgz).trans hcb
  have HLf2 := Lib.hid (HLf.out w2 hb2)
  have HK2 := Lib.hid (HK.out w2 hb2)
  have HTP2 := Lib.hid (HTP.out w2 hb2)
  have HB2 := Lib.hid hb2
  have f0 : (0 : Int) ≤ (k : Int) := by omega
  have f1 : (k : Int) < (n : Int) := by omega
  clear hb2 HLn HLf HK HTP
  go_wp2_with fail
  refine HLf2.out.mono ?_; rintro e w3 ⟨rfl, rfl⟩
  go_wp2_with fail
  refine HK2.out.mono ?_; rintro e w3 ⟨rfl, rfl⟩
  go_wp2_with fail
  refine HTP2.out.mono ?_; rintro e w3 ⟨x3, rfl, ht3, hb3⟩
  have HS3 := Lib.hid (HSp.out w3 x3 ht3)
  have HB3 := Lib.hid (HB2.out.trans (hb3.mono HB2.out.size))
  clear ht3 hb3 HTP2 HSp
  go_wp2_with fail
  refine HS3.out.mono ?_; rintro e w4 ⟨x, y, rfl, htx, hty, hb4⟩
  have HB4 := Lib.hid (HB3.out.trans (hb4.mono HB3.out.size))
  obtain ⟨w5, hw5, hb5, hz5, hE, hF⟩ := two_blocks w4 (Obj.cells #[Value.pointer none] 27) (Obj.cells #[Value.pointer none] 27)
  have hs4 : w.heap.size + 3 ≤ w4.heap.size := by have := HB4.out.size; omega
  obtain ⟨m1, m2, m3, m4, m5⟩ := two_set (x := x) (y := y) (n := w4.heap.size) (T := 95) hE hF (by decide) (htx.below hb5) (hty.below hb5) HGk.out.1 HGk.out.2 (Nat.le_refl _)
  have HM := Lib.hid (And.intro m1 (And.intro m2 (And.intro (hb5.trans m3) (And.intro m4 m5))))
  have zE := fun i => unfrozen hE i
  have rE : w5.cell? ⟨w4.heap.size, 0, none⟩ = some (.pointer none) := by rw [cell_at hE]; rfl
  have hF2 : (w5.setCell ⟨w4.heap.size, 0, none⟩ (Value.pointer x)).heap[w4.heap.size + 1]? = some (.cells #[Value.pointer none] 27 (0, 0)) := (heap_set_other (by omega)).trans hF
  have zF := fun i => unfrozen hF2 i
  have rF : (w5.setCell ⟨w4.heap.size, 0, none⟩ (Value.pointer x)).cell? ⟨w4.heap.size + 1, 0, none⟩ = some (.pointer none) := by rw [cell_at hF2]; rfl
  clear htx hty hb4 m1 m2 m3 m4 m5 hb5 hE hF hF2 HS3 c0 k0 k1 hcb
  go_upto_region 10 with fail
  generalize (w5.setCell ⟨w4.heap.size, 0, none⟩ (Value.pointer x)).setCell ⟨w4.heap.size + 1, 0, none⟩ (Value.pointer y) = w6 at *
  obtain ⟨ht1, ht2, hb6, k4, k5⟩ := HM.out
  have HB6 := Lib.hid (HB4.out.trans (hb6.mono HB4.out.size))
  have HB60 : Hid (Below w6.heap.size w6 w6.drew) := Lib.hid (Below.refl _ _).drew
  have HBw : Hid (Below w.heap.size w w6) := Lib.hid (HB.out.trans (HB6.out.mono (by omega)))
  have HC6 : Hid (w6.drew.heap[w.heap.size + 2]? = some (.cells #[Value.pointer none] 27 (0, 0))) := Lib.hid ((HB6.out.block _ (by omega)).trans HCD.out.1)
  have HD6 : Hid (w6.drew.heap[w.heap.size + 1]? = some (.cells #[Value.pointer none] 27 (0, 0))) := Lib.hid ((HB6.out.block _ (by omega)).trans HCD.out.2)
  have HTA6 := Lib.hid (fun w' (hb : Below w6.heap.size w6 w') => HTA0.out w' (HB6.out.trans (hb.mono HB6.out.size)))
  have HJ1 := Lib.hid (fun w' x' (hb : Below w6.heap.size w6 w') h => HJ10.out w' x' x h (ht1.below hb))
  have HJ2 := Lib.hid (fun w' x' (hb : Below w6.heap.size w6 w') h => HJ20.out w' y x' (ht2.below hb) h)
  have ld0 := fun w' (h : C2 ⟨w4.heap.size, 0, none⟩ ⟨w4.heap.size + 1, 0, none⟩ (.pointer x) (.pointer y) w') => h.1
  have ld1 := fun w' (h : C2 ⟨w4.heap.size, 0, none⟩ ⟨w4.heap.size + 1, 0, none⟩ (.pointer x) (.pointer y) w') => h.2
  have hs0 : C2 ⟨w4.heap.size, 0, none⟩ ⟨w4.heap.size + 1, 0, none⟩ (.pointer x) (.pointer y) w6.drew := ⟨k4, k5⟩
  have HNE1 : Hid (w4.heap.size ≠ w.heap.size + 1 ∧ w4.heap.size + 1 ≠ w.heap.size + 1) := Lib.hid ⟨by omega, by omega⟩
  have HNE2 : Hid (w4.heap.size ≠ w.heap.size + 2 ∧ w4.heap.size + 1 ≠ w.heap.size + 2) := Lib.hid ⟨by omega, by omega⟩
  have HNE3 : Hid (w4.heap.size ≠ w.heap.size + 1 + 1 ∧ w4.heap.size + 1 ≠ w.heap.size + 1 + 1) := Lib.hid ⟨by omega, by omega⟩
  have f2 : (k : Int) ≤ (c : Int) := by omega
  have f3 : (0 : Int) ≤ (k : Int) + 1 := by omega
  have f4 : (k : Int) + 1 ≤ (n : Int) := by omega
  have f5 : (n : Int) ≤ (c : Int) := by omega
  have hwk : IntKind.i64.wrap ((k : Int) + 1) = (k : Int) + 1 := by rw [IntKind.wrap_i64]; omega
  have hcm : c ≤ maxLen := hcap.2
  have hcn := hcap.1
  clear ht1 ht2 hb6 k4 k5 HM HTA0 HJ10 HJ20 hcap
  by_cases hcj : c = k + 1
  · have HTB : Hid (∀ w', Below w6.heap.size w6 w' → Calls Try.prog 43 #[.slice (some ⟨g, o, none⟩) 0 0] w' fun e w'' => ∃ x, e = .returned (.agg #[.pointer x]) ∧ Tin w'' 95 (.pointer x) LB ∧ Below w'.heap.size w' w'') := by
      refine Lib.hid (fun w' hb => ?_)
      have h1 := (HES.out.below (HB6.out.trans (hb.mono HB6.out.size))).drop (i := k + 1) (by rw [HNL.out]; omega) ⟨g, o, none⟩ (fun hh => by rw [HNL.out] at hh; omega) ⟨g, o, rfl⟩
      rw [show c - (k + 1) = 0 by omega] at h1
      exact HTB0.out w' _ 0 0 h1 (by rw [HNl.out]; omega)
    have hnk : n = k + 1 := by omega
    clear HTB0 HES HNl HNL
    subst hcj
    subst hnk
    go_region_held_law (fun w' => C2 ⟨w4.heap.size, 0, none⟩ ⟨w4.heap.size + 1, 0, none⟩ (.pointer x) (.pointer y) w')
      (first | assumption | exact C2.set (by assumption) (by assumption))
      ((first
        | (go_at_call 43; have XX := HB8; clear XX; refine (HTB.out _ HB8.out).mono ?_; rintro e w9 ⟨x9, rfl, ht9, hb9⟩; have hs9 := hs8.under hb9; have HT9 := Lib.hid ht9; have HT89 := Lib.hid (HT8.out.below hb9); have HB9 := Lib.hid (HB8.out.trans (hb9.mono HB8.out.size)); have HC9 := Lib.hid ((hb9.block _ (lt_of_heap HC8.out)).trans HC8.out); have HD9 := Lib.hid ((hb9.block _ (lt_of_heap HD8.out)).trans HD8.out); clear hb9 ht9)
        | (go_at_call 20; have XX := HB9; clear XX; refine (HJ2.out _ x9 HB9.out HT9.out).mono ?_; rintro e wA ⟨xA, rfl, htA, hbA⟩; have hsA := hs9.under hbA; have HTA := Lib.hid htA; have HT8A := Lib.hid (HT89.out.below hbA); have HBA := Lib.hid (HB9.out.trans (hbA.mono HB9.out.size)); have hcA := (hbA.block _ (lt_of_heap HC9.out)).trans HC9.out; have hdA := (hbA.block _ (lt_of_heap HD9.out)).trans HD9.out; have HCA := Lib.hid hcA; have HDA := Lib.hid hdA; have zA := fun i => unfrozen hdA i; have lA : wA.cell? ⟨w.heap.size + 1, 0, none⟩ = some (.pointer none) := (by rw [cell_at hdA]; rfl); have hkA : (wA.setCell ⟨w.heap.size + 1, 0, none⟩ (Value.pointer x8)).heap[w.heap.size + 2]? = some (.cells #[Value.pointer none] 27 (0, 0)) := (heap_set_other (by omega)).trans hcA; have zB := fun i => unfrozen hkA i; have lB : (wA.setCell ⟨w.heap.size + 1, 0, none⟩ (Value.pointer x8)).cell? ⟨w.heap.size + 2, 0, none⟩ = some (.pointer none) := (by rw [cell_at hkA]; rfl); clear hbA htA hcA hdA hkA)
        | (go_at_call 20; refine (HJ1.out _ x7 HB7.out HT7.out).mono ?_; rintro e w8 ⟨x8, rfl, ht8, hb8⟩; have hs8 := hs7.under hb8; have HT8 := Lib.hid ht8; have HB8 := Lib.hid (HB7.out.trans (hb8.mono HB7.out.size)); have HC8 := Lib.hid ((hb8.block _ (lt_of_heap HC7.out)).trans HC7.out); have HD8 := Lib.hid ((hb8.block _ (lt_of_heap HD7.out)).trans HD7.out); clear hb8 ht8)
        | (go_at_call 43; refine (HTA6.out _ HB60.out).mono ?_; rintro e w7 ⟨x7, rfl, ht7, hb7⟩; have hs7 := hs0.under hb7; have HT7 := Lib.hid ht7; have HB7 := Lib.hid (HB60.out.trans (hb7.mono HB60.out.size)); have HC7 := Lib.hid ((hb7.block _ (lt_of_heap HC6.out)).trans HC6.out); have HD7 := Lib.hid ((hb7.block _ (lt_of_heap HD6.out)).trans HD6.out); clear hb7 ht7)))
    all_goals
      clear ld0 ld1 hs0 hs7 hs8 hs9 hsA
      go_wp2_with fail
      obtain ⟨q1, q2, q3, q4, q5⟩ := two_set (x := x8) (y := xA) (n := w.heap.size) (T := 95) HDA.out HCA.out (by decide) HT8A.out HTA.out HGd.out.1 HGd.out.2 (by omega)
      exact bodyPost_ret (v := .tuple #[.agg #[.pointer x8], .agg #[.pointer xA]]) (by simp [results, Try.results18, go_sem, q4, q5]) rfl ⟨x8, xA, rfl, q1, q2, HBw.out.trans ((HBA.out.mono HBw.out.size).trans q3)⟩
  · have HTB : Hid (∀ w', Below w6.heap.size w6 w' → Calls Try.prog 43 #[.slice (some ⟨g, o + (k + 1), none⟩) (n - (k + 1)) (c - (k + 1))] w' fun e w'' => ∃ x, e = .returned (.agg #[.pointer x]) ∧ Tin w'' 95 (.pointer x) LB ∧ Below w'.heap.size w' w'') := by
      refine Lib.hid (fun w' hb => ?_)
      have h1 := (HES.out.below (HB6.out.trans (hb.mono HB6.out.size))).drop (i := k + 1) (by rw [HNL.out]; omega) ⟨g, o + (k + 1), none⟩ (fun hh => rfl) ⟨g, o + (k + 1), rfl⟩
      exact HTB0.out w' _ _ _ h1 HNl.out
    have g0 : ¬ ((c : Int) - ((k : Int) + 1) = 0) := by omega
    have g1 : c - (k + 1) ≠ 0 := by omega
    clear HTB0 HES HNl HNL
    go_region_held_law (fun w' => C2 ⟨w4.heap.size, 0, none⟩ ⟨w4.heap.size + 1, 0, none⟩ (.pointer x) (.pointer y) w')
      (first | assumption | exact C2.set (by assumption) (by assumption))
      ((first
        | (go_at_call 43; have XX := HB8; clear XX; refine (HTB.out _ HB8.out).mono ?_; rintro e w9 ⟨x9, rfl, ht9, hb9⟩; have hs9 := hs8.under hb9; have HT9 := Lib.hid ht9; have HT89 := Lib.hid (HT8.out.below hb9); have HB9 := Lib.hid (HB8.out.trans (hb9.mono HB8.out.size)); have HC9 := Lib.hid ((hb9.block _ (lt_of_heap HC8.out)).trans HC8.out); have HD9 := Lib.hid ((hb9.block _ (lt_of_heap HD8.out)).trans HD8.out); clear hb9 ht9)
        | (go_at_call 20; have XX := HB9; clear XX; refine (HJ2.out _ x9 HB9.out HT9.out).mono ?_; rintro e wA ⟨xA, rfl, htA, hbA⟩; have hsA := hs9.under hbA; have HTA := Lib.hid htA; have HT8A := Lib.hid (HT89.out.below hbA); have HBA := Lib.hid (HB9.out.trans (hbA.mono HB9.out.size)); have hcA := (hbA.block _ (lt_of_heap HC9.out)).trans HC9.out; have hdA := (hbA.block _ (lt_of_heap HD9.out)).trans HD9.out; have HCA := Lib.hid hcA; have HDA := Lib.hid hdA; have zA := fun i => unfrozen hdA i; have lA : wA.cell? ⟨w.heap.size + 1, 0, none⟩ = some (.pointer none) := (by rw [cell_at hdA]; rfl); have hkA : (wA.setCell ⟨w.heap.size + 1, 0, none⟩ (Value.pointer x8)).heap[w.heap.size + 2]? = some (.cells #[Value.pointer none] 27 (0, 0)) := (heap_set_other (by omega)).trans hcA; have zB := fun i => unfrozen hkA i; have lB : (wA.setCell ⟨w.heap.size + 1, 0, none⟩ (Value.pointer x8)).cell? ⟨w.heap.size + 2, 0, none⟩ = some (.pointer none) := (by rw [cell_at hkA]; rfl); clear hbA htA hcA hdA hkA)
        | (go_at_call 20; refine (HJ1.out _ x7 HB7.out HT7.out).mono ?_; rintro e w8 ⟨x8, rfl, ht8, hb8⟩; have hs8 := hs7.under hb8; have HT8 := Lib.hid ht8; have HB8 := Lib.hid (HB7.out.trans (hb8.mono HB7.out.size)); have HC8 := Lib.hid ((hb8.block _ (lt_of_heap HC7.out)).trans HC7.out); have HD8 := Lib.hid ((hb8.block _ (lt_of_heap HD7.out)).trans HD7.out); clear hb8 ht8)
        | (go_at_call 43; refine (HTA6.out _ HB60.out).mono ?_; rintro e w7 ⟨x7, rfl, ht7, hb7⟩; have hs7 := hs0.under hb7; have HT7 := Lib.hid ht7; have HB7 := Lib.hid (HB60.out.trans (hb7.mono HB60.out.size)); have HC7 := Lib.hid ((hb7.block _ (lt_of_heap HC6.out)).trans HC6.out); have HD7 := Lib.hid ((hb7.block _ (lt_of_heap HD6.out)).trans HD6.out); clear hb7 ht7)))
    all_goals
      clear ld0 ld1 hs0 hs7 hs8 hs9 hsA
      go_wp2_with fail
      obtain ⟨q1, q2, q3, q4, q5⟩ := two_set (x := x8) (y := xA) (n := w.heap.size) (T := 95) HDA.out HCA.out (by decide) HT8A.out HTA.out HGd.out.1 HGd.out.2 (by omega)
      exact bodyPost_ret (v := .tuple #[.agg #[.pointer x8], .agg #[.pointer xA]]) (by simp [results, Try.results18, go_sem, q4, q5]) rfl ⟨x8, xA, rfl, q1, q2, HBw.out.trans ((HBA.out.mono HBw.out.size).trans q3)⟩

/-- Split. -/
theorem split_i : ∀ (N : Nat) {w : World} {pv : Value} {L : List Value} (I : Int), L.length ≤ N → Tin w 95 pv L → Gd L → L.length ≤ 100000 → Calls Try.prog 18 #[.agg #[pv], .int .i64 I] w (SpPost L (heldN I L.length) w)
  | N, w, pv, L, I, hN, H, hg, hf => by
    by_cases hI : I ≤ 0 ∨ (L.length : Int) ≤ I
    · exact splitend_i I H hg hI
    · obtain ⟨i, rfl⟩ : ∃ i : Nat, I = (i : Int) := ⟨I.toNat, by omega⟩
      rw [heldN_nat (by omega)]
      rcases H with ⟨rfl, rfl⟩ | ⟨b, h, t, rfl, hin, hok, hL⟩
      · simp at hI; done
      · cases h with
        | zero =>
          have hTL : (t : List Value) = L := (flatL_zero t).symm.trans hL.symm
          subst hTL
          exact splitleaf_i hin hok hg (by omega) (by omega)
        | succ h =>
          cases N with
          | zero => omega
          | succ N =>
            refine splitnode_i hin hok hL.symm hg (by omega) (by omega) hf (fun w' x Lk j hT hlt hgk hj => ?_)
            have := split_i N (j : Int) (by omega) hT hgk (by omega)
            rwa [heldN_nat hj] at this

end Go.Proofs.Ytofncnommekbjaa
