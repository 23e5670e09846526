/-
  Texts of this seat, put together (a claim holds few texts): FdT, FdU.
-/
import Derived.Test.YtkgakgceamafcaaMk42

namespace Go.Proofs.Ytkgakgceamafcaa
open Go Go.RowKit Go.Shelf
set_option linter.unusedVariables false

/-- The places that are still to come. -/
def rst (p b : List UInt8) (all : Bool) (n i : Nat) : List Nat := if all then apf p b i else if n = 0 then (apf p b i).take 1 else []
theorem rst_zero (p b : List UInt8) (all : Bool) : rst p b all 0 0 = chosen all (apart p.length 0 (allOf p b)) := by
  unfold rst chosen
  rw [apf_zero]
  cases all <;> rfl
theorem rst_end {p b : List UInt8} {all : Bool} {n i : Nat} (h : b.length ≤ i) : rst p b all n i = [] := by
  unfold rst
  rw [apf_end h]
  cases all
  · by_cases h0 : n = 0 <;> simp [h0]
  · rfl
theorem rst_yes {p b : List UInt8} {all : Bool} {n i : Nat} (hi : i < b.length) (h : atP p b i = true) (hc : all = true ∨ n = 0) : rst p b all n i = i :: rst p b all (n + 1) (i + p.length) := by
  unfold rst
  rw [apf_yes hi h]
  cases all
  · have h0 : n = 0 := by simpa using hc
    simp [h0]
  · rfl
theorem rst_no {p b : List UInt8} {all : Bool} {n i : Nat} (hi : i < b.length) (h : atP p b i = false ∨ all = false ∧ n ≠ 0) : rst p b all n i = rst p b all n (i + 1) := by
  unfold rst
  rcases h with h | ⟨rfl, h⟩
  · rw [apf_no hi h]
  · simp [h]
theorem rst_ge {p b : List UInt8} {all : Bool} {n i x : Nat} (h : x ∈ rst p b all n i) : i ≤ x := by
  have hx : x ∈ apf p b i := by
    unfold rst at h
    cases all
    · by_cases h0 : n = 0
      · rw [if_neg (by decide), if_pos h0] at h; exact List.mem_of_mem_take h
      · rw [if_neg (by decide), if_neg h0] at h; simp at h
    · exact h
  exact (apf_ge b.length i x (by omega) hx).1
/-- What the loop keeps. -/
structure Rp (b p o : List UInt8) (all : Bool) (X : List UInt8) (n i : Nat) : Prop where
  text : X ++ repl b o p.length i (rst p b all n i) = repl b o p.length 0 (rst p b all 0 0)
  cnt : n + (rst p b all n i).length = (rst p b all 0 0).length
  le : i ≤ b.length
  few : X.length ≤ i * (o.length + 1)
theorem Rp.yes {b p o X : List UInt8} {all : Bool} {n i : Nat} (h : Rp b p o all X n i) (hi : i < b.length) (ha : atP p b i = true) (hc : all = true ∨ n = 0) : Rp b p o all (X ++ o) (n + 1) (i + p.length) := by
  have h1 := h.text
  have h2 := h.cnt
  rw [rst_yes hi ha hc] at h1 h2
  rw [repl_at] at h1
  have hf := at_fits ha
  refine ⟨by rw [List.append_assoc]; exact h1, by rw [← h2, List.length_cons]; omega, by omega, ?_⟩
  have h3 := h.few
  rw [List.length_append, Nat.add_mul]
  have : 1 * (o.length + 1) ≤ p.length * (o.length + 1) := Nat.mul_le_mul_right _ (by omega)
  omega
theorem Rp.no {b p o X : List UInt8} {all : Bool} {n i : Nat} {c : UInt8} (h : Rp b p o all X n i) (hc : b[i]? = some c) (ha : atP p b i = false ∨ all = false ∧ n ≠ 0) : Rp b p o all (X ++ [c]) n (i + 1) := by
  have hi := (List.getElem?_eq_some_iff.1 hc).1
  have h1 := h.text
  have h2 := h.cnt
  rw [rst_no hi ha] at h1 h2
  rw [repl_skip hc (fun x hx => rst_ge hx)] at h1
  refine ⟨by rw [List.append_assoc]; exact h1, h2, by omega, ?_⟩
  have h3 := h.few
  rw [List.length_append, Nat.add_mul]
  simp only [List.length_cons, List.length_nil]
  omega

set_option maxRecDepth 100000 in
set_option maxHeartbeats 4000000 in
theorem rrepl_of {w : World} (b p o : List UInt8) (all : Bool) {L m q : Nat} (hL : b.length = L) (hm : p.length = m) (hq : o.length = q) (hl : L ≤ 1000) (hml : m ≤ 1000) (hql : q ≤ 1000) :
    Calls Try.prog 17 #[.string (strOf b), .string (strOf p), .string (strOf o), .bool all] w fun e w' => e = .returned (.tuple #[.string (strOf (repl b o m 0 (chosen all (apart m 0 (allOf p b))))), .int .i64 ((chosen all (apart m 0 (allOf p b))).length : Int)]) ∧ w = w' := by
  have sL : (strOf b).size = L := hL
  have sM : (strOf p).size = m := hm
  have HAt := Lib.hid (fun (w' : World) (i : Nat) (h : i ≤ 200000) => rat_of (w := w') b p i hL hm (by omega) (by omega) h)
  have HZ : Hid (∀ X n i, L ≤ i → Rp b p o all X n i → X = repl b o m 0 (chosen all (apart m 0 (allOf p b))) ∧ n = (chosen all (apart m 0 (allOf p b))).length) := by
    intro X n i hi h
    have h1 := h.text
    have h2 := h.cnt
    rw [rst_end (by omega)] at h1 h2
    rw [rst_zero, hm] at h1 h2
    have hd : repl b o m i [] = [] := by show b.drop i = []; rw [List.drop_eq_nil_iff]; omega
    rw [hd, List.append_nil] at h1
    exact ⟨h1, by simpa using h2⟩
  generalize hR : repl b o m 0 (chosen all (apart m 0 (allOf p b))) = R at *
  generalize hT : (chosen all (apart m 0 (allOf p b))).length = T at *
  have HX : Hid (∀ i, i < L → ∃ c, b[i]? = some c ∧ (strOf b).extract i (i + 1) = strOf [c]) := by
    intro i hi
    refine ⟨b[i], List.getElem?_eq_getElem (by omega), ?_⟩
    rw [strx, show i + 1 - i = 1 by omega, List.drop_eq_getElem_cons (by omega)]; rfl
  have hO : ∀ X : List UInt8, strOf X ++ strOf o = strOf (X ++ o) := fun X => strOf_app X o
  have HO := Lib.hid hO
  have HB := Lib.hid hL
  have HM := Lib.hid hm
  have HQ := Lib.hid hq
  have H0 : Hid (Rp b p o all [] 0 0) := ⟨rfl, by rw [Nat.zero_add], Nat.zero_le _, by simp⟩
  clear hO hR hT hL hm hq
  have sO : (strOf o).size = q := HQ.out
  generalize hB : strOf b = B at *
  generalize strOf p = P at *
  generalize hOo : strOf o = O at *
  clear hB hOo
  go_enter Try.func17, Try.ntmps17
  go_wp2_with fail
  go_loop [10, 11, 12] (fun v10 v11 v12 => ∃ (X : List UInt8) (n i : Nat), v10 = .string (strOf X) ∧ v11 = .int .i64 (n : Int) ∧ v12 = .int .i64 (i : Int) ∧ Rp b p o all X n i) (fun _ _ v12 => L - (intOf v12).toNat)
  case atStart => exact ⟨[], 0, 0, rfl, rfl, rfl, H0.out⟩
  case round =>
    obtain ⟨X, n, i, rfl, rfl, rfl, hrp⟩ := hrel
    have HR := Lib.hid hrp
    have hil : i ≤ L := by have := hrp.le; have := HB.out; omega
    have hnl : n ≤ 100000 := by
      have h1 := hrp.cnt
      have h2 : (rst p b all 0 0).length ≤ L := by
        rw [rst_zero]
        have a1 := apart_len p.length (allOf p b) 0
        have a2 := all_len p b
        have := HB.out
        unfold chosen
        cases all
        · rw [if_neg (by decide), List.length_take]; omega
        · rw [if_pos rfl]; omega
      omega
    have hsx : (strOf X).size ≤ 3000000 := by
      have h1 := hrp.few
      have h2 : i * (o.length + 1) ≤ 1000 * (1000 + 1) := Nat.mul_le_mul (by omega) (by have := HQ.out; omega)
      rw [strOf_size]; omega
    clear hrp
    by_cases hlt : i < L
    · have dk : decide (i < L) = true := decide_eq_true hlt
      have HA2 := Lib.hid (HAt.out w i (by omega))
      obtain ⟨c, hc, hx⟩ := HX.out i hlt
      have HC := Lib.hid hc
      have HXX := Lib.hid hx
      clear hc hx
      clear HAt HX HZ H0
      cases hat : atP p b i
      · rw [hat] at HA2
        have HN2 := Lib.hid (HR.out.no HC.out (Or.inl hat))
        have HE := Lib.hid (strOf_app X [c])
        clear hat HR
        generalize strOf X = S at *
        go_wp2_with fail
        refine HA2.out.mono ?_; rintro e w2 ⟨rfl, rfl⟩
        go_wp2_with fail
        go_round
        case rel => exact ⟨X ++ [c], n, i + 1, by rw [← HE.out, ← HXX.out], rfl, by go_num, HN2.out⟩
        case measure => simp [intOf]; omega
      · rw [hat] at HA2
        by_cases hc0 : all = true ∨ n = 0
        · have HN2 := Lib.hid (HR.out.yes (by have := HB.out; omega) hat hc0)
          have HE := Lib.hid (HO.out X)
          have hfit := at_fits hat
          have hfm : i + m ≤ L ∧ 0 < m := by have := HB.out; have := HM.out; omega
          have HM2 : Hid (p.length = m) := HM
          clear hat HR hfit
          generalize strOf X = S at *
          rcases Bool.eq_false_or_eq_true all with ha | ha
          · subst ha
            go_wp2_with fail
            refine HA2.out.mono ?_; rintro e w2 ⟨rfl, rfl⟩
            go_wp2_with fail
            go_round
            case rel => exact ⟨X ++ o, n + 1, i + m, by rw [← HE.out], by go_num, by go_num, by rw [← HM2.out]; exact HN2.out⟩
            case measure => simp [intOf]; omega
          · subst ha
            obtain rfl : n = 0 := by simpa using hc0
            go_wp2_with fail
            refine HA2.out.mono ?_; rintro e w2 ⟨rfl, rfl⟩
            go_wp2_with fail
            go_round
            case rel => exact ⟨X ++ o, 0 + 1, i + m, by rw [← HE.out], by go_num, by go_num, by rw [← HM2.out]; exact HN2.out⟩
            case measure => simp [intOf]; omega
        · obtain ⟨rfl, h0⟩ : all = false ∧ n ≠ 0 := by
            rcases Bool.eq_false_or_eq_true all with h | h
            · exact absurd (Or.inl h) hc0
            · exact ⟨h, fun h0 => hc0 (Or.inr h0)⟩
          have HN2 := Lib.hid (HR.out.no HC.out (Or.inr ⟨rfl, h0⟩))
          have HE := Lib.hid (strOf_app X [c])
          have dn : ((n : Int) == 0) = false := by simpa using h0
          clear hat HR hc0
          generalize strOf X = S at *
          go_wp2_with fail
          refine HA2.out.mono ?_; rintro e w2 ⟨rfl, rfl⟩
          go_wp2_with fail
          go_round
          case rel => exact ⟨X ++ [c], n, i + 1, by rw [← HE.out, ← HXX.out], rfl, by go_num, HN2.out⟩
          case measure => simp [intOf]; omega
    · have dk : decide (i < L) = false := decide_eq_false hlt
      obtain ⟨hX, hn⟩ := HZ.out X n i (by omega) HR.out
      subst hX hn
      go_wp2_with fail
      go_ret2
      exact ⟨rfl, rfl⟩
end Go.Proofs.Ytkgakgceamafcaa

namespace Go.Proofs.Ytkgakgceamafcaa
open Go Go.RowKit Go.Shelf
set_option linter.unusedVariables false

theorem self17 {p b : List UInt8} {all : Bool} {m : Nat} (hm : p.length = m) : repl b p m 0 (chosen all (apart m 0 (allOf p b))) = b := by
  subst hm
  have h := apart_pair (m := p.length) (allOf p b) 0
  have hsub : ∀ x ∈ chosen all (apart p.length 0 (allOf p b)), x ∈ apart p.length 0 (allOf p b) := by
    intro x hx
    unfold chosen at hx
    cases all
    · exact List.mem_of_mem_take hx
    · exact hx
  have hpw : (chosen all (apart p.length 0 (allOf p b))).Pairwise fun x y => x + p.length ≤ y := by
    unfold chosen
    cases all
    · exact h.2.1.sublist (List.take_sublist _ _)
    · exact h.2.1
  rw [repl_self _ 0 (fun x hx => (all_lt (h.2.2 x (hsub x hx))).2.2) hpw (fun x _ => Nat.zero_le x)]
  rfl

set_option maxRecDepth 100000 in
set_option maxHeartbeats 400000 in
theorem findReplaces_walk (s x y : ByteArray) (all : Bool) (w : World) (hs : s.size ≤ maxLen) (hxy : x.size ≤ maxLen ∧ y.size ≤ maxLen) :
    Calls Try.prog 4 #[.string s, .agg #[.string x, .string y, .bool all]] w fun e w' => e = .returned (.bool true) ∧ Below w.heap.size w w' := by
  obtain ⟨b, eb, lb⟩ := str_cut s 300
  obtain ⟨p, ep, lp⟩ := str_cut x 30
  obtain ⟨o, eo, lo⟩ := str_cut y 30
  obtain ⟨L, hL⟩ : ∃ L, b.length = L := ⟨_, rfl⟩
  obtain ⟨m, hm⟩ : ∃ m, p.length = m := ⟨_, rfl⟩
  obtain ⟨q, hq⟩ : ∃ q, o.length = q := ⟨_, rfl⟩
  rw [hL] at lb
  rw [hm] at lp
  rw [hq] at lo
  have HC1 : Hid (∀ v : World, Calls Try.prog 5 #[.string s, .int .i64 300] v fun e w' => e = .returned (.string (strOf b)) ∧ w' = v) := by
    rw [← eb]; exact Lib.hid (fun v : World => (cut17_of s 300 v hs (by decide)).mono fun e w' h => ⟨h.1, h.2.symm⟩)
  have HC2 : Hid (∀ v : World, Calls Try.prog 5 #[.string x, .int .i64 30] v fun e w' => e = .returned (.string (strOf p)) ∧ w' = v) := by
    rw [← ep]; exact Lib.hid (fun v : World => (cut17_of x 30 v hxy.1 (by decide)).mono fun e w' h => ⟨h.1, h.2.symm⟩)
  have HC3 : Hid (∀ v : World, Calls Try.prog 5 #[.string y, .int .i64 30] v fun e w' => e = .returned (.string (strOf o)) ∧ w' = v) := by
    rw [← eo]; exact Lib.hid (fun v : World => (cut17_of y 30 v hxy.2 (by decide)).mono fun e w' h => ⟨h.1, h.2.symm⟩)
  have k0 := t_al w (.cells #[.string x, .string y, .bool all] 33)
  have hfn := heap_alloc_new w (.cells #[.string x, .string y, .bool all] 33)
  obtain ⟨w1, hw1⟩ : ∃ w1, w.alloc (.cells #[.string x, .string y, .bool all] 33) = w1 := ⟨_, rfl⟩
  rw [hw1] at k0 hfn
  have c0 : w1.cell? ⟨w.heap.size, 0, none⟩ = some (.string x) := by rw [cell_at hfn]; rfl
  have c1 : w1.cell? ⟨w.heap.size, 1, none⟩ = some (.string y) := by rw [cell_at hfn]; rfl
  have c2 : w1.cell? ⟨w.heap.size, 2, none⟩ = some (.bool all) := by rw [cell_at hfn]; rfl
  have hwl : w.heap.size < w1.heap.size := by rw [← hw1, World.size_alloc]; omega
  have HW1 := Lib.hid hw1
  have HK := Lib.hid k0
  have HFN := Lib.hid hfn
  clear hw1 k0 hfn eb ep eo hs hxy
  go_enter Try.func4, Try.ntmps4
  go_upto_region 1 with fail
  rw [HW1.out]
  refine wp_region_quiet_lit (by kernel_rfl) (by kernel_rfl) ?_
  go_big_quiet_step (fail)
  go_big_quiet_step ((go_at_call 5; exact Calls.quiet_of_same (HC1.out _)))
  go_big_quiet_step (fail)
  go_big_quiet_step (fail)
  go_big_quiet_step ((go_at_call 5; exact Calls.quiet_of_same (HC2.out _)))
  go_big_quiet_step (fail)
  go_big_quiet_step (fail)
  go_big_quiet_step ((go_at_call 5; exact Calls.quiet_of_same (HC3.out _)))
  go_big_quiet_step (fail)
  go_big_quiet_step (fail)
  go_big_quiet_step (fail)
  refine wpQuiet_nil ?_
  intro _ hw'
  obtain ⟨nq, hw''⟩ := hw'
  subst hw''
  clear HC1 HC2 HC3 HW1 c0 c1 c2
  have K1 : Hid (Below w.heap.size w (w1.drewN nq)) := Lib.hid (HK.out.trans ((Below.draws w1 nq).mono HK.out.size))
  have F1 : Hid ((w1.drewN nq).heap[w.heap.size]? = some (.cells #[.string x, .string y, .bool all] 33 (0, 0))) := HFN.out
  have hw2 : w.heap.size < (w1.drewN nq).heap.size := hwl
  clear hwl HK HFN
  generalize w1.drewN nq = v0 at *
  obtain ⟨d1, W1, q1, g1, r1, b1, z1⟩ := conv_str b v0 hL (by omega)
  obtain ⟨d2, W2, q2, _, r2, b2, z2⟩ := conv_str p W1 hm (by omega)
  obtain ⟨d3, W3, q3, _, r3, b3, z3⟩ := conv_str o W2 hq (by omega)
  have b12 := b1.trans (b2.mono b1.size)
  have b13 := b12.trans (b3.mono b12.size)
  have b23 := b2.trans (b3.mono b2.size)
  have z13 := b13.size
  have z23 := b3.size
  have h3 := (b13.block _ hw2).trans F1.out
  have c2 : W3.cell? ⟨w.heap.size, 2, none⟩ = some (.bool all) := by rw [cell_at h3]; rfl
  have HRp := Lib.hid (callsIn_wide.1 (repl_in 0 (L := L) (m := m) (on := q) (sc := d1) (tc := d2) (oc := d3) all (r1.below b23) (r2.below b3) r3 hL hm hq (by omega) (by omega) (by omega) g1 (by omega) (by omega) (fun d hd => by cases hd; show W1.heap.size < W3.heap.size; omega)))
  have K3 := Lib.hid (K1.out.trans (b13.mono K1.out.size))
  have F3 := Lib.hid h3
  have HRR := Lib.hid (fun v : World => rrepl_of (w := v) b p o all hL hm hq (by omega) (by omega) (by omega))
  have hSelf := self17 (b := b) (all := all) hm
  have hzw : w.heap.size < W3.heap.size := by omega
  generalize hR : repl b o m 0 (chosen all (apart m 0 (allOf p b))) = R at *
  generalize hT : (chosen all (apart m 0 (allOf p b))).length = T at *
  clear K1 F1 r1 r2 r3 b1 b2 b3 b12 b13 b23 z1 z2 z3 h3 hw2 g1 z13 z23 hR
  go_wp2_with fail
  refine HRp.out.mono ?_; rintro e w4 ⟨a4, e4, rfl, o4, b4⟩
  have K4 := Lib.hid (K3.out.trans (b4.mono K3.out.size))
  have F4 := Lib.hid ((b4.block _ hzw).trans F3.out)
  have O4 := Lib.hid o4
  have hz4 : w.heap.size < w4.heap.size := by have := b4.size; omega
  have c4 : w4.cell? ⟨w.heap.size, 2, none⟩ = some (.bool all) := by rw [cell_at F4.out]; rfl
  clear q1 q2 q3 HRp c2 K3 F3 o4 b4 hzw
  go_wp2_with fail
  refine (HRR.out w4).mono ?_; rintro e w5 ⟨rfl, rfl⟩
  clear HRR
  obtain ⟨d5, W5, q5, g5, r5, b5, z5⟩ := conv_str b w4 hL (by omega)
  obtain ⟨d6, W6, q6, _, r6, b6, z6⟩ := conv_str p W5 hm (by omega)
  obtain ⟨d7, W7, q7, _, r7, b7, z7⟩ := conv_str p W6 hm (by omega)
  have b56 := b5.trans (b6.mono b5.size)
  have b57 := b56.trans (b7.mono b56.size)
  have b67 := b6.trans (b7.mono b6.size)
  have z57 := b57.size
  have z77 := b7.size
  have h7 := (b57.block _ hz4).trans F4.out
  have c7 : W7.cell? ⟨w.heap.size, 2, none⟩ = some (.bool all) := by rw [cell_at h7]; rfl
  have HR2 := callsIn_wide.1 (repl_in 0 (L := L) (m := m) (on := m) (sc := d5) (tc := d6) (oc := d7) all (r5.below b67) (r6.below b7) r7 hL hm hm (by omega) (by omega) (by omega) g5 (by omega) (by omega) (fun d hd => by cases hd; show W5.heap.size < W7.heap.size; omega))
  rw [hSelf, hT] at HR2
  have HRp := Lib.hid HR2
  have K7 := Lib.hid (K4.out.trans (b57.mono K4.out.size))
  have O7 := Lib.hid (own_below O4.out b57)
  clear r5 r6 r7 b5 b6 b7 b56 b57 b67 z5 z6 z7 h7 g5 z57 z77 hz4 HR2 K4 F4 O4 c4 hSelf hT
  go_wp2_with fail
  refine HRp.out.mono ?_; rintro e w8 ⟨a8, e8, rfl, o8, b8⟩
  have K8 := Lib.hid (K7.out.trans (b8.mono K7.out.size))
  have s1 := string_own (own_below O7.out b8)
  have s2 := string_own o8
  rw [hL] at s2
  clear q5 q6 q7 HRp c7 K7 O7 o8 b8
  generalize strOf R = SR at *
  generalize strOf b = B at *
  generalize R.length = NR at *
  go_wp2_with fail
  refine (awake17_of w8).mono ?_; rintro e w9 ⟨rfl, b9⟩
  have K9 := Lib.hid (K8.out.trans (b9.mono K8.out.size))
  clear b9
  go_wp2_with fail
  go_ret
  exact ⟨rfl, K9.out⟩
end Go.Proofs.Ytkgakgceamafcaa
