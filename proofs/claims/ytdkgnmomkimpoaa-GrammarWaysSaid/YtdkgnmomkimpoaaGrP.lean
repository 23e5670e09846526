/-
  GrammarWays' walk, at this seat's numbers.
-/
import Derived.Test.YtdkgnmomkimpoaaGrO
namespace Go.Proofs.Ytdkgnmomkimpoaa
open Go Go.RowKit
set_option linter.unusedVariables false

/-- What Read of one key gives, for a known outcome. -/
theorem read_as (x way : Int) (r : Bool) (w : World) (b : Nat) (hb : w.heap[b]? = some (kO x)) : Calls Try.prog 25 #[.slice (some ⟨b, 0, none⟩) 1 1, .bool (way == 1), .bool r] w fun e w' => e = .returned (rgV (some ⟨b, 0, none⟩) 1 1 1 (rdF x (way == 1) r).1 (rdF x (way == 1) r).2.1 (rdF x (way == 1) r).2.2) ∧ Below w.heap.size w w' := by
  have hs : Sq w (some ⟨b, 0, none⟩) 1 [x] := ⟨fun j y hj => by
    have hj0 : j = 0 := by
      have := (List.getElem?_eq_some_iff.1 hj).1
      simp at this; exact this
    subst hj0
    simp at hj; subst hj
    exact ⟨_, rfl, by rw [show (Addr.add ⟨b, 0, none⟩ 0) = ⟨b, 0, none⟩ from rfl, cell_at hb]; rfl, lt_of_heap hb⟩, Nat.le_refl _, by decide⟩
  exact read_of hs rfl rfl _ _
/-- The iteration's facts: the press's box, the parser as new, the key taken. -/
structure Took (w0 w w' : World) (p b5 : Nat) (x way : Int) (r : Bool) : Prop where
  ps : ∃ v S, PsIn w' p p v S
  b5h : w'.heap[b5]? = some (ltO x way r)
  low : Below p w0 w'
  lt : p < b5
theorem Took.cs {w0 w w' : World} {p b5 : Nat} {x way : Int} {r : Bool} (h : Took w0 w w' p b5 x way r) : w'.cell? ⟨b5, 0, none⟩ = some (.int .i64 x) ∧ w'.cell? ⟨b5, 1, none⟩ = some (.int .i64 way) ∧ w'.cell? ⟨b5, 2, none⟩ = some (.bool r) :=
  ⟨by rw [cell_at h.b5h]; rfl, by rw [cell_at h.b5h]; rfl, by rw [cell_at h.b5h]; rfl⟩
theorem Took.below {w0 w w' w2 : World} {p b5 : Nat} {x way : Int} {r : Bool} (h : Took w0 w w' p b5 x way r) (hb : Below w'.heap.size w' w2) : Took w0 w w2 p b5 x way r := by
  obtain ⟨⟨v, S, h1⟩, h2, h3, h4⟩ := h
  refine ⟨⟨v, S, h1.below hb⟩, (hb.block _ (lt_of_heap h2)).trans h2, h3.trans (hb.mono ?_), h4⟩
  have := lt_of_heap h2; omega
theorem Took.reset {w0 w w' w2 : World} {p b5 : Nat} {x way : Int} {r : Bool} (h : Took w0 w w' p b5 x way r) (hp : Pr w2 p (.slice none 0 0) c0M .nilFunc) (m : GMv p w' w2) : Took w0 w w2 p b5 x way r ∧ PsIn w2 p p (.slice none 0 0) p0M ∧ p ≤ w2.heap.size := by
  obtain ⟨⟨v, S, h1⟩, h2, h3, h4⟩ := h
  have hl := lt_of_heap h2
  have hm := m.low' (Nat.le_refl p) (by omega)
  exact ⟨⟨⟨_, _, PsIn.again (w := w2) hp⟩, (m.oth b5 hl (by omega)).trans h2, h3.trans hm, h4⟩, PsIn.again (w := w2) hp, by have := lt_of_heap hp; omega⟩
theorem Took.key {w0 w w' w2 : World} {p b5 : Nat} {x way : Int} {r : Bool} {v2 : Value} {S2 : Ps} (h : Took w0 w w' p b5 x way r) (hp : PsIn w2 p p v2 S2) (m : KMv p p (.slice none 0 0) v2 w' w2) : Took w0 w w2 p b5 x way r := by
  obtain ⟨⟨v, S, h1⟩, h2, h3, h4⟩ := h
  exact ⟨⟨_, _, hp⟩, m.oth b5 _ h2 (by omega) (by simp [Value.ownBlock]), h3.trans m.low, h4⟩

set_option maxRecDepth 100000 in
set_option maxHeartbeats 16000000 in
theorem grammarWays_walk (a : Option Addr) (k : Nat) (L : List PrF) (w : World) (HO : PrsIn w a L ∧ k ≤ maxLen ∧ L.length ≤ k) :
    Calls Try.prog 8 #[.slice a L.length k] w fun e w' => e = .returned (.bool true) ∧ Below w.heap.size w w' := by
  have HN := Lib.hid (gnew_of w)
  have HA := Lib.hid (fun w => awake24_of w)
  have HOps := Lib.hid HO.1
  have hLk := HO.2.2
  have hkm := HO.2.1
  unfold maxLen at hkm
  obtain ⟨n, hn⟩ : ∃ n, n = L.length := ⟨_, rfl⟩
  rw [← hn] at hLk ⊢
  have HLn := Lib.hid hn
  have HX0 : Hid (∃ v S, PsIn (w.alloc (.cells (prC (.slice none 0 0) c0M .nilFunc) 78)) w.heap.size w.heap.size v S) := ⟨_, _, PsIn.start (Nat.le_refl _)⟩
  have HL0 := Lib.hid (t_al w (.cells (prC (.slice none 0 0) c0M .nilFunc) 78))
  clear HO hn
  go_enter Try.func8, Try.ntmps8
  go_wp2_with fail
  refine HN.out.mono ?_; rintro e w1 ⟨rfl, rfl⟩
  go_wp2_with fail
  obtain ⟨p, hpw⟩ : ∃ p, w.heap.size = p := ⟨_, rfl⟩
  rw [hpw] at HX0 HL0
  have HP := Lib.hid hpw
  rw [hpw]
  clear hpw HN
  go_loopw [13] (fun v13 wr => ∃ j : Nat, v13 = .int .i64 j ∧ j ≤ n ∧ j ≤ 60 ∧ (∃ v S, PsIn wr p p v S) ∧ Below p w wr) (fun v13 _ => n - (intOf v13).toNat)
  case atStart => exact ⟨0, rfl, Nat.zero_le _, by omega, HX0.out, HL0.out⟩
  case round =>
    obtain ⟨wq, rfl⟩ : ∃ wq : World, wq = wr := ⟨_, rfl⟩
    obtain ⟨j, rfl, hj, hj60, ⟨v, S, hP⟩, hB⟩ := hrel
    have hpz : p ≤ wq.heap.size := by
      obtain ⟨nx, h1, _⟩ := hP.pr
      have := lt_of_heap h1; omega
    by_cases hlt : j < n
    · have dj : decide (j < n) = true := decide_eq_true hlt
      obtain ⟨⟨x, way, r⟩, hox⟩ : ∃ o, L[j]? = some o := ⟨_, List.getElem?_eq_getElem (by rw [← HLn.out]; exact hlt)⟩
      obtain ⟨g, o, rfl, hg, k0, k1, k2⟩ := (HOps.out.below (by rw [HP.out]; exact hB)) j _ hox
      simp only at k0 k1 k2
      have e0 : (0 : Int) ≤ (j : Int) := by omega
      have e1 : (j : Int) < (n : Int) := by omega
      by_cases h60 : 60 ≤ j
      · have z1 : decide ((60 : Int) ≤ (j : Int)) = true := decide_eq_true (by omega)
        have HB2 := Lib.hid (hB.trans ((t_al wq (ltO x way r)).mono hpz))
        clear hB hP
        go_wp2_with fail
        refine (HA.out _).mono ?_; rintro e w9 ⟨rfl, b9⟩
        have HB9 := Lib.hid (HB2.out.trans (b9.mono (by simp; omega)))
        clear b9
        go_wp2_with fail
        go_ret
        exact ⟨rfl, by rw [HP.out]; exact HB9.out⟩
      · have z1 : decide ((60 : Int) ≤ (j : Int)) = false := decide_eq_false (by omega)
        have hTk : Took w wq (wq.alloc (ltO x way r)) p wq.heap.size x way r := by
          obtain ⟨nx, h1, _⟩ := hP.pr
          exact ⟨⟨_, _, hP.below (t_al _ _)⟩, heap_alloc_new _ _, hB.trans ((t_al _ _).mono hpz), lt_of_heap h1⟩
        obtain ⟨nx0, h10, _⟩ := hP.pr
        have hRs := reset_of (h10.below (t_al wq (ltO x way r)))
        have HT := Lib.hid hTk
        have HR := Lib.hid hRs
        clear hP hB hTk hRs hox h10
        generalize hb5 : wq.heap.size = b5 at *
        go_wp2_with fail
        refine HR.out.mono ?_; rintro e w2 ⟨rfl, p2, m2, z2⟩
        obtain ⟨t2, q2, l2⟩ := HT.out.reset p2 m2
        obtain ⟨c0, c1, c2⟩ := t2.cs
        have HK := Lib.hid (key_of q2 l2 (by simp [p0M]) x way r)
        have HT2 := Lib.hid t2
        clear p2 m2 z2 t2 q2 l2 HR HT
        have HRd := Lib.hid (fun w b hb => read_as x way r w b hb)
        by_cases h27 : x = 27
        · have z27 : (x == 27) = true := by rw [h27]; rfl
          have ey : (keyF p0M x way r).1 = (c0M, 0, 0) := by rw [h27]; rfl
          rw [ey] at HK
          generalize rdF x (way == 1) r = y at *
          clear ey h27
          go_wp2_with fail
          refine HK.out.mono ?_; rintro e w3 ⟨rfl, v3, p3, m3, _⟩
          have t3 := HT2.out.key p3 m3
          have t4 := t3.below (t_al w3 (cmO c0M))
          have z4 : (w3.alloc (cmO c0M)).heap.size = w3.heap.size + 1 := by simp
          have t5 := t4.below (t_al (w3.alloc (cmO c0M)) (kO x))
          have h6 : ((w3.alloc (cmO c0M)).alloc (kO x)).heap[w3.heap.size]? = some (cmO c0M) := heap_mid w3 _ _
          have hk : ((w3.alloc (cmO c0M)).alloc (kO x)).heap[w3.heap.size + 1]? = some (kO x) := by rw [← z4]; exact heap_alloc_new _ _
          obtain ⟨c40, c41, c42⟩ := t4.cs
          obtain ⟨c50, c51, c52⟩ := t5.cs
          have HRc := Lib.hid (HRd.out ((w3.alloc (cmO c0M)).alloc (kO x)) (w3.heap.size + 1) hk)
          have HT5 := Lib.hid t5
          have H6 := Lib.hid h6
          clear p3 m3 t3 t4 t5 h6 hk z4 c0 c1 c2
          go_wp2_with fail
          refine HRc.out.mono ?_; rintro e w6 ⟨rfl, b6⟩
          have t6 := HT5.out.below b6
          have h66 := (b6.block _ (lt_of_heap H6.out)).trans H6.out
          have h9 := heap_alloc_new w6 (rgO (some ⟨w3.heap.size + 1, 0, none⟩) 1 1 1 y.1 y.2.1 y.2.2)
          obtain ⟨d0, _⟩ := (t6.below (t_al w6 (rgO (some ⟨w3.heap.size + 1, 0, none⟩) 1 1 1 y.1 y.2.1 y.2.2))).cs
          have hlow : Below w6.heap.size w6 ((w6.alloc (rgO (some ⟨w3.heap.size + 1, 0, none⟩) 1 1 1 y.1 y.2.1 y.2.2)).setRow w6.heap.size (rgA none 0 0 0 c0M 0 0)) := (t_al w6 _).trans (setRow_low (Nat.le_refl _))
          have hset := setRow_heap (w6.alloc (rgO (some ⟨w3.heap.size + 1, 0, none⟩) 1 1 1 y.1 y.2.1 y.2.2)) w6.heap.size _ (rgA none 0 0 0 c0M 0 0) _ _ h9
          obtain ⟨q0, q1, q2, q3, q4, q5, q6, q7, q8⟩ := rgCells hset
          obtain ⟨g0, g1, g2, g3, g4⟩ := rowCells ((hlow.block _ (lt_of_heap h66)).trans h66)
          have HT7 := Lib.hid (t6.below hlow)
          have H9 := Lib.hid h9
          clear b6 t6 h66 h9 hlow hset HRc HRd HT5 H6 HT2 HK c40 c41 c42 c50 c51 c52
          go_wp2_with (refine wpList_store_row rfl 54 _ _ rfl w6.heap.size (rgA none 0 0 0 c0M 0 0) rfl rfl 54 _ H9.out (rgA_size none 0 0 0 c0M 0 0) rfl (rgA_one none 0 0 0 c0M 0 0) ?_)
          go_quiet (fail)
          go_wp2_with fail
          have HT8 := Lib.hid (fun m => HT7.out.below (Below.draws _ m))
          go_roundw
          case rel => exact ⟨j + 1, by go_num, by omega, by omega, (HT8.out _).ps, (HT8.out _).low⟩
          case measure => simp [intOf]; omega
        · obtain ⟨ha, hc⟩ := ways_agree h27 way r
          have z27 : (x == 27) = false := beq_eq_false_iff_ne.2 h27
          by_cases hm : (keyF p0M x way r).1.2.1 = 1
          · rw [← ha, hm, ← hc hm] at HRd
            rw [hm] at HK
            generalize (keyF p0M x way r).1.1 = C at *
            generalize (keyF p0M x way r).1.2.2 = er at *
            generalize (rdF x (way == 1) r).2.2 = er2 at *
            clear ha hc hm h27
            go_wp2_with fail
            refine HK.out.mono ?_; rintro e w3 ⟨rfl, v3, p3, m3, _⟩
            have t3 := HT2.out.key p3 m3
            have t4 := t3.below (t_al w3 (cmO C))
            have z4 : (w3.alloc (cmO C)).heap.size = w3.heap.size + 1 := by simp
            have t5 := t4.below (t_al (w3.alloc (cmO C)) (kO x))
            have h6 : ((w3.alloc (cmO C)).alloc (kO x)).heap[w3.heap.size]? = some (cmO C) := heap_mid w3 _ _
            have hk : ((w3.alloc (cmO C)).alloc (kO x)).heap[w3.heap.size + 1]? = some (kO x) := by rw [← z4]; exact heap_alloc_new _ _
            obtain ⟨c40, c41, c42⟩ := t4.cs
            obtain ⟨c50, c51, c52⟩ := t5.cs
            have HRc := Lib.hid (HRd.out ((w3.alloc (cmO C)).alloc (kO x)) (w3.heap.size + 1) hk)
            have HT5 := Lib.hid t5
            have H6 := Lib.hid h6
            clear p3 m3 t3 t4 t5 h6 hk z4 c0 c1 c2
            go_wp2_with fail
            refine HRc.out.mono ?_; rintro e w6 ⟨rfl, b6⟩
            have t6 := HT5.out.below b6
            have h66 := (b6.block _ (lt_of_heap H6.out)).trans H6.out
            have h9 := heap_alloc_new w6 (rgO (some ⟨w3.heap.size + 1, 0, none⟩) 1 1 1 C 1 er2)
            have hal := t_al w6 (rgO (some ⟨w3.heap.size + 1, 0, none⟩) 1 1 1 C 1 er2)
            have z7 : (w6.alloc (rgO (some ⟨w3.heap.size + 1, 0, none⟩) 1 1 1 C 1 er2)).heap.size = w6.heap.size + 1 := by simp
            have t7 := t6.below hal
            obtain ⟨d0, _⟩ := t7.cs
            obtain ⟨q0, q1, q2, q3, q4, q5, q6, q7, q8⟩ := rgCells h9
            obtain ⟨g0, g1, g2, g3, g4⟩ := rowCells ((hal.block _ (lt_of_heap h66)).trans h66)
            have HX : Hid (∀ w8, Below (w6.heap.size + 1) (w6.alloc (rgO (some ⟨w3.heap.size + 1, 0, none⟩) 1 1 1 C 1 er2)).drew w8 → w8.heap[w6.heap.size]? = some (rgO (some ⟨w3.heap.size + 1, 0, none⟩) 1 1 1 C 1 er2) ∧ w8.heap[w3.heap.size]? = some (cmO C) ∧ Took w wq w8 p b5 x way r) := Lib.hid fun w8 hb => by
              have hb' : Below (w6.alloc (rgO (some ⟨w3.heap.size + 1, 0, none⟩) 1 1 1 C 1 er2)).heap.size (w6.alloc (rgO (some ⟨w3.heap.size + 1, 0, none⟩) 1 1 1 C 1 er2)) w8 := by rw [z7]; exact (Below.refl _ _).drew.trans hb
              exact ⟨(hb'.block _ (by rw [z7]; omega)).trans h9, (hb'.block _ (by rw [z7]; have := lt_of_heap h66; omega)).trans ((hal.block _ (lt_of_heap h66)).trans h66), t7.below hb'⟩
            have HZ : Hid ((w6.alloc (rgO (some ⟨w3.heap.size + 1, 0, none⟩) 1 1 1 C 1 er2)).drew.heap.size = w6.heap.size + 1) := z7
            clear b6 t6 h66 h9 hal z7 t7 HRc HRd HT5 H6 HT2 HK c40 c41 c42 c50 c51 c52
            go_wp2_with fail
            go_region_with (go_at_call 26
                            refine (ours_of C _).mono ?_
                            rintro e w8 ⟨rfl, b8⟩
                            rw [HZ.out] at b8
                            obtain ⟨x1, x2, x3⟩ := HX.out w8 b8
                            obtain ⟨q0, q1, q2, q3, q4, q5, q6, q7, q8⟩ := rgCells x1
                            have HT8 := Lib.hid x3
                            clear b8 x1 x2 x3)
            all_goals
              go_wp2_with fail
              go_roundw
              case rel => exact ⟨j + 1, by go_num, by omega, by omega, HT8.out.ps, HT8.out.low⟩
              case measure => simp [intOf]; omega
          · rw [← ha] at HRd
            have zm : ((keyF p0M x way r).1.2.1 == 1) = false := beq_eq_false_iff_ne.2 hm
            generalize (keyF p0M x way r).1.1 = C at *
            generalize (keyF p0M x way r).1.2.2 = er at *
            generalize (keyF p0M x way r).1.2.1 = m at *
            generalize (rdF x (way == 1) r).2.2 = er2 at *
            generalize (rdF x (way == 1) r).1 = C2 at *
            clear ha hc hm h27
            go_wp2_with fail
            refine HK.out.mono ?_; rintro e w3 ⟨rfl, v3, p3, m3, _⟩
            have t3 := HT2.out.key p3 m3
            have t4 := t3.below (t_al w3 (cmO C))
            have z4 : (w3.alloc (cmO C)).heap.size = w3.heap.size + 1 := by simp
            have t5 := t4.below (t_al (w3.alloc (cmO C)) (kO x))
            have h6 : ((w3.alloc (cmO C)).alloc (kO x)).heap[w3.heap.size]? = some (cmO C) := heap_mid w3 _ _
            have hk : ((w3.alloc (cmO C)).alloc (kO x)).heap[w3.heap.size + 1]? = some (kO x) := by rw [← z4]; exact heap_alloc_new _ _
            obtain ⟨c40, c41, c42⟩ := t4.cs
            obtain ⟨c50, c51, c52⟩ := t5.cs
            have HRc := Lib.hid (HRd.out ((w3.alloc (cmO C)).alloc (kO x)) (w3.heap.size + 1) hk)
            have HT5 := Lib.hid t5
            have H6 := Lib.hid h6
            clear p3 m3 t3 t4 t5 h6 hk z4 c0 c1 c2
            go_wp2_with fail
            refine HRc.out.mono ?_; rintro e w6 ⟨rfl, b6⟩
            have t6 := HT5.out.below b6
            have h66 := (b6.block _ (lt_of_heap H6.out)).trans H6.out
            have h9 := heap_alloc_new w6 (rgO (some ⟨w3.heap.size + 1, 0, none⟩) 1 1 1 C2 m er2)
            have hal := t_al w6 (rgO (some ⟨w3.heap.size + 1, 0, none⟩) 1 1 1 C2 m er2)
            have t7 := t6.below hal
            obtain ⟨d0, _⟩ := t7.cs
            obtain ⟨q0, q1, q2, q3, q4, q5, q6, q7, q8⟩ := rgCells h9
            have HT7 := Lib.hid t7
            clear b6 t6 h66 h9 hal t7 HRc HRd HT5 H6 HT2 HK c40 c41 c42 c50 c51 c52
            go_wp2_with fail
            go_quiet (fail)
            go_wp2_with fail
            have HT8 := Lib.hid (fun m => HT7.out.below (Below.draws _ m))
            go_roundw
            case rel => exact ⟨j + 1, by go_num, by omega, by omega, (HT8.out _).ps, (HT8.out _).low⟩
            case measure => simp [intOf]; omega
    · have dj : decide ((j : Int) < (n : Int)) = false := decide_eq_false (by omega)
      have HBq := Lib.hid hB
      clear hP hB
      go_wp2_with fail
      refine (HA.out _).mono ?_; rintro e w9 ⟨rfl, b9⟩
      have HB9 := Lib.hid (HBq.out.trans (b9.mono hpz))
      clear b9
      go_wp2_with fail
      go_ret
      exact ⟨rfl, by rw [HP.out]; exact HB9.out⟩
end Go.Proofs.Ytdkgnmomkimpoaa
