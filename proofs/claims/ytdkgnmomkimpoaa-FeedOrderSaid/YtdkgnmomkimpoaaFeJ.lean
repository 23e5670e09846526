/-
  FeedOrder, at this seat's numbers.
-/
import Derived.Test.YtdkgnmomkimpoaaFeI
import Derived.Test.YtdkgnmomkimpoaaFeN
import Derived.Test.YtdkgnmomkimpoaaFeO
namespace Go.Proofs.Ytdkgnmomkimpoaa
open Go Go.RowKit
set_option linter.unusedVariables false

/-- How many keys there are. -/
def sumL (P : List (List Int)) : Nat := (P.map List.length).sum
theorem sumL_app (P Q : List (List Int)) : sumL (P ++ Q) = sumL P + sumL Q := by simp [sumL]
theorem sumL_le {P : List (List Int)} (h : ∀ l ∈ P, l.length ≤ 100) : sumL P ≤ P.length * 100 := by
  induction P with
  | nil => simp [sumL]
  | cons l P ih =>
    have h1 := h l (by simp)
    have h2 := ih (fun m hm => h m (by simp [hm]))
    simp only [sumL, List.map_cons, List.sum_cons, List.length_cons] at *
    omega
def keysF (S : Fs) : Nat := S.ty.length + sumL S.ps
/-- A key less, or none is left. -/
theorem next_less {S : Fs} (hne : ∀ p ∈ S.ps, p ≠ []) : (decide ((nextF S).1.2.2 ≠ 4) = false ∧ S.ty = [] ∧ nextF S = ((0, false, 4), S)) ∨ (decide ((nextF S).1.2.2 ≠ 4) = true ∧ keysF (nextF S).2 + 1 ≤ keysF S) := by
  rcases next_cases hne with ⟨h1, h2, h3⟩ | ⟨x, t, h1, h2, h3⟩ | ⟨h1, h3⟩ | ⟨x, P, t, h1, h3⟩
  · exact .inl ⟨by rw [h3]; rfl, h1, h3⟩
  · refine .inr ⟨by rw [h3]; rfl, ?_⟩
    rw [h3]; unfold keysF; rw [h1, h2]; simp [sumL]
  · refine .inr ⟨by rw [h3]; rfl, ?_⟩
    rw [h3]; unfold keysF
    have : 1 ≤ sumL S.ps := by
      cases hp : S.ps with
      | nil => exact absurd hp h1
      | cons l P =>
        have := List.length_pos_iff.2 (hne l (by rw [hp]; simp))
        simp only [sumL, List.map_cons, List.sum_cons]; omega
    simp only [sumL, List.map_nil, List.sum_nil] at *
    omega
  · refine .inr ⟨by rw [h3]; rfl, ?_⟩
    rw [h3]; unfold keysF; rw [h1]
    by_cases ht : t = []
    · subst ht; simp only [if_pos]; rw [sumL_app]; simp [sumL]; omega
    · simp only [if_neg ht]; rw [sumL_app, sumL_app]; simp [sumL]; omega
theorem next_small {S : Fs} (hne : ∀ p ∈ S.ps, p ≠ []) (hs : ∀ p ∈ S.ps, p.length ≤ 100) : ∀ p ∈ (nextF S).2.ps, p.length ≤ 100 := by
  rcases next_cases hne with ⟨h1, h2, h3⟩ | ⟨x, t, h1, h2, h3⟩ | ⟨h1, h3⟩ | ⟨x, P, t, h1, h3⟩
  · rw [h3]; exact hs
  · rw [h3]; intro p hp; simp at hp
  · rw [h3]; intro p hp; simp at hp
  · rw [h3]; rw [h1] at hs
    intro p hp
    have hx := hs (x :: t) (by simp)
    rw [List.length_cons] at hx
    simp only at hp
    split at hp
    · exact hs p (by simp [hp])
    · rcases List.mem_append.1 hp with hp | hp
      · exact hs p (by simp [hp])
      · rw [List.mem_singleton.1 hp]; omega
theorem pushP_small {P : List (List Int)} (h : ∀ p ∈ P, p.length ≤ 100) (l : List Int) : ∀ p ∈ pushP P l, p.length ≤ 100 := by
  unfold pushP; split
  · exact h
  · intro p hp
    rcases List.mem_append.1 hp with hp | hp
    · exact h p hp
    · rw [List.mem_singleton.1 hp]; omega
theorem FdS.few {w : World} {B f room : Nat} {S : Fs} (H : FdS w B f room S) : S.ps.length ≤ 8 := by
  obtain ⟨_, _, _, _, _, _, h, _⟩ := H; exact h

theorem own_nums {w : World} {B : Nat} {a : Option Addr} {c : Nat} {l : List Int} (h : w.ownsRow B 3 1 (.slice a l.length c) l.length (nums l)) : Sl w a c (nums l) := Sl.own (xs := nums l) (by rw [nums_len]; exact h) (nums_one _)
theorem own_form {w : World} {B sz n : Nat} {e : TypeId} {v : Value} {xs : List Value} (h : w.ownsRow B e sz v n xs) : ∃ a k, v = .slice a n k := by
  rcases h.2 with ⟨h1, h2⟩ | ⟨g, cap, cur, h1, _⟩
  · exact ⟨none, 0, by rw [h1, h2]⟩
  · exact ⟨_, _, h1⟩

attribute [-go_sem] Builtin.append_
set_option maxRecDepth 100000 in
set_option maxHeartbeats 16000000 in
theorem feedOrder_walk (a : Option Addr) (k : Nat) (L : List OpF) (w : World) (HO : OpsIn w a L ∧ k ≤ maxLen ∧ L.length ≤ k) :
    Calls Try.prog 5 #[.slice a L.length k] w fun e w' => e = .returned (.bool true) ∧ Below w.heap.size w w' := by
  have HN := Lib.hid (fnew 1000 w)
  have HA := Lib.hid (fun w => awake23_of w)
  have HOps := Lib.hid HO.1
  have hLk := HO.2.2
  have hkm := HO.2.1
  obtain ⟨n, hn⟩ : ∃ n, n = L.length := ⟨_, rfl⟩
  rw [← hn] at hLk ⊢
  have HLn := Lib.hid hn
  clear HO hn
  go_enter Try.func5, Try.ntmps5
  go_wp2_with fail
  refine HN.out.mono ?_; rintro e w1 ⟨f, rfl, F1, b1⟩
  have r4 : roomOf 1000 = 1000 := rfl
  rw [r4] at F1
  have z1 : (w1.alloc (.cells #[pbox f] 23)).heap.size = w1.heap.size + 1 := by simp
  have HJ0 : Hid (Jo ((w1.alloc (.cells #[pbox f] 23)).alloc (.cells #[.slice none 0 0] 27)) w.heap.size f w1.heap.size (w1.heap.size + 1) (.slice none 0 0) (.slice none 0 0) [] [] ⟨[], [], 200⟩) :=
    ⟨(F1.below (t_al _ _)).below (t_al _ _), heap_mid _ _ _, by rw [← z1]; exact heap_alloc_new _ _, t_nil _ _ _ _, t_nil _ _ _ _, fun b hb => (by cases hb), ⟨b1.size, Nat.le_succ_of_le b1.size⟩⟩
  have HB0 : Hid (Below w.heap.size w ((w1.alloc (.cells #[pbox f] 23)).alloc (.cells #[.slice none 0 0] 27))) := (b1.alloc b1.size _).alloc (by rw [z1]; exact Nat.le_succ_of_le b1.size) _
  clear F1 b1 z1 r4
  go_wp2_with fail
  generalize w1.heap.size + 1 = q at *
  generalize w1.heap.size = p at *
  go_loopw [4, 14] (fun v4 v14 wr => ∃ (j : Nat) (tv cv : Value) (ty cm : List Int) (S : Fs), v4 = tv ∧ v14 = .int .i64 j ∧ j ≤ n ∧ j ≤ 40 ∧ Jo wr w.heap.size f p q tv cv ty cm S ∧ (ty = cm ++ S.ty ∧ (∀ l ∈ S.ps, l.length ≤ 100) ∧ ty.length ≤ j) ∧ Below w.heap.size w wr) (fun _ v14 _ => n - (intOf v14).toNat)
  case atStart => exact ⟨0, _, _, [], [], _, rfl, rfl, by omega, by omega, HJ0.out, ⟨rfl, fun l hl => (by cases hl), Nat.le_refl _⟩, HB0.out⟩
  case round =>
    obtain ⟨wq, rfl⟩ : ∃ wq : World, wq = wr := ⟨_, rfl⟩
    obtain ⟨j, tv, cv, ty, cm, S, rfl, rfl, hj, hj40, hJ, hR, hB⟩ := hrel
    have HR0 := Lib.hid hR
    by_cases hlt : j < n
    · have dj : decide (j < n) = true := decide_eq_true hlt
      obtain ⟨⟨kd, x, nn, oa, oc, ol⟩, hox⟩ : ∃ o, L[j]? = some o := ⟨_, List.getElem?_eq_getElem (by rw [← HLn.out]; exact hlt)⟩
      obtain ⟨g, o, rfl, hg, k0, k1, k2, k3, hsq, _⟩ := (HOps.out.below hB) j _ hox
      simp only at k0 k1 k2 k3 hsq
      have e0 : (0 : Int) ≤ (j : Int) := by omega
      have e1 : (j : Int) < (n : Int) := by omega
      have al := t_al wq (.cells #[.int .i64 kd, .int .i64 x, .int .i64 nn, .slice oa ol.length oc] 29)
      have hJ2 := hJ.below al
      have hB2 := hB.trans (al.mono hB.size)
      have hsq2 := hsq.below al
      have cp : (wq.alloc (.cells #[.int .i64 kd, .int .i64 x, .int .i64 nn, .slice oa ol.length oc] 29)).cell? ⟨p, 0, none⟩ = some (pbox f) := by rw [cell_at hJ2.bp]; rfl
      have HBJ := Lib.hid hB2
      have hol : ol.length ≤ maxLen := Nat.le_trans hsq.cap hsq.capm
      by_cases h40 : 40 ≤ j
      · have z1 : decide ((40 : Int) ≤ (j : Int)) = true := decide_eq_true (by omega)
        have HR : Hid (ty = cm ++ S.ty ∧ (∀ l ∈ S.ps, l.length ≤ 100) ∧ ty.length ≤ 40) := Lib.hid ⟨HR0.out.1, HR0.out.2.1, Nat.le_trans HR0.out.2.2 hj40⟩
        have HJ := Lib.hid hJ2
        clear hJ hR hB al hJ2 hB2 hsq hsq2
        generalize ol.length = oln at *
        go_wp2_with fail
        have hfm := own_form HJ.out.ot
        obtain ⟨ta, tc, rfl⟩ := hfm
        obtain ⟨tn, htn⟩ : ∃ n, n = ty.length := ⟨_, rfl⟩
        have HTn := Lib.hid htn
        rw [← htn]
        clear htn
        go_wp2_with fail
        go_loopw [9] (fun v9 wz => ∃ (m : Nat) (cv2 : Value) (cm2 : List Int) (S2 : Fs), v9 = .int .i64 m ∧ Jo wz w.heap.size f p q (.slice ta ty.length tc) cv2 ty cm2 S2 ∧ ty = cm2 ++ S2.ty ∧ m + keysF S2 ≤ 900 ∧ Below w.heap.size w wz) (fun v9 _ => 901 - (intOf v9).toNat)
        case atStart => exact ⟨0, cv, cm, S, rfl, HJ.out, HR.out.1, by have := sumL_le HR.out.2.1; have := HJ.out.fd.few; have := HR.out.2.2; have := congrArg List.length HR.out.1; rw [List.length_append] at this; unfold keysF; omega, HBJ.out⟩
        case round =>
          obtain ⟨wz, rfl⟩ : ∃ wq : World, wq = wr := ⟨_, rfl⟩
          obtain ⟨m, cv2, cm2, S2, rfl, hj, hro, hm, hb⟩ := hrel
          have hm9 : m ≤ 900 := by omega
          have hl := congrArg List.length hro
          rw [List.length_append] at hl
          have HT := take_of hj hb.size (by have := HR.out.2.2; omega)
          rcases next_less hj.fd.ne0 with ⟨e1, e2, e3⟩ | ⟨e1, e2⟩
          · rw [e1, e3] at HT
            have HT := Lib.hid HT
            have HE2 := Lib.hid e2
            have HRO := Lib.hid hro
            have HB := Lib.hid hb
            clear hj hro hm hb e1 e2 e3 hl
            go_wp2_with fail
            refine HT.out.mono ?_; rintro e w8 ⟨rfl, cv3, cm3, j3, r3, b3, l3⟩
            obtain ⟨ca, cc, rfl⟩ := own_form j3.oc
            have ecm : ty = cm3 := by have := r3 HRO.out; rw [HE2.out, List.append_nil] at this; exact this
            have c3 : w8.cell? ⟨q, 0, none⟩ = some (.slice ca cm3.length cc) := by rw [cell_at j3.bq]; rfl
            have HS := nsame ty cm3 (own_nums j3.ot) (own_nums j3.oc) (by have := HR.out.2.2; omega)
            rw [decide_eq_true ecm, ← HTn.out] at HS
            have HS := Lib.hid HS
            have HJ3 := Lib.hid (And.intro j3 (HB.out.trans b3))
            clear j3 r3 b3 ecm
            generalize cm3.length = cn at *
            go_wp2_with fail
            refine HS.out.mono ?_; rintro e w9 ⟨rfl, b9⟩
            have c9 : w9.cell? ⟨p, 0, none⟩ = some (pbox f) := by rw [cell_at (HJ3.out.1.below b9).bp]; rfl
            have HW := fwaits (HJ3.out.1.below b9).fd
            rw [HE2.out] at HW
            have HW := Lib.hid HW
            have HB9 := Lib.hid (HJ3.out.2.trans (b9.mono HJ3.out.2.size))
            clear b9
            go_wp2_with fail
            refine HW.out.mono ?_; rintro e w10 ⟨rfl, rfl⟩
            go_wp2_with fail
            refine (HA.out _).mono ?_; rintro e w11 ⟨rfl, b11⟩
            have HB11 := Lib.hid (HB9.out.trans (b11.mono HB9.out.size))
            clear b11
            go_wp2_with fail
            go_ret
            exact ⟨rfl, HB11.out⟩
          · rw [e1] at HT
            have HT := Lib.hid HT
            have HRO := Lib.hid hro
            have HB := Lib.hid hb
            have HM := Lib.hid (And.intro hm e2)
            clear hj hro hm hb e1 e2 hl
            go_wp2_with fail
            refine HT.out.mono ?_; rintro e w8 ⟨rfl, cv3, cm3, j3, r3, b3, l3⟩
            have HJ3 := Lib.hid (And.intro j3 (And.intro (r3 HRO.out) (HB.out.trans b3)))
            clear j3 r3 b3
            go_wp2_with fail
            go_roundw
            case rel => exact ⟨m + 1, cv3, cm3, _, by go_num, HJ3.out.1, HJ3.out.2.1, by have := HM.out.1; have := HM.out.2; omega, HJ3.out.2.2⟩
            case measure => simp [intOf]; omega
      · have z1 : decide ((40 : Int) ≤ (j : Int)) = false := decide_eq_false (by omega)
        by_cases hk2 : kd = 2
        · subst hk2
          by_cases hl100 : ol.length ≤ 100
          · have z2 : decide ((ol.length : Int) ≤ 100) = true := decide_eq_true (by omega)
            have HP := fpush hJ2.fd hsq2 (by omega) hB2.size
            have HJ := Lib.hid hJ2
            generalize ol.length = oln at *
            have HP := Lib.hid HP
            clear hJ hR hB al hJ2 hB2 hsq hsq2
            go_wp2_with fail
            refine HP.out.mono ?_; rintro e w3 ⟨rfl, F3, m3⟩
            have HJ3 := Lib.hid (And.intro (HJ.out.fmv F3 m3) (HBJ.out.trans m3.low))
            clear F3 m3
            go_wp2_with fail
            go_roundw
            case rel => exact ⟨j + 1, _, _, _, _, _, rfl, by go_num, by omega, by omega, HJ3.out.1, ⟨HR0.out.1, pushP_small HR0.out.2.1 _, Nat.le_succ_of_le HR0.out.2.2⟩, HJ3.out.2⟩
            case measure => simp [intOf]; omega
          · have z2 : decide ((ol.length : Int) ≤ 100) = false := decide_eq_false (by omega)
            have HT := take_of hJ2 hB2.size (by have := congrArg List.length hR.1; rw [List.length_append] at this; omega)
            have hsm := next_small hJ2.fd.ne0 hR.2.1
            have HT := Lib.hid HT
            have HSM := Lib.hid hsm
            generalize ol.length = oln at *
            clear hJ hR hB al hJ2 hB2 hsq hsq2 hsm
            go_wp2_with fail
            refine HT.out.mono ?_; rintro e w3 ⟨rfl, cv3, cm3, j3, r3, b3, l3⟩
            have HJ3 := Lib.hid (And.intro j3 (And.intro (r3 HR0.out.1) (HBJ.out.trans b3)))
            clear j3 r3 b3
            go_wp2_with fail
            go_roundw
            case rel => exact ⟨j + 1, _, _, _, _, _, rfl, by go_num, by omega, by omega, HJ3.out.1, ⟨HJ3.out.2.1, HSM.out, Nat.le_succ_of_le HR0.out.2.2⟩, HJ3.out.2.2⟩
            case measure => simp [intOf]; omega
        · have z2 : (kd == 2) = false := beq_eq_false_iff_ne.2 hk2
          by_cases hk1 : kd < 2
          · have z3 : decide (kd < 2) = true := decide_eq_true hk1
            have HT := ftype hJ2.fd x
            have hlt1 : S.ty.length < 1000 := by have := congrArg List.length hR.1; rw [List.length_append] at this; omega
            rw [decide_eq_true hlt1, if_pos hlt1] at HT
            have HT := Lib.hid HT
            have HJ := Lib.hid hJ2
            generalize ol.length = oln at *
            clear hJ hR hB al hJ2 hB2 hsq hsq2
            go_wp2_with fail
            refine HT.out.mono ?_; rintro e w3 ⟨rfl, F3, m3⟩
            have j3 := HJ.out.fmv F3 m3
            have b3 := HBJ.out.trans m3.low
            obtain ⟨a1, k1', W, hr, j4, b4⟩ := j3.typed (by have := HR0.out.2.2; omega) x b3.size
            have q3 : w3.heap[wq.heap.size]? = some (.cells #[.int .i64 kd, .int .i64 x, .int .i64 nn, .slice oa oln oc] 29 (0, 0)) := (m3.oth _ _ _ _ (heap_alloc_new wq _) (by decide) (by decide) (by decide)).trans (heap_alloc_new wq _)
            have c31 : w3.cell? ⟨wq.heap.size, 1, none⟩ = some (.int .i64 x) := by rw [cell_at q3]; rfl
            have HJ4 := Lib.hid (And.intro j4 (b3.trans b4))
            clear F3 m3 j3 b3 j4 b4 q3
            go_wp2_with fail
            go_roundw
            case rel => exact ⟨j + 1, _, _, _, _, _, rfl, by go_num, by omega, by omega, HJ4.out.1, ⟨by rw [HR0.out.1]; simp, HR0.out.2.1, by have := HR0.out.2.2; rw [List.length_append]; simp; omega⟩, HJ4.out.2⟩
            case measure => simp [intOf]; omega
          · have z3 : decide (kd < 2) = false := decide_eq_false hk1
            have HT := take_of hJ2 hB2.size (by have := congrArg List.length hR.1; rw [List.length_append] at this; omega)
            have hsm := next_small hJ2.fd.ne0 hR.2.1
            have HT := Lib.hid HT
            have HSM := Lib.hid hsm
            generalize ol.length = oln at *
            clear hJ hR hB al hJ2 hB2 hsq hsq2 hsm
            go_wp2_with fail
            refine HT.out.mono ?_; rintro e w3 ⟨rfl, cv3, cm3, j3, r3, b3, l3⟩
            have HJ3 := Lib.hid (And.intro j3 (And.intro (r3 HR0.out.1) (HBJ.out.trans b3)))
            clear j3 r3 b3
            go_wp2_with fail
            go_roundw
            case rel => exact ⟨j + 1, _, _, _, _, _, rfl, by go_num, by omega, by omega, HJ3.out.1, ⟨HJ3.out.2.1, HSM.out, Nat.le_succ_of_le HR0.out.2.2⟩, HJ3.out.2.2⟩
            case measure => simp [intOf]; omega
    · have dj : decide (j < n) = false := decide_eq_false hlt
      have HR : Hid (ty = cm ++ S.ty ∧ (∀ l ∈ S.ps, l.length ≤ 100) ∧ ty.length ≤ 40) := Lib.hid ⟨HR0.out.1, HR0.out.2.1, Nat.le_trans HR0.out.2.2 hj40⟩
      have HJ := Lib.hid hJ
      have HBJ := Lib.hid hB
      clear hJ hR hB
      go_wp2_with fail
      have hfm := own_form HJ.out.ot
      obtain ⟨ta, tc, rfl⟩ := hfm
      obtain ⟨tn, htn⟩ : ∃ n, n = ty.length := ⟨_, rfl⟩
      have HTn := Lib.hid htn
      rw [← htn]
      clear htn
      go_wp2_with fail
      go_loopw [9] (fun v9 wz => ∃ (m : Nat) (cv2 : Value) (cm2 : List Int) (S2 : Fs), v9 = .int .i64 m ∧ Jo wz w.heap.size f p q (.slice ta ty.length tc) cv2 ty cm2 S2 ∧ ty = cm2 ++ S2.ty ∧ m + keysF S2 ≤ 900 ∧ Below w.heap.size w wz) (fun v9 _ => 901 - (intOf v9).toNat)
      case atStart => exact ⟨0, cv, cm, S, rfl, HJ.out, HR.out.1, by have := sumL_le HR.out.2.1; have := HJ.out.fd.few; have := HR.out.2.2; have := congrArg List.length HR.out.1; rw [List.length_append] at this; unfold keysF; omega, HBJ.out⟩
      case round =>
        obtain ⟨wz, rfl⟩ : ∃ wq : World, wq = wr := ⟨_, rfl⟩
        obtain ⟨m, cv2, cm2, S2, rfl, hj, hro, hm, hb⟩ := hrel
        have hm9 : m ≤ 900 := by omega
        have hl := congrArg List.length hro
        rw [List.length_append] at hl
        have HT := take_of hj hb.size (by have := HR.out.2.2; omega)
        rcases next_less hj.fd.ne0 with ⟨e1, e2, e3⟩ | ⟨e1, e2⟩
        · rw [e1, e3] at HT
          have HT := Lib.hid HT
          have HE2 := Lib.hid e2
          have HRO := Lib.hid hro
          have HB := Lib.hid hb
          clear hj hro hm hb e1 e2 e3 hl
          go_wp2_with fail
          refine HT.out.mono ?_; rintro e w8 ⟨rfl, cv3, cm3, j3, r3, b3, l3⟩
          obtain ⟨ca, cc, rfl⟩ := own_form j3.oc
          have ecm : ty = cm3 := by have := r3 HRO.out; rw [HE2.out, List.append_nil] at this; exact this
          have c3 : w8.cell? ⟨q, 0, none⟩ = some (.slice ca cm3.length cc) := by rw [cell_at j3.bq]; rfl
          have HS := nsame ty cm3 (own_nums j3.ot) (own_nums j3.oc) (by have := HR.out.2.2; omega)
          rw [decide_eq_true ecm, ← HTn.out] at HS
          have HS := Lib.hid HS
          have HJ3 := Lib.hid (And.intro j3 (HB.out.trans b3))
          clear j3 r3 b3 ecm
          generalize cm3.length = cn at *
          go_wp2_with fail
          refine HS.out.mono ?_; rintro e w9 ⟨rfl, b9⟩
          have c9 : w9.cell? ⟨p, 0, none⟩ = some (pbox f) := by rw [cell_at (HJ3.out.1.below b9).bp]; rfl
          have HW := fwaits (HJ3.out.1.below b9).fd
          rw [HE2.out] at HW
          have HW := Lib.hid HW
          have HB9 := Lib.hid (HJ3.out.2.trans (b9.mono HJ3.out.2.size))
          clear b9
          go_wp2_with fail
          refine HW.out.mono ?_; rintro e w10 ⟨rfl, rfl⟩
          go_wp2_with fail
          refine (HA.out _).mono ?_; rintro e w11 ⟨rfl, b11⟩
          have HB11 := Lib.hid (HB9.out.trans (b11.mono HB9.out.size))
          clear b11
          go_wp2_with fail
          go_ret
          exact ⟨rfl, HB11.out⟩
        · rw [e1] at HT
          have HT := Lib.hid HT
          have HRO := Lib.hid hro
          have HB := Lib.hid hb
          have HM := Lib.hid (And.intro hm e2)
          clear hj hro hm hb e1 e2 hl
          go_wp2_with fail
          refine HT.out.mono ?_; rintro e w8 ⟨rfl, cv3, cm3, j3, r3, b3, l3⟩
          have HJ3 := Lib.hid (And.intro j3 (And.intro (r3 HRO.out) (HB.out.trans b3)))
          clear j3 r3 b3
          go_wp2_with fail
          go_roundw
          case rel => exact ⟨m + 1, cv3, cm3, _, by go_num, HJ3.out.1, HJ3.out.2.1, by have := HM.out.1; have := HM.out.2; omega, HJ3.out.2.2⟩
          case measure => simp [intOf]; omega
end Go.Proofs.Ytdkgnmomkimpoaa
