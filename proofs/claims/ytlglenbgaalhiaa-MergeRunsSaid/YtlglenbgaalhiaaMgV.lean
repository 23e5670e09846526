/-
  MergeTurns' walk, at this seat's numbers.
-/
import Derived.Test.YtlglenbgaalhiaaMgU
import Derived.Test.YtlglenbgaalhiaaLiftM
namespace Go.Proofs.Ytlglenbgaalhiaa
open Go Go.RowKit
set_option linter.unusedVariables false

theorem counts_of_good {L : List Int} (h : GoodP L) (hs : ∀ i, i < L.length → ∃ j : Nat, j < L.length ∧ L.getD j 0 = (i : Int)) : ∀ i, i < L.length → L.count (i : Int) = 1 := fun i hi => by
  obtain ⟨j, h1, h2⟩ := hs i hi
  exact count_one h1 h2 h.2

/-- One answer of Turn. -/
theorem turn_one {l : List Int} {w w' : World} {e : Ending} (h : TPost l w e w') : ∃ (b : Bool) (a : Option Addr) (c : Nat) (P : List Int), e = .returned (.tuple #[.slice a P.length c, .bool b]) ∧ Sl w' a c (nums P) ∧ Below w.heap.size w w' ∧ (b = true → P.length = l.length ∧ GoodP l ∧ ∀ i, i < l.length → ∃ j : Nat, j < l.length ∧ P.getD i 0 = (j : Int) ∧ l.getD j 0 = (i : Int)) ∧ (b = false → P = [] ∧ ¬ GoodP l) := by
  rcases h with ⟨a, c, P, h1, h2, h3, h4, h5, h6⟩ | ⟨h1, h2, h3⟩
  · exact ⟨true, a, c, P, h1, h3, h4, fun _ => ⟨h2, h5, h6⟩, (fun h => by cases h)⟩
  · exact ⟨false, none, 0, [], h1, Sl.none _, h3, (fun h => by cases h), fun _ => ⟨rfl, h2⟩⟩

set_option maxRecDepth 100000 in
set_option maxHeartbeats 32000000 in
theorem mergeTurns_walk (a : Option Addr) (c : Nat) (l0 : List Int) (w : World) (hl0 : Sl w a c (l0.map (Value.int .i64)) ∧ ∀ x ∈ l0, I64 x) :
    Calls Try.prog 6 #[.slice a l0.length c] w fun e w' => e = .returned (.bool true) ∧ Below w.heap.size w w' := by
  have hS0 : Sl w a c (nums l0) := hl0.1
  have hcap := hS0.cap
  rw [nums_len] at hcap
  have hSt : Sl w a c (nums (l0.take 200)) := by rw [← nums_take]; exact hS0.take 200
  obtain ⟨L, hL⟩ : ∃ L, l0.take 200 = L := ⟨_, rfl⟩
  rw [hL] at hSt
  have hLl : L.length = min 200 l0.length := by rw [← hL, List.length_take]
  obtain ⟨n, hnn⟩ : ∃ n, L.length = n := ⟨_, rfl⟩
  rw [hnn] at hLl
  have HN := Lib.hid hnn
  have HS := Lib.hid hSt
  have hn200 : n ≤ 1000 := by omega
  have hT := turn_of L hSt (by rw [hnn]; omega)
  rw [hnn] at hT
  have HT := Lib.hid hT
  clear hS0 hSt hL hnn hT hl0
  go_enter Try.func6, Try.ntmps6
  by_cases h200 : 200 < l0.length
  · have hn2 : n = 200 := by omega
    subst hn2
    have d0 : decide ((l0.length : Int) > 200) = true := decide_eq_true (by omega)
    have d0' : decide (200 < l0.length) = true := decide_eq_true h200
    have e2 : (200 : Int) ≤ (c : Int) := by omega
    obtain ⟨g, o, rfl⟩ := HS.out.numsome (by rw [HN.out]; omega)
    generalize l0.length = n0 at *
    clear hLl
    go_wp2_with fail
    clear d0 d0' e2 hcap h200
    generalize (some ⟨g, o, none⟩ : Option Addr) = a at *
    generalize (200 : Nat) = n at *
    refine HT.out.mono ?_; rintro e w1 hpost
    obtain ⟨b, ap, cp, P, rfl, hSP, hb1, hyes, hno⟩ := turn_one hpost
    rw [HN.out] at hyes
    obtain ⟨r, hr⟩ : ∃ r, P.length = r := ⟨_, rfl⟩
    have HRr := Lib.hid hr
    have HSP := Lib.hid hSP
    have HB1 := Lib.hid hb1
    have HYes := Lib.hid hyes
    have HNo := Lib.hid hno
    rw [hr]
    clear hpost hSP hb1 hyes hno hr HT
    go_wp2_with fail
    go_loopw [5, 24] (fun v5 v24 wr => ∃ (k : Nat) (want : Bool), v5 = .bool want ∧ v24 = .int .i64 k ∧ k ≤ n ∧ (want = true ↔ ∀ i : Nat, i < k → L.count (i : Int) = 1) ∧ Below w1.heap.size w1 wr) (fun _ v24 _ => n - (intOf v24).toNat)
    case atStart => exact ⟨0, true, rfl, rfl, by omega, ⟨fun _ i hi => absurd hi (by omega), fun _ => rfl⟩, Below.refl _ _⟩
    case round =>
      obtain ⟨wq, rfl⟩ : ∃ wq : World, wq = wr := ⟨_, rfl⟩
      obtain ⟨k, want, rfl, rfl, hk, hw, hb⟩ := hrel
      have HW := Lib.hid hw
      have HB := Lib.hid hb
      clear hw hb
      by_cases hlt : k < n
      · have dk : decide (k < n) = true := decide_eq_true hlt
        go_wp2_with fail
        go_loopw [7, 29] (fun v7 v29 wr => ∃ (j m : Nat), v7 = .int .i64 m ∧ v29 = .int .i64 j ∧ j ≤ n ∧ m = (L.take j).count (k : Int) ∧ m ≤ j ∧ Below w1.heap.size w1 wr) (fun _ v29 _ => n - (intOf v29).toNat)
        case atStart => exact ⟨0, 0, rfl, rfl, by omega, by simp, by omega, HB.out⟩
        case round =>
          obtain ⟨wp, rfl⟩ : ∃ wp : World, wp = wr := ⟨_, rfl⟩
          obtain ⟨j, m, rfl, rfl, hj, hm, hmj, hb⟩ := hrel
          have HB2 := Lib.hid hb
          have HM := Lib.hid hm
          clear hb hm
          by_cases hjt : j < n
          · have dj : decide (j < n) = true := decide_eq_true hjt
            obtain ⟨gp, op, rfl⟩ := HS.out.numsome (by rw [HN.out]; omega)
            obtain ⟨y, hy⟩ : ∃ y, L[j]? = some y := ⟨_, List.getElem?_eq_getElem (by rw [HN.out]; exact hjt)⟩
            have c5 := ((HS.out.below (HB1.out.trans (HB2.out.mono HB1.out.size))).num hy).1
            have f0 : (0 : Int) ≤ (j : Int) := by omega
            have f1 : (j : Int) < (n : Int) := by omega
            have HTk : Hid ((L.take (j + 1)).count (k : Int) = (L.take j).count (k : Int) + if (y == (k : Int)) = true then 1 else 0) := Lib.hid (by
              rw [List.take_add_one, hy, List.count_append]
              show _ + List.count _ [y] = _
              rw [List.count_cons, List.count_nil, Nat.zero_add])
            clear hy
            by_cases hyk : y = (k : Int)
            · have q1 : (y == (k : Int)) = true := by rw [beq_iff_eq]; exact hyk
              have HM2 : Hid (m + 1 = (L.take (j + 1)).count (k : Int)) := Lib.hid (by rw [HTk.out, if_pos q1, ← HM.out])
              clear hyk
              go_wp2_with fail
              go_roundw
              case rel => exact ⟨j + 1, m + 1, by go_num, by go_num, by omega, HM2.out, by omega, HB2.out⟩
              case measure => simp [intOf]; omega
            · have q1 : (y == (k : Int)) = false := by rw [beq_eq_false_iff_ne]; exact hyk
              have HM2 : Hid (m = (L.take (j + 1)).count (k : Int)) := Lib.hid (by rw [HTk.out, if_neg (by rw [q1]; decide), ← HM.out]; rfl)
              clear hyk
              go_wp2_with fail
              go_roundw
              case rel => exact ⟨j + 1, m, rfl, by go_num, by omega, HM2.out, by omega, HB2.out⟩
              case measure => simp [intOf]; omega
          · have dj : decide (j < n) = false := decide_eq_false hjt
            have hjn : j = n := by omega
            subst hjn
            have HM2 : Hid (m = L.count (k : Int)) := Lib.hid (by
              have h := HM.out
              rwa [List.take_of_length_le (by rw [HN.out]; exact Nat.le_refl _)] at h)
            obtain ⟨want2, hw2⟩ : ∃ w2 : Bool, (want && decide (m = 1)) = w2 := ⟨_, rfl⟩
            have HW2 : Hid (want2 = true ↔ ∀ i : Nat, i < k + 1 → L.count (i : Int) = 1) := Lib.hid (by
              rw [← hw2, Bool.and_eq_true, decide_eq_true_eq, HW.out, HM2.out]
              constructor
              · rintro ⟨h1, h2⟩ i hi
                rcases Nat.lt_or_ge i k with h | h
                · exact h1 i h
                · have : i = k := by omega
                  subst this; exact h2
              · exact fun h => ⟨fun i hi => h i (by omega), h k (by omega)⟩)
            cases want
            · have hwf : want2 = false := hw2.symm
              subst hwf
              clear hw2
              go_wp2_with fail
              go_roundw
              case rel => exact ⟨k + 1, false, rfl, by go_num, by omega, HW2.out, HB2.out⟩
              case measure => simp [intOf]; omega
            · by_cases hm1 : m = 1
              · have hwf : want2 = true := by rw [← hw2]; simp [hm1]
                subst hwf
                subst hm1
                have q2 : (((1 : Nat) : Int) == 1) = true := by decide
                clear hw2
                go_wp2_with fail
                go_roundw
                case rel => exact ⟨k + 1, true, rfl, by go_num, by omega, HW2.out, HB2.out⟩
                case measure => simp [intOf]; omega
              · have hwf : want2 = false := by rw [← hw2]; simp [hm1]
                subst hwf
                have q2 : ((m : Int) == 1) = false := by rw [beq_eq_false_iff_ne]; omega
                clear hw2 hm1
                go_wp2_with fail
                go_roundw
                case rel => exact ⟨k + 1, false, rfl, by go_num, by omega, HW2.out, HB2.out⟩
                case measure => simp [intOf]; omega
      · have dk : decide (k < n) = false := decide_eq_false hlt
        have hkn : k = n := by omega
        subst hkn
        cases b
        · obtain ⟨hP0, hbad⟩ := HNo.out rfl
          have hr0 : r = 0 := by rw [← HRr.out, hP0]; rfl
          have hwf : want = false := by
            cases want
            · rfl
            · exact absurd (good_of_counts (by rw [HN.out]; exact HW.out.1 rfl)) hbad
          subst hwf
          subst hr0
          have HAw := Lib.hid (awake15_of wq)
          clear hP0 hbad
          go_wp2_with fail
          go_loopw [69] (fun v69 wr => v69 = .int .i64 0 ∧ wq = wr) (fun _ _ => 0)
          case atStart => first | exact ⟨rfl, rfl⟩ | exact ⟨rfl, trivial⟩
          case round =>
            obtain ⟨rfl, rfl⟩ := hrel
            go_wp2_with fail
            refine HAw.out.mono ?_; rintro e w9 ⟨rfl, hb9⟩
            have HB9 := Lib.hid (HB1.out.trans ((HB.out.trans (hb9.mono HB.out.size)).mono HB1.out.size))
            clear hb9
            go_wp2_with fail
            go_ret
            exact ⟨rfl, HB9.out⟩
        · obtain ⟨hPn, hgood, hall⟩ := HYes.out rfl
          have hrn : r = k := by rw [← HRr.out]; exact hPn
          have hwt : want = true := HW.out.2 (by rw [← HN.out]; exact counts_of_good hgood (fun i hi => by
            obtain ⟨j, h1, _, h3⟩ := hall i (by rw [← HN.out]; exact hi)
            exact ⟨j, by rw [HN.out]; exact h1, h3⟩))
          subst hwt
          subst hrn
          have HAll := Lib.hid hall
          have q3 : ((r : Int) == (r : Int)) = true := by simp
          clear hPn hgood hall
          go_wp2_with fail
          go_loopw [69] (fun v69 wr => ∃ j : Nat, v69 = .int .i64 j ∧ j ≤ r ∧ wq = wr) (fun v69 _ => r - (intOf v69).toNat)
          case atStart => exact ⟨0, rfl, by omega, rfl⟩
          case round =>
            obtain ⟨j, rfl, hj, rfl⟩ := hrel
            by_cases hjt : j < r
            · have dj : decide (j < r) = true := decide_eq_true hjt
              obtain ⟨q, hq, hPq, hLq⟩ := HAll.out j hjt
              obtain ⟨gp, op, rfl⟩ := HS.out.numsome (by rw [HN.out]; omega)
              obtain ⟨g2, o2, rfl⟩ := HSP.out.numsome (by rw [HRr.out]; omega)
              have hcp := ((HSP.out.below HB.out).num (getD_lt (by rw [HRr.out]; exact hjt))).1
              rw [hPq] at hcp
              have hcl := ((HS.out.below (HB1.out.trans (HB.out.mono HB1.out.size))).num (getD_lt (by rw [HN.out]; exact hq))).1
              rw [hLq] at hcl
              have f0 : (0 : Int) ≤ (j : Int) := by omega
              have f1 : (j : Int) < (r : Int) := by omega
              have f2 : decide ((q : Int) < 0) = false := decide_eq_false (by omega)
              have f3 : decide ((r : Int) ≤ (q : Int)) = false := decide_eq_false (by omega)
              have f3' : decide (r ≤ q) = false := decide_eq_false (by omega)
              have f4 : (0 : Int) ≤ (q : Int) := by omega
              have f5 : (q : Int) < (r : Int) := by omega
              have f6 : ((j : Int) == (j : Int)) = true := by simp
              clear hPq hLq
              go_wp2_with fail
              go_roundw
              case rel => exact ⟨j + 1, by go_num, by omega, by first | rfl | trivial⟩
              case measure => simp [intOf]; omega
            · have dj : decide (j < r) = false := decide_eq_false hjt
              have HAw := Lib.hid (awake15_of wq)
              go_wp2_with fail
              refine HAw.out.mono ?_; rintro e w9 ⟨rfl, hb9⟩
              have HB9 := Lib.hid (HB1.out.trans ((HB.out.trans (hb9.mono HB.out.size)).mono HB1.out.size))
              clear hb9
              go_wp2_with fail
              go_ret
              exact ⟨rfl, HB9.out⟩
  · have hn2 : n = l0.length := by omega
    have d0 : decide ((l0.length : Int) > 200) = false := decide_eq_false (by omega)
    have d0' : decide (200 < l0.length) = false := decide_eq_false h200
    rw [← hn2] at d0 d0' ⊢
    clear hLl hn2 h200 hcap
    go_wp2_with fail
    clear d0 d0'
    refine HT.out.mono ?_; rintro e w1 hpost
    obtain ⟨b, ap, cp, P, rfl, hSP, hb1, hyes, hno⟩ := turn_one hpost
    rw [HN.out] at hyes
    obtain ⟨r, hr⟩ : ∃ r, P.length = r := ⟨_, rfl⟩
    have HRr := Lib.hid hr
    have HSP := Lib.hid hSP
    have HB1 := Lib.hid hb1
    have HYes := Lib.hid hyes
    have HNo := Lib.hid hno
    rw [hr]
    clear hpost hSP hb1 hyes hno hr HT
    go_wp2_with fail
    go_loopw [5, 24] (fun v5 v24 wr => ∃ (k : Nat) (want : Bool), v5 = .bool want ∧ v24 = .int .i64 k ∧ k ≤ n ∧ (want = true ↔ ∀ i : Nat, i < k → L.count (i : Int) = 1) ∧ Below w1.heap.size w1 wr) (fun _ v24 _ => n - (intOf v24).toNat)
    case atStart => exact ⟨0, true, rfl, rfl, by omega, ⟨fun _ i hi => absurd hi (by omega), fun _ => rfl⟩, Below.refl _ _⟩
    case round =>
      obtain ⟨wq, rfl⟩ : ∃ wq : World, wq = wr := ⟨_, rfl⟩
      obtain ⟨k, want, rfl, rfl, hk, hw, hb⟩ := hrel
      have HW := Lib.hid hw
      have HB := Lib.hid hb
      clear hw hb
      by_cases hlt : k < n
      · have dk : decide (k < n) = true := decide_eq_true hlt
        go_wp2_with fail
        go_loopw [7, 29] (fun v7 v29 wr => ∃ (j m : Nat), v7 = .int .i64 m ∧ v29 = .int .i64 j ∧ j ≤ n ∧ m = (L.take j).count (k : Int) ∧ m ≤ j ∧ Below w1.heap.size w1 wr) (fun _ v29 _ => n - (intOf v29).toNat)
        case atStart => exact ⟨0, 0, rfl, rfl, by omega, by simp, by omega, HB.out⟩
        case round =>
          obtain ⟨wp, rfl⟩ : ∃ wp : World, wp = wr := ⟨_, rfl⟩
          obtain ⟨j, m, rfl, rfl, hj, hm, hmj, hb⟩ := hrel
          have HB2 := Lib.hid hb
          have HM := Lib.hid hm
          clear hb hm
          by_cases hjt : j < n
          · have dj : decide (j < n) = true := decide_eq_true hjt
            obtain ⟨gp, op, rfl⟩ := HS.out.numsome (by rw [HN.out]; omega)
            obtain ⟨y, hy⟩ : ∃ y, L[j]? = some y := ⟨_, List.getElem?_eq_getElem (by rw [HN.out]; exact hjt)⟩
            have c5 := ((HS.out.below (HB1.out.trans (HB2.out.mono HB1.out.size))).num hy).1
            have f0 : (0 : Int) ≤ (j : Int) := by omega
            have f1 : (j : Int) < (n : Int) := by omega
            have HTk : Hid ((L.take (j + 1)).count (k : Int) = (L.take j).count (k : Int) + if (y == (k : Int)) = true then 1 else 0) := Lib.hid (by
              rw [List.take_add_one, hy, List.count_append]
              show _ + List.count _ [y] = _
              rw [List.count_cons, List.count_nil, Nat.zero_add])
            clear hy
            by_cases hyk : y = (k : Int)
            · have q1 : (y == (k : Int)) = true := by rw [beq_iff_eq]; exact hyk
              have HM2 : Hid (m + 1 = (L.take (j + 1)).count (k : Int)) := Lib.hid (by rw [HTk.out, if_pos q1, ← HM.out])
              clear hyk
              go_wp2_with fail
              go_roundw
              case rel => exact ⟨j + 1, m + 1, by go_num, by go_num, by omega, HM2.out, by omega, HB2.out⟩
              case measure => simp [intOf]; omega
            · have q1 : (y == (k : Int)) = false := by rw [beq_eq_false_iff_ne]; exact hyk
              have HM2 : Hid (m = (L.take (j + 1)).count (k : Int)) := Lib.hid (by rw [HTk.out, if_neg (by rw [q1]; decide), ← HM.out]; rfl)
              clear hyk
              go_wp2_with fail
              go_roundw
              case rel => exact ⟨j + 1, m, rfl, by go_num, by omega, HM2.out, by omega, HB2.out⟩
              case measure => simp [intOf]; omega
          · have dj : decide (j < n) = false := decide_eq_false hjt
            have hjn : j = n := by omega
            subst hjn
            have HM2 : Hid (m = L.count (k : Int)) := Lib.hid (by
              have h := HM.out
              rwa [List.take_of_length_le (by rw [HN.out]; exact Nat.le_refl _)] at h)
            obtain ⟨want2, hw2⟩ : ∃ w2 : Bool, (want && decide (m = 1)) = w2 := ⟨_, rfl⟩
            have HW2 : Hid (want2 = true ↔ ∀ i : Nat, i < k + 1 → L.count (i : Int) = 1) := Lib.hid (by
              rw [← hw2, Bool.and_eq_true, decide_eq_true_eq, HW.out, HM2.out]
              constructor
              · rintro ⟨h1, h2⟩ i hi
                rcases Nat.lt_or_ge i k with h | h
                · exact h1 i h
                · have : i = k := by omega
                  subst this; exact h2
              · exact fun h => ⟨fun i hi => h i (by omega), h k (by omega)⟩)
            cases want
            · have hwf : want2 = false := hw2.symm
              subst hwf
              clear hw2
              go_wp2_with fail
              go_roundw
              case rel => exact ⟨k + 1, false, rfl, by go_num, by omega, HW2.out, HB2.out⟩
              case measure => simp [intOf]; omega
            · by_cases hm1 : m = 1
              · have hwf : want2 = true := by rw [← hw2]; simp [hm1]
                subst hwf
                subst hm1
                have q2 : (((1 : Nat) : Int) == 1) = true := by decide
                clear hw2
                go_wp2_with fail
                go_roundw
                case rel => exact ⟨k + 1, true, rfl, by go_num, by omega, HW2.out, HB2.out⟩
                case measure => simp [intOf]; omega
              · have hwf : want2 = false := by rw [← hw2]; simp [hm1]
                subst hwf
                have q2 : ((m : Int) == 1) = false := by rw [beq_eq_false_iff_ne]; omega
                clear hw2 hm1
                go_wp2_with fail
                go_roundw
                case rel => exact ⟨k + 1, false, rfl, by go_num, by omega, HW2.out, HB2.out⟩
                case measure => simp [intOf]; omega
      · have dk : decide (k < n) = false := decide_eq_false hlt
        have hkn : k = n := by omega
        subst hkn
        cases b
        · obtain ⟨hP0, hbad⟩ := HNo.out rfl
          have hr0 : r = 0 := by rw [← HRr.out, hP0]; rfl
          have hwf : want = false := by
            cases want
            · rfl
            · exact absurd (good_of_counts (by rw [HN.out]; exact HW.out.1 rfl)) hbad
          subst hwf
          subst hr0
          have HAw := Lib.hid (awake15_of wq)
          clear hP0 hbad
          go_wp2_with fail
          go_loopw [69] (fun v69 wr => v69 = .int .i64 0 ∧ wq = wr) (fun _ _ => 0)
          case atStart => first | exact ⟨rfl, rfl⟩ | exact ⟨rfl, trivial⟩
          case round =>
            obtain ⟨rfl, rfl⟩ := hrel
            go_wp2_with fail
            refine HAw.out.mono ?_; rintro e w9 ⟨rfl, hb9⟩
            have HB9 := Lib.hid (HB1.out.trans ((HB.out.trans (hb9.mono HB.out.size)).mono HB1.out.size))
            clear hb9
            go_wp2_with fail
            go_ret
            exact ⟨rfl, HB9.out⟩
        · obtain ⟨hPn, hgood, hall⟩ := HYes.out rfl
          have hrn : r = k := by rw [← HRr.out]; exact hPn
          have hwt : want = true := HW.out.2 (by rw [← HN.out]; exact counts_of_good hgood (fun i hi => by
            obtain ⟨j, h1, _, h3⟩ := hall i (by rw [← HN.out]; exact hi)
            exact ⟨j, by rw [HN.out]; exact h1, h3⟩))
          subst hwt
          subst hrn
          have HAll := Lib.hid hall
          have q3 : ((r : Int) == (r : Int)) = true := by simp
          clear hPn hgood hall
          go_wp2_with fail
          go_loopw [69] (fun v69 wr => ∃ j : Nat, v69 = .int .i64 j ∧ j ≤ r ∧ wq = wr) (fun v69 _ => r - (intOf v69).toNat)
          case atStart => exact ⟨0, rfl, by omega, rfl⟩
          case round =>
            obtain ⟨j, rfl, hj, rfl⟩ := hrel
            by_cases hjt : j < r
            · have dj : decide (j < r) = true := decide_eq_true hjt
              obtain ⟨q, hq, hPq, hLq⟩ := HAll.out j hjt
              obtain ⟨gp, op, rfl⟩ := HS.out.numsome (by rw [HN.out]; omega)
              obtain ⟨g2, o2, rfl⟩ := HSP.out.numsome (by rw [HRr.out]; omega)
              have hcp := ((HSP.out.below HB.out).num (getD_lt (by rw [HRr.out]; exact hjt))).1
              rw [hPq] at hcp
              have hcl := ((HS.out.below (HB1.out.trans (HB.out.mono HB1.out.size))).num (getD_lt (by rw [HN.out]; exact hq))).1
              rw [hLq] at hcl
              have f0 : (0 : Int) ≤ (j : Int) := by omega
              have f1 : (j : Int) < (r : Int) := by omega
              have f2 : decide ((q : Int) < 0) = false := decide_eq_false (by omega)
              have f3 : decide ((r : Int) ≤ (q : Int)) = false := decide_eq_false (by omega)
              have f3' : decide (r ≤ q) = false := decide_eq_false (by omega)
              have f4 : (0 : Int) ≤ (q : Int) := by omega
              have f5 : (q : Int) < (r : Int) := by omega
              have f6 : ((j : Int) == (j : Int)) = true := by simp
              clear hPq hLq
              go_wp2_with fail
              go_roundw
              case rel => exact ⟨j + 1, by go_num, by omega, by first | rfl | trivial⟩
              case measure => simp [intOf]; omega
            · have dj : decide (j < r) = false := decide_eq_false hjt
              have HAw := Lib.hid (awake15_of wq)
              go_wp2_with fail
              refine HAw.out.mono ?_; rintro e w9 ⟨rfl, hb9⟩
              have HB9 := Lib.hid (HB1.out.trans ((HB.out.trans (hb9.mono HB.out.size)).mono HB1.out.size))
              clear hb9
              go_wp2_with fail
              go_ret
              exact ⟨rfl, HB9.out⟩

end Go.Proofs.Ytlglenbgaalhiaa
