/-
  The contracts of the law's few, of the document's Same, and of slices.Repeat and merge.Turn, at this seat's numbers.
-/
import Derived.Test.YtlglenbgaalhiaaMgI
namespace Go.Proofs.Ytlglenbgaalhiaa
open Go Go.RowKit
set_option linter.unusedVariables false

/-- The first 200 numbers, from -999 to 999. -/
def fewL (l : List Int) : List Int := (l.take 200).map (fun x => x.tmod 1000)
theorem few_len (l : List Int) : (fewL l).length = min 200 l.length := by unfold fewL; rw [List.length_map, List.length_take]
theorem few_dm (l : List Int) : ∀ x ∈ fewL l, Dm x := by
  intro x hx
  obtain ⟨y, _, rfl⟩ := List.mem_map.1 hx
  have h1 : (y.tmod 1000).natAbs < 1000 := by
    rw [Int.natAbs_tmod]; exact Nat.mod_lt _ (by decide)
  unfold Dm; omega

set_option maxRecDepth 100000 in
set_option maxHeartbeats 4000000 in
theorem few_of {w : World} {a : Option Addr} {c : Nat} (l : List Int) (H : Sl w a c (nums l)) :
    Calls Try.prog 7 #[.slice a l.length c] w (NPost (fewL l) w) := by
  obtain ⟨i0, hi0, hz0, hz1, hz2⟩ := info_parts info_int
  have hcap := H.cap
  have hcm := H.capm
  rw [nums_len] at hcap
  have hnm : l.length ≤ maxLen := Nat.le_trans hcap hcm
  obtain ⟨n, hnn⟩ : ∃ n, l.length = n := ⟨_, rfl⟩
  have HN := Lib.hid hnn
  have HS := Lib.hid H
  rw [hnn] at hnm ⊢
  have hn63 : (n : Int) ≤ 9223372036854775807 := by unfold maxLen at hnm; omega
  clear hnn H hcap hcm hnm
  go_enter Try.func7, Try.ntmps7
  go_wp2_with fail
  go_loopw [3, 8] (fun v3 v8 wr => ∃ (k m : Nat) (a3 : Option Addr) (c3 : Nat), v3 = .slice a3 m c3 ∧ v8 = .int .i64 k ∧ k ≤ n ∧ m = min 200 k ∧ wr.ownsRow w.heap.size 3 1 (.slice a3 m c3) m (nums (fewL (l.take k))) ∧ Below w.heap.size w wr) (fun _ v8 _ => n - (intOf v8).toNat)
  case atStart => exact ⟨0, 0, none, 0, rfl, rfl, by omega, by omega, by simp [fewL, nums, t_nil], Below.refl _ _⟩
  case round =>
    obtain ⟨wq, rfl⟩ : ∃ wq : World, wq = wr := ⟨_, rfl⟩
    obtain ⟨k, m, a3, c3, rfl, rfl, hk, hm, ho, hb⟩ := hrel
    have HO := Lib.hid ho
    have HB := Lib.hid hb
    clear ho hb
    by_cases hlt : k < n
    · have dk : decide (k < n) = true := decide_eq_true hlt
      obtain ⟨g, o, rfl⟩ := HS.out.numsome (by rw [HN.out]; omega)
      obtain ⟨y, hy⟩ : ∃ y, l[k]? = some y := ⟨_, List.getElem?_eq_getElem (by rw [HN.out]; exact hlt)⟩
      have c0 := ((HS.out.below HB.out).num hy).1
      have e0 : (0 : Int) ≤ (k : Int) := by omega
      have e1 : (k : Int) < (n : Int) := by omega
      have hyr : -1000 < y.tmod 1000 ∧ y.tmod 1000 < 1000 := by
        have h1 : (y.tmod 1000).natAbs < 1000 := by rw [Int.natAbs_tmod]; exact Nat.mod_lt _ (by decide)
        omega
      by_cases h2 : k < 200
      · have d2 : decide ((k : Int) < 200) = true := decide_eq_true (by omega)
        have HFe : Hid (fewL (l.take (k + 1)) = fewL (l.take k) ++ [y.tmod 1000]) := Lib.hid (by
          unfold fewL
          rw [List.take_take, List.take_take, Nat.min_eq_right (by omega), Nat.min_eq_right (by omega), List.take_add_one, hy]; simp)
        have hmk : m = k := by omega
        clear hy
        subst hmk
        clear hm
        have C3 : Hid (m + 1 ≤ maxLen) := by show _ ≤ _; unfold maxLen; omega
        have C4 : Hid ((m + 1) * 8 ≤ 140737488355328) := by show _ ≤ _; omega
        have C5 : Hid (w.heap.size ≤ (wq.alloc (Obj.cells #[.int .i64 (y.tmod 1000)] 3)).heap.size) := by show _ ≤ _; have := HB.out.size; simp only [World.size_alloc]; omega
        go_wp2_with (first
          | (at_builtin; refine wpList_append_own _ rfl (.tmp 15) (.tmp 18) 22 rfl w.heap.size 3 i0 (.int .i64 0) 1 8 Try.underlying22 hi0 hz0 hz1 hz2 rfl (by decide) (.slice a3 m c3) (m) (nums (fewL (l.take m))) rfl (HO.out.alloc _) ⟨wq.heap.size, 0, none⟩ 1 1 [.int .i64 (y.tmod 1000)] rfl rfl (c1_one wq _ _) (c2_one _ rfl) C3.out C4.out C5.out ?_)
          | fail)
        intro vN wB hoN hgN _
        obtain ⟨aN, cN, rfl⟩ := own_slice hoN
        have HOB := Lib.hid hoN
        have HBB := Lib.hid (app_below HB.out HO.out hgN)
        clear hoN hgN C3 C4 C5
        go_wp2_with fail
        go_roundw
        case rel =>
          refine ⟨m + 1, m + 1, aN, cN, by go_num, by go_num, by omega, by omega, ?_, HBB.out⟩
          rw [HFe.out, ← nums_app]; exact HOB.out
        case measure => simp [intOf]; omega
      · have d2 : decide ((k : Int) < 200) = false := decide_eq_false (by omega)
        have HFe : Hid (fewL (l.take (k + 1)) = fewL (l.take k)) := Lib.hid (by
          unfold fewL
          rw [List.take_take, List.take_take, Nat.min_eq_left (by omega), Nat.min_eq_left (by omega)])
        clear hy
        go_wp2_with fail
        go_roundw
        case rel => exact ⟨k + 1, m, a3, c3, rfl, by go_num, by omega, by omega, by rw [HFe.out]; exact HO.out, HB.out⟩
        case measure => simp [intOf]; omega
    · have dk : decide (k < n) = false := decide_eq_false hlt
      have hkn : k = n := by omega
      subst hkn
      have htk : l.take k = l := List.take_of_length_le (by rw [HN.out]; exact Nat.le_refl _)
      have HL : Hid ((fewL l).length = m) := Lib.hid (by rw [few_len, HN.out, hm])
      have HO2 := HO.out
      rw [htk] at HO2
      have HO3 := Lib.hid HO2
      clear HO2 htk hm
      go_wp2_with fail
      go_ret
      exact ⟨a3, c3, by rw [HL.out]; rfl, by rw [HL.out]; exact HO3.out, HB.out⟩

theorem take_more {l m : List Int} {k : Nat} {x : Int} (h1 : l[k]? = some x) (h2 : m[k]? = some x) (h : l.take k = m.take k) : l.take (k + 1) = m.take (k + 1) := by
  rw [List.take_add_one, List.take_add_one, h1, h2, h]
set_option maxRecDepth 100000 in
set_option maxHeartbeats 1000000 in
/-- The same numbers. -/
theorem nsame {w : World} {a b : Option Addr} {c d : Nat} (l m : List Int) (Hl : Sl w a c (nums l)) (Hm : Sl w b d (nums m)) (hn : l.length ≤ 1000000) :
    Calls Try.prog 11 #[.slice a l.length c, .slice b m.length d] w fun e w' => e = .returned (.bool (decide (l = m))) ∧ Below w.heap.size w w' := by
  by_cases hlm : l.length = m.length
  · have HL := Lib.hid Hl
    have HM := Lib.hid Hm
    have HE := Lib.hid hlm
    rw [← hlm]
    obtain ⟨n, hnn⟩ : ∃ n, l.length = n := ⟨_, rfl⟩
    have HN := Lib.hid hnn
    rw [hnn] at hn ⊢
    have hq : ((n : Int) == (n : Int)) = true := by simp
    clear Hl Hm hlm hnn
    go_enter Try.func11, Try.ntmps11
    go_wp2_with fail
    go_loopw [13] (fun v13 wr => ∃ k : Nat, v13 = .int .i64 k ∧ k ≤ n ∧ l.take k = m.take k ∧ Below w.heap.size w wr) (fun v13 _ => n - (intOf v13).toNat)
    case atStart => exact ⟨0, rfl, by omega, by simp, Below.refl _ _⟩
    case round =>
      obtain ⟨k, rfl, hk, ht, hb⟩ := hrel
      have HB := Lib.hid hb
      have HT := Lib.hid ht
      clear hb ht
      by_cases hlt : k < n
      · have dk : decide (k < n) = true := decide_eq_true hlt
        obtain ⟨g, o, rfl⟩ := HL.out.numsome (by rw [HN.out]; omega)
        obtain ⟨g', o', rfl⟩ := HM.out.numsome (by rw [← HE.out, HN.out]; omega)
        obtain ⟨x, hx⟩ : ∃ x, l[k]? = some x := ⟨_, List.getElem?_eq_getElem (by rw [HN.out]; exact hlt)⟩
        obtain ⟨y, hy⟩ : ∃ y, m[k]? = some y := ⟨_, List.getElem?_eq_getElem (by rw [← HE.out, HN.out]; exact hlt)⟩
        have c0 := ((HL.out.below HB.out).num hx).1
        have c1 := ((HM.out.below HB.out).num hy).1
        have e0 : (0 : Int) ≤ (k : Int) := by omega
        have e1 : (k : Int) < (n : Int) := by omega
        have HX := Lib.hid (And.intro hx hy)
        clear hx hy
        by_cases hxy : x = y
        · subst hxy
          have hq2 : (x == x) = true := by simp
          go_wp2_with fail
          go_region
          all_goals
            go_wp2_with fail
            go_roundw
            case rel => exact ⟨k + 1, by go_num, by omega, take_more HX.out.1 HX.out.2 HT.out, HB.out.drew⟩
            case measure => simp [intOf]; omega
        · have hq2 : (x == y) = false := by simp [hxy]
          have hne : decide (l = m) = false := decide_eq_false (fun hh => by
            rw [hh] at HX
            exact hxy (Option.some.inj (HX.out.1.symm.trans HX.out.2)))
          have HNE := Lib.hid hne
          clear hne
          go_wp2_with fail
          go_region
          all_goals
            go_wp2_with fail
            go_ret
            exact ⟨by rw [HNE.out]; rfl, HB.out.drew⟩
      · have dk : decide (k < n) = false := decide_eq_false hlt
        have hkn : k = n := by omega
        subst hkn
        have hlm : l = m := by
          have h1 := HT.out
          rw [← HN.out, List.take_length, HE.out, List.take_length] at h1
          exact h1
        have HLM := Lib.hid (decide_eq_true hlm)
        clear hlm
        go_wp2_with fail
        go_ret
        exact ⟨by rw [HLM.out]; rfl, HB.out⟩
  · have hne : decide (l = m) = false := decide_eq_false (fun hh => hlm (congrArg List.length hh))
    rw [hne]
    generalize l.length = n at *
    generalize m.length = n' at *
    have hq : ((n : Int) == (n' : Int)) = false := by simp; omega
    clear Hl Hm hne
    go_enter Try.func11, Try.ntmps11
    go_wp2_with fail
    go_ret
    exact ⟨rfl, Below.refl _ _⟩


end Go.Proofs.Ytlglenbgaalhiaa
