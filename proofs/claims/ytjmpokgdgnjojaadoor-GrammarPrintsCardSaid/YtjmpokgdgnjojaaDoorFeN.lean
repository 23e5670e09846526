/-
  The same numbers, at this seat's numbers.
-/
import Derived.Test.YtjmpokgdgnjojaaDoorLfA
namespace Go.Proofs.YtjmpokgdgnjojaaDoor
open Go Go.RowKit
set_option linter.unusedVariables false

theorem take_more {l m : List Int} {k : Nat} {x : Int} (h1 : l[k]? = some x) (h2 : m[k]? = some x) (h : l.take k = m.take k) : l.take (k + 1) = m.take (k + 1) := by
  rw [List.take_add_one, List.take_add_one, h1, h2, h]

set_option maxRecDepth 100000 in
set_option maxHeartbeats 1000000 in
/-- The same numbers. -/
theorem nsame {w : World} {a b : Option Addr} {c d : Nat} (l m : List Int) (Hl : Sl w a c (nums l)) (Hm : Sl w b d (nums m)) (hn : l.length ≤ 1000000) :
    Calls Tryd.prog 5 #[.slice a l.length c, .slice b m.length d] w fun e w' => e = .returned (.bool (decide (l = m))) ∧ Below w.heap.size w w' := by
  by_cases hlm : l.length = m.length
  · have HL := Lib.hid Hl
    have HM := Lib.hid Hm
    have HE := Lib.hid hlm
    rw [← hlm]
    obtain ⟨n, hnn⟩ : ∃ n, l.length = n := ⟨_, rfl⟩
    have HN := Lib.hid hnn
    rw [hnn] at hn ⊢
    have hq : ((n : Int) == (n : Int)) = true := by simp
    clear Hl Hm hlm hnn
    go_enter Tryd.func5, Tryd.ntmps5
    go_wp2_with fail
    go_loopw [13] (fun v13 wr => ∃ k : Nat, v13 = .int .i64 k ∧ k ≤ n ∧ l.take k = m.take k ∧ Below w.heap.size w wr) (fun v13 _ => n - (intOf v13).toNat)
    case atStart => exact ⟨0, rfl, by omega, by simp, Below.refl _ _⟩
    case round =>
      obtain ⟨k, rfl, hk, ht, hb⟩ := hrel
      have HB := Lib.hid hb
      have HT := Lib.hid ht
      clear hb ht
      by_cases hlt : k < n
      · have dk : decide (k < n) = true := decide_eq_true hlt
        obtain ⟨g, o, rfl⟩ := HL.out.numsome (by rw [HN.out]; omega)
        obtain ⟨g', o', rfl⟩ := HM.out.numsome (by rw [← HE.out, HN.out]; omega)
        obtain ⟨x, hx⟩ : ∃ x, l[k]? = some x := ⟨_, List.getElem?_eq_getElem (by rw [HN.out]; exact hlt)⟩
        obtain ⟨y, hy⟩ : ∃ y, m[k]? = some y := ⟨_, List.getElem?_eq_getElem (by rw [← HE.out, HN.out]; exact hlt)⟩
        have c0 := ((HL.out.below HB.out).num hx).1
        have c1 := ((HM.out.below HB.out).num hy).1
        have e0 : (0 : Int) ≤ (k : Int) := by omega
        have e1 : (k : Int) < (n : Int) := by omega
        have HX := Lib.hid (And.intro hx hy)
        clear hx hy
        by_cases hxy : x = y
        · subst hxy
          have hq2 : (x == x) = true := by simp
          go_wp2_with fail
          go_region
          all_goals
            go_wp2_with fail
            go_roundw
            case rel => exact ⟨k + 1, by go_num, by omega, take_more HX.out.1 HX.out.2 HT.out, HB.out.drew⟩
            case measure => simp [intOf]; omega
        · have hq2 : (x == y) = false := by simp [hxy]
          have hne : decide (l = m) = false := decide_eq_false (fun hh => by
            rw [hh] at HX
            exact hxy (Option.some.inj (HX.out.1.symm.trans HX.out.2)))
          have HNE := Lib.hid hne
          clear hne
          go_wp2_with fail
          go_region
          all_goals
            go_wp2_with fail
            go_ret
            exact ⟨by rw [HNE.out]; rfl, HB.out.drew⟩
      · have dk : decide (k < n) = false := decide_eq_false hlt
        have hkn : k = n := by omega
        subst hkn
        have hlm : l = m := by
          have h1 := HT.out
          rw [← HN.out, List.take_length, HE.out, List.take_length] at h1
          exact h1
        have HLM := Lib.hid (decide_eq_true hlm)
        clear hlm
        go_wp2_with fail
        go_ret
        exact ⟨by rw [HLM.out]; rfl, HB.out⟩
  · have hne : decide (l = m) = false := decide_eq_false (fun hh => hlm (congrArg List.length hh))
    rw [hne]
    generalize l.length = n at *
    generalize m.length = n' at *
    have hq : ((n : Int) == (n' : Int)) = false := by simp; omega
    clear Hl Hm hne
    go_enter Tryd.func5, Tryd.ntmps5
    go_wp2_with fail
    go_ret
    exact ⟨rfl, Below.refl _ _⟩
end Go.Proofs.YtjmpokgdgnjojaaDoor
