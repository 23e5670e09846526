/-
  The contracts of the document's own Needs and Put, at this seat's numbers.
-/
import Derived.Test.YtelnehjmkjpjhaaQuB
import Derived.Test.YtelnehjmkjpjhaaScJ
import Derived.Test.YtelnehjmkjpjhaaScN
namespace Go.Proofs.Ytelnehjmkjpjhaa
open Go Go.RowKit
set_option linter.unusedVariables false

set_option maxRecDepth 100000 in
set_option maxHeartbeats 2000000 in
theorem rneeds_of {s : ByteArray} {l : List UInt8} (hs : s.data.toList = l) (hl : l.length ≤ 1000000) (w : World) :
    Calls Try.prog 94 #[.string s] w fun e w' => e = .returned (.bool (needsP l)) ∧ w = w' := by
  have hsz := sz_of hs
  have HS := Lib.hid hs
  clear hs
  go_enter Try.func94, Try.ntmps94
  go_wp2_with fail
  go_loop [3] (fun v => ∃ k : Nat, k ≤ l.length ∧ v = .int .i64 k ∧ ∀ j, j < k → spB (lb l j) = false) (fun v => l.length - (intOf v).toNat)
  case atStart => exact ⟨0, by omega, rfl, fun j hj => absurd hj (Nat.not_lt_zero _)⟩
  case round =>
    obtain ⟨k, hk, rfl, hbe⟩ := hrel
    have HB := Lib.hid hbe
    clear hbe
    by_cases hlt : k < l.length
    · have dk : decide (k < l.length) = true := decide_eq_true hlt
      have hxl : k < s.size := by omega
      have hb := lb_get HS.out (i := k) hxl
      by_cases hsp : spB (lb l k) = true
      · have HY : Hid (needsP l = true) := decide_eq_true ⟨k, hlt, hsp⟩
        unfold spB at hsp
        simp only [decide_eq_true_eq] at hsp
        generalize lb l k = x at *
        rcases hsp with rfl | rfl | rfl | rfl
        all_goals
          go_wp2_with fail
          go_ret
          exact ⟨by rw [HY.out] <;> rfl, rfl⟩
      · have HNX : Hid (∀ j, j < k + 1 → spB (lb l j) = false) := fun j hj => by
          rcases Nat.lt_or_ge j k with h | h
          · exact HB.out j h
          · obtain rfl : j = k := by omega
            exact Bool.eq_false_iff.2 hsp
        unfold spB at hsp
        simp only [decide_eq_true_eq, not_or] at hsp
        have d1 : (lb l k == 44) = false := by simpa using hsp.1
        have d2 : (lb l k == 34) = false := by simpa using hsp.2.1
        have d3 : (lb l k == 13) = false := by simpa using hsp.2.2.1
        have d4 : (lb l k == 10) = false := by simpa using hsp.2.2.2
        clear hsp
        generalize lb l k = x at *
        go_wp2_with fail
        go_round
        case rel => exact ⟨k + 1, hlt, by go_num, HNX.out⟩
        case measure => simp [intOf]; omega
    · have dk : decide (k < l.length) = false := decide_eq_false hlt
      obtain rfl : k = l.length := by omega
      have HY : Hid (needsP l = false) := decide_eq_false (by rintro ⟨j, hj, h⟩; rw [HB.out j hj] at h; exact absurd h (by decide))
      go_wp2_with fail
      go_ret
      exact ⟨by rw [HY.out] <;> rfl, rfl⟩

set_option maxRecDepth 100000 in
set_option maxHeartbeats 2000000 in
theorem rput_of {s : ByteArray} {l : List UInt8} (hs : s.data.toList = l) (hl : l.length ≤ 1000000) (w : World) :
    Calls Try.prog 51 #[.string s] w fun e w' => e = .returned (.string (strOf (putP l))) ∧ w = w' := by
  have hsz := sz_of hs
  have HS := Lib.hid hs
  have HN := Lib.hid (rneeds_of hs hl w)
  have HP : Hid (putP l = if needsP l = true then 34 :: (l.flatMap dupB ++ [34]) else l) := by show _ = _; unfold putP; rfl
  by_cases hn : needsP l = true
  · rw [if_pos hn] at HP
    rw [hn] at HN
    clear hs hn
    go_enter Try.func51, Try.ntmps51
    go_wp2_with fail
    refine HN.out.mono ?_; rintro e wx ⟨rfl, rfl⟩
    go_wp2_with fail
    go_loop [3, 4] (fun v3 v4 => ∃ k : Nat, k ≤ l.length ∧ v4 = .int .i64 k ∧ v3 = .string (strOf (34 :: (l.take k).flatMap dupB))) (fun _ v4 => l.length - (intOf v4).toNat)
    case atStart => exact ⟨0, by omega, rfl, rfl⟩
    case round =>
      obtain ⟨k, hk, rfl, rfl⟩ := hrel
      have hsk : (strOf (34 :: (l.take k).flatMap dupB)).size ≤ 3000000 := by
        have := dup_len (l.take k)
        rw [List.length_take] at this
        rw [strOf_size, List.length_cons]; omega
      by_cases hlt : k < l.length
      · have dk : decide (k < l.length) = true := decide_eq_true hlt
        have hxl : k < s.size := by omega
        have hb := lb_get HS.out (i := k) hxl
        have HX := Lib.hid (ext_one HS.out k hlt)
        have hdt := dup_take hlt
        have hgd : l.getD k 0 = l[k] := by rw [List.getD_eq_getElem?_getD, List.getElem?_eq_getElem hlt]; rfl
        have hle := lb_el hlt
        by_cases h34 : lb l k = 34
        · have HT : Hid (strOf (34 :: (l.take (k + 1)).flatMap dupB) = strOf (34 :: (l.take k).flatMap dupB) ++ s.extract k (k + 1) ++ ⟨#[34]⟩) := by
            show _ = _
            have h5 : l[k] = 34 := by
              have h4 : l[k].toNat = 34 := by omega
              exact UInt8.toNat_inj.1 h4
            rw [HX.out, hgd, hdt, h5, show (⟨#[34]⟩ : ByteArray) = strOf [34] from rfl, strOf_app, strOf_app]
            simp [dupB]
          rw [h34] at hb
          clear hdt hgd hle h34
          generalize strOf (34 :: (l.take k).flatMap dupB) = A at *
          go_wp2_with fail
          go_round
          case rel => exact ⟨k + 1, hlt, by go_num, by rw [HT.out] <;> rfl⟩
          case measure => simp [intOf]; omega
        · have HT : Hid (strOf (34 :: (l.take (k + 1)).flatMap dupB) = strOf (34 :: (l.take k).flatMap dupB) ++ s.extract k (k + 1)) := by
            show _ = _
            rw [hle] at h34
            rw [HX.out, hgd, hdt, strOf_app]
            simp [dupB, h34]
          have d34 : (lb l k == 34) = false := by simpa using h34
          clear hdt hgd hle h34
          generalize strOf (34 :: (l.take k).flatMap dupB) = A at *
          generalize lb l k = x at *
          go_wp2_with fail
          go_round
          case rel => exact ⟨k + 1, hlt, by go_num, by rw [HT.out] <;> rfl⟩
          case measure => simp [intOf]; omega
      · have dk : decide (k < l.length) = false := decide_eq_false hlt
        obtain rfl : k = l.length := by omega
        have HT : Hid (strOf (putP l) = strOf (34 :: (l.take l.length).flatMap dupB) ++ ⟨#[34]⟩) := by
          show _ = _
          rw [HP.out, List.take_length, show (⟨#[34]⟩ : ByteArray) = strOf [34] from rfl, strOf_app]
          rfl
        generalize strOf (34 :: (l.take l.length).flatMap dupB) = A at *
        go_wp2_with fail
        go_ret
        exact ⟨by rw [HT.out] <;> rfl, rfl⟩
  · rw [if_neg hn] at HP
    rw [show needsP l = false by simpa using hn] at HN
    have HT : Hid (strOf (putP l) = s) := by show _ = _; rw [HP.out, ← hs]; exact strOf_data s
    clear hs hn HP
    go_enter Try.func51, Try.ntmps51
    go_wp2_with fail
    refine HN.out.mono ?_; rintro e wx ⟨rfl, rfl⟩
    go_wp2_with fail
    go_ret
    exact ⟨by rw [HT.out] <;> rfl, rfl⟩

end Go.Proofs.Ytelnehjmkjpjhaa
