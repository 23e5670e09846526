/-
  Rows of texts: plain, and the contract of the document's own Join, at this seat's numbers.
-/
import Derived.Test.YtelnehjmkjpjhaaDoorQuH
import Derived.Test.YtelnehjmkjpjhaaDoorQuF
namespace Go.Proofs.YtelnehjmkjpjhaaDoor
open Go Go.RowKit
set_option linter.unusedVariables false

/-- Texts as the fields of one row. -/
def joinP : List (List UInt8) → List UInt8
  | [] => []
  | [x] => putP x
  | x :: y :: t => putP x ++ 44 :: joinP (y :: t)
theorem joinP_snoc : ∀ (xs : List (List UInt8)) (x : List UInt8), joinP (xs ++ [x]) = if xs = [] then putP x else joinP xs ++ (44 :: putP x)
  | [], x => by simp [joinP]
  | [a], x => by simp [joinP]
  | a :: b :: t, x => by
    have h := joinP_snoc (b :: t) x
    rw [if_neg (by simp)] at h ⊢
    show putP a ++ 44 :: joinP ((b :: t) ++ [x]) = (putP a ++ 44 :: joinP (b :: t)) ++ (44 :: putP x)
    rw [h]; simp
theorem joinP_first {L : List (List UInt8)} (h : 0 < L.length) : joinP (L.take 1) = putP L[0] := by
  rw [show (1 : Nat) = 0 + 1 from rfl, List.take_succ_eq_append_getElem h, joinP_snoc, if_pos (by simp)]
theorem joinP_more {L : List (List UInt8)} {k : Nat} (h : k < L.length) (h0 : 0 < k) : joinP (L.take (k + 1)) = joinP (L.take k) ++ [44] ++ putP L[k] := by
  rw [List.take_succ_eq_append_getElem h, joinP_snoc, if_neg (fun e => by have := congrArg List.length e; rw [List.length_take, List.length_nil] at this; omega)]
  simp
theorem joinP_len {L : List (List UInt8)} (h : ∀ x ∈ L, x.length ≤ 60) : ∀ k, k ≤ L.length → (joinP (L.take k)).length ≤ 123 * k
  | 0, _ => by simp [joinP]
  | k + 1, hk => by
    have ih := joinP_len h k (by omega)
    have hx := h L[k] (List.getElem_mem (by omega))
    have hp := putP_len L[k]
    rcases Nat.eq_zero_or_pos k with h0 | h0
    · subst h0
      rw [joinP_first (by omega)]; omega
    · rw [joinP_more (by omega) h0, List.length_append, List.length_append]
      simp only [List.length_cons, List.length_nil]; omega

set_option maxRecDepth 100000 in
set_option maxHeartbeats 2000000 in
theorem rjoin_of {w : World} {a : Option Addr} {c : Nat} {L : List (List UInt8)} (hr : Rd w 1 a L.length (txC L)) (hn : L.length ≤ 12) (hx : ∀ x ∈ L, x.length ≤ 60) :
    Calls Tryd.prog 10 #[.slice a L.length c] w fun e w' => e = .returned (.string (strOf (joinP L))) ∧ w = w' := by
  have HR := Lib.hid hr
  have HX := Lib.hid hx
  have HJL := Lib.hid (joinP_len hx)
  clear hr hx
  go_enter Tryd.func10, Tryd.ntmps10
  go_wp2_with fail
  go_loop [3, 8] (fun v3 v8 => ∃ k : Nat, k ≤ L.length ∧ v8 = .int .i64 k ∧ v3 = .string (strOf (joinP (L.take k)))) (fun _ v8 => L.length - (intOf v8).toNat)
  case atStart => exact ⟨0, by omega, rfl, rfl⟩
  case round =>
    obtain ⟨k, hk, rfl, rfl⟩ := hrel
    have hjl := HJL.out k hk
    have hsk : (strOf (joinP (L.take k))).size ≤ 2000 := by rw [strOf_size]; omega
    clear hjl
    by_cases hlt : k < L.length
    · have dk : decide (k < L.length) = true := decide_eq_true hlt
      obtain ⟨b, off, rfl, hb, hcl⟩ := HR.out.2 (by omega)
      have hc := hcl k (.string (strOf L[k])) (by unfold txC; rw [List.getElem?_map, List.getElem?_eq_getElem hlt]; rfl)
      have hxk := HX.out L[k] (List.getElem_mem hlt)
      have HPT := Lib.hid (fun w => rput_of (s := strOf L[k]) (l := L[k]) rfl (by omega) w)
      have hpl := putP_len L[k]
      have hps : (strOf (putP L[k])).size ≤ 200 := by rw [strOf_size]; omega
      rcases Nat.eq_zero_or_pos k with h0 | h0
      · have HT : Hid (strOf (joinP (L.take (k + 1))) = strOf (joinP (L.take k)) ++ strOf (putP L[k])) := by
          show _ = _
          subst h0
          rw [joinP_first hlt, strOf_app]; rfl
        have d0 : decide ((0 : Int) < (k : Int)) = false := decide_eq_false (by omega)
        have d0' : decide (0 < k) = false := decide_eq_false (by omega)
        clear hcl hpl h0
        generalize strOf (joinP (L.take k)) = A at *
        generalize strOf (putP L[k]) = B at *
        go_wp2_with fail
        refine (HPT.out _).mono ?_; rintro e wx ⟨rfl, rfl⟩
        go_wp2_with fail
        go_round
        case rel => exact ⟨k + 1, hlt, by go_num, by rw [HT.out] <;> rfl⟩
        case measure => simp [intOf]; omega
      · have HT : Hid (strOf (joinP (L.take (k + 1))) = strOf (joinP (L.take k)) ++ ⟨#[44]⟩ ++ strOf (putP L[k])) := by
          show _ = _
          rw [joinP_more hlt h0, show (⟨#[44]⟩ : ByteArray) = strOf [44] from rfl, strOf_app, strOf_app]
        have d0 : decide ((0 : Int) < (k : Int)) = true := decide_eq_true (by omega)
        have d0' : decide (0 < k) = true := decide_eq_true (by omega)
        clear hcl hpl h0
        generalize strOf (joinP (L.take k)) = A at *
        generalize strOf (putP L[k]) = B at *
        go_wp2_with fail
        refine (HPT.out _).mono ?_; rintro e wx ⟨rfl, rfl⟩
        go_wp2_with fail
        go_round
        case rel => exact ⟨k + 1, hlt, by go_num, by rw [HT.out] <;> rfl⟩
        case measure => simp [intOf]; omega
    · have dk : decide (k < L.length) = false := decide_eq_false hlt
      obtain rfl : k = L.length := by omega
      rw [List.take_length]
      go_wp2_with fail
      go_ret
      exact ⟨rfl, rfl⟩

end Go.Proofs.YtelnehjmkjpjhaaDoor
