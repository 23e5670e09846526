/-
  The contracts of the document's own bare and less over texts, at this seat's numbers.
-/
import Derived.Test.YtbankegfmamoiaaDoorNumV
import Derived.Test.YtbankegfmamoiaaDoorNumE
import Derived.WalkLawsBesides
namespace Go.Proofs.YtbankegfmamoiaaDoor
open Go Go.RowKit
set_option linter.unusedVariables false

/-- How long the text in a slot is. -/
def szOf : Value → Nat | .string s => s.size | _ => 0

theorem bl_tail (t : ByteArray) : bl (t.extract 1 t.size) = (bl t).drop 1 := by
  unfold bl
  rw [← List.map_drop]
  congr 1
  simp [ByteArray.data_extract]
  rw [List.take_of_length_le (by rw [List.length_tail]; exact Nat.le_refl _)]

def BarePost (s : ByteArray) (w : World) (e : Ending) (w' : World) : Prop := ∃ t, e = .returned (.string t) ∧ bl t = noz (bl s) ∧ w = w'

theorem bl_split (t : ByteArray) (h : 1 < t.size) : ∃ l, bl t = bt t 0 :: bt t 1 :: l := by
  have h0 : 0 < (bl t).length := by rw [bl_len]; omega
  have h1 : 1 < (bl t).length := by rw [bl_len]; omega
  refine ⟨(bl t).drop 2, ?_⟩
  rw [← bl_get t 0 h0, ← bl_get t 1 h1, ← List.drop_eq_getElem_cons h1, ← List.drop_eq_getElem_cons h0]
  rfl

theorem noz_step (t : ByteArray) (h : 1 < t.size) (h0 : bt t 0 = 48) : noz (bl (t.extract 1 t.size)) = noz (bl t) := by
  obtain ⟨l, hl⟩ := bl_split t h
  rw [bl_tail, hl, noz_cons, if_pos h0]
  rfl
theorem noz_stop (t : ByteArray) (h : ¬ (1 < t.size ∧ bt t 0 = 48)) : noz (bl t) = bl t := by
  by_cases h1 : 1 < t.size
  · obtain ⟨l, hl⟩ := bl_split t h1
    rw [hl, noz_cons, if_neg (fun k => h ⟨h1, k⟩)]
  · have hl : (bl t).length ≤ 1 := by rw [bl_len]; omega
    generalize bl t = q at *
    match q, hl with
    | [], _ => rfl
    | [d], _ => unfold noz; split <;> simp_all

set_option maxRecDepth 100000 in
set_option maxHeartbeats 400000 in
theorem bare_of (s : ByteArray) (w : World) (hs : s.size ≤ maxLen) :
    Calls Tryd.prog 52 #[.string s] w (BarePost s w) := by
  unfold maxLen at hs
  go_enter Tryd.func52, Tryd.ntmps52
  go_wp2
  go_loop [0] (fun v => ∃ t : ByteArray, v = .string t ∧ t.size ≤ s.size ∧ noz (bl t) = noz (bl s)) (fun v => szOf v)
  case atStart => exact ⟨s, rfl, Nat.le_refl _, rfl⟩
  case round =>
    obtain ⟨t, rfl, hle, hn⟩ := hrel
    have HN := Lib.hid hn
    clear hn
    by_cases h1 : 1 < t.size
    · have hb := bt_get t 0 (by omega)
      have h1' : (1 : Int) < (t.size : Int) := by omega
      by_cases h0 : bt t 0 = 48
      · have h0' : (bt t 0 == 48) = true := by simpa using h0
        have hst := noz_step t h1 h0
        have HS := Lib.hid hst
        clear hst h0
        go_wp2
        go_round
        case rel => exact ⟨_, rfl, by rw [ByteArray.size_extract]; omega, by rw [HS.out, HN.out]⟩
        case measure => simp [szOf]; omega
      · have h0' : (bt t 0 == 48) = false := by simpa using h0
        have HS := Lib.hid (noz_stop t (fun h => h0 h.2))
        clear h0
        go_wp2
        go_ret
        exact ⟨t, rfl, by rw [← HN.out, HS.out], rfl⟩
    · have h1' : ¬ (1 : Int) < (t.size : Int) := by omega
      have HS := Lib.hid (noz_stop t (fun h => h1 h.1))
      go_wp2
      go_ret
      exact ⟨t, rfl, by rw [← HN.out, HS.out], rfl⟩

/-- Texts stand by their bytes. -/
theorem bytesLess_cmp : ∀ a b : List UInt8, Op.bytesLess a b = decide (cmpL (a.map fun x => (x.toNat : Int)) (b.map fun x => (x.toNat : Int)) = -1)
  | [], [] => rfl
  | _ :: _, [] => rfl
  | [], _ :: _ => rfl
  | x :: l, y :: r => by
    rw [List.map_cons, List.map_cons, cmpL_cons]
    unfold Op.bytesLess
    rw [bytesLess_cmp l r]
    by_cases h1 : x.toNat < y.toNat
    · have : x < y := by rw [UInt8.lt_iff_toNat_lt]; exact h1
      rw [if_pos (by omega)]
      simp [this]
    · have h1' : ¬ x < y := by rw [UInt8.lt_iff_toNat_lt]; exact h1
      rw [if_neg (by omega)]
      by_cases h2 : y.toNat < x.toNat
      · rw [if_pos (by omega)]
        have : ¬ x = y := fun h => by subst h; omega
        simp [h1', this]
      · rw [if_neg (by omega)]
        have : x = y := by rw [← UInt8.toNat_inj]; omega
        simp [this]

def lessB (a b : ByteArray) : Bool := decide (a.size < b.size ∨ (a.size = b.size ∧ cmpL (bl a) (bl b) = -1))
theorem toList_bytes (a : ByteArray) : a.toList = a.data.toList := by
  exact ByteArray.toList_eq a

theorem less_of (a b : ByteArray) (w : World) (ha : a.size ≤ maxLen) (hb : b.size ≤ maxLen) :
    Calls Tryd.prog 53 #[.string a, .string b] w fun e w' => e = .returned (.bool (lessB a b)) ∧ w = w' := by
  unfold maxLen at ha hb
  have hl : Op.bytesLess a.toList b.toList = decide (cmpL (bl a) (bl b) = -1) := by rw [toList_bytes, toList_bytes, bytesLess_cmp]; rfl
  by_cases h1 : a.size < b.size
  · have e : lessB a b = true := by unfold lessB; simp [h1]
    have HE := Lib.hid e
    clear e hl
    go_enter Tryd.func53, Tryd.ntmps53
    go_wp2
    go_ret
    exact ⟨by rw [HE.out]; rfl, rfl⟩
  · have h1' : ¬ (a.size : Int) < (b.size : Int) := by omega
    by_cases h2 : a.size = b.size
    · have h2' : ((a.size : Int) == (b.size : Int)) = true := by rw [beq_iff_eq]; omega
      have e : lessB a b = decide (cmpL (bl a) (bl b) = -1) := by unfold lessB; simp [h2]
      have HE := Lib.hid e
      clear e h2
      go_enter Tryd.func53, Tryd.ntmps53
      go_wp2
      go_ret
      exact ⟨by rw [HE.out]; rfl, rfl⟩
    · have h2' : ((a.size : Int) == (b.size : Int)) = false := by rw [beq_eq_false_iff_ne]; omega
      have e : lessB a b = false := by unfold lessB; simp [h1, h2]
      have HE := Lib.hid e
      clear e h2 hl
      go_enter Tryd.func53, Tryd.ntmps53
      go_wp2
      go_ret
      exact ⟨by rw [HE.out]; rfl, rfl⟩

end Go.Proofs.YtbankegfmamoiaaDoor
