/-
  The chapter's example of layer 22, and the walks of KeysTell and KeysParse, at this seat's numbers.
-/
import Derived.Test.YtkendmlbmdhnaaaDoorKyG
import Derived.Deep.RegionWith
namespace Go.Proofs.YtkendmlbmdhnaaaDoor
open Go Go.RowKit
set_option linter.unusedVariables false

theorem sl_lit (w : World) (l : List Int) (C : Array Value) (hC : C = (nums l).toArray) (hl : l.length ≤ 1000) (k : Nat) (hk : k = w.heap.size) : Sl (w.alloc (.cells C 3)) (some ⟨k, 0, none⟩) l.length (nums l) := by
  subst hk hC
  have := Sl.new (w := w.alloc (.cells (nums l).toArray 3)) (b := w.heap.size) (T := 3) (fr := (0, 0)) (xs := nums l) (heap_alloc_new w _) (by rw [nums_len]; unfold maxLen; omega) (nums_one l)
  rwa [nums_len] at this

theorem ex_parse : parse ⟨#[105, 120, 60, 69, 115, 99, 62]⟩ = some [105, 120, 27] := by decide +kernel
theorem ex_print : strOf (prt [60, -1, 18]) = ⟨#[60, 108, 116, 62, 60, 76, 101, 102, 116, 62, 60, 67, 45, 114, 62]⟩ := by decide +kernel

set_option maxHeartbeats 1000000 in
theorem awake22_of (w : World) (hn : NmT w) (hT : Tabs w) : Calls Tryd.prog 15 #[] w fun e w' => e = .returned (.bool true) ∧ Below w.heap.size w w' := by
  have HP := Lib.hid (parse_of ⟨#[105, 120, 60, 69, 115, 99, 62]⟩ w (by decide) hn hT)
  have HN := Lib.hid hn
  clear hn hT
  go_enter Tryd.func15, Tryd.ntmps15
  go_wp2_with fail
  refine HP.out.mono ?_
  rintro e w1 ⟨hb1, he⟩
  rw [ex_parse] at he
  obtain ⟨a, c, rfl, hsl⟩ := he
  have HB1 := Lib.hid hb1
  have HS1 := Lib.hid hsl
  clear hb1 hsl
  go_wp2_with fail
  refine (nsame [105, 120, 27] [105, 120, 27] (HS1.out.below ((Below.refl _ w1).alloc (Nat.le_refl _) _)) (sl_lit w1 [105, 120, 27] _ rfl (by decide) _ rfl) (by decide)).mono ?_
  rintro e w2 ⟨rfl, hb2⟩
  have HB2 := Lib.hid (show Below w.heap.size w w2 from (HB1.out.alloc HB1.out.size _).trans (hb2.mono (by have := HB1.out.size; simp; omega)))
  clear hb2
  rw [show decide (([105, 120, 27] : List Int) = [105, 120, 27]) = true from by decide]
  go_wp2_with fail
  refine (print_of [60, -1, 18] (sl_lit w2 [60, -1, 18] _ rfl (by decide) _ rfl) (by decide) (HN.out.below (HB2.out.alloc HB2.out.size _))).mono ?_
  rintro e w3 ⟨rfl, hb3⟩
  have HB3 := Lib.hid (show Below w.heap.size w w3 from (HB2.out.alloc HB2.out.size _).trans (hb3.mono (by have := HB2.out.size; simp; omega)))
  clear hb3
  rw [ex_print]
  go_wp2_with fail
  refine (ctrl_of 114 (by omega) (by omega) w3).mono ?_
  rintro e w4 ⟨rfl, rfl⟩
  rw [show ctP 114 = 18 from by decide]
  go_wp2_with fail
  go_ret
  exact ⟨rfl, HB3.out⟩

theorem keysTell_walk (k c : Int) (w : World) (g0 : -9223372036854775808 ≤ k) (g1 : k ≤ 9223372036854775807) (h0 : 0 ≤ c) (h1 : c ≤ 255) (hT : Tabs w) (hn : NmT w) :
    Calls Tryd.prog 3 #[.int .i64 k, .int .u8 c] w fun e w' => e = .returned (.bool true) ∧ Below w.heap.size w w' := by
  have HN := Lib.hid hn
  have HT := Lib.hid hT
  have q1 : ∀ b : Bool, (b == b) = true := fun b => by cases b <;> rfl
  have HC := Lib.hid fun v => ctrl_of c h0 (by omega) v
  have HC2 := Lib.hid fun v => rctrl_of c h0 (by omega) v
  generalize ctP c = cc at *
  have q2 : (cc == cc) = true := by simp
  clear hn hT
  go_enter Tryd.func3, Tryd.ntmps3
  go_wp2_with fail
  refine (is_of k w HN.out).mono ?_; rintro e w1 ⟨rfl, hb⟩; have HB1 := Lib.hid hb; clear hb
  go_wp2_with fail
  refine (ris_of k w1).mono ?_; rintro e w2 ⟨rfl, hb⟩; have HB2 := Lib.hid (HB1.out.trans (hb.mono HB1.out.size)); clear hb
  generalize isK k = b1
  have e1 := q1 b1
  go_wp2_with fail
  refine (types_of k w2).mono ?_; rintro e w3 ⟨rfl, hb⟩; have HB3 := Lib.hid (HB2.out.trans (hb.mono HB2.out.size)); clear hb
  go_wp2_with fail
  refine (rtypes_of k w3).mono ?_; rintro e w4 ⟨rfl, hb⟩; have HB4 := Lib.hid (HB3.out.trans (hb.mono HB3.out.size)); clear hb
  generalize ty k = b2
  have e2 := q1 b2
  go_wp2_with fail
  refine (text_of k w4 (HN.out.below HB4.out)).mono ?_; rintro e w5 ⟨rfl, hb⟩; have HB5 := Lib.hid (HB4.out.trans (hb.mono HB4.out.size)); clear hb
  go_wp2_with fail
  refine (rtext_of k w5).mono ?_; rintro e w6 ⟨rfl, hb⟩; have HB6 := Lib.hid (HB5.out.trans (hb.mono HB5.out.size)); clear hb
  generalize strOf (tx k) = T
  have e3 : (T.toList == T.toList) = true := by simp
  go_wp2_with fail
  refine (HC.out w6).mono ?_; rintro e w7 ⟨rfl, rfl⟩
  go_wp2_with fail
  refine (HC2.out w6).mono ?_; rintro e w8 ⟨rfl, rfl⟩
  go_wp2_with fail
  refine (awake22_of w6 (HN.out.below HB6.out) (HT.out.below HB6.out)).mono ?_; rintro e w9 ⟨rfl, hb⟩; have HB9 := Lib.hid (HB6.out.trans (hb.mono HB6.out.size)); clear hb
  go_wp2_with fail
  go_ret
  exact ⟨by simp, HB9.out⟩

def cut22 (s : ByteArray) (n : Nat) : ByteArray := if n < s.size then s.extract 0 n else s
theorem cut22_le (s : ByteArray) (n : Nat) : (cut22 s n).size ≤ n := by
  unfold cut22
  split
  · rw [ByteArray.size_extract]; omega
  · omega
theorem cut22_of (s : ByteArray) (n : Nat) (w : World) (hs : s.size ≤ maxLen) (hn : n ≤ maxLen) :
    Calls Tryd.prog 16 #[.string s, .int .i64 n] w fun e w' => e = .returned (.string (cut22 s n)) ∧ w = w' := by
  unfold maxLen at hs hn
  by_cases h : n < s.size
  · have e : cut22 s n = s.extract 0 n := by unfold cut22; rw [if_pos h]
    rw [e]
    clear e
    go_enter Tryd.func16, Tryd.ntmps16
    go_wp2
    go_ret
    exact ⟨rfl, rfl⟩
  · have e : cut22 s n = s := by unfold cut22; rw [if_neg h]
    rw [e]
    clear e
    go_enter Tryd.func16, Tryd.ntmps16
    go_wp2
    go_ret
    exact ⟨rfl, rfl⟩

theorem pk_len (s : ByteArray) : ∀ f i l, i ≤ s.size → pk s f i = some l → i + l.length ≤ s.size := by
  intro f
  induction f with
  | zero => intro i l h1 h2; cases h2; simpa using h1
  | succ f ih =>
    intro i l h1 h2
    by_cases hi : i < s.size
    · by_cases h0 : keyAt s i = 0
      · have h2' : (if i < s.size then (if keyAt s i = 0 then none else (pk s f (i + (tx (keyAt s i)).length)).map (keyAt s i :: ·)) else some []) = some l := h2
        rw [if_pos hi, if_pos h0] at h2'
        cases h2'
      · rw [pk_step s f i hi h0] at h2
        obtain ⟨hn, hp⟩ := keyAt_pre s i hi h0
        have hl := List.length_pos_iff.2 hn
        have hb := (pre_bt hp (Nat.le_of_lt hi)).1
        cases hq : pk s f (i + (tx (keyAt s i)).length) with
        | none => rw [hq] at h2; cases h2
        | some l' =>
          rw [hq] at h2
          cases h2
          have := ih _ l' hb hq
          rw [List.length_cons]
          omega
    · rw [pk_end s _ i (by omega)] at h2
      cases h2
      simpa using h1
theorem parse_len {s : ByteArray} {l : List Int} (h : parse s = some l) : l.length ≤ s.size := by
  have := pk_len s s.size 0 l (by omega) h
  omega

theorem keysParse_walk (s0 : ByteArray) (w : World) (hs0 : s0.size ≤ maxLen) (hT : Tabs w) (hn : NmT w) :
    Calls Tryd.prog 4 #[.string s0] w fun e w' => e = .returned (.bool true) ∧ Below w.heap.size w w' := by
  have HN := Lib.hid hn
  have HT := Lib.hid hT
  have HC := Lib.hid (cut22_of s0 300 w hs0 (by decide))
  have hs := cut22_le s0 300
  generalize cut22 s0 300 = s at *
  have HP := Lib.hid (parse_of s w (by omega) hn hT)
  have HR := Lib.hid fun v => rparse_of s v (by omega)
  clear hn hT
  go_enter Tryd.func4, Tryd.ntmps4
  go_wp2_with fail
  refine HC.out.mono ?_; rintro e w0 ⟨rfl, rfl⟩
  go_wp2_with fail
  refine HP.out.mono ?_
  rintro e w1 ⟨hb1, he⟩
  have HB1 := Lib.hid hb1
  clear hb1
  cases hpa : parse s with
  | none =>
    rw [hpa] at he
    subst he
    have HPA := Lib.hid hpa
    clear hpa
    go_wp2_with fail
    refine (HR.out w1).mono ?_
    rintro e w2 ⟨hb2, he⟩
    rw [HPA.out] at he
    subst he
    have HB2 := Lib.hid (HB1.out.trans (hb2.mono HB1.out.size))
    clear hb2
    go_wp2_with fail
    refine (nsame [] [] (Sl.none w2) (Sl.none w2) (by decide)).mono ?_
    rintro e w3 ⟨rfl, hb3⟩
    have HB3 := Lib.hid (HB2.out.trans (hb3.mono HB2.out.size))
    clear hb3
    rw [show decide (([] : List Int) = []) = true from rfl]
    go_wp2_with fail
    refine (awake22_of w3 (HN.out.below HB3.out) (HT.out.below HB3.out)).mono ?_
    rintro e w4 ⟨rfl, hb4⟩
    have HB4 := Lib.hid (HB3.out.trans (hb4.mono HB3.out.size))
    clear hb4
    go_wp2_with fail
    go_ret
    exact ⟨rfl, HB4.out⟩
  | some l =>
    rw [hpa] at he
    obtain ⟨a, c, rfl, hsl⟩ := he
    have HPA := Lib.hid hpa
    have hln := parse_len hpa
    have HS1 := Lib.hid hsl
    clear hpa hsl
    go_wp2_with fail
    refine (HR.out w1).mono ?_
    rintro e w2 ⟨hb2, he⟩
    rw [HPA.out] at he
    obtain ⟨a2, c2, rfl, hsl2⟩ := he
    have HS2 := Lib.hid hsl2
    have HS12 := Lib.hid (HS1.out.below hb2)
    have HB2 := Lib.hid (HB1.out.trans (hb2.mono HB1.out.size))
    clear hb2 hsl2
    go_wp2_with fail
    refine (nsame l l HS12.out HS2.out (by omega)).mono ?_
    rintro e w3 ⟨rfl, hb3⟩
    have HB3 := Lib.hid (HB2.out.trans (hb3.mono HB2.out.size))
    have HS13 := Lib.hid (HS12.out.below hb3)
    clear hb3
    rw [show decide (l = l) = true from decide_eq_true rfl]
    go_wp2_with fail
    refine (print_of l HS13.out (by omega) (HN.out.below HB3.out)).mono ?_
    rintro e w4 ⟨rfl, hb4⟩
    have HB4 := Lib.hid (HB3.out.trans (hb4.mono HB3.out.size))
    clear hb4
    rw [parse_prt s l HPA.out]
    have e3 : (s.toList == s.toList) = true := by simp
    go_wp2_with fail
    refine (awake22_of w4 (HN.out.below HB4.out) (HT.out.below HB4.out)).mono ?_
    rintro e w5 ⟨rfl, hb5⟩
    have HB5 := Lib.hid (HB4.out.trans (hb5.mono HB4.out.size))
    clear hb5
    go_wp2_with fail
    go_ret
    exact ⟨by simp, HB5.out⟩

end Go.Proofs.YtkendmlbmdhnaaaDoor
