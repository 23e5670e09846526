/-
  like, the example of layer 20, and the law LeafNil, at this seat's numbers.
-/
import Derived.Test.YtnjkobljcgjadaaLfI
namespace Go.Proofs.Ytnjkobljcgjadaa
open Go Go.RowKit
set_option linter.unusedVariables false

set_option maxRecDepth 100000 in
set_option maxHeartbeats 4000000 in
theorem awake_of (w : World) : Calls Try.prog 10 #[] w fun e w' => e = .returned (.bool true) ∧ Below w.heap.size w w' := by
  have hs : Sl (w.alloc (.cells #[.int .i64 5, .int .i64 2, .int .i64 9] 3)) (some ⟨w.heap.size, 0, none⟩) 3 (nums [5, 2, 9]) := Sl.new (T := 3) (fr := (0, 0)) (heap_alloc_new _ _) (by decide) (nums_one [5, 2, 9])
  have HN := Lib.hid (new_of (l := [5, 2, 9]) hs (by decide) (by intro x hx; simp at hx; rcases hx with rfl | rfl | rfl <;> (unfold Wf; decide)))
  have b0 := Lib.hid (t_al w (.cells #[.int .i64 5, .int .i64 2, .int .i64 9] 3))
  have hset : setL [5, 2, 9] = [2, 5, 9] := by decide
  clear hs
  go_enter Try.func10, Try.ntmps10
  go_wp2_with fail
  refine HN.out.mono ?_; rintro e w1 ⟨q, t, R, rfl, hq, hp, hba, hb⟩
  rw [hset] at hp
  have hrise : Rise [2, 5, 9] := by unfold Rise; decide
  have hheap := hq.heap.1
  have hl : R.length = 3 := hp.length_eq
  have hh := head_eq hp hrise hheap
  have ho := other_eq hp hrise hheap 2
  have hg2 : gN [2, 5, 9] 0 = 2 := rfl
  have ho2 : otherS [2, 5, 9] 2 = (5, true) := by decide
  rw [hg2] at hh
  rw [ho2] at ho
  have HB1 := Lib.hid (b0.out.trans (hb.mono b0.out.size))
  have HT := top_of (v := pbox q) (.inr ⟨q, t, rfl, hq⟩) (by omega)
  rw [hh, hl] at HT
  have HT := Lib.hid HT
  have HQ := Lib.hid hq
  have HO := Lib.hid ho
  have HL := Lib.hid hl
  clear hq hp hba hb hl hh ho hheap HN
  go_wp2_with fail
  refine HT.out.mono ?_; rintro e w2 ⟨rfl, hb2⟩
  have hq2 := HQ.out.below hb2
  have HO2 := other_of (v := pbox q) (.inr ⟨q, t, rfl, hq2⟩) (by rw [HL.out]; decide) 2
  rw [HO.out] at HO2
  have HO2 := Lib.hid HO2
  have HQ2 := Lib.hid hq2
  have HB2 := Lib.hid (HB1.out.trans (hb2.mono HB1.out.size))
  clear hb2 HT hq2
  go_wp2_with fail
  refine HO2.out.mono ?_; rintro e w3 ⟨rfl, hb3⟩
  have HLn := len_of (v := pbox q) (.inr ⟨q, t, rfl, HQ2.out.below hb3⟩)
  rw [HL.out] at HLn
  have HLn := Lib.hid HLn
  have HB3 := Lib.hid (HB2.out.trans (hb3.mono HB2.out.size))
  clear hb3 HO2
  go_wp2_with fail
  refine HLn.out.mono ?_; rintro e w4 ⟨rfl, hb4⟩
  have HB4 := Lib.hid (HB3.out.trans (hb4.mono HB3.out.size))
  clear hb4 HLn
  go_wp2_with fail
  go_ret
  exact ⟨rfl, HB4.out⟩

set_option maxRecDepth 100000 in
set_option maxHeartbeats 8000000 in
theorem like_of {w : World} {q : Nat} {t : Qt} {R l : List Int} {a : Option Addr} {c : Nat} (hq : QIn w q t R) (hp : R.Perm l) (hr : Rise l) (hs : Sl w a c (nums l)) (hl : l.length ≤ 1000000) {x : Int} (wx : Wf x) :
    Calls Try.prog 8 #[pbox q, .slice a l.length c, .int .i64 x] w fun e w' => e = .returned (.bool true) ∧ Below w.heap.size w w' := by
  have hheap := hq.heap.1
  have hlen := hp.length_eq
  have HT := top_of (v := pbox q) (.inr ⟨q, t, rfl, hq⟩) (by omega)
  rw [head_eq hp hr hheap, hlen] at HT
  have HT := Lib.hid HT
  have HQ := Lib.hid hq
  have HS := Lib.hid hs
  have HE := Lib.hid (other_eq hp hr hheap x)
  have HM : Hid (decide (x ∈ R) = decide (x ∈ l)) := Lib.hid (by simp [hp.mem_iff])
  have HSrt := Lib.hid (srt_eq hp hr)
  have HLen := Lib.hid hlen
  obtain ⟨n, hn⟩ : ∃ n, l.length = n := ⟨_, rfl⟩
  have HN := Lib.hid hn
  obtain ⟨y, hy⟩ : ∃ y, gN l 0 = y := ⟨_, rfl⟩
  have HY := Lib.hid hy
  rw [hn] at hl ⊢
  rw [hn, hy] at HT
  -- the first tests
  have HC : Hid ((n = 0 ∧ y = 0) ∨ (0 < n ∧ ∃ g o, a = some ⟨g, o, none⟩ ∧ ∀ w', Below w.heap.size w w' → w'.cell? ⟨g, o, none⟩ = some (.int .i64 y))) := Lib.hid (by
    rcases Nat.eq_zero_or_pos n with h0 | h0
    · have : l = [] := List.eq_nil_of_length_eq_zero (by omega)
      subst this
      exact .inl ⟨h0, hy.symm⟩
    · obtain ⟨g, o, e⟩ := hs.numsome (by omega)
      refine .inr ⟨h0, g, o, e, fun w' hb => ?_⟩
      subst e
      have := ((hs.below hb).num (k := 0) (x := y) (by rw [gN_at (by omega), hy])).1
      exact this)
  clear hq hp hr hs hheap hlen hn hy
  obtain ⟨ov, hov⟩ : ∃ ov, otherS l x = ov := ⟨_, rfl⟩
  obtain ⟨o1, o2⟩ := ov
  obtain ⟨bx, hbx⟩ : ∃ bx, decide (x ∈ l) = bx := ⟨_, rfl⟩
  have HOV := Lib.hid hov
  have HBX := Lib.hid hbx
  clear hov hbx
  go_enter Try.func8, Try.ntmps8
  go_wp2_with fail
  refine HT.out.mono ?_; rintro e w1 ⟨rfl, hb1⟩
  have HB1 := Lib.hid hb1
  have HR1 := rother_of (HS.out.below hb1) (by rw [HN.out]; exact hl) x
  rw [HOV.out, HN.out] at HR1
  have HR1 := Lib.hid HR1
  clear hb1 HT
  go_wp2_with fail
  refine HR1.out.mono ?_; rintro e w2 ⟨rfl, rfl⟩
  have HO2 := other_of (v := pbox q) (.inr ⟨q, t, rfl, HQ.out.below HB1.out⟩) (by rw [HLen.out, HN.out]; exact hl) x
  rw [HE.out, HOV.out] at HO2
  have HO2 := Lib.hid HO2
  clear HR1
  go_wp2_with fail
  refine HO2.out.mono ?_; rintro e w3 ⟨rfl, hb3⟩
  have HB3 := Lib.hid (HB1.out.trans (hb3.mono HB1.out.size))
  clear hb3 HO2
  have HLn := len_of (v := pbox q) (.inr ⟨q, t, rfl, HQ.out.below HB3.out⟩)
  rw [HLen.out, HN.out] at HLn
  have HLn := Lib.hid HLn
  have q1 : (o1 == o1) = true := by simp
  have q2 : (o2 == o2) = true := by simp
  have q3 : ((n : Int) == (n : Int)) = true := by simp
  have q4 : (bx == bx) = true := by simp
  have FIN : Hid (∀ w4, Below w.heap.size w w4 → Calls Try.prog 20 #[pbox q, .int .i64 x] w4 fun e w' => e = .returned (.bool bx) ∧ Below w4.heap.size w4 w') := Lib.hid (fun w4 h4 => by
    have := has_of (v := pbox q) (.inr ⟨q, t, rfl, HQ.out.below h4⟩) wx
    rwa [HM.out, HBX.out] at this)
  have FI2 : Hid (∀ w4, Below w.heap.size w w4 → Calls Try.prog 13 #[.slice a n c, .int .i64 x] w4 fun e w' => e = .returned (.bool bx) ∧ w4 = w') := Lib.hid (fun w4 h4 => by
    have := rhas_of (HS.out.below h4) (by rw [HN.out]; exact hl) x
    rwa [HN.out, HBX.out] at this)
  have FI3 : Hid (∀ w4, Below w.heap.size w w4 → Calls Try.prog 11 #[pbox q] w4 fun e w' => ∃ a' c', e = .returned (.slice a' n c') ∧ Sl w' a' c' (nums l) ∧ Below w4.heap.size w4 w') := Lib.hid (fun w4 h4 => by
    refine (all_of (v := pbox q) (.inr ⟨q, t, rfl, HQ.out.below h4⟩) (by rw [HLen.out, HN.out]; exact hl)).mono ?_
    rintro e w' ⟨a', c', rfl, ho, hb⟩
    rw [HSrt.out, HLen.out] at ho
    rw [HLen.out, HN.out]
    exact ⟨a', c', rfl, by rw [← nums_len l] at ho; exact Sl.own ho (nums_one l), hb⟩)
  have FI4 : Hid (∀ w4 a' c', Below w.heap.size w w4 → Sl w4 a' c' (nums l) → Calls Try.prog 14 #[.slice a' n c', .slice a n c] w4 fun e w' => e = .returned (.bool true) ∧ Below w4.heap.size w4 w') := Lib.hid (fun w4 a' c' h4 hs => by
    have := nsame l l hs (HS.out.below h4) (by rw [HN.out]; exact hl)
    rw [decide_eq_true (Eq.refl l), HN.out] at this
    exact this)
  rcases HC.out with ⟨rfl, rfl⟩ | ⟨hn0, g, o, rfl, hcell⟩
  · have z0 : decide (0 < 0) = false := by decide
    have z1 : ((0 : Int) == 0) = true := by decide
    clear HC
    go_wp2_with fail
    refine HLn.out.mono ?_; rintro e w4 ⟨rfl, hb4⟩
    have HB4 := Lib.hid (HB3.out.trans (hb4.mono HB3.out.size))
    have G1 := Lib.hid (FIN.out w4 HB4.out)
    clear hb4 HLn FIN
    go_wp2_with fail
    refine G1.out.mono ?_; rintro e w5 ⟨rfl, hb5⟩
    have HB5 := Lib.hid (HB4.out.trans (hb5.mono HB4.out.size))
    have G2 := Lib.hid (FI2.out w5 HB5.out)
    clear hb5 G1 FI2
    go_wp2_with fail
    refine G2.out.mono ?_; rintro e w6 ⟨rfl, rfl⟩
    have G3 := Lib.hid (FI3.out w5 HB5.out)
    clear G2 FI3
    go_wp2_with fail
    refine G3.out.mono ?_; rintro e w7 ⟨a', c', rfl, hs7, hb7⟩
    have HB7 := Lib.hid (HB5.out.trans (hb7.mono HB5.out.size))
    have G4 := Lib.hid (FI4.out w7 a' c' HB7.out hs7)
    clear hb7 G3 FI4 hs7
    go_wp2_with fail
    refine G4.out.mono ?_; rintro e w8 ⟨rfl, hb8⟩
    have HB8 := Lib.hid (HB7.out.trans (hb8.mono HB7.out.size))
    clear hb8 G4
    go_wp2_with fail
    go_ret
    exact ⟨rfl, HB8.out⟩
  · have z0 : decide (0 < n) = true := decide_eq_true hn0
    have z1 : decide ((n : Int) > 0) = true := decide_eq_true (by omega)
    have z2 : decide ((0 : Int) < (n : Int)) = true := decide_eq_true (by omega)
    have z3 : (y != y) = false := by simp
    have z4 : (y == y) = true := by simp
    have c0 := hcell w3 HB3.out
    have e1 : (0 : Int) < (n : Int) := by omega
    clear HC hcell
    go_wp2_with fail
    refine HLn.out.mono ?_; rintro e w4 ⟨rfl, hb4⟩
    have HB4 := Lib.hid (HB3.out.trans (hb4.mono HB3.out.size))
    have G1 := Lib.hid (FIN.out w4 HB4.out)
    clear hb4 HLn FIN
    go_wp2_with fail
    refine G1.out.mono ?_; rintro e w5 ⟨rfl, hb5⟩
    have HB5 := Lib.hid (HB4.out.trans (hb5.mono HB4.out.size))
    have G2 := Lib.hid (FI2.out w5 HB5.out)
    clear hb5 G1 FI2
    go_wp2_with fail
    refine G2.out.mono ?_; rintro e w6 ⟨rfl, rfl⟩
    have G3 := Lib.hid (FI3.out w5 HB5.out)
    clear G2 FI3
    go_wp2_with fail
    refine G3.out.mono ?_; rintro e w7 ⟨a', c', rfl, hs7, hb7⟩
    have HB7 := Lib.hid (HB5.out.trans (hb7.mono HB5.out.size))
    have G4 := Lib.hid (FI4.out w7 a' c' HB7.out hs7)
    clear hb7 G3 FI4 hs7
    go_wp2_with fail
    refine G4.out.mono ?_; rintro e w8 ⟨rfl, hb8⟩
    have HB8 := Lib.hid (HB7.out.trans (hb8.mono HB7.out.size))
    clear hb8 G4
    go_wp2_with fail
    go_ret
    exact ⟨rfl, HB8.out⟩

set_option maxHeartbeats 4000000 in
theorem leafNil_walk (w : World) {n : Int} (wn : Wf n) : Calls Try.prog 5 #[.int .i64 n] w fun e w' => e = .returned (.bool true) ∧ Below w.heap.size w w' := by
  have QN : ∀ w', Qv w' (.pointer none) [] := fun w' => .inl ⟨rfl, rfl⟩
  have e0 : gN [] 0 = 0 := rfl
  have eo : otherH [] n = (0, false) := rfl
  have F1 : Hid (∀ w', Calls Try.prog 16 #[.pointer none] w' fun e w2 => e = .returned (.tuple #[.int .i64 0, .bool false]) ∧ Below w'.heap.size w' w2) := Lib.hid (fun w' => top_of (QN w') (by simp))
  have F2 : Hid (∀ w', Calls Try.prog 12 #[.pointer none] w' fun e w2 => e = .returned (.tuple #[.int .i64 0, .bool false]) ∧ Below w'.heap.size w' w2) := Lib.hid (fun w' => pop_none (QN w'))
  have F3 : Hid (∀ w', Calls Try.prog 17 #[.pointer none, .int .i64 n] w' fun e w2 => e = .returned (.tuple #[.int .i64 0, .bool false]) ∧ Below w'.heap.size w' w2) := Lib.hid (fun w' => other_of (QN w') (by simp) n)
  have F4 : Hid (∀ w', Calls Try.prog 18 #[.pointer none, .int .i64 n] w' fun e w2 => e = .returned (.bool false) ∧ w2 = w') := Lib.hid (fun w' => put_nil n)
  have F5 : Hid (∀ w', Calls Try.prog 19 #[.pointer none, .int .i64 n] w' fun e w2 => e = .returned (.bool false) ∧ Below w'.heap.size w' w2) := Lib.hid (fun w' => drop_not (QN w') wn (by simp))
  have F6 : Hid (∀ w', Calls Try.prog 20 #[.pointer none, .int .i64 n] w' fun e w2 => e = .returned (.bool false) ∧ Below w'.heap.size w' w2) := Lib.hid (fun w' => by have := has_of (QN w') wn; simpa using this)
  have F7 : Hid (∀ w', Calls Try.prog 15 #[.pointer none] w' fun e w2 => e = .returned (.int .i64 0) ∧ Below w'.heap.size w' w2) := Lib.hid (fun w' => len_of (QN w'))
  have F8 : Hid (∀ w', Calls Try.prog 11 #[.pointer none] w' fun e w2 => ∃ a c, e = .returned (.slice a 0 c) ∧ Below w'.heap.size w' w2) := Lib.hid (fun w' => (all_of (QN w') (by simp)).mono (fun e w2 ⟨a, c, h1, _, h2⟩ => ⟨a, c, h1, h2⟩))
  clear QN e0 eo
  go_enter Try.func5, Try.ntmps5
  go_wp2_with fail
  refine (F1.out _).mono ?_; rintro e w1 ⟨rfl, hb⟩
  have B1 := Lib.hid hb
  clear hb F1
  go_wp2_with fail
  refine (F2.out _).mono ?_; rintro e w2 ⟨rfl, hb⟩
  have B2 := Lib.hid (B1.out.trans (hb.mono B1.out.size))
  clear hb F2
  go_wp2_with fail
  refine (F3.out _).mono ?_; rintro e w3 ⟨rfl, hb⟩
  have B3 := Lib.hid (B2.out.trans (hb.mono B2.out.size))
  clear hb F3
  go_wp2_with fail
  refine (F4.out _).mono ?_; rintro e w4 ⟨rfl, rfl⟩
  go_wp2_with fail
  refine (F5.out _).mono ?_; rintro e w5 ⟨rfl, hb⟩
  have B5 := Lib.hid (B3.out.trans (hb.mono B3.out.size))
  clear hb F5
  go_wp2_with fail
  refine (F6.out _).mono ?_; rintro e w6 ⟨rfl, hb⟩
  have B6 := Lib.hid (B5.out.trans (hb.mono B5.out.size))
  clear hb F6
  go_wp2_with fail
  refine (F7.out _).mono ?_; rintro e w7 ⟨rfl, hb⟩
  have B7 := Lib.hid (B6.out.trans (hb.mono B6.out.size))
  clear hb F7
  go_wp2_with fail
  refine (F8.out _).mono ?_; rintro e w8 ⟨a, c, rfl, hb⟩
  have B8 := Lib.hid (B7.out.trans (hb.mono B7.out.size))
  clear hb F8
  go_wp2_with fail
  refine (awake_of _).mono ?_; rintro e w9 ⟨rfl, hb⟩
  have B9 := Lib.hid (B8.out.trans (hb.mono B8.out.size))
  clear hb
  go_wp2_with fail
  go_ret
  exact ⟨rfl, B9.out⟩
theorem leafNil_law (n : Int) (w : World) (h1 : -9223372036854775808 ≤ n) (h2 : n ≤ 9223372036854775807) : Calls Try.prog 5 #[.int .i64 n] w fun e w' => e = .returned (.bool true) ∧ Below w.heap.size w w' := leafNil_walk w (WalkArith.wf_i64 (by omega))
end Go.Proofs.Ytnjkobljcgjadaa
