/-
  FeedEnds, at this seat's numbers.
-/
import Derived.Test.YtdkgnmomkimpoaaFeG
namespace Go.Proofs.Ytdkgnmomkimpoaa
open Go Go.RowKit
set_option linter.unusedVariables false

theorem FdS.ne {w : World} {B f room : Nat} {S : Fs} (H : FdS w B f room S) : ∀ p ∈ S.ps, p ≠ [] := by
  obtain ⟨h, c, v, L, HF, h1, _⟩ := H
  intro p hp
  rw [← h1] at hp
  obtain ⟨x, hx, rfl⟩ := List.mem_map.1 hp
  exact (HF.pks x hx).2
/-- What Next comes to where one key waits. -/
theorem next_ends {w : World} {B f room : Nat} {S : Fs} (H : FdS w B f room S) (hty : S.ty = [2]) :
    ((nextF S).1 = (2, false, 0) ∧ True) ∨ (S.fu = 0 ∧ (nextF S).1 = (0, false, 12) ∧ (nextF S).2.ps = [] ∧ True) ∨ ∃ x, 0 < S.fu ∧ (nextF S).1 = (x, true, 0) ∧ (nextF S).2.ty = [2] ∧ (nextF S).2.fu = S.fu - 1 := by
  have hne := H.ne
  obtain ⟨ty, ps, fu⟩ := S
  simp only at hty hne
  subst hty
  rcases List.eq_nil_or_concat ps with rfl | ⟨P, l, rfl⟩
  · exact .inl ⟨rfl, trivial⟩
  · rw [List.concat_eq_append] at *
    cases l with
    | nil => exact absurd rfl (hne [] (by simp))
    | cons x t =>
      unfold nextF
      simp only [List.reverse_append, List.reverse_cons, List.reverse_nil, List.nil_append, List.cons_append]
      by_cases h0 : fu = 0
      · rw [if_pos h0]; exact .inr (.inl ⟨h0, rfl, rfl, trivial⟩)
      · rw [if_neg h0]; exact .inr (.inr ⟨x, by show 0 < fu; omega, rfl, rfl, rfl⟩)

set_option maxRecDepth 100000 in
set_option maxHeartbeats 8000000 in
theorem feedEnds_few (a : Option Addr) (k : Nat) (l : List Int) (A : Int) (w : World) (Hl : Sl w a k (nums l)) (hA0 : 0 ≤ A) (hA1 : A ≤ 255) (h100 : l.length ≤ 100) :
    Calls Try.prog 4 #[.slice a l.length k, .int .u8 A] w fun e w' => e = .returned (.bool true) ∧ Below w.heap.size w w' := by
  have HN := Lib.hid (fnew 2 w)
  have HS := Lib.hid Hl
  have HA := Lib.hid (fun w => awake23_of w)
  obtain ⟨ln, hlen⟩ : ∃ n, l.length = n := ⟨_, rfl⟩
  rw [hlen]
  have hln : ln ≤ 100 := by omega
  clear Hl
  go_enter Try.func4, Try.ntmps4
  go_wp2_with fail
  refine HN.out.mono ?_; rintro e w1 ⟨f, rfl, F1, b1⟩
  have HT : Hid (Calls Try.prog 17 #[pbox f, .int .i64 1] w1 fun e w' => e = .returned (.bool true) ∧ FdS w' w.heap.size f 2 ⟨[1], [], 200⟩ ∧ FMv w.heap.size w1 w') := Lib.hid (ftype F1 1)
  have b1 := Lib.hid b1
  clear F1
  go_wp2_with fail
  refine HT.out.mono ?_; rintro e w2 ⟨rfl, F2, m2⟩
  have HT2 : Hid (Calls Try.prog 17 #[pbox f, .int .i64 2] w2 fun e w' => e = .returned (.bool true) ∧ FdS w' w.heap.size f 2 ⟨[1, 2], [], 200⟩ ∧ FMv w.heap.size w2 w') := Lib.hid (ftype F2 2)
  have b2 := Lib.hid (b1.out.trans m2.low)
  clear F2 m2
  go_wp2_with fail
  refine HT2.out.mono ?_; rintro e w3 ⟨rfl, F3, m3⟩
  have HX3 : Hid (Calls Try.prog 18 #[pbox f] w3 fun e w' => e = .returned (.tuple #[.int .i64 1, .bool false, .int .i64 0]) ∧ FdS w' w.heap.size f 2 ⟨[2], [], 200⟩ ∧ FMv w.heap.size w3 w') := Lib.hid (fnext F3)
  have b3 := Lib.hid (b2.out.trans m3.low)
  clear F3 m3
  go_wp2_with fail
  refine HX3.out.mono ?_; rintro e w4 ⟨rfl, F4, m4⟩
  have b4 := Lib.hid (b3.out.trans m4.low)
  have HP4 := Lib.hid (fpush F4 (HS.out.below b4.out) (by omega) b4.out.size)
  rw [hlen] at HP4
  clear F4 m4
  go_wp2_with fail
  refine HP4.out.mono ?_; rintro e w5 ⟨rfl, F5, m5⟩
  have b5 := Lib.hid (b4.out.trans m5.low)
  have HF5 := Lib.hid F5
  clear F5 m5
  go_wp2_with fail
  go_loopw [9, 10] (fun x y wr => ∃ (j : Nat) (S : Fs), x = .int .i64 j ∧ y = .int .i64 j ∧ FdS wr w.heap.size f 2 S ∧ S.ty = [2] ∧ S.fu + j = 200 ∧ Below w.heap.size w wr) (fun x _ _ => 201 - (intOf x).toNat)
  case atStart => exact ⟨0, _, rfl, rfl, HF5.out, rfl, rfl, b5.out⟩
  case round =>
    obtain ⟨j, S, rfl, rfl, FS, hty, hfu, bw⟩ := hrel
    have hj : j ≤ 200 := by omega
    have HX := fnext FS
    rcases next_ends FS hty with ⟨e1, e2⟩ | ⟨e0, e1, e2, e3⟩ | ⟨x, e0, e1, e2, e3⟩
    · rw [e1] at HX
      have HX := Lib.hid HX
      have bw := Lib.hid bw
      clear FS hty hfu e1 e2
      go_wp2_with fail
      refine HX.out.mono ?_; rintro e w6 ⟨rfl, F6, m6⟩
      have b6 := Lib.hid (bw.out.trans m6.low)
      clear F6 m6
      unfold triV
      go_wp2_with fail
      refine (HA.out _).mono ?_; rintro e w7 ⟨rfl, b7⟩
      have b7 := Lib.hid (b6.out.trans (b7.mono b6.out.size))
      go_wp2_with fail
      go_ret
      exact ⟨rfl, b7.out⟩
    · have ej : j = 200 := by omega
      subst ej
      rw [e1] at HX
      have HX := Lib.hid HX
      have bw := Lib.hid bw
      clear FS hty hfu e1 e0
      go_wp2_with fail
      refine HX.out.mono ?_; rintro e w6 ⟨rfl, F6, m6⟩
      have b6 := Lib.hid (bw.out.trans m6.low)
      have HK := Lib.hid (fpacks F6)
      rw [e2] at HK
      clear F6 m6 e2 e3
      unfold triV
      go_wp2_with fail
      refine HK.out.mono ?_; rintro e w6' ⟨rfl, rfl⟩
      go_wp2_with fail
      refine (HA.out _).mono ?_; rintro e w7 ⟨rfl, b7⟩
      have b7 := Lib.hid (b6.out.trans (b7.mono b6.out.size))
      go_wp2_with fail
      go_ret
      exact ⟨rfl, b7.out⟩
    · rw [e1] at HX
      have HX := Lib.hid HX
      have bw := Lib.hid bw
      have E2 := Lib.hid e2
      have E3 := Lib.hid e3
      clear FS hty e1 e2 e3
      go_wp2_with fail
      refine HX.out.mono ?_; rintro e w6 ⟨rfl, F6, m6⟩
      have b6 := Lib.hid (bw.out.trans m6.low)
      have HP := Lib.hid (fpush F6 (HS.out.below b6.out) (by omega) b6.out.size)
      have HF6 := Lib.hid F6
      rw [hlen] at HP
      clear F6 m6
      unfold triV
      go_wp2_with fail
      · refine HP.out.mono ?_; rintro e w7 ⟨rfl, F7, m7⟩
        have HF7 := Lib.hid F7
        have b7 := Lib.hid (b6.out.trans m7.low)
        clear F7 m7
        go_wp2_with fail
        refine ⟨⟨j + 1, _, rfl, rfl, HF7.out, E2.out, by have := E3.out; show (nextF S).2.fu + (j + 1) = 200; omega, b7.out⟩, by simp [intOf]; omega⟩
      · refine ⟨⟨j + 1, _, rfl, rfl, HF6.out, E2.out, by have := E3.out; omega, b6.out⟩, by simp [intOf]; omega⟩

set_option maxRecDepth 100000 in
set_option maxHeartbeats 8000000 in
theorem feedEnds_many (a : Option Addr) (k m : Nat) (l : List Int) (A : Int) (w : World) (Hl : Sl w a k (nums l)) (hA0 : 0 ≤ A) (hA1 : A ≤ 255) (hlen : l.length = 100) (hm : 100 < m) (hmk : m ≤ k) (hk : k ≤ maxLen) :
    Calls Try.prog 4 #[.slice a m k, .int .u8 A] w fun e w' => e = .returned (.bool true) ∧ Below w.heap.size w w' := by
  have HN := Lib.hid (fnew 2 w)
  have HS := Lib.hid Hl
  have HA := Lib.hid (fun w => awake23_of w)
  obtain ⟨g, o, rfl⟩ := Hl.numsome (by omega)
  clear Hl
  go_enter Try.func4, Try.ntmps4
  go_wp2_with fail
  refine HN.out.mono ?_; rintro e w1 ⟨f, rfl, F1, b1⟩
  have HT : Hid (Calls Try.prog 17 #[pbox f, .int .i64 1] w1 fun e w' => e = .returned (.bool true) ∧ FdS w' w.heap.size f 2 ⟨[1], [], 200⟩ ∧ FMv w.heap.size w1 w') := Lib.hid (ftype F1 1)
  have b1 := Lib.hid b1
  clear F1
  go_wp2_with fail
  refine HT.out.mono ?_; rintro e w2 ⟨rfl, F2, m2⟩
  have HT2 : Hid (Calls Try.prog 17 #[pbox f, .int .i64 2] w2 fun e w' => e = .returned (.bool true) ∧ FdS w' w.heap.size f 2 ⟨[1, 2], [], 200⟩ ∧ FMv w.heap.size w2 w') := Lib.hid (ftype F2 2)
  have b2 := Lib.hid (b1.out.trans m2.low)
  clear F2 m2
  go_wp2_with fail
  refine HT2.out.mono ?_; rintro e w3 ⟨rfl, F3, m3⟩
  have HX3 : Hid (Calls Try.prog 18 #[pbox f] w3 fun e w' => e = .returned (.tuple #[.int .i64 1, .bool false, .int .i64 0]) ∧ FdS w' w.heap.size f 2 ⟨[2], [], 200⟩ ∧ FMv w.heap.size w3 w') := Lib.hid (fnext F3)
  have b3 := Lib.hid (b2.out.trans m3.low)
  clear F3 m3
  go_wp2_with fail
  refine HX3.out.mono ?_; rintro e w4 ⟨rfl, F4, m4⟩
  have b4 := Lib.hid (b3.out.trans m4.low)
  have HP4 := Lib.hid (fpush F4 (HS.out.below b4.out) (by omega) b4.out.size)
  rw [hlen] at HP4
  clear F4 m4
  go_wp2_with fail
  refine HP4.out.mono ?_; rintro e w5 ⟨rfl, F5, m5⟩
  have b5 := Lib.hid (b4.out.trans m5.low)
  have HF5 := Lib.hid F5
  clear F5 m5
  go_wp2_with fail
  go_loopw [9, 10] (fun x y wr => ∃ (j : Nat) (S : Fs), x = .int .i64 j ∧ y = .int .i64 j ∧ FdS wr w.heap.size f 2 S ∧ S.ty = [2] ∧ S.fu + j = 200 ∧ Below w.heap.size w wr) (fun x _ _ => 201 - (intOf x).toNat)
  case atStart => exact ⟨0, _, rfl, rfl, HF5.out, rfl, rfl, b5.out⟩
  case round =>
    obtain ⟨j, S, rfl, rfl, FS, hty, hfu, bw⟩ := hrel
    have hj : j ≤ 200 := by omega
    have HX := fnext FS
    rcases next_ends FS hty with ⟨e1, e2⟩ | ⟨e0, e1, e2, e3⟩ | ⟨x, e0, e1, e2, e3⟩
    · rw [e1] at HX
      have HX := Lib.hid HX
      have bw := Lib.hid bw
      clear FS hty hfu e1 e2
      go_wp2_with fail
      refine HX.out.mono ?_; rintro e w6 ⟨rfl, F6, m6⟩
      have b6 := Lib.hid (bw.out.trans m6.low)
      clear F6 m6
      unfold triV
      go_wp2_with fail
      refine (HA.out _).mono ?_; rintro e w7 ⟨rfl, b7⟩
      have b7 := Lib.hid (b6.out.trans (b7.mono b6.out.size))
      go_wp2_with fail
      go_ret
      exact ⟨rfl, b7.out⟩
    · have ej : j = 200 := by omega
      subst ej
      rw [e1] at HX
      have HX := Lib.hid HX
      have bw := Lib.hid bw
      clear FS hty hfu e1 e0
      go_wp2_with fail
      refine HX.out.mono ?_; rintro e w6 ⟨rfl, F6, m6⟩
      have b6 := Lib.hid (bw.out.trans m6.low)
      have HK := Lib.hid (fpacks F6)
      rw [e2] at HK
      clear F6 m6 e2 e3
      unfold triV
      go_wp2_with fail
      refine HK.out.mono ?_; rintro e w6' ⟨rfl, rfl⟩
      go_wp2_with fail
      refine (HA.out _).mono ?_; rintro e w7 ⟨rfl, b7⟩
      have b7 := Lib.hid (b6.out.trans (b7.mono b6.out.size))
      go_wp2_with fail
      go_ret
      exact ⟨rfl, b7.out⟩
    · rw [e1] at HX
      have HX := Lib.hid HX
      have bw := Lib.hid bw
      have E2 := Lib.hid e2
      have E3 := Lib.hid e3
      clear FS hty e1 e2 e3
      go_wp2_with fail
      refine HX.out.mono ?_; rintro e w6 ⟨rfl, F6, m6⟩
      have b6 := Lib.hid (bw.out.trans m6.low)
      have HP := Lib.hid (fpush F6 (HS.out.below b6.out) (by omega) b6.out.size)
      have HF6 := Lib.hid F6
      rw [hlen] at HP
      clear F6 m6
      unfold triV
      go_wp2_with fail
      · refine HP.out.mono ?_; rintro e w7 ⟨rfl, F7, m7⟩
        have HF7 := Lib.hid F7
        have b7 := Lib.hid (b6.out.trans m7.low)
        clear F7 m7
        go_wp2_with fail
        refine ⟨⟨j + 1, _, rfl, rfl, HF7.out, E2.out, by have := E3.out; show (nextF S).2.fu + (j + 1) = 200; omega, b7.out⟩, by simp [intOf]; omega⟩
      · refine ⟨⟨j + 1, _, rfl, rfl, HF6.out, E2.out, by have := E3.out; omega, b6.out⟩, by simp [intOf]; omega⟩

theorem feedEnds_law (a : Option Addr) (c : Nat) (l : List Int) (A : Int) (w : World) (h : Sl w a c (l.map (Value.int .i64)) ∧ ∀ y ∈ l, -9223372036854775808 ≤ y ∧ y ≤ 9223372036854775807) (hA0 : 0 ≤ A) (hA1 : A ≤ 255) :
    Calls Try.prog 4 #[.slice a l.length c, .int .u8 A] w fun e w' => e = .returned (.bool true) ∧ Below w.heap.size w w' := by
  have hs : Sl w a c (nums l) := h.1
  by_cases h1 : l.length ≤ 100
  · exact feedEnds_few a c l A w hs hA0 hA1 h1
  · have ht := hs.take 100
    rw [nums_take] at ht
    have h2 := hs.cap
    rw [nums_len] at h2
    exact feedEnds_many a c l.length (l.take 100) A w ht hA0 hA1 (by rw [List.length_take]; omega) (by omega) h2 hs.capm
end Go.Proofs.Ytdkgnmomkimpoaa
