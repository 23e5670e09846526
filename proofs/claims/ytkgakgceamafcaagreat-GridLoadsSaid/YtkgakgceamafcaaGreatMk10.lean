/-
  Texts of this seat, put together (a claim holds few texts): ScA, ScB, ScC, ScF.
-/
import Derived.Test.YtkgakgceamafcaaGreatMk9

namespace Go.Proofs.YtkgakgceamafcaaGreat
open Go Go.RowKit
set_option linter.unusedVariables false

theorem rd_at {w : World} {a : Option Addr} {l : List UInt8} (h : Rd w 1 a l.length (bc l)) {i : Nat} (hi : i < l.length) : ∃ b off, a = some ⟨b, off, none⟩ ∧ b < w.heap.size ∧ w.cell? ⟨b, off + i, none⟩ = some (.int .u8 (lb l i)) := by
  obtain ⟨b, off, rfl, hb, hc⟩ := h.2 (by omega)
  refine ⟨b, off, rfl, hb, hc i _ ?_⟩
  unfold bc lb
  rw [List.getElem?_map, List.getElem?_eq_getElem hi, List.getD_eq_getElem?_getD, List.getElem?_eq_getElem hi]; rfl
theorem lb_lo (l : List UInt8) (i : Nat) : 0 ≤ lb l i := by unfold lb; omega
theorem lb_hi (l : List UInt8) (i : Nat) : lb l i < 256 := by unfold lb; have := (l.getD i 0).toNat_lt; omega

theorem isMark_yes (x : Int) (h : mkB x = true) (w : World) : Calls Tryz.prog 196 #[.int .u8 x] w fun e w' => e = .returned (.bool true) ∧ w = w' := by
  unfold mkB at h
  simp only [decide_eq_true_eq] at h
  rcases h with rfl | rfl | rfl
  all_goals
    go_enter Tryz.func196, Tryz.ntmps196
    go_wp2_with fail
    go_ret
    exact ⟨rfl, rfl⟩
theorem isMark_no (x : Int) (h : mkB x = false) (w : World) : Calls Tryz.prog 196 #[.int .u8 x] w fun e w' => e = .returned (.bool false) ∧ w = w' := by
  unfold mkB at h
  simp only [decide_eq_false_iff_not, not_or] at h
  have d1 : (x == 44) = false := by simpa using h.1
  have d2 : (x == 13) = false := by simpa using h.2.1
  have d3 : (x == 10) = false := by simpa using h.2.2
  clear h
  go_enter Tryz.func196, Tryz.ntmps196
  go_wp2_with fail
  go_ret
  exact ⟨rfl, rfl⟩
theorem isQuote_yes (x : Int) (h : x = 34) (w : World) : Calls Tryz.prog 192 #[.int .u8 x] w fun e w' => e = .returned (.bool true) ∧ w = w' := by
  subst h
  go_enter Tryz.func192, Tryz.ntmps192
  go_wp2_with fail
  go_ret
  exact ⟨rfl, rfl⟩
theorem isQuote_no (x : Int) (h : x ≠ 34) (w : World) : Calls Tryz.prog 192 #[.int .u8 x] w fun e w' => e = .returned (.bool false) ∧ w = w' := by
  have d1 : (x == 34) = false := by simpa using h
  clear h
  go_enter Tryz.func192, Tryz.ntmps192
  go_wp2_with fail
  go_ret
  exact ⟨rfl, rfl⟩

set_option maxHeartbeats 800000 in
theorem until_mark {w : World} {a : Option Addr} {c : Nat} {l : List UInt8} (hr : Rd w 1 a l.length (bc l)) (hl : l.length ≤ 1000000) (i : Nat) (hi : i ≤ l.length) :
    Calls Tryz.prog 193 #[.slice a l.length c, .int .i64 i, .func (.func 196) #[] #[]] w fun e w' => e = .returned (.int .i64 (till l i)) ∧ w = w' := by
  have HR := Lib.hid hr
  clear hr
  go_enter Tryz.func193, Tryz.ntmps193
  go_wp2_with fail
  go_loop [1] (fun v => ∃ k : Nat, k ≤ l.length ∧ v = .int .i64 k ∧ till l k = till l i) (fun v => l.length - (intOf v).toNat)
  case atStart => exact ⟨i, hi, rfl, rfl⟩
  case round =>
    obtain ⟨k, hk, rfl, ht⟩ := hrel
    have HT := Lib.hid ht
    clear ht
    by_cases hlt : k < l.length
    · have dk : decide (k < l.length) = true := decide_eq_true hlt
      obtain ⟨b, off, rfl, hb, hc⟩ := rd_at HR.out hlt
      by_cases hm : mkB (lb l k) = true
      · have HM := Lib.hid (isMark_yes _ hm)
        have HE := Lib.hid (till_stop (l := l) (i := k) (by rw [mkAt_in hlt]; exact hm))
        clear hm
        generalize lb l k = x at *
        go_wp2_with (go_at_call 196; refine (HM.out _).mono ?_; rintro e w' ⟨rfl, rfl⟩)
        go_ret
        exact ⟨by rw [← HT.out, HE.out] <;> rfl, rfl⟩
      · have hm := Bool.eq_false_iff.2 hm
        have HM := Lib.hid (isMark_no _ hm)
        have HE := Lib.hid (till_step (l := l) (i := k) (by rw [mkAt_in hlt]; exact hm))
        clear hm
        generalize lb l k = x at *
        go_wp2_with (go_at_call 196; refine (HM.out _).mono ?_; rintro e w' ⟨rfl, rfl⟩)
        go_round
        case rel => exact ⟨k + 1, hlt, by go_num, by rw [← HT.out, HE.out]⟩
        case measure => simp [intOf]; omega
    · have dk : decide (k < l.length) = false := decide_eq_false hlt
      have HE := Lib.hid (till_stop (l := l) (i := k) (mkAt_out (by omega)))
      go_wp2_with fail
      go_ret
      exact ⟨by rw [← HT.out, HE.out] <;> rfl, rfl⟩

set_option maxHeartbeats 800000 in
theorem until_quote {w : World} {a : Option Addr} {c : Nat} {l : List UInt8} (hr : Rd w 1 a l.length (bc l)) (hl : l.length ≤ 1000000) (i : Nat) (hi : i ≤ l.length) :
    Calls Tryz.prog 193 #[.slice a l.length c, .int .i64 i, .func (.func 192) #[] #[]] w fun e w' => e = .returned (.int .i64 (untQ l i)) ∧ w = w' := by
  have HR := Lib.hid hr
  clear hr
  go_enter Tryz.func193, Tryz.ntmps193
  go_wp2_with fail
  go_loop [1] (fun v => ∃ k : Nat, k ≤ l.length ∧ v = .int .i64 k ∧ untQ l k = untQ l i) (fun v => l.length - (intOf v).toNat)
  case atStart => exact ⟨i, hi, rfl, rfl⟩
  case round =>
    obtain ⟨k, hk, rfl, ht⟩ := hrel
    have HT := Lib.hid ht
    clear ht
    by_cases hlt : k < l.length
    · have dk : decide (k < l.length) = true := decide_eq_true hlt
      obtain ⟨b, off, rfl, hb, hc⟩ := rd_at HR.out hlt
      by_cases hm : lb l k = 34
      · have HM := Lib.hid (isQuote_yes _ hm)
        have HE := Lib.hid (untQ_stop (l := l) (i := k) (by rw [quAt_in hlt]; simpa using hm))
        clear hm
        generalize lb l k = x at *
        go_wp2_with (go_at_call 192; refine (HM.out _).mono ?_; rintro e w' ⟨rfl, rfl⟩)
        go_ret
        exact ⟨by rw [← HT.out, HE.out] <;> rfl, rfl⟩
      · have HM := Lib.hid (isQuote_no _ hm)
        have HE := Lib.hid (untQ_step (l := l) (i := k) hlt (by rw [quAt_in hlt]; simpa using hm))
        clear hm
        generalize lb l k = x at *
        go_wp2_with (go_at_call 192; refine (HM.out _).mono ?_; rintro e w' ⟨rfl, rfl⟩)
        go_round
        case rel => exact ⟨k + 1, hlt, by go_num, by rw [← HT.out, HE.out]⟩
        case measure => simp [intOf]; omega
    · have dk : decide (k < l.length) = false := decide_eq_false hlt
      have HE := Lib.hid (untQ_end (l := l) (i := k) (by omega))
      go_wp2_with fail
      go_ret
      exact ⟨by rw [← HT.out, HE.out] <;> rfl, rfl⟩

theorem quoteAt_yes {w : World} {a : Option Addr} {c : Nat} {l : List UInt8} (hr : Rd w 1 a l.length (bc l)) (hl : l.length ≤ 1000000) (i : Nat) (h : quAt l i = true) :
    Calls Tryz.prog 170 #[.slice a l.length c, .int .i64 i] w fun e w' => e = .returned (.bool true) ∧ w = w' := by
  obtain ⟨hlt, hq⟩ := quAt_yes h
  obtain ⟨b, off, rfl, hb, hc⟩ := rd_at hr hlt
  have dk : decide (i < l.length) = true := decide_eq_true hlt
  have HM := Lib.hid (isQuote_yes _ hq)
  clear hr h hq
  generalize lb l i = x at *
  go_enter Tryz.func170, Tryz.ntmps170
  go_wp2_with (go_at_call 192; refine (HM.out _).mono ?_; rintro e w' ⟨rfl, rfl⟩)
  go_ret
  exact ⟨rfl, rfl⟩
theorem quoteAt_no {w : World} {a : Option Addr} {c : Nat} {l : List UInt8} (hr : Rd w 1 a l.length (bc l)) (hl : l.length ≤ 1000000) (i : Nat) (h : quAt l i = false) :
    Calls Tryz.prog 170 #[.slice a l.length c, .int .i64 i] w fun e w' => e = .returned (.bool false) ∧ w = w' := by
  by_cases hlt : i < l.length
  · rw [quAt_in hlt] at h
    simp only [decide_eq_false_iff_not] at h
    obtain ⟨b, off, rfl, hb, hc⟩ := rd_at hr hlt
    have dk : decide (i < l.length) = true := decide_eq_true hlt
    have HM := Lib.hid (isQuote_no _ h)
    clear hr h
    generalize lb l i = x at *
    go_enter Tryz.func170, Tryz.ntmps170
    go_wp2_with (go_at_call 192; refine (HM.out _).mono ?_; rintro e w' ⟨rfl, rfl⟩)
    go_ret
    exact ⟨rfl, rfl⟩
  · have dk : decide (i < l.length) = false := decide_eq_false hlt
    clear hr h
    go_enter Tryz.func170, Tryz.ntmps170
    go_wp2_with fail
    go_ret
    exact ⟨rfl, rfl⟩

end Go.Proofs.YtkgakgceamafcaaGreat

namespace Go.Proofs.YtkgakgceamafcaaGreat
open Go Go.RowKit
set_option linter.unusedVariables false

theorem span_of (i j : Nat) (h : i ≤ j) (hj : j ≤ 1000000) (w : World) :
    Calls Tryz.prog 194 #[.int .i64 i, .int .i64 j] w fun e w' => e = .returned (.agg #[.int .i64 i, .int .i64 ((j : Int) - i)]) ∧ Below w.heap.size w w' := by
  go_enter Tryz.func194, Tryz.ntmps194
  go_wp2_with fail
  refine bodyPost_ret (v := .agg #[.int .i64 i, .int .i64 ((j : Int) - i)]) (by simp [results, Tryz.results194, go_sem]) rfl ⟨rfl, ?_⟩
  exact (Below.refl _ _).alloc (Nat.le_refl _) _

set_option maxRecDepth 100000 in
set_option maxHeartbeats 1600000 in
theorem put_of {w : World} {B c : Nat} {a : Option Addr} {l : List (Int × Int)} (ho : w.ownsRow B 59 2 (.slice a l.length c) l.length (spC l)) (hB : B ≤ w.heap.size) (i j : Nat) (hij : i ≤ j) (hj : j ≤ 1000000) (hl : l.length ≤ 1000000) :
    Calls Tryz.prog 195 #[.slice a l.length c, .int .i64 i, .int .i64 j] w fun e w' => ∃ a' c', e = .returned (.slice a' (putL l i j).length c') ∧ w'.ownsRow B 59 2 (.slice a' (putL l i j).length c') (putL l i j).length (spC (putL l i j)) ∧ Below B w w' ∧ w.heap.size ≤ w'.heap.size := by
  unfold putL
  by_cases h : i = j
  · rw [if_pos h]
    subst h
    have HO := Lib.hid ho
    clear ho
    go_enter Tryz.func195, Tryz.ntmps195
    go_wp2_with fail
    go_ret
    exact ⟨_, _, rfl, HO.out, Below.refl _ _, Nat.le_refl _⟩
  · rw [if_neg h]
    obtain ⟨i0, hi0, hz0, hz1, hz2⟩ := info_parts info_span
    have d1 : (i == j) = false := by simpa using h
    have d1' : ((i : Int) == (j : Int)) = false := by simp; omega
    have HS := Lib.hid (span_of i j hij hj)
    have HO := Lib.hid ho
    have HBB := Lib.hid hB
    have hsn := spC_snoc l ((i : Int), (j : Int) - (i : Int))
    have HSN := Lib.hid hsn
    have hln : (l ++ [((i : Int), (j : Int) - (i : Int))]).length = l.length + 1 := by simp
    have HLN := Lib.hid hln
    clear ho hB h hsn hln
    generalize (j : Int) - (i : Int) = y at *
    go_enter Tryz.func195, Tryz.ntmps195
    go_wp2_with fail
    refine (HS.out _).mono ?_; rintro e w1 ⟨rfl, hb⟩
    have HO1 := Lib.hid (own_below HO.out hb)
    have HB1 := Lib.hid (hb.mono HBB.out)
    have hz1 := hb.size
    clear hb HS
    generalize spC l = sl at *
    generalize l.length = n at *
    have hBw := HBB.out
    go_wp2_with (first
      | (at_builtin; refine wpList_append_own _ rfl (.tmp 11) (.tmp 15) 55 rfl B 59 i0 (.agg #[.int .i64 0, .int .i64 0]) 2 16 Tryz.underlying55 hi0 hz0 (by assumption) hz2 rfl (by decide) (.slice a n c) n sl rfl (HO1.out.alloc _) ⟨w1.heap.size, 0, none⟩ 1 1 [.int .i64 i, .int .i64 y] rfl rfl ?c1 ?c2 ?c3 ?c4 ?c5 ?_)
      | fail)
    case c1 =>
      intro j u hj
      rw [Addr.add_lit, Nat.zero_add]
      rw [cell_at (heap_alloc_new w1 _)]
      simpa using hj
    case c2 =>
      intro u hu
      simp only [List.mem_cons, List.not_mem_nil, or_false] at hu
      rcases hu with rfl | rfl <;> rfl
    case c3 => unfold maxLen; omega
    case c4 => omega
    case c5 => simp only [World.size_alloc]; omega
    intro v7 wB ho7 hg7 _
    obtain ⟨a7, c7, rfl⟩ := own_slice ho7
    have HO7 := Lib.hid ho7
    have HG7 := Lib.hid hg7
    have HBelow : Hid (Below B w wB) := ((HB1.out.alloc (by omega) _).grown hg7 (by simp only [World.size_alloc]; omega) (fun q hq => (HO1.out.lt q hq).1))
    clear ho7 hg7
    go_wp2_with fail
    go_ret
    exact ⟨a7, c7, by rw [HLN.out] <;> rfl, by rw [HLN.out, HSN.out]; exact HO7.out, HBelow.out, by have := HG7.out.size; simp only [World.size_alloc] at this; omega⟩

/-- The bytes of an end. -/
def markS (x : Int) : ByteArray := if x = 1 then ⟨#[10]⟩ else if x = 2 then ⟨#[13, 10]⟩ else if x = 3 then ⟨#[13]⟩ else ⟨#[]⟩
theorem mark_of (x : Int) (w : World) : Calls Tryz.prog 109 #[.int .i64 x] w fun e w' => e = .returned (.string (markS x)) ∧ w = w' := by
  unfold markS
  by_cases h1 : x = 1
  · subst h1
    go_enter Tryz.func109, Tryz.ntmps109
    go_wp2_with fail
    go_ret
    exact ⟨rfl, rfl⟩
  · rw [if_neg h1]
    have d1 : (x == 1) = false := by simpa using h1
    by_cases h2 : x = 2
    · subst h2
      go_enter Tryz.func109, Tryz.ntmps109
      go_wp2_with fail
      go_ret
      exact ⟨rfl, rfl⟩
    · rw [if_neg h2]
      have d2 : (x == 2) = false := by simpa using h2
      by_cases h3 : x = 3
      · subst h3
        go_enter Tryz.func109, Tryz.ntmps109
        go_wp2_with fail
        go_ret
        exact ⟨rfl, rfl⟩
      · rw [if_neg h3]
        have d3 : (x == 3) = false := by simpa using h3
        clear h1 h2 h3
        go_enter Tryz.func109, Tryz.ntmps109
        go_wp2_with fail
        go_ret
        exact ⟨rfl, rfl⟩

/-- May a field of a right file be of this kind? -/
def fineB (x : Int) : Bool := decide (x = 0 ∨ x = 1)
theorem lineEnd_of {w : World} {a : Option Addr} {c : Nat} {l : List UInt8} (hr : Rd w 1 a l.length (bc l)) (hl : l.length ≤ 1000000) (i : Nat) (hi : i ≤ l.length) :
    Calls Tryz.prog 145 #[.slice a l.length c, .int .i64 i] w fun e w' => e = .returned (.int .i64 (endP l i)) ∧ w = w' := by
  unfold endP
  by_cases h1 : l.length ≤ i
  · rw [if_pos h1]
    obtain rfl : i = l.length := by omega
    clear hr hi h1
    go_enter Tryz.func145, Tryz.ntmps145
    go_wp2_with fail
    go_ret
    exact ⟨rfl, rfl⟩
  · rw [if_neg h1]
    have d1 : (i == l.length) = false := by simp; omega
    have d1' : ((i : Int) == (l.length : Int)) = false := by simp; omega
    have hlt : i < l.length := by omega
    obtain ⟨b, off, rfl, hb, hc⟩ := rd_at hr hlt
    by_cases h2 : lb l i = 10
    · rw [if_pos h2]
      rw [h2] at hc
      clear hr h1 h2
      go_enter Tryz.func145, Tryz.ntmps145
      go_wp2_with fail
      go_ret
      exact ⟨rfl, rfl⟩
    · rw [if_neg h2]
      have d2 : (lb l i == 10) = false := by simpa using h2
      by_cases h3 : i + 1 < l.length
      · obtain ⟨b', off', e, hb', hc'⟩ := rd_at hr h3
        obtain ⟨rfl, rfl⟩ : b = b' ∧ off = off' := by simpa using e
        have d3 : decide (i + 1 < l.length) = true := decide_eq_true h3
        have d3' : decide ((i : Int) + 1 < (l.length : Int)) = true := decide_eq_true (by omega)
        by_cases h4 : lb l (i + 1) = 10
        · rw [if_pos ⟨h3, h4⟩]
          rw [h4] at hc'
          clear hr h1 h2 h4 e hb'
          generalize lb l i = x at *
          go_enter Tryz.func145, Tryz.ntmps145
          go_wp2_with fail
          go_ret
          exact ⟨rfl, rfl⟩
        · rw [if_neg (fun hh => h4 hh.2)]
          have d4 : (lb l (i + 1) == 10) = false := by simpa using h4
          clear hr h1 h2 h4 e hb'
          generalize lb l i = x at *
          generalize lb l (i + 1) = y at *
          go_enter Tryz.func145, Tryz.ntmps145
          go_wp2_with fail
          go_ret
          exact ⟨rfl, rfl⟩
      · rw [if_neg (fun hh => h3 hh.1)]
        have d3 : decide (i + 1 < l.length) = false := decide_eq_false h3
        have d3' : decide ((i : Int) + 1 < (l.length : Int)) = false := decide_eq_false (by omega)
        clear hr h1 h2 h3
        generalize lb l i = x at *
        go_enter Tryz.func145, Tryz.ntmps145
        go_wp2_with fail
        go_ret
        exact ⟨rfl, rfl⟩

/-- Some number. -/
def SomeIdx (w : World) (e : Ending) (w' : World) : Prop := ∃ r : Nat, e = .returned (.int .i64 r) ∧ w = w'
theorem idx_no {w : World} {a : Option Addr} {c : Nat} {l : List UInt8} (hr : Rd w 1 a l.length (bc l)) (hl : l.length ≤ 1000000) (x : Int) (h : ∀ k, k < l.length → lb l k ≠ x) :
    Calls Tryz.prog 209 #[.slice a l.length c, .int .u8 x] w fun e w' => e = .returned (.int .i64 (-1)) ∧ w = w' := by
  have HR := Lib.hid hr
  have HX := Lib.hid h
  clear hr h
  go_enter Tryz.func209, Tryz.ntmps209
  go_wp2_with fail
  go_loop [8] (fun v => ∃ k : Nat, k ≤ l.length ∧ v = .int .i64 k) (fun v => l.length - (intOf v).toNat)
  case atStart => exact ⟨0, by omega, rfl⟩
  case round =>
    obtain ⟨k, hk, rfl⟩ := hrel
    by_cases hlt : k < l.length
    · have dk : decide (k < l.length) = true := decide_eq_true hlt
      obtain ⟨b, off, rfl, hb, hc⟩ := rd_at HR.out hlt
      have hm := HX.out k hlt
      have d1 : (x == lb l k) = false := by simp; omega
      clear hm
      generalize lb l k = y at *
      go_wp2_with fail
      go_round
      case rel => exact ⟨k + 1, hlt, by go_num⟩
      case measure => simp [intOf]; omega
    · have dk : decide (k < l.length) = false := decide_eq_false hlt
      go_wp2_with fail
      go_ret
      exact ⟨rfl, rfl⟩
theorem idx_yes {w : World} {a : Option Addr} {c : Nat} {l : List UInt8} (hr : Rd w 1 a l.length (bc l)) (hl : l.length ≤ 1000000) (x : Int) (h : ∃ k, k < l.length ∧ lb l k = x) :
    Calls Tryz.prog 209 #[.slice a l.length c, .int .u8 x] w (SomeIdx w) := by
  have HR := Lib.hid hr
  obtain ⟨q, hq, hqx⟩ := h
  have HQ := Lib.hid hqx
  clear hr hqx
  go_enter Tryz.func209, Tryz.ntmps209
  go_wp2_with fail
  go_loop [8] (fun v => ∃ k : Nat, k ≤ q ∧ v = .int .i64 k) (fun v => l.length - (intOf v).toNat)
  case atStart => exact ⟨0, by omega, rfl⟩
  case round =>
    obtain ⟨k, hk, rfl⟩ := hrel
    have hlt : k < l.length := by omega
    have dk : decide (k < l.length) = true := decide_eq_true hlt
    obtain ⟨b, off, rfl, hb, hc⟩ := rd_at HR.out hlt
    by_cases hm : lb l k = x
    · have d1 : (x == lb l k) = true := by simp; omega
      clear hm HQ
      generalize lb l k = y at *
      go_wp2_with fail
      go_ret
      exact ⟨k, rfl, rfl⟩
    · have d1 : (x == lb l k) = false := by simp; omega
      have hkq : k < q := by
        have := HQ.out
        rcases Nat.lt_or_ge k q with h | h
        · exact h
        · obtain rfl : k = q := by omega
          exact absurd this hm
      clear hm HQ
      generalize lb l k = y at *
      go_wp2_with fail
      go_round
      case rel => exact ⟨k + 1, hkq, by go_num⟩
      case measure => simp [intOf]; omega
theorem contains_no {w : World} {a : Option Addr} {c n : Nat} {l : List UInt8} (hr : Rd w 1 a l.length (bc l)) (hl : l.length ≤ 1000000) (hn : n = l.length) (x : Int) (h : ∀ k, k < l.length → lb l k ≠ x) :
    Calls Tryz.prog 197 #[.slice a n c, .int .u8 x] w fun e w' => e = .returned (.bool false) ∧ w = w' := by
  subst hn
  have HC := Lib.hid (idx_no (c := c) hr hl x h)
  clear hr h
  go_enter Tryz.func197, Tryz.ntmps197
  go_wp2_with (go_at_call 209; refine HC.out.mono ?_; rintro e w' ⟨rfl, rfl⟩)
  go_ret
  exact ⟨rfl, rfl⟩
theorem contains_yes {w : World} {a : Option Addr} {c n : Nat} {l : List UInt8} (hr : Rd w 1 a l.length (bc l)) (hl : l.length ≤ 1000000) (hn : n = l.length) (x : Int) (h : ∃ k, k < l.length ∧ lb l k = x) :
    Calls Tryz.prog 197 #[.slice a n c, .int .u8 x] w fun e w' => e = .returned (.bool true) ∧ w = w' := by
  subst hn
  have HC := Lib.hid (idx_yes (c := c) hr hl x h)
  clear hr h
  go_enter Tryz.func197, Tryz.ntmps197
  go_wp2_with (go_at_call 209; refine HC.out.mono ?_; rintro e w' ⟨r, rfl, rfl⟩; have hr0 : decide ((0 : Int) ≤ (r : Int)) = true := decide_eq_true (by omega))
  go_ret
  exact ⟨rfl, rfl⟩

end Go.Proofs.YtkgakgceamafcaaGreat

namespace Go.Proofs.YtkgakgceamafcaaGreat
open Go Go.RowKit
set_option linter.unusedVariables false

/-- A field's value; v: its parts. -/
def fdV (f : Fd) (v : Value) : Value := .agg #[.int .i64 f.from_, .int .i64 ((f.to_ : Int) - f.from_), .int .i64 f.kind, v]
/-- What a call hands back that tells a field and the place behind it. -/
def FdPost (f : Fd) (w : World) (e : Ending) (w' : World) : Prop :=
  ∃ a c, e = .returned (.tuple #[fdV f (.slice a (canon f.pl).length c), .int .i64 f.to_]) ∧ w'.ownsRow w.heap.size 59 2 (.slice a (canon f.pl).length c) (canon f.pl).length (spC (canon f.pl)) ∧ Below w.heap.size w w'

theorem rd_sub {w : World} {b off : Nat} {l : List UInt8} (h : Rd w 1 (some ⟨b, off, none⟩) l.length (bc l)) (i j : Nat) (hj : j ≤ l.length) (hij : i ≤ j) (hb : b < w.heap.size) (sp : Option Addr) (hsp : i < j → sp = some ⟨b, off + i, none⟩) : Rd w 1 sp ((l.drop i).take (j - i)).length (bc ((l.drop i).take (j - i))) := by
  refine ⟨by rw [bc_len]; omega, fun hn => ?_⟩
  have hl : ((l.drop i).take (j - i)).length = j - i := by simp; omega
  rw [hl] at hn
  refine ⟨b, off + i, hsp (by omega), hb, fun k u hu => ?_⟩
  obtain ⟨b', off', e, _, hc⟩ := h.2 (by omega)
  obtain ⟨rfl, rfl⟩ : b = b' ∧ off = off' := by simpa using e
  rw [Nat.add_assoc]
  refine hc (i + k) u ?_
  unfold bc at hu ⊢
  rw [List.getElem?_map, List.getElem?_take] at hu
  rw [List.getElem?_map]
  split at hu
  · rw [List.getElem?_drop] at hu; exact hu
  · simp at hu

theorem put_nil (i j : Nat) (hij : i ≤ j) (hj : j ≤ 1000000) (w : World) :
    Calls Tryz.prog 195 #[.slice none 0 0, .int .i64 i, .int .i64 j] w fun e w' => ∃ a' c', e = .returned (.slice a' (putL [] i j).length c') ∧ w'.ownsRow w.heap.size 59 2 (.slice a' (putL [] i j).length c') (putL [] i j).length (spC (putL [] i j)) ∧ Below w.heap.size w w' ∧ w.heap.size ≤ w'.heap.size :=
  put_of (l := []) (own_nil w w.heap.size 59 2) (Nat.le_refl _) i j hij hj (by simp)

theorem plain_kind {l : List UInt8} {i : Nat} (hq : quAt l i = false) : (fieldP l i).to_ = till l i ∧ (fieldP l i).kind = (if hasQ l i (till l i) = true then 2 else 0) ∧ (fieldP l i).pl = pls i (till l i) := by
  have hf : fieldP l i = ⟨i, till l i, if hasQ l i (till l i) = true then 2 else 0, pls i (till l i)⟩ := by unfold fieldP; rw [if_neg (by simp [hq])]
  rw [hf]; exact ⟨rfl, rfl, rfl⟩

/-- A field's block. -/
def FdAt (w : World) (p : Nat) : Prop := ∃ v0 v1 v2 v3 : Value, w.heap[p]? = some (.cells #[v0, v1, v2, v3] 180 (0, 0))
theorem four_at {w : World} {p : Nat} {t : TypeId} {a0 a1 a2 a3 : Value} {fr : Nat × Nat} (h : w.heap[p]? = some (.cells #[a0, a1, a2, a3] t fr)) (v0 v1 v2 v3 : Value) :
    ((((w.setCell ⟨p, 0, none⟩ v0).setCell ⟨p, 1, none⟩ v1).setCell ⟨p, 2, none⟩ v2).setCell ⟨p, 3, none⟩ v3).heap[p]? = some (.cells #[v0, v1, v2, v3] t fr) := by
  have h1 := heap_set_at (o := 0) (u := v0) h
  have h2 := heap_set_at (o := 1) (u := v1) h1
  have h3 := heap_set_at (o := 2) (u := v2) h2
  exact heap_set_at (o := 3) (u := v3) h3
theorem four_cells {w : World} {p : Nat} {t : TypeId} {a0 a1 a2 a3 : Value} {fr : Nat × Nat} (h : w.heap[p]? = some (.cells #[a0, a1, a2, a3] t fr)) (v0 v1 v2 v3 : Value) :
    ∀ j v, (#[v0, v1, v2, v3] : Array Value)[j]? = some v → ((((w.setCell ⟨p, 0, none⟩ v0).setCell ⟨p, 1, none⟩ v1).setCell ⟨p, 2, none⟩ v2).setCell ⟨p, 3, none⟩ v3).cell? ⟨p, j, none⟩ = some v := by
  intro j v hj
  rw [cell_at (four_at h v0 v1 v2 v3)]; exact hj
theorem four_cells_al {w : World} {p : Nat} {t : TypeId} {a0 a1 a2 a3 : Value} {fr : Nat × Nat} (h : w.heap[p]? = some (.cells #[a0, a1, a2, a3] t fr)) (v0 v1 v2 v3 : Value) :
    (∀ o, (((((w.setCell ⟨p, 0, none⟩ v0).setCell ⟨p, 1, none⟩ v1).setCell ⟨p, 2, none⟩ v2).setCell ⟨p, 3, none⟩ v3).alloc o).cell? ⟨p, 0, none⟩ = some v0) ∧ (∀ o, (((((w.setCell ⟨p, 0, none⟩ v0).setCell ⟨p, 1, none⟩ v1).setCell ⟨p, 2, none⟩ v2).setCell ⟨p, 3, none⟩ v3).alloc o).cell? ⟨p, 1, none⟩ = some v1) ∧ (∀ o, (((((w.setCell ⟨p, 0, none⟩ v0).setCell ⟨p, 1, none⟩ v1).setCell ⟨p, 2, none⟩ v2).setCell ⟨p, 3, none⟩ v3).alloc o).cell? ⟨p, 2, none⟩ = some v2) ∧ (∀ o, (((((w.setCell ⟨p, 0, none⟩ v0).setCell ⟨p, 1, none⟩ v1).setCell ⟨p, 2, none⟩ v2).setCell ⟨p, 3, none⟩ v3).alloc o).cell? ⟨p, 3, none⟩ = some v3) := by
  have hc := four_cells h v0 v1 v2 v3
  have hl : p < ((((w.setCell ⟨p, 0, none⟩ v0).setCell ⟨p, 1, none⟩ v1).setCell ⟨p, 2, none⟩ v2).setCell ⟨p, 3, none⟩ v3).heap.size := by simp only [size_set]; exact lt_of_heap h
  refine ⟨fun o => ?_, fun o => ?_, fun o => ?_, fun o => ?_⟩
  · rw [World.cell?_alloc_lt _ _ ⟨p, 0, none⟩ hl]; exact hc 0 _ rfl
  · rw [World.cell?_alloc_lt _ _ ⟨p, 1, none⟩ hl]; exact hc 1 _ rfl
  · rw [World.cell?_alloc_lt _ _ ⟨p, 2, none⟩ hl]; exact hc 2 _ rfl
  · rw [World.cell?_alloc_lt _ _ ⟨p, 3, none⟩ hl]; exact hc 3 _ rfl
theorem four_own {w : World} {p B n s : Nat} {e t : TypeId} {v : Value} {xs : List Value} {a0 a1 a2 a3 : Value} {fr : Nat × Nat} (h : w.heap[p]? = some (.cells #[a0, a1, a2, a3] t fr)) (ho : w.ownsRow B e s v n xs) (hne : e ≠ t) (v0 v1 v2 v3 : Value) :
    ((((w.setCell ⟨p, 0, none⟩ v0).setCell ⟨p, 1, none⟩ v1).setCell ⟨p, 2, none⟩ v2).setCell ⟨p, 3, none⟩ v3).ownsRow B e s v n xs := by
  have hb := own_ne ho h hne
  exact own_set (own_set (own_set (own_set ho hb) hb) hb) hb
theorem four_below {W w : World} {p : Nat} (h : Below W.heap.size W w) (hp : W.heap.size ≤ p) (v0 v1 v2 v3 : Value) :
    Below W.heap.size W ((((w.setCell ⟨p, 0, none⟩ v0).setCell ⟨p, 1, none⟩ v1).setCell ⟨p, 2, none⟩ v2).setCell ⟨p, 3, none⟩ v3) :=
  (((h.setCell (p := ⟨p, 0, none⟩) hp _).setCell (p := ⟨p, 1, none⟩) hp _).setCell (p := ⟨p, 2, none⟩) hp _).setCell (p := ⟨p, 3, none⟩) hp _
theorem fdV_eq {F : Fd} {i j k : Int} {v : Value} (h1 : (F.from_ : Int) = i) (h2 : (F.to_ : Int) - i = j) (h3 : F.kind = k) : fdV F v = .agg #[.int .i64 i, .int .i64 j, .int .i64 k, v] := by
  unfold fdV; rw [h1, h2, h3]

set_option maxRecDepth 100000 in
set_option maxHeartbeats 1600000 in
theorem plain_of {w : World} {b off : Nat} {c : Nat} {l : List UInt8} (hr : Rd w 1 (some ⟨b, off, none⟩) l.length (bc l)) (hbw : b < w.heap.size) (hl : l.length ≤ 1000000) (hlc : l.length ≤ c) (hc : c ≤ maxLen) (i : Nat) (hi : i ≤ l.length) (hq : quAt l i = false) :
    Calls Tryz.prog 172 #[.slice (some ⟨b, off, none⟩) l.length c, .int .i64 i] w (FdPost (fieldP l i) w) := by
  obtain ⟨k2, k3, k4⟩ := plain_kind hq
  have k1 := fieldP_from l i
  have ht1 := till_ge l i
  have ht2 := till_le hi
  have HU := Lib.hid (fun w1 (hb : Below w.heap.size w w1) => until_mark (c := c) (hr.below hb) hl i hi)
  have HQ := Lib.hid (hasQ_iff l i (till l i) ht2)
  generalize till l i = j at *
  obtain ⟨sp, hsp⟩ : ∃ sp, (if c = i then some ⟨b, off, none⟩ else some ⟨b, off + i, none⟩ : Option Addr) = sp := ⟨_, rfl⟩
  have HR := Lib.hid (fun w1 (hb : Below w.heap.size w w1) => rd_sub (hr.below hb) i j ht2 ht1 (Nat.lt_of_lt_of_le hbw hb.size) sp (fun hij => by rw [← hsp, if_neg (by omega)]))
  have hsl : ((l.drop i).take (j - i)).length = j - i := by simp; omega
  have HSL := Lib.hid hsl
  have HS := Lib.hid (fun w => span_of i j ht1 (by omega) w)
  have HP := Lib.hid (fun (w : World) => put_nil i j ht1 (by omega) w)
  have HL := Lib.hid (canon_pls i j ht1)
  generalize (l.drop i).take (j - i) = sub at *
  generalize fieldP l i = F at *
  have hK : (hasQ l i j = true ∧ F.kind = 2) ∨ (hasQ l i j = false ∧ F.kind = 0) := by
    rw [k3]
    by_cases h : hasQ l i j = true
    · exact .inl ⟨h, if_pos h⟩
    · exact .inr ⟨Bool.eq_false_iff.2 h, if_neg h⟩
  have K1 := Lib.hid k1
  have K2 := Lib.hid k2
  have K4 := Lib.hid k4
  clear hr hq k1 k2 k3 k4 hsl
  go_enter Tryz.func172, Tryz.ntmps172
  go_wp2_with fail
  have al := below_al w (Obj.cells #[Value.int IntKind.i64 0, Value.int IntKind.i64 0, Value.int IntKind.i64 0, Value.slice none 0 0] 180)
  have HB1 := Lib.hid al
  have HA1 := Lib.hid (heap_alloc_new w (Obj.cells #[Value.int IntKind.i64 0, Value.int IntKind.i64 0, Value.int IntKind.i64 0, Value.slice none 0 0] 180))
  have hz1 : w.heap.size < (w.alloc (Obj.cells #[Value.int IntKind.i64 0, Value.int IntKind.i64 0, Value.int IntKind.i64 0, Value.slice none 0 0] 180)).heap.size := by simp
  refine (HU.out _ al).mono ?_; rintro e w1 ⟨rfl, rfl⟩
  clear al
  generalize w.alloc (Obj.cells #[Value.int IntKind.i64 0, Value.int IntKind.i64 0, Value.int IntKind.i64 0, Value.slice none 0 0] 180) = w1 at *
  go_wp2_with fail
  refine (HS.out _).mono ?_; rintro e w2 ⟨rfl, hb2⟩
  have HB2 := Lib.hid (HB1.out.trans (hb2.mono (Nat.le_of_lt hz1)))
  have HA2 := Lib.hid ((hb2.block _ hz1).trans HA1.out)
  have hz2 : w.heap.size < w2.heap.size := Nat.lt_of_lt_of_le hz1 hb2.size
  clear hb2
  go_wp2_with fail
  refine (HP.out _).mono ?_; rintro e w3 ⟨a', c', rfl, ho3, hb3, hz3⟩
  have HB3 := Lib.hid (HB2.out.trans (hb3.mono (Nat.le_of_lt hz2)))
  have HA3 := Lib.hid ((hb3.block _ hz2).trans HA2.out)
  have HO3 := Lib.hid (own_mono ho3 (Nat.le_of_lt hz2))
  have hz4 : w.heap.size < w3.heap.size := Nat.lt_of_lt_of_le hz2 hz3
  have HPL : Hid (canon F.pl = putL [] i j) := by rw [K4.out]; exact HL.out
  clear hb3 ho3 HB1 HA1 HB2 HA2 hz1 hz2 hz3 HP HS HU HL K4
  have hPLn : (canon F.pl).length = (putL [] i j).length := by rw [HPL.out]
  have HPN := Lib.hid hPLn
  clear hPLn
  generalize hm : (putL [] i j).length = m at *
  have HM := Lib.hid hm
  clear hm
  have y0 : w3.cell? ⟨w.heap.size, 0, none⟩ = some (.int .i64 0) := by rw [cell_at HA3.out]; rfl
  have y1 : w3.cell? ⟨w.heap.size, 1, none⟩ = some (.int .i64 0) := by rw [cell_at HA3.out]; rfl
  have y2 : w3.cell? ⟨w.heap.size, 2, none⟩ = some (.int .i64 0) := by rw [cell_at HA3.out]; rfl
  have y3 : w3.cell? ⟨w.heap.size, 3, none⟩ = some (.slice none 0 0) := by rw [cell_at HA3.out]; rfl
  have z0 := unfrozen HA3.out 0
  have z1 := unfrozen HA3.out 1
  have z2 := unfrozen HA3.out 2
  have z3 := unfrozen HA3.out 3
  have Q2 := Lib.hid (four_cells_al HA3.out (.int .i64 i) (.int .i64 ((j : Int) - i)) (.int .i64 2) (.slice a' m c'))
  have Q0 := Lib.hid (four_cells_al HA3.out (.int .i64 i) (.int .i64 ((j : Int) - i)) (.int .i64 0) (.slice a' m c'))
  have HE := Lib.hid HPN.out
  go_wp2_with fail
  rcases hK with ⟨hq, hk⟩ | ⟨hq, hk⟩
  · have KK := Lib.hid hk
    refine (contains_yes (c := c - i) (HR.out _ (HB3.out.alloc HB3.out.size _)) (by rw [HSL.out]; omega) HSL.out.symm 34 (HQ.out.1 hq)).mono ?_; rintro e w4 ⟨rfl, rfl⟩
    clear hq hk HQ HR Q0
    go_wp2_with fail
    obtain ⟨q0, q1, q2, q3⟩ := Q2.out
    refine bodyPost_ret (v := .tuple #[.agg #[.int .i64 i, .int .i64 ((j : Int) - i), .int .i64 2, .slice a' m c'], .int .i64 j]) (by simp [results, Tryz.results172, go_sem, q0, q1, q2, q3]) rfl ?_
    refine ⟨a', c', ?_, ?_, ?_⟩
    · rw [fdV_eq (by rw [K1.out]) (by rw [K2.out]) KK.out, K2.out, HPN.out]
    · rw [HPN.out, HPL.out]
      exact (four_own HA3.out HO3.out (by decide) _ _ _ _).alloc _
    · exact (four_below HB3.out (Nat.le_refl _) _ _ _ _).alloc (by simp only [size_set]; omega) _
  · have KK := Lib.hid hk
    refine (contains_no (c := c - i) (HR.out _ (HB3.out.alloc HB3.out.size _)) (by rw [HSL.out]; omega) HSL.out.symm 34 (fun k hk e => by rw [HQ.out.2 ⟨k, hk, e⟩] at hq; cases hq)).mono ?_; rintro e w4 ⟨rfl, rfl⟩
    clear hq hk HQ HR Q2
    go_wp2_with fail
    obtain ⟨q0, q1, q2, q3⟩ := Q0.out
    refine bodyPost_ret (v := .tuple #[.agg #[.int .i64 i, .int .i64 ((j : Int) - i), .int .i64 0, .slice a' m c'], .int .i64 j]) (by simp [results, Tryz.results172, go_sem, q0, q1, q2, q3]) rfl ?_
    refine ⟨a', c', ?_, ?_, ?_⟩
    · rw [fdV_eq (by rw [K1.out]) (by rw [K2.out]) KK.out, K2.out, HPN.out]
    · rw [HPN.out, HPL.out]
      exact (four_own HA3.out HO3.out (by decide) _ _ _ _).alloc _
    · exact (four_below HB3.out (Nat.le_refl _) _ _ _ _).alloc (by simp only [size_set]; omega) _

end Go.Proofs.YtkgakgceamafcaaGreat

namespace Go.Proofs.YtkgakgceamafcaaGreat
open Go Go.RowKit
set_option linter.unusedVariables false

/-- The bytes of spans, those that do not lie within left out. -/
def valL (l : List UInt8) (ps : List (Int × Int)) : List UInt8 := ps.flatMap fun s => subL l s.1 s.2
theorem valL_snoc (l : List UInt8) (ps : List (Int × Int)) (s : Int × Int) : valL l (ps ++ [s]) = valL l ps ++ subL l s.1 s.2 := by unfold valL; simp
theorem valL_take {l : List UInt8} {ps : List (Int × Int)} {k : Nat} (h : k < ps.length) : valL l (ps.take (k + 1)) = valL l (ps.take k) ++ subL l ps[k].1 ps[k].2 := by
  rw [List.take_succ_eq_append_getElem h, valL_snoc]
theorem valL_len (l : List UInt8) : ∀ ps : List (Int × Int), (valL l ps).length ≤ ps.length * l.length
  | [] => by simp [valL]
  | s :: ps => by
    have h1 := valL_len l ps
    have h2 := subL_le l s.1 s.2
    have h3 : (valL l (s :: ps)).length = (subL l s.1 s.2).length + (valL l ps).length := by unfold valL; simp
    rw [h3, List.length_cons, Nat.add_mul]; omega

theorem bc_append (a b : List UInt8) : bc (a ++ b) = bc a ++ bc b := by unfold bc; simp

end Go.Proofs.YtkgakgceamafcaaGreat
