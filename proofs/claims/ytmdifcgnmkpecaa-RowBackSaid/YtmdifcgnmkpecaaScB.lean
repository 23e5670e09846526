/-
  The contracts of scan's span, put, lineEnd, Mark, Fine, lies, and of slices.Contains at bytes, at this seat's numbers.
-/
import Derived.Test.YtmdifcgnmkpecaaScA
import Derived.Test.YtmdifcgnmkpecaaArI
import Derived.Test.YtmdifcgnmkpecaaPieC
namespace Go.Proofs.Ytmdifcgnmkpecaa
open Go Go.RowKit
set_option linter.unusedVariables false

theorem span_of (i j : Nat) (h : i ≤ j) (hj : j ≤ 1000000) (w : World) :
    Calls Try.prog 103 #[.int .i64 i, .int .i64 j] w fun e w' => e = .returned (.agg #[.int .i64 i, .int .i64 ((j : Int) - i)]) ∧ Below w.heap.size w w' := by
  go_enter Try.func103, Try.ntmps103
  go_wp2_with fail
  refine bodyPost_ret (v := .agg #[.int .i64 i, .int .i64 ((j : Int) - i)]) (by simp [results, Try.results103, go_sem]) rfl ⟨rfl, ?_⟩
  exact (Below.refl _ _).alloc (Nat.le_refl _) _

set_option maxRecDepth 100000 in
set_option maxHeartbeats 1600000 in
theorem put_of {w : World} {B c : Nat} {a : Option Addr} {l : List (Int × Int)} (ho : w.ownsRow B 39 2 (.slice a l.length c) l.length (spC l)) (hB : B ≤ w.heap.size) (i j : Nat) (hij : i ≤ j) (hj : j ≤ 1000000) (hl : l.length ≤ 1000000) :
    Calls Try.prog 104 #[.slice a l.length c, .int .i64 i, .int .i64 j] w fun e w' => ∃ a' c', e = .returned (.slice a' (putL l i j).length c') ∧ w'.ownsRow B 39 2 (.slice a' (putL l i j).length c') (putL l i j).length (spC (putL l i j)) ∧ Below B w w' ∧ w.heap.size ≤ w'.heap.size := by
  unfold putL
  by_cases h : i = j
  · rw [if_pos h]
    subst h
    have HO := Lib.hid ho
    clear ho
    go_enter Try.func104, Try.ntmps104
    go_wp2_with fail
    go_ret
    exact ⟨_, _, rfl, HO.out, Below.refl _ _, Nat.le_refl _⟩
  · rw [if_neg h]
    obtain ⟨i0, hi0, hz0, hz1, hz2⟩ := info_parts info_span
    have d1 : (i == j) = false := by simpa using h
    have d1' : ((i : Int) == (j : Int)) = false := by simp; omega
    have HS := Lib.hid (span_of i j hij hj)
    have HO := Lib.hid ho
    have HBB := Lib.hid hB
    have hsn := spC_snoc l ((i : Int), (j : Int) - (i : Int))
    have HSN := Lib.hid hsn
    have hln : (l ++ [((i : Int), (j : Int) - (i : Int))]).length = l.length + 1 := by simp
    have HLN := Lib.hid hln
    clear ho hB h hsn hln
    generalize (j : Int) - (i : Int) = y at *
    go_enter Try.func104, Try.ntmps104
    go_wp2_with fail
    refine (HS.out _).mono ?_; rintro e w1 ⟨rfl, hb⟩
    have HO1 := Lib.hid (own_below HO.out hb)
    have HB1 := Lib.hid (hb.mono HBB.out)
    have hz1 := hb.size
    clear hb HS
    generalize spC l = sl at *
    generalize l.length = n at *
    have hBw := HBB.out
    go_wp2_with (first
      | (at_builtin; refine wpList_append_own _ rfl (.tmp 11) (.tmp 15) 40 rfl B 39 i0 (.agg #[.int .i64 0, .int .i64 0]) 2 16 Try.underlying40 hi0 hz0 (by assumption) hz2 rfl (by decide) (.slice a n c) n sl rfl (HO1.out.alloc _) ⟨w1.heap.size, 0, none⟩ 1 1 [.int .i64 i, .int .i64 y] rfl rfl ?c1 ?c2 ?c3 ?c4 ?c5 ?_)
      | fail)
    case c1 =>
      intro j u hj
      rw [Addr.add_lit, Nat.zero_add]
      rw [cell_at (heap_alloc_new w1 _)]
      simpa using hj
    case c2 =>
      intro u hu
      simp only [List.mem_cons, List.not_mem_nil, or_false] at hu
      rcases hu with rfl | rfl <;> rfl
    case c3 => unfold maxLen; omega
    case c4 => omega
    case c5 => simp only [World.size_alloc]; omega
    intro v7 wB ho7 hg7 _
    obtain ⟨a7, c7, rfl⟩ := own_slice ho7
    have HO7 := Lib.hid ho7
    have HG7 := Lib.hid hg7
    have HBelow : Hid (Below B w wB) := ((HB1.out.alloc (by omega) _).grown hg7 (by simp only [World.size_alloc]; omega) (fun q hq => (HO1.out.lt q hq).1))
    clear ho7 hg7
    go_wp2_with fail
    go_ret
    exact ⟨a7, c7, by rw [HLN.out] <;> rfl, by rw [HLN.out, HSN.out]; exact HO7.out, HBelow.out, by have := HG7.out.size; simp only [World.size_alloc] at this; omega⟩

/-- The bytes of an end. -/
def markS (x : Int) : ByteArray := if x = 1 then ⟨#[10]⟩ else if x = 2 then ⟨#[13, 10]⟩ else if x = 3 then ⟨#[13]⟩ else ⟨#[]⟩
theorem mark_of (x : Int) (w : World) : Calls Try.prog 58 #[.int .i64 x] w fun e w' => e = .returned (.string (markS x)) ∧ w = w' := by
  unfold markS
  by_cases h1 : x = 1
  · subst h1
    go_enter Try.func58, Try.ntmps58
    go_wp2_with fail
    go_ret
    exact ⟨rfl, rfl⟩
  · rw [if_neg h1]
    have d1 : (x == 1) = false := by simpa using h1
    by_cases h2 : x = 2
    · subst h2
      go_enter Try.func58, Try.ntmps58
      go_wp2_with fail
      go_ret
      exact ⟨rfl, rfl⟩
    · rw [if_neg h2]
      have d2 : (x == 2) = false := by simpa using h2
      by_cases h3 : x = 3
      · subst h3
        go_enter Try.func58, Try.ntmps58
        go_wp2_with fail
        go_ret
        exact ⟨rfl, rfl⟩
      · rw [if_neg h3]
        have d3 : (x == 3) = false := by simpa using h3
        clear h1 h2 h3
        go_enter Try.func58, Try.ntmps58
        go_wp2_with fail
        go_ret
        exact ⟨rfl, rfl⟩

/-- May a field of a right file be of this kind? -/
def fineB (x : Int) : Bool := decide (x = 0 ∨ x = 1)
theorem lineEnd_of {w : World} {a : Option Addr} {c : Nat} {l : List UInt8} (hr : Rd w 1 a l.length (bc l)) (hl : l.length ≤ 1000000) (i : Nat) (hi : i ≤ l.length) :
    Calls Try.prog 57 #[.slice a l.length c, .int .i64 i] w fun e w' => e = .returned (.int .i64 (endP l i)) ∧ w = w' := by
  unfold endP
  by_cases h1 : l.length ≤ i
  · rw [if_pos h1]
    obtain rfl : i = l.length := by omega
    clear hr hi h1
    go_enter Try.func57, Try.ntmps57
    go_wp2_with fail
    go_ret
    exact ⟨rfl, rfl⟩
  · rw [if_neg h1]
    have d1 : (i == l.length) = false := by simp; omega
    have d1' : ((i : Int) == (l.length : Int)) = false := by simp; omega
    have hlt : i < l.length := by omega
    obtain ⟨b, off, rfl, hb, hc⟩ := rd_at hr hlt
    by_cases h2 : lb l i = 10
    · rw [if_pos h2]
      rw [h2] at hc
      clear hr h1 h2
      go_enter Try.func57, Try.ntmps57
      go_wp2_with fail
      go_ret
      exact ⟨rfl, rfl⟩
    · rw [if_neg h2]
      have d2 : (lb l i == 10) = false := by simpa using h2
      by_cases h3 : i + 1 < l.length
      · obtain ⟨b', off', e, hb', hc'⟩ := rd_at hr h3
        obtain ⟨rfl, rfl⟩ : b = b' ∧ off = off' := by simpa using e
        have d3 : decide (i + 1 < l.length) = true := decide_eq_true h3
        have d3' : decide ((i : Int) + 1 < (l.length : Int)) = true := decide_eq_true (by omega)
        by_cases h4 : lb l (i + 1) = 10
        · rw [if_pos ⟨h3, h4⟩]
          rw [h4] at hc'
          clear hr h1 h2 h4 e hb'
          generalize lb l i = x at *
          go_enter Try.func57, Try.ntmps57
          go_wp2_with fail
          go_ret
          exact ⟨rfl, rfl⟩
        · rw [if_neg (fun hh => h4 hh.2)]
          have d4 : (lb l (i + 1) == 10) = false := by simpa using h4
          clear hr h1 h2 h4 e hb'
          generalize lb l i = x at *
          generalize lb l (i + 1) = y at *
          go_enter Try.func57, Try.ntmps57
          go_wp2_with fail
          go_ret
          exact ⟨rfl, rfl⟩
      · rw [if_neg (fun hh => h3 hh.1)]
        have d3 : decide (i + 1 < l.length) = false := decide_eq_false h3
        have d3' : decide ((i : Int) + 1 < (l.length : Int)) = false := decide_eq_false (by omega)
        clear hr h1 h2 h3
        generalize lb l i = x at *
        go_enter Try.func57, Try.ntmps57
        go_wp2_with fail
        go_ret
        exact ⟨rfl, rfl⟩

/-- Some number. -/
def SomeIdx (w : World) (e : Ending) (w' : World) : Prop := ∃ r : Nat, e = .returned (.int .i64 r) ∧ w = w'
theorem idx_no {w : World} {a : Option Addr} {c : Nat} {l : List UInt8} (hr : Rd w 1 a l.length (bc l)) (hl : l.length ≤ 1000000) (x : Int) (h : ∀ k, k < l.length → lb l k ≠ x) :
    Calls Try.prog 112 #[.slice a l.length c, .int .u8 x] w fun e w' => e = .returned (.int .i64 (-1)) ∧ w = w' := by
  have HR := Lib.hid hr
  have HX := Lib.hid h
  clear hr h
  go_enter Try.func112, Try.ntmps112
  go_wp2_with fail
  go_loop [8] (fun v => ∃ k : Nat, k ≤ l.length ∧ v = .int .i64 k) (fun v => l.length - (intOf v).toNat)
  case atStart => exact ⟨0, by omega, rfl⟩
  case round =>
    obtain ⟨k, hk, rfl⟩ := hrel
    by_cases hlt : k < l.length
    · have dk : decide (k < l.length) = true := decide_eq_true hlt
      obtain ⟨b, off, rfl, hb, hc⟩ := rd_at HR.out hlt
      have hm := HX.out k hlt
      have d1 : (x == lb l k) = false := by simp; omega
      clear hm
      generalize lb l k = y at *
      go_wp2_with fail
      go_round
      case rel => exact ⟨k + 1, hlt, by go_num⟩
      case measure => simp [intOf]; omega
    · have dk : decide (k < l.length) = false := decide_eq_false hlt
      go_wp2_with fail
      go_ret
      exact ⟨rfl, rfl⟩
theorem idx_yes {w : World} {a : Option Addr} {c : Nat} {l : List UInt8} (hr : Rd w 1 a l.length (bc l)) (hl : l.length ≤ 1000000) (x : Int) (h : ∃ k, k < l.length ∧ lb l k = x) :
    Calls Try.prog 112 #[.slice a l.length c, .int .u8 x] w (SomeIdx w) := by
  have HR := Lib.hid hr
  obtain ⟨q, hq, hqx⟩ := h
  have HQ := Lib.hid hqx
  clear hr hqx
  go_enter Try.func112, Try.ntmps112
  go_wp2_with fail
  go_loop [8] (fun v => ∃ k : Nat, k ≤ q ∧ v = .int .i64 k) (fun v => l.length - (intOf v).toNat)
  case atStart => exact ⟨0, by omega, rfl⟩
  case round =>
    obtain ⟨k, hk, rfl⟩ := hrel
    have hlt : k < l.length := by omega
    have dk : decide (k < l.length) = true := decide_eq_true hlt
    obtain ⟨b, off, rfl, hb, hc⟩ := rd_at HR.out hlt
    by_cases hm : lb l k = x
    · have d1 : (x == lb l k) = true := by simp; omega
      clear hm HQ
      generalize lb l k = y at *
      go_wp2_with fail
      go_ret
      exact ⟨k, rfl, rfl⟩
    · have d1 : (x == lb l k) = false := by simp; omega
      have hkq : k < q := by
        have := HQ.out
        rcases Nat.lt_or_ge k q with h | h
        · exact h
        · obtain rfl : k = q := by omega
          exact absurd this hm
      clear hm HQ
      generalize lb l k = y at *
      go_wp2_with fail
      go_round
      case rel => exact ⟨k + 1, hkq, by go_num⟩
      case measure => simp [intOf]; omega
theorem contains_no {w : World} {a : Option Addr} {c n : Nat} {l : List UInt8} (hr : Rd w 1 a l.length (bc l)) (hl : l.length ≤ 1000000) (hn : n = l.length) (x : Int) (h : ∀ k, k < l.length → lb l k ≠ x) :
    Calls Try.prog 106 #[.slice a n c, .int .u8 x] w fun e w' => e = .returned (.bool false) ∧ w = w' := by
  subst hn
  have HC := Lib.hid (idx_no (c := c) hr hl x h)
  clear hr h
  go_enter Try.func106, Try.ntmps106
  go_wp2_with (go_at_call 112; refine HC.out.mono ?_; rintro e w' ⟨rfl, rfl⟩)
  go_ret
  exact ⟨rfl, rfl⟩
theorem contains_yes {w : World} {a : Option Addr} {c n : Nat} {l : List UInt8} (hr : Rd w 1 a l.length (bc l)) (hl : l.length ≤ 1000000) (hn : n = l.length) (x : Int) (h : ∃ k, k < l.length ∧ lb l k = x) :
    Calls Try.prog 106 #[.slice a n c, .int .u8 x] w fun e w' => e = .returned (.bool true) ∧ w = w' := by
  subst hn
  have HC := Lib.hid (idx_yes (c := c) hr hl x h)
  clear hr h
  go_enter Try.func106, Try.ntmps106
  go_wp2_with (go_at_call 112; refine HC.out.mono ?_; rintro e w' ⟨r, rfl, rfl⟩; have hr0 : decide ((0 : Int) ≤ (r : Int)) = true := decide_eq_true (by omega))
  go_ret
  exact ⟨rfl, rfl⟩

end Go.Proofs.Ytmdifcgnmkpecaa
