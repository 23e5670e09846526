/-
  The contracts of the document's Insert and Delete (layer 4), at this seat's numbers.
-/
import Derived.Test.YtelnehjmkjpjhaaPcS
import Derived.Deep.RegionHeldLaw
namespace Go.Proofs.Ytelnehjmkjpjhaa
open Go Go.RowKit
set_option linter.unusedVariables false

/-- A text's two parts at a place. -/
theorem Ix.parts {w : World} {a : Option Addr} {c : Nat} {t : List Int} (h : Ix w (.slice a t.length c) t) (k : Nat) (hk : k ≤ t.length) :
    (a = none ∧ t = [] ∧ c = 0) ∨ ∃ b off, a = some ⟨b, off, none⟩ ∧ t.length ≤ c ∧ c ≤ maxLen ∧ Ix w (.slice (some ⟨b, off, none⟩) k c) (t.take k) ∧ Ix w (.slice (if c = k then some ⟨b, off, none⟩ else some ⟨b, off + k, none⟩) (t.length - k) (c - k)) (t.drop k) := by
  have h' := h
  obtain ⟨a', c', h1, h2, h3, h4, h5, h6⟩ := h'
  simp only [Value.slice.injEq] at h1
  obtain ⟨rfl, _, rfl⟩ := h1
  rcases a with _ | d
  · have h0 := h5 rfl
    exact .inl ⟨rfl, List.eq_nil_of_length_eq_zero (by omega), h0⟩
  · obtain ⟨b, off, cs, rfl, h7⟩ := h6 d rfl
    have p1 := h.cut 0 k (Nat.zero_le _) hk
    have p2 := h.cut k t.length hk (Nat.le_refl _)
    rw [List.drop_zero, Nat.add_zero, Nat.sub_zero, Nat.sub_zero] at p1
    rw [List.take_length] at p2
    refine .inr ⟨b, off, rfl, h3, h4, p1, ?_⟩
    split
    · rename_i hck
      have h0 : t.length = k := by omega
      rw [show t.drop k = [] from List.drop_eq_nil_of_le (by omega), h0, hck, Nat.sub_self]
      exact ⟨some ⟨b, off, none⟩, 0, rfl, ⟨rfl, fun hn => by simp at hn⟩, Nat.le_refl _, Nat.zero_le _, fun h => (by cases h), fun d h => ⟨b, off, cs, by simpa using h.symm, h7⟩⟩
    · exact p2
theorem rconcat_ch {W w : World} (vs : List TxV) (r : List Int) (hr : plsOf vs = r) (hs : Below W.heap.size W w) (hv : ∀ p ∈ vs, Ix w p.1 p.2) (hm : r.length ≤ 20000) (hn : vs.length ≤ 1000) (ty : TypeId) (c : Nat) (n : Nat) (hvn : vs.length = n) :
    Calls Try.prog 31 #[.slice (some ⟨w.heap.size, 0, none⟩) n c] (w.alloc (.cells (vs.map (·.1)).toArray ty)) fun e w2 => ∃ v', e = .returned v' ∧ Ix w2 v' r ∧ Below W.heap.size W w2 := by
  subst hvn hr
  have al := below_al w (.cells (vs.map (·.1)).toArray ty)
  refine (rconcat_of (c := c) ⟨by simp, fun hn => ⟨w.heap.size, 0, rfl, by simp, fun j u hj => ?_⟩⟩ (fun p hp => (hv p hp).below al) hm hn).mono ?_
  · rw [Nat.zero_add, cell_at (heap_alloc_new w _)]
    simpa using hj
  · rintro e w2 ⟨v', rfl, hx, hb2⟩
    exact ⟨_, rfl, hx, (hs.trans (al.mono hs.size)).trans (hb2.mono (by have := hs.size; simp; omega))⟩

set_option maxRecDepth 100000 in
set_option maxHeartbeats 4000000 in
theorem rinsert_of {w : World} {v x : Value} {t u : List Int} (i : Int) (h : Ix w v t) (hx : Ix w x u) (hi : I64 i) (hl : t.length + u.length ≤ 20000) :
    Calls Try.prog 27 #[v, .int .i64 i, x] w fun e w' => ∃ v', e = .returned v' ∧ Ix w' v' (insI t i u) ∧ Below w.heap.size w w' := by
  have HX := Lib.hid h
  have HU := Lib.hid hx
  obtain ⟨a, c, rfl, -, -, -, -, -⟩ := h
  obtain ⟨a2, c2, rfl, -, -, -, -, -⟩ := hx
  have HPi := Lib.hid (rplace_of (a := a) (n := t.length) (c := c) i hi (by omega) w)
  have hpi := plc_in t.length i
  obtain ⟨p, hp⟩ : ∃ p : Nat, plc t.length i = p := ⟨(plc t.length i).toNat, by omega⟩
  have hin : insI t i u = t.take p ++ u ++ t.drop p := by rw [insI_eq, hp]; simp
  have hil : (t.take p ++ u ++ t.drop p).length ≤ 20000 := by rw [← hin, insI_len]; omega
  rw [hp] at HPi hpi
  rw [hin]
  clear hp hin hi
  have hb0 : Below w.heap.size w w.drew := (Below.refl _ _).drew
  rcases HX.out.parts p (by omega) with ⟨rfl, rfl, rfl⟩ | ⟨b, off, rfl, hc, hcm, h1, h2⟩
  · obtain rfl : p = 0 := by simp at hpi; omega
    have HC := Lib.hid (fun w' (hb : Below w.heap.size w w') => rconcat_ch [(.slice none 0 0, []), (.slice a2 u.length c2, u), (.slice none 0 0, [])] ([].take 0 ++ u ++ [].drop 0) (by unfold plsOf; simp) hb (by intro p hp; simp only [List.mem_cons, List.not_mem_nil, or_false] at hp; rcases hp with rfl | rfl | rfl; exact ix_nil _; exact HU.out.below hb; exact ix_nil _) hil (by simp) 31 3 3 rfl)
    have hx0 : IntKind.i64.wrap 0 = 0 := rfl
    go_enter Try.func27, Try.ntmps27
    go_upto_region 2 with (go_at_call 86; refine HPi.out.mono ?_; rintro e w1 ⟨rfl, rfl⟩)
    go_region_held_law (fun w' => Below w.heap.size w w')
      (first | assumption | exact Below.alloc (by assumption) (Below.size (by assumption)) _)
      ((go_at_call 31; refine (HC.out w.drew (by assumption)).mono ?_; rintro e w2 ⟨v2, rfl, hx2, hb2⟩))
    all_goals
      go_wp2_with fail
      go_ret
      exact ⟨_, rfl, hx2, hb2⟩
  · by_cases hcp : c = p
    · subst hcp
      rw [if_pos rfl, Nat.sub_self, show t.length - c = 0 by omega] at h2
      have HC := Lib.hid (fun w' (hb : Below w.heap.size w w') => rconcat_ch [(.slice (some ⟨b, off, none⟩) c c, t.take c), (.slice a2 u.length c2, u), (.slice (some ⟨b, off, none⟩) 0 0, t.drop c)] (t.take c ++ u ++ t.drop c) (by unfold plsOf; simp) hb (by intro q hq; simp only [List.mem_cons, List.not_mem_nil, or_false] at hq; rcases hq with rfl | rfl | rfl; exact h1.below hb; exact HU.out.below hb; exact h2.below hb) hil (by simp) 31 3 3 rfl)
      have i1 : (0 : Int) ≤ (c : Int) := by omega
      have i2 : (c : Int) ≤ (t.length : Int) := by omega
      have i3 : (c : Int) ≤ (c : Int) := by omega
      have i4 : (t.length : Int) ≤ (c : Int) := by omega
      clear h1 h2 HX
      generalize t.take c ++ u ++ t.drop c = r at *
      go_enter Try.func27, Try.ntmps27
      go_upto_region 2 with (go_at_call 86; refine HPi.out.mono ?_; rintro e w1 ⟨rfl, rfl⟩)
      go_region_held_law (fun w' => Below w.heap.size w w')
        (first | assumption | exact Below.alloc (by assumption) (Below.size (by assumption)) _)
        ((go_at_call 31; refine (HC.out w.drew (by assumption)).mono ?_; rintro e w2 ⟨v2, rfl, hx2, hb2⟩))
      all_goals
        go_wp2_with fail
        go_ret
        exact ⟨_, rfl, hx2, hb2⟩
    · rw [if_neg hcp] at h2
      have HC := Lib.hid (fun w' (hb : Below w.heap.size w w') => rconcat_ch [(.slice (some ⟨b, off, none⟩) p c, t.take p), (.slice a2 u.length c2, u), (.slice (some ⟨b, off + p, none⟩) (t.length - p) (c - p), t.drop p)] (t.take p ++ u ++ t.drop p) (by unfold plsOf; simp) hb (by intro q hq; simp only [List.mem_cons, List.not_mem_nil, or_false] at hq; rcases hq with rfl | rfl | rfl; exact h1.below hb; exact HU.out.below hb; exact h2.below hb) hil (by simp) 31 3 3 rfl)
      have i1 : (0 : Int) ≤ (p : Int) := by omega
      have i2 : (p : Int) ≤ (t.length : Int) := by omega
      have i3 : (p : Int) ≤ (c : Int) := by omega
      have i4 : (t.length : Int) ≤ (c : Int) := by omega
      clear h1 h2 HX
      generalize t.take p ++ u ++ t.drop p = r at *
      go_enter Try.func27, Try.ntmps27
      go_upto_region 2 with (go_at_call 86; refine HPi.out.mono ?_; rintro e w1 ⟨rfl, rfl⟩)
      go_region_held_law (fun w' => Below w.heap.size w w')
        (first | assumption | exact Below.alloc (by assumption) (Below.size (by assumption)) _)
        ((go_at_call 31; refine (HC.out w.drew (by assumption)).mono ?_; rintro e w2 ⟨v2, rfl, hx2, hb2⟩))
      all_goals
        go_wp2_with fail
        go_ret
        exact ⟨_, rfl, hx2, hb2⟩

set_option maxRecDepth 100000 in
set_option maxHeartbeats 4000000 in
theorem rdelete_of {w : World} {v : Value} {t : List Int} (i j : Int) (h : Ix w v t) (hi : I64 i) (hj : I64 j) (hl : t.length ≤ 10000) :
    Calls Try.prog 29 #[v, .int .i64 i, .int .i64 j] w fun e w' => ∃ v', e = .returned v' ∧ Ix w' v' (delI t i j) ∧ Below w.heap.size w w' := by
  have HX := Lib.hid h
  obtain ⟨a, c, rfl, -, -, -, -, -⟩ := h
  have HPi := Lib.hid (rplace_of (a := a) (n := t.length) (c := c) i hi (by omega) w)
  have HPj := Lib.hid (rplace_of (a := a) (n := t.length) (c := c) j hj (by omega) w)
  have hpi := plc_in t.length i
  have hpj := plc_in t.length j
  have hmx : plc t.length (max i j) = max (plc t.length i) (plc t.length j) := by unfold plc; omega
  obtain ⟨p, hp⟩ : ∃ p : Nat, plc t.length i = p := ⟨(plc t.length i).toNat, by omega⟩
  obtain ⟨q, hq⟩ : ∃ q : Nat, plc t.length j = q := ⟨(plc t.length j).toNat, by omega⟩
  have hin : delI t i j = t.take p ++ t.drop (max p q) := by rw [delI_eq, hmx, hp, hq]; congr 2; omega
  rw [hp] at HPi hpi
  rw [hq] at HPj hpj
  rw [hin]
  clear hp hq hin hi hj hmx
  have hb0 : Below w.heap.size w w.drew := (Below.refl _ _).drew
  by_cases hqp : q ≤ p
  · have d : decide ((q : Int) ≤ (p : Int)) = true := decide_eq_true (by omega)
    have d' : decide (q ≤ p) = true := decide_eq_true hqp
    rw [show max p q = p by omega, List.take_append_drop]
    go_enter Try.func29, Try.ntmps29
    go_wp2_with fail
    refine HPi.out.mono ?_; rintro e w1 ⟨rfl, rfl⟩
    go_wp2_with fail
    refine HPj.out.mono ?_; rintro e w1 ⟨rfl, rfl⟩
    go_wp2_with fail
    go_ret
    exact ⟨_, rfl, HX.out, Below.refl _ _⟩
  · have d : decide ((q : Int) ≤ (p : Int)) = false := decide_eq_false (by omega)
    have d' : decide (q ≤ p) = false := decide_eq_false hqp
    rw [show max p q = q by omega]
    have hil : (t.take p ++ t.drop q).length ≤ 20000 := by rw [List.length_append, List.length_take, List.length_drop]; omega
    rcases HX.out.parts p (by omega) with ⟨rfl, rfl, rfl⟩ | ⟨b, off, rfl, hc, hcm, h1, -⟩
    · simp at hpj; omega
    rcases HX.out.parts q (by omega) with ⟨h0, -, -⟩ | ⟨b', off', hbb, -, -, -, h2⟩
    · cases h0
    simp only [Option.some.injEq, Addr.mk.injEq, and_true] at hbb
    obtain ⟨rfl, rfl⟩ := hbb
    by_cases hcp : c = q
    · subst hcp
      rw [if_pos rfl, Nat.sub_self, show t.length - c = 0 by omega] at h2
      have HC := Lib.hid (fun w' (hb : Below w.heap.size w w') => rconcat_ch [(.slice (some ⟨b, off, none⟩) p c, t.take p), (.slice (some ⟨b, off, none⟩) 0 0, t.drop c)] (t.take p ++ t.drop c) (by unfold plsOf; simp) hb (by intro q hq; simp only [List.mem_cons, List.not_mem_nil, or_false] at hq; rcases hq with rfl | rfl; exact h1.below hb; exact h2.below hb) hil (by simp) 31 2 2 rfl)
      have i1 : (0 : Int) ≤ (p : Int) := by omega
      have i2 : (p : Int) ≤ (c : Int) := by omega
      have i3 : (c : Int) ≤ (t.length : Int) := by omega
      have i4 : (t.length : Int) ≤ (c : Int) := by omega
      have i5 : (0 : Int) ≤ (c : Int) := by omega
      clear h1 h2 HX
      generalize t.take p ++ t.drop c = r at *
      go_enter Try.func29, Try.ntmps29
      go_wp2_with fail
      refine HPi.out.mono ?_; rintro e w1 ⟨rfl, rfl⟩
      go_upto_region 4 with (go_at_call 86; refine HPj.out.mono ?_; rintro e w1 ⟨rfl, rfl⟩)
      go_region_held_law (fun w' => Below w.heap.size w w')
        (first | assumption | exact Below.alloc (by assumption) (Below.size (by assumption)) _)
        ((go_at_call 31; refine (HC.out w.drew (by assumption)).mono ?_; rintro e w2 ⟨v2, rfl, hx2, hb2⟩))
      all_goals
        go_wp2_with fail
        go_ret
        exact ⟨_, rfl, hx2, hb2⟩
    · rw [if_neg hcp] at h2
      have HC := Lib.hid (fun w' (hb : Below w.heap.size w w') => rconcat_ch [(.slice (some ⟨b, off, none⟩) p c, t.take p), (.slice (some ⟨b, off + q, none⟩) (t.length - q) (c - q), t.drop q)] (t.take p ++ t.drop q) (by unfold plsOf; simp) hb (by intro q hq; simp only [List.mem_cons, List.not_mem_nil, or_false] at hq; rcases hq with rfl | rfl; exact h1.below hb; exact h2.below hb) hil (by simp) 31 2 2 rfl)
      have i1 : (0 : Int) ≤ (p : Int) := by omega
      have i2 : (p : Int) ≤ (c : Int) := by omega
      have i3 : (q : Int) ≤ (t.length : Int) := by omega
      have i4 : (t.length : Int) ≤ (c : Int) := by omega
      have i5 : (0 : Int) ≤ (q : Int) := by omega
      clear h1 h2 HX
      generalize t.take p ++ t.drop q = r at *
      go_enter Try.func29, Try.ntmps29
      go_wp2_with fail
      refine HPi.out.mono ?_; rintro e w1 ⟨rfl, rfl⟩
      go_upto_region 4 with (go_at_call 86; refine HPj.out.mono ?_; rintro e w1 ⟨rfl, rfl⟩)
      go_region_held_law (fun w' => Below w.heap.size w w')
        (first | assumption | exact Below.alloc (by assumption) (Below.size (by assumption)) _)
        ((go_at_call 31; refine (HC.out w.drew (by assumption)).mono ?_; rintro e w2 ⟨v2, rfl, hx2, hb2⟩))
      all_goals
        go_wp2_with fail
        go_ret
        exact ⟨_, rfl, hx2, hb2⟩

end Go.Proofs.Ytelnehjmkjpjhaa
