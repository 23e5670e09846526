/-
  Grammar's counts; the first key of a command; the key behind an operator, at this seat's numbers.
-/
import Derived.Test.YtjmpokgdgnjojaaDoorGrB
namespace Go.Proofs.YtjmpokgdgnjojaaDoor
open Go Go.RowKit
set_option linter.unusedVariables false

/-- A digit more of a count. -/
def digF (c : Cm) (a n : Int) (o : Bool) (k : Int) : Option Stp × Int × Cm :=
  if 9999 < a * (10 * n + k - 48) then (none, 5, c) else (some (.count a (10 * n + k - 48) o), 0, { c with ct := a * (10 * n + k - 48) })
def CtV (w : World) (b3 b4 b5 : Nat) (a n : Int) (o : Bool) : Prop :=
  w.heap[b3]? = some (.cells #[.int .i64 a] 3 (0, 0)) ∧ w.heap[b4]? = some (.cells #[.int .i64 n] 3 (0, 0)) ∧ w.heap[b5]? = some (.cells #[thenV o] 42 (0, 0))
theorem CtV.below {w w' : World} {b3 b4 b5 : Nat} {a n : Int} {o : Bool} (h : CtV w b3 b4 b5 a n o) (hb : Below w.heap.size w w') : CtV w' b3 b4 b5 a n o :=
  ⟨(hb.block _ (lt_of_heap h.1)).trans h.1, (hb.block _ (lt_of_heap h.2.1)).trans h.2.1, (hb.block _ (lt_of_heap h.2.2)).trans h.2.2⟩
theorem CtV.cs {w : World} {b3 b4 b5 : Nat} {a n : Int} {o : Bool} (h : CtV w b3 b4 b5 a n o) : w.cell? ⟨b3, 0, none⟩ = some (.int .i64 a) ∧ w.cell? ⟨b4, 0, none⟩ = some (.int .i64 n) ∧ w.cell? ⟨b5, 0, none⟩ = some (thenV o) :=
  ⟨by rw [cell_at h.1]; rfl, by rw [cell_at h.2.1]; rfl, by rw [cell_at h.2.2]; rfl⟩
theorem CtV.set {w : World} {p i : Nat} {u : Value} {b3 b4 b5 : Nat} {a n : Int} {o : Bool} {cs : Array Value} {fr : Nat × Nat} (h : CtV w b3 b4 b5 a n o) (hp : w.heap[p]? = some (.cells cs 44 fr)) : CtV (w.setCell ⟨p, i, none⟩ u) b3 b4 b5 a n o := by
  obtain ⟨h3, h4, h5⟩ := h
  refine ⟨(heap_set_other (fun e => ?_)).trans h3, (heap_set_other (fun e => ?_)).trans h4, (heap_set_other (fun e => ?_)).trans h5⟩
  · subst e; rw [hp] at h3; cases h3
  · subst e; rw [hp] at h4; cases h4
  · subst e; rw [hp] at h5; cases h5
abbrev cntV (b3 b4 b5 : Nat) : Value := .func (.func 40) #[] #[pbox b5, pbox b4, pbox b3]

theorem counting_of (a n : Int) (o : Bool) (w : World) : Calls Tryd.prog 29 #[.int .i64 a, .int .i64 n, thenV o] w fun e w' => ∃ b3 b4 b5, e = .returned (cntV b3 b4 b5) ∧ CtV w' b3 b4 b5 a n o ∧ Below w.heap.size w w' ∧ w.heap.size ≤ b3 ∧ w.heap.size ≤ b4 ∧ w.heap.size ≤ b5 := by
  have z1 : (w.alloc (.cells #[.int .i64 a] 3)).heap.size = w.heap.size + 1 := by simp
  have z2 : ((w.alloc (.cells #[.int .i64 a] 3)).alloc (.cells #[.int .i64 n] 3)).heap.size = w.heap.size + 1 + 1 := by simp
  have HC : Hid (CtV (((w.alloc (.cells #[.int .i64 a] 3)).alloc (.cells #[.int .i64 n] 3)).alloc (.cells #[thenV o] 42)) w.heap.size (w.heap.size + 1) (w.heap.size + 1 + 1) a n o) := by
    refine ⟨?_, ?_, ?_⟩
    · rw [(t_al _ _).block _ (by rw [z2]; omega)]; exact heap_mid w _ _
    · rw [← z1]; exact heap_mid _ _ _
    · rw [← z2]; exact heap_alloc_new _ _
  have HB := Lib.hid (((t_al w (.cells #[.int .i64 a] 3)).alloc (by rw [z1]; omega) (.cells #[.int .i64 n] 3)).alloc (by rw [z2]; omega) (.cells #[thenV o] 42))
  clear z1 z2
  cases o
  all_goals
    go_enter Tryd.func29, Tryd.ntmps29
    go_wp2_with fail
    go_ret
    exact ⟨_, _, _, rfl, HC.out, HB.out, Nat.le_refl _, by omega, by omega⟩

section
variable {w : World} {p : Nat} {bg nx : Value} {c : Cm}
set_option maxRecDepth 100000 in
set_option maxHeartbeats 4000000 in
theorem digit_of (H : Pr w p bg c nx) {b3 b4 b5 : Nat} {a n : Int} {o : Bool} (hs : CtV w b3 b4 b5 a n o) (ha : 1 ≤ a ∧ a ≤ 9999) (hn : 0 ≤ n ∧ n ≤ 9999) {k : Int} (hk : 48 ≤ k ∧ k ≤ 57) (way : Int) (r : Bool) :
    Calls Tryd.prog 40 #[cmP p, pressV k way r, pbox b5, pbox b4, pbox b3] w (SRes w p bg nx (digF c a n o k)) := by
  have B0 : Below (w.heap.size + 1) (w.alloc (pressO k way r)) (w.alloc (pressO k way r)) := Below.refl _ _
  obtain ⟨⟨k0, k1, k2⟩, P0, G0⟩ := H.keep k way r B0
  obtain ⟨c1, c2, c3, c4, c5, f1, f2, f3, f4, f5⟩ := P0.cs
  have C0 := hs.below (t_al w (pressO k way r))
  obtain ⟨d3, d4, d5⟩ := C0.cs
  have HW := Lib.hid (fun w => within_of k 48 57 w)
  rw [decide_eq_true hk] at HW
  obtain ⟨m, hm⟩ : ∃ m, 10 * n + k - 48 = m := ⟨_, rfl⟩
  have hm0 : 0 ≤ m ∧ m ≤ 99999 := by omega
  obtain ⟨q, hq⟩ : ∃ q, a * m = q := ⟨_, rfl⟩
  have hq0 : 0 ≤ q ∧ q ≤ 999890001 := by
    rw [← hq]
    refine ⟨Int.mul_nonneg (by omega) hm0.1, ?_⟩
    calc a * m ≤ 9999 * m := Int.mul_le_mul_of_nonneg_right ha.2 hm0.1
      _ ≤ 9999 * 99999 := Int.mul_le_mul_of_nonneg_left hm0.2 (by omega)
  unfold digF
  rw [hm, hq]
  obtain ⟨hk1, hk2⟩ := hk
  obtain ⟨hm1, hm2⟩ := hm0
  obtain ⟨hq1, hq2⟩ := hq0
  obtain ⟨hn1, hn2⟩ := hn
  obtain ⟨ha1, ha2⟩ := ha
  by_cases hgt : 9999 < q
  · have d : decide (9999 < q) = true := decide_eq_true hgt
    rw [if_pos hgt]
    have HP := Lib.hid (And.intro P0 G0)
    clear B0 P0 G0 C0 H hs
    go_enter Tryd.func40, Tryd.ntmps40
    go_wp2_with fail
    refine (HW.out _).mono ?_; rintro e _ ⟨rfl, rfl⟩
    go_wp2_with fail
    go_ret2
    exact ⟨_, rfl, rfl, HP.out⟩
  · have d : decide (9999 < q) = false := decide_eq_false hgt
    rw [if_neg hgt]
    have C1 := C0.set (i := 3) (u := .int .i64 q) P0
    obtain ⟨e3, e4, e5⟩ := C1.cs
    have P1 : Pr ((w.alloc (pressO k way r)).setCell ⟨p, 3, none⟩ (.int .i64 q)) p bg { c with ct := q } nx := heap_set_at P0
    have G1 : GMv p w ((w.alloc (pressO k way r)).setCell ⟨p, 3, none⟩ (.int .i64 q)) := G0.trans GMv.set
    have HC := Lib.hid (counting_of a m o ((w.alloc (pressO k way r)).setCell ⟨p, 3, none⟩ (.int .i64 q)))
    have HP := Lib.hid (And.intro P1 G1)
    clear B0 P0 G0 C0 H hs C1 P1 G1
    generalize thenV o = tv at *
    go_enter Tryd.func40, Tryd.ntmps40
    go_wp2_with fail
    refine (HW.out _).mono ?_; rintro e _ ⟨rfl, rfl⟩
    go_wp2_with fail
    refine HC.out.mono ?_; rintro e w2 ⟨x3, x4, x5, rfl, hc, hb, hx⟩
    have hz : ((w.alloc (pressO k way r)).setCell ⟨p, 3, none⟩ (.int .i64 q)).heap.size = w.heap.size + 1 := by rw [size_set]; simp
    rw [hz] at hx
    have HR := Lib.hid (And.intro hc (And.intro hb hx))
    clear hc hb hx hz
    go_wp2_with fail
    go_ret2
    exact ⟨_, rfl, ⟨_, _, _, rfl, HR.out.1.1, HR.out.1.2.1, HR.out.1.2.2, by have := HR.out.2.2.1; show w.heap.size ≤ _; omega, by have := HR.out.2.2.2.1; show w.heap.size ≤ _; omega, by have := HR.out.2.2.2.2; show w.heap.size ≤ _; omega⟩, HP.out.1.below HR.out.2.1, HP.out.2.trans (GMv.of_below HR.out.2.1)⟩

/-- The first key of a command. -/
def begF (c : Cm) (k way : Int) (r : Bool) : Option Stp × Int × Cm :=
  if k = 34 then (some .register, 0, c) else if 49 ≤ k ∧ k ≤ 57 then digF c (if 1 ≤ c.ct then c.ct else 1) 0 false k else if way = 1 then visF c k else normF c k r
/-- The key behind an operator. -/
def bopF (c : Cm) (k : Int) : Option Stp × Int × Cm := if 49 ≤ k ∧ k ≤ 57 then digF c (if 1 ≤ c.ct then c.ct else 1) 0 true k else opF c k

set_option maxRecDepth 100000 in
set_option maxHeartbeats 8000000 in
theorem begin_of (H : Pr w p bg c nx) (hct : 0 ≤ c.ct ∧ c.ct ≤ 9999) (k way : Int) (r : Bool) : Calls Tryd.prog 15 #[cmP p, pressV k way r] w (SRes w p bg nx (begF c k way r)) := by
  have B0 : Below (w.heap.size + 1) (w.alloc (pressO k way r)) (w.alloc (pressO k way r)) := Below.refl _ _
  obtain ⟨⟨k0, k1, k2⟩, P0, G0⟩ := H.keep k way r B0
  obtain ⟨c1, c2, c3, c4, c5, f1, f2, f3, f4, f5⟩ := P0.cs
  unfold begF
  by_cases h34 : k = 34
  · subst h34
    rw [if_pos rfl]
    have HP := Lib.hid (And.intro P0 G0)
    clear B0 P0 G0 H
    go_enter Tryd.func15, Tryd.ntmps15
    go_wp2_with fail
    go_ret2
    exact ⟨_, rfl, rfl, HP.out⟩
  · rw [if_neg h34]
    have z34 : (k == 34) = false := beq_eq_false_iff_ne.2 h34
    have HW := Lib.hid (fun w => within_of k 49 57 w)
    by_cases hd : 49 ≤ k ∧ k ≤ 57
    · rw [if_pos hd]
      rw [decide_eq_true hd] at HW
      have G0d : GMv p w (w.alloc (pressO k way r)).drew := G0.trans (GMv.of_below (Below.refl _ _).drew)
      have P0d : Pr (w.alloc (pressO k way r)).drew p bg c nx := P0
      have HK : Hid (∀ w2 b3 b4 b5, Below (w.alloc (pressO k way r)).heap.size (w.alloc (pressO k way r)).drew w2 → CtV w2 b3 b4 b5 (if 1 ≤ c.ct then c.ct else 1) 0 false →
          (w2.cell? ⟨w.heap.size, 0, none⟩ = some (.int .i64 k) ∧ w2.cell? ⟨w.heap.size, 1, none⟩ = some (.int .i64 way) ∧ w2.cell? ⟨w.heap.size, 2, none⟩ = some (.bool r)) ∧
          Calls Tryd.prog 40 #[cmP p, pressV k way r, pbox b5, pbox b4, pbox b3] w2 (SRes w p bg nx (digF c (if 1 ≤ c.ct then c.ct else 1) 0 false k))) := Lib.hid fun w2 b3 b4 b5 hb hc => by
        have hb1 : Below (w.heap.size + 1) (w.alloc (pressO k way r)) w2 := by have := ((Below.refl _ (w.alloc (pressO k way r))).drew).trans hb; simpa using this
        obtain ⟨hk, P2, G2⟩ := H.keep k way r hb1
        exact ⟨hk, (digit_of P2 hc (by split <;> omega) (by omega) (by omega) way r).mono fun e w' h => G2.then h⟩
      have HC := fun a => Lib.hid (counting_of a 0 false (w.alloc (pressO k way r)).drew)
      by_cases h1 : 1 ≤ c.ct
      · rw [if_pos h1] at HK ⊢
        have HC := HC c.ct
        have hmx : max c.ct 1 = c.ct := by omega
        generalize c.ct = ct at *
        clear B0 P0 G0 H P0d G0d hd
        go_enter Tryd.func15, Tryd.ntmps15
        go_wp2_with fail
        refine (HW.out _).mono ?_; rintro e _ ⟨rfl, rfl⟩
        go_wp2_with fail
        go_region_with (first
          | (go_at_call 29
             refine HC.out.mono ?_
             rintro e w2 ⟨b3, b4, b5, rfl, hc, hb, _⟩
             obtain ⟨⟨x0, x1, x2⟩, hD⟩ := HK.out w2 b3 b4 b5 hb hc
             have HD := Lib.hid hD
             clear hc hb hD)
          | (go_at_call 40
             refine HD.out.mono ?_
             rintro e w3 ⟨fv, rfl, h1, h2, h3⟩
             have HR := Lib.hid (And.intro h1 (And.intro h2 h3))
             clear h1 h2 h3))
        all_goals
          go_wp2_with fail
          go_ret2
          exact ⟨_, rfl, HR.out⟩
      · have hz : c.ct = 0 := by omega
        rw [if_neg h1] at HK ⊢
        rw [hz] at c3
        have HC := HC 1
        clear B0 P0 G0 H P0d G0d hd
        go_enter Tryd.func15, Tryd.ntmps15
        go_wp2_with fail
        refine (HW.out _).mono ?_; rintro e _ ⟨rfl, rfl⟩
        go_wp2_with fail
        go_region_with (first
          | (go_at_call 29
             refine HC.out.mono ?_
             rintro e w2 ⟨b3, b4, b5, rfl, hc, hb, _⟩
             obtain ⟨⟨x0, x1, x2⟩, hD⟩ := HK.out w2 b3 b4 b5 hb hc
             have HD := Lib.hid hD
             clear hc hb hD)
          | (go_at_call 40
             refine HD.out.mono ?_
             rintro e w3 ⟨fv, rfl, h1, h2, h3⟩
             have HR := Lib.hid (And.intro h1 (And.intro h2 h3))
             clear h1 h2 h3))
        all_goals
          go_wp2_with fail
          go_ret2
          exact ⟨_, rfl, HR.out⟩
    · rw [if_neg hd]
      rw [decide_eq_false hd] at HW
      by_cases hw : way = 1
      · rw [if_pos hw]
        subst hw
        have HV := Lib.hid (visual_of P0 k 1 r)
        have HG := Lib.hid G0
        clear B0 P0 G0 H hd
        go_enter Tryd.func15, Tryd.ntmps15
        go_wp2_with fail
        refine (HW.out _).mono ?_; rintro e _ ⟨rfl, rfl⟩
        go_wp2_with fail
        refine HV.out.mono ?_; rintro e w3 hr
        obtain ⟨fv, rfl, h1, h2, h3⟩ := HG.out.then hr
        have HR := Lib.hid (And.intro h1 (And.intro h2 h3))
        clear hr h1 h2 h3
        go_wp2_with fail
        go_ret2
        exact ⟨_, rfl, HR.out⟩
      · rw [if_neg hw]
        have zw : (way == 1) = false := beq_eq_false_iff_ne.2 hw
        have HV := Lib.hid (normal_of P0 k way r)
        have HG := Lib.hid G0
        clear B0 P0 G0 H hd
        go_enter Tryd.func15, Tryd.ntmps15
        go_wp2_with fail
        refine (HW.out _).mono ?_; rintro e _ ⟨rfl, rfl⟩
        go_wp2_with fail
        refine HV.out.mono ?_; rintro e w3 hr
        obtain ⟨fv, rfl, h1, h2, h3⟩ := HG.out.then hr
        have HR := Lib.hid (And.intro h1 (And.intro h2 h3))
        clear hr h1 h2 h3
        go_wp2_with fail
        go_ret2
        exact ⟨_, rfl, HR.out⟩
end
end Go.Proofs.YtjmpokgdgnjojaaDoor
