/-
  The key behind an operator; a count's next key, at this seat's numbers.
-/
import Derived.Test.YtjmpokgdgnjojaaDoorGrC
namespace Go.Proofs.YtjmpokgdgnjojaaDoor
open Go Go.RowKit
set_option linter.unusedVariables false

section
variable {w : World} {p : Nat} {bg nx : Value} {c : Cm}
set_option maxRecDepth 100000 in
set_option maxHeartbeats 8000000 in
theorem behindOp_of (H : Pr w p bg c nx) (hct : 0 ≤ c.ct ∧ c.ct ≤ 9999) (k way : Int) (r : Bool) : Calls Tryd.prog 45 #[cmP p, pressV k way r] w (SRes w p bg nx (bopF c k)) := by
  have B0 : Below (w.heap.size + 1) (w.alloc (pressO k way r)) (w.alloc (pressO k way r)) := Below.refl _ _
  obtain ⟨⟨k0, k1, k2⟩, P0, G0⟩ := H.keep k way r B0
  obtain ⟨c1, c2, c3, c4, c5, f1, f2, f3, f4, f5⟩ := P0.cs
  unfold bopF
  have HW := Lib.hid (fun w => within_of k 49 57 w)
  by_cases hd : 49 ≤ k ∧ k ≤ 57
  · rw [if_pos hd]
    rw [decide_eq_true hd] at HW
    have G0d : GMv p w (w.alloc (pressO k way r)).drew := G0.trans (GMv.of_below (Below.refl _ _).drew)
    have P0d : Pr (w.alloc (pressO k way r)).drew p bg c nx := P0
    have HK : Hid (∀ w2 b3 b4 b5, Below (w.alloc (pressO k way r)).heap.size (w.alloc (pressO k way r)).drew w2 → CtV w2 b3 b4 b5 (if 1 ≤ c.ct then c.ct else 1) 0 true →
        (w2.cell? ⟨w.heap.size, 0, none⟩ = some (.int .i64 k) ∧ w2.cell? ⟨w.heap.size, 1, none⟩ = some (.int .i64 way) ∧ w2.cell? ⟨w.heap.size, 2, none⟩ = some (.bool r)) ∧
        Calls Tryd.prog 40 #[cmP p, pressV k way r, pbox b5, pbox b4, pbox b3] w2 (SRes w p bg nx (digF c (if 1 ≤ c.ct then c.ct else 1) 0 true k))) := Lib.hid fun w2 b3 b4 b5 hb hc => by
      have hb1 : Below (w.heap.size + 1) (w.alloc (pressO k way r)) w2 := by have := ((Below.refl _ (w.alloc (pressO k way r))).drew).trans hb; simpa using this
      obtain ⟨hk, P2, G2⟩ := H.keep k way r hb1
      exact ⟨hk, (digit_of P2 hc (by split <;> omega) (by omega) (by omega) way r).mono fun e w' h => G2.then h⟩
    have HC := fun a => Lib.hid (counting_of a 0 true (w.alloc (pressO k way r)).drew)
    by_cases h1 : 1 ≤ c.ct
    · rw [if_pos h1] at HK ⊢
      have HC := HC c.ct
      have hmx : max c.ct 1 = c.ct := by omega
      generalize c.ct = ct at *
      clear B0 P0 G0 H P0d G0d hd
      go_enter Tryd.func45, Tryd.ntmps45
      go_wp2_with fail
      refine (HW.out _).mono ?_; rintro e _ ⟨rfl, rfl⟩
      go_wp2_with fail
      go_region_with (first
        | (go_at_call 29
           refine HC.out.mono ?_
           rintro e w2 ⟨b3, b4, b5, rfl, hc, hb, _⟩
           obtain ⟨⟨x0, x1, x2⟩, hD⟩ := HK.out w2 b3 b4 b5 hb hc
           have HD := Lib.hid hD
           clear hc hb hD)
        | (go_at_call 40
           refine HD.out.mono ?_
           rintro e w3 ⟨fv, rfl, h1, h2, h3⟩
           have HR := Lib.hid (And.intro h1 (And.intro h2 h3))
           clear h1 h2 h3))
      all_goals
        go_wp2_with fail
        go_ret2
        exact ⟨_, rfl, HR.out⟩
    · have hz : c.ct = 0 := by omega
      rw [if_neg h1] at HK ⊢
      rw [hz] at c3
      have HC := HC 1
      clear B0 P0 G0 H P0d G0d hd
      go_enter Tryd.func45, Tryd.ntmps45
      go_wp2_with fail
      refine (HW.out _).mono ?_; rintro e _ ⟨rfl, rfl⟩
      go_wp2_with fail
      go_region_with (first
        | (go_at_call 29
           refine HC.out.mono ?_
           rintro e w2 ⟨b3, b4, b5, rfl, hc, hb, _⟩
           obtain ⟨⟨x0, x1, x2⟩, hD⟩ := HK.out w2 b3 b4 b5 hb hc
           have HD := Lib.hid hD
           clear hc hb hD)
        | (go_at_call 40
           refine HD.out.mono ?_
           rintro e w3 ⟨fv, rfl, h1, h2, h3⟩
           have HR := Lib.hid (And.intro h1 (And.intro h2 h3))
           clear h1 h2 h3))
      all_goals
        go_wp2_with fail
        go_ret2
        exact ⟨_, rfl, HR.out⟩
  · rw [if_neg hd]
    rw [decide_eq_false hd] at HW
    have HV := Lib.hid (operand_of P0 k way r)
    have HG := Lib.hid G0
    clear B0 P0 G0 H hd
    go_enter Tryd.func45, Tryd.ntmps45
    go_wp2_with fail
    refine (HW.out _).mono ?_; rintro e _ ⟨rfl, rfl⟩
    go_wp2_with fail
    refine HV.out.mono ?_; rintro e w3 hr
    obtain ⟨fv, rfl, h1, h2, h3⟩ := HG.out.then hr
    have HR := Lib.hid (And.intro h1 (And.intro h2 h3))
    clear hr h1 h2 h3
    go_wp2_with fail
    go_ret2
    exact ⟨_, rfl, HR.out⟩

/-- A count's next key. -/
def cntF (c : Cm) (a n : Int) (o : Bool) (k way : Int) (r : Bool) : Option Stp × Int × Cm := if 48 ≤ k ∧ k ≤ 57 then digF c a n o k else if o = true then opF c k else begF c k way r
set_option maxRecDepth 100000 in
set_option maxHeartbeats 4000000 in
theorem count_of (H : Pr w p bg c nx) {b3 b4 b5 : Nat} {a n : Int} {o : Bool} (hs : CtV w b3 b4 b5 a n o) (hct : 0 ≤ c.ct ∧ c.ct ≤ 9999) (ha : 1 ≤ a ∧ a ≤ 9999) (hn : 0 ≤ n ∧ n ≤ 9999) (k way : Int) (r : Bool) :
    Calls Tryd.prog 40 #[cmP p, pressV k way r, pbox b5, pbox b4, pbox b3] w (SRes w p bg nx (cntF c a n o k way r)) := by
  unfold cntF
  by_cases hk : 48 ≤ k ∧ k ≤ 57
  · rw [if_pos hk]; exact digit_of H hs ha hn hk way r
  · rw [if_neg hk]
    have B0 : Below (w.heap.size + 1) (w.alloc (pressO k way r)) (w.alloc (pressO k way r)) := Below.refl _ _
    obtain ⟨⟨k0, k1, k2⟩, P0, G0⟩ := H.keep k way r B0
    obtain ⟨c1, c2, c3, c4, c5, f1, f2, f3, f4, f5⟩ := P0.cs
    obtain ⟨d3, d4, d5⟩ := (hs.below (t_al w (pressO k way r))).cs
    have HW := Lib.hid (fun w => within_of k 48 57 w)
    rw [decide_eq_false hk] at HW
    have HG := Lib.hid G0
    cases o
    · rw [if_neg (by simp)]
      have HV := Lib.hid (begin_of P0 hct k way r)
      clear B0 P0 G0 H hk hs
      go_enter Tryd.func40, Tryd.ntmps40
      go_wp2_with fail
      refine (HW.out _).mono ?_; rintro e _ ⟨rfl, rfl⟩
      go_wp2_with fail
      refine HV.out.mono ?_; rintro e w3 hr
      obtain ⟨fv, rfl, h1, h2, h3⟩ := HG.out.then hr
      have HR := Lib.hid (And.intro h1 (And.intro h2 h3))
      clear hr h1 h2 h3
      go_wp2_with fail
      go_ret2
      exact ⟨_, rfl, HR.out⟩
    · rw [if_pos rfl]
      have HV := Lib.hid (operand_of P0 k way r)
      clear B0 P0 G0 H hk hs
      go_enter Tryd.func40, Tryd.ntmps40
      go_wp2_with fail
      refine (HW.out _).mono ?_; rintro e _ ⟨rfl, rfl⟩
      go_wp2_with fail
      refine HV.out.mono ?_; rintro e w3 hr
      obtain ⟨fv, rfl, h1, h2, h3⟩ := HG.out.then hr
      have HR := Lib.hid (And.intro h1 (And.intro h2 h3))
      clear hr h1 h2 h3
      go_wp2_with fail
      go_ret2
      exact ⟨_, rfl, HR.out⟩
end
end Go.Proofs.YtjmpokgdgnjojaaDoor
