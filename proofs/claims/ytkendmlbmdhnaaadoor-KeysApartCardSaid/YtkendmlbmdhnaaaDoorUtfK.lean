/-
  The contracts of the document's own At and Bounds, at this seat's numbers.
-/
import Derived.Test.YtkendmlbmdhnaaaDoorUtfH
import Derived.Test.YtkendmlbmdhnaaaDoorUtfI
import Derived.Test.YtkendmlbmdhnaaaDoorUtfJ
import Derived.Test.YtkendmlbmdhnaaaDoorUtfC
namespace Go.Proofs.YtkendmlbmdhnaaaDoor
open Go Go.RowKit
set_option linter.unusedVariables false

set_option maxRecDepth 100000 in
set_option maxHeartbeats 1000000 in
theorem at_ascii (s : ByteArray) (i : Nat) (w : World) (hs : s.size ≤ maxLen) (hi : i < s.size) (k0 : bt s i < 128) :
    Calls Tryd.prog 26 #[.string s, .int .i64 i] w fun e w' => e = .returned (.tuple #[.int .i64 (rn s i), .int .i64 (wd s i)]) ∧ w = w' := by
  unfold maxLen at hs
  have hc := refC_at s i hi
  have hb0 := bt_get s i hi
  have l0 := bt_lo s i
  generalize rn s i = R at *
  generalize wd s i = K at *
  have hres : R = bt s i ∧ (K : Int) = 1 := by
    unfold refC at hc; rw [if_pos k0] at hc
    exact ⟨(congrArg Prod.fst hc).symm, (congrArg Prod.snd hc).symm⟩
  have HR := Lib.hid hres
  clear hc hres
  have dA : decide (bt s i < 128) = true := decide_eq_true k0
  have dH : decide ((i : Int) < 0) = false := by simp
  have dI : decide (s.size ≤ i) = false := by simp; omega
  go_enter Tryd.func26, Tryd.ntmps26
  go_wp2_with fail
  go_ret2
  exact ⟨ret_two HR.out.1.symm HR.out.2.symm, rfl⟩

theorem below_of_eq {w w' : World} (h : w = w') : Below w.heap.size w w' := by subst h; exact Below.refl _ _

theorem at_in (s : ByteArray) (i : Nat) (w : World) (hs : s.size ≤ maxLen) (hi : i < s.size) :
    Calls Tryd.prog 26 #[.string s, .int .i64 i] w fun e w' => e = .returned (.tuple #[.int .i64 (rn s i), .int .i64 (wd s i)]) ∧ Below w.heap.size w w' := by
  have hS : ∀ {w'' : World} {e : Ending}, (e = .returned (.tuple #[.int .i64 (rn s i), .int .i64 (wd s i)]) ∧ w = w'') → (e = .returned (.tuple #[.int .i64 (rn s i), .int .i64 (wd s i)]) ∧ Below w.heap.size w w'') := fun h => ⟨h.1, below_of_eq h.2⟩
  by_cases a0 : bt s i < 128
  · exact (at_ascii s i w hs hi a0).mono fun e w' h => hS h
  · by_cases a1 : bt s i < 192
    · exact (at_odd s i w hs hi (by omega) (Or.inl a1)).mono fun e w' h => hS h
    · by_cases a2 : bt s i < 224
      · exact (at_two s i w hs hi (by omega) a2).mono fun e w' h => hS h
      · cases m1 : moreB s (i + 1)
        · by_cases a3 : bt s i < 240
          · exact at_three_no s i w hs hi (by omega) a3 (Or.inl m1)
          · by_cases a4 : bt s i < 248
            · exact at_four_no s i w hs hi (by omega) a4 (Or.inl m1)
            · exact (at_odd s i w hs hi (by omega) (Or.inr (by omega))).mono fun e w' h => hS h
        · cases m2 : moreB s (i + 2)
          · by_cases a3 : bt s i < 240
            · exact at_three_no s i w hs hi (by omega) a3 (Or.inr m2)
            · by_cases a4 : bt s i < 248
              · exact at_four_no s i w hs hi (by omega) a4 (Or.inr (Or.inl m2))
              · exact (at_odd s i w hs hi (by omega) (Or.inr (by omega))).mono fun e w' h => hS h
          · by_cases a3 : bt s i < 240
            · exact at_three s i w hs hi (by omega) a3 m1 m2
            · by_cases a4 : bt s i < 248
              · cases m3 : moreB s (i + 3)
                · exact at_four_no s i w hs hi (by omega) a4 (Or.inr (Or.inr m3))
                · exact at_four s i w hs hi (by omega) a4 m1 m2 m3
              · exact (at_odd s i w hs hi (by omega) (Or.inr (by omega))).mono fun e w' h => hS h

theorem at_of (s : ByteArray) (at_ : Int) (w : World) (hs : s.size ≤ maxLen) (g0 : -9223372036854775808 ≤ at_) (g1 : at_ ≤ 9223372036854775807) :
    Calls Tryd.prog 26 #[.string s, .int .i64 at_] w fun e w' => e = .returned (.tuple #[.int .i64 (runeAt s at_), .int .i64 (sizeAt s at_)]) ∧ Below w.heap.size w w' := by
  by_cases h0 : at_ < 0 ∨ (s.size : Int) ≤ at_
  · have e1 : runeAt s at_ = -1 := by unfold runeAt; rw [if_pos h0]
    have e2 : sizeAt s at_ = 0 := by unfold sizeAt; rw [if_pos h0]
    rw [e1, e2]
    clear e1 e2
    unfold maxLen at hs
    rcases h0 with h0 | h0
    · go_enter Tryd.func26, Tryd.ntmps26
      go_wp2_with fail
      go_ret2
      exact ⟨rfl, Below.refl _ _⟩
    · have h0' : ¬ at_ < 0 := by omega
      go_enter Tryd.func26, Tryd.ntmps26
      go_wp2_with fail
      go_ret2
      exact ⟨rfl, Below.refl _ _⟩
  · obtain ⟨i, rfl⟩ := Int.eq_ofNat_of_zero_le (show 0 ≤ at_ by omega)
    have hi : i < s.size := by omega
    have e1 : runeAt s i = rn s i := by unfold runeAt; rw [if_neg (by omega)]; rfl
    have e2 : sizeAt s i = wd s i := by unfold sizeAt; rw [if_neg (by omega)]; rfl
    rw [e1, e2]
    exact at_in s i w hs hi

/-- The boundaries, from the first to the k-th. -/
def bdl (s : ByteArray) (k : Nat) : List Value := (List.range (k + 1)).map fun i => Value.int .i64 (bd s i)
theorem bdl_succ (s : ByteArray) (k : Nat) : bdl s (k + 1) = bdl s k ++ [.int .i64 (bd s (k + 1))] := by
  unfold bdl; rw [List.range_succ, List.map_append]; rfl
theorem bdl_get (s : ByteArray) (k j : Nat) (h : j ≤ k) : (bdl s k)[j]? = some (.int .i64 (bd s j)) := by
  unfold bdl; rw [List.getElem?_map, List.getElem?_range (by omega)]; rfl

theorem own_below {w w' : World} {base size n : Nat} {e : TypeId} {v : Value} {xs : List Value} (h : w.ownsRow base e size v n xs) (hb : Below w.heap.size w w') : w'.ownsRow base e size v n xs :=
  h.kept (row := none) ⟨hb.os, hb.tape, hb.output, hb.size, fun k hk _ => hb.block k hk⟩ (by cases v.ownBlock <;> simp)

/-- A slice that holds the boundaries, made since the world w. -/
def BdRow (B : Nat) (s : ByteArray) (v : Value) (w' : World) : Prop :=
  ∃ b cap, v = .slice (some ⟨b, 0, none⟩) (Lib.runeCount s + 1) cap ∧ B ≤ b ∧ b < w'.heap.size ∧ ∀ j, j ≤ Lib.runeCount s → w'.cell? ⟨b, j, none⟩ = some (.int .i64 (bd s j))
theorem bdRow_of {B : Nat} {s : ByteArray} {v : Value} {w' : World} {e : TypeId} (h : w'.ownsRow B e 1 v (Lib.runeCount s + 1) (bdl s (Lib.runeCount s))) : BdRow B s v w' := by
  rcases h.2 with ⟨_, h0⟩ | ⟨g, cap, cur, rfl, hb, hg, _⟩
  · omega
  · refine ⟨g, cap, rfl, hb, (h.lt g rfl).2, fun j hj => ?_⟩
    have := h.cells (g := g) rfl j _ (bdl_get s _ j hj)
    rw [Addr.add_lit] at this
    rw [← this, Nat.zero_add]

theorem info_int : (Tryd.prog.info? 3).map (fun i => (i.zero, i.size, i.bytes)) = some (some (.int .i64 0), 1, 8) := by kernel_rfl

theorem bd_count_le (s : ByteArray) (k : Nat) (h : ∀ i, i < k → bd s i < s.size) : k ≤ bd s k := by
  induction k with
  | zero => exact Nat.zero_le _
  | succ k ih => have := bd_lt s k (h k (Nat.lt_succ_self _)); have := ih fun i hi => h i (by omega); omega

end Go.Proofs.YtkendmlbmdhnaaaDoor
