/-
  The walk of WalkBack.
-/
import Derived.Test.YtofncnommekbjaaWkP
import Derived.Deep.RegionHeldLaw
import Derived.Deep.CutRange
namespace Go.Proofs.Ytofncnommekbjaa
open Go Go.RowKit
set_option linter.unusedVariables false

theorem slV_nat {α : Type} (L : List α) {i j : Nat} (hij : i ≤ j) (hj : j ≤ L.length) : slV L (i : Int) (j : Int) = (L.take j).drop i := by
  unfold slV
  rw [heldN_nat hj, List.length_take, Nat.min_eq_left hj, heldN_nat hij]
theorem spV_nat {α : Type} (L M : List α) {i j : Nat} (hij : i ≤ j) (hj : j ≤ L.length) : spV L (i : Int) (j : Int) M = L.take i ++ M ++ L.drop j := by
  unfold spV
  rw [heldN_nat (by omega), show max (i : Int) (j : Int) = (j : Int) by omega, heldN_nat hj]
theorem whole3 {α : Type} (L : List α) {i j : Nat} (hij : i ≤ j) : L.take i ++ (L.take j).drop i ++ L.drop j = L := by
  have h : L.take i = (L.take j).take i := by rw [List.take_take, Nat.min_eq_left hij]
  rw [h, List.take_append_drop, List.take_append_drop]
theorem back_sp {α : Type} (L : List α) {i j : Nat} (hij : i ≤ j) (hj : j ≤ L.length) : spV (spV L (i : Int) (j : Int) []) (i : Int) (i : Int) (slV L (i : Int) (j : Int)) = L := by
  have hl : (L.take i).length = i := by rw [List.length_take]; omega
  rw [slV_nat L hij hj, spV_nat L [] hij hj, List.append_nil, spV_nat _ _ (Nat.le_refl i) (by rw [List.length_append, hl]; omega), List.take_left' hl, List.drop_left' hl]
  exact whole3 L hij
theorem back_mv {α : Type} (L : List α) {i j t k : Nat} (hij : i ≤ j) (hj : j ≤ L.length) (ht : t + (j - i) ≤ L.length) (hk : k = t + (j - i)) : mvV (mvV L (i : Int) (j : Int) (t : Int)) (t : Int) (k : Int) (i : Int) = L := by
  subst hk
  have hl : (L.take i).length = i := by rw [List.length_take]; omega
  obtain ⟨A, hA⟩ : ∃ A, L.take i ++ L.drop j = A := ⟨_, rfl⟩
  have hAl : A.length = L.length - (j - i) := by rw [← hA, List.length_append, hl, List.length_drop]; omega
  obtain ⟨S, hS⟩ : ∃ S, (L.take j).drop i = S := ⟨_, rfl⟩
  have hSl : S.length = j - i := by rw [← hS, List.length_drop, List.length_take]; omega
  have h1 : mvV L (i : Int) (j : Int) (t : Int) = A.take t ++ S ++ A.drop t := by
    unfold mvV
    rw [slV_nat L hij hj, spV_nat L [] hij hj, List.append_nil, hA, hS, spV_nat _ _ (Nat.le_refl t) (by omega)]
  have hB : (A.take t).length = t := by rw [List.length_take]; omega
  have hl2 : (A.take t ++ S ++ A.drop t).length = L.length := by simp only [List.length_append, hB, List.length_drop, hAl, hSl]; omega
  have hB2 : (A.take t ++ S).length = t + (j - i) := by rw [List.length_append, hB, hSl]
  rw [h1]
  unfold mvV
  rw [slV_nat _ (Nat.le_add_right _ _) (by rw [hl2]; exact ht), spV_nat _ [] (Nat.le_add_right _ _) (by rw [hl2]; exact ht), List.append_nil, List.take_left' hB2, List.drop_left' hB2, List.drop_left' hB, List.append_assoc, List.take_left' hB, List.take_append_drop, spV_nat _ _ (Nat.le_refl i) (by omega), ← hA, List.take_left' hl, List.drop_left' hl, ← hS]
  exact whole3 L hij

/-- What stands on the way through WalkBack. -/
structure Bk (w : World) (g : Nat) (x1 a : Option Addr) (c : Nat) (l : List Int) (W : World) : Prop where
  below : Below w.heap.size w W
  lt : g < W.heap.size
  q1 : W.cell? ⟨g, 0, none⟩ = some (.pointer x1)
  t1 : Tin W 95 (.pointer x1) (nums l)
  s1 : Sl W a c (nums l)
theorem Bk.grow {w W W' : World} {g : Nat} {x1 a : Option Addr} {c : Nat} {l : List Int} (h : Bk w g x1 a c l W) (hb : Below W.heap.size W W') : Bk w g x1 a c l W' :=
  ⟨h.below.trans (hb.mono h.below.size), Nat.lt_of_lt_of_le h.lt hb.size, (hb.cell (p := ⟨g, 0, none⟩) h.lt).trans h.q1, h.t1.below hb, h.s1.below hb⟩
theorem bal {b : Nat} {w W : World} (h : Below b w W) (hb : b ≤ W.heap.size) (o : Obj) : Below b w (W.alloc o) := h.trans ((t_al W o).mono hb)
theorem mvV_len {α : Type} (L : List α) (I K T : Int) : (mvV L I K T).length ≤ 6 * L.length := by
  unfold mvV
  have h1 := spV_len (spV L I K []) (slV L I K) T T
  have h2 := spV_len L [] I K
  have h3 := slV_len L I K
  rw [List.length_nil] at h2
  omega

end Go.Proofs.Ytofncnommekbjaa
