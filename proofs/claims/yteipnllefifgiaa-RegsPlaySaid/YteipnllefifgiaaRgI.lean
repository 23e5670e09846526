/-
  Registers in memory; New, of, Get; at this seat's numbers.
-/
import Derived.Test.YteipnllefifgiaaRgG
import Derived.Test.YteipnllefifgiaaRgH
namespace Go.Proofs.Yteipnllefifgiaa
open Go Go.RowKit
set_option linter.unusedVariables false

/-- A register as it lies. -/
structure Rv where
  k : Int
  a : Option Addr
  c : Nat
  T : List TxM
def rvC (r : Rv) : List Value := [.int .i64 r.k, .slice r.a r.T.length r.c]
def rvs (R : List Rv) : List Value := R.flatMap rvC
def rv0 : Rv := ⟨0, none, 0, []⟩
theorem rvs_at {R : List Rv} {i : Nat} {r : Rv} (h : R[i]? = some r) : (rvs R)[i * 2]? = some (.int .i64 r.k) ∧ (rvs R)[i * 2 + 1]? = some (.slice r.a r.T.length r.c) := by
  induction R generalizing i with
  | nil => simp at h
  | cons x R ih =>
    cases i with
    | zero => simp at h; subst h; exact ⟨rfl, rfl⟩
    | succ i =>
      have := ih (i := i) (by simpa using h)
      have e : rvs (x :: R) = .int .i64 x.k :: .slice x.a x.T.length x.c :: rvs R := rfl
      rw [e, show (i + 1) * 2 = i * 2 + 2 by omega, show i * 2 + 2 + 1 = (i * 2 + 1) + 2 by omega]
      simpa using this
theorem rvs_set (R : List Rv) (i : Nat) (r : Rv) : ((rvs R).set (i * 2) (.int .i64 r.k)).set (i * 2 + 1) (.slice r.a r.T.length r.c) = rvs (R.set i r) := by
  induction R generalizing i with
  | nil => simp [rvs]
  | cons x R ih =>
    have e : rvs (x :: R) = .int .i64 x.k :: .slice x.a x.T.length x.c :: rvs R := rfl
    cases i with
    | zero => rw [e]; rfl
    | succ i =>
      rw [e, show (i + 1) * 2 = i * 2 + 1 + 1 by omega, show i * 2 + 1 + 1 + 1 = (i * 2 + 1) + 1 + 1 by omega]
      rw [List.set_cons_succ, List.set_cons_succ, List.set_cons_succ, List.set_cons_succ, ih]
      rfl

/-- Registers: at block b, their texts from lo on, ahead of hi. -/
structure Rg (w : World) (t : TypeId) (lo hi b : Nat) (R : List Rv) : Prop where
  len : R.length = 27
  obj : w.heap[b]? = some (.cells (rvs R).toArray t (0, 0))
  mx : ∀ r ∈ R, Mx w lo hi r.a r.c r.T
  few : ∀ r ∈ R, r.T.length ≤ 400 ∧ szM (txL r.T) ≤ 4096
  bl : b < lo
  hi_ : hi ≤ w.heap.size
theorem thin_of {M : List (List ByteArray)} (h : szM M ≤ 1000000) : Thin M := fun l hl => by
  obtain ⟨k, hk⟩ := List.mem_iff_getElem?.1 hl
  have h1 := szM_take hk
  have h2 := szM_le (M := M) (k + 1)
  have h3 := szL_len l
  omega
theorem Rg.keep {w w' : World} {t lo hi b : Nat} {R : List Rv} (h : Rg w t lo hi b R) (k : Keep lo hi w w') (e : w'.heap[b]? = w.heap[b]?) : Rg w' t lo hi b R :=
  ⟨h.len, e.trans h.obj, fun r hr => (h.mx r hr).keep k, h.few, h.bl, Nat.le_trans h.hi_ k.size⟩
theorem Rg.below {w w' : World} {t lo hi b : Nat} {R : List Rv} (h : Rg w t lo hi b R) (k : Below w.heap.size w w') : Rg w' t lo hi b R := h.keep (Keep.of_below k) (k.block b (lt_of_heap h.obj))
theorem Rg.mono {w : World} {t lo hi hi' b : Nat} {R : List Rv} (h : Rg w t lo hi b R) (h1 : hi ≤ hi') (h2 : hi' ≤ w.heap.size) : Rg w t lo hi' b R :=
  ⟨h.len, h.obj, fun r hr => (h.mx r hr).mono (Nat.le_refl _) h1, h.few, h.bl, h2⟩
theorem Rg.cell {w : World} {t lo hi b : Nat} {R : List Rv} (h : Rg w t lo hi b R) {i : Nat} {r : Rv} (hr : R[i]? = some r) : w.cell? ⟨b, i * 2, none⟩ = some (.int .i64 r.k) ∧ w.cell? ⟨b, i * 2 + 1, none⟩ = some (.slice r.a r.T.length r.c) := by
  obtain ⟨h1, h2⟩ := rvs_at hr
  exact ⟨by rw [cell_at h.obj, List.getElem?_toArray]; exact h1, by rw [cell_at h.obj, List.getElem?_toArray]; exact h2⟩
theorem Rg.get {w : World} {t lo hi b : Nat} {R : List Rv} (h : Rg w t lo hi b R) {i : Nat} (hi : i < 27) : ∃ r, R[i]? = some r := ⟨_, List.getElem?_eq_getElem (by rw [h.len]; exact hi)⟩
theorem Rg.lt {w : World} {t lo hi b : Nat} {R : List Rv} (h : Rg w t lo hi b R) : b < w.heap.size := lt_of_heap h.obj

/-- Which register a name means: those of the letters, the last one, none. -/
def regI (x : Int) : Option Nat := if 0 ≤ letK x then some (letK x).toNat else if x = 0 then some 26 else none
def regA (b : Nat) (x : Int) : Option Addr := (regI x).map fun i => ⟨b, i * 2, none⟩
theorem regI_lt {x : Int} {i : Nat} (h : regI x = some i) : i < 27 := by
  unfold regI at h
  have := letK_hi x
  split at h
  · cases h; omega
  · split at h
    · cases h; omega
    · cases h

set_option maxRecDepth 100000 in
theorem rof_of (b : Nat) (x : Int) (w : World) : Calls Try.prog 28 #[.pointer (some ⟨b, 0, none⟩), .int .i64 x] w fun e w' => e = .returned (.pointer (regA b x)) ∧ w = w' := by
  have HS := Lib.hid (fun w => slot_of x w)
  unfold regA regI
  by_cases h : 0 ≤ letK x
  · have hl := letK_hi x
    rw [if_pos h]
    rw [decide_eq_true h, if_neg (by omega)] at HS
    generalize letK x = k at *
    obtain ⟨i, rfl⟩ : ∃ i : Nat, k = i := ⟨k.toNat, by omega⟩
    have hi : i < 26 := by omega
    have e0 : (0 : Int) ≤ (i : Int) := by omega
    have e1 : (i : Int) < 26 := by omega
    rw [Int.toNat_natCast]
    clear h hl
    go_enter Try.func28, Try.ntmps28
    go_wp2_with fail
    refine (HS.out _).mono ?_; rintro e w2 ⟨rfl, rfl⟩
    go_wp2_with fail
    go_ret
    exact ⟨by first | rfl | simp, rfl⟩
  · rw [if_neg h]
    rw [decide_eq_false h, if_pos (by omega)] at HS
    by_cases h0 : x = 0
    · subst h0
      rw [if_pos rfl]
      clear h
      go_enter Try.func28, Try.ntmps28
      go_wp2_with fail
      refine (HS.out _).mono ?_; rintro e w2 ⟨rfl, rfl⟩
      go_wp2_with fail
      go_ret
      exact ⟨rfl, rfl⟩
    · rw [if_neg h0]
      have d0 : (x == 0) = false := by simpa using h0
      clear h h0
      go_enter Try.func28, Try.ntmps28
      go_wp2_with fail
      refine (HS.out _).mono ?_; rintro e w2 ⟨rfl, rfl⟩
      go_wp2_with fail
      go_ret
      exact ⟨rfl, rfl⟩

set_option maxRecDepth 100000 in
set_option maxHeartbeats 4000000 in
theorem rnew_of (w : World) : Calls Try.prog 7 #[] w fun e w' => e = .returned (.pointer (some ⟨w.heap.size, 0, none⟩)) ∧ w' = w.alloc (.cells (rvs (List.replicate 27 rv0)).toArray 57) := by
  go_enter Try.func7, Try.ntmps7
  go_wp2_with fail
  go_ret
  exact ⟨rfl, rfl⟩

end Go.Proofs.Yteipnllefifgiaa
