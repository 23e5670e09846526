/-
  A parser's New, Pending, Key as a whole; Moves, at this seat's numbers.
-/
import Derived.Test.YtjmpokgdgnjojaaDoorGrF
namespace Go.Proofs.YtjmpokgdgnjojaaDoor
open Go Go.RowKit
set_option linter.unusedVariables false

theorem motF_ok {c : Cm} {k : Int} {st : Stp} {c2 : Cm} (h : motF c k = (some st, 0, c2)) : c2.ct = c.ct ∧ stOk (some st) := by
  unfold motF at h
  split at h
  · cases h; exact ⟨rfl, trivial⟩
  · split at h
    · cases h
    · simp at h
theorem opF_ok {c : Cm} {k : Int} {st : Stp} {c2 : Cm} (h : opF c k = (some st, 0, c2)) : c2.ct = c.ct ∧ stOk (some st) := by
  unfold opF at h
  split at h
  · cases h
  · split at h
    · cases h; exact ⟨rfl, trivial⟩
    · exact motF_ok h
theorem digF_ok {c : Cm} {a n : Int} {o : Bool} {k : Int} {st : Stp} {c2 : Cm} (ha : 1 ≤ a ∧ a ≤ 9999) (hn : 0 ≤ n) (hk : 48 ≤ k) (h : digF c a n o k = (some st, 0, c2)) : (0 ≤ c2.ct ∧ c2.ct ≤ 9999) ∧ stOk (some st) := by
  unfold digF at h
  split at h
  · simp at h
  · rename_i hle
    cases h
    have hm : 0 ≤ 10 * n + k - 48 := by omega
    have h1 : 0 ≤ a * (10 * n + k - 48) := Int.mul_nonneg (by omega) hm
    have h2 : 10 * n + k - 48 ≤ a * (10 * n + k - 48) := by
      have := Int.mul_le_mul_of_nonneg_right ha.1 hm
      rwa [Int.one_mul] at this
    exact ⟨⟨h1, by show a * (10 * n + k - 48) ≤ 9999; omega⟩, ha, hm, by omega⟩
theorem begF_ok {c : Cm} {k way : Int} {r : Bool} {st : Stp} {c2 : Cm} (hc : 0 ≤ c.ct ∧ c.ct ≤ 9999) (h : begF c k way r = (some st, 0, c2)) : (0 ≤ c2.ct ∧ c2.ct ≤ 9999) ∧ stOk (some st) := by
  unfold begF at h
  split at h
  · cases h; exact ⟨hc, trivial⟩
  · split at h
    · rename_i hd
      exact digF_ok (by split <;> omega) (by omega) (by omega) h
    · split at h
      · unfold visF at h
        split at h
        · cases h
        · obtain ⟨e, h'⟩ := motF_ok h; exact ⟨by rw [e]; exact hc, h'⟩
      · unfold normF at h
        split at h
        · cases h
        · split at h
          · cases h
          · split at h
            · cases h; exact ⟨hc, trivial⟩
            · split at h
              · cases h; exact ⟨hc, trivial⟩
              · obtain ⟨e, h'⟩ := motF_ok h; exact ⟨by rw [e]; exact hc, h'⟩
theorem step_ok {s : Option Stp} {c : Cm} {k way : Int} {r : Bool} {st : Stp} {c2 : Cm} (hc : 0 ≤ c.ct ∧ c.ct ≤ 9999) (hs : stOk s) (h : stepF s c k way r = (some st, 0, c2)) : (0 ≤ c2.ct ∧ c2.ct ≤ 9999) ∧ stOk (some st) := by
  cases s with
  | none => exact begF_ok hc h
  | some s =>
    cases s with
    | begin => exact begF_ok hc h
    | register =>
      simp only [stepF, regF] at h
      split at h
      · cases h; exact ⟨hc, trivial⟩
      · simp at h
    | letter =>
      simp only [stepF, letF] at h
      split at h <;> simp at h
    | behindOp =>
      simp only [stepF, bopF] at h
      split at h
      · exact digF_ok (by split <;> omega) (by omega) (by omega) h
      · obtain ⟨e, h'⟩ := opF_ok h; exact ⟨by rw [e]; exact hc, h'⟩
    | behindI =>
      simp only [stepF, iF] at h
      split at h <;> simp at h
    | behindG =>
      simp only [stepF, gF] at h
      split at h <;> simp at h
    | count a n o =>
      simp only [stepF, cntF] at h
      split at h
      · exact digF_ok hs.1 hs.2.1 (by omega) h
      · split at h
        · obtain ⟨e, h'⟩ := opF_ok h; exact ⟨by rw [e]; exact hc, h'⟩
        · exact begF_ok hc h

section
variable {w w' : World} {B p : Nat} {v : Value} {S : Ps}
theorem fresh_st {Y : Nat → Prop} (h : PsIn w B p v p0M) : ∃ nx, Pr w p v p0M.c nx ∧ StV w Y nx p0M.st := by
  obtain ⟨⟨nx, h1, h2⟩, _⟩ := h
  exact ⟨nx, h1, h2⟩
/-- Key. -/
theorem key_of (H : PsIn w B p v S) (hB : B ≤ w.heap.size) (hn : S.bg.length ≤ 1000000) (k way : Int) (r : Bool) :
    Calls Tryd.prog 9 #[pbox p, .int .i64 k, .int .i64 way, .bool r] w fun e w' => e = .returned (keyV (keyF S k way r).1.1 (keyF S k way r).1.2.1 (keyF S k way r).1.2.2) ∧
      ∃ v', PsIn w' B p v' (keyF S k way r).2 ∧ KMv B p v v' w w' ∧ ((keyF S k way r).2.bg = [] → v' = .slice none 0 0) ∧ ∃ nx, Pr w' p v' (keyF S k way r).2.c nx ∧ StV w' (w.heap.size ≤ ·) nx (keyF S k way r).2.st := by
  unfold keyF
  by_cases hk : k = 27
  · subst hk
    rw [if_pos rfl]
    exact (key_esc H hB way r).mono fun e w' ⟨h1, h2, h3⟩ => ⟨h1, _, h2, h3, fun _ => rfl, fresh_st h2⟩
  · rw [if_neg hk]
    rcases hx : stepF S.st S.c k way r with ⟨so, er, c2⟩
    simp only
    by_cases her : er = 0
    · subst her
      rw [if_pos rfl]
      cases so with
      | none =>
        by_cases hst : S.st = none
        · exact (key_done_first H hB hk way r hst hx).mono fun e w' ⟨h1, h2, h3⟩ => ⟨h1, _, h2, h3, fun _ => rfl, fresh_st h2⟩
        · exact (key_done_next H hB hk way r hst hx).mono fun e w' ⟨h1, h2, h3⟩ => ⟨h1, _, h2, h3, fun _ => rfl, fresh_st h2⟩
      | some st =>
        obtain ⟨hct, hok⟩ := step_ok H.ct H.ok hx
        by_cases hst : S.st = none
        · exact (key_more_first H hB hk way r hst hx hct hok hn).mono fun e w' ⟨h1, v', h2, h3, h4⟩ => ⟨h1, v', h2, h3, fun h => by simp at h, h4⟩
        · exact (key_more_next H hB hk way r hst hx hct hok hn).mono fun e w' ⟨h1, v', h2, h3, h4⟩ => ⟨h1, v', h2, h3, fun h => by simp at h, h4⟩
    · rw [if_neg her]
      by_cases hst : S.st = none
      · exact (key_wrong_first H hB hk way r hst hx her).mono fun e w' ⟨h1, h2, h3⟩ => ⟨h1, _, h2, h3, fun _ => rfl, fresh_st h2⟩
      · exact (key_wrong_next H hB hk way r hst hx her).mono fun e w' ⟨h1, h2, h3⟩ => ⟨h1, _, h2, h3, fun _ => rfl, fresh_st h2⟩

set_option maxRecDepth 100000 in
theorem gnew_of (w : World) : Calls Tryd.prog 8 #[] w fun e w' => e = .returned (pbox w.heap.size) ∧ w' = w.alloc (.cells (prC (.slice none 0 0) c0M .nilFunc) 44) := by
  go_enter Tryd.func8, Tryd.ntmps8
  go_wp2_with fail
  go_ret
  exact ⟨rfl, rfl⟩
theorem PsIn.start {w : World} {B : Nat} (hB : B ≤ w.heap.size) : PsIn (w.alloc (.cells (prC (.slice none 0 0) c0M .nilFunc) 44)) B w.heap.size (.slice none 0 0) p0M :=
  ⟨⟨.nilFunc, heap_alloc_new w _, rfl⟩, t_nil _ _ _ _, ⟨Int.le_refl _, by decide⟩, trivial, hB⟩
set_option maxRecDepth 100000 in
theorem clone_nil (w : World) : Calls Tryd.prog 34 #[.slice none 0 0] w fun e w' => e = .returned (.slice none 0 0) ∧ w = w' := by
  have heq : ∀ w, (binOp .eql 24 (.slice none 0 0) (.slice none 0 0)).run Tryd.prog w = .ok (.bool true) w := fun w => by kernel_rfl
  go_enter Tryd.func34, Tryd.ntmps34
  go_wp2_with fail
  go_ret
  exact ⟨rfl, rfl⟩
set_option maxRecDepth 100000 in
theorem pending_nil (w : World) : Calls Tryd.prog 17 #[.pointer none] w fun e w' => e = .returned (.slice none 0 0) ∧ w = w' := by
  go_enter Tryd.func17, Tryd.ntmps17
  go_wp2_with fail
  go_ret
  exact ⟨rfl, rfl⟩
set_option maxRecDepth 100000 in
theorem pending_fresh (H : PsIn w B p (.slice none 0 0) S) : Calls Tryd.prog 17 #[pbox p] w fun e w' => e = .returned (.slice none 0 0) ∧ w = w' := by
  obtain ⟨nx, h1, _⟩ := H.pr
  have c0 : w.cell? ⟨p, 0, none⟩ = some (.slice none 0 0) := by rw [cell_at h1]; rfl
  have HC := Lib.hid (clone_nil w)
  clear H h1
  go_enter Tryd.func17, Tryd.ntmps17
  go_wp2_with fail
  refine HC.out.mono ?_; rintro e w1 ⟨rfl, rfl⟩
  go_wp2_with fail
  go_ret
  exact ⟨rfl, rfl⟩
set_option maxRecDepth 100000 in
theorem gmoves_of (m : Int) (w : World) : Calls Tryd.prog 16 #[.int .i64 m] w fun e w' => e = .returned (.bool (inS s_mot m || decide (m = 26471))) ∧ Below w.heap.size w w' := by
  cases hm : inS s_mot m
  · have HA := Lib.hid (amongB (s := s_mot) rfl hm w)
    have HP := Lib.hid (fun w => pair_of 103 103 w (by omega) (by omega))
    clear hm
    rw [Bool.false_or]
    go_enter Tryd.func16, Tryd.ntmps16
    go_wp2_with fail
    refine HA.out.mono ?_; rintro e w1 ⟨rfl, b1⟩
    have B1 := Lib.hid b1
    clear b1
    go_wp2_with fail
    refine (HP.out _).mono ?_; rintro e _ ⟨rfl, rfl⟩
    go_wp2_with fail
    go_ret
    exact ⟨rfl, B1.out⟩
  · have HA := Lib.hid (amongB (s := s_mot) rfl hm w)
    clear hm
    go_enter Tryd.func16, Tryd.ntmps16
    go_wp2_with fail
    refine HA.out.mono ?_; rintro e w1 ⟨rfl, b1⟩
    have B1 := Lib.hid b1
    clear b1
    go_wp2_with fail
    go_ret
    exact ⟨rfl, B1.out⟩
end
end Go.Proofs.YtjmpokgdgnjojaaDoor
