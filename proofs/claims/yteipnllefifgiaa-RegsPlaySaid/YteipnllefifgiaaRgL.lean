/-
  Registers as a value: the loop over all of them; Size, at this seat's numbers.
-/
import Derived.Test.YteipnllefifgiaaRgK
import Derived.Deep.MidRow
namespace Go.Proofs.Yteipnllefifgiaa
open Go Go.RowKit
set_option linter.unusedVariables false

theorem extract2 {X : Array Value} {o : Nat} {u v : Value} (h0 : X[o]? = some u) (h1 : X[o + 1]? = some v) : X.extract o (o + 2) = #[u, v] := by
  apply Array.ext_getElem?
  intro j
  obtain ⟨a0, b0⟩ := Array.getElem?_eq_some_iff.1 h0
  obtain ⟨a1, b1⟩ := Array.getElem?_eq_some_iff.1 h1
  rw [Array.getElem?_extract]
  match j with
  | 0 => rw [if_pos (by omega)]; simpa using h0
  | 1 => rw [if_pos (by omega)]; simpa using h1
  | j + 2 => rw [if_neg (by omega)]; simp
theorem idx_regs (X : Array Value) (i : Nat) (hi : i < 26) (u v : Value) (h0 : X[i * 2]? = some u) (h1 : X[i * 2 + 1]? = some v) (w : World) : (Instr.index 55 (.agg X) (.int .i64 i)).run Try.prog w = .ok (.agg #[u, v]) w := by
  have e0 : (0 : Int) ≤ (i : Int) := by omega
  have e1 : (i : Int) < 26 := by omega
  have hs : (sizeOf 41).run Try.prog w = .ok 2 w := by kernel_rfl
  have hp : (part 41 X (i * 2)).run Try.prog w = .ok (.agg #[u, v]) w := by
    have hg : (isAgg 41).run Try.prog w = .ok true w := by kernel_rfl
    simp [part, Sem.run_bind, hg, hs, Result.andThen, extract2 h0 h1]
  simp [Instr.index, asIntOf, run_underlying Try.underlying55, e0, Sem.run_bind, Result.andThen, hs, hp]
  intro h; omega
theorem idx_rregs (X : Array Value) (i : Nat) (hi : i < 26) (u v : Value) (h0 : X[i * 2]? = some u) (h1 : X[i * 2 + 1]? = some v) (w : World) : (Instr.index 29 (.agg X) (.int .i64 i)).run Try.prog w = .ok (.agg #[u, v]) w := by
  have e0 : (0 : Int) ≤ (i : Int) := by omega
  have e1 : (i : Int) < 26 := by omega
  have hs : (sizeOf 28).run Try.prog w = .ok 2 w := by kernel_rfl
  have hp : (part 28 X (i * 2)).run Try.prog w = .ok (.agg #[u, v]) w := by
    have hg : (isAgg 28).run Try.prog w = .ok true w := by kernel_rfl
    simp [part, Sem.run_bind, hg, hs, Result.andThen, extract2 h0 h1]
  simp [Instr.index, asIntOf, run_underlying Try.underlying29, e0, Sem.run_bind, Result.andThen, hs, hp]
  intro h; omega

/-- The letters' registers as a value, behind a name. -/
theorem Rg.open {w : World} {t lo hi b : Nat} {R : List Rv} (h : Rg w t lo hi b R) : ∃ X : Array Value, (loadCells ⟨b, 0, none⟩ 52).run Try.prog w = .ok X w ∧
      ∀ (i : Nat) (r : Rv), i < 26 → R[i]? = some r → X[i * 2]? = some (.int .i64 r.k) ∧ X[i * 2 + 1]? = some (.slice r.a r.T.length r.c) := by
  refine ⟨((rvs R).take 52).toArray, ?_, fun i r hi hr => ?_⟩
  · have hl := run_loadCells_list (P := Try.prog) w ⟨b, 0, none⟩ ((rvs R).take 52) (fun j v hv => by
      have hadd : (⟨b, 0, none⟩ : Addr).add j = ⟨b, j, none⟩ := by unfold Addr.add; split <;> simp_all
      rw [hadd, cell_at h.obj, List.getElem?_toArray]
      rw [List.getElem?_take] at hv
      split at hv
      · exact hv
      · cases hv)
    have e : ((rvs R).take 52).length = 52 := by
      have : (rvs R).length = 54 := by
        have hh : ∀ L : List Rv, (rvs L).length = L.length * 2 := fun L => by
          induction L with
          | nil => rfl
          | cons x L ih => show (rvC x ++ rvs L).length = _; rw [List.length_append, ih]; show 2 + _ = _; simp; omega
        rw [hh, h.len]
      rw [List.length_take, this]; rfl
    rw [e] at hl
    exact hl
  · obtain ⟨h1, h2⟩ := rvs_at hr
    rw [List.getElem?_toArray, List.getElem?_toArray, List.getElem?_take, List.getElem?_take, if_pos (by omega), if_pos (by omega)]
    exact ⟨h1, h2⟩

theorem ld2 {w : World} {b : Nat} {u v : Value} {t : TypeId} {fr : Nat × Nat} (h : w.heap[b]? = some (.cells #[u, v] t fr)) : (loadCells ⟨b, 0, none⟩ 2).run Try.prog w = .ok #[u, v] w :=
  run_loadCells_list (P := Try.prog) w ⟨b, 0, none⟩ [u, v] (fun j x hx => by
    have hadd : (⟨b, 0, none⟩ : Addr).add j = ⟨b, j, none⟩ := by unfold Addr.add; split <;> simp_all
    rw [hadd, cell_at h]; simpa using hx)
/-- How much all letters' registers are. -/
def totN (S : List RV) (i : Nat) : Nat := ((S.take i).map fun r => szM r.2).sum
def totS (S : List RV) : Nat := totN S 26
theorem totN_succ {R : List Rv} {i : Nat} {r : Rv} (h : R[i]? = some r) : totN (sem R) (i + 1) = totN (sem R) i + szM (txL r.T) := by
  unfold totN; rw [List.take_add_one, sem_at h]; simp
theorem totS_le {w : World} {t lo hi b : Nat} {R : List Rv} (H : Rg w t lo hi b R) : ∀ i, i ≤ 26 → totN (sem R) i ≤ i * 4096 := by
  intro i
  induction i with
  | zero => intro _; simp [totN]
  | succ i ih =>
    intro hi
    obtain ⟨r, hr⟩ := H.get (i := i) (by omega)
    rw [totN_succ hr]
    have := ih (by omega)
    have := (H.few r (List.mem_of_getElem? hr)).2
    omega
attribute [-go_sem] loadCells

set_option maxRecDepth 100000 in
set_option maxHeartbeats 4000000 in
theorem gsize_of {w : World} {t lo hi b : Nat} {R : List Rv} (H : Rg w t lo hi b R) : Calls Try.prog 22 #[.pointer (some ⟨b, 0, none⟩)] w fun e w' => e = .returned (.int .i64 (totS (sem R))) ∧ Below w.heap.size w w' := by
  obtain ⟨X, hX, hXi⟩ := H.open
  have HX := Lib.hid hXi
  have HTB := Lib.hid (totS_le H)
  have HRR := Lib.hid (fun (i : Nat) (hi : i < 27) => H.get hi)
  have HSZ : Hid (∀ (i : Nat) (r : Rv), R[i]? = some r → ∀ w', Below w.heap.size w w' → Calls Try.prog 19 #[rgV r.k r.a r.T.length r.c] w' fun e w'' => e = .returned (.int .i64 (szM (txL r.T))) ∧ Below w'.heap.size w' w'') := Lib.hid (fun i r hr w' hb => by
    have hm := List.mem_of_getElem? hr
    have hf := H.few r hm
    exact size_of r.k ((H.mx r hm).below hb) (by omega) (by omega))
  unfold rgV at HSZ
  clear H hXi
  go_enter Try.func22, Try.ntmps22
  go_wp2_with fail
  go_loopw [3, 12] (fun v3 v12 wr => ∃ i : Nat, v3 = .int .i64 (totN (sem R) i) ∧ v12 = .int .i64 i ∧ i ≤ 26 ∧ Below w.heap.size w wr) (fun _ v12 _ => 26 - (intOf v12).toNat)
  case atStart => exact ⟨0, rfl, rfl, by omega, Below.refl _ _⟩
  case round =>
    obtain ⟨i, rfl, rfl, hii, hb⟩ := hrel
    have HB := Lib.hid hb
    clear hb
    by_cases hlt : i < 26
    · have dk : decide ((i : Int) < 26) = true := decide_eq_true (by omega)
      obtain ⟨r, hr⟩ := HRR.out i (by omega)
      obtain ⟨x0, x1⟩ := HX.out i r hlt hr
      have hidx := idx_regs X i hlt _ _ x0 x1
      have HC := Lib.hid (HSZ.out i r hr)
      have HTT := Lib.hid (totN_succ hr)
      have hle := HTB.out (i + 1) (by omega)
      rw [totN_succ hr] at hle
      clear hr x0 x1
      obtain ⟨k, a, c, T⟩ := r
      simp only [] at hidx HC HTT hle
      generalize T.length = n at *
      generalize szM (txL T) = z at *
      generalize totN (sem R) i = q at *
      go_upto_region 7 with fail
      have hn2 := heap_alloc_new wr (.cells #[.int .i64 k, .slice a n c] 41)
      have hld := ld2 hn2
      have HB2 := Lib.hid (HB.out.trans ((t_al wr (.cells #[.int .i64 k, .slice a n c] 41)).mono HB.out.size))
      have HC2 := Lib.hid (HC.out _ HB2.out)
      generalize wr.alloc (.cells #[.int .i64 k, .slice a n c] 41) = w2 at *
      clear hn2 HC
      go_wp2_with fail
      refine HC2.out.mono ?_; rintro e w3 ⟨rfl, hb3⟩
      have HB3 := Lib.hid (HB2.out.trans (hb3.mono HB2.out.size))
      clear hb3
      go_wp2_with fail
      go_roundw
      case rel => exact ⟨i + 1, by rw [HTT.out]; go_num, by go_num, by omega, HB3.out⟩
      case measure => simp [intOf]; omega
    · have dk : decide ((i : Int) < 26) = false := decide_eq_false (by omega)
      obtain rfl : i = 26 := by omega
      go_wp2_with fail
      go_ret
      exact ⟨rfl, HB.out⟩

end Go.Proofs.Yteipnllefifgiaa
