/-
  The contract of slices.Repeat of one number, at this seat's numbers.
-/
import Derived.Test.YtlglenbgaalhiaaMgK
import Derived.Test.YtlglenbgaalhiaaShelf
import Derived.Laws.CopyOwn
import Derived.IntWalk
namespace Go.Proofs.Ytlglenbgaalhiaa
open Go Go.RowKit
set_option linter.unusedVariables false

theorem info_int1 : (Try.prog.info? 3).map (·.size) = some 1 := by kernel_rfl
theorem zeros_eq (n : Nat) : (madeCells #[Value.int .i64 0] n).toList = List.replicate n (.int .i64 0) := by
  apply List.ext_getElem?
  intro j
  simp [madeCells, List.getElem?_replicate, Nat.mod_one]
  by_cases h : j < n
  · rw [List.getElem?_range h, if_pos h]; rfl
  · rw [if_neg h, List.getElem?_eq_none (by simp; omega)]; rfl

/-- So many x, then noughts. -/
def rpC (x : Int) (n m : Nat) : List Value := List.replicate m (.int .i64 x) ++ List.replicate (n - m) (.int .i64 0)
theorem rpC_len {x : Int} {n m : Nat} (h : m ≤ n) : (rpC x n m).length = n := by unfold rpC; simp; omega
theorem rpC_splice {x : Int} {n m k : Nat} (h : m + k ≤ n) : splice (rpC x n m) m (List.replicate k (.int .i64 x)) = rpC x n (m + k) := by
  unfold rpC splice
  rw [List.take_left' (by simp), List.drop_append, List.length_replicate, List.drop_replicate]
  simp only [List.length_replicate]
  rw [show m - (m + k) = 0 by omega, List.replicate_zero, List.nil_append, List.drop_replicate, show n - m - (m + k - m) = n - (m + k) by omega]
  rw [← List.append_assoc, List.replicate_append_replicate]

set_option maxRecDepth 100000 in
set_option maxHeartbeats 4000000 in
theorem repeat_of {w : World} {g : Nat} (x : Int) (n : Nat) (hx : w.heap[g]? = some (.cells #[.int .i64 x] 3 (0, 0))) (hn : n ≤ 1000000) :
    Calls Try.prog 23 #[.slice (some ⟨g, 0, none⟩) 1 1, .int .i64 n] w (NPost (List.replicate n x) w) := by
  obtain ⟨i0, hi0, hz0, hz1, hz2⟩ := info_parts info_int
  have HMul := Lib.hid (fun w' => Try.bits_Mul 1 n (by decide) (by omega) w')
  have e1 : 1 * n / 18446744073709551616 = 0 := by omega
  have e2 : 1 * n % 18446744073709551616 = n := by omega
  rw [e1, e2] at HMul
  have c0 : w.cell? ⟨g, 0, none⟩ = some (.int .i64 x) := by rw [cell_at hx]; rfl
  have hg := lt_of_heap hx
  have HX := Lib.hid hx
  have d1 : decide ((n : Int) < 0) = false := decide_eq_false (by omega)
  have d2 : decide ((n : Int) > 9223372036854775807) = false := decide_eq_false (by omega)
  have d3 : decide (9223372036854775807 < (n : Int)) = false := decide_eq_false (by omega)
  clear hx e1 e2
  go_enter Try.func23, Try.ntmps23
  go_wp2_with fail
  refine (HMul.out _).mono ?_; rintro e w1 ⟨rfl, hw1⟩
  subst hw1
  go_wp2_with (at_make; refine wpList_make_full _ rfl _ _ 22 rfl w1.heap.size 3 i0 (.int .i64 0) 1 Try.underlying22 hi0 hz0 hz1 .i64 .i64 _ _ n rfl rfl rfl rfl ?b2 ?b3 ?b4 ?_)
  case b2 => rw [hz2]; omega
  case b3 => unfold maxLen; omega
  case b4 => exact Nat.le_refl _
  intro w2 ho2 hg2
  obtain ⟨G, hG⟩ : ∃ G, w1.heap.size = G := ⟨_, rfl⟩
  have hcur : w2.heap[G]? = some (.cells (rpC x n 0).toArray 3 (0, 0)) := by
    rcases ho2.2 with ⟨h1, _⟩ | ⟨g', cap, cur, h1, _, h3, h4, _, h6, h7⟩
    · cases h1
    · simp only [Value.slice.injEq, Option.some.injEq, Addr.mk.injEq, and_true, true_and] at h1
      obtain ⟨rfl, rfl⟩ := h1
      rw [← hG, h3]
      have : cur.toList = (rpC x n 0) := by
        rw [zeros_eq, List.take_of_length_le (by rw [Array.length_toList, h6]; exact Nat.le_refl _)] at h7
        rw [h7]; unfold rpC; simp
      rw [← this]
  have hb2 : Below w1.heap.size w1 w2 := (Below.refl _ _).grown hg2 (Nat.le_refl _) (fun q hq => by cases hq)
  have HCur := Lib.hid hcur
  have HB2 := Lib.hid hb2
  have HG := Lib.hid hG
  have C1 : Hid (0 < (List.replicate (min 1 n) (Value.int .i64 x)).length → (some ⟨G, 0, none⟩ : Option Addr) = some ⟨G, 0, none⟩ ∧ ∃ ad, (some ⟨g, 0, none⟩ : Option Addr) = some ad ∧ ∀ j v, (List.replicate (min 1 n) (Value.int .i64 x))[j]? = some v → w2.cell? (ad.add j) = some v) := Lib.hid (fun _ => ⟨rfl, ⟨g, 0, none⟩, rfl, fun j v hj => by
    have hj1 := (List.getElem?_eq_some_iff.1 hj).1
    rw [List.length_replicate] at hj1
    have hj0 : j = 0 := by omega
    subst hj0
    rw [List.getElem?_replicate, if_pos (by omega)] at hj
    rw [Addr.add_lit, Nat.zero_add, hb2.cell (p := ⟨g, 0, none⟩) hg, c0]; exact hj⟩)
  have C2 : Hid ((List.replicate (min 1 n) (Value.int .i64 x)).length = Nat.min 1 n) := Lib.hid (List.length_replicate)
  have C3 : Hid (0 + (List.replicate (min 1 n) (Value.int .i64 x)).length ≤ (rpC x n 0).length) := Lib.hid (by rw [List.length_replicate, rpC_len (by omega)]; omega)
  have C4 : Hid (∀ v ∈ List.replicate (min 1 n) (Value.int .i64 x), v.oneCell' = true) := Lib.hid (fun v hv => by rw [(List.mem_replicate.1 hv).2]; rfl)
  rw [hG]
  rw [hG] at ho2
  clear ho2 hg2 hcur hb2 hG
  go_wp2_with (refine wpList_copy_splice rfl (.tmp 31) (.tmp 32) 22 22 rfl 3 Try.underlying22 info_int1 (some ⟨G, 0, none⟩) (some ⟨g, 0, none⟩) n n 1 1 (by simp [Act.eval]) (by simp [Act.eval]) G 0 (rpC x n 0) 3 HCur.out (List.replicate (min 1 n) (.int .i64 x)) C2.out C1.out C3.out C4.out w1.heap.size w1 HB2.out (by rw [HG.out]; exact Nat.le_refl _) ?_)
  intro w3 hh3 hb3
  have hh3' : w3.heap[G]? = some (.cells (rpC x n (min 1 n)).toArray 3 (0, 0)) := by
    have h := hh3.out
    rw [rpC_splice (by omega), Nat.zero_add] at h; exact h
  have HH3 := Lib.hid hh3'
  have HB3 := Lib.hid hb3
  obtain ⟨m0, hm0⟩ : ∃ m0, min 1 n = m0 := ⟨_, rfl⟩
  rw [hm0] at HH3 ⊢
  have hm1 : m0 ≤ n ∧ (0 < n → 0 < m0) := by omega
  have HM1 := Lib.hid hm1
  clear hh3 hh3' hb3 C1 C2 C3 C4 HCur HB2 HMul hm0 hm1
  go_wp2_with fail
  go_loopw [8] (fun v8 wr => ∃ m : Nat, v8 = .int .i64 m ∧ m ≤ n ∧ (0 < n → 0 < m) ∧ wr.heap[G]? = some (.cells (rpC x n m).toArray 3 (0, 0)) ∧ Below w1.heap.size w1 wr) (fun v8 _ => n - (intOf v8).toNat)
  case atStart => exact ⟨m0, rfl, HM1.out.1, HM1.out.2, HH3.out, HB3.out⟩
  case round =>
    obtain ⟨wq, rfl⟩ : ∃ wq : World, wq = wr := ⟨_, rfl⟩
    obtain ⟨m, rfl, hm, hm0, hh, hb⟩ := hrel
    have HH := Lib.hid hh
    have HB := Lib.hid hb
    clear hh hb
    by_cases hlt : m < n
    · have dk : decide ((m : Int) < (n : Int)) = true := decide_eq_true (by omega)
      have hmp : 0 < m := hm0 (by omega)
      obtain ⟨k, hk⟩ : ∃ k, min m (n - m) = k := ⟨_, rfl⟩
      have hk1 : 0 < k ∧ m + k ≤ n ∧ k ≤ m := by omega
      have C1 : Hid (∀ j v, (List.replicate k (Value.int .i64 x))[j]? = some v → wq.drew.cell? (Addr.add ⟨G, 0, none⟩ j) = some v) := Lib.hid (fun j v hj => by
        have hj1 := (List.getElem?_eq_some_iff.1 hj).1
        rw [List.length_replicate] at hj1
        rw [List.getElem?_replicate, if_pos hj1] at hj
        rw [Addr.add_lit, Nat.zero_add, show wq.drew.cell? ⟨G, j, none⟩ = wq.cell? ⟨G, j, none⟩ from rfl, cell_at HH.out, List.getElem?_toArray]
        unfold rpC
        rw [List.getElem?_append_left (by simp; omega), List.getElem?_replicate, if_pos (by omega)]; exact hj)
      have C2 : Hid ((List.replicate k (Value.int .i64 x)).length = Nat.min m (n - m)) := Lib.hid (List.length_replicate.trans hk.symm)
      have C3 : Hid (m + (List.replicate k (Value.int .i64 x)).length ≤ (rpC x n m).length) := Lib.hid (by rw [List.length_replicate, rpC_len hm]; omega)
      have C4 : Hid (∀ v ∈ List.replicate k (Value.int .i64 x), v.oneCell' = true) := Lib.hid (fun v hv => by rw [(List.mem_replicate.1 hv).2]; rfl)
      have C6 : Hid (Below w1.heap.size w1 wq.drew) := Lib.hid HB.out.drew
      have C7 : Hid (wq.drew.heap[G]? = some (.cells (rpC x n m).toArray 3 (0, 0))) := Lib.hid HH.out
      have hnm : ¬ n = m := by omega
      have e0 : (0 : Int) ≤ (m : Int) := by omega
      have e1 : (m : Int) ≤ (n : Int) := by omega
      have HK1 := Lib.hid hk1
      clear hk hm0 hmp
      go_wp2_with fail
      have s6 : IntKind.i64.wrap ((m : Int) + (k : Int)) = ((m + k : Nat) : Int) := by rw [IntWalk.i64_in _ (by omega)]; omega
      go_region_law (go_loud (refine step_copy_splice rfl (.tmp 41) (.tmp 44) 22 22 rfl 3 Try.underlying22 info_int1 (some ⟨G, m, none⟩) (some ⟨G, 0, none⟩) (n - m) (n - m) m n (by simp [Act.eval, Act.put]) (by simp [Act.eval, Act.put]) G m (rpC x n m) 3 C7.out (List.replicate k (.int .i64 x)) C2.out (fun _ => ⟨rfl, _, rfl, C1.out⟩) C3.out C4.out w1.heap.size w1 C6.out (by rw [HG.out]; exact Nat.le_refl _) ?_); intro w4 hh4 hb4; try rw [List.length_replicate])
      all_goals
        clear s6
        have HH4 : Hid (w4.heap[G]? = some (.cells (rpC x n (m + k)).toArray 3 (0, 0))) := Lib.hid (by
          have h := hh4.out
          rwa [rpC_splice HK1.out.2.1] at h)
        have HB4 := Lib.hid hb4
        clear hh4 hb4
        simp [Act.put]
        trace_state
        go_wp2_with fail
        go_roundw
        case rel => exact ⟨m + k, by first | rfl | go_num | simp, HK1.out.2.1, fun _ => by omega, HH4.out, HB4.out⟩
        case measure => have := HK1.out; simp [intOf]; omega
    · have dk : decide ((m : Int) < (n : Int)) = false := decide_eq_false (by omega)
      have hmn : m = n := by omega
      subst hmn
      go_wp2_with fail
      go_ret
      refine ⟨some ⟨G, 0, none⟩, m, by simp, ?_, HB.out⟩
      rw [List.length_replicate]
      refine ⟨by simp [nums], .inr ⟨G, m, _, rfl, by rw [HG.out]; exact Nat.le_refl _, HH.out, Nat.le_refl _, by unfold maxLen; omega, by rw [List.size_toArray, rpC_len (Nat.le_refl _)]; omega, ?_⟩⟩
      unfold rpC nums
      simp

end Go.Proofs.Ytlglenbgaalhiaa
