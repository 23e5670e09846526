/-
  Rows of numbers that come in, opened; the law's few of any row; MergeRuns' walk, at this seat's numbers.
-/
import Derived.Test.YtlglenbgaalhiaaMgX
import Derived.Test.YtlglenbgaalhiaaMgT
import Derived.Test.YtlglenbgaalhiaaMgM
import Derived.Deep.Matrix
namespace Go.Proofs.Ytlglenbgaalhiaa
open Go Go.RowKit
set_option linter.unusedVariables false

theorem add_block (d : Addr) (k : Nat) : (d.add k).block = d.block := by unfold Addr.add; split <;> rfl
/-- A row of numbers wherever it lies. -/
def Rdg (w : World) (a : Option Addr) (l : List Int) : Prop := 0 < l.length → ∃ d, a = some d ∧ d.block < w.heap.size ∧ ∀ k x, l[k]? = some x → w.cell? (d.add k) = some (.int .i64 x)
theorem Rdg.below {w w' : World} {a : Option Addr} {l : List Int} (h : Rdg w a l) (hb : Below w.heap.size w w') : Rdg w' a l := fun hn => by
  obtain ⟨d, h1, h2, h3⟩ := h hn
  exact ⟨d, h1, Nat.lt_of_lt_of_le h2 hb.size, fun k x hx => (hb.cell (p := d.add k) (by rw [add_block]; exact h2)).trans (h3 k x hx)⟩

set_option maxRecDepth 100000 in
set_option maxHeartbeats 4000000 in
theorem few_any {w : World} {a : Option Addr} {c : Nat} (l : List Int) (H : Rdg w a l) (hnm : l.length ≤ maxLen) :
    Calls Try.prog 7 #[.slice a l.length c] w (NPost (fewL l) w) := by
  obtain ⟨i0, hi0, hz0, hz1, hz2⟩ := info_parts info_int
  obtain ⟨n, hnn⟩ : ∃ n, l.length = n := ⟨_, rfl⟩
  have HN := Lib.hid hnn
  have HS := Lib.hid H
  rw [hnn] at hnm ⊢
  have hn63 : (n : Int) ≤ 9223372036854775807 := by unfold maxLen at hnm; omega
  clear hnn H hnm
  go_enter Try.func7, Try.ntmps7
  go_wp2_with fail
  go_loopw [3, 8] (fun v3 v8 wr => ∃ (k m : Nat) (a3 : Option Addr) (c3 : Nat), v3 = .slice a3 m c3 ∧ v8 = .int .i64 k ∧ k ≤ n ∧ m = min 200 k ∧ wr.ownsRow w.heap.size 3 1 (.slice a3 m c3) m (nums (fewL (l.take k))) ∧ Below w.heap.size w wr) (fun _ v8 _ => n - (intOf v8).toNat)
  case atStart => exact ⟨0, 0, none, 0, rfl, rfl, by omega, by omega, by simp [fewL, nums, t_nil], Below.refl _ _⟩
  case round =>
    obtain ⟨wq, rfl⟩ : ∃ wq : World, wq = wr := ⟨_, rfl⟩
    obtain ⟨k, m, a3, c3, rfl, rfl, hk, hm, ho, hb⟩ := hrel
    have HO := Lib.hid ho
    have HB := Lib.hid hb
    clear ho hb
    by_cases hlt : k < n
    · have dk : decide (k < n) = true := decide_eq_true hlt
      obtain ⟨d, rfl, hdl, hd⟩ := HS.out (by rw [HN.out]; omega)
      obtain ⟨y, hy⟩ : ∃ y, l[k]? = some y := ⟨_, List.getElem?_eq_getElem (by rw [HN.out]; exact hlt)⟩
      have c0 := (HB.out.cell (p := d.add k) (by rw [add_block]; exact hdl)).trans (hd k y hy)
      clear hd
      have e0 : (0 : Int) ≤ (k : Int) := by omega
      have e1 : (k : Int) < (n : Int) := by omega
      have hyr : -1000 < y.tmod 1000 ∧ y.tmod 1000 < 1000 := by
        have h1 : (y.tmod 1000).natAbs < 1000 := by rw [Int.natAbs_tmod]; exact Nat.mod_lt _ (by decide)
        omega
      by_cases h2 : k < 200
      · have d2 : decide ((k : Int) < 200) = true := decide_eq_true (by omega)
        have HFe : Hid (fewL (l.take (k + 1)) = fewL (l.take k) ++ [y.tmod 1000]) := Lib.hid (by
          unfold fewL
          rw [List.take_take, List.take_take, Nat.min_eq_right (by omega), Nat.min_eq_right (by omega), List.take_add_one, hy]; simp)
        have hmk : m = k := by omega
        clear hy
        subst hmk
        clear hm
        have C3 : Hid (m + 1 ≤ maxLen) := by show _ ≤ _; unfold maxLen; omega
        have C4 : Hid ((m + 1) * 8 ≤ 140737488355328) := by show _ ≤ _; omega
        have C5 : Hid (w.heap.size ≤ (wq.alloc (Obj.cells #[.int .i64 (y.tmod 1000)] 3)).heap.size) := by show _ ≤ _; have := HB.out.size; simp only [World.size_alloc]; omega
        go_wp2_with (first
          | (at_builtin; refine wpList_append_own _ rfl (.tmp 15) (.tmp 18) 22 rfl w.heap.size 3 i0 (.int .i64 0) 1 8 Try.underlying22 hi0 hz0 hz1 hz2 rfl (by decide) (.slice a3 m c3) (m) (nums (fewL (l.take m))) rfl (HO.out.alloc _) ⟨wq.heap.size, 0, none⟩ 1 1 [.int .i64 (y.tmod 1000)] rfl rfl (c1_one wq _ _) (c2_one _ rfl) C3.out C4.out C5.out ?_)
          | fail)
        intro vN wB hoN hgN _
        obtain ⟨aN, cN, rfl⟩ := own_slice hoN
        have HOB := Lib.hid hoN
        have HBB := Lib.hid (app_below HB.out HO.out hgN)
        clear hoN hgN C3 C4 C5
        go_wp2_with fail
        go_roundw
        case rel =>
          refine ⟨m + 1, m + 1, aN, cN, by go_num, by go_num, by omega, by omega, ?_, HBB.out⟩
          rw [HFe.out, ← nums_app]; exact HOB.out
        case measure => simp [intOf]; omega
      · have d2 : decide ((k : Int) < 200) = false := decide_eq_false (by omega)
        have HFe : Hid (fewL (l.take (k + 1)) = fewL (l.take k)) := Lib.hid (by
          unfold fewL
          rw [List.take_take, List.take_take, Nat.min_eq_left (by omega), Nat.min_eq_left (by omega)])
        clear hy
        go_wp2_with fail
        go_roundw
        case rel => exact ⟨k + 1, m, a3, c3, rfl, by go_num, by omega, by omega, by rw [HFe.out]; exact HO.out, HB.out⟩
        case measure => simp [intOf]; omega
    · have dk : decide (k < n) = false := decide_eq_false hlt
      have hkn : k = n := by omega
      subst hkn
      have htk : l.take k = l := List.take_of_length_le (by rw [HN.out]; exact Nat.le_refl _)
      have HL : Hid ((fewL l).length = m) := Lib.hid (by rw [few_len, HN.out, hm])
      have HO2 := HO.out
      rw [htk] at HO2
      have HO3 := Lib.hid HO2
      clear HO2 htk hm
      go_wp2_with fail
      go_ret
      exact ⟨a3, c3, by rw [HL.out]; rfl, by rw [HL.out]; exact HO3.out, HB.out⟩


/-- Rows that come in. -/
structure RowsIn (w : World) (a : Option Addr) (T : List RowM) : Prop where
  len : T.length ≤ maxLen
  sl : 0 < T.length → ∃ g o, a = some ⟨g, o, none⟩ ∧ g < w.heap.size ∧ ∀ (k : Nat) (p : RowM), T[k]? = some p → w.cell? ⟨g, o + k, none⟩ = some (rowV p)
  rd : ∀ p ∈ T, Rdg w p.1 p.2.2 ∧ p.2.2.length ≤ maxLen

section
open Go.ChangeShapes Go.WideShapes Go.Joins
variable {H : Type} {enc : TypeId × Value → H} {W : World}
theorem open_rows {v : Value} {d : DataW H} {p : List MemPlace} (hv : Value.okWide Try.prog W .any 0 32 v) (h : DataW.Trod enc Try.prog W 0 (fun _ => true) true 32 v d p) :
    ∃ (a : Option Addr) (c : Nat) (T : List RowM), v = .slice a T.length c ∧ RowsIn W a T := by
  obtain ⟨a0, len0, cap0, rfl⟩ := okWide_slice Try.underlying32 hv
  obtain ⟨fuel, hf⟩ := h
  rcases Go.Deep.open_int_rows Try.underlying32 Try.underlying22 Try.underlying3 (by kernel_rfl) cells_int hf with ⟨hcs, _⟩ | ⟨a, len, cap, A, L, C, Z, hcs, _, hl, hm, _, hrow⟩
  · simp [Value.cells] at hcs
    obtain ⟨rfl, rfl, rfl⟩ := hcs
    exact ⟨none, 0, [], rfl, Nat.zero_le _, fun hn => absurd hn (by simp), fun p hp => by simp at hp⟩
  · simp [Value.cells] at hcs
    obtain ⟨rfl, rfl, rfl⟩ := hcs
    obtain ⟨g, o, rfl, hg⟩ := form_slice Try.underlying32 hv
    obtain ⟨T, hT⟩ : ∃ T : List RowM, (List.range len0).map (fun r => ((A r, C r, (Z r).take (L r)) : RowM)) = T := ⟨_, rfl⟩
    have hlen : T.length = len0 := by rw [← hT]; simp
    have hat : ∀ k, k < len0 → T[k]? = some (A k, C k, (Z k).take (L k)) := fun k hk => by
      rw [← hT, List.getElem?_map, List.getElem?_range hk]; rfl
    refine ⟨some ⟨g, o, none⟩, cap0, T, by rw [hlen], by rw [hlen]; omega, fun hn => ⟨g, o, rfl, hg, fun k p hp => ?_⟩, fun p hp => ?_⟩
    · have hk := (List.getElem?_eq_some_iff.1 hp).1
      rw [hlen] at hk
      rw [hat k hk] at hp
      cases hp
      obtain ⟨h1, h2, h3, h4, _⟩ := hrow k (by omega)
      rw [Addr.add_lit] at h1
      rw [h1]
      show some (Value.slice (A k) (L k) (C k)) = some (Value.slice (A k) ((Z k).take (L k)).length (C k))
      rw [List.length_take, h4, Nat.min_eq_left h2]
    · obtain ⟨k, hk, rfl⟩ := List.mem_iff_getElem.1 hp
      rw [hlen] at hk
      have hp2 := hat k hk
      rw [List.getElem?_eq_getElem (by rw [hlen]; exact hk)] at hp2
      rw [Option.some.inj hp2]
      obtain ⟨_, h2, h3, h4, _, h5, h6⟩ := hrow k (by omega)
      refine ⟨fun hn => ?_, by show ((Z k).take (L k)).length ≤ _; rw [List.length_take]; omega⟩
      have hn' : 0 < ((Z k).take (L k)).length := hn
      rw [List.length_take] at hn'
      cases hA : A k with
      | none => have := h5 hA; omega
      | some a' =>
        obtain ⟨_, h7⟩ := h6 a' hA
        refine ⟨a', rfl, ?_, fun j x hx => ?_⟩
        · have := World.block_lt_of_cell? _ _ (h7 0 (by omega))
          rwa [add_block] at this
        · have hx' : ((Z k).take (L k))[j]? = some x := hx
          rw [List.getElem?_take] at hx'
          split at hx'
          · rename_i hj
            rw [h7 j (by omega), List.getD_eq_getElem?_getD, hx']; rfl
          · cases hx'
end

end Go.Proofs.Ytlglenbgaalhiaa
