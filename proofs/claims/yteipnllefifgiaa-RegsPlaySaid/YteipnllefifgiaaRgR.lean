/-
  Names of registers; at this seat's numbers.
-/
import Derived.Test.YteipnllefifgiaaRgL
import Derived.Test.YteipnllefifgiaaRgN
namespace Go.Proofs.Yteipnllefifgiaa
open Go Go.RowKit
set_option linter.unusedVariables false

def nums (l : List Int) : List Value := l.map (Value.int .i64)
theorem nums_len (l : List Int) : (nums l).length = l.length := by unfold nums; simp
theorem nums_one (l : List Int) : ∀ u ∈ nums l, u.oneCell' = true := fun v hv => by
  obtain ⟨x, _, rfl⟩ := List.mem_map.1 hv; rfl
theorem nums_at {l : List Int} {k : Nat} {x : Int} (h : l[k]? = some x) : (nums l)[k]? = some (.int .i64 x) := by unfold nums; rw [List.getElem?_map, h]; rfl
theorem nums_app (l m : List Int) : nums l ++ nums m = nums (l ++ m) := by unfold nums; rw [List.map_append]
theorem info_int : (Try.prog.info? 3).map (fun i => (i.zero, i.size, i.bytes)) = some (some (.int .i64 0), 1, 8) := by kernel_rfl
/-- The letters whose registers have something, of the first i. -/
def namN (S : List RV) : Nat → List Int
  | 0 => []
  | i + 1 => if 0 < (gR S i).2.length then namN S i ++ [97 + (i : Int)] else namN S i
theorem namN_len (S : List RV) (i : Nat) : (namN S i).length ≤ i := by
  induction i with
  | zero => exact Nat.le_refl _
  | succ i ih =>
    unfold namN
    split
    · rw [List.length_append]; show _ + 1 ≤ _; omega
    · omega
attribute [-go_sem] loadCells

set_option maxRecDepth 100000 in
set_option maxHeartbeats 4000000 in
theorem names_of {w : World} {t lo hi b : Nat} {R : List Rv} (H : Rg w t lo hi b R) : Calls Try.prog 14 #[.pointer (some ⟨b, 0, none⟩)] w fun e w' => ∃ a c, e = .returned (.slice a (namN (sem R) 26).length c) ∧ Sl w' a c (nums (namN (sem R) 26)) ∧ Below w.heap.size w w' := by
  obtain ⟨i0, hi0, hz0, hz1, hz2⟩ := info_parts info_int
  obtain ⟨X, hX, hXi⟩ := H.open
  have HX := Lib.hid hXi
  have HRR := Lib.hid (fun (i : Nat) (hi : i < 27) => H.get hi)
  have HAN := Lib.hid any_of
  unfold rgV at HAN
  clear H hXi
  go_enter Try.func14, Try.ntmps14
  go_wp2_with fail
  go_loopw [3, 12] (fun v3 v12 wr => ∃ (i q : Nat) (a3 : Option Addr) (c3 : Nat), v3 = .slice a3 q c3 ∧ v12 = .int .i64 i ∧ i ≤ 26 ∧ q = (namN (sem R) i).length ∧ wr.ownsRow w.heap.size 3 1 (.slice a3 q c3) q (nums (namN (sem R) i)) ∧ Below w.heap.size w wr) (fun _ v12 _ => 26 - (intOf v12).toNat)
  case atStart => exact ⟨0, 0, none, 0, rfl, rfl, by omega, rfl, t_nil _ _ _ _, Below.refl _ _⟩
  case round =>
    obtain ⟨wq, rfl⟩ : ∃ wq : World, wq = wr := ⟨_, rfl⟩
    obtain ⟨i, q, a3, c3, rfl, rfl, hii, hq, ho, hb⟩ := hrel
    have HB := Lib.hid hb
    have HO := Lib.hid ho
    have HQ := Lib.hid hq
    have hq26 : q ≤ 26 := by rw [hq]; exact Nat.le_trans (namN_len _ _) hii
    clear hb ho hq
    by_cases hlt : i < 26
    · have dk : decide ((i : Int) < 26) = true := decide_eq_true (by omega)
      obtain ⟨r, hr⟩ := HRR.out i (by omega)
      obtain ⟨x0, x1⟩ := HX.out i r hlt hr
      have hidx := idx_regs X i hlt _ _ x0 x1
      have HG := Lib.hid (gR_at hr)
      clear hr x0 x1
      obtain ⟨k, a, c, T⟩ := r
      simp only [] at hidx HG
      have HGL : Hid ((gR (sem R) i).2.length = T.length) := Lib.hid (by rw [HG.out]; exact txL_len T)
      generalize T.length = n at *
      have HAN1 := Lib.hid (fun w => HAN.out k a n c w)
      go_upto_region 7 with fail
      have hn2 := heap_alloc_new wq (.cells #[.int .i64 k, .slice a n c] 41)
      have hld := ld2 hn2
      have HB2 := Lib.hid (HB.out.trans ((t_al wq (.cells #[.int .i64 k, .slice a n c] 41)).mono HB.out.size))
      have HO2 := Lib.hid (HO.out.alloc (.cells #[.int .i64 k, .slice a n c] 41))
      generalize wq.alloc (.cells #[.int .i64 k, .slice a n c] 41) = w2 at *
      clear hn2
      by_cases h0 : 0 < n
      · have HE : Hid (namN (sem R) (i + 1) = namN (sem R) i ++ [97 + (i : Int)]) := Lib.hid (by
          show (if 0 < (gR (sem R) i).2.length then _ else _) = _
          rw [HGL.out, if_pos h0])
        rw [decide_eq_true h0] at HAN1
        go_wp2_with fail
        refine (HAN1.out _).mono ?_; rintro e w3 ⟨rfl, hb3⟩
        have HB3 := Lib.hid (HB2.out.trans (hb3.mono HB2.out.size))
        have HO3 := Lib.hid (own_below HO2.out hb3)
        clear hb3
        have C3 : Hid (q + 1 ≤ maxLen) := by show _ ≤ _; unfold maxLen; omega
        have C4 : Hid ((q + 1) * 8 ≤ 140737488355328) := by show _ ≤ _; omega
        have C5 : Hid (w.heap.size ≤ (w3.alloc (Obj.cells #[.int .i64 (97 + (i : Int))] 3)).heap.size) := by show _ ≤ _; have := HB3.out.size; simp only [World.size_alloc]; omega
        go_wp2_with (first
          | (at_builtin; refine wpList_append_own _ rfl (.tmp 18) (.tmp 21) 44 rfl w.heap.size 3 i0 (.int .i64 0) 1 8 Try.underlying44 hi0 hz0 hz1 hz2 rfl (by decide) (.slice a3 q c3) (q) (nums (namN (sem R) i)) rfl (HO3.out.alloc _) ⟨w3.heap.size, 0, none⟩ 1 1 [.int .i64 (97 + (i : Int))] rfl rfl (c1_one w3 _ _) (c2_one _ rfl) C3.out C4.out C5.out ?_)
          | fail)
        intro vN wB hoN hgN _
        obtain ⟨aN, cN, rfl⟩ := own_slice hoN
        have HOB := Lib.hid hoN
        have HBB := Lib.hid (app_below HB3.out HO3.out hgN)
        clear hoN hgN C3 C4 C5
        go_wp2_with fail
        go_roundw
        case rel => exact ⟨i + 1, q + 1, aN, cN, by go_num, by go_num, by omega, by rw [HE.out, HQ.out]; simp, by rw [HE.out, ← nums_app]; exact HOB.out, HBB.out⟩
        case measure => simp [intOf]; omega
      · have HE : Hid (namN (sem R) (i + 1) = namN (sem R) i) := Lib.hid (by
          show (if 0 < (gR (sem R) i).2.length then _ else _) = _
          rw [HGL.out, if_neg h0])
        rw [decide_eq_false h0] at HAN1
        go_wp2_with fail
        refine (HAN1.out _).mono ?_; rintro e w3 ⟨rfl, hb3⟩
        have HB3 := Lib.hid (HB2.out.trans (hb3.mono HB2.out.size))
        have HO3 := Lib.hid (own_below HO2.out hb3)
        clear hb3
        go_wp2_with fail
        go_roundw
        case rel => exact ⟨i + 1, q, a3, c3, rfl, by go_num, by omega, by rw [HE.out]; exact HQ.out, by rw [HE.out]; exact HO3.out, HB3.out⟩
        case measure => simp [intOf]; omega
    · have dk : decide ((i : Int) < 26) = false := decide_eq_false (by omega)
      obtain rfl : i = 26 := by omega
      go_wp2_with fail
      go_ret
      exact ⟨a3, c3, by rw [← HQ.out] <;> rfl, own_sl HO.out (nums_one _), HB.out⟩

end Go.Proofs.Yteipnllefifgiaa
