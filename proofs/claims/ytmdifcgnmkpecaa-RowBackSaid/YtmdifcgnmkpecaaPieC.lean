/-
  The contracts of piece's Spans (and of slices.Clone at spans), at this seat's numbers.
-/
import Derived.Test.YtmdifcgnmkpecaaPieB
import Derived.Lib.SliceRun
namespace Go.Proofs.Ytmdifcgnmkpecaa
open Go Go.RowKit
set_option linter.unusedVariables false

theorem spC_one (l : List (Int × Int)) : ∀ u ∈ spC l, u.oneCell' = true := by
  intro u hu
  unfold spC at hu
  rw [List.mem_flatMap] at hu
  obtain ⟨s, _, hs⟩ := hu
  simp only [List.mem_cons, List.not_mem_nil, or_false] at hs
  rcases hs with rfl | rfl <;> rfl
theorem own_empty {w : World} {B g : Nat} {e : TypeId} (s : Nat) (hB : B ≤ g) (h : w.heap[g]? = some (.cells #[] e (0, 0))) : w.ownsRow B e s (.slice (some ⟨g, 0, none⟩) 0 0) 0 [] :=
  ⟨by simp, .inr ⟨g, 0, #[], rfl, hB, h, Nat.le_refl _, Nat.zero_le _, by simp, by simp⟩⟩

set_option maxRecDepth 100000 in
set_option maxHeartbeats 4000000 in
theorem pclone_some {w : World} {ad : Addr} {c : Nat} {l : List (Int × Int)} (hr : ∀ j u, (spC l)[j]? = some u → w.cell? (ad.add j) = some u) (hl : l.length ≤ 1000000) :
    Calls Try.prog 66 #[.slice (some ad) l.length c] w fun e w' => ∃ v', e = .returned v' ∧ w'.ownsRow w.heap.size 39 2 v' l.length (spC l) ∧ Below w.heap.size w w' := by
  obtain ⟨i0, hi0, hz0, hz1, hz2⟩ := info_parts info_span
  have al := below_al w (Obj.cells #[] 39)
  have HR := Lib.hid (fun j u hj => (al.cell (p := ad.add j) (World.block_lt_of_cell? _ _ (hr j u hj))).trans (hr j u hj))
  have HE := Lib.hid (own_empty (B := w.heap.size) 2 (Nat.le_refl _) (heap_alloc_new w (Obj.cells #[] 39)))
  have HB := Lib.hid al
  have HL := Lib.hid hl
  have hq : ∀ w, (binOp .eql 40 (.slice (some ad) l.length c) (.slice none 0 0)).run Try.prog w = .ok (.bool false) w := fun w => Go.Lib.run_eql_slice_nil w _ _ _ _ _ _ _ Try.underlying40
  clear hr hl al
  go_enter Try.func66, Try.ntmps66
  go_wp2_with (first
    | (at_builtin; refine wpList_append_own _ rfl (.tmp 5) (.tmp 6) 40 rfl w.heap.size 39 i0 (.agg #[.int .i64 0, .int .i64 0]) 2 16 Try.underlying40 hi0 hz0 hz1 hz2 rfl (by decide) (.slice (some ⟨w.heap.size, 0, none⟩) 0 0) 0 [] rfl HE.out ad l.length c (spC l) rfl (spC_len l) ?c1 (spC_one l) ?c3 ?c4 ?c5 ?_)
    | fail)
  case c1 => exact HR.out
  case c3 => have := HL.out; unfold maxLen; omega
  case c4 => have := HL.out; omega
  case c5 => simp only [World.size_alloc]; omega
  intro v7 wB ho7 hg7 _
  have HO7 := Lib.hid ho7
  have HBB := Lib.hid (HB.out.grown hg7 (by simp only [World.size_alloc]; omega) (fun q hq => (HE.out.lt q hq).1))
  clear ho7 hg7
  go_wp2_with fail
  go_ret
  exact ⟨_, rfl, HO7.out, HBB.out⟩

set_option maxRecDepth 100000 in
theorem pclone_nil (n c : Nat) (w : World) :
    Calls Try.prog 66 #[.slice none n c] w fun e w' => e = .returned (.slice none 0 0) ∧ w = w' := by
  have hq : ∀ w, (binOp .eql 40 (.slice none n c) (.slice none 0 0)).run Try.prog w = .ok (.bool true) w := fun w => Go.Lib.run_eql_slice_nil w _ _ _ _ _ _ _ Try.underlying40
  go_enter Try.func66, Try.ntmps66
  go_wp2_with fail
  go_ret
  exact ⟨rfl, rfl⟩

set_option maxRecDepth 100000 in
/-- The spans of a text, told. -/
theorem pspans_of {w : World} {B c : Nat} {a : Option Addr} {l : List (Int × Int)} (ho : w.ownsRow B 39 2 (.slice a l.length c) l.length (spC l)) (hl : l.length ≤ 1000000) :
    Calls Try.prog 27 #[.agg #[.slice a l.length c]] w fun e w' => ∃ v', e = .returned v' ∧ w'.ownsRow w.heap.size 39 2 v' l.length (spC l) ∧ Below w.heap.size w w' := by
  have al := below_al w (Obj.cells #[Value.slice a l.length c] 48)
  have HB0 := Lib.hid al
  have hz0 := al.size
  have c0 : (w.alloc (Obj.cells #[Value.slice a l.length c] 48)).cell? ⟨w.heap.size, 0, none⟩ = some (.slice a l.length c) := by rw [cell_at (heap_alloc_new w _)]; rfl
  have HC : Hid (∀ w1, Below w.heap.size w w1 → Calls Try.prog 66 #[.slice a l.length c] w1 fun e w' => ∃ v', e = .returned v' ∧ w'.ownsRow w.heap.size 39 2 v' l.length (spC l) ∧ Below w.heap.size w w') := by
    intro w1 hb
    rcases own_form ho with ⟨rfl, h0⟩ | ⟨g, rfl, hBg, hg⟩
    · refine (pclone_nil l.length c w1).mono ?_
      rintro e w' ⟨rfl, rfl⟩
      obtain rfl := List.eq_nil_of_length_eq_zero h0
      exact ⟨_, rfl, own_nil _ _ _ _, hb⟩
    · refine (pclone_some (w := w1) (ad := ⟨g, 0, none⟩) (c := c) (fun j u hj => (own_below ho hb).cells (g := g) rfl j u hj) hl).mono ?_
      rintro e w' ⟨v', rfl, h1, h2⟩
      exact ⟨_, rfl, own_mono h1 hb.size, hb.trans (h2.mono hb.size)⟩
  clear ho hl al
  go_enter Try.func27, Try.ntmps27
  go_wp2_with fail
  refine (HC.out _ HB0.out).mono ?_; rintro e w2 ⟨v', rfl, ho2, hb2⟩
  have HO2 := Lib.hid ho2
  have HB2 := Lib.hid hb2
  clear ho2 hb2 c0
  go_wp2_with fail
  go_ret
  exact ⟨_, rfl, HO2.out, HB2.out⟩

end Go.Proofs.Ytmdifcgnmkpecaa
