/-
  The contracts of piece's Insert and Delete, at this seat's numbers.
-/
import Derived.Test.YtelnehjmkjpjhaaPcK
import Derived.Deep.RegionHeld3
namespace Go.Proofs.Ytelnehjmkjpjhaa
open Go Go.RowKit
set_option linter.unusedVariables false

/-- What a drawn region keeps that ends in a store into one variable: all below it, and that there is such a one. -/
def SxB (T b : Nat) (w1 w : World) : Prop := Below b w1 w ∧ ∃ x, w.heap[b]? = some (.cells #[x] T (0, 0))
theorem SxB.under {T b : Nat} {w1 w w' : World} (h : SxB T b w1 w) (hb : Below w.heap.size w w') : SxB T b w1 w' := by
  obtain ⟨h1, x, h2⟩ := h
  exact ⟨h1.trans (hb.mono (Nat.le_of_lt (lt_of_heap h2))), x, (hb.block b (lt_of_heap h2)).trans h2⟩
theorem SxB.alloc {T b : Nat} {w1 w : World} (h : SxB T b w1 w) (o : Obj) : SxB T b w1 (w.alloc o) := h.under (below_al w o)
theorem SxB.set {T b : Nat} {w1 w : World} {u : Value} (h : SxB T b w1 w) : SxB T b w1 (w.setCell ⟨b, 0, none⟩ u) := by
  obtain ⟨h1, x, h2⟩ := h
  exact ⟨h1.setCell (p := ⟨b, 0, none⟩) (Nat.le_refl _) _, u, by rw [heap_set_at h2]; rfl⟩
theorem SxB.drew {T b : Nat} {w1 w : World} (h : SxB T b w1 w) : SxB T b w1 w.drew := ⟨h.1.drew, h.2⟩
theorem SxB.cell {T b g o : Nat} {w1 w : World} (h : SxB T b w1 w) (hg : g < b) : w.cell? ⟨g, o, none⟩ = w1.cell? ⟨g, o, none⟩ := h.1.cell (p := ⟨g, o, none⟩) hg
theorem SxB.unfr {T b : Nat} {w1 w : World} (h : SxB T b w1 w) : w.frozen? ⟨b, 0, none⟩ = false := by
  obtain ⟨_, x, h2⟩ := h
  exact unfrozen h2 0
theorem SxB.has {T b : Nat} {w1 w : World} (h : SxB T b w1 w) : ∃ x, w.cell? ⟨b, 0, none⟩ = some x := by
  obtain ⟨_, x, h2⟩ := h
  exact ⟨x, by rw [cell_at h2]; rfl⟩
/-- A call of Slice within such a region. -/
theorem slice_sx {W : World} {v : Value} {t : List Int} {T b : Nat} {w1 : World} (i j : Int) (h : Tx W v t) (hi : I64 i) (hj : I64 j) (hW : Below W.heap.size W w1) (hb : W.heap.size ≤ b) (w' : World) (hs : SxB T b w1 w') :
    Calls Try.prog 24 #[.agg #[v], .int .i64 i, .int .i64 j] w' fun e w2 => ∃ a n c, e = .returned (.agg #[.slice a n c]) ∧ Tx w2 (.slice a n c) (slI t i j) ∧ SxB T b w1 w2 ∧ Below w'.heap.size w' w2 := by
  refine (slice_of i j (h.below (hW.trans (hs.1.mono hb))) hi hj).mono ?_
  rintro e w2 ⟨v', rfl, hx, hb2⟩
  have hx2 := hx
  obtain ⟨a, c, rfl, -, -, -, -⟩ := hx2
  exact ⟨a, _, c, rfl, hx.tx, hs.under hb2, hb2⟩
theorem len_sx {W : World} {v : Value} {t : List Int} {T b : Nat} {w1 : World} (h : Tx W v t) (hW : Below W.heap.size W w1) (hb : W.heap.size ≤ b) (w' : World) (hs : SxB T b w1 w') :
    Calls Try.prog 36 #[.agg #[v]] w' fun e w2 => e = .returned (.int .i64 (t.length : Int)) ∧ SxB T b w1 w2 ∧ Below w'.heap.size w' w2 := by
  refine (tlen_of (h.below (hW.trans (hs.1.mono hb)))).mono ?_
  rintro e w2 ⟨rfl, hb2⟩
  exact ⟨rfl, hs.under hb2, hb2⟩
/-- A call of Concat with texts in a new block. -/
theorem concat_sx {T b : Nat} {w1 : World} (vs : List TxV) (w : World) (hs : SxB T b w1 w) (hv : ∀ p ∈ vs, Tx w p.1 p.2) (hm : Sm (plsOf vs)) (hn : vs.length ≤ 1000) (ty : TypeId) (c : Nat) (n : Nat) (hvn : vs.length = n) :
    Calls Try.prog 30 #[.slice (some ⟨w.heap.size, 0, none⟩) n c] (w.alloc (.cells (vs.map (·.1)).toArray ty)) fun e w2 => ∃ a n c, e = .returned (.agg #[.slice a n c]) ∧ TxB w.heap.size w2 (.slice a n c) (plsOf vs) ∧ SxB T b w1 w2 := by
  subst hvn
  have al := below_al w (.cells (vs.map (·.1)).toArray ty)
  refine (concat_of (c := c) ⟨by simp, fun hn => ⟨w.heap.size, 0, rfl, by simp, fun j u hj => ?_⟩⟩ (fun p hp => (hv p hp).below al) hm hn).mono ?_
  · rw [Nat.zero_add, cell_at (heap_alloc_new w _)]
    simpa using hj
  · rintro e w2 ⟨v', rfl, hx, hb2⟩
    have hx2 := hx
    obtain ⟨a, c, rfl, -, -, -, -⟩ := hx2
    exact ⟨a, _, c, rfl, hx.mono (by simp), (hs.under al).under hb2⟩

set_option maxRecDepth 100000 in
set_option maxHeartbeats 4000000 in
theorem insert_of {w : World} {v x : Value} {t u : List Int} (i : Int) (h : Tx w v t) (hx : Tx w x u) (hi : I64 i) (hl : t.length + u.length ≤ 20000) :
    Calls Try.prog 26 #[.agg #[v], .int .i64 i, .agg #[x]] w fun e w' => ∃ v', e = .returned (.agg #[v']) ∧ TxB w.heap.size w' v' (insI t i u) ∧ Below w.heap.size w w' := by
  have HX := Lib.hid h
  have HU := Lib.hid hx
  obtain ⟨a, c, rfl, -, hs, -, -⟩ := h
  obtain ⟨a2, c2, rfl, -, hs2, -, -⟩ := hx
  have HS := Lib.hid hs
  have HS2 := Lib.hid hs2
  have htl := hs.1
  clear hs hs2
  generalize (canon t).length = n1 at *
  generalize (canon u).length = n2 at *
  go_enter Try.func26, Try.ntmps26
  go_upto_region 1 with fail
  obtain ⟨w1, hw1⟩ : ∃ w1, w1 = allocs w [Obj.cells #[Value.slice a n1 c] 27, Obj.cells #[Value.slice a2 n2 c2] 27, Obj.cells #[Value.slice none 0 0] 27] := ⟨_, rfl⟩
  rw [show ((w.alloc (Obj.cells #[Value.slice a n1 c] 27)).alloc (Obj.cells #[Value.slice a2 n2 c2] 27)).alloc (Obj.cells #[Value.slice none 0 0] 27) = w1 from hw1.symm]
  have hz1 : w1.heap.size = w.heap.size + 3 := by rw [hw1]; exact allocs_size _ w
  have HB1 : Hid (Below w.heap.size w w1) := by rw [hw1]; exact Lib.hid (allocs_below _ w)
  have k0 : w1.cell? ⟨w.heap.size, 0, none⟩ = some (.slice a n1 c) := by rw [cell_at (show w1.heap[w.heap.size]? = some (.cells #[Value.slice a n1 c] 27 (0, 0)) by rw [hw1]; exact allocs_at _ w 0 _ rfl)]; rfl
  have k1 : w1.cell? ⟨w.heap.size + 1, 0, none⟩ = some (.slice a2 n2 c2) := by rw [cell_at (show w1.heap[w.heap.size + 1]? = some (.cells #[Value.slice a2 n2 c2] 27 (0, 0)) by rw [hw1]; exact allocs_at _ w 1 _ rfl)]; rfl
  have k2 : w1.heap[w.heap.size + 2]? = some (.cells #[Value.slice none 0 0] 27 (0, 0)) := by rw [hw1]; exact allocs_at _ w 2 _ rfl
  clear hw1
  have S0 : SxB 27 (w.heap.size + 1 + 1) w1 w1.drew := ⟨(Below.refl _ _).drew, _, k2⟩
  have ld0 := fun w' (h : SxB 27 (w.heap.size + 1 + 1) w1 w') => (h.cell (g := w.heap.size) (o := 0) (by omega)).trans k0
  have ld1 := fun w' (h : SxB 27 (w.heap.size + 1 + 1) w1 w') => (h.cell (g := w.heap.size + 1) (o := 0) (by omega)).trans k1
  have C1 := Lib.hid (slice_sx (T := 27) (b := w.heap.size + 1 + 1) 0 i HX.out (by unfold I64; omega) hi HB1.out (by omega))
  have C2 := Lib.hid (len_sx (T := 27) (b := w.heap.size + 1 + 1) HX.out HB1.out (by omega))
  have C3 := Lib.hid (slice_sx (T := 27) (b := w.heap.size + 1 + 1) i t.length HX.out hi ⟨by omega, by omega⟩ HB1.out (by omega))
  have HUW : Hid (∀ w', SxB 27 (w.heap.size + 1 + 1) w1 w' → Tx w' (.slice a2 n2 c2) u) := fun w' h => HU.out.below (HB1.out.trans (h.1.mono (by omega)))
  have HSM : Hid (∀ x y z : Value, Sm (plsOf [(x, slI t 0 i), (y, u), (z, slI t i t.length)])) := fun x y z => by
    have : plsOf [(x, slI t 0 i), (y, u), (z, slI t i t.length)] = insI t i u := by unfold plsOf insI; simp
    rw [this]
    refine ⟨by rw [insI_len]; omega, fun q hq => ?_⟩
    unfold insI at hq
    simp only [List.mem_append] at hq
    rcases hq with (hq | hq) | hq
    · exact (HS.out.slice 0 i).2 q hq
    · exact HS2.out.2 q hq
    · exact (HS.out.slice i t.length).2 q hq
  clear k0 k1 k2 HS HS2
  go_region_held3 (fun w' => SxB 27 (w.heap.size + 1 + 1) w1 w')
    (first | assumption | exact SxB.alloc (by assumption) _ | exact SxB.set (by assumption))
    ((first
      | (go_at_call 24; have X6b := X6; clear X6b; refine (C3.out _ (by assumption)).mono ?_; rintro e w4 ⟨a7, n7, c7, rfl, hx7, hs7, hb7⟩; have X7 := Lib.hid hx7; have X8 := Lib.hid (X6.out.below hb7); clear hx7 hb7)
      | (go_at_call 36; refine (C2.out _ (by assumption)).mono ?_; rintro e w3 ⟨rfl, hs6, hb6⟩; have X6 := Lib.hid (X5.out.below hb6); clear hb6)
      | (go_at_call 24; refine (C1.out _ (by assumption)).mono ?_; rintro e w2 ⟨a5, n5, c5', rfl, hx5, hs5, hb5⟩; have X5 := Lib.hid hx5; clear hx5 hb5)
      | (go_at_call 30; refine (concat_sx [(.slice a5 n5 c5', slI t 0 i), (.slice a2 n2 c2, u), (.slice a7 n7 c7, slI t i t.length)] w4 (by assumption) (by intro p hp; simp only [List.mem_cons, List.not_mem_nil, or_false] at hp; rcases hp with rfl | rfl | rfl; exact X8.out; exact HUW.out _ (by assumption); exact X7.out) (HSM.out _ _ _) (by simp) _ _ 3 rfl).mono ?_; rintro e w6 ⟨a9, n9, c9, rfl, hx9, hs9⟩; have X9 := Lib.hid hx9; have z9 := hs9.unfr; obtain ⟨y9, l9⟩ := hs9.has; clear hx9)))
  go_wp2_with fail
  have c5 : (w6.setCell ⟨w.heap.size + 1 + 1, 0, none⟩ (.slice a9 n9 c9)).cell? ⟨w.heap.size + 1 + 1, 0, none⟩ = some (.slice a9 n9 c9) := cell_set_same l9
  have hfin : plsOf [(.slice a5 n5 c5', slI t 0 i), (.slice a2 n2 c2, u), (.slice a7 n7 c7, slI t i t.length)] = insI t i u := by unfold plsOf insI; simp
  rw [hfin] at X9
  refine bodyPost_ret (v := .agg #[.slice a9 n9 c9]) (by simp [results, Try.results26, go_sem, c5]) rfl ⟨_, rfl, (X9.out.set ?_).mono ?_, HB1.out.trans ((hs9.set.1).mono (by omega))⟩
  · have := hs7.1.size; omega
  · have := hs7.1.size; omega

set_option maxRecDepth 100000 in
set_option maxHeartbeats 4000000 in
theorem delete_of {w : World} {v : Value} {t : List Int} (i j : Int) (h : Tx w v t) (hi : I64 i) (hj : I64 j) (hl : 2 * t.length ≤ 20000) :
    Calls Try.prog 28 #[.agg #[v], .int .i64 i, .int .i64 j] w fun e w' => ∃ v', e = .returned (.agg #[v']) ∧ TxB w.heap.size w' v' (delI t i j) ∧ Below w.heap.size w w' := by
  have HX := Lib.hid h
  obtain ⟨a, c, rfl, -, hs, -, -⟩ := h
  have HS := Lib.hid hs
  have htl := hs.1
  clear hs
  generalize (canon t).length = n1 at *
  go_enter Try.func28, Try.ntmps28
  go_upto_region 1 with fail
  obtain ⟨w1, hw1⟩ : ∃ w1, w1 = allocs w [Obj.cells #[Value.slice a n1 c] 27, Obj.cells #[Value.slice none 0 0] 27] := ⟨_, rfl⟩
  rw [show (w.alloc (Obj.cells #[Value.slice a n1 c] 27)).alloc (Obj.cells #[Value.slice none 0 0] 27) = w1 from hw1.symm]
  have hz1 : w1.heap.size = w.heap.size + 2 := by rw [hw1]; exact allocs_size _ w
  have HB1 : Hid (Below w.heap.size w w1) := by rw [hw1]; exact Lib.hid (allocs_below _ w)
  have k0 : w1.cell? ⟨w.heap.size, 0, none⟩ = some (.slice a n1 c) := by rw [cell_at (show w1.heap[w.heap.size]? = some (.cells #[Value.slice a n1 c] 27 (0, 0)) by rw [hw1]; exact allocs_at _ w 0 _ rfl)]; rfl
  have k2 : w1.heap[w.heap.size + 1]? = some (.cells #[Value.slice none 0 0] 27 (0, 0)) := by rw [hw1]; exact allocs_at _ w 1 _ rfl
  clear hw1
  have S0 : SxB 27 (w.heap.size + 1) w1 w1.drew := ⟨(Below.refl _ _).drew, _, k2⟩
  have ld0 := fun w' (h : SxB 27 (w.heap.size + 1) w1 w') => (h.cell (g := w.heap.size) (o := 0) (by omega)).trans k0
  have C1 := Lib.hid (slice_sx (T := 27) (b := w.heap.size + 1) 0 i HX.out (by unfold I64; omega) hi HB1.out (by omega))
  have C2 := Lib.hid (len_sx (T := 27) (b := w.heap.size + 1) HX.out HB1.out (by omega))
  have C3 := Lib.hid (slice_sx (T := 27) (b := w.heap.size + 1) (max i j) t.length HX.out (by unfold I64 at *; omega) ⟨by omega, by omega⟩ HB1.out (by omega))
  have HSM : Hid (∀ x z : Value, Sm (plsOf [(x, slI t 0 i), (z, slI t (max i j) t.length)])) := fun x z => by
    have : plsOf [(x, slI t 0 i), (z, slI t (max i j) t.length)] = slI t 0 i ++ slI t (max i j) t.length := by unfold plsOf; simp
    rw [this]
    exact (HS.out.slice 0 i).append (HS.out.slice (max i j) t.length) (by have := slI_len_le t 0 i; have := slI_len_le t (max i j) t.length; omega)
  clear k0 k2 HS
  go_region_held3 (fun w' => SxB 27 (w.heap.size + 1) w1 w')
    (first | assumption | exact SxB.alloc (by assumption) _ | exact SxB.set (by assumption))
    ((first
      | (go_at_call 24; have X6b := X6; clear X6b; refine (C3.out _ (by assumption)).mono ?_; rintro e w4 ⟨a7, n7, c7, rfl, hx7, hs7, hb7⟩; have X7 := Lib.hid hx7; have X8 := Lib.hid (X6.out.below hb7); clear hx7 hb7)
      | (go_at_call 36; refine (C2.out _ (by assumption)).mono ?_; rintro e w3 ⟨rfl, hs6, hb6⟩; have X6 := Lib.hid (X5.out.below hb6); clear hb6)
      | (go_at_call 24; refine (C1.out _ (by assumption)).mono ?_; rintro e w2 ⟨a5, n5, c5', rfl, hx5, hs5, hb5⟩; have X5 := Lib.hid hx5; clear hx5 hb5)
      | (go_at_call 30; refine (concat_sx [(.slice a5 n5 c5', slI t 0 i), (.slice a7 n7 c7, slI t (max i j) t.length)] w4 (by assumption) (by intro p hp; simp only [List.mem_cons, List.not_mem_nil, or_false] at hp; rcases hp with rfl | rfl; exact X8.out; exact X7.out) (HSM.out _ _) (by simp) _ _ 2 rfl).mono ?_; rintro e w6 ⟨a9, n9, c9, rfl, hx9, hs9⟩; have X9 := Lib.hid hx9; have z9 := hs9.unfr; obtain ⟨y9, l9⟩ := hs9.has; clear hx9)))
  all_goals go_wp2_with fail
  all_goals
    have c5 : (w6.setCell ⟨w.heap.size + 1, 0, none⟩ (.slice a9 n9 c9)).cell? ⟨w.heap.size + 1, 0, none⟩ = some (.slice a9 n9 c9) := cell_set_same l9
    have hfin : plsOf [(.slice a5 n5 c5', slI t 0 i), (.slice a7 n7 c7, slI t (max i j) t.length)] = delI t i j := by unfold plsOf delI; simp
    rw [hfin] at X9
    exact bodyPost_ret (v := .agg #[.slice a9 n9 c9]) (by simp [results, Try.results28, go_sem, c5]) rfl ⟨_, rfl, (X9.out.set (by have := hs7.1.size; omega)).mono (by have := hs7.1.size; omega), HB1.out.trans ((hs9.set.1).mono (by omega))⟩

end Go.Proofs.Ytelnehjmkjpjhaa
