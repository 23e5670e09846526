/-
  The example of layer 9, at this seat's numbers.
-/
import Derived.Test.YtofncnommekbjaaTrW
namespace Go.Proofs.Ytofncnommekbjaa
open Go Go.RowKit
set_option linter.unusedVariables false

def nums (l : List Int) : List Value := l.map (Value.int .i64)
theorem nums_len (l : List Int) : (nums l).length = l.length := by unfold nums; simp
theorem nums_gd (l : List Int) : Gd (nums l) := fun v hv => by
  unfold nums at hv
  obtain ⟨x, _, rfl⟩ := List.mem_map.1 hv
  intro h; cases h
theorem nums_one (l : List Int) : ∀ u ∈ nums l, u.oneCell' = true := fun v hv => by
  unfold nums at hv
  obtain ⟨x, _, rfl⟩ := List.mem_map.1 hv
  rfl
theorem box_eq (w : World) (TT : TypeId) (x : Option Addr) : ∃ w2, (w.alloc (Obj.cells #[Value.pointer none] TT)).setCell ⟨w.heap.size, 0, none⟩ (.pointer x) = w2 ∧ Below w.heap.size w w2 ∧ w2.heap.size = w.heap.size + 1 ∧ w2.heap[w.heap.size]? = some (.cells #[.pointer x] TT (0, 0)) := ⟨_, rfl, box_tree⟩

theorem two_kids {w : World} {T : TypeId} {x : Option Addr} {L : List Value} (H : Tin w T (.pointer x) L) (hl : L.length = 7) : ∃ (b : Nat) (ks : List (El 1)), x = some ⟨b, 0, none⟩ ∧ In w T 1 ks b ∧ Ok (rlo 1) 1 ks ∧ ks.length = 2 ∧ flatL 1 ks = L := by
  rcases H with ⟨_, rfl⟩ | ⟨b, h, t, hx, hin, hok, rfl⟩
  · simp at hl
  · injection hx with hx
    have h1 := ok_pow h hok
    match h, t, hin, hok, hl, h1 with
    | 0, t, hin, hok, hl, h1 =>
      have h2 := hok.len
      have h3 := flatLen0 t
      omega
    | 1, t, hin, hok, hl, h1 =>
      refine ⟨b, t, hx, hin, hok, ?_, rfl⟩
      have h2 := ok_pow 1 (ok_succ (Nat.le_refl t.length) hok.len.2 hok.oks)
      have h3 := hok.len.1
      rw [rlo_succ] at h3
      omega
    | h + 2, t, hin, hok, hl, h1 =>
      rw [rlo_succ] at h1
      have h4 : 3 ^ (h + 2) = 3 ^ h * 9 := by rw [Nat.pow_add]
      have h3 : 0 < 3 ^ h := Nat.pow_pos (by omega)
      omega

set_option maxRecDepth 100000 in
set_option maxHeartbeats 2000000 in
/-- Seven numbers, and an eighth one. -/
theorem awake9_of {w : World} : Calls Try.prog 17 #[] w fun e w' => e = .returned (.bool true) ∧ Below w.heap.size w w' := by
  have hh := heap_alloc_new w (Obj.cells (nums [1, 2, 3, 4, 5, 6, 7]).toArray 3)
  have al := t_al w (Obj.cells (nums [1, 2, 3, 4, 5, 6, 7]).toArray 3)
  have HO := Lib.hid (tof_i (n := 7) (Sl.new hh (by unfold maxLen; decide) (nums_one _)) rfl (by omega) (nums_gd _))
  have AL := Lib.hid al
  have hI8 : insV (nums [1, 2, 3, 4, 5, 6, 7]) 7 (.int .i64 8) = nums [1, 2, 3, 4, 5, 6, 7, 8] := by simp [insV, replL, nums]
  have hA8 : atV (nums [1, 2, 3, 4, 5, 6, 7, 8]) 7 (.int .i64 0) = .int .i64 8 := by simp [atV, nums]
  have HV := Lib.hid (And.intro hI8 hA8)
  clear hh al hI8 hA8
  go_enter Try.func17, Try.ntmps17
  go_wp2_with fail
  refine HO.out.mono ?_; rintro e w1 ⟨x1, rfl, hT1, hb1⟩
  obtain ⟨w2, hw2, hb2, hz2, hh2⟩ := box_eq w1 27 x1
  have c2 : w2.cell? ⟨w1.heap.size, 0, none⟩ = some (.pointer x1) := by rw [cell_at hh2]; rfl
  have HT2 := Lib.hid (hT1.below hb2)
  have HI := Lib.hid (tins_i 8 7 HT2.out (nums_gd _) (by decide))
  rw [HV.out.1] at HI
  have HB2 := Lib.hid (AL.out.trans ((hb1.trans (hb2.mono hb1.size)).mono AL.out.size))
  have hlt2 : w1.heap.size < w2.heap.size := by omega
  clear hT1 hb1 HO hb2
  go_wp2_with fail
  refine HI.out.mono ?_; rintro e w3 ⟨x3, rfl, hT3, hb3⟩
  rw [show decide (0 ≤ (7 : Int) ∧ (7 : Int) ≤ ((nums [1, 2, 3, 4, 5, 6, 7]).length : Int)) = true by decide]
  obtain ⟨w4, hw4, hb4, hz4, hh4⟩ := box_eq w3 27 x3
  have hb24 := hb3.trans (hb4.mono hb3.size)
  have c4 : w4.cell? ⟨w3.heap.size, 0, none⟩ = some (.pointer x3) := by rw [cell_at hh4]; rfl
  have c2 := (hb24.cell (p := ⟨w1.heap.size, 0, none⟩) hlt2).trans c2
  have HT4 := Lib.hid (HT2.out.below hb24)
  have HU4 := Lib.hid (hT3.below hb4)
  have HB4 := Lib.hid (HB2.out.trans (hb24.mono HB2.out.size))
  have HR := Lib.hid (root_i HT4.out)
  have hlt4 : w1.heap.size < w4.heap.size := Nat.lt_of_lt_of_le hlt2 hb24.size
  have hlt4' : w3.heap.size < w4.heap.size := by omega
  clear hT3 hb3 hb4 HI hb24 hz2 hz4 hh2 hh4
  go_wp2_with fail
  refine HR.out.mono ?_; rintro e w5 ⟨rfl, hb5⟩
  have c2 := (hb5.cell (p := ⟨w1.heap.size, 0, none⟩) hlt4).trans c2
  have c4 := (hb5.cell (p := ⟨w3.heap.size, 0, none⟩) hlt4').trans c4
  have HT5 := Lib.hid (HT4.out.below hb5)
  have HU5 := Lib.hid (HU4.out.below hb5)
  have HB5 := Lib.hid (HB4.out.trans (hb5.mono HB4.out.size))
  have HA := Lib.hid (tat_i 7 HU5.out (by decide))
  rw [HV.out.2] at HA
  have hlt5 := Nat.lt_of_lt_of_le hlt4 hb5.size
  have hlt5' := Nat.lt_of_lt_of_le hlt4' hb5.size
  clear hb5 HR
  go_wp2_with fail
  refine HA.out.mono ?_; rintro e w6 ⟨rfl, hb6⟩
  rw [show decide (0 ≤ (7 : Int) ∧ (7 : Int) < ((nums [1, 2, 3, 4, 5, 6, 7, 8]).length : Int)) = true by decide]
  have c2 := (hb6.cell (p := ⟨w1.heap.size, 0, none⟩) hlt5).trans c2
  have c4 := (hb6.cell (p := ⟨w3.heap.size, 0, none⟩) hlt5').trans c4
  have HT6 := Lib.hid (HT5.out.below hb6)
  have HU6 := Lib.hid (HU5.out.below hb6)
  have HB6 := Lib.hid (HB5.out.trans (hb6.mono HB5.out.size))
  obtain ⟨b, ks, rfl, hin, hok, hkl, hfl⟩ := two_kids HT6.out rfl
  obtain ⟨ka, kc, k0, k1, hes⟩ := hin.kids
  rw [hkl] at k0
  have HH := Lib.hid (height_i hin hok (by rw [hfl]; decide))
  have hlt6 := Nat.lt_of_lt_of_le hlt5 hb6.size
  have hlt6' := Nat.lt_of_lt_of_le hlt5' hb6.size
  clear hb6 HA hin hok hes hfl hkl k1
  go_wp2_with fail
  refine HH.out.mono ?_; rintro e w7 ⟨rfl, hb7⟩
  have c4 := (hb7.cell (p := ⟨w3.heap.size, 0, none⟩) hlt6').trans c4
  have c2 := (hb7.cell (p := ⟨w1.heap.size, 0, none⟩) hlt6).trans c2
  have HB7 := Lib.hid (HB6.out.trans (hb7.mono HB6.out.size))
  have HL := Lib.hid (len_i (HU6.out.below hb7))
  have HT7 := Lib.hid (HT6.out.below hb7)
  have hlt7 := Nat.lt_of_lt_of_le hlt6 hb7.size
  clear hb7 HH
  go_wp2_with fail
  refine HL.out.mono ?_; rintro e w8 ⟨rfl, hb8⟩
  have c2 := (hb8.cell (p := ⟨w1.heap.size, 0, none⟩) hlt7).trans c2
  have HB8 := Lib.hid (HB7.out.trans (hb8.mono HB7.out.size))
  have HL2 := Lib.hid (len_i (HT7.out.below hb8))
  clear hb8 HL
  go_wp2_with fail
  refine HL2.out.mono ?_; rintro e w9 ⟨rfl, hb9⟩
  have HB9 := Lib.hid (HB8.out.trans (hb9.mono HB8.out.size))
  clear hb9 HL2
  go_wp2_with fail
  go_ret
  exact ⟨rfl, HB9.out⟩

end Go.Proofs.Ytofncnommekbjaa
