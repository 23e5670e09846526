/-
  How much registers' texts are, in the program and in the document; fits, takes; at this seat's numbers.
-/
import Derived.Test.YteipnllefifgiaaRgC
namespace Go.Proofs.Yteipnllefifgiaa
open Go Go.RowKit
set_option linter.unusedVariables false

theorem two_new (w : World) (o o' : Obj) : ∃ w1, (w.alloc o).alloc o' = w1 ∧ Below w.heap.size w w1 ∧ w1.heap.size = w.heap.size + 2 ∧ w1.heap[w.heap.size]? = some o ∧ w1.heap[w.heap.size + 1]? = some o' :=
  ⟨_, rfl, (t_al w o).alloc (by simp) o', by simp, heap_mid w o o', by have := heap_alloc_new (w.alloc o) o'; simpa using this⟩

set_option maxRecDepth 100000 in
set_option maxHeartbeats 4000000 in
theorem size_of {w : World} {lo hi : Nat} {a : Option Addr} {c : Nat} {T : List TxM} (k : Int) (H : Mx w lo hi a c T) (hn : szM (txL T) ≤ 1000000) (hm : T.length ≤ 1000000) : Calls Try.prog 19 #[rgV k a T.length c] w fun e w' => e = .returned (.int .i64 (szM (txL T))) ∧ Below w.heap.size w w' := by
  unfold rgV
  obtain ⟨n, hnn⟩ : ∃ n, T.length = n := ⟨_, rfl⟩
  have HN := Lib.hid hnn
  rw [hnn] at hm ⊢
  have al := t_al w (.cells #[.int .i64 k, .slice a n c] 41)
  have HM := Lib.hid (H.below al)
  have HAL := Lib.hid al
  have HSN := Lib.hid hn
  clear hnn H al hn
  go_enter Try.func19, Try.ntmps19
  go_wp2_with fail
  generalize (w.alloc (.cells #[.int .i64 k, .slice a n c] 41)) = w1 at *
  go_loopw [3, 11] (fun v3 v11 wr => ∃ i : Nat, v3 = .int .i64 (szM ((txL T).take i)) ∧ v11 = .int .i64 i ∧ i ≤ n ∧ wr = w1) (fun _ v11 _ => n - (intOf v11).toNat)
  case atStart => exact ⟨0, rfl, rfl, by omega, rfl⟩
  case round =>
    obtain ⟨i, rfl, rfl, hi', hww⟩ := hrel
    subst hww
    by_cases hlt : i < n
    · have dk : decide (i < n) = true := decide_eq_true hlt
      have hlT : i < T.length := by rw [HN.out]; exact hlt
      obtain ⟨p, hp⟩ : ∃ p, T[i]? = some p := ⟨_, List.getElem?_eq_getElem hlT⟩
      obtain ⟨g, o, rfl, hg, c0, hrow, hbt⟩ := HM.out.row hp
      unfold txV at c0
      have hMp : (txL T)[i]? = some p.2.2 := by unfold txL; rw [List.getElem?_map, hp]; rfl
      have HST := Lib.hid (szM_take hMp)
      have HLE := Lib.hid (Nat.le_trans (szM_le (M := txL T) (i + 1)) HSN.out)
      have HROW := Lib.hid hrow
      clear hrow hbt hp hMp
      obtain ⟨pa, pc, l⟩ := p
      simp only [] at c0 HROW HST
      obtain ⟨m, hml⟩ : ∃ m, l.length = m := ⟨_, rfl⟩
      have HML := Lib.hid hml
      rw [hml] at c0
      have hls := szL_len l
      have HS1 : Hid (szM ((txL T).take i) + szL l ≤ 1000000) := by
        have h1 := HST.out
        have h2 := HLE.out
        rw [h1] at h2
        exact Lib.hid h2
      have hm2 : m ≤ 1000000 := by have := HS1.out; omega
      clear hml hls
      have e0 : (0 : Int) ≤ (i : Int) := by omega
      have e1 : (i : Int) < (n : Int) := by omega
      generalize hS0 : szM ((txL T).take i) = S0 at *
      have HS0 := Lib.hid hS0
      clear hS0
      go_wp2_with fail
      go_loopw [3, 17] (fun v3 v17 wz => ∃ j : Nat, v3 = .int .i64 ((S0 + szL (l.take j) : Nat) : Int) ∧ v17 = .int .i64 j ∧ j ≤ m ∧ wz = wr) (fun _ v17 _ => m - (intOf v17).toNat)
      case atStart => exact ⟨0, by simp [szL], rfl, by omega, rfl⟩
      case round =>
        obtain ⟨j, rfl, rfl, hj, hwz⟩ := hrel
        have hwz2 := hwz.symm
        subst hwz2
        clear hwz
        by_cases hlj : j < m
        · have dj : decide (j < m) = true := decide_eq_true hlj
          have hjl : j < l.length := by rw [HML.out]; exact hlj
          obtain ⟨x, hx⟩ : ∃ x, l[j]? = some x := ⟨_, List.getElem?_eq_getElem hjl⟩
          obtain ⟨g2, o2, rfl, hg2, d0⟩ := HROW.out.text hx
          have HX := Lib.hid (szL_take hx)
          have hle2 := szL_le (l := l) (j + 1)
          have hS1 := HS1.out
          rw [szL_take hx] at hle2
          clear hx
          generalize hq : szL (l.take j) = q at *
          have HQ := Lib.hid hq
          clear hq
          have f0 : (0 : Int) ≤ (j : Int) := by omega
          have f1 : (j : Int) < (m : Int) := by omega
          have hS2 : S0 + q + x.size + 1 ≤ 1000000 := by omega
          clear hS1 hle2
          have HEND : Hid (((S0 + q : Nat) : Int) + ((x.size : Int) + 1) = ((S0 + szL (l.take (j + 1)) : Nat) : Int) ∧ ((S0 + q : Nat) : Int) + (x.size : Int) + 1 = ((S0 + szL (l.take (j + 1)) : Nat) : Int) ∧ (x.size : Int) ≤ 1000000 ∧ S0 + q + x.size + 1 ≤ 1000000) := Lib.hid (by
            rw [HX.out]; omega)
          go_wp2_with fail
          go_roundw
          case rel =>
            refine ⟨j + 1, ?_, by go_num, by omega, by first | rfl | trivial⟩
            obtain ⟨q1, q2, q3, q4⟩ := HEND.out
            have hx1 := HX.out
            refine int_eq ?_
            first
              | omega
              | (go_num)
          case measure => simp [intOf]; omega
        · have dj : decide (j < m) = false := decide_eq_false hlj
          have hjm : j = m := by omega
          have HT2 : Hid (S0 + szL (l.take j) = szM ((txL T).take (i + 1))) := Lib.hid (by rw [hjm, ← HML.out, List.take_length, HST.out])
          clear hjm
          go_wp2_with fail
          go_roundw
          case rel => exact ⟨i + 1, by rw [HT2.out], by go_num, by omega, by first | rfl | trivial⟩
          case measure => simp [intOf]; omega
    · have dk : decide (i < n) = false := decide_eq_false hlt
      have hin : i = n := by omega
      have HE : Hid (szM ((txL T).take i) = szM (txL T)) := Lib.hid (by rw [hin, List.take_of_length_le (by unfold txL; rw [List.length_map, HN.out]; exact Nat.le_refl _)])
      clear hin
      go_wp2_with fail
      go_ret
      exact ⟨by rw [HE.out] <;> rfl, HAL.out⟩

set_option maxRecDepth 100000 in
set_option maxHeartbeats 4000000 in
theorem rsize_of {w : World} {lo hi : Nat} {a : Option Addr} {c : Nat} {T : List TxM} (k : Int) (H : Mx w lo hi a c T) (hn : szM (txL T) ≤ 1000000) (hm : T.length ≤ 1000000) : Calls Try.prog 20 #[rgV k a T.length c] w fun e w' => e = .returned (.int .i64 (szM (txL T))) ∧ Below w.heap.size w w' := by
  unfold rgV
  obtain ⟨n, hnn⟩ : ∃ n, T.length = n := ⟨_, rfl⟩
  have HN := Lib.hid hnn
  rw [hnn] at hm ⊢
  have al := t_al w (.cells #[.int .i64 k, .slice a n c] 28)
  have HM := Lib.hid (H.below al)
  have HAL := Lib.hid al
  have HSN := Lib.hid hn
  clear hnn H al hn
  go_enter Try.func20, Try.ntmps20
  go_wp2_with fail
  generalize (w.alloc (.cells #[.int .i64 k, .slice a n c] 28)) = w1 at *
  go_loopw [3, 11] (fun v3 v11 wr => ∃ i : Nat, v3 = .int .i64 (szM ((txL T).take i)) ∧ v11 = .int .i64 i ∧ i ≤ n ∧ wr = w1) (fun _ v11 _ => n - (intOf v11).toNat)
  case atStart => exact ⟨0, rfl, rfl, by omega, rfl⟩
  case round =>
    obtain ⟨i, rfl, rfl, hi', hww⟩ := hrel
    subst hww
    by_cases hlt : i < n
    · have dk : decide (i < n) = true := decide_eq_true hlt
      have hlT : i < T.length := by rw [HN.out]; exact hlt
      obtain ⟨p, hp⟩ : ∃ p, T[i]? = some p := ⟨_, List.getElem?_eq_getElem hlT⟩
      obtain ⟨g, o, rfl, hg, c0, hrow, hbt⟩ := HM.out.row hp
      unfold txV at c0
      have hMp : (txL T)[i]? = some p.2.2 := by unfold txL; rw [List.getElem?_map, hp]; rfl
      have HST := Lib.hid (szM_take hMp)
      have HLE := Lib.hid (Nat.le_trans (szM_le (M := txL T) (i + 1)) HSN.out)
      have HROW := Lib.hid hrow
      clear hrow hbt hp hMp
      obtain ⟨pa, pc, l⟩ := p
      simp only [] at c0 HROW HST
      obtain ⟨m, hml⟩ : ∃ m, l.length = m := ⟨_, rfl⟩
      have HML := Lib.hid hml
      rw [hml] at c0
      have hls := szL_len l
      have HS1 : Hid (szM ((txL T).take i) + szL l ≤ 1000000) := by
        have h1 := HST.out
        have h2 := HLE.out
        rw [h1] at h2
        exact Lib.hid h2
      have hm2 : m ≤ 1000000 := by have := HS1.out; omega
      clear hml hls
      have e0 : (0 : Int) ≤ (i : Int) := by omega
      have e1 : (i : Int) < (n : Int) := by omega
      generalize hS0 : szM ((txL T).take i) = S0 at *
      have HS0 := Lib.hid hS0
      clear hS0
      go_wp2_with fail
      go_loopw [3, 17] (fun v3 v17 wz => ∃ j : Nat, v3 = .int .i64 ((S0 + szL (l.take j) : Nat) : Int) ∧ v17 = .int .i64 j ∧ j ≤ m ∧ wz = wr) (fun _ v17 _ => m - (intOf v17).toNat)
      case atStart => exact ⟨0, by simp [szL], rfl, by omega, rfl⟩
      case round =>
        obtain ⟨j, rfl, rfl, hj, hwz⟩ := hrel
        have hwz2 := hwz.symm
        subst hwz2
        clear hwz
        by_cases hlj : j < m
        · have dj : decide (j < m) = true := decide_eq_true hlj
          have hjl : j < l.length := by rw [HML.out]; exact hlj
          obtain ⟨x, hx⟩ : ∃ x, l[j]? = some x := ⟨_, List.getElem?_eq_getElem hjl⟩
          obtain ⟨g2, o2, rfl, hg2, d0⟩ := HROW.out.text hx
          have HX := Lib.hid (szL_take hx)
          have hle2 := szL_le (l := l) (j + 1)
          have hS1 := HS1.out
          rw [szL_take hx] at hle2
          clear hx
          generalize hq : szL (l.take j) = q at *
          have HQ := Lib.hid hq
          clear hq
          have f0 : (0 : Int) ≤ (j : Int) := by omega
          have f1 : (j : Int) < (m : Int) := by omega
          have hS2 : S0 + q + x.size + 1 ≤ 1000000 := by omega
          clear hS1 hle2
          have HEND : Hid (((S0 + q : Nat) : Int) + ((x.size : Int) + 1) = ((S0 + szL (l.take (j + 1)) : Nat) : Int) ∧ ((S0 + q : Nat) : Int) + (x.size : Int) + 1 = ((S0 + szL (l.take (j + 1)) : Nat) : Int) ∧ (x.size : Int) ≤ 1000000 ∧ S0 + q + x.size + 1 ≤ 1000000) := Lib.hid (by
            rw [HX.out]; omega)
          go_wp2_with fail
          go_roundw
          case rel =>
            refine ⟨j + 1, ?_, by go_num, by omega, by first | rfl | trivial⟩
            obtain ⟨q1, q2, q3, q4⟩ := HEND.out
            have hx1 := HX.out
            refine int_eq ?_
            first
              | omega
              | (go_num)
          case measure => simp [intOf]; omega
        · have dj : decide (j < m) = false := decide_eq_false hlj
          have hjm : j = m := by omega
          have HT2 : Hid (S0 + szL (l.take j) = szM ((txL T).take (i + 1))) := Lib.hid (by rw [hjm, ← HML.out, List.take_length, HST.out])
          clear hjm
          go_wp2_with fail
          go_roundw
          case rel => exact ⟨i + 1, by rw [HT2.out], by go_num, by omega, by first | rfl | trivial⟩
          case measure => simp [intOf]; omega
    · have dk : decide (i < n) = false := decide_eq_false hlt
      have hin : i = n := by omega
      have HE : Hid (szM ((txL T).take i) = szM (txL T)) := Lib.hid (by rw [hin, List.take_of_length_le (by unfold txL; rw [List.length_map, HN.out]; exact Nat.le_refl _)])
      clear hin
      go_wp2_with fail
      go_ret
      exact ⟨by rw [HE.out] <;> rfl, HAL.out⟩

theorem fits_of (k : Int) (a : Option Addr) (n c : Nat) (w : World) : Calls Try.prog 29 #[rgV k a n c] w fun e w' => e = .returned (.bool (decide (0 ≤ k ∧ k ≤ 2 ∧ 0 < n))) ∧ Below w.heap.size w w' := by
  have HA := Lib.hid (fun w' => any_of k a n c w')
  unfold rgV at *
  have al := Lib.hid (t_al w (.cells #[.int .i64 k, .slice a n c] 41))
  obtain ⟨B, hB⟩ : ∃ B, decide (0 ≤ k ∧ k ≤ 2 ∧ 0 < n) = B := ⟨_, rfl⟩
  rw [hB]
  by_cases h0 : 0 ≤ k
  · by_cases h1 : k ≤ 2
    · have HE : Hid (B = decide (0 < n)) := Lib.hid (by rw [← hB, decide_eq_decide]; omega)
      clear hB
      go_enter Try.func29, Try.ntmps29
      go_wp2_with fail
      refine (HA.out _).mono ?_; rintro e w2 ⟨rfl, b2⟩
      have B2 := Lib.hid (al.out.trans (b2.mono al.out.size))
      clear b2
      go_wp2_with fail
      go_ret
      exact ⟨by rw [HE.out] <;> rfl, B2.out⟩
    · have HE : Hid (B = false) := Lib.hid (by rw [← hB]; exact decide_eq_false (by omega))
      have d1 : decide (k ≤ 2) = false := decide_eq_false h1
      have d2 : decide (2 < k) = true := decide_eq_true (by omega)
      clear hB
      go_enter Try.func29, Try.ntmps29
      go_wp2_with fail
      go_ret
      exact ⟨by rw [HE.out] <;> rfl, al.out⟩
  · have HE : Hid (B = false) := Lib.hid (by rw [← hB]; exact decide_eq_false (by omega))
    have d1 : decide (0 ≤ k) = false := decide_eq_false h0
    have d2 : decide (k < 0) = true := decide_eq_true (by omega)
    clear hB
    go_enter Try.func29, Try.ntmps29
    go_wp2_with fail
    go_ret
    exact ⟨by rw [HE.out] <;> rfl, al.out⟩

def tkB (k k' : Int) (n : Nat) : Bool := decide (0 < n ∧ k = k' ∧ k ≠ 2)
theorem takes_of (k k' : Int) (a a' : Option Addr) (n c n' c' : Nat) (w : World) : Calls Try.prog 31 #[rgV k a n c, rgV k' a' n' c'] w fun e w' => e = .returned (.bool (tkB k k' n)) ∧ Below w.heap.size w w' := by
  have HA := Lib.hid (fun w' => any_of k a n c w')
  unfold rgV at *
  have al := Lib.hid (((t_al w (.cells #[.int .i64 k, .slice a n c] 41)).alloc (by simp) (.cells #[.int .i64 k', .slice a' n' c'] 41)))
  have HT : Hid (∀ w2 : World, Below ((w.alloc (.cells #[.int .i64 k, .slice a n c] 41)).alloc (.cells #[.int .i64 k', .slice a' n' c'] 41)).heap.size ((w.alloc (.cells #[.int .i64 k, .slice a n c] 41)).alloc (.cells #[.int .i64 k', .slice a' n' c'] 41)) w2 →
      w2.cell? ⟨w.heap.size, 0, none⟩ = some (.int .i64 k) ∧ w2.cell? ⟨w.heap.size + 1, 0, none⟩ = some (.int .i64 k')) := Lib.hid (fun w2 hb => by
    obtain ⟨w1, e, _, hs, h1, h2⟩ := two_new w (.cells #[.int .i64 k, .slice a n c] 41) (.cells #[.int .i64 k', .slice a' n' c'] 41)
    rw [e] at hb
    refine ⟨(hb.cell (p := ⟨w.heap.size, 0, none⟩) (show w.heap.size < _ by omega)).trans (by rw [cell_at h1]; rfl), (hb.cell (p := ⟨w.heap.size + 1, 0, none⟩) (show w.heap.size + 1 < _ by omega)).trans (by rw [cell_at h2]; rfl)⟩)
  by_cases h0 : 0 < n
  · by_cases h1 : k = k'
    · subst h1
      by_cases h2 : k = 2
      · have HE : Hid (tkB k k n = false) := Lib.hid (decide_eq_false (by omega))
        have d0 : decide (0 < n) = true := decide_eq_true h0
        have d1 : (k == k) = true := by simp
        have d2 : (k == 2) = true := by simpa using h2
        have d3 : (k != 2) = false := by simpa using h2
        clear h2
        go_enter Try.func31, Try.ntmps31
        go_wp2_with fail
        refine (HA.out _).mono ?_; rintro e w2 ⟨rfl, b2⟩
        have B2 := Lib.hid (al.out.trans (b2.mono al.out.size))
        obtain ⟨c0, c1⟩ := HT.out _ b2
        clear b2
        go_wp2_with fail
        go_ret
        exact ⟨by rw [HE.out] <;> rfl, B2.out⟩
      · have HE : Hid (tkB k k n = true) := Lib.hid (decide_eq_true ⟨h0, rfl, h2⟩)
        have d0 : decide (0 < n) = true := decide_eq_true h0
        have d1 : (k == k) = true := by simp
        have d2 : (k == 2) = false := by simpa using h2
        have d3 : (k != 2) = true := by simpa using h2
        go_enter Try.func31, Try.ntmps31
        go_wp2_with fail
        refine (HA.out _).mono ?_; rintro e w2 ⟨rfl, b2⟩
        have B2 := Lib.hid (al.out.trans (b2.mono al.out.size))
        obtain ⟨c0, c1⟩ := HT.out _ b2
        clear b2
        go_wp2_with fail
        go_ret
        exact ⟨by rw [HE.out] <;> rfl, B2.out⟩
    · have HE : Hid (tkB k k' n = false) := Lib.hid (decide_eq_false (by omega))
      have d0 : decide (0 < n) = true := decide_eq_true h0
      have d1 : (k == k') = false := by simpa using h1
      go_enter Try.func31, Try.ntmps31
      go_wp2_with fail
      refine (HA.out _).mono ?_; rintro e w2 ⟨rfl, b2⟩
      have B2 := Lib.hid (al.out.trans (b2.mono al.out.size))
      obtain ⟨c0, c1⟩ := HT.out _ b2
      clear b2
      go_wp2_with fail
      go_ret
      exact ⟨by rw [HE.out] <;> rfl, B2.out⟩
  · have HE : Hid (tkB k k' n = false) := Lib.hid (decide_eq_false (by omega))
    have d0 : decide (0 < n) = false := decide_eq_false h0
    go_enter Try.func31, Try.ntmps31
    go_wp2_with fail
    refine (HA.out _).mono ?_; rintro e w2 ⟨rfl, b2⟩
    have B2 := Lib.hid (al.out.trans (b2.mono al.out.size))
    clear b2
    go_wp2_with fail
    go_ret
    exact ⟨by rw [HE.out] <;> rfl, B2.out⟩

end Go.Proofs.Yteipnllefifgiaa
