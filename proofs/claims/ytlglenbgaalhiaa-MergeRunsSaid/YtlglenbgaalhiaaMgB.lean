/-
  The contract of Less, at this seat's numbers.
-/
import Derived.Test.YtlglenbgaalhiaaMgA
import Derived.Deep.RegionHeld3
namespace Go.Proofs.Ytlglenbgaalhiaa
open Go Go.RowKit
set_option linter.unusedVariables false

set_option maxRecDepth 100000 in
set_option maxHeartbeats 4000000 in
/-- Is the i-th row's next thing ahead of the j-th one's? -/
theorem less_of {W w : World} {p : Nat} {fv : Value} {D : Int → Prop} {c : Int → Int → Int} {R : List Ent} (hC : Cv W fv D c) (hb : Below W.heap.size W w) (h : Hp w W.heap.size p fv R) (i j : Nat) (hi : i < R.length) (hj : j < R.length) (hRi : EntOk W D (gE R i)) (hRj : EntOk W D (gE R j)) :
    Calls Try.prog 52 #[.pointer (some ⟨p, 0, none⟩), .int .i64 i, .int .i64 j] w fun e w' => e = .returned (.bool (lsB c (gE R i) (gE R j))) ∧ Below w.heap.size w w' := by
  obtain ⟨k, cap, rfl, hcf, hK⟩ := hC
  obtain ⟨g, cc, c0, c1, hc, hcm, hp, hg, hne, hB, hfz, hes, hown, hh⟩ := h.cells (by omega)
  obtain ⟨gx, ox, hx1, hx2, hx3, hx4, hx5⟩ := hRi.head
  obtain ⟨gy, oy, hy1, hy2, hy3, hy4, hy5⟩ := hRj.head
  obtain ⟨x0, x1⟩ := hes i hi
  obtain ⟨y0, y1⟩ := hes j hj
  have vx := (hb.cell (p := ⟨gx, ox, none⟩) hx2).trans hx3
  have vy := (hb.cell (p := ⟨gy, oy, none⟩) hy2).trans hy3
  rw [hx1] at x0; rw [hy1] at y0
  have hls : lsB c (gE R i) (gE R j) = decide (c (gE R i).hd (gE R j).hd < 0 ∨ (c (gE R i).hd (gE R j).hd = 0 ∧ (gE R i).num < (gE R j).num)) := rfl
  rw [hls]
  generalize (gE R i).hd = hx at *
  generalize (gE R j).hd = hy at *
  generalize (gE R i).num = nx at *
  generalize (gE R j).num = ny at *
  generalize (gE R i).l.length = lx at *
  generalize (gE R j).l.length = ly at *
  generalize (gE R i).c = cx at *
  generalize (gE R j).c = cy at *
  have hK' := fun w' (hb' : Below w.heap.size w w') => hK w' hx hy (hb.trans (hb'.mono hb.size)) hx4 hy4
  obtain ⟨s, hs⟩ : ∃ s, c hx hy = s := ⟨_, rfl⟩
  simp only [hs] at hK'
  rw [hs]
  obtain ⟨bb, hbb⟩ : ∃ bb, decide (s < 0 ∨ (s = 0 ∧ nx < ny)) = bb := ⟨_, rfl⟩
  rw [hbb]
  have HK := Lib.hid hK'
  have HBB := Lib.hid hbb
  have e0 : (0 : Int) ≤ (i : Int) := by omega
  have e1 : (i : Int) < (R.length : Int) := by omega
  have e2 : (0 : Int) ≤ (j : Int) := by omega
  have e3 : (j : Int) < (R.length : Int) := by omega
  have e4 : (0 : Int) < (lx : Int) := by omega
  have e5 : (0 : Int) < (ly : Int) := by omega
  have hgx : gx < w.heap.size := Nat.lt_of_lt_of_le hx2 hb.size
  have hgy : gy < w.heap.size := Nat.lt_of_lt_of_le hy2 hb.size
  generalize R.length = n at *
  clear hK hK' hs hbb hes hls hx1 hx2 hx3 hx4 hy1 hy2 hy3 hy4 hown hh hb hRi hRj h
  go_enter Try.func52, Try.ntmps52
  go_wp2_with fail
  go_region
  · obtain ⟨w1, hw1, hb1, hz1, hA1, hB1⟩ := two_new w (.cells #[.slice (some ⟨gx, ox, none⟩) lx cx, .int .i64 nx] 47) (.cells #[.slice (some ⟨gy, oy, none⟩) ly cy, .int .i64 ny] 47)
    rw [hw1]
    have a0 : w1.cell? ⟨w.heap.size, 0, none⟩ = some (.slice (some ⟨gx, ox, none⟩) lx cx) := by rw [cell_at hA1]; rfl
    have a1 : w1.cell? ⟨w.heap.size, 1, none⟩ = some (.int .i64 nx) := by rw [cell_at hA1]; rfl
    have b0 : w1.cell? ⟨w.heap.size + 1, 0, none⟩ = some (.slice (some ⟨gy, oy, none⟩) ly cy) := by rw [cell_at hB1]; rfl
    have b1 : w1.cell? ⟨w.heap.size + 1, 1, none⟩ = some (.int .i64 ny) := by rw [cell_at hB1]; rfl
    have hlA : w.heap.size < w1.heap.size := by omega
    have hlB : w.heap.size + 1 < w1.heap.size := by omega
    have ld1 := fun w' (h : Below w1.heap.size w1 w') => (h.cell (p := ⟨p, 1, none⟩) (Nat.lt_of_lt_of_le hp hb1.size)).trans ((hb1.cell (p := ⟨p, 1, none⟩) hp).trans c1)
    have ld2 := fun w' (h : Below w1.heap.size w1 w') => (h.cell (p := ⟨gx, ox, none⟩) (Nat.lt_of_lt_of_le hgx hb1.size)).trans ((hb1.cell (p := ⟨gx, ox, none⟩) hgx).trans vx)
    have ld3 := fun w' (h : Below w1.heap.size w1 w') => (h.cell (p := ⟨gy, oy, none⟩) (Nat.lt_of_lt_of_le hgy hb1.size)).trans ((hb1.cell (p := ⟨gy, oy, none⟩) hgy).trans vy)
    have ld4 := fun w' (h : Below w1.heap.size w1 w') => (h.cell (p := ⟨w.heap.size, 0, none⟩) hlA).trans a0
    have ld5 := fun w' (h : Below w1.heap.size w1 w') => (h.cell (p := ⟨w.heap.size + 1, 0, none⟩) hlB).trans b0
    have HK1 := Lib.hid (fun w' (h : Below w1.heap.size w1 w') => HK.out w' (hb1.trans (h.mono hb1.size)))
    have HB1 := Lib.hid hb1
    have hsB0 : Below w1.heap.size w1 w1.drew := (Below.refl _ _).drew
    have hsB1 : Below w1.heap.size w1 w1.drew.drew := (Below.refl _ _).drew.drew
    have B0 := Lib.hid hsB1
    have A1 := Lib.hid (And.intro a1 b1)
    clear hw1 hb1 hz1 hA1 hB1 c1 vx vy c0 x0 x1 y0 y1 a0 b0 a1 b1 HK
    go_wp2_with fail
    go_region_held3 (fun w' => Below w1.heap.size w1 w') (first | assumption)
      ((refine (HK1.out _ B0.out).mono ?_; rintro e w2 ⟨rfl, hb2⟩; have hsB2 := B0.out.trans (hb2.mono B0.out.size); have B2 := Lib.hid hsB2; clear hb2))
    have f1 := (B2.out.cell (p := ⟨w.heap.size, 1, none⟩) hlA).trans A1.out.1
    have f2 := (B2.out.cell (p := ⟨w.heap.size + 1, 1, none⟩) hlB).trans A1.out.2
    clear ld1 ld2 ld3 ld4 ld5 HK1 hsB0 hsB1 hsB2
    have HE := Lib.hid (HB1.out.trans (B2.out.mono HB1.out.size))
    clear A1 B0 B2 HB1
    by_cases q1 : s < 0
    · have d1 : decide (s < 0) = true := decide_eq_true q1
      have HF : Hid (bb = true) := Lib.hid (HBB.out.symm.trans (decide_eq_true (p := s < 0 ∨ s = 0 ∧ nx < ny) (.inl q1)))
      go_wp2_with fail
      go_ret
      exact ⟨by rw [HF.out] <;> rfl, HE.out⟩
    · have d1 : decide (s < 0) = false := decide_eq_false q1
      by_cases q2 : s = 0
      · subst q2
        have q3 : ((0 : Int) == (0 : Int)) = true := by decide
        by_cases q4 : nx < ny
        · have d4 : decide ((nx : Int) < (ny : Int)) = true := decide_eq_true (by omega)
          have d5 : decide (nx < ny) = true := decide_eq_true q4
          have HF : Hid (bb = true) := Lib.hid (HBB.out.symm.trans (decide_eq_true (.inr ⟨rfl, q4⟩)))
          go_wp2_with fail
          go_ret
          exact ⟨by rw [HF.out] <;> rfl, HE.out⟩
        · have d4 : decide ((nx : Int) < (ny : Int)) = false := decide_eq_false (by omega)
          have d5 : decide (nx < ny) = false := decide_eq_false q4
          have HF : Hid (bb = false) := Lib.hid (HBB.out.symm.trans (decide_eq_false (by omega)))
          go_wp2_with fail
          go_ret
          exact ⟨by rw [HF.out] <;> rfl, HE.out⟩
      · have q3 : (s == 0) = false := by simp [q2]
        have HF : Hid (bb = false) := Lib.hid (HBB.out.symm.trans (decide_eq_false (by omega)))
        go_wp2_with fail
        go_ret
        exact ⟨by rw [HF.out] <;> rfl, HE.out⟩
  · obtain ⟨w1, hw1, hb1, hz1, hA1, hB1⟩ := two_new w (.cells #[.slice (some ⟨gy, oy, none⟩) ly cy, .int .i64 ny] 47) (.cells #[.slice (some ⟨gx, ox, none⟩) lx cx, .int .i64 nx] 47)
    rw [hw1]
    have a0 : w1.cell? ⟨w.heap.size, 0, none⟩ = some (.slice (some ⟨gy, oy, none⟩) ly cy) := by rw [cell_at hA1]; rfl
    have a1 : w1.cell? ⟨w.heap.size, 1, none⟩ = some (.int .i64 ny) := by rw [cell_at hA1]; rfl
    have b0 : w1.cell? ⟨w.heap.size + 1, 0, none⟩ = some (.slice (some ⟨gx, ox, none⟩) lx cx) := by rw [cell_at hB1]; rfl
    have b1 : w1.cell? ⟨w.heap.size + 1, 1, none⟩ = some (.int .i64 nx) := by rw [cell_at hB1]; rfl
    have hlA : w.heap.size < w1.heap.size := by omega
    have hlB : w.heap.size + 1 < w1.heap.size := by omega
    have ld1 := fun w' (h : Below w1.heap.size w1 w') => (h.cell (p := ⟨p, 1, none⟩) (Nat.lt_of_lt_of_le hp hb1.size)).trans ((hb1.cell (p := ⟨p, 1, none⟩) hp).trans c1)
    have ld2 := fun w' (h : Below w1.heap.size w1 w') => (h.cell (p := ⟨gx, ox, none⟩) (Nat.lt_of_lt_of_le hgx hb1.size)).trans ((hb1.cell (p := ⟨gx, ox, none⟩) hgx).trans vx)
    have ld3 := fun w' (h : Below w1.heap.size w1 w') => (h.cell (p := ⟨gy, oy, none⟩) (Nat.lt_of_lt_of_le hgy hb1.size)).trans ((hb1.cell (p := ⟨gy, oy, none⟩) hgy).trans vy)
    have ld4 := fun w' (h : Below w1.heap.size w1 w') => (h.cell (p := ⟨w.heap.size, 0, none⟩) hlA).trans a0
    have ld5 := fun w' (h : Below w1.heap.size w1 w') => (h.cell (p := ⟨w.heap.size + 1, 0, none⟩) hlB).trans b0
    have HK1 := Lib.hid (fun w' (h : Below w1.heap.size w1 w') => HK.out w' (hb1.trans (h.mono hb1.size)))
    have HB1 := Lib.hid hb1
    have hsB0 : Below w1.heap.size w1 w1.drew := (Below.refl _ _).drew
    have hsB1 : Below w1.heap.size w1 w1.drew.drew := (Below.refl _ _).drew.drew
    have B0 := Lib.hid hsB1
    have A1 := Lib.hid (And.intro a1 b1)
    clear hw1 hb1 hz1 hA1 hB1 c1 vx vy c0 x0 x1 y0 y1 a0 b0 a1 b1 HK
    go_wp2_with fail
    go_region_held3 (fun w' => Below w1.heap.size w1 w') (first | assumption)
      ((refine (HK1.out _ B0.out).mono ?_; rintro e w2 ⟨rfl, hb2⟩; have hsB2 := B0.out.trans (hb2.mono B0.out.size); have B2 := Lib.hid hsB2; clear hb2))
    have f1 := (B2.out.cell (p := ⟨w.heap.size, 1, none⟩) hlA).trans A1.out.1
    have f2 := (B2.out.cell (p := ⟨w.heap.size + 1, 1, none⟩) hlB).trans A1.out.2
    clear ld1 ld2 ld3 ld4 ld5 HK1 hsB0 hsB1 hsB2
    have HE := Lib.hid (HB1.out.trans (B2.out.mono HB1.out.size))
    clear A1 B0 B2 HB1
    by_cases q1 : s < 0
    · have d1 : decide (s < 0) = true := decide_eq_true q1
      have HF : Hid (bb = true) := Lib.hid (HBB.out.symm.trans (decide_eq_true (p := s < 0 ∨ s = 0 ∧ nx < ny) (.inl q1)))
      go_wp2_with fail
      go_ret
      exact ⟨by rw [HF.out] <;> rfl, HE.out⟩
    · have d1 : decide (s < 0) = false := decide_eq_false q1
      by_cases q2 : s = 0
      · subst q2
        have q3 : ((0 : Int) == (0 : Int)) = true := by decide
        by_cases q4 : nx < ny
        · have d4 : decide ((nx : Int) < (ny : Int)) = true := decide_eq_true (by omega)
          have d5 : decide (nx < ny) = true := decide_eq_true q4
          have HF : Hid (bb = true) := Lib.hid (HBB.out.symm.trans (decide_eq_true (.inr ⟨rfl, q4⟩)))
          go_wp2_with fail
          go_ret
          exact ⟨by rw [HF.out] <;> rfl, HE.out⟩
        · have d4 : decide ((nx : Int) < (ny : Int)) = false := decide_eq_false (by omega)
          have d5 : decide (nx < ny) = false := decide_eq_false q4
          have HF : Hid (bb = false) := Lib.hid (HBB.out.symm.trans (decide_eq_false (by omega)))
          go_wp2_with fail
          go_ret
          exact ⟨by rw [HF.out] <;> rfl, HE.out⟩
      · have q3 : (s == 0) = false := by simp [q2]
        have HF : Hid (bb = false) := Lib.hid (HBB.out.symm.trans (decide_eq_false (by omega)))
        go_wp2_with fail
        go_ret
        exact ⟨by rw [HF.out] <;> rfl, HE.out⟩

end Go.Proofs.Ytlglenbgaalhiaa
