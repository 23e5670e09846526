/-
  The contracts of slices.Equal at spans, and of piece.Same, at this seat's numbers.
-/
import Derived.Test.YtelnehjmkjpjhaaPcL
import Derived.Deep.QuietTactic
import Derived.BigQuiet
namespace Go.Proofs.Ytelnehjmkjpjhaa
open Go Go.RowKit
set_option linter.unusedVariables false

/-- What holds at the head of slices.Equal's loop. -/
def EqJ (l m : List (Int × Int)) (w : World) (v13 : Value) (wr : World) : Prop := ∃ k : Nat, v13 = .int .i64 k ∧ k ≤ l.length ∧ l.take k = m.take k ∧ Below w.heap.size w wr

set_option maxRecDepth 100000 in
set_option maxHeartbeats 4000000 in
theorem sequal_of {w : World} {a b : Option Addr} {c d : Nat} {l m : List (Int × Int)} (hr : Rd w 2 a l.length (spC l)) (hr2 : Rd w 2 b m.length (spC m)) (hl : l.length ≤ 1000000) (hm : m.length ≤ 1000000) :
    Calls Try.prog 81 #[.slice a l.length c, .slice b m.length d] w fun e w' => e = .returned (.bool (decide (l = m))) ∧ Below w.heap.size w w' := by
  by_cases hn : l.length = m.length
  · have HR := Lib.hid hr
    have HR2 := Lib.hid hr2
    have HN := Lib.hid hn
    clear hr hr2 hm
    rw [← hn]
    clear hn
    go_enter Try.func81, Try.ntmps81
    go_wp2_with fail
    go_loopw [13] (fun v13 wr => EqJ l m w v13 wr) (fun v13 _ => l.length - (intOf v13).toNat)
    case atStart => exact ⟨0, rfl, by omega, rfl, Below.refl _ _⟩
    case round =>
      obtain ⟨k, rfl, hk, ht, hb⟩ := hrel
      have HT := Lib.hid ht
      have HB := Lib.hid hb
      clear ht hb
      by_cases hlt : k < l.length
      · have dk : decide (k < l.length) = true := decide_eq_true hlt
        have hlt2 : k < m.length := by rw [← HN.out]; exact hlt
        obtain ⟨g, off, rfl, hbl, hcl⟩ := HR.out.2 (by omega)
        obtain ⟨g2, off2, rfl, hbl2, hcl2⟩ := HR2.out.2 (by omega)
        have hsp := spC_at l k l[k] (List.getElem?_eq_getElem hlt)
        have hsp2 := spC_at m k m[k] (List.getElem?_eq_getElem hlt2)
        have f1 : wr.cell? ⟨g, off + k * 2, none⟩ = some (.int .i64 l[k].1) := (HB.out.cell (p := ⟨g, off + k * 2, none⟩) hbl).trans (hcl _ _ hsp.1)
        have f2 : wr.cell? ⟨g, off + k * 2 + 1, none⟩ = some (.int .i64 l[k].2) := (HB.out.cell (p := ⟨g, off + k * 2 + 1, none⟩) hbl).trans (hcl _ _ hsp.2)
        have g1 : wr.cell? ⟨g2, off2 + k * 2, none⟩ = some (.int .i64 m[k].1) := (HB.out.cell (p := ⟨g2, off2 + k * 2, none⟩) hbl2).trans (hcl2 _ _ hsp2.1)
        have g2' : wr.cell? ⟨g2, off2 + k * 2 + 1, none⟩ = some (.int .i64 m[k].2) := (HB.out.cell (p := ⟨g2, off2 + k * 2 + 1, none⟩) hbl2).trans (hcl2 _ _ hsp2.2)
        have i0 : (0 : Int) ≤ (k : Int) := by omega
        have i1 : (k : Int) < (l.length : Int) := by omega
        clear hcl hcl2 hbl hbl2 hsp hsp2
        by_cases he : l[k] = m[k]
        · have HE : Hid (l.take (k + 1) = m.take (k + 1)) := by show _ = _; rw [List.take_succ_eq_append_getElem hlt, List.take_succ_eq_append_getElem hlt2, HT.out, he]
          rw [← he] at g1 g2'
          clear he
          generalize l[k].1 = x at *
          generalize l[k].2 = y at *
          go_wp2_with fail
          go_quiet (fail)
          go_wp2_with fail
          go_roundw
          case rel => exact ⟨k + 1, by go_num, hlt, HE.out, below_draw1 HB.out _⟩
          case measure => simp [intOf]; omega
        · have HD : Hid (decide (l = m) = false) := decide_eq_false (fun h => he (by subst h; rfl))
          by_cases hx : l[k].1 = m[k].1
          · have hy : ¬ l[k].2 = m[k].2 := fun h => he (Prod.ext hx h)
            rw [← hx] at g1
            have dy : (l[k].2 == m[k].2) = false := by simpa using hy
            clear he hx hy
            generalize l[k].1 = x at *
            generalize l[k].2 = y at *
            generalize m[k].2 = y' at *
            go_wp2_with fail
            go_quiet (fail)
            go_wp2_with fail
            go_ret
            exact ⟨by rw [HD.out] <;> rfl, below_draw1 HB.out _⟩
          · have dx : (l[k].1 == m[k].1) = false := by simpa using hx
            clear he hx
            generalize l[k].1 = x at *
            generalize l[k].2 = y at *
            generalize m[k].1 = x' at *
            generalize m[k].2 = y' at *
            go_wp2_with fail
            go_quiet (fail)
            go_wp2_with fail
            go_ret
            exact ⟨by rw [HD.out] <;> rfl, below_draw1 HB.out _⟩
      · have dk : decide (k < l.length) = false := decide_eq_false hlt
        obtain rfl : k = l.length := by omega
        have HD : Hid (decide (l = m) = true) := by
          have h := HT.out
          rw [List.take_length, List.take_of_length_le (by rw [HN.out]; exact Nat.le_refl _)] at h
          exact decide_eq_true h
        go_wp2_with fail
        go_ret
        exact ⟨by rw [HD.out] <;> rfl, HB.out⟩
  · have d1 : (l.length == m.length) = false := by simpa using hn
    have d1' : ((l.length : Int) == (m.length : Int)) = false := by simp; omega
    have HD : Hid (decide (l = m) = false) := decide_eq_false (fun h => hn (by rw [h]))
    clear hn hr hr2
    go_enter Try.func81, Try.ntmps81
    go_wp2_with fail
    go_ret
    exact ⟨by rw [HD.out] <;> rfl, Below.refl _ _⟩

theorem canon_eq (t u : List Int) : decide (canon t = canon u) = decide (t = u) := by
  by_cases h : t = u
  · subst h; simp
  · rw [decide_eq_false h, decide_eq_false (fun e => h (canon_inj e))]

set_option maxRecDepth 100000 in
theorem psame_of {w : World} {v x : Value} {t u : List Int} (h : Tx w v t) (hx : Tx w x u) :
    Calls Try.prog 20 #[.agg #[v], .agg #[x]] w fun e w' => e = .returned (.bool (decide (t = u))) ∧ Below w.heap.size w w' := by
  obtain ⟨a, c, rfl, hr, hs, -, -⟩ := h
  obtain ⟨a2, c2, rfl, hr2, hs2, -, -⟩ := hx
  have hc := canon_count t
  have hc2 := canon_count u
  have h1 := hs.1
  have h2 := hs2.1
  have HB1 := Lib.hid (((below_al w (Obj.cells #[Value.slice a (canon t).length c] 27)).alloc (by simp) (Obj.cells #[Value.slice a2 (canon u).length c2] 27)))
  have HE := Lib.hid (fun w' (hb : Below w.heap.size w w') => sequal_of (c := c) (d := c2) (hr.below hb) (hr2.below hb) (by omega) (by omega))
  rw [canon_eq] at HE
  clear hr hs hr2 hs2
  generalize (canon t).length = n1 at *
  generalize (canon u).length = n2 at *
  go_enter Try.func20, Try.ntmps20
  go_wp2_with fail
  refine (HE.out _ HB1.out).mono ?_; rintro e w2 ⟨rfl, hb2⟩
  have HB2 := Lib.hid (HB1.out.trans (hb2.mono (by simp; omega)))
  clear hb2
  go_wp2_with fail
  go_ret
  exact ⟨rfl, HB2.out⟩

end Go.Proofs.Ytelnehjmkjpjhaa
