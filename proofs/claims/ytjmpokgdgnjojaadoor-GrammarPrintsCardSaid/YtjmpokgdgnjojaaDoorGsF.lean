/-
  GrammarPrints' walk, at this seat's numbers.
-/
import Derived.Test.YtjmpokgdgnjojaaDoorGsE
import Derived.Test.YtjmpokgdgnjojaaDoorGsC
import Derived.Test.YtjmpokgdgnjojaaDoorGsD
namespace Go.Proofs.YtjmpokgdgnjojaaDoor
open Go Go.RowKit
set_option linter.unusedVariables false

theorem rprint_of (c : Cm) (w : World) (hv : c.vb ≤ 9223372036854775807) : Calls Tryd.prog 6 #[cmV c] w (KPost (prL c) w) := by
  by_cases h : c.rg = 0
  · exact rprint_bare c w hv h
  · exact rprint_reg c w hv h
/-- A command of numbers as Go has them. -/
def CmOk (c : Cm) : Prop := (-9223372036854775808 ≤ c.ct ∧ c.ct ≤ 9223372036854775807) ∧ c.vb ≤ 9223372036854775807
/-- The key that comes next, where keys make the command. -/
theorem key_next {c : Cm} {S : Ps} {x : Int} {t : List Int} (h : mkG c S (x :: t) = true) : ((keyF S x 0 false).2.bg.length ≤ S.bg.length + 1) ∧
    ((t ≠ [] ∧ (keyF S x 0 false).1 = (c0M, 0, 0) ∧ mkG c (keyF S x 0 false).2 t = true) ∨ (t = [] ∧ (keyF S x 0 false).1 = (c, 1, 0))) := by
  refine ⟨?_, mkG_step h⟩
  rcases keyF_cases S x 0 false with ⟨_, e⟩ | ⟨_, ⟨st, c2, _, e⟩ | ⟨c2, _, e⟩ | ⟨er, _, e⟩⟩
  · rw [e]; exact Nat.zero_le _
  · rw [e]; simp
  · rw [e]; exact Nat.zero_le _
  · rw [e]; exact Nat.zero_le _

set_option maxRecDepth 100000 in
set_option maxHeartbeats 16000000 in
theorem grammarPrints_walk (c : Cm) (w : World) (hc : CmOk c) (hT : Tens w) : Calls Tryd.prog 3 #[cmV c] w fun e w' => e = .returned (.bool true) ∧ Below w.heap.size w w' := by
  obtain ⟨⟨h0, h1⟩, hv⟩ := hc
  have hlen := prL_len c h0 h1
  have HG := Lib.hid (gprint_of c (w.alloc (cmO c)) (hT.below (t_al w (cmO c))) h0 h1 hv)
  have HR := Lib.hid (fun w => rprint_of c w hv)
  have HA := Lib.hid (fun w => awake24_of w)
  have hbx := heap_alloc_new w (cmO c)
  have hal := t_al w (cmO c)
  have HBx : Hid (∀ w', Below (w.alloc (cmO c)).heap.size (w.alloc (cmO c)) w' → w'.heap[w.heap.size]? = some (cmO c) ∧ Below w.heap.size w w') := Lib.hid fun w' hb => ⟨(hb.block _ (lt_of_heap hbx)).trans hbx, hal.trans (hb.mono (by simp))⟩
  obtain ⟨d0, d1, d2, d3, d4⟩ := rowCells hbx
  obtain ⟨l, hl⟩ : ∃ l, l = prL c := ⟨_, rfl⟩
  have hmk := prL_mk c
  rw [← hl] at hlen HG HR hmk
  have HMk := Lib.hid hmk
  have HLe := Lib.hid hlen
  clear hT h0 h1 hv hbx hal hlen hl hmk
  go_enter Tryd.func3, Tryd.ntmps3
  go_wp2_with fail
  refine HG.out.mono ?_; rintro e w2 ⟨a, n, k, rfl, hn, hs, hb⟩
  obtain ⟨hb2, hlow⟩ := HBx.out w2 hb
  obtain ⟨e0, e1, e2, e3, e4⟩ := rowCells hb2
  have HN := Lib.hid hn
  have HS2 := Lib.hid (And.intro hs (And.intro hb2 hlow))
  have hnb : n ≤ 1000 := by rw [hn]; exact HLe.out
  clear hn hs hb hb2 hlow HG HBx d0 d1 d2 d3 d4
  go_wp2_with fail
  refine (ours_of c _).mono ?_; rintro e w3 ⟨rfl, b3⟩
  have HS3 : Hid (Sl w3 a k (nums l) ∧ w3.heap[w.heap.size]? = some (cmO c) ∧ Below w.heap.size w w3) := Lib.hid ⟨HS2.out.1.below b3, (b3.block _ (lt_of_heap HS2.out.2.1)).trans HS2.out.2.1, HS2.out.2.2.trans (b3.mono HS2.out.2.2.size)⟩
  have HR3 := Lib.hid (HR.out w3)
  clear b3 HR
  go_wp2_with fail
  refine HR3.out.mono ?_; rintro e w4 ⟨a', n', k', rfl, hn', hs', b4⟩
  obtain rfl : n' = n := hn'.trans HN.out.symm
  have HS4 : Hid (Sl w4 a k (nums l) ∧ w4.heap[w.heap.size]? = some (cmO c) ∧ Below w.heap.size w w4) := Lib.hid ⟨HS3.out.1.below b4, (b4.block _ (lt_of_heap HS3.out.2.1)).trans HS3.out.2.1, HS3.out.2.2.trans (b4.mono HS3.out.2.2.size)⟩
  have hq := nsame l l HS4.out.1 hs' (by have := HLe.out; omega)
  rw [decide_eq_true rfl, ← hn'] at hq
  have HQ := Lib.hid hq
  clear hq hs' hn' b4 HR3 HS3 HS2
  go_wp2_with fail
  refine HQ.out.mono ?_; rintro e w5 ⟨rfl, b5⟩
  have HS5 : Hid (Sl w5 a k (nums l) ∧ w5.heap[w.heap.size]? = some (cmO c) ∧ Below w.heap.size w w5) := Lib.hid ⟨HS4.out.1.below b5, (b5.block _ (lt_of_heap HS4.out.2.1)).trans HS4.out.2.1, HS4.out.2.2.trans (b5.mono HS4.out.2.2.size)⟩
  have HNw := Lib.hid (gnew_of w5)
  clear b5 HQ HS4 e0 e1 e2 e3 e4
  go_wp2_with fail
  refine HNw.out.mono ?_; rintro e w6 ⟨rfl, rfl⟩
  have H0 : Hid (PsIn (w5.alloc (.cells (prC (.slice none 0 0) c0M .nilFunc) 44)) w5.heap.size w5.heap.size (.slice none 0 0) p0M ∧ Below w5.heap.size w5 (w5.alloc (.cells (prC (.slice none 0 0) c0M .nilFunc) 44))) := Lib.hid ⟨PsIn.start (Nat.le_refl _), t_al _ _⟩
  clear HNw
  go_wp2_with fail
  obtain ⟨p, hp⟩ : ∃ p, w5.heap.size = p := ⟨_, rfl⟩
  rw [hp] at H0
  have HP := Lib.hid hp
  try rw [hp]
  clear hp
  go_loopw [21] (fun v21 wr => ∃ (i : Nat) (v : Value) (S : Ps), v21 = .int .i64 i ∧ i ≤ n' ∧ S.bg.length ≤ i ∧ PsIn wr p p v S ∧ Below p w5 wr ∧ (i < n' → mkG c S (l.drop i) = true)) (fun v21 _ => n' - (intOf v21).toNat)
  case atStart =>
    refine ⟨0, _, p0M, rfl, Nat.zero_le _, Nat.le_refl _, H0.out.1, H0.out.2, fun h => ?_⟩
    rcases HMk.out with e | e
    · have := HN.out
      rw [e] at this
      simp at this; omega
    · exact e
  case round =>
    obtain ⟨i, v, S, rfl, hi, hbl, hps, hlw, hmk⟩ := hrel
    have hlw2 : Below w5.heap.size w5 wr := by rw [HP.out]; exact hlw
    have hpl : p ≤ wr.heap.size := by rw [← HP.out]; exact hlw2.size
    have hbx : wr.heap[w.heap.size]? = some (cmO c) := (hlw2.block _ (lt_of_heap HS5.out.2.1)).trans HS5.out.2.1
    have HLow := Lib.hid (HS5.out.2.2.trans (hlw2.mono HS5.out.2.2.size))
    by_cases hlt : i < n'
    · have dj : decide ((i : Int) < (n' : Int)) = true := decide_eq_true (by omega)
      obtain ⟨x, hx⟩ : ∃ x, l[i]? = some x := ⟨_, List.getElem?_eq_getElem (by rw [← HN.out]; exact hlt)⟩
      have hsl := HS5.out.1.below hlw2
      obtain ⟨g, o, hform⟩ := hsl.numsome (by rw [← HN.out]; omega)
      subst hform
      have c0 := (hsl.num hx).1
      have f0 : (0 : Int) ≤ (i : Int) := by omega
      have f1 : (i : Int) < (n' : Int) := by omega
      have hK := key_of hps hpl (by omega) x 0 false
      have hm := hmk hlt
      rw [drop_at hx] at hm
      have hnx := key_next hm
      obtain ⟨e0, e1, e2, e3, e4⟩ := rowCells hbx
      have hdl : (l.drop (i + 1) = []) ↔ i + 1 = n' := by
        rw [List.drop_eq_nil_iff, ← HN.out]; omega
      generalize keyF S x 0 false = y at hK hnx
      obtain ⟨⟨C, m, er⟩, S'⟩ := y
      obtain ⟨hS', hnx⟩ := hnx
      simp only at hK hS' hnx
      have HS' : Hid (S'.bg.length ≤ i + 1) := Lib.hid (by omega)
      have HBx : Hid (∀ w', Below p wr w' → Below p w5 w' ∧ w'.heap[w.heap.size]? = some (cmO c)) := Lib.hid fun w' hb => by
        have h9 := hlw.trans hb
        exact ⟨h9, by rw [← HP.out] at h9; exact (h9.block _ (lt_of_heap HS5.out.2.1)).trans HS5.out.2.1⟩
      rcases hnx with ⟨ht, he, hmk2⟩ | ⟨ht, he⟩
      · simp only [Prod.mk.injEq] at he
        obtain ⟨rfl, rfl, rfl⟩ := he
        have hin : i + 1 < n' := by
          have : ¬ i + 1 = n' := fun e => ht (hdl.2 e)
          omega
        have z1 : ((i : Int) == (n' : Int) - 1) = false := beq_eq_false_iff_ne.2 (by omega)
        have z2 : (i : Int) ≠ (n' : Int) - 1 := by omega
        have HK := Lib.hid hK
        have HM2 := Lib.hid hmk2
        clear hK hmk hm hps hlw hlw2 hbx hx hsl hdl ht hmk2 hS' hbl hpl
        go_wp2_with fail
        refine HK.out.mono ?_; rintro e w7 ⟨rfl, v7, p7, m7, _⟩
        have HF : Hid (PsIn (w7.alloc (cmO c0M)) p p v7 S' ∧ Below p w5 (w7.alloc (cmO c0M))) := Lib.hid ⟨p7.below (t_al w7 _), (HBx.out w7 m7.low).1.trans ((t_al w7 _).mono (by rw [← HP.out]; have := (HBx.out w7 m7.low).1.size; exact this))⟩
        clear p7 m7
        go_wp2_with fail
        go_roundw
        case rel => exact ⟨i + 1, v7, S', by go_num, by omega, HS'.out, HF.out.1, HF.out.2, fun _ => HM2.out⟩
        case measure => simp [intOf]; omega
      · simp only [Prod.mk.injEq] at he
        obtain ⟨rfl, rfl, rfl⟩ := he
        have HIn : Hid (i + 1 = n') := Lib.hid (hdl.1 ht)
        have HK := Lib.hid hK
        clear hK hmk hm hps hlw hlw2 hbx hx hsl hdl ht hS' hbl hpl
        go_wp2_with fail
        refine HK.out.mono ?_; rintro e w7 ⟨rfl, v7, p7, m7, _⟩
        obtain ⟨h9, h10⟩ := HBx.out w7 m7.low
        have hb7 : (w7.alloc (cmO C)).heap[w.heap.size]? = some (cmO C) := ((t_al w7 (cmO C)).block _ (lt_of_heap h10)).trans h10
        obtain ⟨x0, x1, x2, x3, x4⟩ := rowCells hb7
        obtain ⟨y0, y1, y2, y3, y4⟩ := rowCells (heap_alloc_new w7 (cmO C))
        have HF : Hid (PsIn (w7.alloc (cmO C)) p p v7 S' ∧ Below p w5 (w7.alloc (cmO C))) := Lib.hid ⟨p7.below (t_al w7 _), h9.trans ((t_al w7 _).mono (by rw [← HP.out]; exact h9.size))⟩
        have z1 : ((i : Int) == (n' : Int) - 1) = true := by have := HIn.out; simp; omega
        clear p7 m7 h9 h10 hb7
        go_wp2_with fail
        have hin := HIn.out
        go_roundw
        case rel => exact ⟨i + 1, v7, S', by go_num, by omega, HS'.out, HF.out.1, HF.out.2, fun h => absurd h (by omega)⟩
        case measure => simp [intOf]; omega
    · have dj : decide ((i : Int) < (n' : Int)) = false := decide_eq_false (by omega)
      clear hps hlw hlw2 hmk hbx
      go_wp2_with fail
      refine (HA.out _).mono ?_; rintro e w9 ⟨rfl, b9⟩
      have HB9 := Lib.hid (HLow.out.trans (b9.mono HLow.out.size))
      clear b9
      go_wp2_with fail
      go_ret
      exact ⟨rfl, HB9.out⟩
end Go.Proofs.YtjmpokgdgnjojaaDoor
