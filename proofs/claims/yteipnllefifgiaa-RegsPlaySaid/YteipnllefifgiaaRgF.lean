/-
  Are texts in rows the same: regs.Same, and the document's; at this seat's numbers.
-/
import Derived.Test.YteipnllefifgiaaRgE
namespace Go.Proofs.Yteipnllefifgiaa
open Go Go.RowKit
set_option linter.unusedVariables false

set_option maxRecDepth 100000 in
set_option maxHeartbeats 8000000 in
theorem msame_of {w : World} {lo hi lo' hi' : Nat} {a b : Option Addr} {c d : Nat} {T U : List TxM} (hr : Mx w lo hi a c T) (hr2 : Mx w lo' hi' b d U) (hl : T.length ≤ 1000000) (ht : Thin (txL T)) :
    Calls Try.prog 35 #[.slice a T.length c, .slice b U.length d] w fun e w' => e = .returned (.bool (decide (txL T = txL U))) ∧ Below w.heap.size w w' := by
  obtain ⟨B, hB⟩ : ∃ B, decide (txL T = txL U) = B := ⟨_, rfl⟩
  rw [hB]
  by_cases hn : T.length = U.length
  · have HR := Lib.hid hr
    have HR2 := Lib.hid hr2
    have HN := Lib.hid hn
    have HBB := Lib.hid hB
    have HTH := Lib.hid ht
    clear hr hr2 hB ht
    rw [← hn]
    clear hn
    obtain ⟨n, hnn⟩ : ∃ n, T.length = n := ⟨_, rfl⟩
    have HL := Lib.hid hnn
    rw [hnn] at hl ⊢
    clear hnn
    go_enter Try.func35, Try.ntmps35
    go_wp2_with fail
    go_loopw [14] (fun v14 wr => EqM (txL T) (txL U) w v14 wr) (fun v14 _ => n - (intOf v14).toNat)
    case atStart => exact ⟨0, rfl, by omega, rfl, Below.refl _ _⟩
    case round =>
      obtain ⟨k, rfl, hk, ht, hb⟩ := hrel
      have HT := Lib.hid ht
      have HB := Lib.hid hb
      rw [txL_len, HL.out] at hk
      clear ht
      by_cases hlt : k < n
      · have dk : decide (k < n) = true := decide_eq_true hlt
        obtain ⟨p, hp⟩ : ∃ p, T[k]? = some p := ⟨_, List.getElem?_eq_getElem (by rw [HL.out]; exact hlt)⟩
        obtain ⟨q, hq⟩ : ∃ q, U[k]? = some q := ⟨_, List.getElem?_eq_getElem (by rw [← HN.out, HL.out]; exact hlt)⟩
        obtain ⟨g, off, rfl, hbl, f1, s1, _⟩ := (HR.out.below hb).row hp
        obtain ⟨g2, off2, rfl, hbl2, g1, s2, _⟩ := (HR2.out.below hb).row hq
        have hx := txL_at hp
        have hy := txL_at hq
        have HTK := Lib.hid (HTH.out _ (List.mem_of_getElem? hx))
        have HS1 := Lib.hid s1
        have HS2 := Lib.hid s2
        unfold txV at f1 g1
        have i0 : (0 : Int) ≤ (k : Int) := by omega
        have i1 : (k : Int) < (n : Int) := by omega
        clear hb hp hq s1 s2
        obtain ⟨p1, p2, l⟩ := p
        obtain ⟨q1, q2, m⟩ := q
        simp only [] at f1 g1 HS1 HS2 HTK hx hy
        have HX := Lib.hid hx
        have HY := Lib.hid hy
        clear hx hy
        by_cases hm : l.length = m.length
        · rw [← hm] at g1
          have HM := Lib.hid hm
          clear hm
          obtain ⟨z, hz⟩ : ∃ z, l.length = z := ⟨_, rfl⟩
          have HZ := Lib.hid hz
          have hz6 : z ≤ 1000000 := by rw [← hz]; exact HTK.out
          rw [hz] at f1 g1
          clear hz
          have dz : ((z : Int) != (z : Int)) = false := by simp
          go_wp2_with fail
          go_quiet (fail)
          have f1' := f1
          have g1' := g1
          have HB1 := Lib.hid (below_drawN HB.out nq)
          have HF1 : Hid ((wr.drewN nq).cell? ⟨g, off + k, none⟩ = some (.slice p1 z p2) ∧ (wr.drewN nq).cell? ⟨g2, off2 + k, none⟩ = some (.slice q1 z q2)) := Lib.hid ⟨by simpa using f1, by simpa using g1⟩
          have HS1n : Hid (Sl (wr.drewN nq) p1 p2 (strs l)) := Lib.hid (HS1.out.below (Below.draws wr nq))
          have HS2n : Hid (Sl (wr.drewN nq) q1 q2 (strs m)) := Lib.hid (HS2.out.below (Below.draws wr nq))
          clear f1' g1' HS1 HS2
          generalize wr.drewN nq = wq at *
          have f2 := HF1.out.1
          have g2' := HF1.out.2
          go_wp2_with fail
          go_loopw [33] (fun v33 wz => ∃ j : Nat, v33 = .int .i64 j ∧ j ≤ z ∧ l.take j = m.take j ∧ Below wq.heap.size wq wz) (fun v33 _ => z - (intOf v33).toNat)
          case atStart => exact ⟨0, rfl, by omega, rfl, Below.refl _ _⟩
          case round =>
            obtain ⟨j, rfl, hj, htj, hbz⟩ := hrel
            have HTJ := Lib.hid htj
            have HBZ := Lib.hid hbz
            clear htj
            by_cases hlj : j < z
            · have dj : decide (j < z) = true := decide_eq_true hlj
              obtain ⟨x, hx⟩ : ∃ x, l[j]? = some x := ⟨_, List.getElem?_eq_getElem (by rw [HZ.out]; exact hlj)⟩
              obtain ⟨y, hy⟩ : ∃ y, m[j]? = some y := ⟨_, List.getElem?_eq_getElem (by rw [← HM.out, HZ.out]; exact hlj)⟩
              obtain ⟨h1, r1, rfl, hh1, x1⟩ := (HS1n.out.below hbz).text hx
              obtain ⟨h2, r2, rfl, hh2, y1⟩ := (HS2n.out.below hbz).text hy
              have F1 := (hbz.cell (p := ⟨g, off + k, none⟩) (World.block_lt_of_cell? _ _ f2)).trans f2
              have G1 := (hbz.cell (p := ⟨g2, off2 + k, none⟩) (World.block_lt_of_cell? _ _ g2')).trans g2'
              have j0 : (0 : Int) ≤ (j : Int) := by omega
              have j1 : (j : Int) < (z : Int) := by omega
              clear hbz hh1 hh2
              by_cases he : x = y
              · have HE := Lib.hid (get_take HTJ.out hx hy he)
                subst he
                clear hx hy
                go_wp2_with fail
                go_quiet (fail)
                go_wp2_with fail
                go_roundw
                case rel => exact ⟨j + 1, by go_num, by omega, HE.out, below_drawN HBZ.out _⟩
                case measure => simp [intOf]; omega
              · have HD : Hid (B = false) := Lib.hid (by rw [← HBB.out]; exact decide_eq_false (ne_at HX.out HY.out (ne_at hx hy he)))
                obtain ⟨dx2, dx3⟩ := str_ne he
                clear hx hy he
                go_wp2_with fail
                go_quiet (fail)
                go_wp2_with fail
                go_ret
                exact ⟨by rw [HD.out] <;> rfl, below_drawN (HB1.out.trans (HBZ.out.mono HB1.out.size)) _⟩
            · have dj : decide (j < z) = false := decide_eq_false hlj
              have HE := Lib.hid (get_take HT.out HX.out HY.out (all_take HTJ.out (by rw [HZ.out]; omega) (by rw [← HM.out, HZ.out]; omega)))
              have HBN := Lib.hid (HB1.out.trans (HBZ.out.mono HB1.out.size))
              clear hbz
              go_wp2_with fail
              go_roundw
              case rel => exact ⟨k + 1, by go_num, by rw [txL_len, HL.out]; omega, HE.out, HBN.out⟩
              case measure => simp [intOf]; omega
        · have HD : Hid (B = false) := Lib.hid (by rw [← HBB.out]; exact decide_eq_false (ne_at HX.out HY.out (fun e => hm (by rw [e]))))
          have dz : ((l.length : Int) != (m.length : Int)) = true := by simp; omega
          have dz2 : ((l.length : Int) == (m.length : Int)) = false := by simp; omega
          have dz3 : (l.length == m.length) = false := by simpa using hm
          clear hm
          go_wp2_with fail
          go_quiet (fail)
          go_wp2_with fail
          go_ret
          exact ⟨by rw [HD.out] <;> rfl, below_drawN HB.out _⟩
      · have dk : decide (k < n) = false := decide_eq_false hlt
        have HD : Hid (B = true) := Lib.hid (by rw [← HBB.out]; exact decide_eq_true (all_take HT.out (by rw [txL_len, HL.out]; omega) (by rw [txL_len, ← HN.out, HL.out]; omega)))
        clear hb
        go_wp2_with fail
        go_ret
        exact ⟨by rw [HD.out] <;> rfl, HB.out⟩
  · have d1 : (T.length == U.length) = false := by simpa using hn
    have d1' : ((T.length : Int) == (U.length : Int)) = false := by simp; omega
    have HD : Hid (B = false) := Lib.hid (by rw [← hB]; exact decide_eq_false (fun h => hn (by have := congrArg List.length h; rwa [txL_len, txL_len] at this)))
    clear hn hr hr2 hB
    go_enter Try.func35, Try.ntmps35
    go_wp2_with fail
    go_ret
    exact ⟨by rw [HD.out] <;> rfl, Below.refl _ _⟩

end Go.Proofs.Yteipnllefifgiaa
