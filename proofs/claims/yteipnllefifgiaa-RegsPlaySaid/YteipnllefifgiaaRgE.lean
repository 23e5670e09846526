/-
  Are texts in rows the same: slices.Equal, slices.EqualFunc with it, regs.Same, and the document's; at this seat's numbers.
-/
import Derived.Test.YteipnllefifgiaaRgD
import Derived.Deep.QuietTactic
import Derived.BigQuiet
namespace Go.Proofs.Yteipnllefifgiaa
open Go Go.RowKit
set_option linter.unusedVariables false

theorem below_drawN {w w' : World} (h : Below w.heap.size w w') (n : Nat) : Below w.heap.size w (w'.drewN n) := ⟨h.os, h.tape, h.output, h.size, h.block⟩
theorem get_take {α : Type} {l m : List α} {k : Nat} {x y : α} (h : l.take k = m.take k) (hx : l[k]? = some x) (hy : m[k]? = some y) (e : x = y) : l.take (k + 1) = m.take (k + 1) := by
  rw [List.take_add_one, List.take_add_one, h, hx, hy, e]
theorem ne_at {α : Type} {l m : List α} {k : Nat} {x y : α} (hx : l[k]? = some x) (hy : m[k]? = some y) (e : ¬ x = y) : ¬ l = m := fun h => by
  rw [h, hy] at hx; exact e (Option.some.inj hx).symm
theorem all_take {α : Type} {l m : List α} {k : Nat} (h : l.take k = m.take k) (h1 : l.length = k) (h2 : m.length = k) : l = m := by
  rwa [List.take_of_length_le (by omega), List.take_of_length_le (by omega)] at h
theorem str_ne {x y : ByteArray} (h : ¬ x = y) : (x.toList == y.toList) = false ∧ (x.data.toList == y.data.toList) = false := by
  refine ⟨?_, ?_⟩
  · rw [ByteArray.toList_eq, ByteArray.toList_eq]
    simp only [beq_eq_false_iff_ne, ne_eq]
    intro e; exact h (ByteArray.ext (Array.toList_inj.1 e))
  · simp only [beq_eq_false_iff_ne, ne_eq]
    intro e; exact h (ByteArray.ext (Array.toList_inj.1 e))

def EqT (l m : List ByteArray) (w : World) (v13 : Value) (wr : World) : Prop := ∃ k : Nat, v13 = .int .i64 k ∧ k ≤ l.length ∧ l.take k = m.take k ∧ Below w.heap.size w wr

set_option maxRecDepth 100000 in
set_option maxHeartbeats 4000000 in
theorem equal_of {w : World} {a b : Option Addr} {c d : Nat} {l m : List ByteArray} (hr : Sl w a c (strs l)) (hr2 : Sl w b d (strs m)) (hl : l.length ≤ 1000000) :
    Calls Try.prog 37 #[.slice a l.length c, .slice b m.length d] w fun e w' => e = .returned (.bool (decide (l = m))) ∧ Below w.heap.size w w' := by
  obtain ⟨B, hB⟩ : ∃ B, decide (l = m) = B := ⟨_, rfl⟩
  rw [hB]
  by_cases hn : l.length = m.length
  · have HR := Lib.hid hr
    have HR2 := Lib.hid hr2
    have HN := Lib.hid hn
    have HBB := Lib.hid hB
    clear hr hr2 hB
    rw [← hn]
    clear hn
    obtain ⟨n, hnn⟩ : ∃ n, l.length = n := ⟨_, rfl⟩
    have HL := Lib.hid hnn
    rw [hnn] at hl ⊢
    clear hnn
    go_enter Try.func37, Try.ntmps37
    go_wp2_with fail
    go_loopw [13] (fun v13 wr => EqT l m w v13 wr) (fun v13 _ => n - (intOf v13).toNat)
    case atStart => exact ⟨0, rfl, by omega, rfl, Below.refl _ _⟩
    case round =>
      obtain ⟨k, rfl, hk, ht, hb⟩ := hrel
      have HT := Lib.hid ht
      have HB := Lib.hid hb
      rw [HL.out] at hk
      clear ht
      by_cases hlt : k < n
      · have dk : decide (k < n) = true := decide_eq_true hlt
        obtain ⟨x, hx⟩ : ∃ x, l[k]? = some x := ⟨_, List.getElem?_eq_getElem (by rw [HL.out]; exact hlt)⟩
        obtain ⟨y, hy⟩ : ∃ y, m[k]? = some y := ⟨_, List.getElem?_eq_getElem (by rw [← HN.out, HL.out]; exact hlt)⟩
        obtain ⟨g, off, rfl, hbl, f1⟩ := (HR.out.below hb).text hx
        obtain ⟨g2, off2, rfl, hbl2, g1⟩ := (HR2.out.below hb).text hy
        have i0 : (0 : Int) ≤ (k : Int) := by omega
        have i1 : (k : Int) < (n : Int) := by omega
        clear hb
        by_cases he : x = y
        · have HE := Lib.hid (get_take HT.out hx hy he)
          subst he
          clear hx hy
          go_wp2_with fail
          go_quiet (fail)
          go_wp2_with fail
          go_roundw
          case rel => exact ⟨k + 1, by go_num, by rw [HL.out]; omega, HE.out, below_drawN HB.out _⟩
          case measure => simp [intOf]; omega
        · have HD : Hid (B = false) := Lib.hid (by rw [← HBB.out]; exact decide_eq_false (ne_at hx hy he))
          obtain ⟨dx2, dx3⟩ := str_ne he
          clear hx hy he
          go_wp2_with fail
          go_quiet (fail)
          go_wp2_with fail
          go_ret
          exact ⟨by rw [HD.out] <;> rfl, below_drawN HB.out _⟩
      · have dk : decide (k < n) = false := decide_eq_false hlt
        have HD : Hid (B = true) := Lib.hid (by rw [← HBB.out]; exact decide_eq_true (all_take HT.out (by rw [HL.out]; omega) (by rw [← HN.out, HL.out]; omega)))
        clear hb
        go_wp2_with fail
        go_ret
        exact ⟨by rw [HD.out] <;> rfl, HB.out⟩
  · have d1 : (l.length == m.length) = false := by simpa using hn
    have d1' : ((l.length : Int) == (m.length : Int)) = false := by simp; omega
    have HD : Hid (B = false) := Lib.hid (by rw [← hB]; exact decide_eq_false (fun h => hn (by rw [h])))
    clear hn hr hr2 hB
    go_enter Try.func37, Try.ntmps37
    go_wp2_with fail
    go_ret
    exact ⟨by rw [HD.out] <;> rfl, Below.refl _ _⟩

theorem txL_len (T : List TxM) : (txL T).length = T.length := by unfold txL; simp
theorem txL_at {T : List TxM} {k : Nat} {p : TxM} (h : T[k]? = some p) : (txL T)[k]? = some p.2.2 := by unfold txL; rw [List.getElem?_map, h]; rfl
/-- No row has too many texts. -/
def Thin (M : List (List ByteArray)) : Prop := ∀ l ∈ M, l.length ≤ 1000000
def EqM (M L : List (List ByteArray)) (w : World) (v17 : Value) (wr : World) : Prop := ∃ k : Nat, v17 = .int .i64 k ∧ k ≤ M.length ∧ M.take k = L.take k ∧ Below w.heap.size w wr

set_option maxRecDepth 100000 in
set_option maxHeartbeats 4000000 in
theorem equalf_of {w : World} {lo hi lo' hi' : Nat} {a b : Option Addr} {c d : Nat} {T U : List TxM} (hr : Mx w lo hi a c T) (hr2 : Mx w lo' hi' b d U) (hl : T.length ≤ 1000000) (ht : Thin (txL T)) :
    Calls Try.prog 36 #[.slice a T.length c, .slice b U.length d, .func (.func 37) #[] #[]] w fun e w' => e = .returned (.bool (decide (txL T = txL U))) ∧ Below w.heap.size w w' := by
  obtain ⟨B, hB⟩ : ∃ B, decide (txL T = txL U) = B := ⟨_, rfl⟩
  rw [hB]
  by_cases hn : T.length = U.length
  · have HR := Lib.hid hr
    have HR2 := Lib.hid hr2
    have HN := Lib.hid hn
    have HBB := Lib.hid hB
    have HTH := Lib.hid ht
    clear hr hr2 hB ht
    rw [← hn]
    clear hn
    obtain ⟨n, hnn⟩ : ∃ n, T.length = n := ⟨_, rfl⟩
    have HL := Lib.hid hnn
    rw [hnn] at hl ⊢
    clear hnn
    go_enter Try.func36, Try.ntmps36
    go_wp2_with fail
    go_loopw [17] (fun v17 wr => EqM (txL T) (txL U) w v17 wr) (fun v17 _ => n - (intOf v17).toNat)
    case atStart => exact ⟨0, rfl, by omega, rfl, Below.refl _ _⟩
    case round =>
      obtain ⟨k, rfl, hk, ht, hb⟩ := hrel
      have HT := Lib.hid ht
      have HB := Lib.hid hb
      rw [txL_len, HL.out] at hk
      clear ht
      by_cases hlt : k < n
      · have dk : decide (k < n) = true := decide_eq_true hlt
        obtain ⟨p, hp⟩ : ∃ p, T[k]? = some p := ⟨_, List.getElem?_eq_getElem (by rw [HL.out]; exact hlt)⟩
        obtain ⟨q, hq⟩ : ∃ q, U[k]? = some q := ⟨_, List.getElem?_eq_getElem (by rw [← HN.out, HL.out]; exact hlt)⟩
        obtain ⟨g, off, rfl, hbl, f1, s1, _⟩ := (HR.out.below hb).row hp
        obtain ⟨g2, off2, rfl, hbl2, g1, s2, _⟩ := (HR2.out.below hb).row hq
        have hx := txL_at hp
        have hy := txL_at hq
        have HEQ := Lib.hid (equal_of s1 s2 (HTH.out _ (List.mem_of_getElem? hx)))
        unfold txV at f1 g1
        have i0 : (0 : Int) ≤ (k : Int) := by omega
        have i1 : (k : Int) < (n : Int) := by omega
        clear hb hp hq s1 s2
        obtain ⟨p1, p2, l⟩ := p
        obtain ⟨q1, q2, m⟩ := q
        simp only [] at f1 g1 HEQ hx hy
        by_cases he : l = m
        · have HE := Lib.hid (get_take HT.out hx hy he)
          rw [decide_eq_true he] at HEQ
          clear he hx hy
          generalize l.length = n1 at *
          generalize m.length = n2 at *
          go_wp2_with fail
          refine HEQ.out.mono ?_; rintro e w2 ⟨rfl, b2⟩
          have B2 := Lib.hid (HB.out.trans (b2.mono HB.out.size))
          clear b2
          go_wp2_with fail
          go_roundw
          case rel => exact ⟨k + 1, by go_num, by rw [txL_len, HL.out]; omega, HE.out, B2.out⟩
          case measure => simp [intOf]; omega
        · have HD : Hid (B = false) := Lib.hid (by rw [← HBB.out]; exact decide_eq_false (ne_at hx hy he))
          rw [decide_eq_false he] at HEQ
          clear hx hy he
          generalize l.length = n1 at *
          generalize m.length = n2 at *
          go_wp2_with fail
          refine HEQ.out.mono ?_; rintro e w2 ⟨rfl, b2⟩
          have B2 := Lib.hid (HB.out.trans (b2.mono HB.out.size))
          clear b2
          go_wp2_with fail
          go_ret
          exact ⟨by rw [HD.out] <;> rfl, B2.out⟩
      · have dk : decide (k < n) = false := decide_eq_false hlt
        have HD : Hid (B = true) := Lib.hid (by rw [← HBB.out]; exact decide_eq_true (all_take HT.out (by rw [txL_len, HL.out]; omega) (by rw [txL_len, ← HN.out, HL.out]; omega)))
        clear hb
        go_wp2_with fail
        go_ret
        exact ⟨by rw [HD.out] <;> rfl, HB.out⟩
  · have d1 : (T.length == U.length) = false := by simpa using hn
    have d1' : ((T.length : Int) == (U.length : Int)) = false := by simp; omega
    have HD : Hid (B = false) := Lib.hid (by rw [← hB]; exact decide_eq_false (fun h => hn (by have := congrArg List.length h; rwa [txL_len, txL_len] at this)))
    clear hn hr hr2 hB
    go_enter Try.func36, Try.ntmps36
    go_wp2_with fail
    go_ret
    exact ⟨by rw [HD.out] <;> rfl, Below.refl _ _⟩

end Go.Proofs.Yteipnllefifgiaa
