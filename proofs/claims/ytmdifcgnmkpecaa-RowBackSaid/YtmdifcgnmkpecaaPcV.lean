/-
  The contract of piece's Flat, at this seat's numbers.
-/
import Derived.Test.YtmdifcgnmkpecaaPcF
import Derived.Deep.RegionHeld3
import Derived.Deep.QuietTactic
import Derived.BigQuiet
import Derived.Deep.DeepCutAuto
import Derived.Test.YtmdifcgnmkpecaaScN
import Derived.Laws.AppendOwnNone
namespace Go.Proofs.Ytmdifcgnmkpecaa
open Go Go.RowKit
set_option linter.unusedVariables false

/-- All places of a text lie within. -/
def InL (l : List UInt8) (t : List Int) : Prop := ∀ x ∈ t, 0 ≤ x ∧ x < l.length
theorem atL_app (l : List UInt8) (a b : List Int) : atL l (a ++ b) = atL l a ++ atL l b := by unfold atL; rw [List.map_append]
theorem atL_len (l : List UInt8) (t : List Int) : (atL l t).length = t.length := by unfold atL; rw [List.length_map]
theorem atL_ex1 (l : List UInt8) (s : Sp) (h0 : 0 ≤ s.1) (h1 : 0 ≤ s.2) (h2 : s.1 + s.2 ≤ l.length) : atL l (ex1 s) = subL l s.1 s.2 := by
  obtain ⟨a, n⟩ := s
  simp only at h0 h1 h2
  obtain ⟨a, rfl⟩ := Int.eq_ofNat_of_zero_le h0
  obtain ⟨n, rfl⟩ := Int.eq_ofNat_of_zero_le h1
  unfold subL rightB
  rw [if_pos (by simp only [decide_eq_true_eq]; omega)]
  simp only [Int.toNat_natCast]
  apply List.ext_getElem?
  intro k
  unfold atL
  rw [ex1_nat, List.map_map, List.getElem?_map, List.getElem?_take, List.getElem?_drop]
  by_cases hk : k < n
  · rw [List.getElem?_range hk, if_pos hk, List.getElem?_eq_getElem (show a + k < l.length by omega)]
    simp only [Option.map_some, Function.comp_apply]
    rw [show ((a : Int) + (k : Int)).toNat = a + k by omega, List.getD_eq_getElem?_getD, List.getElem?_eq_getElem (show a + k < l.length by omega)]
    rfl
  · rw [if_neg hk, List.getElem?_eq_none (by simpa using hk)]; rfl
theorem canon_in {l : List UInt8} {t : List Int} (h : InL l t) : ∀ s ∈ canon t, 0 ≤ s.1 ∧ 1 ≤ s.2 ∧ s.1 + s.2 ≤ l.length := by
  intro s hs
  have hf := canon_full t s hs
  have hsub : ∀ x ∈ ex1 s, x ∈ t := by
    intro x hx
    rw [← ex_canon t]
    unfold ex
    exact List.mem_flatMap.2 ⟨s, hs, hx⟩
  have h1 := h s.1 (hsub _ (by unfold ex1; rw [List.mem_map]; exact ⟨0, by rw [List.mem_range]; omega, by simp⟩))
  have h2 := h (s.1 + s.2 - 1) (hsub _ (by unfold ex1; rw [List.mem_map]; exact ⟨(s.2 - 1).toNat, by rw [List.mem_range]; omega, by omega⟩))
  omega
theorem own_formD {w : World} {B sz n c : Nat} {e : TypeId} {a : Option Addr} {xs : List Value} (h : w.ownsRow B e sz (.slice a n c) n xs) : (a = none ∧ n = 0 ∧ c = 0) ∨ ∃ g, a = some ⟨g, 0, none⟩ ∧ ∀ j u, xs[j]? = some u → w.cell? ⟨g, j, none⟩ = some u := by
  rcases own_formC h with h0 | ⟨g, rfl, _⟩
  · exact .inl h0
  · refine .inr ⟨g, rfl, fun j u hj => ?_⟩
    have := h.cells (g := g) rfl j u hj
    rwa [Addr.add_lit, Nat.zero_add] at this

set_option maxRecDepth 100000 in
set_option maxHeartbeats 4000000 in
theorem pflat_of {w : World} {B p : Nat} {l : List UInt8} {v : Value} {t : List Int} (h : Ar w B p l) (hl : l.length ≤ 16384) (hx : Tx w v t) (hin : InL l t) :
    Calls Try.prog 25 #[.agg #[v], .pointer (some ⟨p, 0, none⟩)] w (BytesPost (atL l t) w) := by
  obtain ⟨i0, hi0, hz0, hz1, hz2⟩ := info_parts info_u8
  obtain ⟨a, c, rfl, hr, hs, -, -⟩ := hx
  have htl := hs.1
  have HA := Lib.hid h
  have HR := Lib.hid hr
  have HC := Lib.hid (canon_in hin)
  have HL : Hid (∀ k, (ex ((canon t).take k)).length ≤ 20000) := fun k => by
    obtain ⟨r, h⟩ := ex_take (canon t) k
    rw [ex_canon] at h
    have := congrArg List.length h
    rw [List.length_append] at this
    omega
  have hcl := canon_count t
  have HE : Hid (atL l (ex ((canon t).take (canon t).length)) = atL l t) := by show _ = _; rw [List.take_length, ex_canon]
  have al := below_al w (Obj.cells #[Value.slice a (canon t).length c] 48)
  have HB0 := Lib.hid al
  have c0 : (w.alloc (Obj.cells #[Value.slice a (canon t).length c] 48)).cell? ⟨w.heap.size, 0, none⟩ = some (.slice a (canon t).length c) := by rw [cell_at (heap_alloc_new w _)]; rfl
  clear h hr hs hin al
  go_enter Try.func25, Try.ntmps25
  go_wp2_with fail
  clear c0
  generalize w.alloc (Obj.cells #[Value.slice a (canon t).length c] 48) = w1 at *
  go_loopw [5, 11] (fun v5 v11 wr => ∃ (k n : Nat) (a5 : Option Addr) (c5 : Nat) (xs : List Value), k ≤ (canon t).length ∧ v11 = .int .i64 k ∧ v5 = .slice a5 n c5 ∧ n = (atL l (ex ((canon t).take k))).length ∧ xs = bc (atL l (ex ((canon t).take k))) ∧ wr.ownsRow w.heap.size 5 1 (.slice a5 n c5) n xs ∧ Below w.heap.size w wr) (fun _ v11 _ => (canon t).length - (intOf v11).toNat)
  case atStart => exact ⟨0, 0, none, 0, [], by omega, rfl, rfl, by simp [atL, ex_nil], by simp [atL, ex_nil, bc], own_nil _ _ _ _, HB0.out⟩
  case round =>
    obtain ⟨k, n, a5, c5, xs, hk, rfl, rfl, hn, hxs, ho, hb⟩ := hrel
    have HO := Lib.hid ho
    have HB := Lib.hid hb
    have HNN := Lib.hid hn
    have HXS := Lib.hid hxs
    have hn2 : n ≤ 20000 := by rw [hn, atL_len]; exact HL.out k
    have hzr := hb.size
    clear ho hb hn hxs
    by_cases hlt : k < (canon t).length
    · have dk : decide (k < (canon t).length) = true := decide_eq_true hlt
      obtain ⟨b, off, rfl, hbl, hcl2⟩ := HR.out.2 (by omega)
      have hsp := spC_at (canon t) k (canon t)[k] (List.getElem?_eq_getElem hlt)
      have f1 : wr.cell? ⟨b, off + k * 2, none⟩ = some (.int .i64 (canon t)[k].1) := (HB.out.cell (p := ⟨b, off + k * 2, none⟩) hbl).trans (hcl2 _ _ hsp.1)
      have f2 : wr.cell? ⟨b, off + k * 2 + 1, none⟩ = some (.int .i64 (canon t)[k].2) := (HB.out.cell (p := ⟨b, off + k * 2 + 1, none⟩) hbl).trans (hcl2 _ _ hsp.2)
      have hbd := HC.out (canon t)[k] (List.getElem_mem hlt)
      have hst : atL l (ex ((canon t).take (k + 1))) = atL l (ex ((canon t).take k)) ++ subL l (canon t)[k].1 (canon t)[k].2 := by
        rw [List.take_succ_eq_append_getElem hlt, ex_append, ex_one, atL_app, atL_ex1 l _ hbd.1 (by omega) hbd.2.2]
      have hln : n + (subL l (canon t)[k].1 (canon t)[k].2).length ≤ 20000 := by
        have h1 := HL.out (k + 1)
        have h2 := congrArg List.length hst
        rw [List.length_append, ← HNN.out, atL_len] at h2
        omega
      have HST := Lib.hid hst
      have al := below_al wr (Obj.cells #[Value.int .i64 (canon t)[k].1, Value.int .i64 (canon t)[k].2] 39)
      have HBy := Lib.hid (abytes_of (HA.out.below (HB.out.trans (al.mono hzr))) hl (canon t)[k].1 (canon t)[k].2)
      have HOa := Lib.hid (own_below HO.out al)
      have HBa := Lib.hid (HB.out.trans (al.mono hzr))
      clear hbl hcl2 hsp hst al HR HC HL HA HO HB
      generalize subL l (canon t)[k].1 (canon t)[k].2 = y at *
      generalize (canon t)[k].1 = x1 at *
      generalize (canon t)[k].2 = x2 at *
      go_wp2_with fail
      refine HBy.out.mono ?_; rintro e w2 ⟨a6, c6, rfl, ho6, hb6⟩
      have OO2 := Lib.hid (own_below HOa.out hb6)
      have BB2 := Lib.hid (HBa.out.trans (hb6.mono HBa.out.size))
      have HSN : Hid (n + y.length = (atL l (ex ((canon t).take (k + 1)))).length) := by show _ = _; rw [HST.out, List.length_append, HNN.out]
      have HSX : Hid (xs ++ bc y = bc (atL l (ex ((canon t).take (k + 1))))) := by show _ = _; rw [HST.out, HXS.out]; simp [bc]
      have C2 := Lib.hid (bc_one y)
      have HBL := Lib.hid (bc_len y)
      have hzw : w.heap.size ≤ w2.heap.size := BB2.out.size
      rcases own_formD ho6 with ⟨rfl, h0, rfl⟩ | ⟨g, rfl, hc6⟩
      · have HE2 : Hid (n = (atL l (ex ((canon t).take (k + 1)))).length) := by show _ = _; rw [← HSN.out]; omega
        have HX2 : Hid (xs = bc (atL l (ex ((canon t).take (k + 1))))) := by
          show _ = _
          rw [← HSX.out, show bc y = [] from List.length_eq_zero_iff.1 (by rw [bc_len]; exact h0), List.append_nil]
        clear HSN HSX HST HNN HXS ho6 hb6 HBL
        generalize y.length = m at *
        subst h0
        go_wp2_with (first
          | (at_builtin; refine wpList_append_own_none rfl (.tmp 15) (.tmp 18) 27 rfl w.heap.size 5 i0 1 Try.underlying27 hi0 (.slice a5 n c5) n xs rfl OO2.out rfl ?_)
          | fail)
        go_wp2_with fail
        go_roundw
        case rel => exact ⟨k + 1, n, a5, c5, xs, hlt, by go_num, rfl, HE2.out, HX2.out, OO2.out, BB2.out⟩
        case measure => simp [intOf]; omega
      · have C0 : Hid ((bc y).length = y.length * 1) := by show _ = _; rw [HBL.out]; omega
        have C1 : Hid (∀ j u, (bc y)[j]? = some u → w2.cell? (Addr.add ⟨g, 0, none⟩ j) = some u) := by
          intro j u hj
          rw [Addr.add_lit, Nat.zero_add]
          exact hc6 j u hj
        have C3 : Hid (n + y.length ≤ maxLen) := by show _ ≤ _; unfold maxLen; omega
        have C4 : Hid ((n + y.length) * 1 ≤ 140737488355328) := by show _ ≤ _; omega
        have C5 : Hid (w.heap.size ≤ w2.heap.size) := hzw
        clear hc6 ho6 hb6 HST HNN HXS HBL
        generalize bc y = ys at *
        generalize y.length = m at *
        go_wp2_with (first
          | (at_builtin; refine wpList_append_own _ rfl (.tmp 15) (.tmp 18) 27 rfl w.heap.size 5 i0 (.int .u8 0) 1 1 Try.underlying27 hi0 hz0 hz1 hz2 rfl (by decide) (.slice a5 n c5) n xs rfl OO2.out ⟨g, 0, none⟩ m c6 ys rfl C0.out C1.out C2.out C3.out C4.out C5.out ?_)
          | fail)
        intro v7 wB ho7 hg7 _
        obtain ⟨A9, C9, rfl⟩ := own_slice ho7
        have OF := Lib.hid ho7
        have BF := Lib.hid (BB2.out.grown hg7 hzw (fun q hq => (OO2.out.lt q hq).1))
        clear ho7 hg7 C0 C1 C2 C3 C4 C5
        go_wp2_with fail
        go_roundw
        case rel => exact ⟨k + 1, n + m, A9, C9, _, hlt, by go_num, rfl, HSN.out, HSX.out, OF.out, BF.out⟩
        case measure => simp [intOf]; omega
    · have dk : decide (k < (canon t).length) = false := decide_eq_false hlt
      obtain rfl : k = (canon t).length := by omega
      have h1 := HNN.out
      have h2 := HXS.out
      rw [HE.out] at h1 h2
      subst h1 h2
      go_wp2_with fail
      go_ret
      exact ⟨a5, c5, rfl, HO.out, HB.out⟩

theorem atL_span {l : List UInt8} {i n : Nat} (h : i + n ≤ l.length) : atL l (ex [((i : Int), (n : Int))]) = (l.drop i).take n := by
  rw [ex_one, atL_ex1 l _ (by simp) (by simp) (by simp only; omega)]
  unfold subL rightB
  rw [if_pos (by simp only [decide_eq_true_eq]; omega)]
  simp

end Go.Proofs.Ytmdifcgnmkpecaa
