/-
  The contracts of the document's own Spans and Same (layer 4), at this seat's numbers.
-/
import Derived.Test.YtelnehjmkjpjhaaScN
import Derived.Test.YtelnehjmkjpjhaaPieD
import Derived.Test.YtelnehjmkjpjhaaScI
import Derived.Deep.QuietTactic
import Derived.BigQuiet
namespace Go.Proofs.Ytelnehjmkjpjhaa
open Go Go.RowKit
set_option linter.unusedVariables false

theorem own_lastn {w : World} {B c g : Nat} {e : TypeId} (l : List (Int × Int)) (q : Int × Int) (b : Int) (h : w.ownsRow B e 2 (.slice (some ⟨g, 0, none⟩) (l.length + 1) c) (l.length + 1) (spC (l ++ [q]))) :
    (w.setCell ⟨g, l.length * 2 + 1, none⟩ (.int .i64 b)).ownsRow B e 2 (.slice (some ⟨g, 0, none⟩) (l.length + 1) c) (l.length + 1) (spC (l ++ [(q.1, b)])) := by
  have h2 := (h.stored (l.length * 2 + 1) (.int .i64 b)).1
  have e : (spC (l ++ [q])).set (l.length * 2 + 1) (.int .i64 b) = spC (l ++ [(q.1, b)]) := by
    rw [spC_snoc, spC_snoc, ← spC_len l, List.set_append_right _ _ (by omega)]
    simp
  rwa [e] at h2

/-- The last span of places that end with y ends behind y. -/
theorem canon_last (t : List Int) (y : Int) : ∃ l q, canon (t ++ [y]) = l ++ [q] ∧ q.1 + q.2 = y + 1 ∧ 1 ≤ q.2 := by
  rw [canon_snoc]
  rcases glue_cases (canon t) (y, 1) with ⟨h1, h2⟩ | ⟨l, q, h1, h2⟩
  · exact ⟨[], (y, 1), by rw [h2]; rfl, by simp, by simp⟩
  · rw [h2]
    have hq := canon_full t q (by rw [h1]; simp)
    by_cases h : (y, (1 : Int)).1 = q.1 + q.2
    · rw [if_pos h]
      simp only at h
      exact ⟨l, (q.1, q.2 + 1), rfl, by simp; omega, by simp; omega⟩
    · rw [if_neg h]
      exact ⟨l ++ [q], (y, 1), rfl, by simp, by simp⟩
theorem canon_grow {t : List Int} {l : List (Int × Int)} {q : Int × Int} {x : Int} (h : canon t = l ++ [q]) : canon (t ++ [x]) = if x = q.1 + q.2 then l ++ [(q.1, q.2 + 1)] else l ++ [q] ++ [(x, 1)] := by
  rw [canon_snoc, h, glue_snoc]

/-- What holds at the head of Spans' loop. -/
def SpJ (t : List Int) (w : World) (v3 v8 : Value) (wr : World) : Prop := ∃ (k : Nat) (a : Option Addr) (c : Nat), v8 = .int .i64 k ∧ k ≤ t.length ∧ v3 = .slice a (canon (t.take k)).length c ∧ wr.ownsRow w.heap.size 79 2 (.slice a (canon (t.take k)).length c) (canon (t.take k)).length (spC (canon (t.take k))) ∧ Below w.heap.size w wr

set_option maxRecDepth 100000 in
set_option maxHeartbeats 4000000 in
theorem spans4_of {w : World} {a : Option Addr} {c : Nat} {t : List Int} (hr : Rd w 1 a t.length (inC t)) (htl : t.length ≤ 1000000) (ht : ∀ x ∈ t, -1099511627776 ≤ x ∧ x ≤ 1099511627776) :
    Calls Try.prog 22 #[.slice a t.length c] w fun e w' => ∃ a' c', e = .returned (.slice a' (canon t).length c') ∧ w'.ownsRow w.heap.size 79 2 (.slice a' (canon t).length c') (canon t).length (spC (canon t)) ∧ Below w.heap.size w w' := by
  obtain ⟨i0, hi0, hz0, hz1, hz2⟩ := info_parts info_rspan
  have HR := Lib.hid hr
  have HT := Lib.hid ht
  clear hr ht
  go_enter Try.func22, Try.ntmps22
  go_wp2_with fail
  go_loopw [3, 8] (fun v3 v8 wr => SpJ t w v3 v8 wr) (fun _ v8 _ => t.length - (intOf v8).toNat)
  case atStart => exact ⟨0, none, 0, rfl, by omega, rfl, own_nil _ _ _ _, Below.refl _ _⟩
  case round =>
    obtain ⟨k, a3, c3, rfl, hk, rfl, ho, hb⟩ := hrel
    have HO := Lib.hid ho
    have HB := Lib.hid hb
    have hzr := hb.size
    clear ho hb
    by_cases hlt : k < t.length
    · have dk : decide (k < t.length) = true := decide_eq_true hlt
      obtain ⟨b, off, rfl, hbl, hcl⟩ := HR.out.2 (by omega)
      have f1 : wr.cell? ⟨b, off + k, none⟩ = some (.int .i64 t[k]) := (HB.out.cell (p := ⟨b, off + k, none⟩) hbl).trans (hcl k _ (by unfold inC; rw [List.getElem?_map, List.getElem?_eq_getElem hlt]; rfl))
      have hx := HT.out t[k] (List.getElem_mem hlt)
      have hx1 := hx.1
      have hx2 := hx.2
      have HTK := Lib.hid (List.take_succ_eq_append_getElem hlt)
      have hcn := canon_count (t.take k)
      have hcn2 : (t.take k).length ≤ k := List.length_take_le _ _
      by_cases h0 : k = 0
      · have HK0 := Lib.hid h0
        have d1 : decide ((0 : Int) < (k : Int)) = false := decide_eq_false (by omega)
        have d2 : decide (0 < k) = false := decide_eq_false (by omega)
        have HCN : Hid (canon (t.take (k + 1)) = canon (t.take k) ++ [(t[k], 1)]) := by
          show _ = _
          have hz : t.take k = [] := by rw [h0]; rfl
          rw [HTK.out, hz]; rfl
        clear hcl hx h0 HTK
        generalize t[k] = x at *
        generalize hps : canon (t.take k) = ps at *
        have HLN := Lib.hid (spC_len ps)
        have HSN := Lib.hid (spC_snoc ps (x, 1))
        clear hps
        have C1 : Hid (∀ j u, ([.int .i64 x, .int .i64 1] : List Value)[j]? = some u → (wr.alloc (Obj.cells #[Value.int IntKind.i64 x, Value.int IntKind.i64 1] 79)).cell? (Addr.add ⟨wr.heap.size, 0, none⟩ j) = some u) := by
          intro j u hj
          rw [Addr.add_lit, Nat.zero_add]
          rw [cell_at (heap_alloc_new wr _)]
          simpa using hj
        have C2 : Hid (∀ u ∈ ([.int .i64 x, .int .i64 1] : List Value), u.oneCell' = true) := by
          intro u hu
          simp only [List.mem_cons, List.not_mem_nil, or_false] at hu
          rcases hu with rfl | rfl <;> rfl
        have C3 : Hid (ps.length + 1 ≤ maxLen) := by show _ ≤ _; unfold maxLen; omega
        have C4 : Hid ((ps.length + 1) * 16 ≤ 140737488355328) := by show _ ≤ _; omega
        have C5 : Hid (w.heap.size ≤ (wr.alloc (Obj.cells #[Value.int IntKind.i64 x, Value.int IntKind.i64 1] 79)).heap.size) := by show _ ≤ _; simp only [World.size_alloc]; omega
        have HOA := Lib.hid (HO.out.alloc (Obj.cells #[Value.int IntKind.i64 x, Value.int IntKind.i64 1] 79))
        go_wp2_with (first
          | (at_builtin; refine wpList_append_own _ rfl (.tmp 35) (.tmp 38) 23 rfl w.heap.size 79 i0 (.agg #[.int .i64 0, .int .i64 0]) 2 16 Try.underlying23 hi0 hz0 hz1 hz2 rfl (by decide) (.slice a3 ps.length c3) ps.length (spC ps) rfl HOA.out ⟨wr.heap.size, 0, none⟩ 1 1 [.int .i64 x, .int .i64 1] rfl rfl C1.out C2.out C3.out C4.out C5.out ?_)
          | fail)
        intro v7 wB ho7 hg7 _
        obtain ⟨a8, c8, rfl⟩ := own_slice ho7
        have HO7 := Lib.hid ho7
        have HBB := Lib.hid ((HB.out.alloc hzr _).grown hg7 (by simp only [World.size_alloc]; omega) (fun q hq => (HO.out.lt q hq).1))
        clear ho7 hg7
        go_wp2_with fail
        go_roundw
        case rel => exact ⟨(k + 1), a8, c8, by go_num, by omega, by rw [HCN.out, List.length_append]; rfl, by rw [HCN.out, List.length_append, HSN.out]; exact HO7.out, HBB.out⟩
        case measure => simp [intOf]; omega
      · obtain ⟨k', rfl⟩ : ∃ k', k = k' + 1 := ⟨k - 1, by omega⟩
        have d1 : decide ((0 : Int) < ((k' + 1 : Nat) : Int)) = true := decide_eq_true (by omega)
        have d1' : decide ((0 : Int) < (k' : Int) + 1) = true := decide_eq_true (by omega)
        have d2 : decide (0 < k' + 1) = true := decide_eq_true (by omega)
        have hlt' : k' < t.length := by omega
        have f2 : wr.cell? ⟨b, off + k', none⟩ = some (.int .i64 t[k']) := (HB.out.cell (p := ⟨b, off + k', none⟩) hbl).trans (hcl k' _ (by unfold inC; rw [List.getElem?_map, List.getElem?_eq_getElem hlt']; rfl))
        have hy := HT.out t[k'] (List.getElem_mem hlt')
        have hy1 := hy.1
        have hy2 := hy.2
        obtain ⟨l0, q, hc0, hq, hq2⟩ := canon_last (t.take k') t[k']
        rw [← List.take_succ_eq_append_getElem hlt'] at hc0
        have hq3 : q.2 ≤ 1000000 := by
          have h1 := lenS_canon (t.take (k' + 1))
          rw [hc0, lenS_append, lenS_one] at h1
          have h2 := full_count l0 (fun z hz => canon_full (t.take (k' + 1)) z (by rw [hc0]; simp [hz]))
          omega
        have HG := Lib.hid (canon_grow (x := t[k' + 1]) hc0)
        rw [← HTK.out] at HG
        have HQ := Lib.hid hq
        have hkk : (((k' + 1 : Nat) : Int)) - 1 = (k' : Int) := by omega
        have hkk2 : k' + 1 - 1 = k' := by omega
        rw [hc0] at HO hcn ⊢
        clear hcl hx hy HTK hbl hc0 hq h0
        generalize t[k' + 1] = x at *
        generalize t[k'] = y at *
        by_cases hj : y + 1 = x
        · have dj : (y + 1 == x) = true := by simpa using hj
          have hj' : x = q.1 + q.2 := by have := HQ.out; omega
          have HCN := Lib.hid (HG.out.trans (if_pos hj'))
          clear HG
          rcases own_form HO.out with ⟨_, h00⟩ | ⟨g, rfl, hBg, hg⟩
          · simp at h00
          have HLN : Hid ((l0 ++ [q]).length = l0.length + 1) := by show _ = _; simp
          have HO' : Hid (wr.ownsRow w.heap.size 79 2 (.slice (some ⟨g, 0, none⟩) (l0.length + 1) c3) (l0.length + 1) (spC (l0 ++ [q]))) := by have := HO.out; rwa [HLN.out] at this
          rw [HLN.out] at hcn ⊢
          have e1 := own_cells HO'.out ((spC_at (l0 ++ [q]) l0.length q (by simp)).2)
          have z1 := own_unfrozen HO'.out (l0.length * 2 + 1)
          have HL1 := Lib.hid (own_lastn l0 q (q.2 + 1) HO'.out)
          have HLN2 : Hid ((l0 ++ [(q.1, q.2 + 1)]).length = l0.length + 1) := by show _ = _; simp
          generalize q.2 = q2 at *
          generalize q.1 = q1 at *
          clear hj hj' HO
          generalize l0.length = n0 at *
          have n1 : (0 : Int) ≤ (n0 : Int) := by omega
          have n2 : (n0 : Int) < (n0 : Int) + 1 := by omega
          go_wp2_with fail
          go_roundw
          case rel => exact ⟨k' + 1 + 1, some ⟨g, 0, none⟩, c3, by go_num, by omega, by rw [HCN.out, HLN2.out], by rw [HCN.out, HLN2.out]; exact HL1.out, HB.out.setCell (p := ⟨g, n0 * 2 + 1, none⟩) hBg _⟩
          case measure => simp [intOf]; omega
        · have dj : (y + 1 == x) = false := by simpa using hj
          have hj' : ¬ x = q.1 + q.2 := by have := HQ.out; omega
          have HCN := Lib.hid (HG.out.trans (if_neg hj'))
          clear hj hj' HG
          generalize l0 ++ [q] = ps at *
          have HLN := Lib.hid (spC_len ps)
          have HSN := Lib.hid (spC_snoc ps (x, 1))
          have C1 : Hid (∀ j u, ([.int .i64 x, .int .i64 1] : List Value)[j]? = some u → (wr.alloc (Obj.cells #[Value.int IntKind.i64 x, Value.int IntKind.i64 1] 79)).cell? (Addr.add ⟨wr.heap.size, 0, none⟩ j) = some u) := by
            intro j u hj
            rw [Addr.add_lit, Nat.zero_add]
            rw [cell_at (heap_alloc_new wr _)]
            simpa using hj
          have C2 : Hid (∀ u ∈ ([.int .i64 x, .int .i64 1] : List Value), u.oneCell' = true) := by
            intro u hu
            simp only [List.mem_cons, List.not_mem_nil, or_false] at hu
            rcases hu with rfl | rfl <;> rfl
          have C3 : Hid (ps.length + 1 ≤ maxLen) := by show _ ≤ _; unfold maxLen; omega
          have C4 : Hid ((ps.length + 1) * 16 ≤ 140737488355328) := by show _ ≤ _; omega
          have C5 : Hid (w.heap.size ≤ (wr.alloc (Obj.cells #[Value.int IntKind.i64 x, Value.int IntKind.i64 1] 79)).heap.size) := by show _ ≤ _; simp only [World.size_alloc]; omega
          have HOA := Lib.hid (HO.out.alloc (Obj.cells #[Value.int IntKind.i64 x, Value.int IntKind.i64 1] 79))
          go_wp2_with (first
            | (at_builtin; refine wpList_append_own _ rfl (.tmp 35) (.tmp 38) 23 rfl w.heap.size 79 i0 (.agg #[.int .i64 0, .int .i64 0]) 2 16 Try.underlying23 hi0 hz0 hz1 hz2 rfl (by decide) (.slice a3 ps.length c3) ps.length (spC ps) rfl HOA.out ⟨wr.heap.size, 0, none⟩ 1 1 [.int .i64 x, .int .i64 1] rfl rfl C1.out C2.out C3.out C4.out C5.out ?_)
            | fail)
          intro v7 wB ho7 hg7 _
          obtain ⟨a8, c8, rfl⟩ := own_slice ho7
          have HO7 := Lib.hid ho7
          have HBB := Lib.hid ((HB.out.alloc hzr _).grown hg7 (by simp only [World.size_alloc]; omega) (fun q hq => (HO.out.lt q hq).1))
          clear ho7 hg7
          go_wp2_with fail
          go_roundw
          case rel => exact ⟨(k' + 1 + 1), a8, c8, by go_num, by omega, by rw [HCN.out, List.length_append]; rfl, by rw [HCN.out, List.length_append, HSN.out]; exact HO7.out, HBB.out⟩
          case measure => simp [intOf]; omega
    · have dk : decide (k < t.length) = false := decide_eq_false hlt
      obtain rfl : k = t.length := by omega
      rw [List.take_length] at HO ⊢
      go_wp2_with fail
      go_ret
      exact ⟨a3, c3, rfl, HO.out, HB.out⟩

/-- What holds at the head of Same's loop. -/
def SmJ (l m : List (Int × Int)) (w : World) (v13 : Value) (wr : World) : Prop := ∃ k : Nat, v13 = .int .i64 k ∧ k ≤ l.length ∧ l.take k = m.take k ∧ Below w.heap.size w wr

set_option maxRecDepth 100000 in
set_option maxHeartbeats 4000000 in
theorem rsame_of {w : World} {a b : Option Addr} {c d : Nat} {l m : List (Int × Int)} (hr : Rd w 2 a l.length (spC l)) (hr2 : Rd w 2 b m.length (spC m)) (hl : l.length ≤ 1000000) (hm : m.length ≤ 1000000) :
    Calls Try.prog 21 #[.slice a l.length c, .slice b m.length d] w fun e w' => e = .returned (.bool (decide (l = m))) ∧ Below w.heap.size w w' := by
  by_cases hn : l.length = m.length
  · have HR := Lib.hid hr
    have HR2 := Lib.hid hr2
    have HN := Lib.hid hn
    clear hr hr2 hm
    rw [← hn]
    clear hn
    go_enter Try.func21, Try.ntmps21
    go_wp2_with fail
    go_loopw [13] (fun v13 wr => SmJ l m w v13 wr) (fun v13 _ => l.length - (intOf v13).toNat)
    case atStart => exact ⟨0, rfl, by omega, rfl, Below.refl _ _⟩
    case round =>
      obtain ⟨k, rfl, hk, ht, hb⟩ := hrel
      have HT := Lib.hid ht
      have HB := Lib.hid hb
      clear ht hb
      by_cases hlt : k < l.length
      · have dk : decide (k < l.length) = true := decide_eq_true hlt
        have hlt2 : k < m.length := by rw [← HN.out]; exact hlt
        obtain ⟨g, off, rfl, hbl, hcl⟩ := HR.out.2 (by omega)
        obtain ⟨g2, off2, rfl, hbl2, hcl2⟩ := HR2.out.2 (by omega)
        have hsp := spC_at l k l[k] (List.getElem?_eq_getElem hlt)
        have hsp2 := spC_at m k m[k] (List.getElem?_eq_getElem hlt2)
        have f1 : wr.cell? ⟨g, off + k * 2, none⟩ = some (.int .i64 l[k].1) := (HB.out.cell (p := ⟨g, off + k * 2, none⟩) hbl).trans (hcl _ _ hsp.1)
        have f2 : wr.cell? ⟨g, off + k * 2 + 1, none⟩ = some (.int .i64 l[k].2) := (HB.out.cell (p := ⟨g, off + k * 2 + 1, none⟩) hbl).trans (hcl _ _ hsp.2)
        have g1 : wr.cell? ⟨g2, off2 + k * 2, none⟩ = some (.int .i64 m[k].1) := (HB.out.cell (p := ⟨g2, off2 + k * 2, none⟩) hbl2).trans (hcl2 _ _ hsp2.1)
        have g2' : wr.cell? ⟨g2, off2 + k * 2 + 1, none⟩ = some (.int .i64 m[k].2) := (HB.out.cell (p := ⟨g2, off2 + k * 2 + 1, none⟩) hbl2).trans (hcl2 _ _ hsp2.2)
        have i0 : (0 : Int) ≤ (k : Int) := by omega
        have i1 : (k : Int) < (l.length : Int) := by omega
        clear hcl hcl2 hbl hbl2 hsp hsp2
        by_cases he : l[k] = m[k]
        · have HE : Hid (l.take (k + 1) = m.take (k + 1)) := by show _ = _; rw [List.take_succ_eq_append_getElem hlt, List.take_succ_eq_append_getElem hlt2, HT.out, he]
          rw [← he] at g1 g2'
          clear he
          generalize l[k].1 = x at *
          generalize l[k].2 = y at *
          go_wp2_with fail
          go_quiet (fail)
          go_wp2_with fail
          go_roundw
          case rel => exact ⟨k + 1, by go_num, hlt, HE.out, below_draw1 HB.out _⟩
          case measure => simp [intOf]; omega
        · have HD : Hid (decide (l = m) = false) := decide_eq_false (fun h => he (by subst h; rfl))
          by_cases hx : l[k].1 = m[k].1
          · have hy : ¬ l[k].2 = m[k].2 := fun h => he (Prod.ext hx h)
            rw [← hx] at g1
            have dy : (l[k].2 == m[k].2) = false := by simpa using hy
            clear he hx hy
            generalize l[k].1 = x at *
            generalize l[k].2 = y at *
            generalize m[k].2 = y' at *
            go_wp2_with fail
            go_quiet (fail)
            go_wp2_with fail
            go_ret
            exact ⟨by rw [HD.out] <;> rfl, below_draw1 HB.out _⟩
          · have dx : (l[k].1 == m[k].1) = false := by simpa using hx
            clear he hx
            generalize l[k].1 = x at *
            generalize l[k].2 = y at *
            generalize m[k].1 = x' at *
            generalize m[k].2 = y' at *
            go_wp2_with fail
            go_quiet (fail)
            go_wp2_with fail
            go_ret
            exact ⟨by rw [HD.out] <;> rfl, below_draw1 HB.out _⟩
      · have dk : decide (k < l.length) = false := decide_eq_false hlt
        obtain rfl : k = l.length := by omega
        have HD : Hid (decide (l = m) = true) := by
          have h := HT.out
          rw [List.take_length, List.take_of_length_le (by rw [HN.out]; exact Nat.le_refl _)] at h
          exact decide_eq_true h
        go_wp2_with fail
        go_ret
        exact ⟨by rw [HD.out] <;> rfl, HB.out⟩
  · have d1 : (l.length == m.length) = false := by simpa using hn
    have d1' : ((l.length : Int) == (m.length : Int)) = false := by simp; omega
    have HD : Hid (decide (l = m) = false) := decide_eq_false (fun h => hn (by rw [h]))
    clear hn hr hr2
    go_enter Try.func21, Try.ntmps21
    go_wp2_with fail
    go_ret
    exact ⟨by rw [HD.out] <;> rfl, Below.refl _ _⟩

end Go.Proofs.Ytelnehjmkjpjhaa
