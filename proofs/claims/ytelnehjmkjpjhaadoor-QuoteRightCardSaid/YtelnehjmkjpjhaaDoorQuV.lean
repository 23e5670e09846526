/-
  The contract of quote's Join, at this seat's numbers.
-/
import Derived.Laws.AppendOwnNone
import Derived.Test.YtelnehjmkjpjhaaDoorQuU
namespace Go.Proofs.YtelnehjmkjpjhaaDoor
open Go Go.RowKit
set_option linter.unusedVariables false

theorem own_form3 {w : World} {B sz n c : Nat} {e : TypeId} {a : Option Addr} {xs : List Value} (h : w.ownsRow B e sz (.slice a n c) n xs) : (a = none ∧ n = 0 ∧ c = 0) ∨ ∃ g, a = some ⟨g, 0, none⟩ ∧ B ≤ g ∧ g < w.heap.size := by
  rcases own_form h with ⟨rfl, h0⟩ | h'
  · rcases h.2 with ⟨e, _⟩ | ⟨g, cap, cur, e, _⟩
    · injection e with _ _ e3
      exact .inl ⟨rfl, h0, e3⟩
    · injection e with e1
      cases e1
  · exact .inr h'

/-- A row of texts in memory: each text, and where it lies. -/
abbrev TxM := List UInt8 × Option Addr × Nat
def tsC (M : List TxM) : List Value := M.map fun p => .slice p.2.1 p.1.length p.2.2
def TsIn (w : World) (M : List TxM) : Prop := ∀ p ∈ M, Rd w 1 p.2.1 p.1.length (bc p.1)
theorem TsIn.below {w w' : World} {M : List TxM} (h : TsIn w M) (hb : Below w.heap.size w w') : TsIn w' M := fun p hp => (h p hp).below hb

/-- What holds at the head of Join's loop. -/
def QjJ (L : List (List UInt8)) (w : World) (v3 v8 : Value) (wr : World) : Prop := ∃ (k n : Nat) (a : Option Addr) (c : Nat) (xs : List Value), v8 = .int .i64 k ∧ k ≤ L.length ∧ v3 = .slice a n c ∧ n = (joinP (L.take k)).length ∧ xs = bc (joinP (L.take k)) ∧ wr.ownsRow w.heap.size 5 1 (.slice a n c) n xs ∧ Below w.heap.size w wr

set_option maxRecDepth 100000 in
set_option maxHeartbeats 4000000 in
theorem qjoin_of {w : World} {a : Option Addr} {c : Nat} {M : List TxM} (hr : Rd w 1 a M.length (tsC M)) (hi : TsIn w M) (hn : M.length ≤ 12) (hx : ∀ p ∈ M, p.1.length ≤ 60) :
    Calls Tryd.prog 9 #[.slice a M.length c] w (BytesPost (joinP (M.map (·.1))) w) := by
  obtain ⟨i0, hi0, hz0, hz1, hz2⟩ := info_parts info_u8
  obtain ⟨L, hL⟩ : ∃ L, M.map (·.1) = L := ⟨_, rfl⟩
  have hML : M.length = L.length := by rw [← hL, List.length_map]
  have hxL : ∀ x ∈ L, x.length ≤ 60 := by
    intro x h
    rw [← hL] at h
    obtain ⟨p, hp, rfl⟩ := List.mem_map.1 h
    exact hx p hp
  have HML := Lib.hid hML
  rw [hML] at hr hn ⊢
  have HR := Lib.hid hr
  have HI := Lib.hid hi
  have HX := Lib.hid hxL
  have HL := Lib.hid hL
  have HJL := Lib.hid (joinP_len hxL)
  rw [hL]
  clear hr hi hx hxL hL hML
  go_enter Tryd.func9, Tryd.ntmps9
  go_wp2_with fail
  go_loopw [3, 8] (fun v3 v8 wr => QjJ L w v3 v8 wr) (fun _ v8 _ => L.length - (intOf v8).toNat)
  case atStart => exact ⟨0, 0, none, 0, [], rfl, by omega, rfl, rfl, rfl, own_nil _ _ _ _, Below.refl _ _⟩
  case round =>
    obtain ⟨k, n, a3, c3, xs, rfl, hk, rfl, hn1, hxs, ho, hb⟩ := hrel
    have hnl : n ≤ 2000 := by have := HJL.out k hk; omega
    have HNN := Lib.hid hn1
    have HXS := Lib.hid hxs
    have HO := Lib.hid ho
    have HB := Lib.hid hb
    have hzr := hb.size
    clear hn1 hxs ho hb
    by_cases hlt : k < L.length
    · have dk : decide (k < L.length) = true := decide_eq_true (by omega)
      have hltM : k < M.length := by rw [HML.out]; exact hlt
      obtain ⟨b, off, rfl, hbl, hcl⟩ := HR.out.2 (by omega)
      have hc := (HB.out.cell (p := ⟨b, off + k, none⟩) hbl).trans (hcl k (.slice M[k].2.1 M[k].1.length M[k].2.2) (by unfold tsC; rw [List.getElem?_map, List.getElem?_eq_getElem hltM]; rfl))
      have hxk : M[k].1 = L[k] := by simp only [← HL.out, List.getElem_map]
      have hrk := HI.out M[k] (List.getElem_mem hltM)
      rw [hxk] at hc hrk
      generalize M[k].2.1 = xa at *
      generalize M[k].2.2 = xc at *
      have hx60 := HX.out L[k] (List.getElem_mem hlt)
      have hpl := putP_len L[k]
      have HRK := Lib.hid hrk
      clear hcl hrk hxk
      rcases Nat.eq_zero_or_pos k with h0 | h0
      · have HSTL0 : Hid ((joinP (L.take (k + 1))).length = n + (putP L[k]).length) := by
          show _ = _
          subst h0
          rw [HNN.out, joinP_first hlt]; simp [joinP]
        have HSTX0 : Hid (bc (joinP (L.take (k + 1))) = xs ++ bc (putP L[k])) := by
          show _ = _
          subst h0
          rw [HXS.out, joinP_first hlt]; simp [joinP, bc]
        have d0 : decide ((0 : Int) < (k : Int)) = false := decide_eq_false (by omega)
        have d0' : decide (0 < k) = false := decide_eq_false (by omega)
        clear h0
        generalize L[k] = x at *
        have HPT := Lib.hid (qput_of (c := xc) (HRK.out.below HB.out) (by omega))
        go_wp2_with fail
        refine HPT.out.mono ?_; rintro e wP ⟨ap, cp, rfl, hop, hbp⟩
        have OO2 := Lib.hid (own_below HO.out hbp)
        have BB2 := Lib.hid (HB.out.trans (hbp.mono hzr))
        have HOP := Lib.hid hop
        have HSTL := HSTL0
        have HSTX : Hid (xs ++ bc (putP x) = bc (joinP (L.take (k + 1)))) := HSTX0.out.symm
        clear hop hbp HPT HSTL0 HSTX0
        generalize hnp : (putP x).length = np at *
        have HPN := Lib.hid hnp
        clear hnp
        rcases own_form3 HOP.out with ⟨rfl, hp0, rfl⟩ | ⟨g, rfl, hg1, hg2⟩
        · have HE2 : Hid (n = (joinP (L.take (k + 1))).length) := by show _ = _; rw [HSTL.out]; omega
          have HX2 : Hid (xs = bc (joinP (L.take (k + 1)))) := by
            show _ = _
            rw [← HSTX.out, show bc (putP x) = [] from List.length_eq_zero_iff.1 (by rw [bc_len, HPN.out]; exact hp0), List.append_nil]
          subst hp0
          go_wp2_with (first
            | (at_builtin; refine wpList_append_own_none rfl (.tmp 18) (.tmp 20) 28 rfl w.heap.size 5 i0 1 Tryd.underlying28 hi0 (.slice a3 n c3) n xs rfl OO2.out rfl ?_)
            | fail)
          go_wp2_with fail
          go_roundw
          case rel => exact ⟨k + 1, n, a3, c3, xs, by go_num, hlt, rfl, HE2.out, HX2.out, OO2.out, BB2.out⟩
          case measure => simp [intOf]; omega
        · have C0 : Hid ((bc (putP x)).length = np * 1) := by show _ = _; rw [bc_len, HPN.out]; omega
          have C1 : Hid (∀ q u, (bc (putP x))[q]? = some u → wP.cell? (Addr.add ⟨g, 0, none⟩ q) = some u) := by
            intro q u hq
            rw [Addr.add_lit, Nat.zero_add]
            exact own_cells HOP.out hq
          have C2 := Lib.hid (bc_one (putP x))
          have C3 : Hid (n + np ≤ maxLen) := by show _ ≤ _; unfold maxLen; omega
          have C4 : Hid ((n + np) * 1 ≤ 140737488355328) := by show _ ≤ _; omega
          have C5 : Hid (w.heap.size ≤ wP.heap.size) := BB2.out.size
          have HE2 : Hid (n + np = (joinP (L.take (k + 1))).length) := HSTL.out.symm
          go_wp2_with (first
            | (at_builtin; refine wpList_append_own _ rfl (.tmp 18) (.tmp 20) 28 rfl w.heap.size 5 i0 (.int .u8 0) 1 1 Tryd.underlying28 hi0 hz0 hz1 hz2 rfl (by decide) (.slice a3 n c3) n xs rfl OO2.out ⟨g, 0, none⟩ np cp (bc (putP x)) rfl C0.out C1.out C2.out C3.out C4.out C5.out ?_)
            | fail)
          intro v7 wF ho7 hg7 _
          obtain ⟨A9, C9, rfl⟩ := own_slice ho7
          have OF := Lib.hid ho7
          have BF := Lib.hid (BB2.out.grown hg7 BB2.out.size (fun q hq => (OO2.out.lt q hq).1))
          clear ho7 hg7 C0 C1 C2 C3 C4 C5
          go_wp2_with fail
          go_roundw
          case rel => exact ⟨k + 1, n + np, A9, C9, _, by go_num, hlt, rfl, HE2.out, HSTX.out, OF.out, BF.out⟩
          case measure => simp [intOf]; omega
      · have HSTL0 : Hid ((joinP (L.take (k + 1))).length = n + 1 + (putP L[k]).length) := by
          show _ = _
          rw [HNN.out, joinP_more hlt h0]; simp; omega
        have HSTX0 : Hid (bc (joinP (L.take (k + 1))) = xs ++ [.int .u8 44] ++ bc (putP L[k])) := by
          show _ = _
          rw [HXS.out, joinP_more hlt h0, bc_append, bc_append]; rfl
        have d0 : decide ((0 : Int) < (k : Int)) = true := decide_eq_true (by omega)
        have d0' : decide (0 < k) = true := decide_eq_true (by omega)
        clear h0
        generalize L[k] = x at *
        have C1 : Hid (∀ q u, ([.int .u8 44] : List Value)[q]? = some u → (wr.alloc (Obj.cells #[Value.int IntKind.u8 44] 5)).cell? (Addr.add ⟨wr.heap.size, 0, none⟩ q) = some u) := by
          intro q u hq
          rw [Addr.add_lit, Nat.zero_add]
          rw [cell_at (heap_alloc_new wr _)]
          simpa using hq
        have C2 : Hid (∀ u ∈ ([.int .u8 44] : List Value), u.oneCell' = true) := by
          intro u hu
          obtain rfl := List.mem_singleton.1 hu; rfl
        have C3 : Hid (n + 1 ≤ maxLen) := by show _ ≤ _; unfold maxLen; omega
        have C4 : Hid ((n + 1) * 1 ≤ 140737488355328) := by show _ ≤ _; omega
        have C5 : Hid (w.heap.size ≤ (wr.alloc (Obj.cells #[Value.int IntKind.u8 44] 5)).heap.size) := by show _ ≤ _; simp only [World.size_alloc]; omega
        have HOA := Lib.hid (HO.out.alloc (Obj.cells #[Value.int IntKind.u8 44] 5))
        go_wp2_with (first
          | (at_builtin; refine wpList_append_own _ rfl (.tmp 15) (.tmp 16) 28 rfl w.heap.size 5 i0 (.int .u8 0) 1 1 Tryd.underlying28 hi0 hz0 hz1 hz2 rfl (by decide) (.slice a3 n c3) n xs rfl HOA.out ⟨wr.heap.size, 0, none⟩ 1 1 [.int .u8 44] rfl rfl C1.out C2.out C3.out C4.out C5.out ?_)
          | fail)
        intro v7 wB ho7 hg7 _
        obtain ⟨a8, c8, rfl⟩ := own_slice ho7
        have HOB := Lib.hid ho7
        have HBB := Lib.hid ((HB.out.alloc (by have := HB.out.size; omega) _).grown hg7 (by simp only [World.size_alloc]; omega) (fun q hq => (HO.out.lt q hq).1))
        have hzB : w.heap.size ≤ wB.heap.size := HBB.out.size
        clear ho7 hg7 C1 C2 C3 C4 C5 HOA
        have HPT := Lib.hid (qput_of (c := xc) (HRK.out.below HBB.out) (by omega))
        go_wp2_with fail
        refine HPT.out.mono ?_; rintro e wP ⟨ap, cp, rfl, hop, hbp⟩
        have OO2 := Lib.hid (own_below HOB.out hbp)
        have BB2 := Lib.hid (HBB.out.trans (hbp.mono HBB.out.size))
        have HOP := Lib.hid hop
        have HSTL := HSTL0
        have HSTX : Hid (xs ++ [.int .u8 44] ++ bc (putP x) = bc (joinP (L.take (k + 1)))) := HSTX0.out.symm
        clear hop hbp HPT HSTL0 HSTX0
        clear HOB
        generalize xs ++ [Value.int IntKind.u8 44] = xs2 at *
        generalize hnp : (putP x).length = np at *
        have HPN := Lib.hid hnp
        clear hnp
        rcases own_form3 HOP.out with ⟨rfl, hp0, rfl⟩ | ⟨g, rfl, hg1, hg2⟩
        · have HE2 : Hid ((n + 1) = (joinP (L.take (k + 1))).length) := by show _ = _; rw [HSTL.out]; omega
          have HX2 : Hid (xs2 = bc (joinP (L.take (k + 1)))) := by
            show _ = _
            rw [← HSTX.out, show bc (putP x) = [] from List.length_eq_zero_iff.1 (by rw [bc_len, HPN.out]; exact hp0), List.append_nil]
          subst hp0
          go_wp2_with (first
            | (at_builtin; refine wpList_append_own_none rfl (.tmp 18) (.tmp 20) 28 rfl w.heap.size 5 i0 1 Tryd.underlying28 hi0 (.slice a8 (n + 1) c8) (n + 1) xs2 rfl OO2.out rfl ?_)
            | fail)
          go_wp2_with fail
          go_roundw
          case rel => exact ⟨k + 1, (n + 1), a8, c8, xs2, by go_num, hlt, rfl, HE2.out, HX2.out, OO2.out, BB2.out⟩
          case measure => simp [intOf]; omega
        · have C0 : Hid ((bc (putP x)).length = np * 1) := by show _ = _; rw [bc_len, HPN.out]; omega
          have C1 : Hid (∀ q u, (bc (putP x))[q]? = some u → wP.cell? (Addr.add ⟨g, 0, none⟩ q) = some u) := by
            intro q u hq
            rw [Addr.add_lit, Nat.zero_add]
            exact own_cells HOP.out hq
          have C2 := Lib.hid (bc_one (putP x))
          have C3 : Hid ((n + 1) + np ≤ maxLen) := by show _ ≤ _; unfold maxLen; omega
          have C4 : Hid (((n + 1) + np) * 1 ≤ 140737488355328) := by show _ ≤ _; omega
          have C5 : Hid (w.heap.size ≤ wP.heap.size) := BB2.out.size
          have HE2 : Hid ((n + 1) + np = (joinP (L.take (k + 1))).length) := HSTL.out.symm
          go_wp2_with (first
            | (at_builtin; refine wpList_append_own _ rfl (.tmp 18) (.tmp 20) 28 rfl w.heap.size 5 i0 (.int .u8 0) 1 1 Tryd.underlying28 hi0 hz0 hz1 hz2 rfl (by decide) (.slice a8 (n + 1) c8) (n + 1) xs2 rfl OO2.out ⟨g, 0, none⟩ np cp (bc (putP x)) rfl C0.out C1.out C2.out C3.out C4.out C5.out ?_)
            | fail)
          intro v7 wF ho7 hg7 _
          obtain ⟨A9, C9, rfl⟩ := own_slice ho7
          have OF := Lib.hid ho7
          have BF := Lib.hid (BB2.out.grown hg7 BB2.out.size (fun q hq => (OO2.out.lt q hq).1))
          clear ho7 hg7 C0 C1 C2 C3 C4 C5
          go_wp2_with fail
          go_roundw
          case rel => exact ⟨k + 1, (n + 1) + np, A9, C9, _, by go_num, hlt, rfl, HE2.out, HSTX.out, OF.out, BF.out⟩
          case measure => simp [intOf]; omega
    · have dk : decide (k < L.length) = false := decide_eq_false (by omega)
      obtain rfl : k = L.length := by omega
      rw [List.take_length] at HNN HXS
      have hn2 := HNN.out
      have hx2 := HXS.out
      subst hn2 hx2
      go_wp2_with fail
      go_ret
      exact ⟨a3, c3, rfl, HO.out, HB.out⟩

end Go.Proofs.YtelnehjmkjpjhaaDoor
