/-
  The contracts of the document's Of (layer 4) and of the statement's like, at this seat's numbers.
-/
import Derived.Test.YtelnehjmkjpjhaaPcO
import Derived.Test.YtelnehjmkjpjhaaScU
namespace Go.Proofs.Ytelnehjmkjpjhaa
open Go Go.RowKit
set_option linter.unusedVariables false

theorem ex_take_succ {l : List Sp} {k : Nat} (h : k < l.length) : ex (l.take (k + 1)) = ex (l.take k) ++ ex1 l[k] := by
  rw [List.take_succ_eq_append_getElem h, ex_append, ex_one]
theorem ex1_take_succ {a : Int} {n : Int} {j : Nat} (h : (j : Int) < n) : ex1 (a, ((j + 1 : Nat) : Int)) = ex1 (a, (j : Int)) ++ [a + j] := ex1_succ a j

set_option maxRecDepth 100000 in
set_option maxHeartbeats 4000000 in
theorem rof_of {w : World} {a : Option Addr} {c : Nat} {l : List Sp} (hr : Rd w 2 a l.length (spC l)) (hl : l.length ≤ 1000) (hb : ∀ s ∈ l, 0 ≤ s.1 ∧ s.1 < 1048576 ∧ s.2 ≤ 60) (hx : (ex l).length ≤ 20000) :
    Calls Try.prog 19 #[.slice a l.length c] w fun e w' => ∃ a' c', e = .returned (.slice a' (ex l).length c') ∧ w'.ownsRow w.heap.size 3 1 (.slice a' (ex l).length c') (ex l).length (inC (ex l)) ∧ Below w.heap.size w w' := by
  obtain ⟨i0, hi0, hz0, hz1, hz2⟩ := info_parts info_int
  have HR := Lib.hid hr
  have HBd := Lib.hid hb
  have HXL : Hid (∀ k, (ex (l.take k)).length ≤ 20000) := fun k => by
    obtain ⟨r, h⟩ := ex_take l k
    rw [h, List.length_append] at hx; omega
  clear hr hb hx
  go_enter Try.func19, Try.ntmps19
  go_wp2_with fail
  go_loopw [3, 9] (fun v3 v9 wr => ∃ (k : Nat) (a3 : Option Addr) (c3 : Nat), k ≤ l.length ∧ v9 = .int .i64 k ∧ v3 = .slice a3 (ex (l.take k)).length c3 ∧ wr.ownsRow w.heap.size 3 1 (.slice a3 (ex (l.take k)).length c3) (ex (l.take k)).length (inC (ex (l.take k))) ∧ Below w.heap.size w wr) (fun _ v9 _ => l.length - (intOf v9).toNat)
  case atStart => exact ⟨0, none, 0, by omega, rfl, rfl, own_nil _ _ _ _, Below.refl _ _⟩
  case round =>
    obtain ⟨k, a3, c3, hk, rfl, rfl, ho, hb⟩ := hrel
    have HO := Lib.hid ho
    have HB := Lib.hid hb
    have hzr := hb.size
    clear ho hb
    by_cases hlt : k < l.length
    · have dk : decide (k < l.length) = true := decide_eq_true hlt
      obtain ⟨b, off, rfl, hbl, hcl⟩ := HR.out.2 (by omega)
      have hsp := spC_at l k l[k] (List.getElem?_eq_getElem hlt)
      have f1 : wr.cell? ⟨b, off + k * 2, none⟩ = some (.int .i64 l[k].1) := (HB.out.cell (p := ⟨b, off + k * 2, none⟩) hbl).trans (hcl _ _ hsp.1)
      have f2 : wr.cell? ⟨b, off + k * 2 + 1, none⟩ = some (.int .i64 l[k].2) := (HB.out.cell (p := ⟨b, off + k * 2 + 1, none⟩) hbl).trans (hcl _ _ hsp.2)
      have hbd := HBd.out l[k] (List.getElem_mem hlt)
      have hxl := HXL.out (k + 1)
      rw [ex_take_succ hlt, List.length_append, ex1_len] at hxl
      have HST : Hid (ex (l.take (k + 1)) = ex (l.take k) ++ ex1 (l[k].1, l[k].2)) := ex_take_succ hlt
      have al := below_al wr (Obj.cells #[Value.int .i64 l[k].1, Value.int .i64 l[k].2] 79)
      have HOa := Lib.hid (own_below HO.out al)
      have HBa := Lib.hid (HB.out.trans (al.mono hzr))
      have HGB := Lib.hid (heap_alloc_new wr (Obj.cells #[Value.int .i64 l[k].1, Value.int .i64 l[k].2] 79))
      have g1 : (wr.alloc (Obj.cells #[Value.int .i64 l[k].1, Value.int .i64 l[k].2] 79)).cell? ⟨wr.heap.size, 0, none⟩ = some (.int .i64 l[k].1) := by rw [cell_at (heap_alloc_new wr _)]; rfl
      have g2 : (wr.alloc (Obj.cells #[Value.int .i64 l[k].1, Value.int .i64 l[k].2] 79)).cell? ⟨wr.heap.size, 1, none⟩ = some (.int .i64 l[k].2) := by rw [cell_at (heap_alloc_new wr _)]; rfl
      have hza : (wr.alloc (Obj.cells #[Value.int .i64 l[k].1, Value.int .i64 l[k].2] 79)).heap.size = wr.heap.size + 1 := by simp
      clear hbl hcl hsp al HR HBd HXL HO HB
      generalize l[k].1 = x at *
      generalize l[k].2 = y at *
      generalize ex (l.take k) = p at *
      go_wp2_with fail
      clear f1 f2
      generalize wr.alloc (Obj.cells #[Value.int .i64 x, Value.int .i64 y] 79) = wa at *
      generalize wr.heap.size = ob at *
      have hlw : ob < wa.heap.size := by omega
      go_loopw [3, 6] (fun v3 v6 wr => ∃ (j : Nat) (a4 : Option Addr) (c4 : Nat), j ≤ y.toNat ∧ v6 = .int .i64 j ∧ v3 = .slice a4 (p ++ ex1 (x, (j : Int))).length c4 ∧ wr.ownsRow w.heap.size 3 1 (.slice a4 (p ++ ex1 (x, (j : Int))).length c4) (p ++ ex1 (x, (j : Int))).length (inC (p ++ ex1 (x, (j : Int)))) ∧ Below w.heap.size w wr ∧ wr.heap[ob]? = some (.cells #[.int .i64 x, .int .i64 y] 79 (0, 0))) (fun _ v6 _ => y.toNat - (intOf v6).toNat)
      case atStart => exact ⟨0, a3, c3, by omega, rfl, by rw [ex1_zero x _ (by simp), List.append_nil], by rw [ex1_zero x _ (by simp), List.append_nil]; exact HOa.out, HBa.out, HGB.out⟩
      case round =>
        obtain ⟨j, a4, c4, hj, rfl, rfl, ho, hb, hgb⟩ := hrel
        have q1 : wr.cell? ⟨ob, 0, none⟩ = some (.int .i64 x) := by rw [cell_at hgb]; rfl
        have q2 : wr.cell? ⟨ob, 1, none⟩ = some (.int .i64 y) := by rw [cell_at hgb]; rfl
        have HQ := Lib.hid hgb
        have hws : ob < wr.heap.size := lt_of_heap hgb
        clear hgb
        have HO := Lib.hid ho
        have HB := Lib.hid hb
        have hzs := hb.size
        clear ho hb
        have hpn : (p ++ ex1 (x, (j : Int))).length ≤ 30000 := by rw [List.length_append, ex1_len]; simp; omega
        by_cases hjl : (j : Int) < y
        · have dj : decide ((j : Int) < y) = true := decide_eq_true hjl
          have HS := Lib.hid (show p ++ ex1 (x, ((j + 1 : Nat) : Int)) = (p ++ ex1 (x, (j : Int))) ++ [x + j] by rw [ex1_succ, List.append_assoc])
          generalize p ++ ex1 (x, (j : Int)) = r at *
          have hxj : IntKind.i64.wrap (x + (j : Int)) = x + j := by rw [IntKind.wrap_i64]; omega
          go_wp2_with (first
            | (at_builtin; refine wpList_append_own _ rfl (.tmp 19) (.tmp 24) 31 rfl w.heap.size 3 i0 (.int .i64 0) 1 8 Try.underlying31 hi0 hz0 hz1 hz2 rfl (by decide) (.slice a4 r.length c4) r.length (inC r) rfl (HO.out.alloc _) ⟨wr.heap.size, 0, none⟩ 1 1 [.int .i64 (x + j)] rfl rfl ?c1 ?c2 ?c3 ?c4 ?c5 ?_)
            | fail)
          case c1 =>
            intro q u hq
            rw [Addr.add_lit, Nat.zero_add]
            rw [cell_at (heap_alloc_new wr _)]
            simpa using hq
          case c2 =>
            intro u hu
            obtain rfl := List.mem_singleton.1 hu; rfl
          case c3 => unfold maxLen; omega
          case c4 => omega
          case c5 => simp only [World.size_alloc]; omega
          intro v7 wB ho7 hg7 _
          obtain ⟨a8, c8, rfl⟩ := own_slice ho7
          have HO7 := Lib.hid ho7
          have HQ7 := Lib.hid ((hg7.block ob (by simp only [World.size_alloc]; omega) (fun e => own_ne HO.out HQ.out (by decide) e.symm)).trans (((below_al wr _).block ob hws).trans HQ.out))
          have HBB := Lib.hid ((HB.out.alloc hzs _).grown hg7 (by simp only [World.size_alloc]; omega) (fun q hq => (HO.out.lt q hq).1))
          clear ho7 hg7
          go_wp2_with fail
          go_roundw
          case rel => exact ⟨j + 1, a8, c8, by omega, by go_num, by rw [HS.out, List.length_append]; rfl, by rw [HS.out, List.length_append, inC_snoc]; exact HO7.out, HBB.out, HQ7.out⟩
          case measure => simp [intOf]; omega
        · have dj : decide ((j : Int) < y) = false := decide_eq_false hjl
          have HE : Hid (p ++ ex1 (x, (j : Int)) = ex (l.take (k + 1))) := by
            show _ = _
            rw [HST.out]
            congr 1
            by_cases hy : 0 ≤ y
            · rw [show (j : Int) = y by omega]
            · rw [ex1_zero x _ (by omega), ex1_zero x _ (by omega)]
          go_wp2_with fail
          go_roundw
          case rel => exact ⟨k + 1, a4, c4, hlt, by go_num, HE.out ▸ rfl, HE.out ▸ HO.out, HB.out⟩
          case measure => simp [intOf]; omega
    · have dk : decide (k < l.length) = false := decide_eq_false hlt
      obtain rfl : k = l.length := by omega
      rw [List.take_length] at *
      go_wp2_with fail
      go_ret
      exact ⟨a3, c3, rfl, HO.out, HB.out⟩

theorem rsame_true {w : World} {a b : Option Addr} {c d : Nat} {l : List Sp} (hr : Rd w 2 a l.length (spC l)) (hr2 : Rd w 2 b l.length (spC l)) (hl : l.length ≤ 1000000) :
    Calls Try.prog 21 #[.slice a l.length c, .slice b l.length d] w fun e w' => e = .returned (.bool true) ∧ Below w.heap.size w w' := by
  refine (rsame_of hr hr2 hl hl).mono ?_
  rintro e w' ⟨rfl, hb⟩
  exact ⟨by simp, hb⟩

set_option maxRecDepth 100000 in
set_option maxHeartbeats 4000000 in
theorem like_of {w : World} {v : Value} {t : List Int} {a : Option Addr} {c : Nat} (h : Tx w v t) (hr : Rd w 1 a t.length (inC t)) :
    Calls Try.prog 18 #[.agg #[v], .slice a t.length c] w fun e w' => e = .returned (.bool true) ∧ Below w.heap.size w w' := by
  have HX := Lib.hid h
  obtain ⟨a1, c1, rfl, hr1, hs, -, -⟩ := h
  have hcn := canon_count t
  have htl := hs.1
  have al := below_al w (Obj.cells #[Value.slice a1 (canon t).length c1] 27)
  have HB := Lib.hid al
  have HL := Lib.hid (lspans_rd (c := c1) (hr1.below al) (by omega))
  have HR := Lib.hid hr
  have HI : Hid (∀ x ∈ t, -1099511627776 ≤ x ∧ x ≤ 1099511627776) := fun x hx => by have := hs.2 x hx; omega
  have k0 : (w.alloc (Obj.cells #[Value.slice a1 (canon t).length c1] 27)).cell? ⟨w.heap.size, 0, none⟩ = some (.slice a1 (canon t).length c1) := by rw [cell_at (heap_alloc_new w _)]; rfl
  have hz : w.heap.size < (w.alloc (Obj.cells #[Value.slice a1 (canon t).length c1] 27)).heap.size := by simp
  have hbq : ((t.length : Int) == (t.length : Int)) = true := beq_self_eq_true _
  clear hr1 hs hr al
  generalize hn : (canon t).length = n at *
  have HN := Lib.hid hn
  clear hn
  go_enter Try.func18, Try.ntmps18
  go_wp2_with fail
  refine HL.out.mono ?_; rintro e w2 ⟨v2, rfl, ho2, hb2⟩
  obtain ⟨a2, c2, rfl⟩ := own_slice ho2
  have HB2 := Lib.hid (HB.out.trans (hb2.mono (Nat.le_of_lt hz)))
  have HO2 := Lib.hid ho2
  have k2 := (hb2.cell (p := ⟨w.heap.size, 0, none⟩) hz).trans k0
  have hz2 := Nat.lt_of_lt_of_le hz hb2.size
  have HS4 := Lib.hid (spans4_of (c := c) (HR.out.below HB2.out) (by omega) HI.out)
  clear ho2 hb2 k0 hz HL HB
  go_wp2_with fail
  refine HS4.out.mono ?_; rintro e w3 ⟨a3, c3, rfl, ho3, hb3⟩
  have HB3 := Lib.hid (HB2.out.trans (hb3.mono HB2.out.size))
  have k3 := (hb3.cell (p := ⟨w.heap.size, 0, none⟩) hz2).trans k2
  have hz3 := Nat.lt_of_lt_of_le hz2 hb3.size
  have HSm := Lib.hid (rsame_true (c := c2) (d := c3) (l := canon t) (by rw [HN.out]; exact (own_rd HO2.out).below hb3) (own_rd ho3) (by rw [HN.out]; omega))
  rw [HN.out] at HSm
  rw [HN.out]
  clear ho3 hb3 k2 hz2 HS4 HO2
  go_wp2_with fail
  refine HSm.out.mono ?_; rintro e w4 ⟨rfl, hb4⟩
  have HB4 := Lib.hid (HB3.out.trans (hb4.mono HB3.out.size))
  have k4 := (hb4.cell (p := ⟨w.heap.size, 0, none⟩) hz3).trans k3
  clear hb4 k3 HSm
  have HLn := Lib.hid (tlen_of (HX.out.below HB4.out))
  go_wp2_with fail
  refine HLn.out.mono ?_; rintro e w5 ⟨rfl, hb5⟩
  have HB5 := Lib.hid (HB4.out.trans (hb5.mono HB4.out.size))
  clear hb5 HLn
  go_wp2_with fail
  go_ret
  exact ⟨rfl, HB5.out⟩

end Go.Proofs.Ytelnehjmkjpjhaa
