/-
  The contract of the statement's own Spans (layer 4), at this seat's numbers.
-/
import Derived.Test.YtelnehjmkjpjhaaPieC
namespace Go.Proofs.Ytelnehjmkjpjhaa
open Go Go.RowKit
set_option linter.unusedVariables false

theorem info_rspan : (Try.prog.info? 79).map (fun i => (i.zero, i.size, i.bytes)) = some (some (.agg #[.int .i64 0, .int .i64 0]), 2, 16) := by kernel_rfl
theorem spC_take {l : List (Int × Int)} {k : Nat} (h : k < l.length) : spC (l.take (k + 1)) = spC (l.take k) ++ [.int .i64 l[k].1, .int .i64 l[k].2] := by
  rw [List.take_succ_eq_append_getElem h, spC_snoc]

set_option maxRecDepth 100000 in
set_option maxHeartbeats 4000000 in
theorem lspans_of {w : World} {B c : Nat} {a : Option Addr} {l : List (Int × Int)} (ho : w.ownsRow B 51 2 (.slice a l.length c) l.length (spC l)) (hl : l.length ≤ 1000000) :
    Calls Try.prog 80 #[.agg #[.slice a l.length c]] w fun e w' => ∃ v', e = .returned v' ∧ w'.ownsRow w.heap.size 79 2 v' l.length (spC l) ∧ Below w.heap.size w w' := by
  obtain ⟨i0, hi0, hz0, hz1, hz2⟩ := info_parts info_rspan
  have al := below_al w (Obj.cells #[Value.slice a l.length c] 27)
  have HB0 := Lib.hid al
  have hz0' := al.size
  have c0 : (w.alloc (Obj.cells #[Value.slice a l.length c] 27)).cell? ⟨w.heap.size, 0, none⟩ = some (.slice a l.length c) := by rw [cell_at (heap_alloc_new w _)]; rfl
  have HC := Lib.hid (pspans_of (own_below ho al) hl)
  have HL := Lib.hid hl
  clear ho hl al
  go_enter Try.func80, Try.ntmps80
  go_wp2_with fail
  refine HC.out.mono ?_; rintro e w2 ⟨v', rfl, ho2, hb2⟩
  obtain ⟨a2, c2, rfl⟩ := own_slice ho2
  have HO2 := Lib.hid ho2
  have HB2 := Lib.hid (HB0.out.trans (hb2.mono hz0'))
  have hz2' := hb2.size
  clear ho2 hb2 c0 HC HB0
  go_wp2_with fail
  have hzz : w.heap.size ≤ w2.heap.size := by omega
  clear hz0' hz2'
  go_loopw [3, 9] (fun v3 i wr => ∃ k : Nat, k ≤ l.length ∧ i = .int .i64 k ∧ wr.ownsRow w2.heap.size 79 2 v3 k (spC (l.take k)) ∧ Below w2.heap.size w2 wr) (fun _ i _ => l.length - (intOf i).toNat)
  case atStart => exact ⟨0, by omega, rfl, own_nil _ _ _ _, Below.refl _ _⟩
  case round =>
    obtain ⟨k, hk, rfl, ho, hb⟩ := hrel
    have HB := Lib.hid hb
    have HO := Lib.hid ho
    clear hb ho
    by_cases hlt : k < l.length
    · have dk : decide (k < l.length) = true := decide_eq_true hlt
      have hln := HL.out
      rcases own_form HO2.out with ⟨_, h00⟩ | ⟨g, rfl, hBg, hg⟩
      · omega
      have hsp := spC_at l k l[k] (List.getElem?_eq_getElem hlt)
      have f1 := HO2.out.cells (g := g) rfl _ _ hsp.1
      have f2 := HO2.out.cells (g := g) rfl _ _ hsp.2
      rw [Addr.add_lit] at f1 f2
      simp only [Nat.zero_add] at f1 f2
      replace f1 := (HB.out.cell (p := ⟨g, k * 2, none⟩) hg).trans f1
      replace f2 := (HB.out.cell (p := ⟨g, k * 2 + 1, none⟩) hg).trans f2
      have ht := spC_take hlt
      have HT := Lib.hid ht
      clear hsp ht
      generalize l[k].1 = x at *
      generalize l[k].2 = y at *
      have hzr := HB.out.size
      go_wp2_with (first
        | (at_builtin; refine wpList_append_own _ rfl (.tmp 13) (.tmp 19) 23 rfl w2.heap.size 79 i0 (.agg #[.int .i64 0, .int .i64 0]) 2 16 Try.underlying23 hi0 hz0 hz1 hz2 rfl (by decide) u3 k (spC (l.take k)) rfl ((HO.out.alloc _).alloc _) ⟨wr.heap.size + 1, 0, none⟩ 1 1 [.int .i64 x, .int .i64 y] rfl rfl ?c1 ?c2 ?c3 ?c4 ?c5 ?_)
        | fail)
      case c1 =>
        intro j u hj
        rw [Addr.add_lit, Nat.zero_add]
        have hn := heap_alloc_new (wr.alloc (Obj.cells #[Value.int IntKind.i64 x, Value.int IntKind.i64 y] 51)) (Obj.cells #[Value.int IntKind.i64 x, Value.int IntKind.i64 y] 79)
        rw [World.size_alloc] at hn
        rw [cell_at hn]
        simpa using hj
      case c2 =>
        intro u hu
        simp only [List.mem_cons, List.not_mem_nil, or_false] at hu
        rcases hu with rfl | rfl <;> rfl
      case c3 => unfold maxLen; omega
      case c4 => omega
      case c5 => simp only [World.size_alloc]; omega
      intro v7 wB ho7 hg7 _
      have HO7 := Lib.hid ho7
      have HBB := Lib.hid (((HB.out.alloc hzr _).alloc (by simp only [World.size_alloc]; omega) _).grown hg7 (by simp only [World.size_alloc]; omega) (fun q hq => (HO.out.lt q hq).1))
      clear ho7 hg7
      go_wp2_with fail
      go_roundw
      case rel => exact ⟨k + 1, hlt, by go_num, by rw [HT.out]; exact HO7.out, HBB.out⟩
      case measure => simp [intOf]; omega
    · have dk : decide (k < l.length) = false := decide_eq_false hlt
      obtain rfl : k = l.length := by omega
      rw [List.take_length] at HO
      have hB : Hid (Below w.heap.size w wr) := HB2.out.trans (HB.out.mono hzz)
      clear HO2 HB2 HB
      go_wp2_with fail
      go_ret
      exact ⟨_, rfl, own_mono HO.out hzz, hB.out⟩

end Go.Proofs.Ytelnehjmkjpjhaa
