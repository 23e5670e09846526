/-
  The contract of the statement's own Few (layer 4), at this seat's numbers.
-/
import Derived.Test.YtelnehjmkjpjhaaPieD
namespace Go.Proofs.Ytelnehjmkjpjhaa
open Go Go.RowKit
set_option linter.unusedVariables false

/-- The spans that are few. -/
def fewK (l : List (Int × Int)) (k : Nat) : List (Int × Int) := ((l.take k).take 40).filter fun s => decide (0 ≤ s.1 ∧ s.1 < 1048576 ∧ s.2 ≤ 60)
theorem fewK_step {l : List (Int × Int)} {k : Nat} (h : k < l.length) : fewK l (k + 1) = if k < 40 ∧ 0 ≤ l[k].1 ∧ l[k].1 < 1048576 ∧ l[k].2 ≤ 60 then fewK l k ++ [(l[k].1, l[k].2)] else fewK l k := by
  unfold fewK
  by_cases hk : k < 40
  · rw [List.take_of_length_le (l := l.take (k + 1)) (by simp; omega), List.take_of_length_le (l := l.take k) (by simp; omega), List.take_succ_eq_append_getElem h, List.filter_append]
    by_cases hp : 0 ≤ l[k].1 ∧ l[k].1 < 1048576 ∧ l[k].2 ≤ 60
    · rw [if_pos ⟨hk, hp⟩]; simp [hp]
    · rw [if_neg (fun hh => hp hh.2)]
      rw [List.filter_cons_of_neg (by simpa using hp)]; simp
  · rw [if_neg (fun hh => hk hh.1), List.take_take, List.take_take]
    congr 2; omega

set_option maxRecDepth 100000 in
set_option maxHeartbeats 4000000 in
theorem few_of {w : World} {a : Option Addr} {c : Nat} {l : List (Int × Int)} (hr : Rd w 2 a l.length (spC l)) (hl : (l.length : Int) ≤ 9223372036854775807) :
    Calls Try.prog 16 #[.slice a l.length c] w fun e w' => ∃ v1 v2, e = .returned (.tuple #[v1, v2]) ∧ w'.ownsRow w.heap.size 51 2 v1 (fewK l l.length).length (spC (fewK l l.length)) ∧ w'.ownsRow w.heap.size 79 2 v2 (fewK l l.length).length (spC (fewK l l.length)) ∧ Below w.heap.size w w' := by
  obtain ⟨i0, hi0, hz0, hz1, hz2⟩ := info_parts info_span
  obtain ⟨j0, gi0, gz0, gz1, gz2⟩ := info_parts info_rspan
  have HR := Lib.hid hr
  have HL := Lib.hid hl
  clear hr hl
  go_enter Try.func16, Try.ntmps16
  go_wp2_with fail
  go_loopw [4, 5, 10] (fun v4 v5 i wr => ∃ k : Nat, k ≤ l.length ∧ i = .int .i64 k ∧ wr.ownsRow w.heap.size 51 2 v4 (fewK l k).length (spC (fewK l k)) ∧ wr.ownsRow w.heap.size 79 2 v5 (fewK l k).length (spC (fewK l k)) ∧ Below w.heap.size w wr ∧ (fewK l k).length ≤ 40) (fun _ _ i _ => l.length - (intOf i).toNat)
  case atStart => exact ⟨0, by omega, rfl, own_nil _ _ _ _, own_nil _ _ _ _, Below.refl _ _, by simp [fewK]⟩
  case round =>
    obtain ⟨k, hk, rfl, ho4, ho5, hb, hf⟩ := hrel
    have HB := Lib.hid hb
    have HO4 := Lib.hid ho4
    have HO5 := Lib.hid ho5
    have hzr := hb.size
    clear hb ho4 ho5
    by_cases hlt : k < l.length
    · have dk : decide (k < l.length) = true := decide_eq_true hlt
      have hln := HL.out
      obtain ⟨b, off, rfl, hbl, hcl⟩ := HR.out.2 (by omega)
      have hsp := spC_at l k l[k] (List.getElem?_eq_getElem hlt)
      have f1 : wr.cell? ⟨b, off + k * 2, none⟩ = some (.int .i64 l[k].1) := (HB.out.cell (p := ⟨b, off + k * 2, none⟩) hbl).trans (hcl _ _ hsp.1)
      have f2 : wr.cell? ⟨b, off + k * 2 + 1, none⟩ = some (.int .i64 l[k].2) := (HB.out.cell (p := ⟨b, off + k * 2 + 1, none⟩) hbl).trans (hcl _ _ hsp.2)
      have hst := Lib.hid (fewK_step hlt)
      have hfl : (fewK l (k + 1)).length ≤ 40 := by unfold fewK; exact Nat.le_trans (List.length_filter_le _ _) (by simp; omega)
      clear hbl hcl hsp HR
      generalize l[k].1 = x at *
      generalize l[k].2 = y at *
      by_cases h1 : k < 40
      · have d1 : decide ((k : Int) < 40) = true := decide_eq_true (by omega)
        by_cases h2 : 0 ≤ x
        · have d2 : decide (0 ≤ x) = true := decide_eq_true h2
          by_cases h3 : x < 1048576
          · have d3 : decide (x < 1048576) = true := decide_eq_true h3
            by_cases h4 : y ≤ 60
            · have d4 : decide (y ≤ 60) = true := decide_eq_true h4
              have S1 := SpB.new wr x y
              have hzA : (wr.alloc (Obj.cells #[Value.int IntKind.i64 x, Value.int IntKind.i64 y] 51)).heap.size = wr.heap.size + 1 := by simp
              have hyes := Lib.hid (hst.out.trans (if_pos ⟨h1, h2, h3, h4⟩))
              clear hst
              go_wp2_with (first
                | (at_builtin; refine wpList_append_own _ rfl (.tmp 32) (.tmp 34) 22 rfl w.heap.size 51 i0 (.agg #[.int .i64 0, .int .i64 0]) 2 16 Try.underlying22 hi0 hz0 hz1 hz2 rfl (by decide) u4 (fewK l k).length (spC (fewK l k)) rfl ((HO4.out.alloc _).alloc _) ⟨wr.heap.size + 1, 0, none⟩ 1 1 [.int .i64 x, .int .i64 y] rfl rfl ?c1 ?c2 ?c3 ?c4 ?c5 ?_)
                | fail)
              case c1 =>
                intro j u hj
                rw [Addr.add_lit, Nat.zero_add]
                have hn := heap_alloc_new (wr.alloc (Obj.cells #[Value.int IntKind.i64 x, Value.int IntKind.i64 y] 51)) (Obj.cells #[Value.int IntKind.i64 x, Value.int IntKind.i64 y] 51)
                rw [World.size_alloc] at hn
                rw [cell_at hn]
                simpa using hj
              case c2 =>
                intro u hu
                simp only [List.mem_cons, List.not_mem_nil, or_false] at hu
                rcases hu with rfl | rfl <;> rfl
              case c3 => unfold maxLen; omega
              case c4 => omega
              case c5 => simp only [World.size_alloc]; omega
              intro v7 wB ho7 hg7 _
              have HO5B := Lib.hid (own_grown ((HO5.out.alloc (Obj.cells #[Value.int IntKind.i64 x, Value.int IntKind.i64 y] 51)).alloc (Obj.cells #[Value.int IntKind.i64 x, Value.int IntKind.i64 y] 51)) ((HO4.out.alloc (Obj.cells #[Value.int IntKind.i64 x, Value.int IntKind.i64 y] 51)).alloc (Obj.cells #[Value.int IntKind.i64 x, Value.int IntKind.i64 y] 51)) (by decide) hg7)
              have S2 : SpB wB wr.heap.size x y := ⟨(hg7.block _ (by simp only [World.size_alloc]; omega) (fun e => by have := (HO4.out.lt _ e.symm).2; omega)).trans (S1.below (below_al _ _)).blk⟩
              have HBB := Lib.hid (((HB.out.alloc hzr (Obj.cells #[Value.int IntKind.i64 x, Value.int IntKind.i64 y] 51)).alloc (by simp only [World.size_alloc]; omega) (Obj.cells #[Value.int IntKind.i64 x, Value.int IntKind.i64 y] 51)).grown hg7 (by simp only [World.size_alloc]; omega) (fun q hq => (HO4.out.lt q hq).1))
              have hzB := hg7.size
              simp only [World.size_alloc] at hzB
              have HO7 := Lib.hid ho7
              have c0 := S2.c0
              have c1 := S2.c1
              clear ho7 hg7 S1 S2 HO4 HO5 HB hzA
              go_wp2_with (first
                | (at_builtin; refine wpList_append_own _ rfl (.tmp 36) (.tmp 42) 23 rfl w.heap.size 79 j0 (.agg #[.int .i64 0, .int .i64 0]) 2 16 Try.underlying23 gi0 gz0 gz1 gz2 rfl (by decide) u5 (fewK l k).length (spC (fewK l k)) rfl (HO5B.out.alloc _) ⟨wB.heap.size, 0, none⟩ 1 1 [.int .i64 x, .int .i64 y] rfl rfl ?c1 ?c2 ?c3 ?c4 ?c5 ?_)
                | fail)
              case c1 =>
                intro j u hj
                rw [Addr.add_lit, Nat.zero_add]
                rw [cell_at (heap_alloc_new _ _)]
                simpa using hj
              case c2 =>
                intro u hu
                simp only [List.mem_cons, List.not_mem_nil, or_false] at hu
                rcases hu with rfl | rfl <;> rfl
              case c3 => unfold maxLen; omega
              case c4 => omega
              case c5 => simp only [World.size_alloc]; omega
              intro v8 wX ho8 hg8 _
              have HO7X := Lib.hid (own_grown (HO7.out.alloc (Obj.cells #[Value.int IntKind.i64 x, Value.int IntKind.i64 y] 79)) (HO5B.out.alloc (Obj.cells #[Value.int IntKind.i64 x, Value.int IntKind.i64 y] 79)) (by decide) hg8)
              have HO8X := Lib.hid ho8
              have HBX := Lib.hid ((HBB.out.alloc (by omega) (Obj.cells #[Value.int IntKind.i64 x, Value.int IntKind.i64 y] 79)).grown hg8 (by simp only [World.size_alloc]; omega) (fun q hq => ((HO5B.out.alloc (Obj.cells #[Value.int IntKind.i64 x, Value.int IntKind.i64 y] 79)).lt q hq).1))
              clear ho8 hg8 HO5B HBB HO7 c0 c1
              go_wp2_with fail
              go_roundw
              case rel => exact ⟨k + 1, hlt, by go_num, by rw [hyes.out, spC_snoc, List.length_append]; exact HO7X.out, by rw [hyes.out, spC_snoc, List.length_append]; exact HO8X.out, HBX.out, hfl⟩
              case measure => simp [intOf]; omega
            · have d4 : decide (y ≤ 60) = false := decide_eq_false h4
              go_wp2_with fail
              go_roundw
              case rel => exact ⟨k + 1, hlt, by go_num, by rw [hst.out, if_neg (by omega)]; exact HO4.out.alloc _, by rw [hst.out, if_neg (by omega)]; exact HO5.out.alloc _, HB.out.alloc hzr _, by rw [hst.out, if_neg (by omega)]; omega⟩
              case measure => simp [intOf]; omega
          · have d3 : decide (x < 1048576) = false := decide_eq_false h3
            go_wp2_with fail
            go_roundw
            case rel => exact ⟨k + 1, hlt, by go_num, by rw [hst.out, if_neg (by omega)]; exact HO4.out.alloc _, by rw [hst.out, if_neg (by omega)]; exact HO5.out.alloc _, HB.out.alloc hzr _, by rw [hst.out, if_neg (by omega)]; omega⟩
            case measure => simp [intOf]; omega
        · have d2 : decide (0 ≤ x) = false := decide_eq_false h2
          go_wp2_with fail
          go_roundw
          case rel => exact ⟨k + 1, hlt, by go_num, by rw [hst.out, if_neg (by omega)]; exact HO4.out.alloc _, by rw [hst.out, if_neg (by omega)]; exact HO5.out.alloc _, HB.out.alloc hzr _, by rw [hst.out, if_neg (by omega)]; omega⟩
          case measure => simp [intOf]; omega
      · have d1 : decide ((k : Int) < 40) = false := decide_eq_false (by omega)
        go_wp2_with fail
        go_roundw
        case rel => exact ⟨k + 1, hlt, by go_num, by rw [hst.out, if_neg (by omega)]; exact HO4.out.alloc _, by rw [hst.out, if_neg (by omega)]; exact HO5.out.alloc _, HB.out.alloc hzr _, by rw [hst.out, if_neg (by omega)]; omega⟩
        case measure => simp [intOf]; omega
    · have dk : decide (k < l.length) = false := decide_eq_false hlt
      obtain rfl : k = l.length := by omega
      clear HR
      go_wp2_with fail
      refine bodyPost_ret (v := .tuple #[u4, u5]) (by simp [results, Try.results16, go_sem]) rfl ⟨_, _, rfl, HO4.out, HO5.out, HB.out⟩

end Go.Proofs.Ytelnehjmkjpjhaa
