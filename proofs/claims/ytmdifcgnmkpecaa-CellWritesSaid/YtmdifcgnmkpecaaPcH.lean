/-
  The contracts of the closure in piece's Slice, and of each with it; at this seat's numbers.
-/
import Derived.Test.YtmdifcgnmkpecaaPcG
namespace Go.Proofs.Ytmdifcgnmkpecaa
open Go Go.RowKit
set_option linter.unusedVariables false

set_option maxRecDepth 100000 in
set_option maxHeartbeats 4000000 in
theorem sl1_of {w : World} {x y f I J : Int} {a : Option Addr} {c n gp gi gj : Nat} {xs : List Value}
    (hp : w.heap[gp]? = some (.cells #[.slice a n c] 40 (0, 0))) (ho : w.ownsRow (gp + 1) 39 2 (.slice a n c) n xs)
    (hi : w.cell? ⟨gi, 0, none⟩ = some (.int .i64 I)) (hj : w.cell? ⟨gj, 0, none⟩ = some (.int .i64 J)) (hgi : gi < gp) (hgj : gj < gp)
    (hx : In40 x) (hy : In40 y) (hf : 0 ≤ f ∧ f ≤ 20000) (hI : 0 ≤ I ∧ I ≤ 20000) (hJ : 0 ≤ J ∧ J ≤ 20000) (hn : n ≤ 20000) (hy0 : 0 ≤ y) :
    Calls Try.prog 62 #[.agg #[.int .i64 x, .int .i64 y], .int .i64 f, .pointer (some ⟨gp, 0, none⟩), .pointer (some ⟨gi, 0, none⟩), .pointer (some ⟨gj, 0, none⟩)] w fun e w' =>
      e = .returned (.tuple #[]) ∧ Below gp w w' ∧ w.heap.size ≤ w'.heap.size ∧ (∀ k, k < w.heap.size → k ≠ gp → (Value.slice a n c).ownBlock ≠ some k → w'.heap[k]? = w.heap[k]?) ∧ Fin84 gp n (subS (x, y) (I - f) (J - f)).1 (subS (x, y) (I - f) (J - f)).2 xs w' := by
  obtain ⟨i0, hi0, hz0, hz1, hz2⟩ := info_parts info_span
  have hgw : gp < w.heap.size := lt_of_heap hp
  have hsub : subR x y (I - f) (J - f) = subS (x, y) (I - f) (J - f) := by unfold subR subS; rw [if_neg (by omega)]
  have al := below_al w (Obj.cells #[Value.int IntKind.i64 x, Value.int IntKind.i64 y] 39)
  have hsz : (w.alloc (Obj.cells #[Value.int IntKind.i64 x, Value.int IntKind.i64 y] 39)).heap.size = w.heap.size + 1 := by simp
  have HI := Lib.hid (show Inv84 gp w.heap.size n c (w.heap.size + 1) a x y (subS (x, y) (I - f) (J - f)).1 (subS (x, y) (I - f) (J - f)).2 xs (w.alloc (Obj.cells #[Value.int IntKind.i64 x, Value.int IntKind.i64 y] 39)) (Array.replicate ops84.size false) (w.alloc (Obj.cells #[Value.int IntKind.i64 x, Value.int IntKind.i64 y] 39)).drew from
    ⟨(Below.refl _ _).drew, by show _ ≤ (w.alloc (Obj.cells #[Value.int IntKind.i64 x, Value.int IntKind.i64 y] 39)).heap.size; omega, heap_alloc_new w _, fun _ => (al.block gp hgw).trans hp, fun _ => own_below ho (al.drew), fun e => (by rw [mark_none] at e; cases e), fun e => (by rw [mark_none] at e; cases e), fun _ _ _ _ => rfl⟩)
  have HB := Lib.hid (al.mono (Nat.le_of_lt hgw))
  have HA := Lib.hid al
  have ki := Lib.hid ((al.cell (p := ⟨gi, 0, none⟩) (by show gi < _; omega)).trans hi)
  have kj := Lib.hid ((al.cell (p := ⟨gj, 0, none⟩) (by show gj < _; omega)).trans hj)
  have HK := Lib.hid (fun k hk => (ho.lt k hk).2)
  have HJ := Lib.hid (fun (w' : World) => sub_of x y (I - f) (J - f) w' hx hy (by omega) (by omega))
  unfold ret2 at HJ
  rw [hsub] at HJ
  clear hp ho hi hj al hsub
  go_enter Try.func62, Try.ntmps62
  go_upto_region 1 with fail
  generalize w.alloc (Obj.cells #[Value.int IntKind.i64 x, Value.int IntKind.i64 y] 39) = w1 at *
  refine (congrArg (fun c => Code.wp Try.prog c _ _ _) (?_ : _ = Code.region 1 ops84 true)).mpr ?_
  · kernel_rfl
  refine reg84 gp gi gj w.heap.size n c (w.heap.size + 1) a x y f I J (subS (x, y) (I - f) (J - f)).1 (subS (x, y) (I - f) (J - f)).2 xs rfl rfl rfl rfl rfl rfl HI.out ki.out kj.out hgi hgj hgw (by omega) HK.out hn (by rw [IntKind.wrap_i64]; omega) (by rw [IntKind.wrap_i64]; omega) i0 hi0 hz0 hz1 hz2 HJ.out ?_
  rintro a' w' hd hs hfr _ ⟨hb, hz, hkp, hfin⟩
  have ha := frame_of hd hs hfr [7, 8, 9, 10, 11, 12, 13, 14, 15, 16, 17] (by kernel_rfl)
  simp only [List.foldl_cons, List.foldl_nil] at ha
  clear hd hs hfr
  rw [ha]
  go_end0
  exact ⟨rfl, HB.out.trans hb, by omega, fun k h1 h2 h3 => (hkp k (by omega) h2 h3).trans (HA.out.block k h1), hfin⟩

set_option maxRecDepth 100000 in
set_option maxHeartbeats 4000000 in
/-- each, with Slice's closure: the parts of all spans, from the variable's first state on. -/
theorem each_of {W w : World} {a : Option Addr} {c gi gj : Nat} {t : List Int} {I J : Int} (hr : Rd W 2 a (canon t).length (spC (canon t))) (hs : Sm t)
    (hW : Below W.heap.size W w) (hz : W.heap.size + 1 ≤ w.heap.size) (hp : w.heap[W.heap.size]? = some (.cells #[.slice none 0 0] 40 (0, 0)))
    (hi : W.cell? ⟨gi, 0, none⟩ = some (.int .i64 I)) (hj : W.cell? ⟨gj, 0, none⟩ = some (.int .i64 J)) (hI : 0 ≤ I ∧ I ≤ 20000) (hJ : 0 ≤ J ∧ J ≤ 20000) :
    Calls Try.prog 61 #[.agg #[.slice a (canon t).length c], .func (.func 62) #[] #[.pointer (some ⟨W.heap.size, 0, none⟩), .pointer (some ⟨gi, 0, none⟩), .pointer (some ⟨gj, 0, none⟩)]] w fun e w' =>
      e = .returned (.tuple #[]) ∧ Below W.heap.size W w' ∧ W.heap.size + 1 ≤ w'.heap.size ∧ ∃ a' c', w'.heap[W.heap.size]? = some (.cells #[.slice a' (canon t).length c'] 40 (0, 0)) ∧
        w'.ownsRow (W.heap.size + 1) 39 2 (.slice a' (canon t).length c') (canon t).length (spC (parts (canon t) 0 I J)) := by
  have al := below_al w (Obj.cells #[Value.slice a (canon t).length c] 48)
  have HW := Lib.hid (hW.trans (al.mono (by omega)))
  have HP := Lib.hid ((al.block _ (by omega)).trans hp)
  have hz1 : (w.alloc (Obj.cells #[Value.slice a (canon t).length c] 48)).heap.size = w.heap.size + 1 := by simp
  have HR := Lib.hid hr
  have HS := Lib.hid hs
  have HC := Lib.hid (canon_at_bounds hs)
  have HL := Lib.hid (fun k => lenS_take_ok (canon_full t) (by rw [ex_canon]; exact hs.1) k)
  have hcl : (canon t).length ≤ 20000 := Nat.le_trans (canon_count t) hs.1
  have HI := Lib.hid hi
  have HJ := Lib.hid hj
  have hgi : gi < W.heap.size := World.block_lt_of_cell? _ _ hi
  have hgj : gj < W.heap.size := World.block_lt_of_cell? _ _ hj
  have c0 : (w.alloc (Obj.cells #[Value.slice a (canon t).length c] 48)).cell? ⟨w.heap.size, 0, none⟩ = some (.slice a (canon t).length c) := by rw [cell_at (heap_alloc_new w _)]; rfl
  clear hr hs hW hp hi hj al
  go_enter Try.func61, Try.ntmps61
  go_wp2_with fail
  clear c0
  generalize w.alloc (Obj.cells #[Value.slice a (canon t).length c] 48) = w1 at *
  go_loopw [4, 10] (fun v4 i wr => ∃ k : Nat, k ≤ (canon t).length ∧ i = .int .i64 k ∧ v4 = .int .i64 (lenS ((canon t).take k)) ∧ Below W.heap.size W wr ∧ W.heap.size + 1 ≤ wr.heap.size ∧ ∃ a' c', wr.heap[W.heap.size]? = some (.cells #[.slice a' k c'] 40 (0, 0)) ∧
      wr.ownsRow (W.heap.size + 1) 39 2 (.slice a' k c') k (spC ((parts (canon t) 0 I J).take k))) (fun _ i _ => (canon t).length - (intOf i).toNat)
  case atStart => exact ⟨0, by omega, rfl, by simp [lenS_nil], HW.out, by omega, none, 0, HP.out, own_nil _ _ _ _⟩
  case round =>
    obtain ⟨k, hk, rfl, rfl, hb, hzr, a', c', hp', ho'⟩ := hrel
    have HB := Lib.hid hb
    have HPR := Lib.hid hp'
    have HO := Lib.hid ho'
    clear hb hp' ho'
    by_cases hlt : k < (canon t).length
    · have dk : decide (k < (canon t).length) = true := decide_eq_true hlt
      obtain ⟨b, off, rfl, hbl, hcl2⟩ := HR.out.2 (by omega)
      have hsp := spC_at (canon t) k (canon t)[k] (List.getElem?_eq_getElem hlt)
      have f1 : wr.cell? ⟨b, off + k * 2, none⟩ = some (.int .i64 (canon t)[k].1) := (HB.out.cell (p := ⟨b, off + k * 2, none⟩) hbl).trans (hcl2 _ _ hsp.1)
      have f2 : wr.cell? ⟨b, off + k * 2 + 1, none⟩ = some (.int .i64 (canon t)[k].2) := (HB.out.cell (p := ⟨b, off + k * 2 + 1, none⟩) hbl).trans (hcl2 _ _ hsp.2)
      have hbd := HC.out (canon t)[k] (List.getElem_mem hlt)
      have hlk := HL.out k
      have hlk1 := HL.out (k + 1)
      have HT := Lib.hid (lenS_take hlt)
      have hal := below_al wr (Obj.cells #[Value.int IntKind.i64 (canon t)[k].1, Value.int IntKind.i64 (canon t)[k].2] 39)
      have hza : (wr.alloc (Obj.cells #[Value.int IntKind.i64 (canon t)[k].1, Value.int IntKind.i64 (canon t)[k].2] 39)).heap.size = wr.heap.size + 1 := by simp
      have hnew := heap_alloc_new wr (Obj.cells #[Value.int IntKind.i64 (canon t)[k].1, Value.int IntKind.i64 (canon t)[k].2] 39)
      have hCl := Lib.hid (sl1_of (x := (canon t)[k].1) (y := (canon t)[k].2) (f := lenS ((canon t).take k)) (I := I) (J := J) ((hal.block _ (by omega)).trans HPR.out) (own_below HO.out hal)
        ((hal.cell (p := ⟨gi, 0, none⟩) (by show gi < _; omega)).trans ((HB.out.cell (p := ⟨gi, 0, none⟩) hgi).trans HI.out)) ((hal.cell (p := ⟨gj, 0, none⟩) (by show gj < _; omega)).trans ((HB.out.cell (p := ⟨gj, 0, none⟩) hgj).trans HJ.out)) hgi hgj
        (by unfold In40; omega) (by unfold In40; omega) hlk hI hJ (by omega) (by omega))
      rw [show ((canon t)[k].1, (canon t)[k].2) = (canon t)[k] from rfl] at hCl
      have HPT := Lib.hid (parts_take_succ (i := I) (j := J) hlt)
      have HBa := Lib.hid (HB.out.trans (hal.mono (by omega)))
      clear hbl hcl2 hsp HR HC HL hal
      rw [HT.out] at hlk1
      generalize subS (canon t)[k] (I - lenS ((canon t).take k)) (J - lenS ((canon t).take k)) = q at *
      generalize (canon t)[k].1 = x at *
      generalize (canon t)[k].2 = y at *
      generalize lenS ((canon t).take k) = sk at *
      go_wp2_with (go_at_call 62; refine hCl.out.mono ?_; rintro e w2 ⟨rfl, hb2, hz2, hk2, a2, c2, hp2, ho2⟩; have k6 := (hk2 wr.heap.size (by omega) (by omega) (fun e => by have := (HO.out.lt _ e).2; omega)).trans hnew; have l6 : w2.cell? ⟨wr.heap.size, 1, none⟩ = some (.int .i64 y) := (by rw [cell_at k6]; rfl); have HB2 := Lib.hid (HBa.out.trans hb2); have HP2 := Lib.hid hp2; have HO2 := Lib.hid ho2; clear hb2 hk2 hp2 ho2 k6)
      go_roundw
      case rel => exact ⟨k + 1, hlt, by go_num, by rw [HT.out] <;> rfl, HB2.out, by omega, a2, c2, HP2.out, by rw [HPT.out, spC_snoc]; exact HO2.out⟩
      case measure => simp [intOf]; omega
    · have dk : decide (k < (canon t).length) = false := decide_eq_false hlt
      obtain rfl : k = (canon t).length := by omega
      have hpl : (parts (canon t) 0 I J).take (canon t).length = parts (canon t) 0 I J := by rw [List.take_of_length_le (by rw [parts_len]; omega)]
      rw [hpl] at HO
      clear HR HC HL
      go_wp2_with fail
      go_end0
      exact ⟨rfl, HB.out, hzr, a', c', HPR.out, HO.out⟩

end Go.Proofs.Ytmdifcgnmkpecaa
