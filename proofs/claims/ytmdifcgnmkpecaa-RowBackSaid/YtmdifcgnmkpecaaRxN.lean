/-
  Texts of layer 8, put together (a claim holds few texts): RwX, RwY, RwZ, RxA.
-/
import Derived.Test.YtmdifcgnmkpecaaRwM
import Derived.Test.YtmdifcgnmkpecaaScT
import Derived.Test.YtmdifcgnmkpecaaRxL
import Derived.Test.YtmdifcgnmkpecaaRxM
namespace Go.Proofs.Ytmdifcgnmkpecaa
open Go Go.RowKit
set_option linter.unusedVariables false

theorem one_empty (w : World) (a : Option Addr) (c : Nat) :
    Calls Try.prog 20 #[.slice a 0 c, .int .i64 0] w fun e w' => e = .returned (.tuple #[.agg #[.slice none 0 0, .int .i64 0], .int .i64 0]) ∧ Below w.heap.size w w' := by
  have al := below_al w (Obj.cells #[Value.slice none 0 0, Value.int IntKind.i64 0] 34)
  have hfn := heap_alloc_new w (Obj.cells #[Value.slice none 0 0, Value.int IntKind.i64 0] 34)
  go_enter Try.func20, Try.ntmps20
  go_upto_region 1 with fail
  generalize w.alloc (Obj.cells #[Value.slice none 0 0, Value.int IntKind.i64 0] 34) = w1 at *
  have zz := fun i => unfrozen hfn i
  have r0 : w1.cell? ⟨w.heap.size, 0, none⟩ = some (.slice none 0 0) := by rw [cell_at hfn]; rfl
  have r1 : w1.cell? ⟨w.heap.size, 1, none⟩ = some (.int .i64 0) := by rw [cell_at hfn]; rfl
  have HB := Lib.hid al
  have HF := Lib.hid hfn
  clear al hfn
  go_wp2_with fail
  have hB := (HB.out.setCell (p := ⟨w.heap.size, 0, none⟩) (Nat.le_refl _) (.slice none 0 0)).setCell (p := ⟨w.heap.size, 1, none⟩) (Nat.le_refl _) (.int .i64 0)
  have h1 := heap_set_at (o := 1) (u := .int .i64 0) (heap_set_at (o := 0) (u := .slice none 0 0) HF.out)
  have q0 : ((w1.setCell ⟨w.heap.size, 0, none⟩ (.slice none 0 0)).setCell ⟨w.heap.size, 1, none⟩ (.int .i64 0)).cell? ⟨w.heap.size, 0, none⟩ = some (.slice none 0 0) := by rw [cell_at h1]; rfl
  have q1 : ((w1.setCell ⟨w.heap.size, 0, none⟩ (.slice none 0 0)).setCell ⟨w.heap.size, 1, none⟩ (.int .i64 0)).cell? ⟨w.heap.size, 1, none⟩ = some (.int .i64 0) := by rw [cell_at h1]; rfl
  exact bodyPost_ret (v := .tuple #[.agg #[.slice none 0 0, .int .i64 0], .int .i64 0]) (by simp [results, Try.results20, go_sem, q0, q1]) rfl ⟨rfl, hB⟩

theorem rone_empty {s : ByteArray} (hs : s.size = 0) (w : World) :
    Calls Try.prog 35 #[.string s, .int .i64 0] w fun e w' => e = .returned (.tuple #[.agg #[.slice none 0 0, .int .i64 0], .int .i64 0]) ∧ Below w.heap.size w w' := by
  obtain ⟨b4, b6, hz, hb⟩ := two_fields w (Obj.cells #[Value.slice none 0 0, Value.int IntKind.i64 0] 37) (Obj.cells #[Value.slice none 0 0, Value.int IntKind.i64 0] 37)
  go_enter Try.func35, Try.ntmps35
  go_upto_region 2 with fail
  generalize (w.alloc (Obj.cells #[Value.slice none 0 0, Value.int IntKind.i64 0] 37)).alloc (Obj.cells #[Value.slice none 0 0, Value.int IntKind.i64 0] 37) = w1 at *
  have zz := fun i => unfrozen b4 i
  have r0 : w1.cell? ⟨w.heap.size, 0, none⟩ = some (.slice none 0 0) := by rw [cell_at b4]; rfl
  have r1 : w1.cell? ⟨w.heap.size, 1, none⟩ = some (.int .i64 0) := by rw [cell_at b4]; rfl
  have x0 : w1.cell? ⟨w.heap.size + 1, 0, none⟩ = some (.slice none 0 0) := by rw [cell_at b6]; rfl
  have x1 : w1.cell? ⟨w.heap.size + 1, 1, none⟩ = some (.int .i64 0) := by rw [cell_at b6]; rfl
  have HB := Lib.hid hb
  have HF := Lib.hid b4
  clear hb b4 b6
  go_wp2_with fail
  have hB := (HB.out.setCell (p := ⟨w.heap.size, 0, none⟩) (Nat.le_refl _) (.slice none 0 0)).setCell (p := ⟨w.heap.size, 1, none⟩) (Nat.le_refl _) (.int .i64 0)
  have h1 := heap_set_at (o := 1) (u := .int .i64 0) (heap_set_at (o := 0) (u := .slice none 0 0) HF.out)
  have q0 : ((w1.setCell ⟨w.heap.size, 0, none⟩ (.slice none 0 0)).setCell ⟨w.heap.size, 1, none⟩ (.int .i64 0)).cell? ⟨w.heap.size, 0, none⟩ = some (.slice none 0 0) := by rw [cell_at h1]; rfl
  have q1 : ((w1.setCell ⟨w.heap.size, 0, none⟩ (.slice none 0 0)).setCell ⟨w.heap.size, 1, none⟩ (.int .i64 0)).cell? ⟨w.heap.size, 1, none⟩ = some (.int .i64 0) := by rw [cell_at h1]; rfl
  exact bodyPost_ret (v := .tuple #[.agg #[.slice none 0 0, .int .i64 0], .int .i64 0]) (by simp [results, Try.results35, go_sem, q0, q1]) rfl ⟨rfl, hB⟩

def zeroR : RCM := (⟨#[]⟩, ⟨#[]⟩, false)
/-- Cells with empty ones behind. -/
def padRL (L : List RCM) (n : Int) : List RCM := L ++ List.replicate ((min n 40).toNat - L.length) zeroR
theorem padRL_len (L : List RCM) (n : Int) : (padRL L n).length = max L.length (min n 40).toNat := by
  unfold padRL; rw [List.length_append, List.length_replicate]; omega
theorem padRL_at {L : List RCM} {n : Int} {k : Nat} (h : k < (padRL L n).length) : (padRL L n)[k] = if hk : k < L.length then L[k] else zeroR := by
  unfold padRL at h ⊢
  split
  · rename_i hk; rw [List.getElem_append_left hk]
  · rename_i hk; rw [List.getElem_append_right (by omega), List.getElem_replicate]

/-- What holds at the head of its loop. -/
def RpJ (L : List RCM) (n : Int) (e : Int) (h : Bool) (w w1 : World) (v6 : Value) (wr : World) : Prop := ∃ (k : Nat) (ak : Option Addr) (ck : Nat), v6 = .int .i64 k ∧ k ≤ (padRL L n).length ∧
  wr.heap[w.heap.size + 2]? = some (.cells #[.slice ak k ck, .int .i64 e, .bool h] 86 (0, 0)) ∧ wr.ownsRow (w.heap.size + 3) 53 3 (.slice ak k ck) k (rcC ((padRL L n).take k)) ∧ Below (w.heap.size + 2) w1 wr

set_option maxRecDepth 100000 in
set_option maxHeartbeats 4000000 in
theorem rrpad_of {w : World} {a : Option Addr} {c : Nat} {e : Int} {h : Bool} {L : List RCM} (n : Int) (hr : Rd w 3 a L.length (rcC L)) (hl : L.length ≤ 1000) :
    Calls Try.prog 77 #[.agg #[.slice a L.length c, .int .i64 e, .bool h], .int .i64 n] w fun e' w' => ∃ a' c', e' = .returned (.agg #[.slice a' (padRL L n).length c', .int .i64 e, .bool h]) ∧ w'.ownsRow w.heap.size 53 3 (.slice a' (padRL L n).length c') (padRL L n).length (rcC (padRL L n)) ∧ Below w.heap.size w w' := by
  obtain ⟨i0, hi0, hz0, hz1, hz2⟩ := info_parts info_rc
  obtain ⟨m, hm⟩ : ∃ m, L.length = m := ⟨_, rfl⟩
  obtain ⟨N, hN⟩ : ∃ N, (padRL L n).length = N := ⟨_, rfl⟩
  have hNm : N = max m (min n 40).toNat := by rw [← hN, padRL_len, hm]
  obtain ⟨w1, hw1⟩ : ∃ w1, w1 = allocs w [Obj.cells #[Value.slice a m c, Value.int .i64 e, Value.bool h] 86, Obj.cells #[Value.slice none 0 0, Value.int .i64 0, Value.bool false] 86, Obj.cells #[Value.slice none 0 0, Value.int .i64 e, Value.bool h] 86] := ⟨_, rfl⟩
  have HB1 : Hid (Below w.heap.size w w1) := by rw [hw1]; exact Lib.hid (allocs_below _ w)
  have hzw : w1.heap.size > w.heap.size + 2 := by rw [hw1, allocs_size]; simp
  have H0 : Hid (w1.heap[w.heap.size]? = some (.cells #[Value.slice a m c, Value.int .i64 e, Value.bool h] 86 (0, 0))) := by rw [hw1]; exact Lib.hid (allocs_at _ w 0 _ rfl)
  have HH1 : Hid (w1.heap[w.heap.size + 1]? = some (.cells #[Value.slice none 0 0, Value.int .i64 0, Value.bool false] 86 (0, 0))) := by rw [hw1]; exact Lib.hid (allocs_at _ w 1 _ rfl)
  have HH2 : Hid (w1.heap[w.heap.size + 2]? = some (.cells #[Value.slice none 0 0, Value.int .i64 e, Value.bool h] 86 (0, 0))) := by rw [hw1]; exact Lib.hid (allocs_at _ w 2 _ rfl)
  have HRw := Lib.hid hr
  have HM := Lib.hid hm
  have HN := Lib.hid hN
  have h0 := H0.out
  have k1 : w1.cell? ⟨w.heap.size, 1, none⟩ = some (.int .i64 e) := by rw [cell_at h0]; rfl
  have k2 : w1.cell? ⟨w.heap.size, 2, none⟩ = some (.bool h) := by rw [cell_at h0]; rfl
  rw [hm, hN]
  rw [hm] at hl
  have HNm := Lib.hid hNm
  clear h0 hr hm hN hNm
  go_enter Try.func77, Try.ntmps77
  go_upto_region 2 with fail
  rw [show ((w.alloc (Obj.cells #[Value.slice a m c, Value.int .i64 e, Value.bool h] 86)).alloc (Obj.cells #[Value.slice none 0 0, Value.int .i64 0, Value.bool false] 86)).alloc (Obj.cells #[Value.slice none 0 0, Value.int .i64 e, Value.bool h] 86) = w1 from hw1.symm]
  clear hw1
  go_wp2_with fail
  clear k1 k2
  go_loopw [6] (fun v6 wr => RpJ L n e h w w1 v6 wr) (fun v6 _ => N - (intOf v6).toNat)
  case atStart => exact ⟨0, none, 0, rfl, by omega, HH2.out, by simpa [rcC] using own_nil _ _ _ _, Below.refl _ _⟩
  case round =>
    obtain ⟨k, ak, ck, rfl, hk, hh, ho, hb⟩ := hrel
    have HH := Lib.hid hh
    have HO := Lib.hid ho
    have HB := Lib.hid hb
    have hzr := hb.size
    rw [HN.out] at hk
    have h0r := (hb.block w.heap.size (by omega)).trans H0.out
    have k0 : wr.cell? ⟨w.heap.size, 0, none⟩ = some (.slice a m c) := by rw [cell_at h0r]; rfl
    clear hh ho hb h0r
    by_cases hlt : k < N
    · have hkL : k < (padRL L n).length := by rw [HN.out]; exact hlt
      have hg2r : w.heap.size + 2 < wr.heap.size := lt_of_heap HH.out
      have hst : (padRL L n).take (k + 1) = (padRL L n).take k ++ [if hk : k < L.length then L[k] else zeroR] := by
        rw [List.take_succ_eq_append_getElem hkL, padRL_at hkL]
      have al := below_al wr (Obj.cells #[Value.string ⟨#[]⟩, Value.string ⟨#[]⟩, Value.bool false] 53)
      have hfn := heap_alloc_new wr (Obj.cells #[Value.string ⟨#[]⟩, Value.string ⟨#[]⟩, Value.bool false] 53)
      by_cases hkm : k < m
      · have d1 : decide (k < m) = true := decide_eq_true hkm
        have hkLm : k < L.length := by rw [HM.out]; exact hkm
        rw [dif_pos hkLm] at hst
        obtain ⟨g, o, rfl, hg, x0, x1, x2⟩ := rcd_cell HRw.out hkLm
        have HST := Lib.hid hst
        clear hst
        generalize L[k] = X at *
        obtain ⟨f0, f1, f2⟩ := X
        simp only at x0 x1 x2
        have hbw : Below w.heap.size w wr := HB1.out.trans (HB.out.mono (show w.heap.size ≤ w.heap.size + 2 by omega))
        have hgr : g < wr.heap.size := by have := hbw.size; omega
        have hzA : wr.heap.size < (wr.alloc (Obj.cells #[Value.string ⟨#[]⟩, Value.string ⟨#[]⟩, Value.bool false] 53)).heap.size := by simp
        have y0 := (al.cell (p := ⟨g, o + k * 3, none⟩) hgr).trans ((hbw.cell (p := ⟨g, o + k * 3, none⟩) hg).trans x0)
        have y1 := (al.cell (p := ⟨g, o + k * 3 + 1, none⟩) hgr).trans ((hbw.cell (p := ⟨g, o + k * 3 + 1, none⟩) hg).trans x1)
        have y2 := (al.cell (p := ⟨g, o + k * 3 + 2, none⟩) hgr).trans ((hbw.cell (p := ⟨g, o + k * 3 + 2, none⟩) hg).trans x2)
        have hw0 : w.heap.size < wr.heap.size := by omega
        have k0A := (al.cell (p := ⟨w.heap.size, 0, none⟩) hw0).trans k0
        have e0 : (0 : Int) ≤ (k : Int) := by omega
        have e1 : (k : Int) < (m : Int) := by omega
        clear x0 x1 x2
        go_upto_region 6 with fail
        clear k0
        generalize wr.alloc (Obj.cells #[Value.string ⟨#[]⟩, Value.string ⟨#[]⟩, Value.bool false] 53) = wA at *
        have zz := fun i => unfrozen hfn i
        have s0 : wA.cell? ⟨wr.heap.size, 0, none⟩ = some (.string ⟨#[]⟩) := by rw [cell_at hfn]; rfl
        have s1 : wA.cell? ⟨wr.heap.size, 1, none⟩ = some (.string ⟨#[]⟩) := by rw [cell_at hfn]; rfl
        have s2 : wA.cell? ⟨wr.heap.size, 2, none⟩ = some (.bool false) := by rw [cell_at hfn]; rfl
        have hC8 := set3_at hfn (.string f0) (.string f1) (.bool f2)
        have hB8 := set3_below al (Nat.le_refl _) (.string f0) (.string f1) (.bool f2)
        have HC8' := Lib.hid hC8
        have HB8' := Lib.hid hB8
        clear hC8 hB8
        go_upto_region 8 with fail
        obtain ⟨w8, hw8⟩ : ∃ w8, w8 = set3 wA wr.heap.size (.string f0) (.string f1) (.bool f2) := ⟨_, rfl⟩
        rw [show ((wA.setCell ⟨wr.heap.size, 0, none⟩ (.string f0)).setCell ⟨wr.heap.size, 1, none⟩ (.string f1)).setCell ⟨wr.heap.size, 2, none⟩ (.bool f2) = w8 from hw8.symm]
        have HC8 : Hid (w8.heap[wr.heap.size]? = some (.cells #[.string f0, .string f1, .bool f2] 53 (0, 0))) := by rw [hw8]; exact HC8'
        have HB8 : Hid (Below wr.heap.size wr w8) := by rw [hw8]; exact HB8'
        clear hw8 HC8' HB8' al hfn s0 s1 s2 zz y0 y1 y2 k0A
        have HH8 := Lib.hid ((HB8.out.block _ hg2r).trans HH.out)
        have HO8 := Lib.hid (own_below HO.out HB8.out)
        have hlt8 : wr.heap.size < w8.heap.size := lt_of_heap HC8.out
        have hg28 : w.heap.size + 2 < w8.heap.size := by omega
        have HBB := Lib.hid (HB.out.trans (HB8.out.mono (by omega)))
        have kb : w8.cell? ⟨w.heap.size + 1 + 1, 0, none⟩ = some (.slice ak k ck) := show w8.cell? ⟨w.heap.size + 1 + 1, 0, none⟩ = some (.slice ak k ck) by rw [cell_at HH8.out]; rfl
        have c0 : w8.cell? ⟨wr.heap.size, 0, none⟩ = some (.string f0) := show w8.cell? ⟨wr.heap.size, 0, none⟩ = some (.string f0) by rw [cell_at HC8.out]; rfl
        have c1 : w8.cell? ⟨wr.heap.size, 1, none⟩ = some (.string f1) := show w8.cell? ⟨wr.heap.size, 1, none⟩ = some (.string f1) by rw [cell_at HC8.out]; rfl
        have c2 : w8.cell? ⟨wr.heap.size, 2, none⟩ = some (.bool f2) := show w8.cell? ⟨wr.heap.size, 2, none⟩ = some (.bool f2) by rw [cell_at HC8.out]; rfl
        generalize hL0 : (padRL L n).take k = L0 at *
        generalize hL1 : (padRL L n).take (k + 1) = L1 at *
        have HL1 := Lib.hid hL1
        clear hL0 hL1
        have al9 : Below w8.heap.size w8 (w8.alloc (Obj.cells #[Value.string f0, Value.string f1, Value.bool f2] 53)) := (Below.refl _ _).alloc (Nat.le_refl _) _
        have hn9 : ((w8.alloc (Obj.cells #[Value.string f0, Value.string f1, Value.bool f2] 53))).heap[w8.heap.size]? = some (Obj.cells #[Value.string f0, Value.string f1, Value.bool f2] 53) := heap_alloc_new w8 _
        have kb9 : ((w8.alloc (Obj.cells #[Value.string f0, Value.string f1, Value.bool f2] 53))).cell? ⟨w.heap.size + 1 + 1, 0, none⟩ = some (.slice ak k ck) := (al9.cell (p := ⟨w.heap.size + 1 + 1, 0, none⟩) hg28).trans kb
        have HN9 := Lib.hid (World.news_of_block hn9)
        have HO9 := Lib.hid (own_below HO8.out al9)
        have HH9 := Lib.hid ((al9.block _ hg28).trans HH8.out)
        have HNE := Lib.hid (own_ne HO9.out HH9.out (by decide))
        have HON := Lib.hid (rcC1_one (f0, f1, f2))
        have HZ9 := Lib.hid (show w.heap.size + 3 ≤ ((w8.alloc (Obj.cells #[Value.string f0, Value.string f1, Value.bool f2] 53))).heap.size by have := al9.size; omega)
        have HS9 := Lib.hid al9
        clear al9 hn9
        go_wp2_with (first
          | (at_builtin; refine wpList_append_own _ rfl (.tmp 41) (.tmp 43) 84 rfl (w.heap.size + 3) 53 i0 (.agg #[.string ⟨#[]⟩, .string ⟨#[]⟩, .bool false]) 3 40 Try.underlying84 hi0 hz0 hz1 hz2 rfl (by decide) (.slice ak k ck) k (rcC L0) rfl HO9.out ⟨w8.heap.size, 0, none⟩ 1 1 [.string f0, .string f1, .bool f2] rfl rfl HN9.out HON.out ?q1 ?q2 HZ9.out ?_)
          | fail)
        case q1 => unfold maxLen; omega
        case q2 => omega
        intro v6 w6 ho6 hg6 _
        obtain ⟨a6, c6, rfl⟩ := own_slice ho6
        have HO6 := Lib.hid ho6
        have HG6 := Lib.hid hg6
        have hh6 := (HG6.out.block (w.heap.size + 1 + 1) (lt_of_heap HH9.out) (fun e' => HNE.out e'.symm)).trans HH9.out
        have zz := fun i => unfrozen hh6 i
        have kb6 : w6.cell? ⟨w.heap.size + 1 + 1, 0, none⟩ = some (.slice ak k ck) := by rw [cell_at hh6]; rfl
        have HH6 := Lib.hid hh6
        clear ho6 hg6 hh6
        go_wp2_with fail
        have h2 := own_set (o := 0) (u := .slice a6 (k + 1) c6) HO6.out (own_ne HO6.out HH6.out (by decide))
        have hf6 : (w6.setCell ⟨w.heap.size + 1 + 1, 0, none⟩ (.slice a6 (k + 1) c6)).heap[w.heap.size + 2]? = some (.cells #[.slice a6 (k + 1) c6, .int .i64 e, .bool h] 86 (0, 0)) := by rw [show w.heap.size + 2 = w.heap.size + 1 + 1 from rfl, heap_set_at HH6.out]; rfl
        have hg := (HBB.out.trans (HS9.out.mono (by omega))).grown HG6.out (by have := HZ9.out; omega) (fun q hq => by have := (HO9.out.lt q hq).1; omega)
        have hg' := hg.setCell (p := ⟨w.heap.size + 1 + 1, 0, none⟩) (Nat.le_refl _) (.slice a6 (k + 1) c6)
        have HE := Lib.hid (And.intro hf6 (And.intro h2 hg'))
        clear hf6 h2 hg hg' kb kb9 kb6 c0 c1 c2 zz
        go_roundw
        case rel => exact ⟨k + 1, a6, c6, by simp, by rw [HN.out]; omega, HE.out.1, by rw [HL1.out, HST.out, rcC_snoc]; exact HE.out.2.1, HE.out.2.2⟩
        case measure => simp [intOf]; omega
      · have hNm := HNm.out
        have d1 : decide (k < m) = false := decide_eq_false hkm
        have d2 : decide ((k : Int) < n) = true := decide_eq_true (by omega)
        have d3 : decide ((k : Int) < 40) = true := decide_eq_true (by omega)
        have hk40 : k < 40 := by omega
        have d3' : decide (k < 40) = true := decide_eq_true hk40
        rw [dif_neg (by rw [HM.out]; exact hkm)] at hst
        obtain ⟨f0, f1, f2, hz⟩ : ∃ (f0 f1 : ByteArray) (f2 : Bool), (f0, f1, f2) = zeroR := ⟨_, _, _, rfl⟩
        rw [← hz] at hst
        have HST := Lib.hid hst
        have HZ := Lib.hid hz
        have hw0 : w.heap.size < wr.heap.size := by omega
        have k0A := (al.cell (p := ⟨w.heap.size, 0, none⟩) hw0).trans k0
        clear hNm hst hz
        go_upto_region 8 with fail
        generalize wr.alloc (Obj.cells #[Value.string ⟨#[]⟩, Value.string ⟨#[]⟩, Value.bool false] 53) = w8 at *
        have HC8 : Hid (w8.heap[wr.heap.size]? = some (.cells #[.string f0, .string f1, .bool f2] 53 (0, 0))) := by
          have h1 : f0 = ⟨#[]⟩ := congrArg (fun q : RCM => q.1) HZ.out
          have h2 : f1 = ⟨#[]⟩ := congrArg (fun q : RCM => q.2.1) HZ.out
          have h3 : f2 = false := congrArg (fun q : RCM => q.2.2) HZ.out
          rw [h1, h2, h3]; exact Lib.hid hfn
        have HB8 := Lib.hid al
        clear al hfn k0A k0
        have HH8 := Lib.hid ((HB8.out.block _ hg2r).trans HH.out)
        have HO8 := Lib.hid (own_below HO.out HB8.out)
        have hlt8 : wr.heap.size < w8.heap.size := lt_of_heap HC8.out
        have hg28 : w.heap.size + 2 < w8.heap.size := by omega
        have HBB := Lib.hid (HB.out.trans (HB8.out.mono (by omega)))
        have kb : w8.cell? ⟨w.heap.size + 1 + 1, 0, none⟩ = some (.slice ak k ck) := show w8.cell? ⟨w.heap.size + 1 + 1, 0, none⟩ = some (.slice ak k ck) by rw [cell_at HH8.out]; rfl
        have c0 : w8.cell? ⟨wr.heap.size, 0, none⟩ = some (.string f0) := show w8.cell? ⟨wr.heap.size, 0, none⟩ = some (.string f0) by rw [cell_at HC8.out]; rfl
        have c1 : w8.cell? ⟨wr.heap.size, 1, none⟩ = some (.string f1) := show w8.cell? ⟨wr.heap.size, 1, none⟩ = some (.string f1) by rw [cell_at HC8.out]; rfl
        have c2 : w8.cell? ⟨wr.heap.size, 2, none⟩ = some (.bool f2) := show w8.cell? ⟨wr.heap.size, 2, none⟩ = some (.bool f2) by rw [cell_at HC8.out]; rfl
        generalize hL0 : (padRL L n).take k = L0 at *
        generalize hL1 : (padRL L n).take (k + 1) = L1 at *
        have HL1 := Lib.hid hL1
        clear hL0 hL1
        have al9 : Below w8.heap.size w8 (w8.alloc (Obj.cells #[Value.string f0, Value.string f1, Value.bool f2] 53)) := (Below.refl _ _).alloc (Nat.le_refl _) _
        have hn9 : ((w8.alloc (Obj.cells #[Value.string f0, Value.string f1, Value.bool f2] 53))).heap[w8.heap.size]? = some (Obj.cells #[Value.string f0, Value.string f1, Value.bool f2] 53) := heap_alloc_new w8 _
        have kb9 : ((w8.alloc (Obj.cells #[Value.string f0, Value.string f1, Value.bool f2] 53))).cell? ⟨w.heap.size + 1 + 1, 0, none⟩ = some (.slice ak k ck) := (al9.cell (p := ⟨w.heap.size + 1 + 1, 0, none⟩) hg28).trans kb
        have HN9 := Lib.hid (World.news_of_block hn9)
        have HO9 := Lib.hid (own_below HO8.out al9)
        have HH9 := Lib.hid ((al9.block _ hg28).trans HH8.out)
        have HNE := Lib.hid (own_ne HO9.out HH9.out (by decide))
        have HON := Lib.hid (rcC1_one (f0, f1, f2))
        have HZ9 := Lib.hid (show w.heap.size + 3 ≤ ((w8.alloc (Obj.cells #[Value.string f0, Value.string f1, Value.bool f2] 53))).heap.size by have := al9.size; omega)
        have HS9 := Lib.hid al9
        clear al9 hn9
        go_wp2_with (first
          | (at_builtin; refine wpList_append_own _ rfl (.tmp 41) (.tmp 43) 84 rfl (w.heap.size + 3) 53 i0 (.agg #[.string ⟨#[]⟩, .string ⟨#[]⟩, .bool false]) 3 40 Try.underlying84 hi0 hz0 hz1 hz2 rfl (by decide) (.slice ak k ck) k (rcC L0) rfl HO9.out ⟨w8.heap.size, 0, none⟩ 1 1 [.string f0, .string f1, .bool f2] rfl rfl HN9.out HON.out ?q1 ?q2 HZ9.out ?_)
          | fail)
        case q1 => unfold maxLen; omega
        case q2 => omega
        intro v6 w6 ho6 hg6 _
        obtain ⟨a6, c6, rfl⟩ := own_slice ho6
        have HO6 := Lib.hid ho6
        have HG6 := Lib.hid hg6
        have hh6 := (HG6.out.block (w.heap.size + 1 + 1) (lt_of_heap HH9.out) (fun e' => HNE.out e'.symm)).trans HH9.out
        have zz := fun i => unfrozen hh6 i
        have kb6 : w6.cell? ⟨w.heap.size + 1 + 1, 0, none⟩ = some (.slice ak k ck) := by rw [cell_at hh6]; rfl
        have HH6 := Lib.hid hh6
        clear ho6 hg6 hh6
        go_wp2_with fail
        have h2 := own_set (o := 0) (u := .slice a6 (k + 1) c6) HO6.out (own_ne HO6.out HH6.out (by decide))
        have hf6 : (w6.setCell ⟨w.heap.size + 1 + 1, 0, none⟩ (.slice a6 (k + 1) c6)).heap[w.heap.size + 2]? = some (.cells #[.slice a6 (k + 1) c6, .int .i64 e, .bool h] 86 (0, 0)) := by rw [show w.heap.size + 2 = w.heap.size + 1 + 1 from rfl, heap_set_at HH6.out]; rfl
        have hg := (HBB.out.trans (HS9.out.mono (by omega))).grown HG6.out (by have := HZ9.out; omega) (fun q hq => by have := (HO9.out.lt q hq).1; omega)
        have hg' := hg.setCell (p := ⟨w.heap.size + 1 + 1, 0, none⟩) (Nat.le_refl _) (.slice a6 (k + 1) c6)
        have HE := Lib.hid (And.intro hf6 (And.intro h2 hg'))
        clear hf6 h2 hg hg' kb kb9 kb6 c0 c1 c2 zz
        go_roundw
        case rel => exact ⟨k + 1, a6, c6, by simp, by rw [HN.out]; omega, HE.out.1, by rw [HL1.out, HST.out, rcC_snoc]; exact HE.out.2.1, HE.out.2.2⟩
        case measure => simp [intOf]; omega

    · have hkN : k = N := by omega
      subst hkN
      have hNm := HNm.out
      have hkm : m ≤ k := by omega
      have hk40 : (k : Int) < n → 40 ≤ k := fun hh => by omega
      clear hNm
      have d1 : decide (k < m) = false := decide_eq_false (by omega)
      have hh2 := HH.out
      have hh1 := (HB.out.block (w.heap.size + 1) (by omega)).trans HH1.out
      have zz := fun i => unfrozen hh1 i
      have x0 : wr.cell? ⟨w.heap.size + 1 + 1, 0, none⟩ = some (.slice ak k ck) := by rw [cell_at hh2]; rfl
      have x1 : wr.cell? ⟨w.heap.size + 1 + 1, 1, none⟩ = some (.int .i64 e) := by rw [cell_at hh2]; rfl
      have x2 : wr.cell? ⟨w.heap.size + 1 + 1, 2, none⟩ = some (.bool h) := by rw [cell_at hh2]; rfl
      have r0 : wr.cell? ⟨w.heap.size + 1, 0, none⟩ = some (.slice none 0 0) := by rw [cell_at hh1]; rfl
      have r1 : wr.cell? ⟨w.heap.size + 1, 1, none⟩ = some (.int .i64 0) := by rw [cell_at hh1]; rfl
      have r2 : wr.cell? ⟨w.heap.size + 1, 2, none⟩ = some (.bool false) := by rw [cell_at hh1]; rfl
      have HHr := Lib.hid hh1
      have HBr := Lib.hid (HB1.out.trans (HB.out.mono (by omega)))
      clear hh1 hh2
      have hos : (set3 wr (w.heap.size + 1) (.slice ak k ck) (.int .i64 e) (.bool h)).ownsRow w.heap.size 53 3 (.slice ak k ck) k (rcC (padRL L n)) := by
        have h1 := HO.out
        rw [show (padRL L n).take k = padRL L n by rw [← HN.out]; exact List.take_length] at h1
        have n0 := own_ne h1 HHr.out (by decide)
        unfold set3
        exact own_mono (own_set (own_set (own_set h1 n0) n0) n0) (by omega)
      have HOS := Lib.hid hos
      clear hos
      by_cases hn2 : (k : Int) < n
      · have d2 : decide ((k : Int) < n) = true := decide_eq_true hn2
        have d3 : decide ((k : Int) < 40) = false := decide_eq_false (by omega)
        have d3' : decide (k < 40) = false := decide_eq_false (by omega)
        go_wp2_with fail
        have hos := HOS.out
        have hs := set3_at HHr.out (.slice ak k ck) (.int .i64 e) (.bool h)
        have hB := set3_below HBr.out (show w.heap.size ≤ w.heap.size + 1 by omega) (.slice ak k ck) (.int .i64 e) (.bool h)
        have q0 : (set3 wr (w.heap.size + 1) (.slice ak k ck) (.int .i64 e) (.bool h)).cell? ⟨w.heap.size + 1, 0, none⟩ = some (.slice ak k ck) := by rw [cell_at hs]; rfl
        have q1 : (set3 wr (w.heap.size + 1) (.slice ak k ck) (.int .i64 e) (.bool h)).cell? ⟨w.heap.size + 1, 1, none⟩ = some (.int .i64 e) := by rw [cell_at hs]; rfl
        have q2 : (set3 wr (w.heap.size + 1) (.slice ak k ck) (.int .i64 e) (.bool h)).cell? ⟨w.heap.size + 1, 2, none⟩ = some (.bool h) := by rw [cell_at hs]; rfl
        unfold set3 at hos hB q0 q1 q2
        exact bodyPost_ret (v := .agg #[.slice ak k ck, .int .i64 e, .bool h]) (by simp [results, Try.results77, go_sem, q0, q1, q2]) rfl ⟨ak, ck, rfl, hos, hB⟩
      · have d2 : decide ((k : Int) < n) = false := decide_eq_false hn2
        go_wp2_with fail
        have hos := HOS.out
        have hs := set3_at HHr.out (.slice ak k ck) (.int .i64 e) (.bool h)
        have hB := set3_below HBr.out (show w.heap.size ≤ w.heap.size + 1 by omega) (.slice ak k ck) (.int .i64 e) (.bool h)
        have q0 : (set3 wr (w.heap.size + 1) (.slice ak k ck) (.int .i64 e) (.bool h)).cell? ⟨w.heap.size + 1, 0, none⟩ = some (.slice ak k ck) := by rw [cell_at hs]; rfl
        have q1 : (set3 wr (w.heap.size + 1) (.slice ak k ck) (.int .i64 e) (.bool h)).cell? ⟨w.heap.size + 1, 1, none⟩ = some (.int .i64 e) := by rw [cell_at hs]; rfl
        have q2 : (set3 wr (w.heap.size + 1) (.slice ak k ck) (.int .i64 e) (.bool h)).cell? ⟨w.heap.size + 1, 2, none⟩ = some (.bool h) := by rw [cell_at hs]; rfl
        unfold set3 at hos hB q0 q1 q2
        exact bodyPost_ret (v := .agg #[.slice ak k ck, .int .i64 e, .bool h]) (by simp [results, Try.results77, go_sem, q0, q1, q2]) rfl ⟨ak, ck, rfl, hos, hB⟩

set_option maxRecDepth 100000 in
set_option maxHeartbeats 2000000 in
theorem rrfresh_of {w : World} (N E : Int) :
    Calls Try.prog 50 #[.int .i64 N, .int .i64 E] w fun e' w' => ∃ a' c', e' = .returned (.agg #[.slice a' (padRL [] (max N 1)).length c', .int .i64 E, .bool false]) ∧ w'.ownsRow w.heap.size 53 3 (.slice a' (padRL [] (max N 1)).length c') (padRL [] (max N 1)).length (rcC (padRL [] (max N 1))) ∧ Below w.heap.size w w' := by
  have al := below_al w (Obj.cells #[Value.slice none 0 0, Value.int .i64 0, Value.bool false] 86)
  have hh0 := heap_alloc_new w (Obj.cells #[Value.slice none 0 0, Value.int .i64 0, Value.bool false] 86)
  have hzw : (w.alloc (Obj.cells #[Value.slice none 0 0, Value.int .i64 0, Value.bool false] 86)).heap.size > w.heap.size := by simp
  have HP := Lib.hid (fun w1 => rrpad_of (w := w1) (a := none) (c := 0) (e := E) (h := false) (L := []) (max N 1) ⟨rfl, fun hn => absurd hn (by simp)⟩ (by simp))
  have HB1 := Lib.hid al
  have HH1 := Lib.hid hh0
  clear al hh0
  by_cases h1 : N < 1
  · have d1 : decide (N < 1) = true := decide_eq_true h1
    have hM : max N 1 = 1 := by omega
    rw [hM] at HP ⊢
    clear hM
    go_enter Try.func50, Try.ntmps50
    go_upto_region 1 with fail
    generalize w.alloc (Obj.cells #[Value.slice none 0 0, Value.int .i64 0, Value.bool false] 86) = w1 at *
    go_wp2_with fail
    refine (HP.out _).mono ?_; rintro e' w5 ⟨a', c', rfl, ho5, hb5⟩
    have HB5 := Lib.hid (HB1.out.trans (hb5.mono (by omega)))
    have hh5 := (hb5.block w.heap.size (by omega)).trans HH1.out
    have zz := fun i => unfrozen hh5 i
    have r0 : w5.cell? ⟨w.heap.size, 0, none⟩ = some (.slice none 0 0) := by rw [cell_at hh5]; rfl
    have r1 : w5.cell? ⟨w.heap.size, 1, none⟩ = some (.int .i64 0) := by rw [cell_at hh5]; rfl
    have r2 : w5.cell? ⟨w.heap.size, 2, none⟩ = some (.bool false) := by rw [cell_at hh5]; rfl
    have HH5 := Lib.hid hh5
    have HO5 := Lib.hid ho5
    obtain ⟨k, hk⟩ : ∃ k, (padRL [] 1).length = k := ⟨_, rfl⟩
    have HKK := Lib.hid hk
    rw [hk]
    clear hh5 hb5 ho5 HP hk
    go_wp2_with fail
    have hos : (set3 w5 (w.heap.size) (.slice a' k c') (.int .i64 E) (.bool false)).ownsRow w.heap.size 53 3 (.slice a' (padRL [] 1).length c') (padRL [] 1).length (rcC (padRL [] 1)) := by
      have h1 := HO5.out
      have n0 := own_ne h1 HH5.out (by decide)
      unfold set3
      exact own_mono (own_set (own_set (own_set h1 n0) n0) n0) (by omega)
    have hs := set3_at HH5.out (.slice a' k c') (.int .i64 E) (.bool false)
    have hB := set3_below HB5.out (Nat.le_refl _) (.slice a' k c') (.int .i64 E) (.bool false)
    have q0 : (set3 w5 (w.heap.size) (.slice a' k c') (.int .i64 E) (.bool false)).cell? ⟨w.heap.size, 0, none⟩ = some (.slice a' k c') := by rw [cell_at hs]; rfl
    have q1 : (set3 w5 (w.heap.size) (.slice a' k c') (.int .i64 E) (.bool false)).cell? ⟨w.heap.size, 1, none⟩ = some (.int .i64 E) := by rw [cell_at hs]; rfl
    have q2 : (set3 w5 (w.heap.size) (.slice a' k c') (.int .i64 E) (.bool false)).cell? ⟨w.heap.size, 2, none⟩ = some (.bool false) := by rw [cell_at hs]; rfl
    unfold set3 at hos hB q0 q1 q2
    exact bodyPost_ret (v := .agg #[.slice a' k c', .int .i64 E, .bool false]) (by simp [results, Try.results50, go_sem, q0, q1, q2]) rfl ⟨a', c', by rw [HKK.out], hos, hB⟩
  · have d1 : decide (N < 1) = false := decide_eq_false h1
    have hM : max N 1 = N := by omega
    rw [hM] at HP ⊢
    clear hM
    go_enter Try.func50, Try.ntmps50
    go_upto_region 1 with fail
    generalize w.alloc (Obj.cells #[Value.slice none 0 0, Value.int .i64 0, Value.bool false] 86) = w1 at *
    go_wp2_with fail
    refine (HP.out _).mono ?_; rintro e' w5 ⟨a', c', rfl, ho5, hb5⟩
    have HB5 := Lib.hid (HB1.out.trans (hb5.mono (by omega)))
    have hh5 := (hb5.block w.heap.size (by omega)).trans HH1.out
    have zz := fun i => unfrozen hh5 i
    have r0 : w5.cell? ⟨w.heap.size, 0, none⟩ = some (.slice none 0 0) := by rw [cell_at hh5]; rfl
    have r1 : w5.cell? ⟨w.heap.size, 1, none⟩ = some (.int .i64 0) := by rw [cell_at hh5]; rfl
    have r2 : w5.cell? ⟨w.heap.size, 2, none⟩ = some (.bool false) := by rw [cell_at hh5]; rfl
    have HH5 := Lib.hid hh5
    have HO5 := Lib.hid ho5
    obtain ⟨k, hk⟩ : ∃ k, (padRL [] N).length = k := ⟨_, rfl⟩
    have HKK := Lib.hid hk
    rw [hk]
    clear hh5 hb5 ho5 HP hk
    go_wp2_with fail
    have hos : (set3 w5 (w.heap.size) (.slice a' k c') (.int .i64 E) (.bool false)).ownsRow w.heap.size 53 3 (.slice a' (padRL [] N).length c') (padRL [] N).length (rcC (padRL [] N)) := by
      have h1 := HO5.out
      have n0 := own_ne h1 HH5.out (by decide)
      unfold set3
      exact own_mono (own_set (own_set (own_set h1 n0) n0) n0) (by omega)
    have hs := set3_at HH5.out (.slice a' k c') (.int .i64 E) (.bool false)
    have hB := set3_below HB5.out (Nat.le_refl _) (.slice a' k c') (.int .i64 E) (.bool false)
    have q0 : (set3 w5 (w.heap.size) (.slice a' k c') (.int .i64 E) (.bool false)).cell? ⟨w.heap.size, 0, none⟩ = some (.slice a' k c') := by rw [cell_at hs]; rfl
    have q1 : (set3 w5 (w.heap.size) (.slice a' k c') (.int .i64 E) (.bool false)).cell? ⟨w.heap.size, 1, none⟩ = some (.int .i64 E) := by rw [cell_at hs]; rfl
    have q2 : (set3 w5 (w.heap.size) (.slice a' k c') (.int .i64 E) (.bool false)).cell? ⟨w.heap.size, 2, none⟩ = some (.bool false) := by rw [cell_at hs]; rfl
    unfold set3 at hos hB q0 q1 q2
    exact bodyPost_ret (v := .agg #[.slice a' k c', .int .i64 E, .bool false]) (by simp [results, Try.results50, go_sem, q0, q1, q2]) rfl ⟨a', c', by rw [HKK.out], hos, hB⟩

theorem Ar.set3 {w : World} {B p b T : Nat} {l : List UInt8} {a0 a1 a2 : Value} (h : Ar w B p l) (hb : w.heap[b]? = some (.cells #[a0, a1, a2] T (0, 0))) (h1 : T ≠ 121) (h2 : T ≠ 5) (u0 u1 u2 : Value) : Ar (Go.Proofs.Ytmdifcgnmkpecaa.set3 w b u0 u1 u2) B p l :=
  ((h.set hb h1 h2).set (heap_set_at hb) h1 h2).set (heap_set_at (heap_set_at hb)) h1 h2
theorem Rd.set3 {w : World} {s n b : Nat} {a : Option Addr} {xs : List Value} (h : Rd w s a n xs) (hb : ∀ d, a = some d → d.block ≠ b) (u0 u1 u2 : Value) : Rd (Go.Proofs.Ytmdifcgnmkpecaa.set3 w b u0 u1 u2) s a n xs :=
  ((h.set hb).set hb).set hb
theorem set3_other {w : World} {b d : Nat} {o : Obj} (h : w.heap[d]? = some o) (hne : d ≠ b) (u0 u1 u2 : Value) : (set3 w b u0 u1 u2).heap[d]? = some o := by
  unfold set3
  rw [heap_set_other hne, heap_set_other hne, heap_set_other hne]; exact h
theorem rld_one2 {l : List UInt8} {R : Rw} {w w' : World} {e : Ending} (h : RLdPost l R w e w') :
    ∃ (a : Option Addr) (c : Nat), e = .returned (.tuple #[rrV a (lsR l R).length c (fnR R), .int .i64 (erOf R)]) ∧ Rd w' 3 a (lsR l R).length (rcC (lsR l R)) ∧ (∀ d, a = some d → w.heap.size ≤ d.block) ∧ Below w.heap.size w w' := by
  obtain ⟨hb, h | h | h⟩ := h
  · obtain ⟨h1, rfl⟩ := h
    refine ⟨none, 0, ?_, ?_, (fun d hd => by cases hd), hb⟩ <;> simp [fnR, lsR, er6 h1]
    exact ⟨rfl, fun hn => absurd hn (by simp)⟩
  · obtain ⟨h1, h2, rfl⟩ := h
    refine ⟨none, 0, ?_, ?_, (fun d hd => by cases hd), hb⟩ <;> simp [fnR, lsR, er7 h1 h2]
    exact ⟨rfl, fun hn => absurd hn (by simp)⟩
  · obtain ⟨h1, h2, a, c, rfl, ho⟩ := h
    have hr := own_rd ho
    have hg : ∀ d, a = some d → w.heap.size ≤ d.block := by
      rcases own_form ho with ⟨h3, _⟩ | ⟨g, h3, h4, _⟩
      · intro d hd; rw [h3] at hd; cases hd
      · intro d hd; rw [h3] at hd; injection hd with hd; subst hd; exact h4
    refine ⟨a, c, ?_, ?_, hg, hb⟩ <;> simp [fnR, lsR, er0 h1 h2]
    exact hr

theorem two_at {w : World} {A C T T2 : Nat} {x0 x1 x2 y0 y1 y2 : Value} (hA : w.heap[A]? = some (.cells #[x0, x1, x2] T (0, 0))) (hC : w.heap[C]? = some (.cells #[y0, y1, y2] T2 (0, 0))) (hne : A ≠ C) (u0 u1 u2 v0 v1 v2 : Value) :
    (set3 (set3 w A u0 u1 u2) C v0 v1 v2).heap[A]? = some (.cells #[u0, u1, u2] T (0, 0)) ∧ (set3 (set3 w A u0 u1 u2) C v0 v1 v2).heap[C]? = some (.cells #[v0, v1, v2] T2 (0, 0)) :=
  ⟨set3_other (set3_at hA u0 u1 u2) hne v0 v1 v2, set3_at (set3_other hC (fun e => hne e.symm) u0 u1 u2) v0 v1 v2⟩
theorem two_ar {w : World} {B p A C T T2 : Nat} {l : List UInt8} {x0 x1 x2 y0 y1 y2 : Value} (h : Ar w B p l) (hA : w.heap[A]? = some (.cells #[x0, x1, x2] T (0, 0))) (hC : w.heap[C]? = some (.cells #[y0, y1, y2] T2 (0, 0))) (hne : A ≠ C) (h1 : T ≠ 121) (h2 : T ≠ 5) (h3 : T2 ≠ 121) (h4 : T2 ≠ 5) (u0 u1 u2 v0 v1 v2 : Value) :
    Ar (set3 (set3 w A u0 u1 u2) C v0 v1 v2) B p l := (h.set3 hA h1 h2 u0 u1 u2).set3 (set3_other hC (fun e => hne e.symm) u0 u1 u2) h3 h4 v0 v1 v2
theorem two_ro {w : World} {A C T T2 : Nat} {l : List UInt8} {a : Option Addr} {ps : List CelM} {x0 x1 x2 y0 y1 y2 : Value} (h : RoIn w l a ps) (hA : w.heap[A]? = some (.cells #[x0, x1, x2] T (0, 0))) (hC : w.heap[C]? = some (.cells #[y0, y1, y2] T2 (0, 0))) (hne : A ≠ C) (h1 : T ≠ 39) (h2 : T ≠ 50) (h3 : T2 ≠ 39) (h4 : T2 ≠ 50) (u0 u1 u2 v0 v1 v2 : Value) :
    RoIn (set3 (set3 w A u0 u1 u2) C v0 v1 v2) l a ps := (h.set3 hA h1 h2).set3 (set3_other hC (fun e => hne e.symm) u0 u1 u2) h3 h4
theorem two_below {w w0 : World} {B A C : Nat} (h : Below B w0 w) (hA : B ≤ A) (hC : B ≤ C) (u0 u1 u2 v0 v1 v2 : Value) : Below B w0 (set3 (set3 w A u0 u1 u2) C v0 v1 v2) :=
  set3_below (set3_below h hA u0 u1 u2) hC v0 v1 v2

theorem drew_at {w : World} {A : Nat} {o : Obj} (h : w.heap[A]? = some o) : w.drew.heap[A]? = some o := h
theorem drew_ar {w : World} {B p : Nat} {l : List UInt8} (h : Ar w B p l) : Ar w.drew B p l := h
theorem drew_rd {w : World} {s n : Nat} {a : Option Addr} {xs : List Value} (h : Rd w s a n xs) : Rd w.drew s a n xs := h
theorem drew_ro {w : World} {l : List UInt8} {a : Option Addr} {ps : List CelM} (h : RoIn w l a ps) : RoIn w.drew l a ps := h.below (Below.refl _ _).drew
/-- What begun tells. -/
def BegPost (l : List UInt8) (w : World) (e : Ending) (w' : World) : Prop :=
  ∃ (p B : Nat) (a : Option Addr) (n c : Nat) (fn : Int) (b : Option Addr) (m d : Nat) (gn : Int) (ok : Bool),
    e = .returned (.tuple #[.pointer (some ⟨p, 0, none⟩), rowV a n c fn false, .agg #[.slice b m d, .int .i64 gn, .bool false], .bool ok]) ∧ Ar w' B p l ∧ Below w.heap.size w w' ∧
    (ok = true → m = n ∧ gn = fn ∧ n ≤ 40 ∧ n ≤ c ∧ c ≤ maxLen ∧ ∃ (g o : Nat) (Ms : List CelM), a = some ⟨g, o, none⟩ ∧ Ms.length = n ∧ 0 < n ∧ RoIn w' l a Ms ∧ Rd w' 3 b n (rcC (Ms.map (rc l))))

set_option maxRecDepth 100000 in
set_option maxHeartbeats 8000000 in
theorem begun_of (s : ByteArray) (w : World) (hs : s.size ≤ maxLen) :
    Calls Try.prog 39 #[.string s] w (BegPost (cutS s 600).data.toList w) := by
  have HC := Lib.hid (fun w' => cut8_of s 600 w' hs (by decide))
  have hcl := cutS_le s 600
  clear hs
  generalize cutS s 600 = t at *
  obtain ⟨l, hl⟩ : ∃ l, t.data.toList = l := ⟨_, rfl⟩
  rw [hl]
  have hsz := sz_of hl
  obtain ⟨n, hln⟩ : ∃ n, l.length = n := ⟨_, rfl⟩
  rw [hln] at hsz
  rw [hsz] at hcl
  have HL := Lib.hid hl
  have HLN := Lib.hid hln
  have HSZ := Lib.hid hsz
  clear hl hln
  obtain ⟨w1, hw1⟩ : ∃ w1, w1 = allocs w [Obj.cells #[Value.slice none 0 0, Value.int .i64 0, Value.bool false] 81, Obj.cells #[Value.slice none 0 0, Value.int .i64 0, Value.bool false] 86] := ⟨_, rfl⟩
  have HB1 : Hid (Below w.heap.size w w1) := by rw [hw1]; exact Lib.hid (allocs_below _ w)
  have hzw : w1.heap.size = w.heap.size + 2 := by rw [hw1, allocs_size]; simp
  have HHA : Hid (w1.heap[w.heap.size]? = some (.cells #[Value.slice none 0 0, Value.int .i64 0, Value.bool false] 81 (0, 0))) := by rw [hw1]; exact Lib.hid (allocs_at _ w 0 _ rfl)
  have HHB : Hid (w1.heap[w.heap.size + 1]? = some (.cells #[Value.slice none 0 0, Value.int .i64 0, Value.bool false] 86 (0, 0))) := by rw [hw1]; exact Lib.hid (allocs_at _ w 1 _ rfl)
  have HZW := Lib.hid hzw
  clear hzw
  unfold BegPost
  go_enter Try.func39, Try.ntmps39
  go_upto_region 1 with fail
  rw [show (w.alloc (Obj.cells #[Value.slice none 0 0, Value.int .i64 0, Value.bool false] 81)).alloc (Obj.cells #[Value.slice none 0 0, Value.int .i64 0, Value.bool false] 86) = w1 from hw1.symm]
  clear hw1
  go_wp2_with fail
  refine (HC.out _).mono ?_; rintro e wx ⟨rfl, rfl⟩
  obtain ⟨cap, W1, hcv, hH, hb1⟩ := held_of t w1 (by rw [HSZ.out]; unfold maxLen; omega)
  have hrd : Rd W1 1 (some ⟨w1.heap.size, 0, none⟩) l.length (bc l) := by have := rd_held hH; rw [HL.out] at this; exact this
  have HN := Lib.hid (new_of _ cap hrd (by rw [HLN.out]; omega))
  have HB2 := Lib.hid hb1
  rw [HLN.out] at HN
  rw [HSZ.out] at hcv
  clear hH hb1 HC hrd hsz
  go_wp2_with fail
  refine HN.out.mono ?_; rintro e w3 ⟨p, rfl, hA, hb2⟩
  have HA3 := Lib.hid hA
  have HB4 := Lib.hid (HB2.out.trans (hb2.mono HB2.out.size))
  clear hA hb2 HN hcv HB2
  obtain ⟨cap, W2, hcv, hH, hb2⟩ := held_of t w3 (by rw [HSZ.out]; unfold maxLen; omega)
  have hrd : Rd W2 1 (some ⟨w3.heap.size, 0, none⟩) l.length (bc l) := by have := rd_held hH; rw [HL.out] at this; exact this
  have HRD := Lib.hid hrd
  have HCP := Lib.hid (And.intro hH.fits hH.cap)
  have HB5 := Lib.hid (HB4.out.trans (hb2.mono HB4.out.size))
  have HA5 := Lib.hid (HA3.out.below hb2)
  have hl3 : w3.heap.size < W2.heap.size := hH.lies
  rw [HSZ.out] at hcv
  clear hH hb2 hrd HA3 HB4
  by_cases h0 : n = 0
  · subst h0
    have HR5 := Lib.hid (rone_empty HSZ.out)
    go_wp2_with fail
    refine (one_empty W2 _ _).mono ?_; rintro e w4 ⟨rfl, hb4⟩
    have al := below_al w4 (Obj.cells #[Value.slice none 0 0, Value.int .i64 0] 34)
    have h4 := heap_alloc_new w4 (Obj.cells #[Value.slice none 0 0, Value.int .i64 0] 34)
    have HB6 := Lib.hid (HB5.out.trans ((hb4.trans (al.mono hb4.size)).mono HB5.out.size))
    have HA6 := Lib.hid ((HA5.out.below hb4).below al)
    have H4 := Lib.hid h4
    clear hb4 al h4 hcv HA5 HB5 HRD
    go_upto_region 4 with fail
    generalize hw5 : w4.alloc (Obj.cells #[Value.slice none 0 0, Value.int .i64 0] 34) = w5 at *
    have hz5 : w4.heap.size < w5.heap.size := by rw [← hw5]; simp
    clear hw5
    go_wp2_with fail
    refine (HR5.out _).mono ?_; rintro e w6 ⟨rfl, hb6⟩
    have al := below_al w6 (Obj.cells #[Value.slice none 0 0, Value.int .i64 0] 37)
    have h6 := heap_alloc_new w6 (Obj.cells #[Value.slice none 0 0, Value.int .i64 0] 37)
    have hb7 := hb6.trans (al.mono hb6.size)
    have HB7 := Lib.hid (HB6.out.trans (hb7.mono HB6.out.size))
    have HA7 := Lib.hid (HA6.out.below hb7)
    have h7 := (hb7.block _ hz5).trans H4.out
    clear hb6 al HB6 HA6 HR5
    go_upto_region 5 with fail
    generalize w6.alloc (Obj.cells #[Value.slice none 0 0, Value.int .i64 0] 37) = w7 at *
    have k0 : w7.cell? ⟨w4.heap.size, 0, none⟩ = some (.slice none 0 0) := by rw [cell_at h7]; rfl
    have k1 : w7.cell? ⟨w6.heap.size, 0, none⟩ = some (.slice none 0 0) := by rw [cell_at h6]; rfl
    have HF := Lib.hid (fun w' => rfresh_of (w := w') l 1 0 (by unfold I64; omega))
    rw [show (padL [] (max 1 1)).length = 1 from rfl] at HF
    clear h6 h7 hb7
    go_wp2_with fail
    refine (HF.out _).mono ?_; rintro e w8 ⟨a8, c8, rfl, -, hb8⟩
    have HG := Lib.hid (rrfresh_of (w := w8) 1 0)
    rw [show (padRL [] (max 1 1)).length = 1 from rfl] at HG
    have HB8 := Lib.hid (HB7.out.trans (hb8.mono HB7.out.size))
    have HA8 := Lib.hid (HA7.out.below hb8)
    clear hb8 HB7 HA7 k0 k1 HF
    go_wp2_with fail
    refine HG.out.mono ?_; rintro e w9 ⟨b9, d9, rfl, -, hb9⟩
    have HB9 := Lib.hid (HB8.out.trans (hb9.mono HB8.out.size))
    have HA9 := Lib.hid (HA8.out.below hb9)
    clear hb9 HB8 HA8 HG
    have hhA := (HB9.out.block w.heap.size (by rw [HZW.out]; omega)).trans HHA.out
    have hhB := (HB9.out.block (w.heap.size + 1) (by rw [HZW.out]; omega)).trans HHB.out
    have zz := fun i => unfrozen hhA i
    have zy := fun i => unfrozen hhB i
    have r0 : w9.cell? ⟨w.heap.size, 0, none⟩ = some (.slice none 0 0) := by rw [cell_at hhA]; rfl
    have r1 : w9.cell? ⟨w.heap.size, 1, none⟩ = some (.int .i64 0) := by rw [cell_at hhA]; rfl
    have r2 : w9.cell? ⟨w.heap.size, 2, none⟩ = some (.bool false) := by rw [cell_at hhA]; rfl
    have s0 : w9.cell? ⟨w.heap.size + 1, 0, none⟩ = some (.slice none 0 0) := by rw [cell_at hhB]; rfl
    have s1 : w9.cell? ⟨w.heap.size + 1, 1, none⟩ = some (.int .i64 0) := by rw [cell_at hhB]; rfl
    have s2 : w9.cell? ⟨w.heap.size + 1, 2, none⟩ = some (.bool false) := by rw [cell_at hhB]; rfl
    have HXA := Lib.hid hhA
    have HXB := Lib.hid hhB
    clear hhA hhB
    go_wp2_with fail
    have hh := two_at HXA.out HXB.out (by omega) (.slice a8 1 c8) (.int .i64 0) (.bool false) (.slice b9 1 d9) (.int .i64 0) (.bool false)
    have hA := two_ar HA9.out HXA.out HXB.out (by omega) (by decide) (by decide) (by decide) (by decide) (.slice a8 1 c8) (.int .i64 0) (.bool false) (.slice b9 1 d9) (.int .i64 0) (.bool false)
    have hB := two_below (HB1.out.trans (HB9.out.mono (by rw [HZW.out]; omega))) (Nat.le_refl _) (show w.heap.size ≤ w.heap.size + 1 by omega) (.slice a8 1 c8) (.int .i64 0) (.bool false) (.slice b9 1 d9) (.int .i64 0) (.bool false)
    unfold Go.Proofs.Ytmdifcgnmkpecaa.set3 at hh hA hB
    obtain ⟨hh1, hh2⟩ := hh
    have q0 := cell_at hh1 0
    have q1 := cell_at hh1 1
    have q2 := cell_at hh1 2
    have p0 := cell_at hh2 0
    have p1 := cell_at hh2 1
    have p2 := cell_at hh2 2
    exact bodyPost_ret (v := .tuple #[.pointer (some ⟨p, 0, none⟩), rowV a8 1 c8 0 false, .agg #[.slice b9 1 d9, .int .i64 0, .bool false], .bool false]) (by simp [results, Try.results39, go_sem, q0, q1, q2, p0, p1, p2]) rfl ⟨p, _, a8, 1, c8, 0, b9, 1, d9, 0, false, rfl, hA, hB, fun h => by cases h⟩
  · have hl0 : 0 < l.length := by rw [HLN.out]; omega
    have hmem : rowP l 0 ∈ allP l 0 := by rw [allP_more hl0]; exact List.mem_cons_self
    have hrf := row_fields hmem
    have hrf2 := row_fields2 hmem
    have hne : 0 < (rowP l 0).fs.length := by
      show 0 < (fieldsP l 0).1.length
      rw [fieldsP_rest (by omega)]; simp
    have HON := Lib.hid (one_of (c := cap) HRD.out hl3 (by rw [HLN.out]; omega) (by rw [HLN.out, ← HSZ.out]; exact HCP.out.1) HCP.out.2 0 hl0)
    rw [HLN.out] at HON
    have HRO := Lib.hid (fun w' => rone_of HL.out (by rw [HLN.out]; omega) 0 hl0 w')
    generalize hR : rowP l 0 = R at *
    have HRF := Lib.hid hrf
    have HRG := Lib.hid hrf2
    have HLD := Lib.hid (fun w' B ps pa pc (h : RowIn w' B (R, ps, pa, pc)) => rload_of h (fun f hf => HRF.out.2 f hf) (by rw [HLN.out]; omega) (by have := HRF.out.1; rw [HLN.out] at this; omega))
    have HRL := Lib.hid (fun w' B ps pa pc (h : RRowIn w' B (R, ps, pa, pc)) => rrload_of HL.out h (fun f hf => HRF.out.2 f hf) (fun f hf => HRG.out f hf) (by rw [HLN.out]; omega) (by have := HRF.out.1; rw [HLN.out] at this; omega))
    have hnf : R.fs.length ≤ 601 := by have := hrf.1; rw [HLN.out] at this; omega
    obtain ⟨nf, hnfe⟩ : ∃ nf, R.fs.length = nf := ⟨_, rfl⟩
    have HNF := Lib.hid hnfe
    rw [hnfe] at hnf hne HLD HRL
    have dnf : ((nf : Int) == 0) = false := by simp; omega
    clear hR hmem hrf hrf2 HRD HCP hl0 hnfe
    go_wp2_with fail
    refine HON.out.mono ?_; rintro e w4 ⟨ps, pa, pc, rfl, hps, hown, hparts, hb4⟩
    have hpl : ps.length = nf := by rw [← HNF.out, ← hps]; simp
    have HRI := Lib.hid (show RowIn w4 _ (R, ps, pa, pc) from ⟨hps, hown, hparts⟩)
    rw [hpl]
    have al := below_al w4 (Obj.cells #[Value.slice pa nf pc, Value.int .i64 R.fin] 34)
    have h4 := heap_alloc_new w4 (Obj.cells #[Value.slice pa nf pc, Value.int .i64 R.fin] 34)
    have HB6 := Lib.hid (HB5.out.trans ((hb4.trans (al.mono hb4.size)).mono HB5.out.size))
    have HA6 := Lib.hid ((HA5.out.below hb4).below al)
    have H4 := Lib.hid h4
    have HRI5 := Lib.hid (HRI.out.below al)
    clear hb4 al h4 hcv HA5 HB5 HON hps hown hparts hpl HRI
    go_upto_region 4 with fail
    generalize hw5 : w4.alloc (Obj.cells #[Value.slice pa nf pc, Value.int .i64 R.fin] 34) = w5 at *
    have hz5 : w4.heap.size < w5.heap.size := by rw [← hw5]; simp
    clear hw5
    go_wp2_with fail
    refine (HRO.out _).mono ?_; rintro e w6 ⟨qs, qa, qc, rfl, hqs, hown, hparts, hb6⟩
    have hql : qs.length = nf := by rw [← HNF.out, ← hqs]; simp
    have HQI := Lib.hid (show RRowIn w6 _ (R, qs, qa, qc) from ⟨hqs, hown, hparts⟩)
    rw [hql]
    have al := below_al w6 (Obj.cells #[Value.slice qa nf qc, Value.int .i64 R.fin] 37)
    have h6 := heap_alloc_new w6 (Obj.cells #[Value.slice qa nf qc, Value.int .i64 R.fin] 37)
    have hb7 := hb6.trans (al.mono hb6.size)
    have HB7 := Lib.hid (HB6.out.trans (hb7.mono HB6.out.size))
    have HA7 := Lib.hid (HA6.out.below hb7)
    have h7 := (hb7.block _ hz5).trans H4.out
    have HRI7 := Lib.hid (HRI5.out.below hb7)
    have HQI7 := Lib.hid (HQI.out.below al)
    clear hb6 al HB6 HA6 HRO hqs hown hparts hql HRI5 HQI
    go_upto_region 5 with fail
    generalize hw7 : w6.alloc (Obj.cells #[Value.slice qa nf qc, Value.int .i64 R.fin] 37) = w7 at *
    have hz6 : w6.heap.size < w7.heap.size := by rw [← hw7]; simp
    have hz4 : w4.heap.size < w7.heap.size := lt_of_heap h7
    have k0 : w7.cell? ⟨w4.heap.size, 0, none⟩ = some (.slice pa nf pc) := by rw [cell_at h7]; rfl
    have k0' : w7.cell? ⟨w4.heap.size, 1, none⟩ = some (.int .i64 R.fin) := by rw [cell_at h7]; rfl
    have k1 : w7.cell? ⟨w6.heap.size, 0, none⟩ = some (.slice qa nf qc) := by rw [cell_at h6]; rfl
    have H6 := Lib.hid h6
    clear h6 h7 hb7 hw7
    go_wp2_with fail
    refine (HLD.out _ _ _ _ _ HRI7.out).mono ?_; rintro e w8 hpost
    obtain ⟨a8, c8, Ms, rfl, hro, hm40, hrc, hkf, hmc, hac, hb8⟩ := ld_one hpost
    clear hpost
    have hme : 0 < nf → erOf R = 0 → 0 < Ms.length := fun h1 h2 => by
      have := congrArg List.length (hkf h2).1
      rw [List.length_map, List.length_map, HNF.out] at this; omega
    obtain ⟨nm, hnm⟩ : ∃ nm, Ms.length = nm := ⟨_, rfl⟩
    rw [hnm] at hm40 hmc hme ⊢
    have HME := Lib.hid hme
    have HRC := Lib.hid hrc
    have HNM := Lib.hid hnm
    have HCN := Lib.hid (And.intro hmc hac)
    have hz18 : w.heap.size + 2 ≤ w8.heap.size := by have h1 := HB7.out.size; have h2 := hb8.size; have h3 := HZW.out; omega
    generalize hfn : fnR R = fn at *
    generalize her : erOf R = er at *
    have HFN := Lib.hid hfn
    have HER := Lib.hid her
    have al := below_al w8 (Obj.cells #[Value.slice a8 nm c8, Value.int .i64 fn, Value.bool false] 81)
    have h8 := heap_alloc_new w8 (Obj.cells #[Value.slice a8 nm c8, Value.int .i64 fn, Value.bool false] 81)
    have hb9 := hb8.trans (al.mono hb8.size)
    have HB9 := Lib.hid (HB7.out.trans (hb9.mono HB7.out.size))
    have HA9 := Lib.hid (HA7.out.below hb9)
    have HRO9 := Lib.hid (hro.below al)
    have HQI9 := Lib.hid (HQI7.out.below hb9)
    have h69 := (hb9.block _ hz6).trans H6.out
    have H8 := Lib.hid h8
    clear hb8 al HB7 HA7 HLD hrc hkf hmc hac hme hro hnm hfn her k0 k0' k1 HQI7 HRI7 h8 hb9 H6 H4
    go_upto_region 8 with fail
    generalize hw9 : w8.alloc (Obj.cells #[Value.slice a8 nm c8, Value.int .i64 fn, Value.bool false] 81) = w9 at *
    have hz8 : w8.heap.size < w9.heap.size := by rw [← hw9]; simp
    have k0 : w9.cell? ⟨w6.heap.size, 0, none⟩ = some (.slice qa nf qc) := by rw [cell_at h69]; rfl
    have k1 : w9.cell? ⟨w6.heap.size, 1, none⟩ = some (.int .i64 R.fin) := by rw [cell_at h69]; rfl
    clear h69 hw9
    go_wp2_with fail
    refine (HRL.out _ _ _ _ _ HQI9.out).mono ?_; rintro e wa hpost
    obtain ⟨b6, d6, rfl, hrd, hbk, hba⟩ := rld_one2 hpost
    clear hpost HRL k0 k1
    have hLn : (lsR l R).length = nm := by rw [← HRC.out, List.length_map, HNM.out]
    rw [hLn] at hrd
    rw [hLn, HFN.out, HER.out]
    rw [← HRC.out] at hrd
    have al := below_al wa (Obj.cells #[Value.slice b6 nm d6, Value.int .i64 fn, Value.bool false] 86)
    have ha := heap_alloc_new wa (Obj.cells #[Value.slice b6 nm d6, Value.int .i64 fn, Value.bool false] 86)
    have hbb := hba.trans (al.mono hba.size)
    have hz9a := hba.size
    have HBB := Lib.hid (HB9.out.trans (hbb.mono HB9.out.size))
    have HAB := Lib.hid (HA9.out.below hbb)
    have HROB := Lib.hid (HRO9.out.below hbb)
    have hbk2 : ∀ d, b6 = some d → w.heap.size + 2 ≤ d.block := fun d hd => by
      have h1 := hbk d hd
      have h2 := HB9.out.size
      have h3 := HZW.out
      omega
    have HRDB := Lib.hid (And.intro (hrd.below al) hbk2)
    have h8b := (hbb.block _ hz8).trans H8.out
    clear hba al HB9 HA9 HRO9 HQI9 hrd hbk hbk2 hLn hbb H8
    go_upto_region 9 with fail
    generalize wa.alloc (Obj.cells #[Value.slice b6 nm d6, Value.int .i64 fn, Value.bool false] 86) = wb at *
    have hhA := (HBB.out.block w.heap.size (by rw [HZW.out]; omega)).trans HHA.out
    have hhB := (HBB.out.block (w.heap.size + 1) (by rw [HZW.out]; omega)).trans HHB.out
    have zz := fun i => unfrozen hhA i
    have zy := fun i => unfrozen hhB i
    have r0 : wb.cell? ⟨w.heap.size, 0, none⟩ = some (.slice none 0 0) := by rw [cell_at hhA]; rfl
    have r1 : wb.cell? ⟨w.heap.size, 1, none⟩ = some (.int .i64 0) := by rw [cell_at hhA]; rfl
    have r2 : wb.cell? ⟨w.heap.size, 2, none⟩ = some (.bool false) := by rw [cell_at hhA]; rfl
    have s0 : wb.cell? ⟨w.heap.size + 1, 0, none⟩ = some (.slice none 0 0) := by rw [cell_at hhB]; rfl
    have s1 : wb.cell? ⟨w.heap.size + 1, 1, none⟩ = some (.int .i64 0) := by rw [cell_at hhB]; rfl
    have s2 : wb.cell? ⟨w.heap.size + 1, 2, none⟩ = some (.bool false) := by rw [cell_at hhB]; rfl
    have k0 : wb.cell? ⟨w8.heap.size, 0, none⟩ = some (.slice a8 nm c8) := by rw [cell_at h8b]; rfl
    have k1 : wb.cell? ⟨w8.heap.size, 1, none⟩ = some (.int .i64 fn) := by rw [cell_at h8b]; rfl
    have k2 : wb.cell? ⟨w8.heap.size, 2, none⟩ = some (.bool false) := by rw [cell_at h8b]; rfl
    have l0 : wb.cell? ⟨wa.heap.size, 0, none⟩ = some (.slice b6 nm d6) := by rw [cell_at ha]; rfl
    have l1 : wb.cell? ⟨wa.heap.size, 1, none⟩ = some (.int .i64 fn) := by rw [cell_at ha]; rfl
    have l2 : wb.cell? ⟨wa.heap.size, 2, none⟩ = some (.bool false) := by rw [cell_at ha]; rfl
    have hx1 : w8.heap.size ≠ w.heap.size := by omega
    have hx2 : w8.heap.size ≠ w.heap.size + 1 := by omega
    have hx3 : wa.heap.size ≠ w.heap.size := by omega
    have hx4 : wa.heap.size ≠ w.heap.size + 1 := by omega
    have HXA := Lib.hid hhA
    have HXB := Lib.hid hhB
    clear hhA hhB h8b ha
    go_region
    all_goals
      go_wp2_with fail
      have hh := two_at HXA.out HXB.out (by omega) (.slice a8 nm c8) (.int .i64 fn) (.bool false) (.slice b6 nm d6) (.int .i64 fn) (.bool false)
      have hA := two_ar HAB.out HXA.out HXB.out (by omega) (by decide) (by decide) (by decide) (by decide) (.slice a8 nm c8) (.int .i64 fn) (.bool false) (.slice b6 nm d6) (.int .i64 fn) (.bool false)
      have hR := two_ro HROB.out HXA.out HXB.out (by omega) (by decide) (by decide) (by decide) (by decide) (.slice a8 nm c8) (.int .i64 fn) (.bool false) (.slice b6 nm d6) (.int .i64 fn) (.bool false)
      have hB := two_below (HB1.out.trans (HBB.out.mono (by rw [HZW.out]; omega))) (Nat.le_refl _) (show w.heap.size ≤ w.heap.size + 1 by omega) (.slice a8 nm c8) (.int .i64 fn) (.bool false) (.slice b6 nm d6) (.int .i64 fn) (.bool false)
      have hD := (HRDB.out.1.set3 (b := w.heap.size) (fun d hd => by have := HRDB.out.2 d hd; omega) (.slice a8 nm c8) (.int .i64 fn) (.bool false)).set3 (b := w.heap.size + 1) (fun d hd => by have := HRDB.out.2 d hd; omega) (.slice b6 nm d6) (.int .i64 fn) (.bool false)
      have hh1 := drew_at hh.1
      have hh2 := drew_at hh.2
      replace hA := drew_ar hA
      replace hR := drew_ro hR
      replace hD := drew_rd hD
      replace hB := hB.drew
      clear hh
      unfold Go.Proofs.Ytmdifcgnmkpecaa.set3 at hh1 hh2 hA hB hR hD
      have q0 := cell_at hh1 0
      have q1 := cell_at hh1 1
      have q2 := cell_at hh1 2
      have p0 := cell_at hh2 0
      have p1 := cell_at hh2 1
      have p2 := cell_at hh2 2
      refine bodyPost_ret (v := .tuple #[.pointer (some ⟨p, 0, none⟩), rowV a8 nm c8 fn false, .agg #[.slice b6 nm d6, .int .i64 fn, .bool false], .bool (er == 0)]) (by simp [results, Try.results39, go_sem, q0, q1, q2, p0, p1, p2]) rfl ⟨p, _, a8, nm, c8, fn, b6, nm, d6, fn, (er == 0), rfl, hA, hB, ?_⟩
      intro hok
      have he : er = 0 := by simpa using hok
      have hn0 := HME.out hne he
      obtain ⟨hc1, hc2⟩ := HCN.out
      obtain ⟨g, o, hg, _⟩ := hR.rd.2 (by rw [HNM.out]; exact hn0)
      exact ⟨rfl, rfl, hm40, by omega, by unfold maxLen; omega, g, o, Ms, hg, HNM.out, hn0, hR, hD⟩

theorem insert_back {w : World} {g o c n : Nat} {l : List UInt8} {e : Int} {ps : List CelM} (I : Int) (hr : RoIn w l (some ⟨g, o, none⟩) ps) (hnn : ps.length = n) (hn : n ≤ 100) (hc : n ≤ c) (hcm : c ≤ maxLen) :
    Calls Try.prog 44 #[rowV (some ⟨g, o, none⟩) n c e false, .int .i64 I, .agg #[.slice none 0 0, .int .i64 0, .int .i64 0, .bool false]] w (InsPost l n I e false ps noneM w) :=
  rins_of (M := noneM) I hr (noneM_in w l) hnn hn hc hcm

theorem delete_back {w : World} {l : List UInt8} {g o c m : Nat} {e : Int} {ps : List CelM} (I : Int) (hI : 0 ≤ I ∧ I ≤ m) (hr : RoIn w l (some ⟨g, o, none⟩) (insL ps I.toNat noneM)) (hm : ps.length = m) (hm0 : 0 < m) (hn : m < 100) (hc : m + 1 ≤ c) (hcm : c ≤ maxLen) :
    Calls Try.prog 45 #[rowV (some ⟨g, o, none⟩) (m + 1) c e false, .int .i64 I] w fun e' w' => ∃ (g' c' : Nat), e' = .returned (.tuple #[rowV (some ⟨g', 0, none⟩) m c' e false, .int .i64 0]) ∧ RoIn w' l (some ⟨g', 0, none⟩) ps ∧ m ≤ c' ∧ c' ≤ maxLen ∧ Below w.heap.size w w' := by
  have hil : (insL ps I.toNat noneM).length = m + 1 := by rw [insL_len (by omega), hm]
  refine (rdel_of (c := c) (e := e) (h := false) I hr hil (by omega) hc hcm).mono ?_
  rintro e' w' ⟨hb, h | h | h⟩
  · exact absurd ⟨hI.1, by omega⟩ h.1
  · have := h.2.1; omega
  · obtain ⟨_, _, g', c', rfl, hro, h1, h2⟩ := h
    rw [del_ins (by omega)] at hro
    exact ⟨g', c', rfl, hro, by omega, h2, hb⟩
theorem move_back {w : World} {l : List UInt8} {g o c m : Nat} {e : Int} {ps : List CelM} (I J : Int) (hI : 0 ≤ I ∧ I < m) (hJ : 0 ≤ J ∧ J < m) (hr : RoIn w l (some ⟨g, o, none⟩) (movL ps I.toNat J.toNat)) (hm : ps.length = m) (hn : m < 100) (hc : m ≤ c) (hcm : c ≤ maxLen) :
    Calls Try.prog 47 #[rowV (some ⟨g, o, none⟩) m c e false, .int .i64 J, .int .i64 I] w fun e' w' => ∃ (g' c' : Nat), e' = .returned (.tuple #[rowV (some ⟨g', 0, none⟩) m c' e false, .int .i64 0]) ∧ RoIn w' l (some ⟨g', 0, none⟩) ps ∧ Below w.heap.size w w' := by
  have hil : (movL ps I.toNat J.toNat).length = m := by
    unfold movL
    rw [insL_len (by rw [delL_len (by omega)]; omega), delL_len (by omega), hm]; omega
  refine (rmov_of (c := c) (e := e) (h := false) J I hr hil (by omega) hc hcm).mono ?_
  rintro e' w' ⟨hb, h | h⟩
  · exact absurd ⟨hJ, hI⟩ h.1
  · obtain ⟨_, g', c', rfl, hro, h1, h2⟩ := h
    rw [mov_back (by omega) (by omega)] at hro
    exact ⟨g', c', rfl, hro, hb⟩
theorem same_self {w : World} {B p : Nat} {l : List UInt8} {a1 a2 : Option Addr} {c1 c2 m : Nat} {e : Int} {ps : List CelM} (hA : Ar w B p l) (hl : l.length ≤ 16384) (h1 : RoIn w l a1 ps) (h2 : RoIn w l a2 ps) (hm : ps.length = m) (hn : m ≤ 1000) :
    Calls Try.prog 46 #[.pointer (some ⟨p, 0, none⟩), rowV a1 m c1 e false, rowV a2 m c2 e false] w fun e' w' => e' = .returned (.bool true) ∧ Below w.heap.size w w' := by
  subst hm
  refine (rsame_of (c1 := c1) (c2 := c2) (e1 := e) (e2 := e) (b1 := false) (b2 := false) hA hl h1 h2 hn hn rfl rfl).mono ?_
  rintro e' w' ⟨bb, rfl, hi, hb⟩
  have := hi.out.2 (eqR_self l ps)
  subst this
  exact ⟨rfl, hb⟩

theorem plain_m {w : World} {B p c m : Nat} {l : List UInt8} {a : Option Addr} {e : Int} {ps : List CelM} (hA : Ar w B p l) (hl : l.length ≤ 16384) (hr : RoIn w l a ps) (hm : ps.length = m) (hn : m ≤ 1000) :
    Calls Try.prog 34 #[.pointer (some ⟨p, 0, none⟩), rowV a m c e false] w fun e' w' => ∃ a' c', e' = .returned (.agg #[.slice a' m c', .int .i64 e, .bool false]) ∧ Rd w' 3 a' m (rcC (ps.map (rc l))) ∧ Below w.heap.size w w' := by
  subst hm
  refine (rplain_of (c := c) (e := e) (h := false) hA hl hr hn).mono ?_
  rintro e' w' ⟨a', c', rfl, ho, hb⟩
  exact ⟨a', c', rfl, own_rd ho, hb⟩
theorem rsame_m {w : World} {a b : Option Addr} {c d m : Nat} {e : Int} {L : List RCM} (ha : Rd w 3 a m (rcC L)) (hb : Rd w 3 b m (rcC L)) (hm : L.length = m) (hn : m ≤ 1000) :
    Calls Try.prog 33 #[.agg #[.slice a m c, .int .i64 e, .bool false], .agg #[.slice b m d, .int .i64 e, .bool false]] w fun e' w' => e' = .returned (.bool true) ∧ Below w.heap.size w w' := by
  subst hm
  have := rrsame_of (c := c) (d := d) (e := e) (f := e) (h := false) (k := false) ha hb (by omega) (by omega)
  rw [show decide (e = e ∧ false = false ∧ L = L) = true by simp] at this
  exact this

set_option maxRecDepth 100000 in
set_option maxHeartbeats 16000000 in
theorem rowBack_walk (s : ByteArray) (I J : Int) (w : World) (hs : s.size ≤ maxLen) (_ : -9223372036854775808 ≤ I) (_ : I ≤ 9223372036854775807) (_ : -9223372036854775808 ≤ J) (_ : J ≤ 9223372036854775807) (hml : ML w) :
    Calls Try.prog 8 #[.string s, .int .i64 I, .int .i64 J] w fun e w' => e = .returned (.bool true) ∧ Below w.heap.size w w' := by
  have HBG := Lib.hid (begun_of s w hs)
  have hll : (cutS s 600).data.toList.length ≤ 600 := cutS_le s 600
  have HML := Lib.hid hml
  clear hs hml
  generalize (cutS s 600).data.toList = l at *
  go_enter Try.func8, Try.ntmps8
  go_wp2_with fail
  refine HBG.out.mono ?_; rintro e w1 ⟨p, B, a, n, c, fn, b, m, d, gn, ok, rfl, hA, hb1, hok⟩
  obtain ⟨w2, hw2⟩ : ∃ w2, w2 = allocs w1 [Obj.cells #[Value.slice a n c, Value.int .i64 fn, Value.bool false] 81, Obj.cells #[Value.slice b m d, Value.int .i64 gn, Value.bool false] 86] := ⟨_, rfl⟩
  have hb12 : Below w1.heap.size w1 w2 := by rw [hw2]; exact allocs_below _ w1
  have hz2 : w2.heap.size = w1.heap.size + 2 := by rw [hw2, allocs_size]; simp
  have HHA : Hid (w2.heap[w1.heap.size]? = some (.cells #[Value.slice a n c, Value.int .i64 fn, Value.bool false] 81 (0, 0))) := by rw [hw2]; exact Lib.hid (allocs_at _ w1 0 _ rfl)
  have HHB : Hid (w2.heap[w1.heap.size + 1]? = some (.cells #[Value.slice b m d, Value.int .i64 gn, Value.bool false] 86 (0, 0))) := by rw [hw2]; exact Lib.hid (allocs_at _ w1 1 _ rfl)
  have HA := Lib.hid (hA.below hb12)
  have HB := Lib.hid (hb1.trans (hb12.mono hb1.size))
  have HOK := Lib.hid hok
  have HB12 := Lib.hid hb12
  clear hA hb1 hok hb12 HBG
  go_upto_region 2 with fail
  rw [show (w1.alloc (Obj.cells #[Value.slice a n c, Value.int .i64 fn, Value.bool false] 81)).alloc (Obj.cells #[Value.slice b m d, Value.int .i64 gn, Value.bool false] 86) = w2 from hw2.symm]
  clear hw2
  have HAW := Lib.hid (fun w' (h : Below w2.heap.size w2 w') => awake8_of w' (ML.below (HML.out.below HB.out HML.out.1) h (Nat.lt_of_lt_of_le HML.out.1 HB.out.size)))
  cases ok
  · go_wp2_with fail
    refine (HAW.out _ (Below.refl _ _)).mono ?_; rintro e w3 ⟨rfl, hb3⟩
    have HB3 := Lib.hid (HB.out.trans (hb3.mono HB.out.size))
    clear hb3
    go_wp2_with fail
    go_ret
    exact ⟨rfl, HB3.out⟩
  · obtain ⟨rfl, rfl, hn40, hnc, hcm, g, o, Ms, rfl, hMl, hn0, hro, hrd⟩ := HOK.out rfl
    have HRO := Lib.hid (hro.below HB12.out)
    have HRD := Lib.hid (hrd.below HB12.out)
    have HMl := Lib.hid hMl
    clear hro hrd hMl HOK
    have HIns := Lib.hid (insert_back (c := c) (e := gn) I HRO.out HMl.out (by omega) hnc hcm)
    have k0 : w2.cell? ⟨w1.heap.size, 0, none⟩ = some (.slice (some ⟨g, o, none⟩) m c) := by rw [cell_at HHA.out]; rfl
    have k1 : w2.cell? ⟨w1.heap.size, 1, none⟩ = some (.int .i64 gn) := by rw [cell_at HHA.out]; rfl
    have k2 : w2.cell? ⟨w1.heap.size, 2, none⟩ = some (.bool false) := by rw [cell_at HHA.out]; rfl
    go_wp2_with fail
    refine HIns.out.mono ?_
    intro e w3 hpost
    obtain ⟨hb3, hpost⟩ := hpost
    have HB3 := Lib.hid hb3
    clear hb3 HIns k0 k1 k2
    have HSm := Lib.hid (fun w' a2 c2 (h : Below w2.heap.size w2 w') (hr : RoIn w' l a2 Ms) => same_self (c1 := c) (c2 := c2) (e := gn) (HA.out.below h) (by omega) (HRO.out.below h) hr HMl.out (by omega))
    have hz21 : w1.heap.size < w2.heap.size := by omega
    have hz22 : w1.heap.size + 1 < w2.heap.size := by omega
    rcases hpost with ⟨hI, rfl⟩ | ⟨hI, hn, rfl⟩ | ⟨hI, hn, g3, c3, rfl, hro3, hc3, hcm3⟩
    case' inl =>
      have al := below_al w3 (Obj.cells #[Value.slice none 0 0, Value.int .i64 0, Value.bool false] 81)
      have HZ := Lib.hid (HB3.out.trans (al.mono HB3.out.size))
      clear hI al HB3
      go_upto_region 9 with fail
      generalize w3.alloc (Obj.cells #[Value.slice none 0 0, Value.int .i64 0, Value.bool false] 81) = wz at *
    case' inr.inl =>
      have al := below_al w3 (Obj.cells #[Value.slice none 0 0, Value.int .i64 0, Value.bool false] 81)
      have HZ := Lib.hid (HB3.out.trans (al.mono HB3.out.size))
      clear hI hn al HB3
      go_upto_region 9 with fail
      generalize w3.alloc (Obj.cells #[Value.slice none 0 0, Value.int .i64 0, Value.bool false] 81) = wz at *
    case' inr.inr =>
      have al := below_al w3 (Obj.cells #[Value.slice (some ⟨g3, 0, none⟩) (m + 1) c3, Value.int .i64 gn, Value.bool false] 81)
      have h4 := heap_alloc_new w3 (Obj.cells #[Value.slice (some ⟨g3, 0, none⟩) (m + 1) c3, Value.int .i64 gn, Value.bool false] 81)
      have HB4 := Lib.hid (HB3.out.trans (al.mono HB3.out.size))
      have HR4 := Lib.hid (hro3.below al)
      have H4 := Lib.hid h4
      have hz3 := HB3.out.size
      clear al HB3 hro3 h4
      go_upto_region 6 with fail
      generalize hw4 : w3.alloc (Obj.cells #[Value.slice (some ⟨g3, 0, none⟩) (m + 1) c3, Value.int .i64 gn, Value.bool false] 81) = w4 at *
      have hz4 : w3.heap.size < w4.heap.size := by rw [← hw4]; simp
      have HDl := Lib.hid (delete_back (c := c3) (e := gn) I hI HR4.out HMl.out hn0 (by omega) hc3 hcm3)
      have k0 : w4.cell? ⟨w3.heap.size, 0, none⟩ = some (.slice (some ⟨g3, 0, none⟩) (m + 1) c3) := by rw [cell_at H4.out]; rfl
      have k1 : w4.cell? ⟨w3.heap.size, 1, none⟩ = some (.int .i64 gn) := by rw [cell_at H4.out]; rfl
      have k2 : w4.cell? ⟨w3.heap.size, 2, none⟩ = some (.bool false) := by rw [cell_at H4.out]; rfl
      clear hw4 hI hn hc3 hcm3 HR4
      go_wp2_with fail
      refine HDl.out.mono ?_; rintro e w5 ⟨g5, c5, rfl, hro5, -, -, hb5⟩
      have al := below_al w5 (Obj.cells #[Value.slice (some ⟨g5, 0, none⟩) m c5, Value.int .i64 gn, Value.bool false] 81)
      have h6 := heap_alloc_new w5 (Obj.cells #[Value.slice (some ⟨g5, 0, none⟩) m c5, Value.int .i64 gn, Value.bool false] 81)
      have hb6 := hb5.trans (al.mono hb5.size)
      have HB6 := Lib.hid (HB4.out.trans (hb6.mono HB4.out.size))
      have HR6 := Lib.hid (hro5.below al)
      have H6 := Lib.hid h6
      have H46 := Lib.hid ((hb6.block _ hz4).trans H4.out)
      have hz5 := hb5.size
      clear al hb5 hb6 hro5 h6 H4 HB4 HDl k0 k1 k2
      go_upto_region 7 with fail
      generalize hw6 : w5.alloc (Obj.cells #[Value.slice (some ⟨g5, 0, none⟩) m c5, Value.int .i64 gn, Value.bool false] 81) = w6 at *
      have hz6 : w5.heap.size < w6.heap.size := by rw [← hw6]; simp
      have hz36 : w3.heap.size < w6.heap.size := by omega
      have hz16 : w1.heap.size < w6.heap.size := by omega
      clear hw6
      have ld0 := fun w' (h : Below w6.heap.size w6 w') => (h.cell (p := ⟨w1.heap.size, 0, none⟩) hz16).trans ((HB6.out.cell (p := ⟨w1.heap.size, 0, none⟩) hz21).trans (show w2.cell? ⟨w1.heap.size, 0, none⟩ = some (.slice (some ⟨g, o, none⟩) m c) by rw [cell_at HHA.out]; rfl))
      have ld1 := fun w' (h : Below w6.heap.size w6 w') => (h.cell (p := ⟨w1.heap.size, 1, none⟩) hz16).trans ((HB6.out.cell (p := ⟨w1.heap.size, 1, none⟩) hz21).trans (show w2.cell? ⟨w1.heap.size, 1, none⟩ = some (.int .i64 gn) by rw [cell_at HHA.out]; rfl))
      have ld2 := fun w' (h : Below w6.heap.size w6 w') => (h.cell (p := ⟨w1.heap.size, 2, none⟩) hz16).trans ((HB6.out.cell (p := ⟨w1.heap.size, 2, none⟩) hz21).trans (show w2.cell? ⟨w1.heap.size, 2, none⟩ = some (.bool false) by rw [cell_at HHA.out]; rfl))
      have le0 := fun w' (h : Below w6.heap.size w6 w') => (h.cell (p := ⟨w5.heap.size, 0, none⟩) hz6).trans (show w6.cell? ⟨w5.heap.size, 0, none⟩ = some (.slice (some ⟨g5, 0, none⟩) m c5) by rw [cell_at H6.out]; rfl)
      have le1 := fun w' (h : Below w6.heap.size w6 w') => (h.cell (p := ⟨w5.heap.size, 1, none⟩) hz6).trans (show w6.cell? ⟨w5.heap.size, 1, none⟩ = some (.int .i64 gn) by rw [cell_at H6.out]; rfl)
      have le2 := fun w' (h : Below w6.heap.size w6 w') => (h.cell (p := ⟨w5.heap.size, 2, none⟩) hz6).trans (show w6.cell? ⟨w5.heap.size, 2, none⟩ = some (.bool false) by rw [cell_at H6.out]; rfl)
      have lf0 := fun w' (h : Below w6.heap.size w6 w') => (h.cell (p := ⟨w3.heap.size, 0, none⟩) hz36).trans (show w6.cell? ⟨w3.heap.size, 0, none⟩ = some (.slice (some ⟨g3, 0, none⟩) (m + 1) c3) by rw [cell_at H46.out]; rfl)
      have lf1 := fun w' (h : Below w6.heap.size w6 w') => (h.cell (p := ⟨w3.heap.size, 1, none⟩) hz36).trans (show w6.cell? ⟨w3.heap.size, 1, none⟩ = some (.int .i64 gn) by rw [cell_at H46.out]; rfl)
      have lf2 := fun w' (h : Below w6.heap.size w6 w') => (h.cell (p := ⟨w3.heap.size, 2, none⟩) hz36).trans (show w6.cell? ⟨w3.heap.size, 2, none⟩ = some (.bool false) by rw [cell_at H46.out]; rfl)
      have dwr : ((m : Int) + 1 != IntKind.i64.wrap ((m : Int) + 1)) = false := by
        have : IntKind.i64.wrap ((m : Int) + 1) = (m : Int) + 1 := by rw [IntKind.wrap_i64]; omega
        rw [this]; simp
      have HS6 := Lib.hid (fun w' (h : Below w6.heap.size w6 w') => HSm.out w' (some ⟨g5, 0, none⟩) c5 (HB6.out.trans (h.mono HB6.out.size)) (HR6.out.below h))
      have hb0 : Below w6.heap.size w6 w6.drew := (Below.refl _ _).drew
      go_region_held_law (fun w' => Below w6.heap.size w6 w')
        (first | assumption)
        ((first
          | (go_at_call 46; refine (HS6.out _ hb0).mono ?_; rintro e wa ⟨rfl, hba⟩; have hsa := hb0.trans (hba.mono hb0.size); clear hba)
          | (go_at_call 42; have yy := hsb; clear yy; refine (rlen_of _ _ _ _ _).mono ?_; rintro e wc ⟨rfl, hbc⟩; have hsc := hsb.trans (hbc.mono hsb.size); clear hbc)
          | (go_at_call 42; refine (rlen_of _ _ _ _ _).mono ?_; rintro e wb ⟨rfl, hbb⟩; have hsb := hsa.trans (hbb.mono hsa.size); clear hbb)))
      go_upto_region 9 with fail
      have HZ := Lib.hid (HB6.out.trans (hsc.mono HB6.out.size))
      clear ld0 ld1 ld2 le0 le1 le2 lf0 lf1 lf2 HS6 hb0 hsa hsb hsc H46 H6 HR6 HB6 hz6 hz36 hz16
      obtain ⟨wz, hwz⟩ : ∃ wz, wz = wc := ⟨_, rfl⟩
      subst hwz
    all_goals
      have hzz := HZ.out.size
      have k0 : wz.cell? ⟨w1.heap.size, 0, none⟩ = some (.slice (some ⟨g, o, none⟩) m c) := (HZ.out.cell (p := ⟨w1.heap.size, 0, none⟩) hz21).trans (by rw [cell_at HHA.out]; rfl)
      have k1 : wz.cell? ⟨w1.heap.size, 1, none⟩ = some (.int .i64 gn) := (HZ.out.cell (p := ⟨w1.heap.size, 1, none⟩) hz21).trans (by rw [cell_at HHA.out]; rfl)
      have k2 : wz.cell? ⟨w1.heap.size, 2, none⟩ = some (.bool false) := (HZ.out.cell (p := ⟨w1.heap.size, 2, none⟩) hz21).trans (by rw [cell_at HHA.out]; rfl)
      have HMv := Lib.hid (rmov_of (c := c) (e := gn) (h := false) I J (HRO.out.below HZ.out) HMl.out (by omega) hnc hcm)
      go_wp2_with fail
      refine HMv.out.mono ?_
      intro e wm hpost
      obtain ⟨hbm, hpost⟩ := hpost
      have HBm := Lib.hid (HZ.out.trans (hbm.mono hzz))
      clear hbm HMv k0 k1 k2
      rcases hpost with ⟨hIJ, rfl⟩ | ⟨⟨hI, hJ⟩, g7, c7, rfl, hro7, hc7, hcm7⟩
      case' inl =>
        have al := below_al wm (Obj.cells #[Value.slice none 0 0, Value.int .i64 0, Value.bool false] 81)
        have HY := Lib.hid (HBm.out.trans (al.mono HBm.out.size))
        clear hIJ al HBm
        go_upto_region 14 with fail
        generalize wm.alloc (Obj.cells #[Value.slice none 0 0, Value.int .i64 0, Value.bool false] 81) = wy at *
      case' inr =>
        have al := below_al wm (Obj.cells #[Value.slice (some ⟨g7, 0, none⟩) m c7, Value.int .i64 gn, Value.bool false] 81)
        have h8 := heap_alloc_new wm (Obj.cells #[Value.slice (some ⟨g7, 0, none⟩) m c7, Value.int .i64 gn, Value.bool false] 81)
        have HB8 := Lib.hid (HBm.out.trans (al.mono HBm.out.size))
        have HR8 := Lib.hid (hro7.below al)
        have H8 := Lib.hid h8
        have hzm := HBm.out.size
        clear al HBm hro7 h8
        go_upto_region 11 with fail
        generalize hw8 : wm.alloc (Obj.cells #[Value.slice (some ⟨g7, 0, none⟩) m c7, Value.int .i64 gn, Value.bool false] 81) = w8 at *
        have hz8 : wm.heap.size < w8.heap.size := by rw [← hw8]; simp
        have HMb := Lib.hid (move_back (c := c7) (e := gn) I J hI hJ HR8.out HMl.out (by omega) hc7 hcm7)
        have k0 : w8.cell? ⟨wm.heap.size, 0, none⟩ = some (.slice (some ⟨g7, 0, none⟩) m c7) := by rw [cell_at H8.out]; rfl
        have k1 : w8.cell? ⟨wm.heap.size, 1, none⟩ = some (.int .i64 gn) := by rw [cell_at H8.out]; rfl
        have k2 : w8.cell? ⟨wm.heap.size, 2, none⟩ = some (.bool false) := by rw [cell_at H8.out]; rfl
        clear hw8 hI hJ hc7 hcm7 HR8
        go_wp2_with fail
        refine HMb.out.mono ?_; rintro e w9 ⟨g9, c9, rfl, hro9, hb9⟩
        have al := below_al w9 (Obj.cells #[Value.slice (some ⟨g9, 0, none⟩) m c9, Value.int .i64 gn, Value.bool false] 81)
        have h10 := heap_alloc_new w9 (Obj.cells #[Value.slice (some ⟨g9, 0, none⟩) m c9, Value.int .i64 gn, Value.bool false] 81)
        have hb10 := hb9.trans (al.mono hb9.size)
        have HB10 := Lib.hid (HB8.out.trans (hb10.mono HB8.out.size))
        have hz9 := hb9.size
        have HR10 := Lib.hid (hro9.below al)
        have H10 := Lib.hid h10
        clear al hb9 hb10 hro9 h10 HB8 HMb k0 k1 k2 H8
        go_upto_region 12 with fail
        generalize hw10 : w9.alloc (Obj.cells #[Value.slice (some ⟨g9, 0, none⟩) m c9, Value.int .i64 gn, Value.bool false] 81) = w10 at *
        have k0 : w10.cell? ⟨w1.heap.size, 0, none⟩ = some (.slice (some ⟨g, o, none⟩) m c) := (HB10.out.cell (p := ⟨w1.heap.size, 0, none⟩) hz21).trans (by rw [cell_at HHA.out]; rfl)
        have k1 : w10.cell? ⟨w1.heap.size, 1, none⟩ = some (.int .i64 gn) := (HB10.out.cell (p := ⟨w1.heap.size, 1, none⟩) hz21).trans (by rw [cell_at HHA.out]; rfl)
        have k2 : w10.cell? ⟨w1.heap.size, 2, none⟩ = some (.bool false) := (HB10.out.cell (p := ⟨w1.heap.size, 2, none⟩) hz21).trans (by rw [cell_at HHA.out]; rfl)
        have j0 : w10.cell? ⟨w9.heap.size, 0, none⟩ = some (.slice (some ⟨g9, 0, none⟩) m c9) := by rw [cell_at H10.out]; rfl
        have j1 : w10.cell? ⟨w9.heap.size, 1, none⟩ = some (.int .i64 gn) := by rw [cell_at H10.out]; rfl
        have j2 : w10.cell? ⟨w9.heap.size, 2, none⟩ = some (.bool false) := by rw [cell_at H10.out]; rfl
        have HS10 := Lib.hid (HSm.out w10 (some ⟨g9, 0, none⟩) c9 HB10.out HR10.out)
        clear hw10 HR10 H10
        go_wp2_with fail
        refine HS10.out.mono ?_; rintro e wy ⟨rfl, hby⟩
        have HY := Lib.hid (HB10.out.trans (hby.mono HB10.out.size))
        clear hby HS10 HB10 k0 k1 k2 j0 j1 j2
        go_upto_region 14 with fail
      all_goals
        have hyz := HY.out.size
        have hy1 : w1.heap.size < wy.heap.size := by omega
        have hy2 : w1.heap.size + 1 < wy.heap.size := by omega
        have ld0 := fun w' (h : Below wy.heap.size wy w') => (h.cell (p := ⟨w1.heap.size, 0, none⟩) hy1).trans ((HY.out.cell (p := ⟨w1.heap.size, 0, none⟩) hz21).trans (show w2.cell? ⟨w1.heap.size, 0, none⟩ = some (.slice (some ⟨g, o, none⟩) m c) by rw [cell_at HHA.out]; rfl))
        have ld1 := fun w' (h : Below wy.heap.size wy w') => (h.cell (p := ⟨w1.heap.size, 1, none⟩) hy1).trans ((HY.out.cell (p := ⟨w1.heap.size, 1, none⟩) hz21).trans (show w2.cell? ⟨w1.heap.size, 1, none⟩ = some (.int .i64 gn) by rw [cell_at HHA.out]; rfl))
        have ld2 := fun w' (h : Below wy.heap.size wy w') => (h.cell (p := ⟨w1.heap.size, 2, none⟩) hy1).trans ((HY.out.cell (p := ⟨w1.heap.size, 2, none⟩) hz21).trans (show w2.cell? ⟨w1.heap.size, 2, none⟩ = some (.bool false) by rw [cell_at HHA.out]; rfl))
        have le0 := fun w' (h : Below wy.heap.size wy w') => (h.cell (p := ⟨w1.heap.size + 1, 0, none⟩) hy2).trans ((HY.out.cell (p := ⟨w1.heap.size + 1, 0, none⟩) hz22).trans (show w2.cell? ⟨w1.heap.size + 1, 0, none⟩ = some (.slice b m d) by rw [cell_at HHB.out]; rfl))
        have le1 := fun w' (h : Below wy.heap.size wy w') => (h.cell (p := ⟨w1.heap.size + 1, 1, none⟩) hy2).trans ((HY.out.cell (p := ⟨w1.heap.size + 1, 1, none⟩) hz22).trans (show w2.cell? ⟨w1.heap.size + 1, 1, none⟩ = some (.int .i64 gn) by rw [cell_at HHB.out]; rfl))
        have le2 := fun w' (h : Below wy.heap.size wy w') => (h.cell (p := ⟨w1.heap.size + 1, 2, none⟩) hy2).trans ((HY.out.cell (p := ⟨w1.heap.size + 1, 2, none⟩) hz22).trans (show w2.cell? ⟨w1.heap.size + 1, 2, none⟩ = some (.bool false) by rw [cell_at HHB.out]; rfl))
        have HPl := Lib.hid (fun w' (h : Below w2.heap.size w2 w') => plain_m (c := c) (e := gn) (HA.out.below h) (by omega) (HRO.out.below h) HMl.out (by omega))
        have HSr := Lib.hid (fun w' a' c' (h : Below w2.heap.size w2 w') (hr : Rd w' 3 a' m (rcC (Ms.map (rc l)))) => rsame_m (c := c') (d := d) (e := gn) hr (HRD.out.below h) (by rw [List.length_map, HMl.out]) (by omega))
        have hb0 : Below wy.heap.size wy wy.drew := (Below.refl _ _).drew
        have hbY := HY.out.trans (hb0.mono hyz)
        go_region_held_law (fun w' => Below wy.heap.size wy w')
          (first | assumption)
          ((first
            | (go_at_call 34; refine (HPl.out _ hbY).mono ?_; rintro e wa ⟨aP, cP, rfl, hrP, hba⟩; have hsa := hb0.trans (hba.mono hb0.size); have HRP := Lib.hid hrP; have hsY := hbY.trans (hba.mono hbY.size); clear hba hrP)
            | (go_at_call 33; refine (HSr.out _ aP cP hsY HRP.out).mono ?_; rintro e wb ⟨rfl, hbb⟩; have hsb := hsa.trans (hbb.mono hsa.size); have hsZ := hsY.trans (hbb.mono hsY.size); clear hbb)
            | (go_at_call 38; refine (HAW.out _ hsZ).mono ?_; rintro e wc ⟨rfl, hbc⟩; have hsc := hsb.trans (hbc.mono hsb.size); have hsX := hsZ.trans (hbc.mono hsZ.size); clear hbc)))
        all_goals
          have HX := Lib.hid (HB.out.trans (hsX.mono HB.out.size))
          clear ld0 ld1 ld2 le0 le1 le2 hsa hsb hsc hsY hsZ hsX
          go_wp2_with fail
          go_ret
          exact ⟨rfl, HX.out⟩

end Go.Proofs.Ytmdifcgnmkpecaa
