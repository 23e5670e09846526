/-
  Texts of this seat, put together (a claim holds few texts): RwD, RwF.
-/
import Derived.Test.YtkgakgceamafcaaGreatMk22
import Derived.Deep.AppendLies
import Derived.Deep.CutBlock
import Derived.Deep.CutRange
import Derived.Deep.RegionHeld3
import Derived.BigQuiet

namespace Go.Proofs.YtkgakgceamafcaaGreat
open Go Go.RowKit
set_option linter.unusedVariables false

set_option maxRecDepth 100000 in
set_option maxHeartbeats 2000000 in
theorem rat_of {w : World} {l : List UInt8} {a : Option Addr} {c : Nat} {e : Int} {h : Bool} {ps : List CelM} (i : Nat) (hi : i < ps.length) (hr : RoIn w l a ps) (hl : ps.length ≤ 100000) :
    Calls Tryz.prog 64 #[rowV a ps.length c e h, .int .i64 i] w fun e' w' => e' = .returned (.tuple #[.agg #[.slice ps[i].a ps[i].n ps[i].c, .int .i64 ps[i].x, .int .i64 ps[i].y, .bool ps[i].k], .bool true]) ∧ Below w.heap.size w w' := by
  obtain ⟨w1, hw1⟩ : ∃ w1, w1 = allocs w [Obj.cells #[Value.slice a ps.length c, Value.int .i64 e, Value.bool h] 103, Obj.cells #[Value.slice none 0 0, Value.int .i64 0, Value.int .i64 0, Value.bool false] 61] := ⟨_, rfl⟩
  have HB1 : Hid (Below w.heap.size w w1) := by rw [hw1]; exact Lib.hid (allocs_below _ w)
  have hzw : w1.heap.size > w.heap.size + 1 := by rw [hw1, allocs_size]; simp
  have h0 : w1.heap[w.heap.size]? = some (.cells #[Value.slice a ps.length c, Value.int .i64 e, Value.bool h] 103 (0, 0)) := by rw [hw1]; exact allocs_at _ w 0 _ rfl
  have HH1 : Hid (w1.heap[w.heap.size + 1]? = some (Obj.cells #[Value.slice none 0 0, Value.int .i64 0, Value.int .i64 0, Value.bool false] 61)) := by rw [hw1]; exact Lib.hid (allocs_at _ w 1 _ rfl)
  obtain ⟨g, o, rfl, hg, x0, x1, x2, x3⟩ := rd_cell hr.rd hi
  generalize ps[i] = M at *
  generalize ps.length = n at *
  have k0 : w1.cell? ⟨w.heap.size, 0, none⟩ = some (Value.slice (some ⟨g, o, none⟩) n c) := by rw [cell_at h0]; rfl
  have k1 : w1.cell? ⟨w.heap.size, 1, none⟩ = some (.int .i64 e) := by rw [cell_at h0]; rfl
  have k2 : w1.cell? ⟨w.heap.size, 2, none⟩ = some (.bool h) := by rw [cell_at h0]; rfl
  have HHas := Lib.hid (fun w' => rhas_of (w := w') (some ⟨g, o, none⟩) n c e h (i : Int))
  rw [decide_eq_true (show (0 : Int) ≤ (i : Int) ∧ (i : Int) < (n : Int) by omega)] at HHas
  have H0 := Lib.hid h0
  have e0 : (0 : Int) ≤ (i : Int) := by omega
  have e1 : (i : Int) < (n : Int) := by omega
  clear h0 hr
  go_enter Tryz.func64, Tryz.ntmps64
  go_upto_region 1 with fail
  rw [show (w.alloc (Obj.cells #[Value.slice (some ⟨g, o, none⟩) n c, Value.int .i64 e, Value.bool h] 103)).alloc (Obj.cells #[Value.slice none 0 0, Value.int .i64 0, Value.int .i64 0, Value.bool false] 61) = w1 from hw1.symm]
  clear hw1
  go_wp2_with fail
  refine (HHas.out _).mono ?_; rintro e' w2 ⟨rfl, hb2⟩
  have HB2 := Lib.hid (HB1.out.trans (hb2.mono (by omega)))
  have h02 := (hb2.block _ (lt_of_heap H0.out)).trans H0.out
  have hh2 := (hb2.block _ (lt_of_heap HH1.out)).trans HH1.out
  have zz := fun i => unfrozen hh2 i
  have hbx := HB1.out.trans (hb2.mono (by omega))
  have x0' := (hbx.cell (p := ⟨g, o + i * 4, none⟩) hg).trans x0
  have x1' := (hbx.cell (p := ⟨g, o + i * 4 + 1, none⟩) hg).trans x1
  have x2' := (hbx.cell (p := ⟨g, o + i * 4 + 2, none⟩) hg).trans x2
  have x3' := (hbx.cell (p := ⟨g, o + i * 4 + 3, none⟩) hg).trans x3
  have y0 : w2.cell? ⟨w.heap.size, 0, none⟩ = some (.slice (some ⟨g, o, none⟩) n c) := by rw [cell_at h02]; rfl
  have r0 : w2.cell? ⟨w.heap.size + 1, 0, none⟩ = some (.slice none 0 0) := by rw [cell_at hh2]; rfl
  have r1 : w2.cell? ⟨w.heap.size + 1, 1, none⟩ = some (.int .i64 0) := by rw [cell_at hh2]; rfl
  have r2 : w2.cell? ⟨w.heap.size + 1, 2, none⟩ = some (.int .i64 0) := by rw [cell_at hh2]; rfl
  have r3 : w2.cell? ⟨w.heap.size + 1, 3, none⟩ = some (.bool false) := by rw [cell_at hh2]; rfl
  have HH2 := Lib.hid hh2
  clear hb2 h02 hh2 hbx x0 x1 x2 x3 HHas k0 k1 k2
  go_wp2_with fail
  have hs := set4_at HH2.out (.slice M.a M.n M.c) (.int .i64 M.x) (.int .i64 M.y) (.bool M.k)
  have hB := set4_below HB2.out (show w.heap.size ≤ w.heap.size + 1 by omega) (.slice M.a M.n M.c) (.int .i64 M.x) (.int .i64 M.y) (.bool M.k)
  have q0 : (set4 w2 (w.heap.size + 1) (.slice M.a M.n M.c) (.int .i64 M.x) (.int .i64 M.y) (.bool M.k)).cell? ⟨w.heap.size + 1, 0, none⟩ = some (.slice M.a M.n M.c) := by rw [cell_at hs]; rfl
  have q1 : (set4 w2 (w.heap.size + 1) (.slice M.a M.n M.c) (.int .i64 M.x) (.int .i64 M.y) (.bool M.k)).cell? ⟨w.heap.size + 1, 1, none⟩ = some (.int .i64 M.x) := by rw [cell_at hs]; rfl
  have q2 : (set4 w2 (w.heap.size + 1) (.slice M.a M.n M.c) (.int .i64 M.x) (.int .i64 M.y) (.bool M.k)).cell? ⟨w.heap.size + 1, 2, none⟩ = some (.int .i64 M.y) := by rw [cell_at hs]; rfl
  have q3 : (set4 w2 (w.heap.size + 1) (.slice M.a M.n M.c) (.int .i64 M.x) (.int .i64 M.y) (.bool M.k)).cell? ⟨w.heap.size + 1, 3, none⟩ = some (.bool M.k) := by rw [cell_at hs]; rfl
  unfold set4 at hB q0 q1 q2 q3
  exact bodyPost_ret (v := .tuple #[.agg #[.slice M.a M.n M.c, .int .i64 M.x, .int .i64 M.y, .bool M.k], .bool true]) (by simp [results, Tryz.results64, go_sem, q0, q1, q2, q3]) rfl ⟨rfl, hB⟩

/-- A cell as a field. -/
def prP (l : List UInt8) (p : CelM) : List UInt8 := if p.k = true then subL l p.x p.y else putP (atL l p.t)
/-- Fields with commas between them. -/
def jnP : List (List UInt8) → List UInt8
  | [] => []
  | x :: xs => x ++ xs.flatMap fun y => 44 :: y
theorem jnP_snoc (xs : List (List UInt8)) (x : List UInt8) : jnP (xs ++ [x]) = if xs = [] then x else jnP xs ++ 44 :: x := by
  cases xs with
  | nil => simp [jnP]
  | cons y ys => simp [jnP, List.flatMap_append]
theorem prP_len {l : List UInt8} {p : CelM} (hl : l.length ≤ 16384) (ht : p.t.length ≤ 20000) : (prP l p).length ≤ 40002 := by
  unfold prP
  split
  · unfold subL; split
    · rw [List.length_take, List.length_drop]; omega
    · simp
  · have := putP_len (atL l p.t)
    rw [atL_len] at this; omega
theorem cprint_of {w : World} {B B' p : Nat} {l : List UInt8} {m : CelM} (h : Ar w B p l) (hl : l.length ≤ 16384) (hm : CeIn w B' l m) :
    Calls Tryz.prog 108 #[.agg #[.slice m.a m.n m.c, .int .i64 m.x, .int .i64 m.y, .bool m.k], .pointer (some ⟨p, 0, none⟩)] w (BytesPost (prP l m) w) := by
  obtain ⟨a, n, c, x, y, k, t⟩ := m
  cases k with
  | false => exact cprint_text x y h hl hm.tx.tx hm.inl
  | true => exact cprint_kept x y h hl
/-- A bound of a line's bytes. -/
def lim (k : Nat) : Nat := k * 50000
theorem lim_zero : lim 0 = 0 := rfl
theorem lim_step (k : Nat) : lim (k + 1) = lim k + 50000 := by unfold lim; rw [Nat.add_mul]
theorem lim_le {k : Nat} (h : k ≤ 1000) : lim k ≤ 50000000 := by unfold lim; omega
/-- What holds at the head of Print's loop. -/
def PrJ (l : List UInt8) (ps : List CelM) (w : World) (v5 v11 : Value) (wr : World) : Prop := ∃ (k n : Nat) (a5 : Option Addr) (c5 : Nat), k ≤ ps.length ∧ v11 = .int .i64 k ∧ v5 = .slice a5 n c5 ∧ n = (jnP ((ps.take k).map (prP l))).length ∧ n ≤ lim k ∧ wr.ownsRow w.heap.size 5 1 (.slice a5 n c5) n (bc (jnP ((ps.take k).map (prP l)))) ∧ Below w.heap.size w wr

set_option maxRecDepth 100000 in
set_option maxHeartbeats 4000000 in
theorem rprint_of {w : World} {B p : Nat} {l : List UInt8} {a : Option Addr} {c : Nat} {e : Int} {h : Bool} {ps : List CelM} (hA : Ar w B p l) (hl : l.length ≤ 16384) (hr : RoIn w l a ps) (hn : ps.length ≤ 1000) :
    Calls Tryz.prog 56 #[rowV a ps.length c e h, .pointer (some ⟨p, 0, none⟩)] w (BytesPost (jnP (ps.map (prP l))) w) := by
  obtain ⟨i0, hi0, hz0, hz1, hz2⟩ := info_parts info_u8
  have al := below_al w (Obj.cells #[Value.slice a ps.length c, Value.int .i64 e, Value.bool h] 103)
  have k0 : (w.alloc (Obj.cells #[Value.slice a ps.length c, Value.int .i64 e, Value.bool h] 103)).cell? ⟨w.heap.size, 0, none⟩ = some (.slice a ps.length c) := by rw [cell_at (heap_alloc_new w _)]; rfl
  have HA1 := Lib.hid hA
  have HR1 := Lib.hid hr
  have HB0 := Lib.hid al
  clear al hA hr
  go_enter Tryz.func56, Tryz.ntmps56
  go_wp2_with fail
  clear k0
  generalize w.alloc (Obj.cells #[Value.slice a ps.length c, Value.int .i64 e, Value.bool h] 103) = w1 at *
  go_loopw [5, 11] (fun v5 v11 wr => PrJ l ps w v5 v11 wr) (fun _ v11 _ => ps.length - (intOf v11).toNat)
  case atStart => exact ⟨0, 0, none, 0, by omega, rfl, rfl, by simp [jnP], by rw [lim_zero]; omega, by simpa [jnP, bc] using own_nil _ _ _ _, HB0.out⟩
  case round =>
    obtain ⟨k, n, a5, c5, hk, rfl, rfl, hnn, hnk, ho, hb⟩ := hrel
    have HO := Lib.hid ho
    have HB := Lib.hid hb
    have HNN := Lib.hid hnn
    have hzr := hb.size
    clear ho hb hnn
    by_cases hlt : k < ps.length
    · have dk : decide (k < ps.length) = true := decide_eq_true hlt
      obtain ⟨g, o, rfl, hg, x0, x1, x2, x3⟩ := rd_cell HR1.out.rd hlt
      have y0 := (HB.out.cell (p := ⟨g, o + k * 4, none⟩) hg).trans x0
      have y1 := (HB.out.cell (p := ⟨g, o + k * 4 + 1, none⟩) hg).trans x1
      have y2 := (HB.out.cell (p := ⟨g, o + k * 4 + 2, none⟩) hg).trans x2
      have y3 := (HB.out.cell (p := ⟨g, o + k * 4 + 3, none⟩) hg).trans x3
      have hM := HR1.out.ces ps[k] (List.getElem_mem hlt)
      have hst : jnP ((ps.take (k + 1)).map (prP l)) = if k = 0 then prP l ps[k] else jnP ((ps.take k).map (prP l)) ++ 44 :: prP l ps[k] := by
        rw [List.take_succ_eq_append_getElem hlt, List.map_append, List.map_cons, List.map_nil, jnP_snoc]
        by_cases h0 : k = 0
        · subst h0; simp
        · rw [if_neg h0, if_neg (fun e => h0 (by have := congrArg List.length e; rw [List.length_map, List.length_take, Nat.min_eq_left (by omega), List.length_nil] at this; exact this))]
      have hpl := prP_len hl (by obtain ⟨_, _, _, _, h, _⟩ := hM.tx; exact h.1)
      have HST := Lib.hid hst
      have HMr := Lib.hid (hM.below HB.out)
      generalize ps[k] = M at *
      have al := below_al wr (Obj.cells #[Value.slice M.a M.n M.c, Value.int .i64 M.x, Value.int .i64 M.y, Value.bool M.k] 61)
      have hfn := heap_alloc_new wr (Obj.cells #[Value.slice M.a M.n M.c, Value.int .i64 M.x, Value.int .i64 M.y, Value.bool M.k] 61)
      have hzf : wr.heap.size < (wr.alloc (Obj.cells #[Value.slice M.a M.n M.c, Value.int .i64 M.x, Value.int .i64 M.y, Value.bool M.k] 61)).heap.size := by simp
      have e0 : (0 : Int) ≤ (k : Int) := by omega
      have e1 : (k : Int) < (ps.length : Int) := by omega
      clear hst hM x0 x1 x2 x3
      go_upto_region 5 with fail
      have HO2 := Lib.hid (own_below HO.out al)
      have HB2 := Lib.hid (HB.out.trans (al.mono hzr))
      have HM2 := Lib.hid (HMr.out.below al)
      have HF2 := Lib.hid hfn
      generalize wr.alloc (Obj.cells #[Value.slice M.a M.n M.c, Value.int .i64 M.x, Value.int .i64 M.y, Value.bool M.k] 61) = w2 at *
      clear al hfn y0 y1 y2 y3 HO HB HMr
      generalize hJ : jnP ((ps.take k).map (prP l)) = J at *
      generalize hJ2 : jnP ((ps.take (k + 1)).map (prP l)) = J2 at *
      have HJ2 := Lib.hid hJ2
      clear hJ2 hJ
      go_upto_if 17 with fail
      go_cut [5] from 16 to 20 (fun s5 wx => ∃ (a6 : Option Addr) (c6 n6 : Nat) (J6 : List UInt8), s5 = .slice a6 n6 c6 ∧ n6 = J6.length ∧ n6 ≤ lim k + 1 ∧ J2 = J6 ++ prP l M ∧ wx.ownsRow w.heap.size 5 1 (.slice a6 n6 c6) n6 (bc J6) ∧ Below w.heap.size w wx ∧ wx.heap[wr.heap.size]? = some (.cells #[Value.slice M.a M.n M.c, Value.int .i64 M.x, Value.int .i64 M.y, Value.bool M.k] 61 (0, 0)) ∧ CeIn wx 0 l M)
      case first =>
        by_cases h0 : k = 0
        · have d0 : decide ((0 : Int) < (k : Int)) = false := decide_eq_false (by omega)
          have d0' : decide (0 < k) = false := decide_eq_false (by omega)
          go_wp2_with fail
          go_meet
          refine ⟨a5, c5, n, J, rfl, HNN.out, Nat.le_succ_of_le hnk, ?_, HO2.out, HB2.out, HF2.out, HM2.out⟩
          have := HNN.out
          have hJn : J = [] := List.eq_nil_of_length_eq_zero (by rw [← this]; subst h0; rw [lim_zero] at hnk; omega)
          rw [HST.out, if_pos h0, hJn, List.nil_append]
        · have d0 : decide ((0 : Int) < (k : Int)) = true := decide_eq_true (by omega)
          have d0' : decide (0 < k) = true := decide_eq_true (by omega)
          have hn7 : n ≤ 50000000 := Nat.le_trans hnk (lim_le (by omega))
          have C44 : Hid ((bc [44]).length = 1 * 1) := Lib.hid rfl
          go_wp2_with (first
            | (at_builtin; refine wpList_append_own _ rfl (.tmp 18) (.tmp 19) 32 rfl w.heap.size 5 i0 (.int .u8 0) 1 1 Tryz.underlying32 hi0 hz0 hz1 hz2 rfl (by decide) (.slice a5 n c5) n (bc J) rfl (HO2.out.alloc _) ⟨w2.heap.size, 0, none⟩ 1 1 (bc [44]) rfl C44.out ?c1 ?c2 ?c3 ?c4 ?c5 ?_)
            | fail)
          case c1 =>
            intro j u hj
            rw [Addr.add_lit, Nat.zero_add, cell_at (heap_alloc_new w2 _)]
            simpa [bc] using hj
          case c2 => exact bc_one [44]
          case c3 => unfold maxLen; omega
          case c4 => omega
          case c5 => simp only [World.size_alloc]; omega
          intro v7 wB ho7 hg7 _
          obtain ⟨a8, c8, rfl⟩ := own_slice ho7
          have HO7 := Lib.hid ho7
          have al := below_al w2 (Obj.cells #[Value.int IntKind.u8 44] 5)
          have hoa := own_below HO2.out al
          have hz22 := HB2.out.size
          have HB7 := Lib.hid ((HB2.out.trans (al.mono hz22)).grown hg7 (by simp only [World.size_alloc]; omega) (fun q hq => (hoa.lt q hq).1))
          have hf2 := (al.block _ (lt_of_heap HF2.out)).trans HF2.out
          have HF7 := Lib.hid ((hg7.block wr.heap.size (lt_of_heap hf2) (fun e' => own_ne hoa hf2 (by decide) e'.symm)).trans hf2)
          have HM7 := Lib.hid ((HM2.out.below al).grown hoa (by decide) hg7)
          have HJ6 : Hid (J2 = (J ++ [44]) ++ prP l M) := by show _ = _; rw [HST.out, if_neg h0]; simp
          have HO8 : Hid (wB.ownsRow w.heap.size 5 1 (.slice a8 (n + 1) c8) (n + 1) (bc (J ++ [44]))) := by rw [show bc (J ++ [44]) = bc J ++ bc [44] by simp [bc]]; exact HO7
          have HL6 : Hid (n + 1 = (J ++ [44]).length) := by show _ = _; rw [List.length_append, ← HNN.out]; rfl
          clear ho7 hg7 al hoa hf2
          generalize J ++ [44] = J7 at *
          go_wp2_with fail
          go_meet
          exact ⟨a8, c8, n + 1, J7, rfl, HL6.out, by omega, HJ6.out, HO8.out, HB7.out, HF7.out, HM7.out⟩
      case rest =>
        obtain ⟨a6, c6, n6, J6, rfl, hn6, hnk6, hj6, ho6, hb6, hf6, hm6⟩ := hcut
        have HN6 := Lib.hid hn6
        have HJ6 := Lib.hid hj6
        have HO6 := Lib.hid ho6
        have HB6 := Lib.hid hb6
        have HF6 := Lib.hid hf6
        have HP6 := Lib.hid (cprint_of (HA1.out.below hb6) hl hm6)
        have z0 : wc.cell? ⟨wr.heap.size, 0, none⟩ = some (.slice M.a M.n M.c) := by rw [cell_at hf6]; rfl
        have z1 : wc.cell? ⟨wr.heap.size, 1, none⟩ = some (.int .i64 M.x) := by rw [cell_at hf6]; rfl
        have z2 : wc.cell? ⟨wr.heap.size, 2, none⟩ = some (.int .i64 M.y) := by rw [cell_at hf6]; rfl
        have z3 : wc.cell? ⟨wr.heap.size, 3, none⟩ = some (.bool M.k) := by rw [cell_at hf6]; rfl
        clear hn6 hj6 ho6 hb6 hf6 hm6 HO2 HB2 HF2 HM2 HST HNN
        generalize hY : prP l M = Y at *
        clear hY
        go_wp2_with fail
        refine HP6.out.mono ?_; rintro e' w7 ⟨ay, cy, rfl, ho7, hb7⟩
        have HB7 := Lib.hid (HB6.out.trans (hb7.mono HB6.out.size))
        have HO7 := Lib.hid (own_below HO6.out hb7)
        have hzw7 : w.heap.size ≤ w7.heap.size := HB7.out.size
        have HBL := Lib.hid (bc_len Y)
        have C2 := Lib.hid (bc_one Y)
        have hjl : n6 + Y.length ≤ lim (k + 1) := by rw [lim_step]; omega
        have hnb : n6 + Y.length ≤ 51000000 := by have := lim_le (show k ≤ 1000 by omega); omega
        have HJL : Hid (n6 + Y.length = J2.length) := by show _ = _; rw [HJ6.out, List.length_append, HN6.out]
        have HJB : Hid (bc J6 ++ bc Y = bc J2) := by show _ = _; rw [HJ6.out]; simp [bc]
        clear hb7 HP6 z0 z1 z2 z3
        rcases own_formD ho7 with ⟨rfl, h0, rfl⟩ | ⟨gy, rfl, hcy⟩
        · have HE2 : Hid (n6 = J2.length) := by show _ = _; rw [← HJL.out]; omega
          have HX2 : Hid (bc J6 = bc J2) := by
            show _ = _
            rw [← HJB.out, show bc Y = [] from List.length_eq_zero_iff.1 (by rw [bc_len]; exact h0), List.append_nil]
          have hnk2 : n6 ≤ lim (k + 1) := by omega
          clear HJL HJB ho7 HBL hjl hnb hpl
          generalize Y.length = m at *
          subst h0
          go_wp2_with (first
            | (at_builtin; refine wpList_append_own_none rfl (.tmp 21) (.tmp 24) 32 rfl w.heap.size 5 i0 1 Tryz.underlying32 hi0 (.slice a6 n6 c6) n6 (bc J6) rfl HO7.out rfl ?_)
            | fail)
          go_wp2_with fail
          go_roundw
          case rel => exact ⟨k + 1, n6, a6, c6, hlt, by go_num, rfl, by rw [HJ2.out]; exact HE2.out, hnk2, by rw [HJ2.out, ← HX2.out]; exact HO7.out, HB7.out⟩
          case measure => simp [intOf]; omega
        · have C0 : Hid ((bc Y).length = Y.length * 1) := by show _ = _; rw [HBL.out]; omega
          have C1 : Hid (∀ j u, (bc Y)[j]? = some u → w7.cell? (Addr.add ⟨gy, 0, none⟩ j) = some u) := by
            intro j u hj
            rw [Addr.add_lit, Nat.zero_add]
            exact hcy j u hj
          have C3 : Hid (n6 + Y.length ≤ maxLen) := by show _ ≤ _; unfold maxLen; omega
          have C4 : Hid ((n6 + Y.length) * 1 ≤ 140737488355328) := by show _ ≤ _; omega
          have C5 : Hid (w.heap.size ≤ w7.heap.size) := hzw7
          clear hcy ho7 HBL hpl
          generalize bc Y = ys at *
          generalize bc J6 = xs6 at *
          generalize Y.length = m at *
          go_wp2_with (first
            | (at_builtin; refine wpList_append_own _ rfl (.tmp 21) (.tmp 24) 32 rfl w.heap.size 5 i0 (.int .u8 0) 1 1 Tryz.underlying32 hi0 hz0 hz1 hz2 rfl (by decide) (.slice a6 n6 c6) n6 xs6 rfl HO7.out ⟨gy, 0, none⟩ m cy ys rfl C0.out C1.out C2.out C3.out C4.out C5.out ?_)
            | fail)
          intro v8 wB ho8 hg8 _
          obtain ⟨A9, C9, rfl⟩ := own_slice ho8
          have OF := Lib.hid ho8
          have BF := Lib.hid (HB7.out.grown hg8 hzw7 (fun q hq => (HO7.out.lt q hq).1))
          clear ho8 hg8 C0 C1 C2 C3 C4 C5
          go_wp2_with fail
          go_roundw
          case rel => exact ⟨k + 1, n6 + m, A9, C9, hlt, by go_num, rfl, by rw [HJ2.out]; exact HJL.out, hjl, by rw [HJ2.out, ← HJB.out]; exact OF.out, BF.out⟩
          case measure => simp [intOf]; omega
    · have dk : decide (k < ps.length) = false := decide_eq_false hlt
      obtain rfl : k = ps.length := by omega
      have h1 := HNN.out
      have HO9 := HO.out
      rw [List.take_length] at h1 HO9
      subst h1
      have HO10 := Lib.hid HO9
      clear HO9 HNN HO
      go_wp2_with fail
      go_ret
      exact ⟨a5, c5, rfl, HO10.out, HB.out⟩

end Go.Proofs.YtkgakgceamafcaaGreat

namespace Go.Proofs.YtkgakgceamafcaaGreat
open Go Go.RowKit
set_option linter.unusedVariables false

/-- A cell as the document's. -/
abbrev RCM := ByteArray × ByteArray × Bool
def rcC1 (p : RCM) : List Value := [.string p.1, .string p.2.1, .bool p.2.2]
def rcC (ps : List RCM) : List Value := ps.flatMap rcC1
theorem rcC_snoc (ps : List RCM) (p : RCM) : rcC (ps ++ [p]) = rcC ps ++ rcC1 p := by unfold rcC; simp
theorem rcC_len : ∀ ps : List RCM, (rcC ps).length = ps.length * 3
  | [] => rfl
  | p :: ps => by
    have := rcC_len ps
    have e : rcC (p :: ps) = rcC1 p ++ rcC ps := by unfold rcC; simp
    rw [e, List.length_append, this, List.length_cons]; show 3 + _ = _; omega
theorem rcC_at : ∀ (ps : List RCM) (k : Nat) (p : RCM) (j : Nat), ps[k]? = some p → j < 3 → (rcC ps)[k * 3 + j]? = (rcC1 p)[j]?
  | [], k, p, j, h, _ => by simp at h
  | q :: ps, 0, p, j, h, hj => by
    obtain rfl : q = p := by simpa using h
    have e : rcC (q :: ps) = rcC1 q ++ rcC ps := by unfold rcC; simp
    rw [e, List.getElem?_append_left (by show _ < 3; omega)]; simp
  | q :: ps, k + 1, p, j, h, hj => by
    have e : rcC (q :: ps) = rcC1 q ++ rcC ps := by unfold rcC; simp
    rw [e, List.getElem?_append_right (by show 3 ≤ _; omega)]
    have := rcC_at ps k p j (by simpa using h) hj
    rw [← this]; congr 1; show (k + 1) * 3 + j - 3 = _; omega
theorem rcC1_one (p : RCM) : ∀ u ∈ rcC1 p, u.oneCell' = true := by
  intro u hu
  simp only [rcC1, List.mem_cons, List.not_mem_nil, or_false] at hu
  rcases hu with rfl | rfl | rfl <;> rfl
def rc (l : List UInt8) (p : CelM) : RCM := (strOf (atL l p.t), rawP l p, p.k)
theorem info_rc : (Tryz.prog.info? 51).map (fun i => (i.zero, i.size, i.bytes)) = some (some (.agg #[.string ⟨#[]⟩, .string ⟨#[]⟩, .bool false]), 3, 40) := by kernel_rfl

/-- What holds at the head of Plain's loop. -/
def PlJ (l : List UInt8) (ps : List CelM) (e : Int) (h : Bool) (w w1 : World) (v16 : Value) (wr : World) : Prop := ∃ (k : Nat) (ak : Option Addr) (ck : Nat), v16 = .int .i64 k ∧ k ≤ ps.length ∧
  wr.heap[w.heap.size + 2]? = some (.cells #[.slice ak k ck, .int .i64 e, .bool h] 116 (0, 0)) ∧ wr.ownsRow (w.heap.size + 3) 51 3 (.slice ak k ck) k (rcC ((ps.take k).map (rc l))) ∧ Below (w.heap.size + 2) w1 wr

set_option maxRecDepth 100000 in
set_option maxHeartbeats 4000000 in
theorem rplain_of {w : World} {B p : Nat} {l : List UInt8} {a : Option Addr} {c : Nat} {e : Int} {h : Bool} {ps : List CelM} (hA : Ar w B p l) (hl : l.length ≤ 16384) (hr : RoIn w l a ps) (hn : ps.length ≤ 1000) :
    Calls Tryz.prog 53 #[.pointer (some ⟨p, 0, none⟩), rowV a ps.length c e h] w fun e' w' => ∃ a' c', e' = .returned (.agg #[.slice a' ps.length c', .int .i64 e, .bool h]) ∧ w'.ownsRow w.heap.size 51 3 (.slice a' ps.length c') ps.length (rcC (ps.map (rc l))) ∧ Below w.heap.size w w' := by
  obtain ⟨i0, hi0, hz0, hz1, hz2⟩ := info_parts info_rc
  obtain ⟨n, hps⟩ : ∃ n, ps.length = n := ⟨_, rfl⟩
  obtain ⟨w1, hw1⟩ : ∃ w1, w1 = allocs w [Obj.cells #[Value.slice a n c, Value.int .i64 e, Value.bool h] 103, Obj.cells #[Value.slice none 0 0, Value.int .i64 0, Value.bool false] 116, Obj.cells #[Value.slice none 0 0, Value.int .i64 e, Value.bool h] 116] := ⟨_, rfl⟩
  have HB1 : Hid (Below w.heap.size w w1) := by rw [hw1]; exact Lib.hid (allocs_below _ w)
  have hzw : w1.heap.size > w.heap.size + 2 := by rw [hw1, allocs_size]; simp
  have h0 : w1.heap[w.heap.size]? = some (.cells #[Value.slice a n c, Value.int .i64 e, Value.bool h] 103 (0, 0)) := by rw [hw1]; exact allocs_at _ w 0 _ rfl
  have HH1 : Hid (w1.heap[w.heap.size + 1]? = some (.cells #[Value.slice none 0 0, Value.int .i64 0, Value.bool false] 116 (0, 0))) := by rw [hw1]; exact Lib.hid (allocs_at _ w 1 _ rfl)
  have HH2 : Hid (w1.heap[w.heap.size + 2]? = some (.cells #[Value.slice none 0 0, Value.int .i64 e, Value.bool h] 116 (0, 0))) := by rw [hw1]; exact Lib.hid (allocs_at _ w 2 _ rfl)
  have HAw := Lib.hid hA
  have HRw := Lib.hid hr
  have HPS := Lib.hid hps
  have k0 : w1.cell? ⟨w.heap.size, 0, none⟩ = some (Value.slice a n c) := by rw [cell_at h0]; rfl
  have k1 : w1.cell? ⟨w.heap.size, 1, none⟩ = some (.int .i64 e) := by rw [cell_at h0]; rfl
  have k2 : w1.cell? ⟨w.heap.size, 2, none⟩ = some (.bool h) := by rw [cell_at h0]; rfl
  clear h0 hA hr
  rw [hps]
  rw [hps] at hn
  go_enter Tryz.func53, Tryz.ntmps53
  go_upto_region 2 with fail
  rw [show ((w.alloc (Obj.cells #[Value.slice a n c, Value.int .i64 e, Value.bool h] 103)).alloc (Obj.cells #[Value.slice none 0 0, Value.int .i64 0, Value.bool false] 116)).alloc (Obj.cells #[Value.slice none 0 0, Value.int .i64 e, Value.bool h] 116) = w1 from hw1.symm]
  clear hw1
  go_wp2_with fail
  clear k0 k1 k2
  go_loopw [16] (fun v16 wr => PlJ l ps e h w w1 v16 wr) (fun v16 _ => n - (intOf v16).toNat)
  case atStart => exact ⟨0, none, 0, rfl, by omega, HH2.out, by simpa [rcC] using own_nil _ _ _ _, Below.refl _ _⟩
  case round =>
    obtain ⟨k, ak, ck, rfl, hk, hh, ho, hb⟩ := hrel
    have HH := Lib.hid hh
    have HO := Lib.hid ho
    have HB := Lib.hid hb
    have hzr := hb.size
    clear hh ho hb
    rw [HPS.out] at hk
    by_cases hlt : k < n
    · have dk : decide (k < n) = true := decide_eq_true hlt
      have hltp : k < ps.length := by rw [HPS.out]; exact hlt
      obtain ⟨g, o, rfl, hg, x0, x1, x2, x3⟩ := rd_cell HRw.out.rd hltp
      have hM := HRw.out.ces ps[k] (List.getElem_mem hltp)
      have hst : (ps.take (k + 1)).map (rc l) = (ps.take k).map (rc l) ++ [rc l ps[k]] := by
        rw [List.take_succ_eq_append_getElem hltp, List.map_append]; rfl
      have HST := Lib.hid hst
      clear hst
      generalize ps[k] = M at *
      have hbw : Below w.heap.size w wr := HB1.out.trans (HB.out.mono (by omega))
      have y0 := (hbw.cell (p := ⟨g, o + k * 4, none⟩) hg).trans x0
      have y1 := (hbw.cell (p := ⟨g, o + k * 4 + 1, none⟩) hg).trans x1
      have y2 := (hbw.cell (p := ⟨g, o + k * 4 + 2, none⟩) hg).trans x2
      have y3 := (hbw.cell (p := ⟨g, o + k * 4 + 3, none⟩) hg).trans x3
      have HMr := Lib.hid (hM.below hbw)
      have HAr := Lib.hid (HAw.out.below hbw)
      have e0 : (0 : Int) ≤ (k : Int) := by omega
      have e1 : (k : Int) < (n : Int) := by omega
      clear x0 x1 x2 x3 hM hbw
      generalize hL0 : (ps.take k).map (rc l) = L0 at *
      generalize hL1 : (ps.take (k + 1)).map (rc l) = L1 at *
      have HL1 := Lib.hid hL1
      clear hL1 hL0
      have al := below_al wr (Obj.cells #[Value.slice M.a M.n M.c, Value.int .i64 M.x, Value.int .i64 M.y, Value.bool M.k] 61)
      have hfn := heap_alloc_new wr (Obj.cells #[Value.slice M.a M.n M.c, Value.int .i64 M.x, Value.int .i64 M.y, Value.bool M.k] 61)
      have hzf : wr.heap.size < (wr.alloc (Obj.cells #[Value.slice M.a M.n M.c, Value.int .i64 M.x, Value.int .i64 M.y, Value.bool M.k] 61)).heap.size := by simp
      go_upto_block 1 with fail
      go_cut [7] from 18 to 27 (fun s7 wx => ∃ (ak' : Option Addr) (ck' : Nat), wx.heap[w.heap.size + 2]? = some (.cells #[.slice ak' (k + 1) ck', .int .i64 e, .bool h] 116 (0, 0)) ∧ wx.ownsRow (w.heap.size + 3) 51 3 (.slice ak' (k + 1) ck') (k + 1) (rcC L1) ∧ Below (w.heap.size + 2) w1 wx)
      case first =>
        go_upto_region 5 with fail
        have HO2 := Lib.hid (own_below HO.out al)
        have HM2 := Lib.hid (HMr.out.below al)
        have HA2 := Lib.hid (HAr.out.below al)
        have HH2' := Lib.hid ((al.block _ (lt_of_heap HH.out)).trans HH.out)
        have HB2 := Lib.hid (HB.out.trans (al.mono (by omega)))
        generalize wr.alloc (Obj.cells #[Value.slice M.a M.n M.c, Value.int .i64 M.x, Value.int .i64 M.y, Value.bool M.k] 61) = w2 at *
        have HF2 := Lib.hid hfn
        have hltb : w.heap.size + 2 < w2.heap.size := lt_of_heap HH2'.out
        have HPl := Lib.hid (fun w' (hb : Below w2.heap.size w2 w') => cplain_of (HA2.out.below hb) hl (HM2.out.below hb))
        have HRC : Hid (rc l M = (strOf (atL l M.t), rawP l M, M.k)) := Lib.hid rfl
        have hb0 : Below w2.heap.size w2 w2.drew := (Below.refl _ _).drew
        have kb : w2.cell? ⟨w.heap.size + 1 + 1, 0, none⟩ = some (.slice ak k ck) := by rw [cell_at HH2'.out]; rfl
        have kb0 : w2.drew.cell? ⟨w.heap.size + 1 + 1, 0, none⟩ = some (.slice ak k ck) := kb
        have c0 : w2.drew.cell? ⟨wr.heap.size, 0, none⟩ = some (.slice M.a M.n M.c) := show w2.cell? ⟨wr.heap.size, 0, none⟩ = some (.slice M.a M.n M.c) by rw [cell_at hfn]; rfl
        have c1 : w2.drew.cell? ⟨wr.heap.size, 1, none⟩ = some (.int .i64 M.x) := show w2.cell? ⟨wr.heap.size, 1, none⟩ = some (.int .i64 M.x) by rw [cell_at hfn]; rfl
        have c2 : w2.drew.cell? ⟨wr.heap.size, 2, none⟩ = some (.int .i64 M.y) := show w2.cell? ⟨wr.heap.size, 2, none⟩ = some (.int .i64 M.y) by rw [cell_at hfn]; rfl
        have c3 : w2.drew.cell? ⟨wr.heap.size, 3, none⟩ = some (.bool M.k) := show w2.cell? ⟨wr.heap.size, 3, none⟩ = some (.bool M.k) by rw [cell_at hfn]; rfl
        generalize strOf (atL l M.t) = f0 at *
        generalize rawP l M = f1 at *
        generalize hf2 : M.k = f2 at *
        clear al hfn y0 y1 y2 y3 hf2
        go_region_law (first
          | (refine step_append_lies _ rfl (.tmp 21) (.tmp 25) 114 rfl (w.heap.size + 3) 51 i0 (.agg #[.string ⟨#[]⟩, .string ⟨#[]⟩, .bool false]) 3 40 Tryz.underlying114 hi0 hz0 hz1 hz2 rfl (by decide) (.slice ak k ck) k (rcC L0) rfl HO5.out ⟨w4.heap.size, 0, none⟩ 1 1 [.string f0, .string f1, .bool f2] rfl rfl HN5.out HON.out (by decide) (by unfold maxLen; omega) (by omega) HZ5.out _ rfl ?_; intro g6 cap6 w6 ho6 hg6 hat6 hlt6; have HO6 := Lib.hid ho6; have HG6 := Lib.hid hg6; have hh6 := (HG6.out.block (w.heap.size + 1 + 1) (lt_of_heap HH5.out) (fun e' => HNE.out e'.symm)).trans HH5.out; have zz := (fun i => unfrozen hh6 i); have kb6 : w6.cell? ⟨w.heap.size + 1 + 1, 0, none⟩ = some (.slice ak k ck) := (by rw [cell_at hh6]; rfl); have HH6 := Lib.hid hh6; clear ho6 hg6 hat6 hh6)
          | (go_simp; go_at_call 22; refine (HPl.out _ hb0).mono ?_; rintro e' w4 ⟨rfl, hb4⟩; have hs4 := hb0.trans (hb4.mono (Nat.le_refl _)); have kb4 := (hs4.cell (p := ⟨w.heap.size + 1 + 1, 0, none⟩) hltb).trans kb; have al4 := below_al w4 (Obj.cells #[Value.string f0, Value.string f1, Value.bool f2] 51); have hs5 := hs4.trans (al4.mono hs4.size); have kb5 := (hs5.cell (p := ⟨w.heap.size + 1 + 1, 0, none⟩) hltb).trans kb; have HO5 := Lib.hid ((own_below HO2.out hs4).alloc (Obj.cells #[Value.string f0, Value.string f1, Value.bool f2] 51)); have HN5 := Lib.hid (World.news_of_block (heap_alloc_new w4 (Obj.cells #[Value.string f0, Value.string f1, Value.bool f2] 51))); have HH5 := Lib.hid ((hs5.block _ hltb).trans HH2'.out); have HNE := Lib.hid (own_ne HO5.out HH5.out (by decide)); have HON := Lib.hid (rcC1_one (f0, f1, f2)); have HZ5 := Lib.hid (show w.heap.size + 3 ≤ (w4.alloc (Obj.cells #[Value.string f0, Value.string f1, Value.bool f2] 51)).heap.size by rw [World.size_alloc]; have := hs4.size; omega); have HS5 := Lib.hid hs5; clear hb4 al4))
        all_goals
          go_wp2_with fail
          go_meet
          refine ⟨some ⟨g6, 0, none⟩, cap6, (by rw [show w.heap.size + 2 = w.heap.size + 1 + 1 from rfl, heap_set_at HH6.out]; rfl), ?_, ?_⟩
          · have h1 := own_set (o := 0) (u := .slice (some ⟨g6, 0, none⟩) (k + 1) cap6) HO6.out (own_ne HO6.out HH6.out (by decide))
            rw [HST.out, rcC_snoc, HRC.out]
            exact h1
          · have hg := (HB2.out.trans (HS5.out.mono (by omega))).grown HG6.out (by have := HZ5.out; omega) (fun q hq => by have := (HO5.out.lt q hq).1; omega)
            exact hg.setCell (p := ⟨w.heap.size + 1 + 1, 0, none⟩) (Nat.le_refl _) _
      case rest =>
        obtain ⟨ak', ck', hh', ho', hb'⟩ := hcut
        have HF := Lib.hid (And.intro hh' (And.intro ho' hb'))
        clear hh' ho' hb' HMr HAr HST HO HH al hfn y0 y1 y2 y3
        go_wp2_with fail
        go_roundw
        case rel => exact ⟨k + 1, ak', ck', by simp, by rw [HPS.out]; omega, HF.out.1, by rw [HL1.out]; exact HF.out.2.1, HF.out.2.2⟩
        case measure => simp [intOf]; omega
    · have dk : decide (k < n) = false := decide_eq_false hlt
      obtain rfl : k = n := by omega
      have hh2 := HH.out
      have hh1 := (HB.out.block (w.heap.size + 1) (by omega)).trans HH1.out
      have zz := fun i => unfrozen hh1 i
      have x0 : wr.cell? ⟨w.heap.size + 1 + 1, 0, none⟩ = some (.slice ak k ck) := by rw [cell_at hh2]; rfl
      have x1 : wr.cell? ⟨w.heap.size + 1 + 1, 1, none⟩ = some (.int .i64 e) := by rw [cell_at hh2]; rfl
      have x2 : wr.cell? ⟨w.heap.size + 1 + 1, 2, none⟩ = some (.bool h) := by rw [cell_at hh2]; rfl
      have r0 : wr.cell? ⟨w.heap.size + 1, 0, none⟩ = some (.slice none 0 0) := by rw [cell_at hh1]; rfl
      have r1 : wr.cell? ⟨w.heap.size + 1, 1, none⟩ = some (.int .i64 0) := by rw [cell_at hh1]; rfl
      have r2 : wr.cell? ⟨w.heap.size + 1, 2, none⟩ = some (.bool false) := by rw [cell_at hh1]; rfl
      have HHr := Lib.hid hh1
      have HBr := Lib.hid (HB1.out.trans (HB.out.mono (by omega)))
      clear hh1 hh2
      go_wp2_with fail
      have hos : (set3 wr (w.heap.size + 1) (.slice ak k ck) (.int .i64 e) (.bool h)).ownsRow w.heap.size 51 3 (.slice ak k ck) k (rcC (ps.map (rc l))) := by
        have h1 := HO.out
        rw [show ps.take k = ps by rw [← HPS.out]; exact List.take_length] at h1
        have n0 := own_ne h1 HHr.out (by decide)
        unfold set3
        exact own_mono (own_set (own_set (own_set h1 n0) n0) n0) (by omega)
      have hs := set3_at HHr.out (.slice ak k ck) (.int .i64 e) (.bool h)
      have hB := set3_below HBr.out (show w.heap.size ≤ w.heap.size + 1 by omega) (.slice ak k ck) (.int .i64 e) (.bool h)
      have q0 : (set3 wr (w.heap.size + 1) (.slice ak k ck) (.int .i64 e) (.bool h)).cell? ⟨w.heap.size + 1, 0, none⟩ = some (.slice ak k ck) := by rw [cell_at hs]; rfl
      have q1 : (set3 wr (w.heap.size + 1) (.slice ak k ck) (.int .i64 e) (.bool h)).cell? ⟨w.heap.size + 1, 1, none⟩ = some (.int .i64 e) := by rw [cell_at hs]; rfl
      have q2 : (set3 wr (w.heap.size + 1) (.slice ak k ck) (.int .i64 e) (.bool h)).cell? ⟨w.heap.size + 1, 2, none⟩ = some (.bool h) := by rw [cell_at hs]; rfl
      unfold set3 at hos hB q0 q1 q2
      exact bodyPost_ret (v := .agg #[.slice ak k ck, .int .i64 e, .bool h]) (by simp [results, Tryz.results53, go_sem, q0, q1, q2]) rfl ⟨ak, ck, rfl, hos, hB⟩

end Go.Proofs.YtkgakgceamafcaaGreat
