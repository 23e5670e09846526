/-
  The walk of CellWrites, at this seat's numbers.
-/
import Derived.Test.YtmdifcgnmkpecaaCeL
import Derived.Test.YtmdifcgnmkpecaaScZ
import Derived.Deep.RegionLaw
import Derived.Deep.CutRange
import Derived.Deep.CutBlock
namespace Go.Proofs.Ytmdifcgnmkpecaa
open Go Go.RowKit
set_option linter.unusedVariables false

/-- What One tells of a file's beginning, whatever it is. -/
def OnePost2 (l : List UInt8) (w : World) (e : Ending) (w' : World) : Prop :=
  ∃ (ps : List FdM) (a : Option Addr) (c : Nat) (f m : Int), e = .returned (.tuple #[.agg #[.slice a ps.length c, .int .i64 f], .int .i64 m]) ∧ w'.ownsRow w.heap.size 42 4 (.slice a ps.length c) ps.length (fdC ps) ∧ PartsIn w' w.heap.size ps ∧
    (∀ p ∈ ps, InL l p.1.pl ∧ p.1.pl.length ≤ l.length) ∧ Below w.heap.size w w'
theorem one_any {w : World} {b : Nat} {c : Nat} {l : List UInt8} (hr : Rd w 1 (some ⟨b, 0, none⟩) l.length (bc l)) (hl : l.length ≤ 1000000) (hlc : l.length ≤ c) (hc : c ≤ maxLen) :
    Calls Try.prog 20 #[.slice (some ⟨b, 0, none⟩) l.length c, .int .i64 0] w (OnePost2 l w) := by
  by_cases h0 : l = []
  · subst h0
    refine one_nil.mono ?_
    rintro e w' ⟨rfl, hb⟩
    exact ⟨[], none, 0, 0, 0, rfl, own_nil _ _ _ _, fun p hp => by simp at hp, fun p hp => by simp at hp, hb⟩
  · have hpos := List.length_pos_iff.2 h0
    have hbw : b < w.heap.size := by
      obtain ⟨g, off, e, hlt, _⟩ := hr.2 hpos
      simp only [Option.some.injEq, Addr.mk.injEq] at e
      rw [e.1]; exact hlt
    refine (one_of hr hbw hl hlc hc 0 hpos).mono ?_
    rintro e w' ⟨ps, a, c', rfl, hfs, ho, hp, hb⟩
    have hm : rowP l 0 ∈ allP l 0 := by rw [allP_more hpos]; exact List.mem_cons_self ..
    have hrf := (row_fields hm).2
    refine ⟨ps, a, c', _, _, rfl, ho, hp, fun q hq => ?_, hb⟩
    exact hrf q.1 (by rw [← hfs]; exact List.mem_map.2 ⟨q, hq, rfl⟩)

/-- All but one block is as it was. -/
structure Sx (b : Nat) (w0 w : World) : Prop where
  size : w0.heap.size ≤ w.heap.size
  rest : ∀ k, k < w0.heap.size → k ≠ b → w.heap[k]? = w0.heap[k]?
theorem Sx.below {b : Nat} {w0 w w' : World} (h : Sx b w0 w) (hb : Below w.heap.size w w') : Sx b w0 w' :=
  ⟨Nat.le_trans h.size hb.size, fun k hk hn => (hb.block k (Nat.lt_of_lt_of_le hk h.size)).trans (h.rest k hk hn)⟩
theorem Sx.alloc {b : Nat} {w0 w : World} (h : Sx b w0 w) (o : Obj) : Sx b w0 (w.alloc o) := h.below (below_al w o)
theorem Sx.set {b o : Nat} {w0 w : World} (h : Sx b w0 w) (v : Value) : Sx b w0 (w.setCell ⟨b, o, none⟩ v) :=
  ⟨by rw [size_set]; exact h.size, fun k hk hn => (heap_set_other hn).trans (h.rest k hk hn)⟩
theorem Sx.cell {b : Nat} {w0 w : World} (h : Sx b w0 w) {k o : Nat} (hk : k < w0.heap.size) (hn : k ≠ b) : w.cell? ⟨k, o, none⟩ = w0.cell? ⟨k, o, none⟩ :=
  World.cell?_of_block (w := w0) (w' := w) (a := ⟨k, o, none⟩) (h.rest k hk hn)

theorem tx_form {B : Nat} {w : World} {v : Value} {t : List Int} (h : TxB B w v t) : ∃ a n c, v = .slice a n c := by obtain ⟨a, c, rfl, _⟩ := h; exact ⟨_, _, _, rfl⟩
theorem inL_app3 {l : List UInt8} {a b c : List Int} (ha : InL l a) (hb : InL l b) (hc : InL l c) : InL l (a ++ (b ++ c)) := fun x hx => by
  rcases List.mem_append.1 hx with hx | hx
  · exact ha x hx
  · rcases List.mem_append.1 hx with hx | hx
    · exact hb x hx
    · exact hc x hx
/-- Three texts as one. -/
theorem concat3_of {w : World} {v1 v2 v3 : Value} {t1 t2 t3 : List Int} (h1 : Tx w v1 t1) (h2 : Tx w v2 t2) (h3 : Tx w v3 t3) (hs : Sm (t1 ++ (t2 ++ t3))) :
    Calls Try.prog 23 #[.slice (some ⟨w.heap.size, 0, none⟩) 3 3] (w.alloc (Obj.cells #[v1, v2, v3] 48)) fun e w' => ∃ a n c', e = .returned (.agg #[.slice a n c']) ∧ TxB (w.heap.size + 1) w' (.slice a n c') (t1 ++ (t2 ++ t3)) ∧ Below w.heap.size w w' := by
  have al := below_al w (Obj.cells #[v1, v2, v3] 48)
  have hn := heap_alloc_new w (Obj.cells #[v1, v2, v3] 48)
  have e1 : plsOf [(v1, t1), (v2, t2), (v3, t3)] = t1 ++ (t2 ++ t3) := by simp [plsOf]
  have hr : Rd (w.alloc (Obj.cells #[v1, v2, v3] 48)) 1 (some ⟨w.heap.size, 0, none⟩) [(v1, t1), (v2, t2), (v3, t3)].length ([(v1, t1), (v2, t2), (v3, t3)].map (·.1)) :=
    ⟨rfl, fun _ => ⟨w.heap.size, 0, rfl, lt_of_heap hn, fun j u hj => by rw [Nat.zero_add, cell_at hn]; simpa using hj⟩⟩
  refine (concat_of (c := 3) hr (fun p hp => ?_) (by rw [e1]; exact hs) (by simp)).mono ?_
  · simp only [List.mem_cons, List.not_mem_nil, or_false] at hp
    rcases hp with rfl | rfl | rfl
    · exact h1.below al
    · exact h2.below al
    · exact h3.below al
  · rintro e w' ⟨v', rfl, hx, hb⟩
    obtain ⟨a, n, c, rfl⟩ := tx_form hx
    rw [e1, World.size_alloc] at hx
    exact ⟨a, n, c, rfl, hx, al.trans (hb.mono (by rw [World.size_alloc]; omega))⟩
/-- The head of CellWrites' loop: the text so far. -/
def CwJ (l : List UInt8) (w : World) (v13 : Value) (wr : World) : Prop := ∃ (i : Nat) (tt : List Int) (a : Option Addr) (n c : Nat), v13 = .int .i64 i ∧ i ≤ 40 ∧ wr.heap[w.heap.size]? = some (.cells #[.slice a n c] 48 (0, 0)) ∧
  Tx wr (.slice a n c) tt ∧ InL l tt ∧ tt.length ≤ 300 + 400 * i ∧ Below w.heap.size w wr

set_option maxRecDepth 100000 in
set_option maxHeartbeats 8000000 in
theorem cellWrites_walk (s : ByteArray) (x y z : Int) (m : ByteArray) (w : World) (hs : s.size ≤ maxLen) (hx : -9223372036854775808 ≤ x ∧ x ≤ 9223372036854775807) (hy : -9223372036854775808 ≤ y ∧ y ≤ 9223372036854775807) (hz : 0 ≤ z ∧ z ≤ 255) (hm : m.size ≤ maxLen) (hML : ML w) :
    Calls Try.prog 4 #[.string s, .agg #[.int .i64 x, .int .i64 y, .int .u8 z, .string m]] w fun e w' => e = .returned (.bool true) ∧ Below w.heap.size w w' := by
  have HC := Lib.hid (fun w' => cut7_of s 300 w' hs (by decide))
  have HC2 := Lib.hid (fun w' => cut7_of m 100 w' hm (by decide))
  have hcl := cutS_le s 300
  have hcm := cutS_le m 100
  have HM := Lib.hid hML
  clear hs hm hML
  generalize cutS s 300 = t at *
  generalize cutS m 100 = tm at *
  obtain ⟨l, hl⟩ : ∃ l, t.data.toList = l := ⟨_, rfl⟩
  obtain ⟨lm, hlm⟩ : ∃ l, tm.data.toList = l := ⟨_, rfl⟩
  have hsz := sz_of hl
  have hszm := sz_of hlm
  rw [hsz] at hcl
  rw [hszm] at hcm
  have HL := Lib.hid hl
  have HLM := Lib.hid hlm
  have HX := Lib.hid hx
  have HY := Lib.hid hy
  obtain ⟨zn, rfl⟩ := Int.eq_ofNat_of_zero_le hz.1
  obtain ⟨T, hT, hT40⟩ : ∃ T : Nat, ((zn : Int) % 40) = (T : Int) ∧ T < 40 := ⟨zn % 40, by simp, Nat.mod_lt _ (by omega)⟩
  have al := below_al w (Obj.cells #[.int .i64 x, .int .i64 y, .int .u8 zn, .string m] 60)
  have hfn := heap_alloc_new w (Obj.cells #[.int .i64 x, .int .i64 y, .int .u8 zn, .string m] 60)
  have hzw : w.heap.size < (w.alloc (Obj.cells #[.int .i64 x, .int .i64 y, .int .u8 zn, .string m] 60)).heap.size := by simp
  clear hl hlm hx hy
  go_enter Try.func4, Try.ntmps4
  go_upto_region 1 with fail
  generalize w.alloc (Obj.cells #[.int .i64 x, .int .i64 y, .int .u8 zn, .string m] 60) = w1 at *
  have HBw := Lib.hid al
  have HF1 := Lib.hid hfn
  clear al hfn
  go_wp2_with fail
  refine (HC.out _).mono ?_; rintro e wx ⟨rfl, rfl⟩
  obtain ⟨cap, W1, hcv, hH, hb1⟩ := held_of t w1 (by rw [hsz]; unfold maxLen; omega)
  have hrd : Rd W1 1 (some ⟨w1.heap.size, 0, none⟩) l.length (bc l) := by have := rd_held hH; rw [HL.out] at this; exact this
  have HN := Lib.hid (new_of _ cap hrd (by omega))
  have HB12 := Lib.hid hb1
  have hzW : w1.heap.size ≤ W1.heap.size := hb1.size
  rw [hsz] at hcv
  clear hH hb1 HC hrd
  go_wp2_with fail
  refine HN.out.mono ?_; rintro e w2 ⟨p, rfl, hA, hb2⟩
  have HA := Lib.hid hA
  have HB3 := Lib.hid (HB12.out.trans (hb2.mono HB12.out.size))
  have hz2 := hb2.size
  clear hA hb2 HN hcv HB12
  have al := below_al w2 (Obj.cells #[Value.slice none 0 0, Value.int .i64 0, Value.int .i64 0, Value.bool false] 50)
  have hfn := heap_alloc_new w2 (Obj.cells #[Value.slice none 0 0, Value.int .i64 0, Value.int .i64 0, Value.bool false] 50)
  have hz3 : w2.heap.size < (w2.alloc (Obj.cells #[Value.slice none 0 0, Value.int .i64 0, Value.int .i64 0, Value.bool false] 50)).heap.size := by simp
  go_upto_region 6 with fail
  generalize w2.alloc (Obj.cells #[Value.slice none 0 0, Value.int .i64 0, Value.int .i64 0, Value.bool false] 50) = w3 at *
  have HF7 := Lib.hid hfn
  have HB4 := Lib.hid (HB3.out.trans (al.mono HB3.out.size))
  have HA3 := Lib.hid (HA.out.below al)
  clear al hfn HA HB3
  obtain ⟨cap, W2, hcv, hH, hb3⟩ := held_of t w3 (by rw [hsz]; unfold maxLen; omega)
  have hrd : Rd W2 1 (some ⟨w3.heap.size, 0, none⟩) l.length (bc l) := by have := rd_held hH; rw [HL.out] at this; exact this
  have HONE := Lib.hid (one_any (c := cap) hrd (by omega) (by rw [← hsz]; exact hH.fits) hH.cap)
  have HB5 := Lib.hid hb3
  have hzW2 : w3.heap.size ≤ W2.heap.size := hb3.size
  rw [hsz] at hcv
  clear hH hb3 hrd
  go_wp2_with fail
  refine HONE.out.mono ?_; rintro e w4 ⟨ps, a5, c5, fin, nxt, rfl, hop, hpp, hpl, hb4⟩
  have hz4 := hb4.size
  have HOP := Lib.hid hop
  have HPP := Lib.hid hpp
  have HPL := Lib.hid hpl
  have HB6 := Lib.hid (HB5.out.trans (hb4.mono hzW2))
  have hz34 : w3.heap.size ≤ w4.heap.size := by omega
  have al := below_al w4 (Obj.cells #[Value.slice a5 ps.length c5, Value.int .i64 fin] 34)
  have hfn := heap_alloc_new w4 (Obj.cells #[Value.slice a5 ps.length c5, Value.int .i64 fin] 34)
  have hzA : w4.heap.size < (w4.alloc (Obj.cells #[Value.slice a5 ps.length c5, Value.int .i64 fin] 34)).heap.size := by simp
  clear hop hpp hpl hb4 HONE hcv HB5
  go_upto_region 7 with fail
  generalize w4.alloc (Obj.cells #[Value.slice a5 ps.length c5, Value.int .i64 fin] 34) = w5 at *
  have HB7 := Lib.hid (HB6.out.trans (al.mono hz34))
  have HA5 := Lib.hid (HA3.out.below HB7.out)
  have H7 := Lib.hid ((HB7.out.block _ hz3).trans HF7.out)
  have HOP5 := Lib.hid (own_below HOP.out al)
  have HPP5 := Lib.hid (HPP.out.below al)
  have k8 : w5.cell? ⟨w4.heap.size, 0, none⟩ = some (.slice a5 ps.length c5) := by rw [cell_at hfn]; rfl
  have HB8 := Lib.hid (HB4.out.trans (HB7.out.mono HB4.out.size))
  clear al hfn HA3 HOP HPP HB6 HB7 HF7 HB4
  have hz5 := HB8.out.size
  have hlt5 := lt_of_heap H7.out
  clear hlt5
  have hlt5 := lt_of_heap H7.out
  go_upto_if 36 with fail
  go_cut [] from 33 to 41 (fun wx => ∃ (a7 : Option Addr) (n7 c7 : Nat) (x7 y7 : Int) (k7 : Bool), wx.heap[w2.heap.size]? = some (.cells #[.slice a7 n7 c7, .int .i64 x7, .int .i64 y7, .bool k7] 50 (0, 0)) ∧ (∃ t7, Tx wx (.slice a7 n7 c7) t7 ∧ InL l t7 ∧ t7.length ≤ 300) ∧ Ar wx W1.heap.size p l ∧ Below w1.heap.size w1 wx ∧ w4.heap.size < wx.heap.size)
  case first =>
    by_cases hne : ps = []
    · subst hne
      have HT7 := Lib.hid (show ∃ t7, Tx w5 (.slice none 0 0) t7 ∧ InL l t7 ∧ t7.length ≤ 300 from ⟨[], ⟨none, 0, (by simp [canon]), ⟨by simp [canon, spC], fun hn => absurd hn (by simp [canon])⟩, ⟨by simp, fun x hx => by simp at hx⟩, (fun d hd => by simp at hd), fun _ => rfl, (fun d hd => by simp at hd)⟩, (fun x hx => by simp at hx), by simp⟩)
      go_wp2_with fail
      go_meet
      exact ⟨none, 0, 0, 0, 0, false, H7.out, HT7.out, HA5.out, HB8.out, hzA⟩
    · have hpos : 0 < ps.length := List.length_pos_iff.2 hne
      have d0 : decide ((0 : Int) < (ps.length : Int)) = true := decide_eq_true (by omega)
      have d0' : decide (0 < ps.length) = true := decide_eq_true hpos
      rcases own_form HOP5.out with ⟨_, h0⟩ | ⟨g5, rfl, hgB, hg5⟩
      · omega
      have e1 : (0 : Int) < (ps.length : Int) := by omega
      have hc := fun (o : Nat) (u : Value) (ho : o < 4) (hu : (fdC1 ps[0])[o]? = some u) => own_cells HOP5.out ((fdC_at ps 0 ps[0] o (List.getElem?_eq_getElem hpos) ho).trans hu)
      have q0 := hc 0 _ (by omega) rfl
      have q1 := hc 1 _ (by omega) rfl
      have q2 := hc 2 _ (by omega) rfl
      have q3 := hc 3 _ (by omega) rfl
      rw [Nat.zero_mul, Nat.zero_add] at q0 q1 q2 q3
      have hF := HPL.out ps[0] (List.getElem_mem hpos)
      have hpp := HPP5.out ps[0] (List.getElem_mem hpos)
      generalize ps[0] = F at *
      obtain ⟨F, a6, c6⟩ := F
      simp only at q0 q1 q2 q3 hF hpp
      generalize (F.from_ : Int) = f0 at *
      generalize (F.to_ : Int) - f0 = f1 at *
      generalize F.kind = f2 at *
      generalize F.pl = Q at *
      have hcl' : (canon Q).length ≤ 100000 := by have := canon_count Q; omega
      have HLD := Lib.hid (cload_of (x := f0) (y := f1) (k := f2) (c := c6) (own_rd hpp) hcl' (fun sp hsp => by have := canon_in (l := l) hF.1 sp hsp; unfold In40; omega) (by rw [ex_canon]; exact sm_inL hF.1 (by omega) (by omega)))
      have HFF := Lib.hid hF
      clear hc hF hpp HOP5 HPP5 HPL
      go_wp2_with fail
      refine HLD.out.mono ?_; rintro e w6 ⟨a7, n7, c7, rfl, hx6, hb6⟩
      rw [ex_canon] at hx6
      have H76 := Lib.hid ((hb6.block _ hlt5).trans H7.out)
      have hh := H76.out
      have zz := fun i => unfrozen hh i
      have p0 : w6.cell? ⟨w2.heap.size, 0, none⟩ = some (.slice none 0 0) := by rw [cell_at hh]; rfl
      have p1 : w6.cell? ⟨w2.heap.size, 1, none⟩ = some (.int .i64 0) := by rw [cell_at hh]; rfl
      have p2 : w6.cell? ⟨w2.heap.size, 2, none⟩ = some (.int .i64 0) := by rw [cell_at hh]; rfl
      have p3 : w6.cell? ⟨w2.heap.size, 3, none⟩ = some (.bool false) := by rw [cell_at hh]; rfl
      have HS7 := Lib.hid (set4_at hh (.slice a7 n7 c7) (.int .i64 f0) (.int .i64 f1) (.bool true))
      have HSB := Lib.hid (set4_below (HB8.out.trans (hb6.mono hz5)) (show w1.heap.size ≤ w2.heap.size by omega) (.slice a7 n7 c7) (.int .i64 f0) (.int .i64 f1) (.bool true))
      have hA6 := HA5.out.below hb6
      have HSA : Hid (Ar (set4 w6 w2.heap.size (.slice a7 n7 c7) (.int .i64 f0) (.int .i64 f1) (.bool true)) W1.heap.size p l) := Lib.hid ((((hA6.set hh (by decide) (by decide)).set (heap_set_at hh) (by decide) (by decide)).set (heap_set_at (heap_set_at hh)) (by decide) (by decide)).set (heap_set_at (heap_set_at (heap_set_at hh))) (by decide) (by decide))
      have HT7 := Lib.hid (show ∃ t7, Tx (set4 w6 w2.heap.size (.slice a7 n7 c7) (.int .i64 f0) (.int .i64 f1) (.bool true)) (.slice a7 n7 c7) t7 ∧ InL l t7 ∧ t7.length ≤ 300 from ⟨Q, TxB.tx (B := w5.heap.size) ((((hx6.set (by omega)).set (by omega)).set (by omega)).set (by omega)), HFF.out.1, by have := HFF.out.2; omega⟩)
      have hzS : w4.heap.size < (set4 w6 w2.heap.size (.slice a7 n7 c7) (.int .i64 f0) (.int .i64 f1) (.bool true)).heap.size := by
        have := hb6.size
        unfold set4; simp only [size_set]; omega
      clear hh hx6 hb6 hA6 HLD q0 q1 q2 q3 k8
      unfold set4 at HS7 HSB HSA HT7 hzS
      go_wp2_with fail
      go_meet
      exact ⟨a7, n7, c7, f0, f1, true, HS7.out, HT7.out, HSA.out, HSB.out, hzS⟩
  case rest =>
    obtain ⟨a7, n7, c7, x7, y7, k7, hs7, ht7, hsa, hsb, hzS⟩ := hcut
    have HS7 := Lib.hid hs7
    have HT7 := Lib.hid ht7
    have HSA := Lib.hid hsa
    have HSB := Lib.hid hsb
    clear hs7 ht7 hsa hsb k8 HOP5 HPP5 HPL H7 HA5 HB8
    generalize wc = wS at *
    obtain ⟨t7, hT7, hI7, hl7⟩ := HT7.out
    have HX7 := Lib.hid hT7
    have HI7 := Lib.hid hI7
    have hbox := (HSB.out.block w.heap.size hzw).trans HF1.out
    have HBOX := Lib.hid hbox
    have k3 : wS.cell? ⟨w.heap.size, 3, none⟩ = some (.string m) := by rw [cell_at hbox]; rfl
    clear hT7 hI7 HT7 hbox
    go_wp2_with fail
    refine (HC2.out _).mono ?_; rintro e wx ⟨rfl, rfl⟩
    obtain ⟨cap5, W5, hcv5, hH5, hb5⟩ := held_of tm wS (by rw [hszm]; unfold maxLen; omega)
    have hrd5 : Rd W5 1 (some ⟨wS.heap.size, 0, none⟩) lm.length (bc lm) := by have := rd_held hH5; rw [HLM.out] at this; exact this
    have hzW5 := hb5.size
    have HADD := Lib.hid (add_of (c := cap5) (HSA.out.below hb5) (by omega) _ (Nat.le_trans (show W1.heap.size ≤ wS.heap.size by omega) hzW5) hrd5 (by unfold maxLen; omega))
    obtain ⟨i, hi1, hi2⟩ : ∃ i : Nat, addR l lm = ((i : Int), (lm.length : Int), 0) ∧ i + lm.length ≤ (l ++ lm).length := by
      unfold addR
      rw [if_neg (by omega)]
      by_cases h0 : lm.length = 0
      · exact ⟨0, by rw [if_pos h0, h0]; rfl, by simp⟩
      · exact ⟨l.length, by rw [if_neg h0], by simp⟩
    have hal : addL l lm = l ++ lm := by unfold addL; rw [if_neg (by omega)]
    rw [hi1, hal] at HADD
    have HB9 := Lib.hid hb5
    rw [hszm] at hcv5
    clear hH5 hb5 hrd5 hal hi1 k3
    unfold ArPost ret3 at HADD
    go_wp2_with fail
    refine HADD.out.mono ?_; rintro e w8 ⟨rfl, hA8, hT8⟩
    have hzW8 : W5.heap.size ≤ w8.heap.size := hT8.size
    have HT8 := Lib.hid ((Turned.of_below HB9.out (show W1.heap.size ≤ wS.heap.size by omega)).trans hT8)
    have HX8 := Lib.hid (HX7.out.turned HT8.out)
    have HS8 := Lib.hid (heap_turned HS7.out HT8.out (by decide) (by decide))
    have HC8 := Lib.hid (heap_turned HBOX.out HT8.out (by decide) (by decide))
    have HB10 := Lib.hid (HSB.out.trans (HT8.out.low.mono hzW))
    have HI8 := Lib.hid (inL_app HI7.out lm)
    have hl2 : (l ++ lm).length ≤ 400 := by rw [List.length_append]; omega
    have al := below_al w8 (Obj.cells #[Value.int .i64 i, Value.int .i64 lm.length] 39)
    have hfn := heap_alloc_new w8 (Obj.cells #[Value.int .i64 i, Value.int .i64 lm.length] 39)
    have hz9 : w8.heap.size < (w8.alloc (Obj.cells #[Value.int .i64 i, Value.int .i64 lm.length] 39)).heap.size := by simp
    clear hT8 HADD hcv5 HX7 HI7 HS7 HSB HSA HBOX HB9
    go_upto_region 10 with fail
    generalize hLL : l ++ lm = L at *
    clear hLL
    generalize w8.alloc (Obj.cells #[Value.int .i64 i, Value.int .i64 lm.length] 39) = w9 at *
    have HA9 := Lib.hid (hA8.below al)
    have HX9 := Lib.hid (HX8.out.below al)
    have HP9 := Lib.hid hfn
    have h7 := (al.block _ (lt_of_heap HS8.out)).trans HS8.out
    have hbx := (al.block _ (lt_of_heap HC8.out)).trans HC8.out
    have HS9 := Lib.hid h7
    have HC9 := Lib.hid hbx
    have HB11 := Lib.hid (HB10.out.trans (al.mono HB10.out.size))
    have k7 : w9.cell? ⟨w2.heap.size, 0, none⟩ = some (.slice a7 n7 c7) := by rw [cell_at h7]; rfl
    have k0 : w9.cell? ⟨w.heap.size, 0, none⟩ = some (.int .i64 x) := by rw [cell_at hbx]; rfl
    have k1 : w9.cell? ⟨w.heap.size, 1, none⟩ = some (.int .i64 y) := by rw [cell_at hbx]; rfl
    have HSL := Lib.hid (slice_of x y HX9.out HX.out HY.out)
    clear al hfn hA8 HX8 HS8 HC8 HB10 h7 hbx
    go_wp2_with fail
    refine HSL.out.mono ?_; rintro e w10 ⟨v', rfl, hx10, hb10⟩
    obtain ⟨a10, n10, c10, rfl⟩ : ∃ a n c, v' = .slice a n c := by obtain ⟨a, c, rfl, _⟩ := hx10; exact ⟨_, _, _, rfl⟩
    have HX10 := Lib.hid hx10.tx
    have HY10 := Lib.hid (HX9.out.below hb10)
    have HA10 := Lib.hid (HA9.out.below hb10)
    have HS10 := Lib.hid ((hb10.block _ (lt_of_heap HS9.out)).trans HS9.out)
    have HC10 := Lib.hid ((hb10.block _ (lt_of_heap HC9.out)).trans HC9.out)
    have HP10 := Lib.hid ((hb10.block _ (lt_of_heap HP9.out)).trans HP9.out)
    have HB13 := Lib.hid (HB11.out.trans (hb10.mono HB11.out.size))
    have hz10 := hb10.size
    have HI10 := Lib.hid (inL_slI HI8.out x y)
    have hs10 := slI_len t7 x y
    clear hx10 hb10 HSL HX9 HA9 HS9 HC9 HP9 HB11 k7 k0 k1
    generalize slI t7 x y = t10 at *
    have al := below_al w10 (Obj.cells #[Value.slice a10 n10 c10] 48)
    have hfn := heap_alloc_new w10 (Obj.cells #[Value.slice a10 n10 c10] 48)
    go_upto_region 12 with fail
    generalize w10.alloc (Obj.cells #[Value.slice a10 n10 c10] 48) = w11 at *
    have HH11 := Lib.hid hfn
    have HX11 := Lib.hid (HX10.out.below al)
    have HAL := Lib.hid al
    clear al hfn HX10
    go_loopw [13] (fun v13 wr => CwJ L w10 v13 wr) (fun v13 _ => 40 - (intOf v13).toNat)
    case atStart => exact ⟨0, t10, a10, n10, c10, rfl, by omega, HH11.out, HX11.out, HI10.out, by omega, HAL.out⟩
    case round =>
      obtain ⟨q, tt, a, n, c, rfl, hq, hh, hx, hin, hlen, hb⟩ := hrel
      have HH := Lib.hid hh
      have HXT := Lib.hid hx
      have HIN := Lib.hid hin
      have HBq := Lib.hid hb
      have hzq := hb.size
      have hbw : w10.heap.size < wr.heap.size := lt_of_heap hh
      have hbx := (hb.block _ (lt_of_heap HC10.out)).trans HC10.out
      have k2 : wr.cell? ⟨w.heap.size, 2, none⟩ = some (.int .u8 zn) := by rw [cell_at hbx]; rfl
      clear hh hx hin hb hbx
      by_cases hqT : q < T
      · have dq : decide (q < T) = true := decide_eq_true hqT
        have dq' : decide ((q : Int) < (T : Int)) = true := decide_eq_true (by omega)
        go_upto_block 1 with fail
        have h0 : Below wr.heap.size wr wr.drew := (Below.refl _ _).drew
        have hS0 : Sx w10.heap.size wr wr.drew := ⟨Nat.le_refl _, fun k _ _ => rfl⟩
        have hl10 : w8.heap.size < wr.heap.size := by omega
        have hn10 : w8.heap.size ≠ w10.heap.size := by omega
        have hl7 : w2.heap.size < wr.heap.size := by omega
        have hn7 : w2.heap.size ≠ w10.heap.size := by omega
        have hp := (HBq.out.block _ (lt_of_heap HP10.out)).trans HP10.out
        have h7 := (HBq.out.block _ (lt_of_heap HS10.out)).trans HS10.out
        have ld0 := fun w' (h : Sx w10.heap.size wr w') => (h.cell (o := 0) hl10 hn10).trans (show wr.cell? ⟨w8.heap.size, 0, none⟩ = some (.int .i64 i) by rw [cell_at hp]; rfl)
        have ld1 := fun w' (h : Sx w10.heap.size wr w') => (h.cell (o := 1) hl10 hn10).trans (show wr.cell? ⟨w8.heap.size, 1, none⟩ = some (.int .i64 lm.length) by rw [cell_at hp]; rfl)
        have ld7 := fun w' (h : Sx w10.heap.size wr w') => (h.cell (o := 0) hl7 hn7).trans (show wr.cell? ⟨w2.heap.size, 0, none⟩ = some (.slice a7 n7 c7) by rw [cell_at h7]; rfl)
        have kt : wr.cell? ⟨w10.heap.size, 0, none⟩ = some (.slice a n c) := by rw [cell_at HH.out]; rfl
        have kt0 : wr.drew.cell? ⟨w10.heap.size, 0, none⟩ = some (.slice a n c) := kt
        have hal : Below wr.heap.size wr (wr.alloc (Obj.cells #[Value.int .i64 i, Value.int .i64 lm.length] 39)).drew := (below_al wr _).drew
        have kt1 : (wr.alloc (Obj.cells #[Value.int .i64 i, Value.int .i64 lm.length] 39)).drew.cell? ⟨w10.heap.size, 0, none⟩ = some (.slice a n c) := (hal.cell (p := ⟨w10.heap.size, 0, none⟩) hbw).trans kt
        have hS1 : Sx w10.heap.size wr (wr.alloc (Obj.cells #[Value.int .i64 i, Value.int .i64 lm.length] 39)).drew := ⟨hal.size, fun k hk _ => hal.block k hk⟩
        have HOF := Lib.hid (of_one (c := 1) (w := (wr.alloc (Obj.cells #[Value.int .i64 i, Value.int .i64 lm.length] 39)).drew) (heap_alloc_new wr (Obj.cells #[Value.int .i64 i, Value.int .i64 lm.length] 39)) (show i + lm.length ≤ 16384 by omega))
        have HAL1 := Lib.hid hal
        have HYr := Lib.hid (HY10.out.below HBq.out)
        have HI1 := Lib.hid (inL_one (l := L) hi2)
        have HI2 := Lib.hid (inL_slI HI8.out 0 2)
        have hle : (ex [((i : Int), (lm.length : Int))]).length = lm.length := by rw [ex_one, ex1_nat]; simp
        have hsl := slI_len t7 0 2
        have HSM := Lib.hid (sm_inL (l := L) (t := tt ++ (ex [((i : Int), (lm.length : Int))] ++ slI t7 0 2)) (inL_app3 HIN.out HI1.out HI2.out) (by omega) (by rw [List.length_append, List.length_append]; omega))
        clear hp h7 hal kt k2
        go_cut [] from 58 to 74 (fun wx => ∃ (a' : Option Addr) (n' c' : Nat) (t' : List Int), wx.heap[w10.heap.size]? = some (.cells #[.slice a' n' c'] 48 (0, 0)) ∧ Tx wx (.slice a' n' c') t' ∧ InL L t' ∧ t'.length ≤ 300 + 400 * (q + 1) ∧ Below w10.heap.size w10 wx)
        case first =>
          go_upto_region 14 with fail
          go_region_law (go_simp; (first
              | (go_at_call 24; refine HOF.out.mono ?_; rintro e w69 ⟨a69, n69, c69, rfl, hx69, hb69⟩; have hs69 := hS1.below hb69; have hq69 := HAL1.out.trans (hb69.mono HAL1.out.size); have kt69 := (hq69.cell (p := ⟨w10.heap.size, 0, none⟩) hbw).trans kt0; have HX69 := Lib.hid hx69.tx; clear hx69 hb69)
              | (go_at_call 22; refine (slice_of 0 2 (HYr.out.below hq69) (by unfold I64; omega) (by unfold I64; omega)).mono ?_; rintro e w72 ⟨v72, rfl, hx72, hb72⟩; obtain ⟨a72, n72, c72, rfl⟩ := tx_form hx72; have hs72 := hs69.below hb72; have hq72 := hq69.trans (hb72.mono hq69.size); have kt72 := (hq72.cell (p := ⟨w10.heap.size, 0, none⟩) hbw).trans kt0; have HX72 := Lib.hid hx72.tx; have HX69 := Lib.hid (HX69.out.below hb72); clear hx72 hb72)
              | (go_at_call 23; refine (concat3_of (HXT.out.below hq72) HX69.out HX72.out HSM.out).mono ?_; rintro e w74 ⟨a74, n74, c74, rfl, hx74, hb74⟩; have hq74 := hq72.trans (hb74.mono hq72.size); have hz72 := hq72.size; have hh74 := (hq74.block _ hbw).trans HH.out; have kt74 : w74.cell? ⟨w10.heap.size, 0, none⟩ = some (.slice a n c) := (by rw [cell_at hh74]; rfl); have zz := (fun i => unfrozen hh74 i); have HX74 := Lib.hid hx74; have HH74 := Lib.hid hh74; clear hx74 hb74 hh74)))
          all_goals
            go_wp2_with fail
            go_meet
            exact ⟨a74, n74, c74, _, (by rw [heap_set_at HH74.out]; rfl), (HX74.out.set (by omega)).tx, inL_app3 HIN.out HI1.out HI2.out, (by rw [List.length_append, List.length_append]; omega), (HBq.out.trans (hq74.mono hzq)).setCell (p := ⟨w10.heap.size, 0, none⟩) (Nat.le_refl _) _⟩
        case rest =>
          obtain ⟨a', n', c', t', hh', hx', hi', hl', hb'⟩ := hcut
          have HF := Lib.hid (And.intro hh' (And.intro hx' (And.intro hi' hb')))
          clear hh' hx' hi' hb' HYr HI1 HI2 HSM HOF HAL1 ld0 ld1 ld7 kt0 kt1
          go_wp2_with fail
          go_roundw
          case rel => exact ⟨q + 1, t', a', n', c', by simp, by omega, HF.out.1, HF.out.2.1, HF.out.2.2.1, hl', HF.out.2.2.2⟩
          case measure => simp [intOf]; omega
      · have dq : decide (q < T) = false := decide_eq_false hqT
        have dq' : decide ((q : Int) < (T : Int)) = false := decide_eq_false (by omega)
        have hz10' : W1.heap.size ≤ w10.heap.size := by omega
        have kt : wr.cell? ⟨w10.heap.size, 0, none⟩ = some (.slice a n c) := by rw [cell_at HH.out]; rfl
        have HAr := Lib.hid (HA10.out.below HBq.out)
        have HSr := Lib.hid ((HBq.out.block _ (lt_of_heap HS10.out)).trans HS10.out)
        have HBr := Lib.hid (HB13.out.trans (HBq.out.mono HB13.out.size))
        have HFl := Lib.hid (pflat_of HAr.out (by omega) HXT.out HIN.out)
        have hfl := atL_len L tt
        generalize hf : atL L tt = f at *
        have HFE := Lib.hid hf
        have HHr := HH
        have HLEN := Lib.hid hfl
        have hfb : f.length ≤ 16300 := by omega
        clear hf hfl
        go_upto_region 15 with fail
        clear k2 HA10 HS10 HC10 HP10 HB13 HY10 HI8 HI10 HH11 HX11 HAL hi2
        go_wp2_with fail
        refine HFl.out.mono ?_; rintro e w12 ⟨a12, c12, rfl, ho12, hb12⟩
        have hst := string_own ho12
        have HX12 := Lib.hid (HXT.out.below hb12)
        have HA12 := Lib.hid (HAr.out.below hb12)
        have h12 := (hb12.block _ (lt_of_heap HSr.out)).trans HSr.out
        have HB14 := Lib.hid (HBr.out.trans (hb12.mono HBr.out.size))
        have kt12 := (hb12.cell (p := ⟨w10.heap.size, 0, none⟩) hbw).trans kt
        have k70 : w12.cell? ⟨w2.heap.size, 0, none⟩ = some (.slice a7 n7 c7) := by rw [cell_at h12]; rfl
        have k71 : w12.cell? ⟨w2.heap.size, 1, none⟩ = some (.int .i64 x7) := by rw [cell_at h12]; rfl
        have k72 : w12.cell? ⟨w2.heap.size, 2, none⟩ = some (.int .i64 y7) := by rw [cell_at h12]; rfl
        have k73 : w12.cell? ⟨w2.heap.size, 3, none⟩ = some (.bool k7) := by rw [cell_at h12]; rfl
        have hz12 := hb12.size
        have hsf := strOf_size f
        have hw0 : 0 < w.heap.size := by have := HM.out.1; omega
        have HM12 := Lib.hid (HM.out.below (HBw.out.trans (HB14.out.mono HBw.out.size)) hw0)
        clear ho12 hb12 h12 HFl kt HAr HSr HBr HXT HHr
        by_cases hlong : 400 < f.length
        · have HWr := Lib.hid (cwrite_long (a0 := a7) (n0 := n7) (c0 := c7) (x := x7) (y := y7) (k := k7) (.pointer (some ⟨p, 0, none⟩)) HX12.out (by rw [← HLEN.out]; exact hlong))
          have d : decide ((400 : Int) < (f.length : Int)) = true := decide_eq_true (by omega)
          have d' : decide (400 < f.length) = true := decide_eq_true (by omega)
          go_wp2_with fail
          refine HWr.out.mono ?_; rintro e w14 ⟨rfl, hb14⟩
          have al := below_al w14 (Obj.cells #[Value.slice none 0 0, Value.int .i64 0, Value.int .i64 0, Value.bool false] 50)
          have hfn := heap_alloc_new w14 (Obj.cells #[Value.slice none 0 0, Value.int .i64 0, Value.int .i64 0, Value.bool false] 50)
          have HB15 := Lib.hid (HB14.out.trans ((hb14.trans (al.mono hb14.size)).mono HB14.out.size))
          have hlt15 : w14.heap.size < (w14.alloc (Obj.cells #[Value.slice none 0 0, Value.int .i64 0, Value.int .i64 0, Value.bool false] 50)).heap.size := by simp
          clear hb14 al HWr k70 k71 k72 k73 kt12 hst
          go_upto_region 17 with fail
          generalize w14.alloc (Obj.cells #[Value.slice none 0 0, Value.int .i64 0, Value.int .i64 0, Value.bool false] 50) = w15 at *
          have c0 : w15.cell? ⟨w14.heap.size, 0, none⟩ = some (.slice none 0 0) := by rw [cell_at hfn]; rfl
          have c1 : w15.cell? ⟨w14.heap.size, 1, none⟩ = some (.int .i64 0) := by rw [cell_at hfn]; rfl
          have c2 : w15.cell? ⟨w14.heap.size, 2, none⟩ = some (.int .i64 0) := by rw [cell_at hfn]; rfl
          have c3 : w15.cell? ⟨w14.heap.size, 3, none⟩ = some (.bool false) := by rw [cell_at hfn]; rfl
          have HE := Lib.hid (cempty_of (w := w15) (t := []) (a := none) (n := 0) (c := 0) 0 0 false ⟨none, 0, (by simp [canon]), ⟨by simp [canon, spC], fun hn => absurd hn (by simp [canon])⟩, ⟨by simp, fun x hx => by simp at hx⟩, (fun d hd => by simp at hd), fun _ => rfl, (fun d hd => by simp at hd)⟩)
          clear hfn
          go_wp2_with fail
          refine HE.out.mono ?_; rintro e w16 ⟨rfl, hb16⟩
          have c3' := (hb16.cell (p := ⟨w14.heap.size, 3, none⟩) hlt15).trans c3
          have HB16 := Lib.hid (HB15.out.trans (hb16.mono HB15.out.size))
          clear hb16 HE c0 c1 c2 c3
          go_wp2_with fail
          refine (awake7_of _).mono ?_; rintro e wz ⟨rfl, hbz⟩
          have HBZ := Lib.hid (HBw.out.trans ((HB16.out.trans (hbz.mono HB16.out.size)).mono HBw.out.size))
          clear hbz
          go_wp2_with fail
          go_ret
          exact ⟨rfl, HBZ.out⟩
        · have HWr := Lib.hid (cwrite_ok (a0 := a7) (n0 := n7) (c0 := c7) (x := x7) (y := y7) (k := k7) HA12.out (show W1.heap.size ≤ w12.heap.size by omega) (by omega) HM12.out HX12.out HIN.out (by rw [← HLEN.out]; omega) (by omega))
          rw [HFE.out] at HWr
          have d : decide ((400 : Int) < (f.length : Int)) = false := decide_eq_false (by omega)
          have d' : decide (400 < f.length) = false := decide_eq_false (by omega)
          go_wp2_with fail
          refine HWr.out.mono ?_; rintro e w14 ⟨a14, n14, c14, t14, l14, rfl, hA14, hl14, hX14, hI14, hat, hcn, hT14⟩
          have al := below_al w14 (Obj.cells #[Value.slice a14 n14 c14, Value.int .i64 0, Value.int .i64 0, Value.bool false] 50)
          have hfn := heap_alloc_new w14 (Obj.cells #[Value.slice a14 n14 c14, Value.int .i64 0, Value.int .i64 0, Value.bool false] 50)
          have HB15 := Lib.hid ((HB14.out.trans (hT14.low.mono hzW)).trans (al.mono (by have := hT14.size; have := HB14.out.size; omega)))
          have HA15 := Lib.hid (hA14.below al)
          have HX15 := Lib.hid (hX14.below al)
          have HI15 := Lib.hid hI14
          have HAT := Lib.hid hat
          have hlt15 : w14.heap.size < (w14.alloc (Obj.cells #[Value.slice a14 n14 c14, Value.int .i64 0, Value.int .i64 0, Value.bool false] 50)).heap.size := by simp
          clear hA14 hX14 hI14 hat hT14 al HWr k70 k71 k72 k73 kt12 hst
          go_upto_region 17 with fail
          generalize w14.alloc (Obj.cells #[Value.slice a14 n14 c14, Value.int .i64 0, Value.int .i64 0, Value.bool false] 50) = w15 at *
          have c0 : w15.cell? ⟨w14.heap.size, 0, none⟩ = some (.slice a14 n14 c14) := by rw [cell_at hfn]; rfl
          have c1 : w15.cell? ⟨w14.heap.size, 1, none⟩ = some (.int .i64 0) := by rw [cell_at hfn]; rfl
          have c2 : w15.cell? ⟨w14.heap.size, 2, none⟩ = some (.int .i64 0) := by rw [cell_at hfn]; rfl
          have c3 : w15.cell? ⟨w14.heap.size, 3, none⟩ = some (.bool false) := by rw [cell_at hfn]; rfl
          have HPl := Lib.hid (cplain_text 0 0 HA15.out hl14 HX15.out HI15.out)
          rw [HAT.out] at HPl
          clear hfn
          go_wp2_with fail
          refine HPl.out.mono ?_; rintro e w16 ⟨rfl, hb16⟩
          have c0' := (hb16.cell (p := ⟨w14.heap.size, 0, none⟩) hlt15).trans c0
          have HB16 := Lib.hid (HB15.out.trans (hb16.mono HB15.out.size))
          have HX16 := Lib.hid (HX15.out.below hb16)
          obtain ⟨a16, c16, h16, hr16, -⟩ := HX16.out
          injection h16 with h16a h16b h16c
          subst h16a h16b h16c
          have HSp := Lib.hid (pspans7_rd (c := c14) hr16 (by omega))
          have dl : decide (((canon t14).length : Int) ≤ 32) = true := decide_eq_true (by omega)
          have dl' : decide ((canon t14).length ≤ 32) = true := decide_eq_true hcn
          clear hb16 HPl c0 c1 c2 c3 hr16
          go_wp2_with fail
          refine HSp.out.mono ?_; rintro e w18 ⟨v18, rfl, ho18, hb18⟩
          obtain ⟨a18, c18, rfl⟩ := own_slice ho18
          have HB18 := Lib.hid (HB16.out.trans (hb18.mono HB16.out.size))
          clear hb18 ho18 HSp
          go_wp2_with fail
          refine (awake7_of _).mono ?_; rintro e wz ⟨rfl, hbz⟩
          have HBZ := Lib.hid (HBw.out.trans ((HB18.out.trans (hbz.mono HB18.out.size)).mono HBw.out.size))
          clear hbz
          go_wp2_with fail
          go_ret
          exact ⟨rfl, HBZ.out⟩

end Go.Proofs.Ytmdifcgnmkpecaa
