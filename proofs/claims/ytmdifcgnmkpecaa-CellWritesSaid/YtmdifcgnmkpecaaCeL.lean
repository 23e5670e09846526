/-
  Contracts for CellWrites: cell's Write of a text that is too long, and of one of many spans; scan's One of nothing; the spans of a text; at this seat's numbers.
-/
import Derived.Test.YtmdifcgnmkpecaaCeE
import Derived.Test.YtmdifcgnmkpecaaPcK
namespace Go.Proofs.Ytmdifcgnmkpecaa
open Go Go.RowKit
set_option linter.unusedVariables false

theorem one_nil {w : World} {a : Option Addr} {c : Nat} :
    Calls Try.prog 20 #[.slice a 0 c, .int .i64 0] w fun e w' => e = .returned (.tuple #[.agg #[.slice none 0 0, .int .i64 0], .int .i64 0]) ∧ Below w.heap.size w w' := by
  have hh := heap_alloc_new w (Obj.cells #[Value.slice none 0 0, Value.int IntKind.i64 0] 34)
  have HB := Lib.hid (below_al w (Obj.cells #[Value.slice none 0 0, Value.int IntKind.i64 0] 34))
  have z5 := fun i => unfrozen hh i
  have p0 : (w.alloc (Obj.cells #[Value.slice none 0 0, Value.int IntKind.i64 0] 34)).cell? ⟨w.heap.size, 0, none⟩ = some (.slice none 0 0) := by rw [cell_at hh]; rfl
  have p1 : (w.alloc (Obj.cells #[Value.slice none 0 0, Value.int IntKind.i64 0] 34)).cell? ⟨w.heap.size, 1, none⟩ = some (.int .i64 0) := by rw [cell_at hh]; rfl
  have HH := Lib.hid hh
  clear hh
  go_enter Try.func20, Try.ntmps20
  go_upto_region 2 with fail
  generalize w.alloc (Obj.cells #[Value.slice none 0 0, Value.int IntKind.i64 0] 34) = w4 at *
  go_wp2_with fail
  have q0 : ((w4.setCell ⟨w.heap.size, 0, none⟩ (.slice none 0 0)).setCell ⟨w.heap.size, 1, none⟩ (.int .i64 0)).cell? ⟨w.heap.size, 0, none⟩ = some (.slice none 0 0) := by rw [cell_at (heap_set_at (heap_set_at HH.out))]; rfl
  have q1 : ((w4.setCell ⟨w.heap.size, 0, none⟩ (.slice none 0 0)).setCell ⟨w.heap.size, 1, none⟩ (.int .i64 0)).cell? ⟨w.heap.size, 1, none⟩ = some (.int .i64 0) := by rw [cell_at (heap_set_at (heap_set_at HH.out))]; rfl
  exact bodyPost_ret (v := .tuple #[.agg #[.slice none 0 0, .int .i64 0], .int .i64 0]) (by simp [results, Try.results20, go_sem, q0, q1]) rfl ⟨rfl, (HB.out.setCell (p := ⟨w.heap.size, 0, none⟩) (Nat.le_refl _) _).setCell (p := ⟨w.heap.size, 1, none⟩) (Nat.le_refl _) _⟩

theorem inL_slI {l : List UInt8} {t : List Int} (h : InL l t) (i j : Int) : InL l (slI t i j) := fun x hx => h x (List.mem_of_mem_take (List.mem_of_mem_drop hx))
theorem slI_len (t : List Int) (i j : Int) : (slI t i j).length ≤ t.length := by unfold slI; rw [List.length_drop, List.length_take]; omega
theorem inL_app {l : List UInt8} {t : List Int} (h : InL l t) (m : List UInt8) : InL (l ++ m) t := fun x hx => by have := h x hx; rw [List.length_append]; omega
theorem inL_one {l : List UInt8} {i n : Nat} (h : i + n ≤ l.length) : InL l (ex [((i : Int), (n : Int))]) := fun x hx => by
  obtain ⟨z, hz, h1, h2⟩ := mem_ex hx
  obtain rfl := List.mem_singleton.1 hz
  simp only at h1 h2
  omega
theorem sm_inL {l : List UInt8} {t : List Int} (h : InL l t) (hl : l.length ≤ 16384) (ht : t.length ≤ 20000) : Sm t := ⟨ht, fun x hx => by have := h x hx; omega⟩

set_option maxRecDepth 100000 in
/-- The spans of a text, told. -/
theorem pspans7_rd {w : World} {c : Nat} {a : Option Addr} {l : List (Int × Int)} (hr : Rd w 2 a l.length (spC l)) (hl : l.length ≤ 1000000) :
    Calls Try.prog 27 #[.agg #[.slice a l.length c]] w fun e w' => ∃ v', e = .returned v' ∧ w'.ownsRow w.heap.size 39 2 v' l.length (spC l) ∧ Below w.heap.size w w' := by
  have al := below_al w (Obj.cells #[Value.slice a l.length c] 48)
  have HB0 := Lib.hid al
  have hz0 := al.size
  have c0 : (w.alloc (Obj.cells #[Value.slice a l.length c] 48)).cell? ⟨w.heap.size, 0, none⟩ = some (.slice a l.length c) := by rw [cell_at (heap_alloc_new w _)]; rfl
  have HC : Hid (∀ w1, Below w.heap.size w w1 → Calls Try.prog 66 #[.slice a l.length c] w1 fun e w' => ∃ v', e = .returned v' ∧ w'.ownsRow w.heap.size 39 2 v' l.length (spC l) ∧ Below w.heap.size w w') := by
    intro w1 hb
    rcases a with _ | ad
    · refine (pclone_nil l.length c w1).mono ?_
      rintro e w' ⟨rfl, rfl⟩
      have h0 : l.length = 0 := by
        rcases Nat.eq_zero_or_pos l.length with h1 | h1
        · exact h1
        · obtain ⟨_, _, h2, _⟩ := hr.2 h1
          cases h2
      obtain rfl := List.eq_nil_of_length_eq_zero h0
      exact ⟨_, rfl, own_nil _ _ _ _, hb⟩
    · refine (pclone_some (w := w1) (ad := ad) (c := c) (fun j u hj => ?_) hl).mono ?_
      · have hpos : 0 < l.length := by
          have h2 := (List.getElem?_eq_some_iff.1 hj).1
          rw [spC_len] at h2; omega
        obtain ⟨g, off, h1, _, h3⟩ := (hr.below hb).2 hpos
        simp only [Option.some.injEq] at h1
        subst h1
        rw [Addr.add_lit]
        exact h3 j u hj
      · rintro e w' ⟨v', rfl, h1, h2⟩
        exact ⟨_, rfl, own_mono h1 hb.size, hb.trans (h2.mono hb.size)⟩
  clear hr hl al
  go_enter Try.func27, Try.ntmps27
  go_wp2_with fail
  refine (HC.out _ HB0.out).mono ?_; rintro e w2 ⟨v', rfl, ho2, hb2⟩
  have HO2 := Lib.hid ho2
  have HB2 := Lib.hid hb2
  clear ho2 hb2 c0
  go_wp2_with fail
  go_ret
  exact ⟨_, rfl, HO2.out, HB2.out⟩


set_option maxRecDepth 100000 in
set_option maxHeartbeats 1000000 in
theorem cwrite_long {w : World} {a0 : Option Addr} {n0 c0 : Nat} {x y : Int} {k : Bool} {a : Option Addr} {n c : Nat} {t : List Int} (z : Value) (hx : Tx w (.slice a n c) t) (hl : 400 < t.length) :
    Calls Try.prog 26 #[cellV a0 n0 c0 x y k, z, .agg #[.slice a n c]] w fun e w' => e = .returned (.tuple #[cellV none 0 0 0 0 false, .int .i64 7]) ∧ Below w.heap.size w w' := by
  obtain ⟨w1, hw1⟩ : ∃ w1, w1 = allocs w [Obj.cells #[Value.slice a0 n0 c0, Value.int .i64 x, Value.int .i64 y, Value.bool k] 50, Obj.cells #[Value.slice a n c] 48, Obj.cells #[Value.slice none 0 0, Value.int .i64 0, Value.int .i64 0, Value.bool false] 50] := ⟨_, rfl⟩
  have HB1 : Hid (Below w.heap.size w w1) := by rw [hw1]; exact Lib.hid (allocs_below _ w)
  have hzw : w1.heap.size > w.heap.size + 2 := by rw [hw1, allocs_size]; simp
  have h0 : w1.heap[w.heap.size + 1]? = some (.cells #[Value.slice a n c] 48 (0, 0)) := by rw [hw1]; exact allocs_at _ w 1 _ rfl
  have HH1 : Hid (w1.heap[w.heap.size + 2]? = some (.cells #[Value.slice none 0 0, Value.int .i64 0, Value.int .i64 0, Value.bool false] 50 (0, 0))) := by rw [hw1]; exact Lib.hid (allocs_at _ w 2 _ rfl)
  have k1 : w1.cell? ⟨w.heap.size + 1, 0, none⟩ = some (.slice a n c) := by rw [cell_at h0]; rfl
  have H0 := Lib.hid h0
  have HX1 := Lib.hid (hx.below HB1.out)
  have HL := Lib.hid (tlen_of HX1.out)
  have d : decide ((400 : Int) < (t.length : Int)) = true := decide_eq_true (by omega)
  have d' : decide (400 < t.length) = true := decide_eq_true (by omega)
  clear h0 hx
  go_enter Try.func26, Try.ntmps26
  go_upto_region 1 with fail
  rw [show ((w.alloc (Obj.cells #[Value.slice a0 n0 c0, Value.int .i64 x, Value.int .i64 y, Value.bool k] 50)).alloc (Obj.cells #[Value.slice a n c] 48)).alloc (Obj.cells #[Value.slice none 0 0, Value.int .i64 0, Value.int .i64 0, Value.bool false] 50) = w1 from hw1.symm]
  clear hw1
  go_wp2_with fail
  refine HL.out.mono ?_; rintro e w2 ⟨rfl, hb2⟩
  have HB5 := Lib.hid (HB1.out.trans (hb2.mono (by omega)))
  have hh5 := (hb2.block _ (by omega)).trans HH1.out
  have z5 := fun i => unfrozen hh5 i
  have p0 : w2.cell? ⟨w.heap.size + 1 + 1, 0, none⟩ = some (.slice none 0 0) := by rw [cell_at hh5]; rfl
  have p1 : w2.cell? ⟨w.heap.size + 1 + 1, 1, none⟩ = some (.int .i64 0) := by rw [cell_at hh5]; rfl
  have p2 : w2.cell? ⟨w.heap.size + 1 + 1, 2, none⟩ = some (.int .i64 0) := by rw [cell_at hh5]; rfl
  have p3 : w2.cell? ⟨w.heap.size + 1 + 1, 3, none⟩ = some (.bool false) := by rw [cell_at hh5]; rfl
  have HH5 := Lib.hid hh5
  clear hb2 hh5 HL k1 H0 HX1 HH1 HB1
  go_wp2_with fail
  have hs := set4_at HH5.out (.slice none 0 0) (.int .i64 0) (.int .i64 0) (.bool false)
  have hB := set4_below HB5.out (show w.heap.size ≤ w.heap.size + 1 + 1 by omega) (.slice none 0 0) (.int .i64 0) (.int .i64 0) (.bool false)
  have q0 : (set4 w2 (w.heap.size + 1 + 1) (.slice none 0 0) (.int .i64 0) (.int .i64 0) (.bool false)).cell? ⟨w.heap.size + 1 + 1, 0, none⟩ = some (.slice none 0 0) := by rw [cell_at hs]; rfl
  have q1 : (set4 w2 (w.heap.size + 1 + 1) (.slice none 0 0) (.int .i64 0) (.int .i64 0) (.bool false)).cell? ⟨w.heap.size + 1 + 1, 1, none⟩ = some (.int .i64 0) := by rw [cell_at hs]; rfl
  have q2 : (set4 w2 (w.heap.size + 1 + 1) (.slice none 0 0) (.int .i64 0) (.int .i64 0) (.bool false)).cell? ⟨w.heap.size + 1 + 1, 2, none⟩ = some (.int .i64 0) := by rw [cell_at hs]; rfl
  have q3 : (set4 w2 (w.heap.size + 1 + 1) (.slice none 0 0) (.int .i64 0) (.int .i64 0) (.bool false)).cell? ⟨w.heap.size + 1 + 1, 3, none⟩ = some (.bool false) := by rw [cell_at hs]; rfl
  unfold set4 at hB q0 q1 q2 q3
  exact bodyPost_ret (v := .tuple #[cellV none 0 0 0 0 false, .int .i64 7]) (by simp [results, Try.results26, go_sem, q0, q1, q2, q3]) rfl ⟨rfl, hB⟩

/-- What Write tells of a text of many spans. -/
def CWPost (l : List UInt8) (t : List Int) (B p : Nat) (w : World) (e : Ending) (w' : World) : Prop :=
  ∃ (a : Option Addr) (n c i : Nat) (l' : List UInt8), e = .returned (.tuple #[cellV a n c 0 0 false, .int .i64 0]) ∧ Ar w' B p l' ∧ l'.length ≤ 16384 ∧ Tx w' (.slice a n c) (ex [((i : Int), (t.length : Int))]) ∧ i + t.length ≤ l'.length ∧ atL l' (ex [((i : Int), (t.length : Int))]) = atL l t ∧ Turned B w w'
set_option maxRecDepth 100000 in
set_option maxHeartbeats 2000000 in
theorem cwrite_many {w : World} {B p : Nat} {l : List UInt8} {a0 : Option Addr} {n0 c0 : Nat} {x y : Int} {k : Bool} {a : Option Addr} {n c : Nat} {t : List Int} (h : Ar w B p l) (hB : B ≤ w.heap.size) (hB0 : 0 < B) (hm : ML w) (hx : Tx w (.slice a n c) t) (hin : InL l t) (hl : t.length ≤ 400) (hll : l.length ≤ 15000) (hn : 32 < (canon t).length) :
    Calls Try.prog 26 #[cellV a0 n0 c0 x y k, .pointer (some ⟨p, 0, none⟩), .agg #[.slice a n c]] w (CWPost l t B p w) := by
  obtain ⟨w1, hw1⟩ : ∃ w1, w1 = allocs w [Obj.cells #[Value.slice a0 n0 c0, Value.int .i64 x, Value.int .i64 y, Value.bool k] 50, Obj.cells #[Value.slice a n c] 48, Obj.cells #[Value.slice none 0 0, Value.int .i64 0, Value.int .i64 0, Value.bool false] 50] := ⟨_, rfl⟩
  have HB1 : Hid (Below w.heap.size w w1) := by rw [hw1]; exact Lib.hid (allocs_below _ w)
  have hzw : w1.heap.size > w.heap.size + 2 := by rw [hw1, allocs_size]; simp
  have h0 : w1.heap[w.heap.size + 1]? = some (.cells #[Value.slice a n c] 48 (0, 0)) := by rw [hw1]; exact allocs_at _ w 1 _ rfl
  have HH1 : Hid (w1.heap[w.heap.size + 2]? = some (.cells #[Value.slice none 0 0, Value.int .i64 0, Value.int .i64 0, Value.bool false] 50 (0, 0))) := by rw [hw1]; exact Lib.hid (allocs_at _ w 2 _ rfl)
  have k1 : w1.cell? ⟨w.heap.size + 1, 0, none⟩ = some (.slice a n c) := by rw [cell_at h0]; rfl
  have H0 := Lib.hid h0
  have HX1 := Lib.hid (hx.below HB1.out)
  have HA := Lib.hid h
  have HM := Lib.hid hm
  have HL := Lib.hid (tlen_of HX1.out)
  have d : decide ((400 : Int) < (t.length : Int)) = false := decide_eq_false (by omega)
  have d' : decide (400 < t.length) = false := decide_eq_false (by omega)
  clear h0 hx h hm
  go_enter Try.func26, Try.ntmps26
  go_upto_region 1 with fail
  rw [show ((w.alloc (Obj.cells #[Value.slice a0 n0 c0, Value.int .i64 x, Value.int .i64 y, Value.bool k] 50)).alloc (Obj.cells #[Value.slice a n c] 48)).alloc (Obj.cells #[Value.slice none 0 0, Value.int .i64 0, Value.int .i64 0, Value.bool false] 50) = w1 from hw1.symm]
  clear hw1
  go_wp2_with fail
  refine HL.out.mono ?_; rintro e w2 ⟨rfl, hb2⟩
  have HB2 := Lib.hid (HB1.out.trans (hb2.mono (by omega)))
  have HH2 := Lib.hid ((hb2.block _ (by omega)).trans HH1.out)
  have h0 := (hb2.block _ (by omega)).trans H0.out
  have k2 : w2.cell? ⟨w.heap.size + 1, 0, none⟩ = some (.slice a n c) := by rw [cell_at h0]; rfl
  have HX2 := Lib.hid (HX1.out.below hb2)
  have hz2 : w2.heap.size > w.heap.size + 2 := by have := hb2.size; omega
  have HT := Lib.hid (tidy_many (HA.out.below HB2.out) (by omega) (Nat.le_trans hB HB2.out.size) hB0 (HM.out.below HB2.out (by have := HM.out.1; omega)) HX2.out hin hn)
  have hfl : (atL l t).length = t.length := atL_len l t
  have HKE := Lib.hid (keepR_err l (atL l t))
  have HKO := Lib.hid (keepR_ok l (atL l t) (by omega))
  have HFL := Lib.hid hfl
  clear hb2 h0 k1 HL HB1 HH1 H0 HX1 hzw
  unfold TidyPost at HT
  generalize hf : atL l t = f at *
  have HFE := Lib.hid hf
  clear hf
  generalize keepR l f = r at *
  generalize keepL l f = l3 at *
  obtain ⟨r1, r2, r3⟩ := r
  simp only at HT HKE HKO
  clear hfl
  go_wp2_with fail
  refine HT.out.mono ?_; rintro e w3 ⟨hA3, hT3, hor⟩
  have hfl := HFL.out
  rcases hor with ⟨he, rfl⟩ | ⟨he, a3, n3, c3, rfl, hx3⟩
  · have := (HKE.out he).2.2; omega
  · subst he
    obtain ⟨i, rfl, rfl, hi1, hi2, hi3⟩ := HKO.out rfl
    have HT3 := Lib.hid ((Turned.of_below HB2.out hB).trans hT3)
    have HH3 := Lib.hid (heap_turned HH2.out hT3 (by decide) (by decide))
    have hz3 := hT3.size
    have al := below_al w3 (Obj.cells #[Value.slice a3 n3 c3] 48)
    have HA4 := Lib.hid (hA3.below al)
    have HX4 := Lib.hid (hx3.below al)
    have HT4 := Lib.hid (HT3.out.then_below al (by omega))
    have HH4 := Lib.hid ((al.block _ (by omega)).trans HH3.out)
    have k4 : (w3.alloc (Obj.cells #[Value.slice a3 n3 c3] 48)).cell? ⟨w3.heap.size, 0, none⟩ = some (.slice a3 n3 c3) := by rw [cell_at (heap_alloc_new w3 _)]; rfl
    have hz4 : (w3.alloc (Obj.cells #[Value.slice a3 n3 c3] 48)).heap.size > w2.heap.size := by simp; omega
    have HOf := Lib.hid (ceof_of (w := w3.alloc (Obj.cells #[Value.slice a3 n3 c3] 48)) a3 n3 c3)
    have HI3 := Lib.hid hi3
    clear hA3 hT3 hx3 al HT k2 HB2 HH2 HX2 HT3 HH3 hfl hi3 HKE HKO
    go_wp2_with fail
    refine HOf.out.mono ?_; rintro e w5 ⟨rfl, hb5⟩
    have HA5 := Lib.hid (HA4.out.below hb5)
    have HX5 := Lib.hid (HX4.out.below hb5)
    have HT5 := Lib.hid (HT4.out.then_below hb5 (by omega))
    have hh5 := (hb5.block _ (by omega)).trans HH4.out
    have z5 := fun i => unfrozen hh5 i
    have p0 : w5.cell? ⟨w.heap.size + 1 + 1, 0, none⟩ = some (.slice none 0 0) := by rw [cell_at hh5]; rfl
    have p1 : w5.cell? ⟨w.heap.size + 1 + 1, 1, none⟩ = some (.int .i64 0) := by rw [cell_at hh5]; rfl
    have p2 : w5.cell? ⟨w.heap.size + 1 + 1, 2, none⟩ = some (.int .i64 0) := by rw [cell_at hh5]; rfl
    have p3 : w5.cell? ⟨w.heap.size + 1 + 1, 3, none⟩ = some (.bool false) := by rw [cell_at hh5]; rfl
    have HH5 := Lib.hid hh5
    have hb2z : w2.heap.size > w.heap.size + 2 := hz2
    clear hb5 hh5 HOf HH4 k4
    go_wp2_with fail
    have hs := set4_at HH5.out (.slice a3 n3 c3) (.int .i64 0) (.int .i64 0) (.bool false)
    have q0 : (set4 w5 (w.heap.size + 1 + 1) (.slice a3 n3 c3) (.int .i64 0) (.int .i64 0) (.bool false)).cell? ⟨w.heap.size + 1 + 1, 0, none⟩ = some (.slice a3 n3 c3) := by rw [cell_at hs]; rfl
    have q1 : (set4 w5 (w.heap.size + 1 + 1) (.slice a3 n3 c3) (.int .i64 0) (.int .i64 0) (.bool false)).cell? ⟨w.heap.size + 1 + 1, 1, none⟩ = some (.int .i64 0) := by rw [cell_at hs]; rfl
    have q2 : (set4 w5 (w.heap.size + 1 + 1) (.slice a3 n3 c3) (.int .i64 0) (.int .i64 0) (.bool false)).cell? ⟨w.heap.size + 1 + 1, 2, none⟩ = some (.int .i64 0) := by rw [cell_at hs]; rfl
    have q3 : (set4 w5 (w.heap.size + 1 + 1) (.slice a3 n3 c3) (.int .i64 0) (.int .i64 0) (.bool false)).cell? ⟨w.heap.size + 1 + 1, 3, none⟩ = some (.bool false) := by rw [cell_at hs]; rfl
    have hA6 : Ar (set4 w5 (w.heap.size + 1 + 1) (.slice a3 n3 c3) (.int .i64 0) (.int .i64 0) (.bool false)) B p l3 := ((((HA5.out.set HH5.out (by decide) (by decide)).set (heap_set_at HH5.out) (by decide) (by decide)).set (heap_set_at (heap_set_at HH5.out)) (by decide) (by decide)).set (heap_set_at (heap_set_at (heap_set_at HH5.out))) (by decide) (by decide))
    have hT6 : Turned B w (set4 w5 (w.heap.size + 1 + 1) (.slice a3 n3 c3) (.int .i64 0) (.int .i64 0) (.bool false)) := (((HT5.out.set_new hB (by omega)).set_new hB (by omega)).set_new hB (by omega)).set_new hB (by omega)
    have hX6 : Tx (set4 w5 (w.heap.size + 1 + 1) (.slice a3 n3 c3) (.int .i64 0) (.int .i64 0) (.bool false)) (.slice a3 n3 c3) (ex [((i : Int), (f.length : Int))]) := TxB.tx ((((HX5.out.set (by omega)).set (by omega)).set (by omega)).set (by omega))
    unfold set4 at hA6 hT6 hX6 q0 q1 q2 q3
    have hfl := HFL.out
    rw [hfl] at hi1 hX6
    refine bodyPost_ret (v := .tuple #[cellV a3 n3 c3 0 0 false, .int .i64 0]) (by simp [results, Try.results26, go_sem, q0, q1, q2, q3]) rfl ⟨a3, n3, c3, i, l3, rfl, hA6, hi2, hX6, hi1, ?_, hT6⟩
    have := HI3.out
    rw [hfl] at this
    rw [atL_span hi1, this, HFE.out]

theorem canon_span7 {i n : Nat} (h : 1 ≤ n) : canon (ex [((i : Int), (n : Int))]) = [((i : Int), (n : Int))] := by
  rw [← ofS_canon]
  unfold ofS joinS
  rw [List.foldl_cons, if_neg (by simp only; omega)]
  rfl
/-- Write of a text that is not too long. -/
theorem cwrite_ok {w : World} {B p : Nat} {l : List UInt8} {a0 : Option Addr} {n0 c0 : Nat} {x y : Int} {k : Bool} {a : Option Addr} {n c : Nat} {t : List Int} (h : Ar w B p l) (hB : B ≤ w.heap.size) (hB0 : 0 < B) (hm : ML w) (hx : Tx w (.slice a n c) t) (hin : InL l t) (hl : t.length ≤ 400) (hll : l.length ≤ 15000) :
    Calls Try.prog 26 #[cellV a0 n0 c0 x y k, .pointer (some ⟨p, 0, none⟩), .agg #[.slice a n c]] w fun e w' => ∃ (a' : Option Addr) (n' c' : Nat) (t' : List Int) (l' : List UInt8),
      e = .returned (.tuple #[cellV a' n' c' 0 0 false, .int .i64 0]) ∧ Ar w' B p l' ∧ l'.length ≤ 16384 ∧ Tx w' (.slice a' n' c') t' ∧ InL l' t' ∧ atL l' t' = atL l t ∧ (canon t').length ≤ 32 ∧ Turned B w w' := by
  by_cases hn : (canon t).length ≤ 32
  · refine (cwrite_few _ hx hl hn).mono ?_
    rintro e w' ⟨rfl, hb⟩
    exact ⟨a, n, c, t, l, rfl, h.below hb, by omega, hx.below hb, hin, rfl, hn, Turned.of_below hb hB⟩
  · refine (cwrite_many h hB hB0 hm hx hin hl hll (by omega)).mono ?_
    rintro e w' ⟨a', n', c', i, l', rfl, hA, hl', hX, hi, hat, hT⟩
    have hc := canon_count t
    refine ⟨a', n', c', _, l', rfl, hA, hl', hX, inL_one hi, hat, ?_, hT⟩
    rw [canon_span7 (by omega)]; simp

end Go.Proofs.Ytmdifcgnmkpecaa
