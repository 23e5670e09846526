/-
  The walk of TreePlays, at this seat's numbers.
-/
import Derived.Test.YtofncnommekbjaaTuD
namespace Go.Proofs.Ytofncnommekbjaa
open Go Go.RowKit
set_option linter.unusedVariables false

theorem Rd.op {w : World} {g o n : Nat} {L : List OpM} (H : Rd w 4 (some ⟨g, o, none⟩) n (opC L)) {k : Nat} {q : OpM} (h : L[k]? = some q) : (w.cell? ⟨g, o + k * 4, none⟩ = some (.int .i64 q.kind) ∧ w.cell? ⟨g, o + k * 4 + 1, none⟩ = some (.int .i64 q.i) ∧ w.cell? ⟨g, o + k * 4 + 2, none⟩ = some (.int .i64 q.x) ∧ w.cell? ⟨g, o + k * 4 + 3, none⟩ = some (.bool q.odd)) ∧ g < w.heap.size := by
  have hk := (List.getElem?_eq_some_iff.1 h).1
  have hl := H.1
  rw [opC_len] at hl
  obtain ⟨g', o', e, hg, hc⟩ := H.2 (by omega)
  cases e
  obtain ⟨h0, h1, h2, h3⟩ := opC_at L k q h
  exact ⟨⟨hc _ _ h0, by rw [Nat.add_assoc]; exact hc _ _ h1, by rw [Nat.add_assoc]; exact hc _ _ h2, by rw [Nat.add_assoc]; exact hc _ _ h3⟩, hg⟩
theorem Rd.opsome {w : World} {a : Option Addr} {n : Nat} {L : List OpM} (H : Rd w 4 a n (opC L)) (h : 0 < n) : ∃ g o, a = some ⟨g, o, none⟩ := by
  obtain ⟨g', o', e, hg, hc⟩ := H.2 h
  exact ⟨g', o', e⟩
def PyRel (T TT z N : Nat) (w : World) (v0 v19 : Value) (wr : World) : Prop :=
  ∃ (k : Nat) (y a' : Option Addr) (c' : Nat) (l' : List Int), v19 = .int .i64 k ∧ v0 = .slice a' l'.length c' ∧ k ≤ N ∧ k ≤ 80 ∧ l'.length ≤ 300 + k ∧ wr.heap[z]? = some (.cells #[.pointer y] TT (0, 0)) ∧ Tin wr T (.pointer y) (nums l') ∧ Sl wr a' c' (nums l') ∧ Below w.heap.size w wr

set_option maxRecDepth 100000 in
set_option maxHeartbeats 4000000 in
theorem treePlays_walk (a : Option Addr) (c : Nat) (l0 : List Int) (b : Option Addr) (d : Nat) (L : List OpM) (w : World) (hl0 : Sl w a c (l0.map (Value.int .i64)) ∧ ∀ x ∈ l0, I64 x) (hop : Rd w 4 b L.length (opC L) ∧ d ≤ maxLen ∧ L.length ≤ d ∧ ∀ o ∈ L, I64 o.kind ∧ I64 o.i ∧ I64 o.x) :
    Calls Try.prog 3 #[.slice a l0.length c, .slice b L.length d] w fun e w' => e = .returned (.bool true) ∧ Below w.heap.size w w' := by
  have HF1 := Lib.hid (nfew l0 hl0.1)
  have hlen : (l0.take 300).length ≤ 300 := by rw [List.length_take]; omega
  generalize l0.take 300 = l at *
  generalize l0.length = n0 at *
  clear hl0
  have hN1 : L.length ≤ 9223372036854775807 := by have h1 := hop.2.1; have h2 := hop.2.2.1; unfold maxLen at h1; omega
  have HOP := Lib.hid hop
  obtain ⟨N, hN⟩ : ∃ N, L.length = N := ⟨_, rfl⟩
  have HN := Lib.hid hN
  rw [hN] at hN1 ⊢
  clear hN hop
  go_enter Try.func3, Try.ntmps3
  go_wp2_with fail
  refine HF1.out.mono ?_; rintro e w1 ⟨rfl, hS1, rfl⟩
  have HS := Lib.hid hS1
  have HO1 := Lib.hid (tof_i (n := l.length) hS1 (nums_len _) (by omega) (nums_gd _))
  clear hS1 HF1
  go_wp2_with fail
  refine HO1.out.mono ?_; rintro e w2 ⟨x1, rfl, ht1, hb2⟩
  obtain ⟨w3, hw3, hb3, hz3, hh3⟩ := box_eq w2 27 x1
  have c3 : w3.cell? ⟨w2.heap.size, 0, none⟩ = some (.pointer x1) := by rw [cell_at hh3]; rfl
  have HB3 := Lib.hid (hb2.trans (hb3.mono hb2.size))
  have HT3 := Lib.hid (ht1.below hb3)
  have HS3 := Lib.hid (HS.out.below HB3.out)
  have HFt := Lib.hid (Fits_of HT3.out HS3.out (by omega))
  have hzw : w.heap.size ≤ w2.heap.size := hb2.size
  have hz32 : w2.heap.size < w3.heap.size := by omega
  have HH3 := Lib.hid hh3
  clear ht1 hb2 hb3 hz3 hh3 HO1
  go_wp2_with fail
  refine HFt.out.mono ?_; rintro e w4 ⟨rfl, hb4⟩
  have HT4 := Lib.hid (HT3.out.below hb4)
  have HS4 := Lib.hid (HS3.out.below hb4)
  have HB4 := Lib.hid (HB3.out.trans (hb4.mono HB3.out.size))
  have HH4 := Lib.hid ((hb4.block _ hz32).trans HH3.out)
  clear hb4 HFt c3 hw3
  go_wp2_with fail
  go_loopw [0, 19] (fun v0 v19 wr => PyRel 95 27 w2.heap.size N w v0 v19 wr) (fun _ v19 _ => N - (intOf v19).toNat)
  case atStart => exact ⟨0, x1, a, c, l, rfl, rfl, by omega, by omega, by omega, HH4.out, HT4.out, HS4.out, HB4.out⟩
  case round =>
    obtain ⟨k, y, a', c', l', rfl, rfl, hk, hk80, hll, hhz, hT, hS, hB⟩ := hrel
    have HB := Lib.hid hB
    have HT := Lib.hid hT
    have HSl := Lib.hid hS
    have HZ := Lib.hid hhz
    have cz : wr.cell? ⟨w2.heap.size, 0, none⟩ = some (.pointer y) := by rw [cell_at hhz]; rfl
    have hltz := lt_of_heap hhz
    clear hT hS hB hhz
    by_cases hlt : k < N
    · have dk : decide (k < N) = true := decide_eq_true hlt
      obtain ⟨g, o, rfl⟩ := HOP.out.1.opsome (by rw [HN.out]; omega)
      obtain ⟨q, hq⟩ : ∃ q, L[k]? = some q := ⟨_, List.getElem?_eq_getElem (by rw [HN.out]; exact hlt)⟩
      obtain ⟨⟨q0, q1, q2, q3⟩, hg⟩ := (HOP.out.1.below HB.out).op hq
      have hI := (HOP.out.2.2.2 q (List.mem_of_getElem? hq)).2.1
      have e0 : (0 : Int) ≤ (k : Int) := by omega
      have e1 : (k : Int) < (N : Int) := by omega
      have hh5 := heap_alloc_new wr (Obj.cells #[.int .i64 q.kind, .int .i64 q.i, .int .i64 q.x, .bool q.odd] 31)
      have al5 := t_al wr (Obj.cells #[.int .i64 q.kind, .int .i64 q.i, .int .i64 q.x, .bool q.odd] 31)
      obtain ⟨w5, hw5⟩ : ∃ w5, wr.alloc (Obj.cells #[.int .i64 q.kind, .int .i64 q.i, .int .i64 q.x, .bool q.odd] 31) = w5 := ⟨_, rfl⟩
      rw [hw5] at hh5 al5
      have HT5 := Lib.hid (HT.out.below al5)
      have HS5 := Lib.hid (HSl.out.below al5)
      have HB5 := Lib.hid (HB.out.trans (al5.mono HB.out.size))
      have hz5 := (al5.block _ hltz).trans HZ.out
      have HZ5 := Lib.hid hz5
      have cz5 : w5.cell? ⟨w2.heap.size, 0, none⟩ = some (.pointer y) := by rw [cell_at hz5]; rfl
      have hltz5 := lt_of_heap hz5
      by_cases h80 : 80 ≤ k
      · have d8 : decide (80 ≤ k) = true := decide_eq_true h80
        have d8i : decide ((80 : Int) ≤ (k : Int)) = true := decide_eq_true (by omega)
        have HAll := Lib.hid (nall HT5.out (by omega))
        have HSx := HS5
        have HBx := HB5
        clear hh5 al5 hz5
        go_wp2_with fail
        refine HAll.out.mono ?_; rintro e w8 ⟨a8, c8, rfl, hS8, hb8⟩
        have HSm := Lib.hid (nsame l' l' hS8 (HSx.out.below hb8) (by omega))
        rw [show decide (l' = l') = true by simp] at HSm
        have HB8 := Lib.hid (HBx.out.trans (hb8.mono HBx.out.size))
        clear hS8 hb8 HAll
        go_wp2_with fail
        refine HSm.out.mono ?_; rintro e w9 ⟨rfl, hb9⟩
        have HB9 := Lib.hid (HB8.out.trans (hb9.mono HB8.out.size))
        have HAw := Lib.hid (awake9_of (w := w9))
        clear hb9 HSm
        go_wp2_with fail
        refine HAw.out.mono ?_; rintro e wa ⟨rfl, hba⟩
        have HBa := Lib.hid (HB9.out.trans (hba.mono HB9.out.size))
        clear hba HAw
        go_wp2_with fail
        go_ret
        exact ⟨rfl, HBa.out⟩
      · have d8 : decide (80 ≤ k) = false := decide_eq_false h80
        have d8i : decide ((80 : Int) ≤ (k : Int)) = false := decide_eq_false (by omega)
        have b0 : w5.cell? ⟨wr.heap.size, 0, none⟩ = some (.int .i64 q.kind) := by rw [cell_at hh5]; rfl
        have b1 : w5.cell? ⟨wr.heap.size, 1, none⟩ = some (.int .i64 q.i) := by rw [cell_at hh5]; rfl
        have b2 : w5.cell? ⟨wr.heap.size, 2, none⟩ = some (.int .i64 q.x) := by rw [cell_at hh5]; rfl
        have b3 : w5.cell? ⟨wr.heap.size, 3, none⟩ = some (.bool q.odd) := by rw [cell_at hh5]; rfl
        have HSt := Lib.hid (step_of q HT5.out HS5.out hI (by omega))
        have HLL := Lib.hid (stL_len l' q)
        generalize stL l' q = m at *
        unfold StPost at HSt
        clear hh5 al5 hz5
        go_wp2_with fail
        refine HSt.out.mono ?_; rintro e w6 ⟨y', a6, c6, rfl, hT6, hS6, _, hb6⟩
        have hz6 := (hb6.block _ hltz5).trans HZ5.out
        have zz6 := fun i => unfrozen hz6 i
        have cz6 : w6.cell? ⟨w2.heap.size, 0, none⟩ = some (.pointer y) := by rw [cell_at hz6]; rfl
        obtain ⟨w7, hw7⟩ : ∃ w7, w6.setCell ⟨w2.heap.size, 0, none⟩ (.pointer y') = w7 := ⟨_, rfl⟩
        have hz7 : w7.heap[w2.heap.size]? = some (.cells #[.pointer y'] 27 (0, 0)) := by rw [← hw7, heap_set_at hz6]; rfl
        have hT7 : Tin w7 95 (.pointer y') (nums m) := by rw [← hw7]; exact hT6.setBox hz6 (by decide) (nums_np _ _)
        have hS7 : Sl w7 a6 c6 (nums m) := by rw [← hw7]; exact hS6.setBox hz6 (.inr (nums_np _ _))
        have hB7 : Below w.heap.size w w7 := by rw [← hw7]; exact (HB5.out.trans (hb6.mono HB5.out.size)).setCell (p := ⟨w2.heap.size, 0, none⟩) hzw _
        have cz7 : w7.cell? ⟨w2.heap.size, 0, none⟩ = some (.pointer y') := by rw [cell_at hz7]; rfl
        have HF := Lib.hid (Fits_of hT7 hS7 (by have := HLL.out; omega))
        have HT7 := Lib.hid hT7
        have HS7 := Lib.hid hS7
        have HB7 := Lib.hid hB7
        have HZ7 := Lib.hid hz7
        have hltz7 := lt_of_heap hz7
        clear hT6 hS6 hb6 hz6 hz7 hT7 hS7 hB7 HSt b0 b1 b2 b3 cz5
        go_wp2_with fail
        refine HF.out.mono ?_; rintro e w8 ⟨rfl, hb8⟩
        have HT8 := Lib.hid (HT7.out.below hb8)
        have HS8 := Lib.hid (HS7.out.below hb8)
        have HB8 := Lib.hid (HB7.out.trans (hb8.mono HB7.out.size))
        have HZ8 := Lib.hid ((hb8.block _ hltz7).trans HZ7.out)
        clear hb8 HF
        go_wp2_with fail
        go_roundw
        case rel => exact ⟨k + 1, y', a6, c6, m, by go_num, rfl, by omega, by omega, by have := HLL.out; omega, HZ8.out, HT8.out, HS8.out, HB8.out⟩
        case measure => simp [intOf]; omega
    · have dk : decide (k < N) = false := decide_eq_false hlt
      have HAll := Lib.hid (nall HT.out (by omega))
      have HSx := HSl
      have HBx := HB
      go_wp2_with fail
      refine HAll.out.mono ?_; rintro e w8 ⟨a8, c8, rfl, hS8, hb8⟩
      have HSm := Lib.hid (nsame l' l' hS8 (HSx.out.below hb8) (by omega))
      rw [show decide (l' = l') = true by simp] at HSm
      have HB8 := Lib.hid (HBx.out.trans (hb8.mono HBx.out.size))
      clear hS8 hb8 HAll
      go_wp2_with fail
      refine HSm.out.mono ?_; rintro e w9 ⟨rfl, hb9⟩
      have HB9 := Lib.hid (HB8.out.trans (hb9.mono HB8.out.size))
      have HAw := Lib.hid (awake9_of (w := w9))
      clear hb9 HSm
      go_wp2_with fail
      refine HAw.out.mono ?_; rintro e wa ⟨rfl, hba⟩
      have HBa := Lib.hid (HB9.out.trans (hba.mono HB9.out.size))
      clear hba HAw
      go_wp2_with fail
      go_ret
      exact ⟨rfl, HBa.out⟩

end Go.Proofs.Ytofncnommekbjaa
