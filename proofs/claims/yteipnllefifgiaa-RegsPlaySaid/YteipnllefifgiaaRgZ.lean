/-
  RegsPlay's walk; at this seat's numbers.
-/
import Derived.Test.YteipnllefifgiaaRgY
import Derived.Test.YteipnllefifgiaaRgO
namespace Go.Proofs.Yteipnllefifgiaa
open Go Go.RowKit
set_option linter.unusedVariables false

/-- A call that comes in. -/
structure OpM where
  kind : Int
  name : Int
  k : Int
  a : Option Addr
  c : Nat
  T : List TxM
def OpsIn (w : World) (a : Option Addr) (L : List OpM) : Prop := 0 < L.length → ∃ g o, a = some ⟨g, o, none⟩ ∧ g < w.heap.size ∧ ∀ (j : Nat) (q : OpM), L[j]? = some q →
  w.cell? ⟨g, o + j * 4, none⟩ = some (.int .i64 q.kind) ∧ w.cell? ⟨g, o + j * 4 + 1, none⟩ = some (.int .i64 q.name) ∧ w.cell? ⟨g, o + j * 4 + 2, none⟩ = some (.int .i64 q.k) ∧ w.cell? ⟨g, o + j * 4 + 3, none⟩ = some (.slice q.a q.T.length q.c) ∧ TxIn w q.a q.T
theorem OpsIn.below {w w' : World} {a : Option Addr} {L : List OpM} (h : OpsIn w a L) (hb : Below w.heap.size w w') : OpsIn w' a L := fun hn => by
  obtain ⟨g, o, h1, h2, h3⟩ := h hn
  refine ⟨g, o, h1, Nat.lt_of_lt_of_le h2 hb.size, fun j q hq => ?_⟩
  obtain ⟨c0, c1, c2, c3, c4⟩ := h3 j q hq
  exact ⟨(hb.cell (p := ⟨g, o + j * 4, none⟩) h2).trans c0, (hb.cell (p := ⟨g, o + j * 4 + 1, none⟩) h2).trans c1, (hb.cell (p := ⟨g, o + j * 4 + 2, none⟩) h2).trans c2, (hb.cell (p := ⟨g, o + j * 4 + 3, none⟩) h2).trans c3, c4.below hb⟩
theorem zk_new : Zk S0R := fun i _ => by
  unfold gR S0R
  rw [List.getD_eq_getElem?_getD, List.getElem?_replicate]
  split <;> rfl

/-- What a round finds. -/
structure PlJ (w : World) (lo b b' : Nat) (wr : World) : Prop where
  low : Below w.heap.size w wr
  lo_ : lo ≤ wr.heap.size
  rg : ∃ R R' hi hi', Rg wr 57 lo hi b R ∧ Rg wr 31 lo hi' b' R' ∧ sem R' = sem R ∧ Zk (sem R)

set_option maxRecDepth 100000 in
set_option maxHeartbeats 16000000 in
theorem regsPlay_walk (a : Option Addr) (c : Nat) (L : List OpM) (w : World) (H : OpsIn w a L ∧ L.length ≤ maxLen) :
    Calls Try.prog 3 #[.slice a L.length c] w fun e w' => e = .returned (.bool true) ∧ Below w.heap.size w w' := by
  have HOP := Lib.hid H.1
  have HAW := Lib.hid (fun w => awake28_of w)
  have HNEW := Lib.hid (rnew_of w)
  obtain ⟨n, hnn⟩ : ∃ n, L.length = n := ⟨_, rfl⟩
  have HN := Lib.hid hnn
  have hnm := H.2
  rw [hnn] at hnm ⊢
  have hn63 : (n : Int) ≤ 9223372036854775807 := by unfold maxLen at hnm; omega
  clear hnn H hnm
  go_enter Try.func3, Try.ntmps3
  go_wp2_with fail
  refine HNEW.out.mono ?_; rintro e w1 ⟨rfl, hw1⟩
  have hR1 := rg_new w 57
  have hb1 := t_al w (.cells (rvs (List.replicate 27 rv0)).toArray 57)
  have hz1 : (w.alloc (.cells (rvs (List.replicate 27 rv0)).toArray 57)).heap.size = w.heap.size + 1 := by simp
  rw [← hw1] at hR1 hb1 hz1
  clear hw1
  have hR2 := rg_new w1 31
  have hb2 := t_al w1 (.cells (rvs (List.replicate 27 rv0)).toArray 31)
  have hz2 : (w1.alloc (.cells (rvs (List.replicate 27 rv0)).toArray 31)).heap.size = w1.heap.size + 1 := by simp
  have hJ0 : PlJ w (w.heap.size + 2) w.heap.size w1.heap.size (w1.alloc (.cells (rvs (List.replicate 27 rv0)).toArray 31)) := by
    refine ⟨hb1.trans (hb2.mono hb1.size), by omega, List.replicate 27 rv0, List.replicate 27 rv0, w.heap.size + 2, w.heap.size + 2, ?_, ?_, rfl, by rw [sem_new]; exact zk_new⟩
    · have h := hR1.below hb2
      exact ⟨h.len, h.obj, fun r hr => by rw [(List.mem_replicate.1 hr).2]; exact Mx.nil _ _ _, h.few, by omega, by omega⟩
    · exact ⟨hR2.len, hR2.obj, fun r hr => by rw [(List.mem_replicate.1 hr).2]; exact Mx.nil _ _ _, hR2.few, by omega, by omega⟩
  have HJ0 := Lib.hid hJ0
  have HBB : Hid (w.heap.size < w1.heap.size) := Lib.hid (by omega)
  obtain ⟨w2, hw2⟩ : ∃ w2, w1.alloc (Obj.cells #[Value.int .i64 0, Value.slice none 0 0, Value.int .i64 0, Value.slice none 0 0, Value.int .i64 0, Value.slice none 0 0, Value.int .i64 0, Value.slice none 0 0, Value.int .i64 0, Value.slice none 0 0, Value.int .i64 0, Value.slice none 0 0, Value.int .i64 0, Value.slice none 0 0, Value.int .i64 0, Value.slice none 0 0, Value.int .i64 0, Value.slice none 0 0, Value.int .i64 0, Value.slice none 0 0, Value.int .i64 0, Value.slice none 0 0, Value.int .i64 0, Value.slice none 0 0, Value.int .i64 0, Value.slice none 0 0, Value.int .i64 0, Value.slice none 0 0, Value.int .i64 0, Value.slice none 0 0, Value.int .i64 0, Value.slice none 0 0, Value.int .i64 0, Value.slice none 0 0, Value.int .i64 0, Value.slice none 0 0, Value.int .i64 0, Value.slice none 0 0, Value.int .i64 0, Value.slice none 0 0, Value.int .i64 0, Value.slice none 0 0, Value.int .i64 0, Value.slice none 0 0, Value.int .i64 0, Value.slice none 0 0, Value.int .i64 0, Value.slice none 0 0, Value.int .i64 0, Value.slice none 0 0, Value.int .i64 0, Value.slice none 0 0, Value.int .i64 0, Value.slice none 0 0] 31) = w2 := ⟨_, rfl⟩
  have HJ2 : Hid (PlJ w (w.heap.size + 2) w.heap.size w1.heap.size w2) := Lib.hid (by rw [← hw2]; exact HJ0.out)
  obtain ⟨b, hb⟩ : ∃ b, w.heap.size = b := ⟨_, rfl⟩
  obtain ⟨b', hb'⟩ : ∃ b', w1.heap.size = b' := ⟨_, rfl⟩
  have HBE := Lib.hid (And.intro hb hb')
  clear hR1 hb1 hz1 hR2 hb2 hz2 hJ0 HJ0
  go_upto_region 2 with fail
  try rw [hw2]
  clear hw2
  generalize Value.agg #[Value.int .i64 0, Value.slice none 0 0, Value.int .i64 0, Value.slice none 0 0, Value.int .i64 0, Value.slice none 0 0, Value.int .i64 0, Value.slice none 0 0, Value.int .i64 0, Value.slice none 0 0, Value.int .i64 0, Value.slice none 0 0, Value.int .i64 0, Value.slice none 0 0, Value.int .i64 0, Value.slice none 0 0, Value.int .i64 0, Value.slice none 0 0, Value.int .i64 0, Value.slice none 0 0, Value.int .i64 0, Value.slice none 0 0, Value.int .i64 0, Value.slice none 0 0, Value.int .i64 0, Value.slice none 0 0, Value.int .i64 0, Value.slice none 0 0, Value.int .i64 0, Value.slice none 0 0, Value.int .i64 0, Value.slice none 0 0, Value.int .i64 0, Value.slice none 0 0, Value.int .i64 0, Value.slice none 0 0, Value.int .i64 0, Value.slice none 0 0, Value.int .i64 0, Value.slice none 0 0, Value.int .i64 0, Value.slice none 0 0, Value.int .i64 0, Value.slice none 0 0, Value.int .i64 0, Value.slice none 0 0, Value.int .i64 0, Value.slice none 0 0, Value.int .i64 0, Value.slice none 0 0, Value.int .i64 0, Value.slice none 0 0, Value.int .i64 0, Value.slice none 0 0] = V8 at *
  have hPb : (Value.pointer (some ⟨w.heap.size, 0, none⟩)) = Value.pointer (some ⟨b, 0, none⟩) := by rw [hb]
  have hPb' : (Value.pointer (some ⟨w1.heap.size, 0, none⟩)) = Value.pointer (some ⟨b', 0, none⟩) := by rw [hb']
  try rw [hPb]
  try rw [hPb']
  have HJ3 : Hid (PlJ w (b + 2) b b' w2) := Lib.hid (by have h := HJ2.out; rw [hb'] at h; rw [← hb]; exact h)
  have HBB3 : Hid (b < b' ∧ w.heap.size ≤ b) := Lib.hid (by rw [← hb, ← hb']; exact ⟨HBB.out, Nat.le_refl _⟩)
  clear hPb hPb' hb hb' HJ2 HBB
  go_wp2_with fail
  go_loopw [12] (fun v12 wr => ∃ i : Nat, v12 = .int .i64 i ∧ i ≤ n ∧ PlJ w (b + 2) b b' wr) (fun v12 _ => n - (intOf v12).toNat)
  case atStart => exact ⟨0, rfl, Nat.zero_le _, HJ3.out⟩
  case round =>
    obtain ⟨wq, rfl⟩ : ∃ wq : World, wq = wr := ⟨_, rfl⟩
    obtain ⟨i, rfl, hi, J⟩ := hrel
    have HJ := Lib.hid J
    clear J
    by_cases hlt : i < n
    · have di : decide (i < n) = true := decide_eq_true hlt
      obtain ⟨q, hq⟩ : ∃ q, L[i]? = some q := ⟨_, List.getElem?_eq_getElem (by rw [HN.out]; exact hlt)⟩
      obtain ⟨g, o, rfl, hg, hcs⟩ := (HOP.out.below HJ.out.low) (by rw [HN.out]; omega)
      obtain ⟨c0, c1, c2, c3, hT⟩ := hcs i q hq
      have i0 : (0 : Int) ≤ (i : Int) := by omega
      have i1 : (i : Int) < (n : Int) := by omega
      clear hcs hq hg
      obtain ⟨K, x, k, qa, qc, T⟩ := q
      simp only [] at c0 c1 c2 c3 hT
      have HT := Lib.hid hT
      clear hT
      by_cases h20 : 20 ≤ i
      · have d20 : decide ((20 : Int) ≤ (i : Int)) = true := decide_eq_true (by omega)
        generalize T.length = tn at *
        go_wp2_with fail
        have HB7 := Lib.hid (HJ.out.low.trans ((t_al wq (.cells #[.int .i64 K, .int .i64 x, .int .i64 k, .slice qa tn qc] 33)).mono HJ.out.low.size))
        refine (HAW.out _).mono ?_; rintro e w7 ⟨rfl, hb7⟩
        have HB8 := Lib.hid (HB7.out.trans (hb7.mono HB7.out.size))
        clear hb7
        go_wp2_with fail
        go_ret
        exact ⟨rfl, HB8.out⟩
      · have d20 : decide ((20 : Int) ≤ (i : Int)) = false := decide_eq_false (by omega)
        have al := t_al wq (.cells #[.int .i64 K, .int .i64 x, .int .i64 k, .slice qa T.length qc] 33)
        have hn := heap_alloc_new wq (.cells #[.int .i64 K, .int .i64 x, .int .i64 k, .slice qa T.length qc] 33)
        obtain ⟨R, R', hi1, hi2, r1, r2, r3, r4⟩ := HJ.out.rg
        have HST := Lib.hid (step_of (c := qc) (r1.below al) (r2.below al) r3 r4 HBB3.out.1 (Nat.le_trans HJ.out.lo_ al.size) K x k (HT.out.below al))
        unfold StPost at HST
        have HBQ := Lib.hid (HJ.out.low.trans (al.mono HJ.out.low.size))
        have HBL := Lib.hid (And.intro r1.lt r2.lt)
        have HLQ : Hid (b + 2 ≤ wq.heap.size) := Lib.hid HJ.out.lo_
        generalize T.length = tn at *
        have hsz : (wq.alloc (.cells #[.int .i64 K, .int .i64 x, .int .i64 k, .slice qa tn qc] 33)).heap.size = wq.heap.size + 1 := by simp
        go_upto_region 6 with fail
        generalize wq.alloc (.cells #[.int .i64 K, .int .i64 x, .int .i64 k, .slice qa tn qc] 33) = w3 at *
        have x0 : w3.cell? ⟨wq.heap.size, 0, none⟩ = some (.int .i64 K) := by rw [cell_at hn]; rfl
        have x1 : w3.cell? ⟨wq.heap.size, 1, none⟩ = some (.int .i64 x) := by rw [cell_at hn]; rfl
        have x2 : w3.cell? ⟨wq.heap.size, 2, none⟩ = some (.int .i64 k) := by rw [cell_at hn]; rfl
        have x3 : w3.cell? ⟨wq.heap.size, 3, none⟩ = some (.slice qa tn qc) := by rw [cell_at hn]; rfl
        have HX1 := Lib.hid x1
        have HSZ := Lib.hid hsz
        clear al hn r1 r2 r3 r4 hsz c0 c1 c2 c3
        go_wp2_with fail
        refine HST.out.mono ?_; rintro e w4 ⟨rfl, R4, R4', h4, h4', s1, s2, s3, s4, s5, s6, s7⟩
        have x4 : w4.cell? ⟨wq.heap.size, 1, none⟩ = some (.int .i64 x) := (cell_same (s7 wq.heap.size (by have := HSZ.out; omega) (by have := HBL.out; omega) (by have := HBL.out; omega))).trans HX1.out
        have HLK := Lib.hid (like_of s1 s2 s3 s4 x)
        have HB4 := Lib.hid (HBQ.out.trans (s5.mono HBB3.out.2))
        have HJ4 : Hid (PlJ w (b + 2) b b' w4) := Lib.hid ⟨HB4.out, by have := HLQ.out; have := HSZ.out; omega, R4, R4', h4, h4', s1, s2, s3, s4⟩
        clear s1 s2 s3 s4 s5 s6 s7 x0 x1 x2 x3 HST
        go_wp2_with fail
        refine HLK.out.mono ?_; rintro e w5 ⟨rfl, hb5⟩
        have HJ5 : Hid (PlJ w (b + 2) b b' w5) := Lib.hid (by
          obtain ⟨R, R', h, h', s1, s2, s3, s4⟩ := HJ4.out.rg
          exact ⟨HJ4.out.low.trans (hb5.mono HJ4.out.low.size), Nat.le_trans HJ4.out.lo_ hb5.size, R, R', h, h', s1.below hb5, s2.below hb5, s3, s4⟩)
        clear hb5 x4 HLK
        go_wp2_with fail
        go_roundw
        case rel => exact ⟨i + 1, by go_num, by omega, HJ5.out⟩
        case measure => simp [intOf]; omega
    · have di : decide (i < n) = false := decide_eq_false hlt
      go_wp2_with fail
      refine (HAW.out _).mono ?_; rintro e w7 ⟨rfl, hb7⟩
      have HB8 := Lib.hid (HJ.out.low.trans (hb7.mono HJ.out.low.size))
      clear hb7
      go_wp2_with fail
      go_ret
      exact ⟨rfl, HB8.out⟩

end Go.Proofs.Yteipnllefifgiaa
