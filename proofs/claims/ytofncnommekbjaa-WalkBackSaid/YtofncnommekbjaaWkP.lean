/-
  The walk of WalkCuts.
-/
import Derived.Test.YtofncnommekbjaaWkN
import Derived.Test.YtofncnommekbjaaLiftV
import Derived.BigQuiet
namespace Go.Proofs.Ytofncnommekbjaa
open Go Go.RowKit
set_option linter.unusedVariables false

/-- What stands on the way through WalkCuts. -/
structure Cut (w : World) (g : Nat) (x1 x2 a b : Option Addr) (c d : Nat) (l m : List Int) (W : World) : Prop where
  below : Below w.heap.size w W
  lt : g + 1 < W.heap.size
  q1 : W.cell? ⟨g, 0, none⟩ = some (.pointer x1)
  q2 : W.cell? ⟨g + 1, 0, none⟩ = some (.pointer x2)
  t1 : Tin W 95 (.pointer x1) (nums l)
  t2 : Tin W 95 (.pointer x2) (nums m)
  s1 : Sl W a c (nums l)
  s2 : Sl W b d (nums m)
theorem Cut.grow {w W W' : World} {g : Nat} {x1 x2 a b : Option Addr} {c d : Nat} {l m : List Int} (h : Cut w g x1 x2 a b c d l m W) (hb : Below W.heap.size W W') : Cut w g x1 x2 a b c d l m W' := by
  have hl := h.lt
  exact ⟨h.below.trans (hb.mono h.below.size), Nat.lt_of_lt_of_le hl hb.size, (hb.cell (p := ⟨g, 0, none⟩) (show g < W.heap.size by omega)).trans h.q1, (hb.cell (p := ⟨g + 1, 0, none⟩) (show g + 1 < W.heap.size by omega)).trans h.q2, h.t1.below hb, h.t2.below hb, h.s1.below hb, h.s2.below hb⟩

set_option maxRecDepth 100000 in
set_option maxHeartbeats 8000000 in
theorem walkCuts_walk (a : Option Addr) (c : Nat) (l0 : List Int) (b : Option Addr) (d : Nat) (m0 : List Int) (I K T : Int) (w : World) (hl0 : Sl w a c (l0.map (Value.int .i64)) ∧ ∀ x ∈ l0, I64 x) (hm0 : Sl w b d (m0.map (Value.int .i64)) ∧ ∀ x ∈ m0, I64 x) (_ : I64 I ∧ I64 K ∧ I64 T) :
    Calls Try.prog 8 #[.slice a l0.length c, .slice b m0.length d, .agg #[.int .i64 I, .int .i64 K, .int .i64 T]] w fun e w' => e = .returned (.bool true) ∧ Below w.heap.size w w' := by
  have hh := World.alloc_heap_new w (Obj.cells #[.int .i64 I, .int .i64 K, .int .i64 T] 65)
  have al := t_al w (Obj.cells #[.int .i64 I, .int .i64 K, .int .i64 T] 65)
  have hsz : (w.alloc (Obj.cells #[.int .i64 I, .int .i64 K, .int .i64 T] 65)).heap.size = w.heap.size + 1 := by simp
  obtain ⟨w1, hw1⟩ : ∃ w1, w.alloc (Obj.cells #[.int .i64 I, .int .i64 K, .int .i64 T] 65) = w1 := ⟨_, rfl⟩
  rw [hw1] at hh al hsz
  have k0 : w1.cell? ⟨w.heap.size, 0, none⟩ = some (.int .i64 I) := (cell_at hh 0).trans rfl
  have k1 : w1.cell? ⟨w.heap.size, 1, none⟩ = some (.int .i64 K) := (cell_at hh 1).trans rfl
  have k2 : w1.cell? ⟨w.heap.size, 2, none⟩ = some (.int .i64 T) := (cell_at hh 2).trans rfl
  have hl1 : Sl w1 a c (nums l0) := hl0.1.below al
  have hm1 : Sl w1 b d (nums m0) := hm0.1.below al
  have HF1 := Lib.hid (nfew10 l0 hl1)
  have HF2 := Lib.hid (nfew10 m0 hm1)
  have hlen : (l0.take 300).length ≤ 300 := by rw [List.length_take]; omega
  have hmlen : (m0.take 300).length ≤ 300 := by rw [List.length_take]; omega
  have AL := Lib.hid al
  generalize l0.take 300 = l at *
  generalize m0.take 300 = m at *
  generalize l0.length = n0 at *
  generalize m0.length = n1 at *
  clear hl0 hm0 hl1 hm1 hh al
  go_enter Try.func8, Try.ntmps8
  go_wp2_with fail
  refine HF1.out.mono ?_; clear HF1; rintro e w2 ⟨rfl, s1, rfl⟩
  have S1 := Lib.hid s1
  clear s1
  go_wp2_with fail
  refine HF2.out.mono ?_; clear HF2; rintro e w2 ⟨rfl, s2, rfl⟩
  have S2 := Lib.hid s2
  have HO := Lib.hid (tof_i S1.out (nums_len l) (by omega) (nums_gd _))
  clear s2
  go_wp2_with fail
  refine HO.out.mono ?_; clear HO; rintro e w2 ⟨x1, rfl, t1, b2⟩
  have T1 := Lib.hid (And.intro t1 b2)
  have HO := Lib.hid (tof_i (S2.out.below b2) (nums_len m) (by omega) (nums_gd _))
  clear t1 b2
  go_wp2_with fail
  refine HO.out.mono ?_; clear HO; rintro e w3 ⟨x2, rfl, t2, b3⟩
  obtain ⟨w4, w5, hw4, hw5, zA, rA, zB, rB, hb5, hz5, q1, q2, hz4⟩ := pair_boxes w3 27 x1 x2
  have hb15 := T1.out.2.trans ((b3.trans (hb5.mono b3.size)).mono T1.out.2.size)
  have k0 := (hb15.cell (p := ⟨w.heap.size, 0, none⟩) (show w.heap.size < w1.heap.size by omega)).trans k0
  have k1 := (hb15.cell (p := ⟨w.heap.size, 1, none⟩) (show w.heap.size < w1.heap.size by omega)).trans k1
  have k2 := (hb15.cell (p := ⟨w.heap.size, 2, none⟩) (show w.heap.size < w1.heap.size by omega)).trans k2
  have HB5 := Lib.hid (AL.out.trans (hb15.mono AL.out.size))
  have I5 := Lib.hid (And.intro (T1.out.1.below (b3.trans (hb5.mono b3.size))) (And.intro (t2.below hb5) (And.intro (S1.out.below hb15) (S2.out.below hb15))))
  have lt5 : w3.heap.size + 1 < w5.heap.size := by omega
  clear t2 b3 hb5 hb15 T1 S1 S2
  go_wp2_with fail
  go_quiet (fail)
  obtain ⟨V, hV⟩ : ∃ V, w5.drewN nq = V := ⟨_, rfl⟩
  have b5V : Below w5.heap.size w5 V := by rw [← hV]; exact ⟨rfl, rfl, rfl, Nat.le_refl _, fun _ _ => rfl⟩
  rw [hV]
  have C0 : Cut w w3.heap.size x1 x2 a b c d l m w5 := ⟨HB5.out, lt5, q1, q2, I5.out.1, I5.out.2.1, I5.out.2.2.1, I5.out.2.2.2⟩
  have CV := Lib.hid (C0.grow b5V)
  have hz1 := slZ_len l I K
  have hz2 := spZ_len l m I K
  have hz3 := spZ_len (spZ l I K []) (slZ l I K) T T
  have hz4 := spZ_len l [] I K
  rw [List.length_nil] at hz4
  have L1 := Lib.hid (show (slZ l I K).length ≤ 90000 by omega)
  have L2 := Lib.hid (show (spZ l I K m).length ≤ 90000 by omega)
  have L3 := Lib.hid (show (mvZ l I K T).length ≤ 90000 by unfold mvZ; omega)
  clear b5V hV C0 HB5 I5 q1 q2 k0 k1 k2 lt5 hz5 hz4 hz1 hz2 hz3 hw1 hw4 hw5 zA rA zB rB hsz AL
  have p1 := CV.out.q1
  have H := Lib.hid (slice_i I K CV.out.t1 (nums_gd _) (by rw [nums_len]; omega))
  rw [← nums_slZ] at H
  go_wp2_with fail
  refine H.out.mono ?_; clear H p1; rintro e V1 ⟨x3, rfl, t3, hb⟩
  have CV := Lib.hid (CV.out.grow hb)
  have H := Lib.hid (nslice l I K CV.out.s1 (by omega))
  have T3 := Lib.hid t3
  clear hb t3
  go_wp2_with fail
  refine H.out.mono ?_; clear H; rintro e V2 ⟨a3, c3, rfl, s3, _, _, hb⟩
  have CV := Lib.hid (CV.out.grow hb)
  have H := Lib.hid (Fits_of (T3.out.below hb) s3 L1.out)
  clear hb s3 T3
  go_wp2_with fail
  refine H.out.mono ?_; clear H; rintro e V3 ⟨rfl, hb⟩
  have CV := Lib.hid (CV.out.grow hb)
  have p1 := CV.out.q1
  have p2 := CV.out.q2
  have H := Lib.hid (splice_i I K CV.out.t1 CV.out.t2 (nums_gd _) (nums_gd _) (by rw [nums_len, nums_len]; omega))
  rw [← nums_spZ] at H
  clear hb
  go_wp2_with fail
  refine H.out.mono ?_; clear H p1 p2; rintro e V4 ⟨x4, rfl, t4, hb⟩
  have CV := Lib.hid (CV.out.grow hb)
  have H := Lib.hid (nsplice l m I K CV.out.s1 CV.out.s2 (by omega))
  have T4 := Lib.hid t4
  clear hb t4
  go_wp2_with fail
  refine H.out.mono ?_; clear H; rintro e V5 ⟨a4, c4, rfl, s4, _, hb⟩
  have CV := Lib.hid (CV.out.grow hb)
  have H := Lib.hid (Fits_of (T4.out.below hb) s4 L2.out)
  clear hb s4 T4
  go_wp2_with fail
  refine H.out.mono ?_; clear H; rintro e V6 ⟨rfl, hb⟩
  have CV := Lib.hid (CV.out.grow hb)
  have p1 := CV.out.q1
  have H := Lib.hid (move_i I K T CV.out.t1 (nums_gd _) (by rw [nums_len]; omega))
  rw [← nums_mvZ] at H
  clear hb
  go_wp2_with fail
  refine H.out.mono ?_; clear H p1; rintro e V7 ⟨x5, rfl, t5, hb⟩
  have CV := Lib.hid (CV.out.grow hb)
  have H := Lib.hid (nmove l I K T CV.out.s1 (by omega))
  have T5 := Lib.hid t5
  clear hb t5
  go_wp2_with fail
  refine H.out.mono ?_; clear H; rintro e V8 ⟨a5, c5, rfl, s5, _, hb⟩
  have CV := Lib.hid (CV.out.grow hb)
  have H := Lib.hid (Fits_of (T5.out.below hb) s5 L3.out)
  clear hb s5 T5
  go_wp2_with fail
  refine H.out.mono ?_; clear H; rintro e V9 ⟨rfl, hb⟩
  have CV := Lib.hid (CV.out.grow hb)
  have p1 := CV.out.q1
  have H := Lib.hid (Fits_of CV.out.t1 CV.out.s1 (by omega))
  clear hb
  go_wp2_with fail
  refine H.out.mono ?_; clear H p1; rintro e V10 ⟨rfl, hb⟩
  have CV := Lib.hid (CV.out.grow hb)
  have H := Lib.hid (awake10_of (w := V10))
  clear hb
  go_wp2_with fail
  refine H.out.mono ?_; clear H; rintro e V11 ⟨rfl, hb⟩
  have CV := Lib.hid (CV.out.grow hb)
  clear hb
  go_wp2_with fail
  go_ret
  exact ⟨rfl, CV.out.below⟩

end Go.Proofs.Ytofncnommekbjaa
