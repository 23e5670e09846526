/-
  The walk of WalkBack, to its end.
-/
import Derived.Test.YtofncnommekbjaaWkQ
namespace Go.Proofs.Ytofncnommekbjaa
open Go Go.RowKit
set_option linter.unusedVariables false

set_option maxRecDepth 100000 in
set_option maxHeartbeats 8000000 in
theorem walkBack_walk (a : Option Addr) (c : Nat) (l0 : List Int) (I K T : Int) (w : World) (hl0 : Sl w a c (l0.map (Value.int .i64)) ∧ ∀ x ∈ l0, I64 x) (_ : I64 I ∧ I64 K ∧ I64 T) :
    Calls Try.prog 10 #[.slice a l0.length c, .agg #[.int .i64 I, .int .i64 K, .int .i64 T]] w fun e w' => e = .returned (.bool true) ∧ Below w.heap.size w w' := by
  have hh := World.alloc_heap_new w (Obj.cells #[.int .i64 I, .int .i64 K, .int .i64 T] 65)
  have al := t_al w (Obj.cells #[.int .i64 I, .int .i64 K, .int .i64 T] 65)
  have hsz : (w.alloc (Obj.cells #[.int .i64 I, .int .i64 K, .int .i64 T] 65)).heap.size = w.heap.size + 1 := by simp
  obtain ⟨w1, hw1⟩ : ∃ w1, w.alloc (Obj.cells #[.int .i64 I, .int .i64 K, .int .i64 T] 65) = w1 := ⟨_, rfl⟩
  rw [hw1] at hh al hsz
  have k0 : w1.cell? ⟨w.heap.size, 0, none⟩ = some (.int .i64 I) := (cell_at hh 0).trans rfl
  have k1 : w1.cell? ⟨w.heap.size, 1, none⟩ = some (.int .i64 K) := (cell_at hh 1).trans rfl
  have k2 : w1.cell? ⟨w.heap.size, 2, none⟩ = some (.int .i64 T) := (cell_at hh 2).trans rfl
  have hl1 : Sl w1 a c (nums l0) := hl0.1.below al
  have HF1 := Lib.hid (nfew10 l0 hl1)
  have hlen : (l0.take 300).length ≤ 300 := by rw [List.length_take]; omega
  have AL := Lib.hid al
  generalize l0.take 300 = l at *
  generalize l0.length = n0 at *
  obtain ⟨n, hn⟩ : ∃ n, l.length = n := ⟨_, rfl⟩
  have HN := Lib.hid hn
  rw [hn] at hlen HF1
  clear hl0 hl1 hh al hn
  go_enter Try.func10, Try.ntmps10
  go_wp2_with fail
  refine HF1.out.mono ?_; clear HF1; rintro e w2 ⟨rfl, s1, rfl⟩
  have S1 := Lib.hid s1
  have HO := Lib.hid (tof_i S1.out (by rw [nums_len, HN.out]) (show n ≤ 90000 by omega) (nums_gd _))
  clear s1
  go_wp2_with fail
  refine HO.out.mono ?_; clear HO; rintro e w3 ⟨x1, rfl, t1, b3⟩
  have hh5 := World.alloc_heap_new w3 (Obj.cells #[.pointer x1] 27)
  have hb5 := t_al w3 (Obj.cells #[.pointer x1] 27)
  have hz5 : (w3.alloc (Obj.cells #[.pointer x1] 27)).heap.size = w3.heap.size + 1 := by simp
  obtain ⟨w5, hw5⟩ : ∃ w5, w3.alloc (Obj.cells #[.pointer x1] 27) = w5 := ⟨_, rfl⟩
  rw [hw5] at hh5 hb5 hz5
  have hb15 := b3.trans (hb5.mono b3.size)
  have q1 : w5.cell? ⟨w3.heap.size, 0, none⟩ = some (.pointer x1) := by rw [cell_at hh5]; rfl
  have k0 := (hb15.cell (p := ⟨w.heap.size, 0, none⟩) (show w.heap.size < w1.heap.size by omega)).trans k0
  have k1 := (hb15.cell (p := ⟨w.heap.size, 1, none⟩) (show w.heap.size < w1.heap.size by omega)).trans k1
  have k2 := (hb15.cell (p := ⟨w.heap.size, 2, none⟩) (show w.heap.size < w1.heap.size by omega)).trans k2
  have C0 : Bk w w3.heap.size x1 a c l w5 := ⟨AL.out.trans (hb15.mono AL.out.size), by omega, q1, t1.below hb5, S1.out.below hb15⟩
  have HC := Lib.hid C0
  have HS := Lib.hid (nstretch (w := w5) (a := a) (c := c) (n := n) I K)
  have hpn := heldN_le I n
  have hqn := heldN_le K n
  obtain ⟨p, hp⟩ : ∃ p, heldN I n = p := ⟨_, rfl⟩
  obtain ⟨q, hq⟩ : ∃ q, max p (heldN K n) = q := ⟨_, rfl⟩
  rw [hp] at HS hpn
  rw [hq] at HS
  have hpq : p ≤ q := by omega
  have hqn : q ≤ n := by omega
  clear t1 b3 hb5 hb15 C0 S1 hp hq hh5 hz5 hw1 hsz
  go_wp2_with fail
  clear hw5
  generalize w3.heap.size = g at *
  refine HS.out.mono ?_; clear HS; rintro e w6 ⟨rfl, rfl⟩
  have key : ∀ t : Nat, t + (q - p) ≤ n → (T < 0 ∧ t = 0 ∨ 0 ≤ T ∧ (n : Int) - ((q : Int) - p) < T ∧ t = n - (q - p) ∨ 0 ≤ T ∧ T ≤ (n : Int) - ((q : Int) - p) ∧ T = t) → True := fun _ _ _ => trivial
  obtain ⟨t, ht, hT⟩ : ∃ t : Nat, t + (q - p) ≤ n ∧ (T < 0 ∧ t = 0 ∨ 0 ≤ T ∧ (n : Int) - ((q : Int) - p) < T ∧ (t : Int) = (n : Int) - ((q : Int) - p) ∨ 0 ≤ T ∧ T ≤ (n : Int) - ((q : Int) - p) ∧ T = t) := by
    by_cases h1 : T < 0
    · exact ⟨0, by omega, .inl ⟨h1, rfl⟩⟩
    · by_cases h2 : (n : Int) - ((q : Int) - p) < T
      · exact ⟨n - (q - p), by omega, .inr (.inl ⟨by omega, h2, by omega⟩)⟩
      · exact ⟨T.toNat, by omega, .inr (.inr ⟨by omega, by omega, by omega⟩)⟩
  clear key
  obtain ⟨k, hk⟩ : ∃ k : Nat, k = t + (q - p) := ⟨_, rfl⟩
  have hkI : (t : Int) + (q : Int) - (p : Int) = (k : Int) := by omega
  have HE1 := Lib.hid (back_mv (nums l) hpq (by rw [nums_len, HN.out]; exact hqn) (by rw [nums_len, HN.out]; exact ht) hk)
  have HE2 := Lib.hid (back_sp (nums l) hpq (by rw [nums_len, HN.out]; exact hqn))
  have HL := Lib.hid (And.intro (mvV_len (nums l) p q t) (And.intro (slV_len (nums l) p q) (spV_len (nums l) [] p q)))
  rw [nums_len, HN.out] at HL
  obtain ⟨X, hX⟩ : ∃ X : Int, X = if T < 0 then 0 else T := ⟨_, rfl⟩
  have hXT : decide ((n : Int) - ((q : Int) - p) < X) = true ∧ (n : Int) - ((q : Int) - p) = t ∨ decide ((n : Int) - ((q : Int) - p) < X) = false ∧ X = t := by
    rw [hX]
    rcases hT with ⟨h1, h2⟩ | ⟨h1, h2, h3⟩ | ⟨h1, h2, h3⟩
    · rw [if_pos h1]; exact .inr ⟨decide_eq_false (by omega), by omega⟩
    · rw [if_neg (by omega)]; exact .inl ⟨decide_eq_true h2, h3.symm⟩
    · rw [if_neg (by omega)]; exact .inr ⟨decide_eq_false (by omega), h3⟩
  have HXT := Lib.hid hXT
  have HX := Lib.hid hX
  clear hT hXT hX
  go_upto_if 28 with fail
  go_cut [8] (fun s wx => s = .int .i64 X ∧ wx = w5)
  case first =>
    by_cases h1 : T < 0
    · have d1 : decide (T < 0) = true := decide_eq_true h1
      have hX := HX.out
      rw [if_pos h1] at hX
      go_wp2_with fail
      go_meet
      exact ⟨by rw [hX], rfl⟩
    · have d1 : decide (T < 0) = false := decide_eq_false h1
      have hX := HX.out
      rw [if_neg h1] at hX
      go_wp2_with fail
      go_meet
      exact ⟨by rw [hX], rfl⟩
  case rest =>
    obtain ⟨rfl, rfl⟩ := hcut
    go_upto_if 36 with fail
    go_cut [8] (fun s w5 => s = .int .i64 (t : Int) ∧ w5 = wc)
    case first =>
      rcases HXT.out with ⟨h1, h2⟩ | ⟨h1, h2⟩
      · have H2 := Lib.hid h2
        have h3 := of_decide_eq_true h1
        clear h2 hkI
        go_wp2_with fail
        go_meet
        exact ⟨by rw [H2.out], rfl⟩
      · have H2 := Lib.hid h2
        have h3 := of_decide_eq_false h1
        clear h2 hkI
        go_wp2_with fail
        go_meet
        exact ⟨by rw [H2.out], rfl⟩
    case rest =>
      obtain ⟨rfl, rfl⟩ := hcut
      clear HX HXT X
      clear k0 k1 k2
      have hk300 : t ≤ 300 := by omega
      clear ht hk
      generalize wc = w5 at *
      have q1 := HC.out.q1
      have H := Lib.hid (move_i p q t HC.out.t1 (nums_gd _) (by rw [nums_len, HN.out]; omega))
      obtain ⟨M, hM⟩ : ∃ M, mvV (nums l) p q t = M := ⟨_, rfl⟩
      have hMg : Gd M := by rw [← hM]; exact spV_gd (spV_gd (nums_gd _) (fun v hv => by simp at hv)) (slV_gd (nums_gd _))
      rw [hM] at H HE1 HL
      clear hM
      go_wp2_with fail
      refine H.out.mono ?_; clear H q1; rintro e V1 ⟨x2, rfl, t2, b1⟩
      have hh := World.alloc_heap_new V1 (Obj.cells #[.pointer x2] 27)
      have al := t_al V1 (Obj.cells #[.pointer x2] 27)
      have hz : (V1.alloc (Obj.cells #[.pointer x2] 27)).heap.size = V1.heap.size + 1 := by simp
      obtain ⟨V2, hV2⟩ : ∃ V2, V1.alloc (Obj.cells #[.pointer x2] 27) = V2 := ⟨_, rfl⟩
      rw [hV2] at hh al hz
      have q2 : V2.cell? ⟨V1.heap.size, 0, none⟩ = some (.pointer x2) := by rw [cell_at hh]; rfl
      have HC := Lib.hid (HC.out.grow (b1.trans (al.mono b1.size)))
      have hML := HL.out.1
      have H := Lib.hid (move_i t k p (t2.below al) hMg (by omega))
      rw [HE1.out] at H
      clear t2 b1 hh al hz
      go_wp2_with fail
      clear hV2
      refine H.out.mono ?_; clear H q2 HE1 hMg HL; rintro e V3 ⟨x3, rfl, t3, b3⟩
      have hh := World.alloc_heap_new V3 (Obj.cells #[.pointer x3] 27)
      have al := t_al V3 (Obj.cells #[.pointer x3] 27)
      have hz : (V3.alloc (Obj.cells #[.pointer x3] 27)).heap.size = V3.heap.size + 1 := by simp
      obtain ⟨V4, hV4⟩ : ∃ V4, V3.alloc (Obj.cells #[.pointer x3] 27) = V4 := ⟨_, rfl⟩
      rw [hV4] at hh al hz
      have q3 : V4.cell? ⟨V3.heap.size, 0, none⟩ = some (.pointer x3) := by rw [cell_at hh]; rfl
      have HC := Lib.hid (HC.out.grow (b3.trans (al.mono b3.size)))
      have T3 := Lib.hid (t3.below al)
      have lt3 : V3.heap.size < V4.heap.size := by omega
      generalize V1.heap.size = g2 at *
      clear t3 b3 hh al hz
      go_upto_region 11 with fail
      clear hV4
      generalize V3.heap.size = g3 at *
      have c0 := HC.out.q1
      have lt0 := HC.out.lt
      have hg1 : Gd (spV (nums l) p q []) := spV_gd (nums_gd _) (fun v hv => by simp at hv)
      have hg2 : Gd (slV (nums l) p q) := slV_gd (nums_gd _)
      have hl1 := spV_len (nums l) [] (p : Int) (q : Int)
      have hl2 := slV_len (nums l) (p : Int) (q : Int)
      rw [nums_len, HN.out] at hl1 hl2
      rw [List.length_nil] at hl1
      have HS1 := Lib.hid (fun W (h : Below V4.heap.size V4 W) => splice_i (u := none) (M := []) p q (HC.out.t1.below h) (.inl ⟨rfl, rfl⟩) (nums_gd _) (fun v hv => by simp at hv) (by rw [List.length_nil, nums_len, HN.out]; omega))
      have HS2 := Lib.hid (fun W (h : Below V4.heap.size V4 W) => slice_i p q (HC.out.t1.below h) (nums_gd _) (by rw [nums_len, HN.out]; omega))
      generalize spV (nums l) p q [] = A at *
      generalize slV (nums l) p q = S at *
      have HS3 := Lib.hid (fun W x1 x2 (hT : Tin W 95 (.pointer x1) A) (hT' : Tin W 95 (.pointer x2) S) => splice_i p p hT hT' hg1 hg2 (by omega))
      rw [HE2.out] at HS3
      clear hg1 hg2 hl1 hl2 HE2
      have ld0 := fun w' (h : Below V4.heap.size V4 w') => (h.cell (p := ⟨g, 0, none⟩) lt0).trans c0
      have hb0 : Below V4.heap.size V4 V4.drew := (Below.refl _ _).drew
      have hh0 : (V4.alloc (Obj.cells #[Value.pointer none] 27)).drew.heap[V4.heap.size]? = some (Obj.cells #[Value.pointer none] 27) := World.alloc_heap_new V4 (Obj.cells #[Value.pointer none] 27)
      have hbB : Below V4.heap.size V4 (V4.alloc (Obj.cells #[Value.pointer none] 27)).drew := ((Below.refl _ V4).alloc (Nat.le_refl _) _).drew
      clear c0
      go_cut [11] (fun s wx => ∃ (b : Nat) (y : Option Addr), s = .pointer (some ⟨b, 0, none⟩) ∧ wx.heap[b]? = some (.cells #[.pointer y] 27 (0, 0)) ∧ Tin wx 95 (.pointer y) (nums l) ∧ Below V4.heap.size V4 wx)
      case first =>
        go_region_held_law (fun w' => Below V4.heap.size V4 w')
          (first | assumption | exact Below.alloc (by assumption) (Below.size (by assumption)) _ | exact Below.setCell (Below.alloc (by assumption) (Below.size (by assumption)) _) (Below.size (by assumption)) _ | exact Below.setCell (by assumption) (Below.size (by assumption)) _ | (refine Below.setCell (p := ⟨V4.heap.size, 0, none⟩) ?_ (Nat.le_refl _) _; assumption))
          ((first
            | (go_at_call 34; with_reducible refine (HS1.out _ hb0).mono ?_; rintro e U1 ⟨y1, rfl, u1, d1⟩; have B1 := hb0.trans (d1.mono hb0.size); have HU := Lib.hid u1; clear u1 d1)
            | (go_at_call 34; with_reducible refine (HS1.out _ hbB).mono ?_; rintro e U1 ⟨y1, rfl, u1, d1⟩; have B1 := hbB.trans (d1.mono hbB.size); have HU := Lib.hid u1; have HA := Lib.hid ((d1.block V4.heap.size (lt_of_heap hh0)).trans hh0); clear u1 d1)
            | (go_at_call 33; have XX := HA; clear XX; with_reducible refine (HS2.out _ B1).mono ?_; rintro e U2 ⟨y2, rfl, u2, d2⟩; have B2 := B1.trans (d2.mono B1.size); have HU2 := Lib.hid (And.intro (HU.out.below d2) u2); have HA2 := Lib.hid ((d2.block V4.heap.size (lt_of_heap HA.out)).trans HA.out); clear u2 d2)
            | (go_at_call 33; with_reducible refine (HS2.out _ B1).mono ?_; rintro e U2 ⟨y2, rfl, u2, d2⟩; have B2 := B1.trans (d2.mono B1.size); have HU2 := Lib.hid (And.intro (HU.out.below d2) u2); clear u2 d2)
            | (go_at_call 33; with_reducible refine (HS2.out _ (bal B1 B1.size (Obj.cells #[Value.pointer none] 27))).mono ?_; rintro e U2 ⟨y2, rfl, u2, d2⟩; have B2 := (bal B1 B1.size (Obj.cells #[Value.pointer none] 27)).trans (d2.mono (bal B1 B1.size (Obj.cells #[Value.pointer none] 27)).size); have HU2 := Lib.hid (And.intro ((HU.out.below (t_al _ (Obj.cells #[Value.pointer none] 27))).below d2) u2); have hq := heap_alloc_new U1 (Obj.cells #[Value.pointer none] 27); have HA2 := Lib.hid ((d2.block U1.heap.size (lt_of_heap hq)).trans hq); clear u2 d2 hq)
            | (go_at_call 34; have XX := HA2; clear XX; with_reducible refine (HS3.out _ _ _ HU2.out.1 HU2.out.2).mono ?_; rintro e U3 ⟨y3, rfl, u3, d3⟩; have B3 := B2.trans (d3.mono B2.size); have HU3 := Lib.hid u3; have hx := (d3.block _ (lt_of_heap HA2.out)).trans HA2.out; have zz := fun i => unfrozen hx i; have r0 : U3.cell? ⟨_, 0, none⟩ = some (.pointer none) := (cell_at hx 0).trans rfl; have HX := Lib.hid hx; clear u3 d3 hx)
            | (go_at_call 34; with_reducible refine (HS3.out _ _ _ HU2.out.1 HU2.out.2).mono ?_; rintro e U3 ⟨y3, rfl, u3, d3⟩; have B3 := B2.trans (d3.mono B2.size); have HU3 := Lib.hid u3; have hx := heap_alloc_new U3 (Obj.cells #[Value.pointer none] 27); have zz := fun i => unfrozen hx i; have r0 : (U3.alloc (Obj.cells #[Value.pointer none] 27)).cell? ⟨U3.heap.size, 0, none⟩ = some (.pointer none) := (cell_at hx 0).trans rfl; have HX := Lib.hid hx; clear u3 d3 hx)
            | (go_at_call 34; with_reducible refine (HS3.out _ _ _ (HU2.out.1.below (t_al _ (Obj.cells #[Value.pointer none] 27))) (HU2.out.2.below (t_al _ (Obj.cells #[Value.pointer none] 27)))).mono ?_; rintro e U3 ⟨y3, rfl, u3, d3⟩; have hB2 := bal B2 B2.size (Obj.cells #[Value.pointer none] 27); have B3 := hB2.trans (d3.mono hB2.size); have HU3 := Lib.hid u3; have hq := heap_alloc_new U2 (Obj.cells #[Value.pointer none] 27); have hx := (d3.block _ (lt_of_heap hq)).trans hq; have zz := fun i => unfrozen hx i; have r0 : U3.cell? ⟨U2.heap.size, 0, none⟩ = some (.pointer none) := (cell_at hx 0).trans rfl; have HX := Lib.hid hx; clear u3 d3 hx hq)))
        all_goals
          go_wp2_with fail
          go_meet
          first
          | exact ⟨_, _, rfl, heap_set_at (o := 0) HX.out, HU3.out.setNil HX.out (by decide) (nums_gd _), B3.setCell (p := ⟨_, 0, none⟩) (by show V4.heap.size ≤ _; first | exact Nat.le_refl _ | exact B1.size | exact B2.size) _⟩
          | exact ⟨_, _, rfl, heap_alloc_new U3 _, HU3.out.below (t_al _ _), bal B3 B3.size _⟩
      case rest =>
        obtain ⟨b, y, rfl, hh, t5, hb⟩ := hcut
        have HC := Lib.hid (HC.out.grow hb)
        have q3 := (hb.cell (p := ⟨g3, 0, none⟩) lt3).trans q3
        have q5 : wc.cell? ⟨b, 0, none⟩ = some (.pointer y) := by rw [cell_at hh]; rfl
        have T5 := Lib.hid t5
        have lt5 := lt_of_heap hh
        have H := Lib.hid (Fits_of (T3.out.below hb) HC.out.s1 (by rw [HN.out]; omega))
        rw [HN.out] at H
        clear t5 hb hh HS1 HS2 HS3 T3
        go_wp2_with fail
        refine H.out.mono ?_; clear H q3; rintro e U5 ⟨rfl, hb⟩
        have HC := Lib.hid (HC.out.grow hb)
        have q5 := (hb.cell (p := ⟨b, 0, none⟩) lt5).trans q5
        have H := Lib.hid (Fits_of (T5.out.below hb) HC.out.s1 (by rw [HN.out]; omega))
        rw [HN.out] at H
        clear hb
        go_wp2_with fail
        refine H.out.mono ?_; clear H q5; rintro e U6 ⟨rfl, hb⟩
        have HC := Lib.hid (HC.out.grow hb)
        have H := Lib.hid (awake10_of (w := U6))
        clear hb
        go_wp2_with fail
        refine H.out.mono ?_; clear H; rintro e U7 ⟨rfl, hb⟩
        have HC := Lib.hid (HC.out.grow hb)
        clear hb
        go_wp2_with fail
        go_ret
        exact ⟨rfl, HC.out.below⟩

end Go.Proofs.Ytofncnommekbjaa
