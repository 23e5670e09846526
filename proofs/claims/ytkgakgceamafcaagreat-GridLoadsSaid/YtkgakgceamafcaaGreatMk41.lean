/-
  Texts of this seat, put together (a claim holds few texts): GeL.
-/
import Derived.Test.YtkgakgceamafcaaGreatMk40

namespace Go.Proofs.YtkgakgceamafcaaGreat
open Go Go.RowKit Go.Shelf
set_option linter.unusedVariables false
attribute [local go_sem] Oper.semAt_some
attribute [-go_sem] Builtin.append_

theorem SvS.drew {w W : World} {q q6 c K : Nat} {G A : Array Value} {N : Int} {s : List UInt8} {a : Option Addr} {E : Bls} (h : SvS w q q6 G A N s a c K E W) : SvS w q q6 G A N s a c K E W.drew :=
  ⟨h.el, h.mv.trans ((Below.refl _ W).drew.mono h.mv.size), h.h0, h.h1, h.h2, h.h6, own_below h.own (Below.refl _ W).drew, h.len⟩

set_option maxRecDepth 100000 in
set_option maxHeartbeats 4000000 in
theorem save_in (n : Nat) {w : World} {B ap N : Nat} {l : List UInt8} {Ls : List R3} {Cs : List (List CelM)} {px : Option Addr} {tl : Bool} {en : Int} (HT : Tin w 194 (.pointer px) (rws Ls)) (hN : Ls.length = N) (hNl : N ≤ 100000) (HG : GrIn w l Ls Cs) (HA : Ar w B ap l) (hl : l.length ≤ 16384) (hcl : ∀ ms ∈ Cs, ms.length ≤ 1000)
    (hsz : (saveP l Cs N tl en Ls).length ≤ 50000000) :
    CallsIn Fence.wide n Tryz.prog 16 #[.agg #[.pointer px, .bool tl, .int .i64 en], .pointer (some ⟨ap, 0, none⟩)] w (BytesPost (saveP l Cs N tl en Ls) w) := by
  obtain ⟨hb1, hz1', hh⟩ := allocs_w [Obj.cells #[.pointer px, .bool tl, .int .i64 en] 27, Obj.cells #[.pointer (some ⟨ap, 0, none⟩)] 28, Obj.cells #[.slice none 0 0] 32] w
  simp only [List.foldl_cons, List.foldl_nil] at hb1 hz1' hh
  obtain ⟨w1, hw1⟩ : ∃ w1, ((w.alloc (Obj.cells #[.pointer px, .bool tl, .int .i64 en] 27)).alloc (Obj.cells #[.pointer (some ⟨ap, 0, none⟩)] 28)).alloc (Obj.cells #[.slice none 0 0] 32) = w1 := ⟨_, rfl⟩
  rw [hw1] at hb1 hz1' hh
  have b0 := (hh 0 (by simp)).trans rfl
  have b1 := (hh 1 (by simp)).trans rfl
  have b2 := (hh 2 (by simp)).trans rfl
  rw [Nat.add_zero] at b0
  simp only [List.length_cons, List.length_nil] at hz1'
  have HT1 := HT.below hb1
  have HLn := Lib.hid (glen_of (w := w1) tl en HT1 (n := N) (by rw [rws_len]; exact hN))
  have HEa := Lib.hid (fun V (hv : Below w1.heap.size w1 V) => each_of (w := V) tl en (HT1.below hv) (n := N) (by rw [rws_len]; exact hN) (by omega))
  have hmix : Tryz.prog.follows .mixedOrders = true := by kernel_rfl
  have hwp : IntKind.i64.wrap ((N : Int) - 1) = (N : Int) - 1 := by rw [IntKind.wrap_i64]; omega
  have HD := Lib.hid (And.intro HT (And.intro HG (And.intro HA (And.intro hcl hsz))))
  have HN := Lib.hid hN
  have HB0 := Lib.hid (And.intro hb1 (And.intro hz1' (And.intro b0 (And.intro b1 b2))))
  have c0 : w1.cell? ⟨w.heap.size, 0, none⟩ = some (.pointer px) := (cell_at b0 0).trans rfl
  have c1 : w1.cell? ⟨w.heap.size, 1, none⟩ = some (.bool tl) := (cell_at b0 1).trans rfl
  have c2 : w1.cell? ⟨w.heap.size, 2, none⟩ = some (.int .i64 en) := (cell_at b0 2).trans rfl
  clear HT hN HG HA hcl hsz hb1 hz1' hh b0 b1 b2 HT1
  refine callsIn_of_wp_marks Tryz.func16 rfl trivial ?_ rfl
  simp only [Tryz.ntmps16, List.size_toArray, List.length_cons, List.length_nil, Nat.reduceAdd, Nat.reduceSub, Array.replicate_succ, Array.replicate_zero, List.push_toArray, List.append_toArray, List.nil_append, List.cons_append]
  gi_wp2
  refine ⟨trivial, fun h => by simp [Fence.wide] at h, ((callsIn_wide (n := n - 1)).2 HLn.out).mono ?_⟩
  rintro e w2 ⟨rfl, hb2⟩
  have HB2 := Lib.hid hb2
  have c02 := (hb2.cell (p := ⟨w.heap.size, 0, none⟩) (show w.heap.size < w1.heap.size by have := HB0.out.2.1; omega)).trans c0
  have c12 := (hb2.cell (p := ⟨w.heap.size, 1, none⟩) (show w.heap.size < w1.heap.size by have := HB0.out.2.1; omega)).trans c1
  have c22 := (hb2.cell (p := ⟨w.heap.size, 2, none⟩) (show w.heap.size < w1.heap.size by have := HB0.out.2.1; omega)).trans c2
  have hq2 : w.heap.size < w2.heap.size := by have := HB0.out.2.1; have := hb2.size; omega
  obtain ⟨w3, hw3, hb3, hz3, hh3⟩ : ∃ w3, w2.alloc (Obj.cells #[.int .i64 ((N : Int) - 1)] 3) = w3 ∧ Below w2.heap.size w2 w3 ∧ w3.heap.size = w2.heap.size + 1 ∧ w3.heap[w2.heap.size]? = some (.cells #[.int .i64 ((N : Int) - 1)] 3 (0, 0)) := ⟨_, rfl, t_al _ _, by simp, World.alloc_heap_new _ _⟩
  have c03 := (hb3.cell (p := ⟨w.heap.size, 0, none⟩) hq2).trans c02
  have c13 := (hb3.cell (p := ⟨w.heap.size, 1, none⟩) hq2).trans c12
  have c23 := (hb3.cell (p := ⟨w.heap.size, 2, none⟩) hq2).trans c22
  have HB3 := Lib.hid (And.intro (hb2.trans (hb3.mono hb2.size)) (And.intro hz3 (And.intro hh3 hq2)))
  have HE3 := Lib.hid (HEa.out w3 HB3.out.1)
  clear hb2 hb3 hh3 hz3 HLn hw1 c0 c1 c2
  gi_wp2
  refine ⟨trivial, fun h => by simp [Fence.wide] at h, ((callsIn_wide (n := n - 1)).2 HE3.out).mono ?_⟩
  rintro e w6 ⟨w5, hb5, hz5, F5, rfl⟩
  clear hw3 c02 c12 c22 c03 c13 c23 HEa HE3
  obtain ⟨q6, hq6⟩ : ∃ q6, w2.heap.size = q6 := ⟨_, rfl⟩
  have hb16 := (HB3.out.1.trans (hb5.mono HB3.out.1.size)).trans (F5.below.mono (Nat.le_trans HB3.out.1.size hb5.size))
  have h6w : w6.heap[q6]? = some (.cells #[.int .i64 ((N : Int) - 1)] 3 (0, 0)) := ((hb5.trans (F5.below.mono hb5.size)).block q6 (by have := HB3.out.2.1; omega)).trans (by rw [← hq6]; exact HB3.out.2.2.1)
  have hb06 : Below w.heap.size w w6 := HB0.out.1.trans (hb16.mono HB0.out.1.size)
  have hz1 := HB0.out.2.1
  have hz3 := HB3.out.2.1
  have hq2 := HB3.out.2.2.2
  have k0 := (hb16.block w.heap.size (by omega)).trans HB0.out.2.2.1
  have k1 := (hb16.block (w.heap.size + 1) (by omega)).trans HB0.out.2.2.2.1
  have k2 := (hb16.block (w.heap.size + 2) (by omega)).trans HB0.out.2.2.2.2
  have hz12 := HB3.out.1.size
  have HI := rng_all (n - 1) w.heap.size (D0 := fun k => w5.heap.size ≤ k ∧ k < w5.heap.size + 5) (by rw [HN.out]; exact F5) HD.out.1 hb06 (Nat.le_refl _) hb06.size (fun k h => by have := F5.size; omega) (fun k h1 h2 => .inl ⟨h1, h2⟩) (by rw [HN.out]; exact hNl)
  have hlt5 := F5.size
  rw [hq6] at hz3 hq2 ⊢
  clear hb16
  gi_wp2
  refine range_outer (gf := 159) (lb := #[pbox w5.heap.size, pbox (w5.heap.size + 1), pbox (w5.heap.size + 2), pbox (w5.heap.size + 3), pbox (w5.heap.size + 4)]) rfl (fun h => by simp [Fence.wide] at h) rfl trivial (enters_of Tryz.func159 (by kernel_rfl) rfl)
    HI hb06.size (Below.refl _ _) (fun k h => by omega) (fun _ => rfl)
    (fun s E W => (∃ a c K, SvS w w.heap.size q6 #[.pointer px, .bool tl, .int .i64 en] #[.pointer (some ⟨ap, 0, none⟩)] ((N : Int) - 1) (s.flatMap (saveR l Cs N tl en)) a c K E W) ∧ s <+: pairs Ls)
    (fun _ _ _ _ => False) (by
      rintro s D D' W W' ⟨⟨a, c, K, h1⟩, h2⟩ hm hd
      exact ⟨⟨a, c, K, h1.go (Nat.le_refl _) hm hd⟩, h2⟩) (fun _ _ _ _ _ _ h _ _ => h)
    ⟨⟨none, 0, 0, fun k h => ⟨by omega, by omega, by omega, by omega, by omega, by simp [Value.ownBlock]⟩, hb06, k0, k1, k2, h6w, ⟨rfl, .inl ⟨rfl, rfl⟩⟩, rfl⟩, List.nil_prefix⟩
    (fun x a' E W' => ∃ rb, E rb ∧ W'.cell? ⟨rb, 0, none⟩ = some (.slice x.2.a x.2.n x.2.c) ∧ W'.cell? ⟨rb, 1, none⟩ = some (.int .i64 x.2.e) ∧ W'.cell? ⟨rb, 2, none⟩ = some (.bool x.2.b) ∧ a' = { tmps := #[.agg #[.pointer px, .bool tl, .int .i64 en], .pointer (some ⟨ap, 0, none⟩), pbox w.heap.size, pbox (w.heap.size + 1), .slice none 0 0, pbox (w.heap.size + 2), pbox q6, .int .i64 (x.1 : Int), pbox rb, undef, .agg #[.pointer px, .bool tl, .int .i64 en], .int .i64 N, .int .i64 ((N : Int) - 1), .agg #[.pointer px, .bool tl, .int .i64 en], .func (.func 159) #[] #[pbox w5.heap.size, pbox (w5.heap.size + 1), pbox (w5.heap.size + 2), pbox (w5.heap.size + 3), pbox (w5.heap.size + 4)], .int .i64 (x.1 : Int), .agg #[.slice x.2.a x.2.n x.2.c, .int .i64 x.2.e, .bool x.2.b], undef, undef, undef, undef, undef, undef, undef, undef, undef, undef, undef, undef, undef, undef, undef, undef, undef, undef, undef, undef, undef, undef, undef, undef], defers := [] })
    (fun x a' E V l r o ⟨rb, h1, h2, h3, h4, h5⟩ hl => ⟨rb, h1, cell_put h2 hl, cell_put h3 hl, cell_put h4 hl, h5⟩) ?assign ?body ?done ?stop
  case assign =>
    intro l' pre x E V4 K hl' hi hE hK
    simp only [encP, r3V]
    gi_wp2
    have al := t_al V4 (Obj.cells #[.slice x.2.a x.2.n x.2.c, .int .i64 x.2.e, .bool x.2.b] 103)
    obtain ⟨⟨a, c, K', h1⟩, h2⟩ := hi
    refine hK _ (fun k => E k ∨ k = V4.heap.size) _ (fun k h => .inl h) (fun k h => by rw [World.size_alloc]; exact h.elim (fun h => by have := hE k h; omega) (fun h => by omega)) (Same.below al hE) (al.mono h1.mv.size) ⟨⟨a, c, K', h1.go (Nat.le_refl _) (Moves.below al) (fun k h => h.elim .inl (fun h => .inr (by omega)))⟩, h2⟩ ⟨V4.heap.size, .inr rfl, by rw [cell_at (World.alloc_heap_new _ _)]; rfl, by rw [cell_at (World.alloc_heap_new _ _)]; rfl, by rw [cell_at (World.alloc_heap_new _ _)]; rfl, rfl⟩
  case body =>
    rintro lo pre ⟨k, ⟨xa, xn, xc, xe, xb⟩⟩ a' E V hEl ⟨r, hr⟩ hE ⟨⟨a, c, K, hS⟩, hpre⟩ ⟨rb, hrb, q0, q1, q2, rfl⟩ hNx
    simp only at q0 q1 q2
    obtain ⟨hkp, hLk⟩ := pairs_inv hNx
    rw [← hkp] at hLk
    have hkc : k < Cs.length := by rw [← HD.out.2.1.len]; exact (List.getElem?_eq_some_iff.1 hLk).1
    obtain ⟨ms, hms⟩ : ∃ ms, Cs[k]? = some ms := ⟨_, List.getElem?_eq_getElem hkc⟩
    obtain ⟨hxn, hro⟩ := HD.out.2.1.row k _ ms hLk hms
    simp only at hxn hro
    have hbV : Below w.heap.size w V := hS.mv
    have HPr := Lib.hid (rprint_of (c := xc) (e := xe) (h := xb) (HD.out.2.2.1.below hbV) hl (hro.below hbV) (HD.out.2.2.2.1 ms (List.mem_of_getElem? hms)))
    rw [← hxn] at HPr
    obtain ⟨ln, hln⟩ : ∃ ln, jnP (ms.map (prP l)) = ln := ⟨_, rfl⟩
    obtain ⟨LN, hLN⟩ : ∃ LN, ln.length = LN := ⟨_, rfl⟩
    rw [hln] at HPr
    unfold BytesPost at HPr
    rw [hLN] at HPr
    have hnew := pre_any hpre hNx
    have hlen : (pre.flatMap (saveR l Cs N tl en)).length + (saveR l Cs N tl en (k, ⟨xa, xn, xc, xe, xb⟩)).length ≤ 50000000 := by
      have := flat_pre (f := saveR l Cs N tl en) hnew
      rw [flat_last, List.length_append] at this
      have h2 := HD.out.2.2.2.2
      unfold saveP at h2
      omega
    have hsv : saveR l Cs N tl en (k, ⟨xa, xn, xc, xe, xb⟩) = ln ++ (if k + 1 < N ∨ tl = true ∨ LN = 0 then endB (endR en xe) else []) := by
      unfold saveR lineP
      rw [show Cs.getD k [] = ms by rw [List.getD_eq_getElem?_getD, hms]; rfl, hln, hLN]
    rw [hsv, List.length_append, hS.len, hLN] at hlen
    have g0V : V.cell? ⟨w.heap.size + 1, 0, none⟩ = some (.pointer (some ⟨ap, 0, none⟩)) := (cell_at hS.h1 0).trans rfl
    have HSv := Lib.hid (And.intro hS (And.intro hE (And.intro hnew (And.intro hsv hlen))))
    have HLN := Lib.hid hLN
    clear hkp hLk hkc hms hxn hro hS hpre hE hnew hsv hlen hNx hEl hr hbV k0 k1 k2 h6w hln hLN HI F5 hb5 hz5 hlt5 hz12 hb06
    gi_wp2
    refine ⟨trivial, fun h => by simp [Fence.wide] at h, (CallsIn.inRound lo ((callsIn_wide (n := n - 1 - 1 - 1)).2 HPr.out)).mono ?_⟩
    rintro e w4 ⟨a9, c9, rfl, ho9, hb9⟩
    have hS4 := HSv.out.1.below (Nat.le_refl _) hb9
    have hE4 : Have E w4 := fun k' h => Nat.lt_of_lt_of_le (HSv.out.2.1 k' h) hb9.size
    have h67 : q6 ≠ w.heap.size + 2 := by have := HB2.out.size; omega
    have hKL := HSv.out.2.2.2.2
    obtain ⟨a1, c1, W1, hr1, cq1, zq1, hS1, hm1, hz1'⟩ := sv_app hS4 (Nat.le_refl _) h67 hE4 ho9 HLN.out (by omega)
    obtain ⟨V1, hV1⟩ : ∃ V1, W1.setCell ⟨w.heap.size + 2, 0, none⟩ (.slice a1 (K + LN) c1) = V1 := ⟨_, rfl⟩
    rw [hV1] at hS1 hm1 hz1'
    have mV1 := (Same.below hb9 HSv.out.2.1).trans hm1
    have r01 := (mV1.cell (o := 0) hrb).trans q0
    have r11 := (mV1.cell (o := 1) hrb).trans q1
    have r21 := (mV1.cell (o := 2) hrb).trans q2
    have f4 : w4.cell? ⟨w.heap.size + 2, 0, none⟩ = some (.slice a K c) := (cell_at hS4.h2 0).trans rfl
    have f1 : V1.cell? ⟨w.heap.size + 2, 0, none⟩ = some (.slice a1 (K + LN) c1) := (cell_at hS1.h2 0).trans rfl
    have g01 : V1.cell? ⟨w.heap.size, 0, none⟩ = some (.pointer px) := (cell_at hS1.h0 0).trans rfl
    have g11 : V1.cell? ⟨w.heap.size, 1, none⟩ = some (.bool tl) := (cell_at hS1.h0 1).trans rfl
    have g21 : V1.cell? ⟨w.heap.size, 2, none⟩ = some (.int .i64 en) := (cell_at hS1.h0 2).trans rfl
    have g61 : V1.cell? ⟨q6, 0, none⟩ = some (.int .i64 ((N : Int) - 1)) := (cell_at hS1.h6 0).trans rfl
    have hE1 : Have E V1 := fun k' h => hm1.lt hE4 h
    have FIN : Hid (∀ (W : World) (s : List UInt8) (a : Option Addr) (c K : Nat), SvS w w.heap.size q6 #[.pointer px, .bool tl, .int .i64 en] #[.pointer (some ⟨ap, 0, none⟩)] ((N : Int) - 1) s a c K E W → Same E V W → V.heap.size ≤ W.heap.size → s = pre.flatMap (saveR l Cs N tl en) ++ saveR l Cs N tl en (k, ⟨xa, xn, xc, xe, xb⟩) →
        Same E V W ∧ Below w.heap.size V W ∧ ((∃ a c K, SvS w w.heap.size q6 #[.pointer px, .bool tl, .int .i64 en] #[.pointer (some ⟨ap, 0, none⟩)] ((N : Int) - 1) ((pre ++ [(k, (⟨xa, xn, xc, xe, xb⟩ : R3))]).flatMap (saveR l Cs N tl en)) a c K E W) ∧ (pre ++ [(k, ⟨xa, xn, xc, xe, xb⟩)]) <+: pairs Ls)) := Lib.hid (by
      intro W s a' c' K' h1 h2 h3 h4
      have hS := HSv.out.1
      refine ⟨h2, ⟨h1.mv.os.trans hS.mv.os.symm, h1.mv.tape.trans hS.mv.tape.symm, h1.mv.output.trans hS.mv.output.symm, h3, fun k' hk => (h1.mv.block k' hk).trans (hS.mv.block k' hk).symm⟩, ⟨a', c', K', ?_⟩, HSv.out.2.2.1⟩
      rw [flat_last, ← h4]; exact h1)
    obtain ⟨M, hM⟩ : ∃ M, (endB (endR en xe)).length = M := ⟨_, rfl⟩

    have ARM : Hid (K + LN + M ≤ 50000000 → ∀ w7, Below V1.drew.heap.size V1.drew w7 → ∃ a2 c2 W2 V2, (Builtin.append_ #[32, 9] 32 #[.slice a1 (K + LN) c1, .string (markS (endR en xe))]).run Tryz.prog w7 = .ok (.slice a2 (K + LN + M) c2) W2 ∧ W2.cell? ⟨w.heap.size + 2, 0, none⟩ = some (.slice a1 (K + LN) c1) ∧ W2.frozen? ⟨w.heap.size + 2, 0, none⟩ = false ∧ W2.setCell ⟨w.heap.size + 2, 0, none⟩ (.slice a2 (K + LN + M) c2) = V2 ∧
        w7.cell? ⟨w.heap.size + 2, 0, none⟩ = some (.slice a1 (K + LN) c1) ∧ w7.cell? ⟨w.heap.size, 0, none⟩ = some (.pointer px) ∧ w7.cell? ⟨w.heap.size, 1, none⟩ = some (.bool tl) ∧ w7.cell? ⟨w.heap.size, 2, none⟩ = some (.int .i64 en) ∧ w7.cell? ⟨rb, 0, none⟩ = some (.slice xa xn xc) ∧ w7.cell? ⟨rb, 1, none⟩ = some (.int .i64 xe) ∧ w7.cell? ⟨rb, 2, none⟩ = some (.bool xb) ∧
        SvS w w.heap.size q6 #[.pointer px, .bool tl, .int .i64 en] #[.pointer (some ⟨ap, 0, none⟩)] ((N : Int) - 1) (pre.flatMap (saveR l Cs N tl en) ++ ln ++ endB (endR en xe)) a2 c2 (K + LN + M) E V2 ∧ Same E V V2 ∧ V.heap.size ≤ V2.heap.size) := Lib.hid (by
      intro hKM w7 hb7
      have hS7 := hS1.drew.below (Nat.le_refl _) hb7
      have hE7 : Have E w7 := fun k' h => Nat.lt_of_lt_of_le (hE1 k' h) hb7.size
      have m7 : Same E V1 w7 := (Same.below (Below.refl _ V1).drew hE1).trans (Same.below hb7 hE1)
      have z7 : V1.heap.size ≤ w7.heap.size := hb7.size
      obtain ⟨a2, c2, W2, hr2, cq2, zq2, hS2, hm2, hz2⟩ := sv_sapp (t := endB (endR en xe)) (K2 := M) hS7 (Nat.le_refl _) h67 hE7 hM (by omega)
      rw [endB_str] at hr2
      exact ⟨a2, c2, W2, _, hr2, cq2, zq2, rfl, (cell_at hS7.h2 0).trans rfl, (cell_at hS7.h0 0).trans rfl, (cell_at hS7.h0 1).trans rfl, (cell_at hS7.h0 2).trans rfl, (m7.cell (o := 0) hrb).trans r01, (m7.cell (o := 1) hrb).trans r11, (m7.cell (o := 2) hrb).trans r21, hS2, mV1.trans (m7.trans hm2), Nat.le_trans hb9.size (Nat.le_trans hz1' (Nat.le_trans z7 hz2))⟩)
    have HM := Lib.hid hM
    have HM1 := Lib.hid mV1
    have HZ1 : Hid (V.heap.size ≤ V1.heap.size) := Lib.hid (Nat.le_trans hb9.size hz1')
    have HS1 := Lib.hid hS1
    have HE1 := Lib.hid hE1
    clear hS4 hE4 ho9 hb9 hm1 hz1' mV1 hS1 hE1 hM HPr
    by_cases hk1 : k + 1 < N
    · have dk : decide ((k : Int) < (N : Int) - 1) = true := decide_eq_true (by omega)
      rw [if_pos (.inl hk1)] at hKL
      rw [HM.out] at hKL
      have ARM := Lib.hid (ARM.out (by omega))
      gi_wp2
      clear hr1 cq1 zq1 hV1 f4 q0 q1 q2
      gi_region_with_o (first
        | (refine ⟨trivial, fun h => by simp [Fence.wide] at h, (CallsIn.inRound lo ((callsIn_wide (n := n - 1 - 1 - 1)).2 (gmark_of px xa xn xc _ xb en xe))).mono ?_⟩; rintro e w7 ⟨rfl, hb7⟩; obtain ⟨a2, c2, W2, V2, hr2, cq2, zq2, hV2, f7, g07, g17, g27, r07, r17, r27, hS2, hm2, hz2⟩ := ARM.out w7 hb7; have HF := Lib.hid (And.intro hS2 (And.intro hm2 hz2)); clear hS2 hm2 hz2 hb7))
      all_goals
        gi_wp2
        exact FIN.out _ _ _ _ _ HF.out.1 HF.out.2.1 HF.out.2.2 (by rw [HSv.out.2.2.2.1, if_pos (by simp [*]), List.append_assoc])
    · have dk : decide ((k : Int) < (N : Int) - 1) = false := decide_eq_false (by omega)
      cases tl with
      | true =>
      rw [if_pos (.inr (.inl rfl))] at hKL
      rw [HM.out] at hKL
      have ARM := Lib.hid (ARM.out (by omega))
      gi_wp2
      clear hr1 cq1 zq1 hV1 f4 q0 q1 q2
      gi_region_with_o (first
        | (refine ⟨trivial, fun h => by simp [Fence.wide] at h, (CallsIn.inRound lo ((callsIn_wide (n := n - 1 - 1 - 1)).2 (gmark_of px xa xn xc _ xb en xe))).mono ?_⟩; rintro e w7 ⟨rfl, hb7⟩; obtain ⟨a2, c2, W2, V2, hr2, cq2, zq2, hV2, f7, g07, g17, g27, r07, r17, r27, hS2, hm2, hz2⟩ := ARM.out w7 hb7; have HF := Lib.hid (And.intro hS2 (And.intro hm2 hz2)); clear hS2 hm2 hz2 hb7))
      all_goals
        gi_wp2
        exact FIN.out _ _ _ _ _ HF.out.1 HF.out.2.1 HF.out.2.2 (by rw [HSv.out.2.2.2.1, if_pos (by simp [*]), List.append_assoc])
      | false =>
      by_cases hL0 : LN = 0
      · rw [if_pos (.inr (.inr hL0))] at hKL
        rw [HM.out] at hKL
        have ARM := Lib.hid (ARM.out (by omega))
        subst hL0
        simp only [Nat.add_zero] at hr1 hV1 f1 ARM HS1
        gi_wp2
        clear hr1 cq1 zq1 hV1 f4 q0 q1 q2
        gi_region_with_o (first
          | (refine ⟨trivial, fun h => by simp [Fence.wide] at h, (CallsIn.inRound lo ((callsIn_wide (n := n - 1 - 1 - 1)).2 (gmark_of px xa xn xc _ xb en xe))).mono ?_⟩; rintro e w7 ⟨rfl, hb7⟩; obtain ⟨a2, c2, W2, V2, hr2, cq2, zq2, hV2, f7, g07, g17, g27, r07, r17, r27, hS2, hm2, hz2⟩ := ARM.out w7 hb7; have HF := Lib.hid (And.intro hS2 (And.intro hm2 hz2)); clear hS2 hm2 hz2 hb7))
        all_goals
          gi_wp2
          exact FIN.out _ _ _ _ _ HF.out.1 HF.out.2.1 HF.out.2.2 (by rw [HSv.out.2.2.2.1, if_pos (by simp [*]), List.append_assoc])
      · have dL : decide ((LN : Int) = 0) = false := decide_eq_false (by omega)
        have dL2 : ((LN : Int) == 0) = false := by rw [beq_eq_false_iff_ne]; omega
        have HX : Hid (saveR l Cs N false en (k, ⟨xa, xn, xc, xe, xb⟩) = ln) := Lib.hid (by rw [HSv.out.2.2.2.1, if_neg (by rintro (h | h | h); exact hk1 h; cases h; exact hL0 h), List.append_nil])
        gi_wp2
        exact FIN.out _ _ _ _ _ HS1.out HM1.out HZ1.out (by rw [HX.out])
  case done =>
    rintro d ys E W3 hd hEd rfl ⟨⟨a, c, K, hS⟩, hpre⟩ hK
    have b0 : W3.cell? ⟨w.heap.size + 2, 0, none⟩ = some (.slice a K c) := (cell_at hS.h2 0).trans rfl
    have hsK : (saveP l Cs N tl en Ls).length = K := hS.len
    have HS := Lib.hid hS
    have HK := Lib.hid hsK
    clear hS hsK hpre k0 k1 k2 h6w HI F5 hb5
    gi_wp2
    refine ⟨by simp, .inl ⟨_, _, rfl, run_takeDeferred hK, ?_⟩⟩
    refine ⟨_, results_tmp rfl _ _ _, a, c, by rw [HK.out]; rfl, by rw [HK.out]; exact own_moves HS.out.own (fun g hg => World.putObj_heap_other (fun e => (HS.out.el d hEd).2.2.2.2.2 (by rw [hg, e]))), HS.out.mv.grown (grownBy_putObj' W3 d _) HS.out.mv.size (fun k e => by cases e; exact (HS.out.el d hEd).1)⟩
  case stop =>
    rintro d c pre E W3 hd hEd hSp h hK
    exact h.elim

theorem save_of {w : World} {B ap N : Nat} {l : List UInt8} {Ls : List R3} {Cs : List (List CelM)} {px : Option Addr} {tl : Bool} {en : Int} (HT : Tin w 194 (.pointer px) (rws Ls)) (hN : Ls.length = N) (hNl : N ≤ 100000) (HG : GrIn w l Ls Cs) (HA : Ar w B ap l) (hl : l.length ≤ 16384) (hcl : ∀ ms ∈ Cs, ms.length ≤ 1000)
    (hsz : (saveP l Cs N tl en Ls).length ≤ 50000000) :
    Calls Tryz.prog 16 #[.agg #[.pointer px, .bool tl, .int .i64 en], .pointer (some ⟨ap, 0, none⟩)] w (BytesPost (saveP l Cs N tl en Ls) w) :=
  (callsIn_wide (n := 0)).1 (save_in 0 HT hN hNl HG HA hl hcl hsz)

end Go.Proofs.YtkgakgceamafcaaGreat
