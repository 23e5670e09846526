/-
  A state more; Up; Add where no state is let go, at this seat's numbers.
-/
import Derived.Test.YtmjlmciocockpaaUnD
namespace Go.Proofs.Ytmjlmciocockpaa
open Go Go.RowKit Go.Shelf
set_option linter.unusedVariables false

/-- A state comes into the map. -/
theorem Us.more {w : World} {B T s m q : Nat} {t : Qt} {R : List Int} {D : DataW Unit} {L : List Sn} {here last : Int} (h : Us w B T s m q t R D L here last) (hB : B ≤ w.heap.size) (hL : L.length ≤ 1000) {n : Int} (hn : Wf n) (hf : ∀ x ∈ L, x.n ≠ n) (up nx : Int) (d : Value) :
    ∃ w2, (Instr.mapUpdate 47 (.map (some m)) (.int .i64 n) (pbox w.heap.size)).run Try.prog (w.alloc (.cells #[.int .i64 up, .int .i64 nx, d] 61)) = .ok () w2 ∧
      Us w2 B T s m q t R (D.put (kI n) (dI w.heap.size)) (L ++ [⟨n, up, nx, w.heap.size, d⟩]) here last ∧ Below B w w2 := by
  have al := t_al w (.cells #[.int .i64 up, .int .i64 nx, d] 61)
  have hh := heap_alloc_new w (.cells #[.int .i64 up, .int .i64 nx, d] 61)
  have hz : (w.alloc (.cells #[.int .i64 up, .int .i64 nx, d] 61)).heap.size = w.heap.size + 1 := by simp
  have ha := h.below al
  generalize w.alloc (.cells #[.int .i64 up, .int .i64 nx, d] 61) = wa at *
  obtain ⟨w2, E2, M2, G2⟩ := World.ownsMap.update (t := 47) (w := wa) (val := pbox w.heap.size) ha.map lawI Try.underlying47 (by unfold maxLen; omega) (keyI hn) (pel_box w.heap.size)
  refine ⟨w2, E2, ?_, (al.mono hB).grown G2 (Nat.le_trans hB al.size) (fun k e => by cases e; exact h.lo.2.2.1)⟩
  obtain ⟨e1, e2, e3, e4, e5, e6, e7⟩ := ha.ne
  obtain ⟨l1, l2, l3, l4, l5⟩ := ha.lt
  obtain ⟨k1, k2, k3, k4, k5⟩ := h.lt
  have sm : ∀ k, k < wa.heap.size → k ≠ m → w2.heap[k]? = wa.heap[k]? := fun k hk hm => G2.block k hk (fun e => hm (by injection e))
  have tidy := World.ownsMap.tidy ha.map lawI
  have hno := h.non n hf
  have hbm : w.heap.size ≠ m := by omega
  refine ⟨(sm T l1 e2).trans ha.box, (sm s l2 e3).trans ha.sta, ?_, ?_, ha.que.same fun b hb => sm b (l4 b hb) (fun e => ha.mne (e ▸ hb)), fun x hx => ?_, fun z hz' => ?_, fun x hx y hy e => ?_, ha.mne, ⟨h.lo.1, h.lo.2.1, h.lo.2.2.1, h.lo.2.2.2.1, fun x hx => ?_⟩⟩
  · rw [List.length_append]; exact M2
  · rw [Maps.size_put tidy, hno, h.siz, List.length_append]; rfl
  · rcases List.mem_append.1 hx with hx | hx
    · obtain ⟨g1, g2, g3, g4⟩ := ha.sts x hx
      have hne := key_ne (hf x hx)
      exact ⟨by rw [Maps.has_put_other hne]; exact g1, by rw [Maps.atKey_put_other hne]; exact g2, (sm x.b (l5 x hx) (e4 x hx).2.2).trans g3, g4⟩
    · rw [List.mem_singleton.1 hx]
      exact ⟨Maps.has_put_same tidy.isMap (isKey n) _, Maps.atKey_put_same tidy.isMap (isKey n) _ _, (sm _ (by show w.heap.size < _; omega) hbm).trans hh, hn⟩
  · have hzn : z ≠ n := fun e => hz' ⟨n, up, nx, w.heap.size, d⟩ (by simp) (by rw [e])
    rw [Maps.has_put_other (key_ne hzn)]
    exact h.non z fun x hx => hz' x (by simp [hx])
  · rcases List.mem_append.1 hx with hx | hx
    · rcases List.mem_append.1 hy with hy | hy
      · exact h.inj x hx y hy e
      · have := k5 x hx
        rw [List.mem_singleton.1 hy] at e
        simp only at e
        omega
    · rcases List.mem_append.1 hy with hy | hy
      · have := k5 y hy
        rw [List.mem_singleton.1 hx] at e
        simp only at e
        omega
      · rw [List.mem_singleton.1 hx, List.mem_singleton.1 hy]
  · rcases List.mem_append.1 hx with hx | hx
    · exact h.lo.2.2.2.2 x hx
    · rw [List.mem_singleton.1 hx]; exact hB

theorem up_yes {w : World} {B T s m q : Nat} {t : Qt} {R : List Int} {D : DataW Unit} {L : List Sn} {last : Int} {x : Sn} (h : Us w B T s m q t R D L x.n last) (hx : x ∈ L) (hd : x.d = .slice none 0 0) (hu : x.up ≠ -1) (hB : B ≤ w.heap.size) :
    Calls Try.prog 4 #[pbox T] w fun e w' => e = .returned (.tuple #[.slice none 0 0, .bool true]) ∧ Us w' B T s m q t R D L x.up last ∧ Below B w w' := by
  have HH := Lib.hid (uhere_of h)
  have HP := Lib.hid (uparent_of h hx)
  have HR := Lib.hid (rise_of h hx hd hB)
  have ct := h.cells.1
  unfold orN at HP
  rw [if_neg hu, decide_eq_false hu] at HP
  clear h hx hd hu
  go_enter Try.func4, Try.ntmps4
  go_wp2_with fail
  refine HH.out.mono ?_; rintro e w1 ⟨rfl, rfl⟩
  go_wp2_with fail
  refine HP.out.mono ?_; rintro e w2 ⟨rfl, rfl⟩
  go_wp2_with fail
  refine HR.out.mono ?_; rintro e w3 ⟨rfl, h3⟩
  have HF := Lib.hid h3
  clear h3
  go_wp2_with fail
  go_ret2
  exact ⟨rfl, HF.out⟩

/-- What is left of those that no other one's parent are, when a state more comes. -/
def Rn (R R' : List Int) (y n : Int) : Prop := ∃ R1, (if y ∈ R then (y :: R1).Perm R else R1 = R) ∧ R'.Perm (if n ∈ R1 then R1 else n :: R1)

theorem drop_any {w : World} {q : Nat} {t : Qt} {R : List Int} (h : QIn w q t R) (hR : R.length ≤ 1000) {x : Int} (wx : Wf x) :
    Calls Try.prog 24 #[pbox q, .int .i64 x] w fun e w' => (∃ b, e = .returned (.bool b)) ∧ ∃ t' R', QIn w' q t' R' ∧ (if x ∈ R then (x :: R').Perm R else R' = R) ∧ R'.length ≤ 1000 ∧ Mq q t t' w w' := by
  by_cases hx : x ∈ R
  · refine (drop_yes h (by omega) hx).mono ?_
    rintro e w' ⟨rfl, t', R', h1, h2, h3⟩
    have := h2.length_eq
    rw [List.length_cons] at this
    exact ⟨⟨_, rfl⟩, t', R', h1, by rw [if_pos hx]; exact h2, by omega, h3⟩
  · refine (drop_not (v := pbox q) (.inr ⟨q, t, rfl, h⟩) wx hx).mono ?_
    rintro e w' ⟨rfl, hb⟩
    exact ⟨⟨_, rfl⟩, t, R, h.below hb, by rw [if_neg hx], hR, Mq.of_below hb⟩

set_option maxRecDepth 100000 in
set_option maxHeartbeats 8000000 in
theorem add_few {w : World} {B T s m q : Nat} {t : Qt} {R : List Int} {D : DataW Unit} {L : List Sn} {last : Int} {y : Sn} (h : Us w B T s m q t R D L y.n last) (hy : y ∈ L) (hB : B ≤ w.heap.size) (hL : L.length ≤ 39) (hR : R.length ≤ 1000) (hl0 : 0 ≤ last) (hl1 : last ≤ 1000000) (hf : ∀ x ∈ L, x.n ≤ last) :
    Calls Try.prog 11 #[pbox T, .slice none 0 0] w fun e w' => e = .returned (.int .i64 (last + 1)) ∧ ∃ t' R' D' b', Us w' B T s m q t' R' D' (setX (L ++ [⟨last + 1, y.n, -1, b', .slice none 0 0⟩]) y.b (last + 1)) (last + 1) (last + 1) ∧ Rn R R' y.n (last + 1) ∧ Below B w w' := by
  have HH := Lib.hid (uhas_of h)
  have hl := h.llen
  have hpos : 0 < L.length := List.length_pos_of_mem hy
  have n0 : ((L.length : Int) == 0) = false := by rw [beq_eq_false_iff_ne]; omega
  obtain ⟨ct, c0, c1, c2, c3, f2, f3⟩ := h.cells
  have hwn : Wf (last + 1) := WalkArith.wf_i64 (by omega)
  have h1 := (h.put (last + 1)).2
  have b1 : Below B w (w.setCell ⟨s, 3, none⟩ (.int .i64 (last + 1))) := (Below.refl B w).setCell (p := ⟨s, 3, none⟩) h.lo.2.1 _
  obtain ⟨w1, hw1⟩ : ∃ w1, w.setCell ⟨s, 3, none⟩ (.int .i64 (last + 1)) = w1 := ⟨_, rfl⟩
  rw [hw1] at h1 b1
  obtain ⟨w2, E2, h2, b2⟩ := h1.drew.more (Nat.le_trans hB b1.size) (by omega) hwn (fun x hx e => by have := hf x hx; omega) y.n (-1) (.slice none 0 0)
  have hdz : w1.drew.heap.size = w1.heap.size := rfl
  rw [hdz] at E2 h2
  have E3 : (Instr.mapUpdate 47 (.map (some m)) (.int .i64 (last + 1)) (pbox w1.heap.size)).run Try.prog (w1.alloc (.cells #[.int .i64 y.n, .int .i64 (-1), .slice none 0 0] 61)).drew = .ok () w2 := E2
  obtain ⟨i1, i2, i3, i4, i5, i6, i7⟩ := h1.cells
  have hal := t_al w1 (.cells #[.int .i64 y.n, .int .i64 (-1), .slice none 0 0] 61)
  obtain ⟨a1, a2, a3, a4, a5, a6, a7⟩ := (h1.below hal).cells
  have b02 : Below B w w2 := b1.trans ((Below.refl B w1).drew.trans b2)
  obtain ⟨j1, j2, j3, j4, j5, j6, j7⟩ := h2.cells
  have hwy := (h.sts y hy).2.2.2
  have hB2 : B ≤ w2.heap.size := Nat.le_trans hB b02.size
  have HD := Lib.hid (drop_any h2.drew.que hR hwy)
  -- behind Drop and Put
  have HU := Lib.hid (fun (w3 : World) (t' : Qt) (R' : List Int) (h3 : QIn w3 q t' R') (hm : Mq q t t' w2.drew w3) => h2.drew.mq h3 hm hB2)
  have hy2 : y ∈ L ++ [⟨last + 1, y.n, -1, w1.heap.size, .slice none 0 0⟩] := by simp [hy]
  have hx2 : (⟨last + 1, y.n, -1, w1.heap.size, .slice none 0 0⟩ : Sn) ∈ L ++ [⟨last + 1, y.n, -1, w1.heap.size, .slice none 0 0⟩] := by simp
  have HY := Lib.hid (And.intro hy2 hx2)
  have HL2 : Hid ((L ++ [⟨last + 1, y.n, -1, w1.heap.size, .slice none 0 0⟩] : List Sn).length = L.length + 1) := Lib.hid (by simp)
  generalize hL2 : (L ++ [⟨last + 1, y.n, -1, w1.heap.size, .slice none 0 0⟩] : List Sn) = L2 at *
  have HLL := Lib.hid hL2
  generalize hD2 : D.put (kI (last + 1)) (dI w1.heap.size) = D2 at *
  have H02 := Lib.hid b02
  have hwn1 := Lib.hid hwn
  clear hal h1 b1 hdz h2 b2 b02 hy2 hx2 hL2 hD2 h i1 i6 i7 a1 a6 a7 j1 j2 j5 j6 j7 hwn hwy hf hpos ct f2
  go_enter Try.func11, Try.ntmps11
  go_wp2_with fail
  refine HH.out.mono ?_; rintro e w' ⟨rfl, rfl⟩
  go_wp2_with fail
  go_big_region
  go_wp2_with fail
  go_region_with (go_at_call 24; refine HD.out.mono ?_; rintro e w3 ⟨⟨bv, rfl⟩, t1, R1, q3, p3, z3, m3⟩)
  all_goals
    obtain ⟨h3, b3⟩ := HU.out w3 t1 R1 q3 m3
    obtain ⟨_, k2, k3, k4, k5, _, _⟩ := h3.cells
    have HPut := Lib.hid (put_of (w := w3.drew) h3.drew.que (by omega) hwn1.out)
    have H3 := Lib.hid (And.intro h3.drew (And.intro b3 (And.intro p3 z3)))
    clear h3 b3 q3 m3 p3 z3
    go_wp2_with fail
    go_region_with (go_at_call 25; refine HPut.out.mono ?_; rintro e w4 ⟨rfl, t2, R2, q4, p4, m4⟩)
    all_goals
      obtain ⟨h4, b4⟩ := H3.out.1.mq q4 m4 (Nat.le_trans hB2 H3.out.2.1.size)
      obtain ⟨_, n2, n3, n4, n5, _, _⟩ := h4.cells
      have b24 : Below B w2 w4 := (Below.refl B w2).drew.trans (H3.out.2.1.trans ((Below.refl B w3).drew.trans b4))
      have HS := Lib.hid (sink_of h4 HY.out.2 HY.out.1 (Nat.le_trans hB2 b24.size))
      have H4 := Lib.hid (And.intro p4 b24)
      clear h4 b4 q4 m4 p4 b24
      go_wp2_with fail
      refine HS.out.mono ?_; rintro e w5 ⟨rfl, h5, b5⟩
      have l5 := h5.llen
      obtain ⟨_, o2, _, o4, _, _, _⟩ := h5.cells
      rw [setX_len, HL2.out] at l5
      have H5 := Lib.hid (And.intro h5 b5)
      have d40 : decide ((40 : Int) < ((L.length + 1 : Nat) : Int)) = false := decide_eq_false (by omega)
      clear h5 b5
      go_wp2_with fail
      refine wp_loop_rounds 1 ?_
      rw [rounds_succ]
      go_wp2_with fail
      go_ret
      refine ⟨rfl, t2, R2, D2, w1.heap.size, ?_, ⟨R1, H3.out.2.2.1, H4.out.1⟩, H02.out.trans (H4.out.2.trans H5.out.2)⟩
      rw [HLL.out]
      exact H5.out.1

end Go.Proofs.Ytmjlmciocockpaa
