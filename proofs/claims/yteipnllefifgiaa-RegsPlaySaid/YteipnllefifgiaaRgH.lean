/-
  regs.Reg.copied: rows of texts copied; at this seat's numbers.
-/
import Derived.Test.YteipnllefifgiaaRgE
namespace Go.Proofs.Yteipnllefifgiaa
open Go Go.RowKit
set_option linter.unusedVariables false

def set2 (w : World) (b o : Nat) (x y : Value) : World := (w.setCell ⟨b, o, none⟩ x).setCell ⟨b, o + 1, none⟩ y
theorem set2_at {w : World} {b : Nat} {u v : Value} {t : TypeId} (h : w.heap[b]? = some (.cells #[u, v] t (0, 0))) (x y : Value) : (set2 w b 0 x y).heap[b]? = some (.cells #[x, y] t (0, 0)) := by
  unfold set2; rw [heap_set_at (heap_set_at h)]; rfl
theorem set2_size (w : World) (b o : Nat) (x y : Value) : (set2 w b o x y).heap.size = w.heap.size := by unfold set2; rw [size_set, size_set]
theorem set2_keep {lo hi b o : Nat} {w : World} {x y : Value} (h : b < lo ∨ hi ≤ b) : Keep lo hi w (set2 w b o x y) := (Keep.set h).trans (Keep.set h)
theorem set2_below {W w : World} {b o : Nat} (h : Below W.heap.size W w) (hb : W.heap.size ≤ b) (x y : Value) : Below W.heap.size W (set2 w b o x y) := (h.setCell (p := ⟨b, o, none⟩) hb x).setCell (p := ⟨b, o + 1, none⟩) hb y
theorem own_room {w : World} {B n c g : Nat} {e : TypeId} {xs : List Value} (h : w.ownsRow B e 1 (.slice (some ⟨g, 0, none⟩) n c) n xs) (hc : n < c) : (∃ u, w.cell? ⟨g, n, none⟩ = some u) ∧ w.frozen? ⟨g, n, none⟩ = false := by
  rcases h.2 with ⟨h1, _⟩ | ⟨g', cap, cur, h1, _, hg, _, _, h5, _⟩
  · cases h1
  · simp only [Value.slice.injEq, Option.some.injEq, Addr.mk.injEq] at h1
    obtain ⟨⟨rfl, _⟩, _, rfl⟩ := h1
    exact ⟨⟨cur[n]'(by omega), by rw [cell_at hg]; exact Array.getElem?_eq_getElem _⟩, unfrozen hg n⟩
theorem own_put {w : World} {B n c g : Nat} {e : TypeId} {xs : List Value} (u : Value) (h : w.ownsRow B e 1 (.slice (some ⟨g, 0, none⟩) n c) n xs) (hc : n < c) : (w.setCell ⟨g, n, none⟩ u).ownsRow B e 1 (.slice (some ⟨g, 0, none⟩) (n + 1) c) (n + 1) (xs ++ [u]) := by
  rcases h.2 with ⟨h1, _⟩ | ⟨g', cap, cur, h1, hB, hg, _, h4, h5, h6⟩
  · cases h1
  · simp only [Value.slice.injEq, Option.some.injEq, Addr.mk.injEq] at h1
    obtain ⟨⟨rfl, _⟩, _, rfl⟩ := h1
    refine ⟨by rw [List.length_append, h.1]; simp, .inr ⟨g, c, _, rfl, hB, heap_set_at hg, by omega, h4, by rw [Array.size_setIfInBounds]; exact h5, ?_⟩⟩
    have hl : n < cur.toList.length := by rw [Array.length_toList]; omega
    rw [Nat.mul_one] at h6 ⊢
    rw [Array.toList_setIfInBounds, List.take_add_one, List.take_set_of_le (Nat.le_refl n), h6, List.getElem?_set_self hl]
    rfl
theorem own_none {w : World} {B n c g : Nat} {e : TypeId} {xs : List Value} (h : w.ownsRow B e 1 (.slice (some ⟨g, 0, none⟩) n c) n xs) : w.ownsRow B e 1 (.slice (some ⟨g, 0, none⟩) 0 c) 0 [] := by
  rcases h.2 with ⟨h1, _⟩ | ⟨g', cap, cur, h1, hB, hg, _, h4, h5, h6⟩
  · cases h1
  · simp only [Value.slice.injEq, Option.some.injEq, Addr.mk.injEq] at h1
    obtain ⟨⟨rfl, _⟩, _, rfl⟩ := h1
    exact ⟨by simp, .inr ⟨g, c, cur, rfl, hB, hg, Nat.zero_le _, h4, h5, by simp⟩⟩
theorem own_lt {w : World} {B n c g : Nat} {e : TypeId} {xs : List Value} (h : w.ownsRow B e 1 (.slice (some ⟨g, 0, none⟩) n c) n xs) : g < w.heap.size := by
  rcases t_form h with ⟨h1, _⟩ | ⟨g', h1, _, h3, _⟩
  · cases h1
  · cases h1; exact h3

/-- Rows that were copied so far. -/
structure CpJ (W w1 : World) (G n i : Nat) (T T' : List TxM) (wr : World) : Prop where
  len : T'.length = i
  le : i ≤ n
  tx : txL T' = (txL T).take i
  own : wr.ownsRow W.heap.size 61 1 (.slice (some ⟨G, 0, none⟩) i n) i (T'.map txV)
  rd : ∀ p ∈ T', Sl wr p.1 p.2.1 (strs p.2.2) ∧ Bt (G + 1) wr.heap.size p.1 ∧ Ty1 wr 9 p.1
  keep : Keep 0 G w1 wr
  low : Below W.heap.size W wr

/-- A copy of a register's value: in new memory. -/
def CpPost (k : Int) (T : List TxM) (w : World) (e : Ending) (w' : World) : Prop :=
  ∃ a c T', T'.length = T.length ∧ txL T' = txL T ∧ e = .returned (rgV k a T.length c) ∧ (Mx w' w.heap.size w'.heap.size a c T' ∧ Wr w' a T') ∧ Below w.heap.size w w'

set_option maxRecDepth 100000 in
set_option maxHeartbeats 4000000 in
theorem copied_of {w : World} {lo hi : Nat} {a : Option Addr} {c : Nat} {T : List TxM} (k : Int) (H : Mx w lo hi a c T) (h0 : 0 < T.length) (hl : T.length ≤ 1000000) (ht : Thin (txL T)) :
    Calls Try.prog 33 #[rgV k a T.length c] w (CpPost k T w) := by
  unfold CpPost
  unfold rgV
  obtain ⟨i0, hi0, hz0, hz1, hz2⟩ := info_parts info_txs
  obtain ⟨n, hn⟩ : ∃ n, T.length = n := ⟨_, rfl⟩
  have HN := Lib.hid hn
  rw [hn] at h0 hl ⊢
  have HH := Lib.hid H
  have HTH := Lib.hid ht
  clear hn H ht
  obtain ⟨w1, e1, hb1, hs1, g1, g2⟩ := two_new w (.cells #[.int .i64 k, .slice a n c] 41) (.cells #[.int .i64 0, .slice none 0 0] 41)
  have HB1 := Lib.hid hb1
  have hw1 : w1.heap.size = w.heap.size + 2 := hs1
  have c0 : w1.cell? ⟨w.heap.size, 0, none⟩ = some (.int .i64 k) := by rw [cell_at g1]; rfl
  have c1 : w1.cell? ⟨w.heap.size, 1, none⟩ = some (.slice a n c) := by rw [cell_at g1]; rfl
  have HG1 := Lib.hid g1
  have HG2 := Lib.hid g2
  clear g1 g2 hb1 hs1
  go_enter Try.func33, Try.ntmps33
  go_upto_region 1 with fail
  try rw [e1]
  clear e1
  go_wp2_with (at_make; refine wpList_make_full _ rfl _ _ 26 rfl w.heap.size 61 i0 (.slice none 0 0) 1 Try.underlying26 hi0 hz0 hz1 .i64 .i64 _ _ n rfl rfl rfl rfl ?b2 ?b3 ?b4 ?_)
  case b2 => rw [hz2]; omega
  case b3 => unfold maxLen; omega
  case b4 => first | omega | (rw [hw1]; omega) | exact HB1.out.size | (simp; done)
  intro w2 ho2 hg2
  try rw [hw1] at ho2 hg2 ⊢
  have HO2 := Lib.hid (own_none ho2)
  have hb2 : Below w1.heap.size w1 w2 := (Below.refl _ _).grown (by first | exact hg2 | (rw [hw1]; exact hg2)) (Nat.le_refl _) (fun q hq => by cases hq)
  have HB2 := Lib.hid hb2
  have x1 : w2.cell? ⟨w.heap.size, 1, none⟩ = some (.slice a n c) := (hb2.cell (p := ⟨w.heap.size, 1, none⟩) (show w.heap.size < w1.heap.size by omega)).trans c1
  have HC0 := Lib.hid c0
  clear ho2 hg2 hb2 c0 c1
  obtain ⟨G, hG⟩ : ∃ G, w.heap.size + 2 = G := ⟨_, rfl⟩
  have HGE := Lib.hid hG
  rw [hG] at HO2 ⊢
  go_wp2_with fail
  go_loopw [13] (fun v13 wr => ∃ (i : Nat) (T' : List TxM), v13 = .int .i64 i ∧ CpJ w w1 G n i T T' wr) (fun v13 _ => n - (intOf v13).toNat)
  case atStart => exact ⟨0, [], rfl, rfl, by omega, rfl, HO2.out, fun p hp => by simp at hp, ⟨HB2.out.size, fun b _ h1 h2 => HB2.out.block b h2⟩, HB1.out.trans (HB2.out.mono HB1.out.size)⟩
  case round =>
    obtain ⟨i, T', rfl, J⟩ := hrel
    have HJ := Lib.hid J
    have hii := J.le
    have hGl := own_lt J.own
    clear J
    by_cases hlt : i < n
    · have dk : decide (i < n) = true := decide_eq_true hlt
      obtain ⟨p, hp⟩ : ∃ p, T[i]? = some p := ⟨_, List.getElem?_eq_getElem (by rw [HN.out]; exact hlt)⟩
      obtain ⟨g, o, rfl, hg, f1, s1, _⟩ := (HH.out.below HJ.out.low).row hp
      have hx := txL_at hp
      have hth := HTH.out _ (List.mem_of_getElem? hx)
      unfold txV at f1
      obtain ⟨p1, p2, l⟩ := p
      simp only [] at f1 s1 hx hth
      have HCL := Lib.hid (clone_str s1 (by rw [strs_len]; exact hth))
      rw [strs_len] at HCL
      have HX := Lib.hid hx
      have j0 : (0 : Int) ≤ (i : Int) := by omega
      have j1 : (i : Int) < (n : Int) := by omega
      clear hp s1 hx hth
      obtain ⟨m, hm⟩ : ∃ m, l.length = m := ⟨_, rfl⟩
      have HM := Lib.hid hm
      rw [hm] at f1 HCL
      clear hm
      go_wp2_with fail
      refine HCL.out.mono ?_; rintro e w3 ⟨a3, c3, rfl, hs3, hbt3, hb3⟩
      have ho3 := own_below HJ.out.own hb3
      obtain ⟨⟨u0, hu0⟩, hf0⟩ := own_room ho3 hlt
      have HJ2 : Hid (CpJ w w1 G n (i + 1) T (T' ++ [(a3, c3, l)]) (w3.setCell ⟨G, i, none⟩ (.slice a3 m c3))) := Lib.hid (by
        have hop := own_put (.slice a3 m c3) ho3 hlt
        have hk : Keep (G + 1) w3.heap.size w3 (w3.setCell ⟨G, i, none⟩ (.slice a3 m c3)) := Keep.set (Or.inl (by omega))
        refine ⟨by rw [List.length_append, HJ.out.len]; rfl, by omega, ?_, ?_, fun p hp => ?_, ?_, ?_⟩
        · unfold txL at *
          rw [List.map_append, List.take_add_one, HX.out]
          have := HJ.out.tx
          unfold txL at this
          rw [this]; rfl
        · rw [List.map_append]
          have e : [(a3, c3, l)].map txV = [Value.slice a3 m c3] := by unfold txV; rw [← HM.out]; rfl
          rw [e]; exact hop
        · rw [size_set]
          rcases List.mem_append.1 hp with hp | hp
          · obtain ⟨q1, q2, q3⟩ := HJ.out.rd p hp
            exact ⟨(q1.below hb3).keep (q2.mono (Nat.le_refl _) hb3.size) hk, q2.mono (Nat.le_refl _) hb3.size, (q3.below hb3).set⟩
          · simp only [List.mem_singleton] at hp
            subst hp
            have hb : Bt (G + 1) w3.heap.size a3 := fun d hd => by
              have := hbt3 d hd
              exact ⟨by omega, this.2.1⟩
            exact ⟨hs3.keep hb hk, hb, Ty1.set (fun d hd => (hbt3 d hd).2.2)⟩
        · exact (HJ.out.keep.trans (Keep.of_below hb3)).trans (Keep.set (Or.inr (Nat.le_refl _)))
        · exact (HJ.out.low.trans (hb3.mono HJ.out.low.size)).setCell (p := ⟨G, i, none⟩) (show w.heap.size ≤ G by rw [← HGE.out]; omega) _)
      clear ho3 hs3 hbt3 hb3
      go_wp2_with fail
      go_roundw
      case rel => exact ⟨i + 1, _, by go_num, HJ2.out⟩
      case measure => simp [intOf]; omega
    · have dk : decide (i < n) = false := decide_eq_false hlt
      obtain rfl : i = n := by omega
      have hk := HJ.out.keep
      have y0 : wr.heap[w.heap.size]? = some (.cells #[.int .i64 k, .slice a i c] 41 (0, 0)) := (hk.block _ (Nat.zero_le _) (by rw [← HGE.out]; omega) (by omega)).trans HG1.out
      have y1 : wr.heap[w.heap.size + 1]? = some (.cells #[.int .i64 0, .slice none 0 0] 41 (0, 0)) := (hk.block _ (Nat.zero_le _) (by rw [← HGE.out]; omega) (by omega)).trans HG2.out
      have x0 : wr.cell? ⟨w.heap.size, 0, none⟩ = some (.int .i64 k) := by rw [cell_at y0]; rfl
      have r0 : wr.cell? ⟨w.heap.size + 1, 0, none⟩ = some (.int .i64 0) := by rw [cell_at y1]; rfl
      have r1 : wr.cell? ⟨w.heap.size + 1, 1, none⟩ = some (.slice none 0 0) := by rw [cell_at y1]; rfl
      have zz := fun j => unfrozen y1 j
      have HS := Lib.hid (set2_at y1 (.int .i64 k) (.slice (some ⟨G, 0, none⟩) i i))
      clear y0 y1 hk
      go_wp2_with fail
      have hs := HS.out
      have q0 : (set2 wr (w.heap.size + 1) 0 (.int .i64 k) (.slice (some ⟨G, 0, none⟩) i i)).cell? ⟨w.heap.size + 1, 0, none⟩ = some (.int .i64 k) := by rw [cell_at hs]; rfl
      have q1 : (set2 wr (w.heap.size + 1) 0 (.int .i64 k) (.slice (some ⟨G, 0, none⟩) i i)).cell? ⟨w.heap.size + 1, 1, none⟩ = some (.slice (some ⟨G, 0, none⟩) i i) := by rw [cell_at hs]; rfl
      have hMx : Mx (set2 wr (w.heap.size + 1) 0 (.int .i64 k) (.slice (some ⟨G, 0, none⟩) i i)) w.heap.size (set2 wr (w.heap.size + 1) 0 (.int .i64 k) (.slice (some ⟨G, 0, none⟩) i i)).heap.size (some ⟨G, 0, none⟩) i T' := by
        have hk2 : Keep G wr.heap.size wr (set2 wr (w.heap.size + 1) 0 (.int .i64 k) (.slice (some ⟨G, 0, none⟩) i i)) := set2_keep (Or.inl (by rw [← HGE.out]; omega))
        have hM : Mx wr G wr.heap.size (some ⟨G, 0, none⟩) i T' := ⟨Sl.own (by rw [List.length_map, HJ.out.len]; exact HJ.out.own) (txV_one _), fun d hd => by cases hd; exact ⟨Nat.le_refl _, hGl⟩, fun p hp => ⟨(HJ.out.rd p hp).1, (HJ.out.rd p hp).2.1.mono (by omega) (Nat.le_refl _)⟩⟩
        rw [set2_size]
        exact (hM.keep hk2).mono (by rw [← HGE.out]; omega) (Nat.le_refl _)
      have hWr : Wr (set2 wr (w.heap.size + 1) 0 (.int .i64 k) (.slice (some ⟨G, 0, none⟩) i i)) (some ⟨G, 0, none⟩) T' := by
        unfold set2
        exact Wr.set (Wr.set ⟨own_ty HJ.out.own, fun p hp => (HJ.out.rd p hp).2.2⟩)
      have hBl := set2_below (b := w.heap.size + 1) (o := 0) HJ.out.low (by omega) (.int .i64 k) (.slice (some ⟨G, 0, none⟩) i i)
      have hTT : txL T' = txL T := by rw [HJ.out.tx]; exact List.take_of_length_le (by rw [txL_len, HN.out]; exact Nat.le_refl _)
      have hLL : T'.length = i := HJ.out.len
      unfold set2 at q0 q1 hMx hBl hWr
      exact bodyPost_ret (v := .agg #[.int .i64 k, .slice (some ⟨G, 0, none⟩) i i]) (by simp [results, Try.results33, go_sem, q0, q1]) rfl ⟨_, _, T', hLL, hTT, rfl, ⟨hMx, hWr⟩, hBl⟩

end Go.Proofs.Yteipnllefifgiaa
