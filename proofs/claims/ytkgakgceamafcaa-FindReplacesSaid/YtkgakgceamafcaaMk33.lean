/-
  Texts of this seat, put together (a claim holds few texts): FdI.
-/
import Derived.Test.YtkgakgceamafcaaMk32

namespace Go.Proofs.Ytkgakgceamafcaa
open Go Go.RowKit Go.Shelf
set_option linter.unusedVariables false
attribute [local go_sem] Oper.semAt_some

/-- Has a text the other one? -/
def hasP (p t : List UInt8) : Bool := !(allOf p t).isEmpty
def InI (w4 : World) (s : List Nat) (E : Bls) (W : World) : Prop := (∀ k, E k → w4.heap.size ≤ k) ∧ Below w4.heap.size w4 W ∧ s = []
theorem InI.firm {w4 : World} : Firm (InI w4) := by
  rintro s D D' W W' ⟨h1, h2, h3⟩ hm hd
  have hs := h2.size
  exact ⟨fun k hk => (hd k hk).elim (h1 k) (fun h => by omega), ⟨hm.os.trans h2.os, hm.tape.trans h2.tape, hm.output.trans h2.output, Nat.le_trans h2.size hm.size, fun k hk => (hm.block k (by omega) (fun h => by have := h1 k h; omega)).trans (h2.block k hk)⟩, h3⟩
def InX (w w4 : World) (q : Nat) (b : Bool) (c : Code) (s : List Nat) (E : Bls) (W : World) : Prop :=
  c = .ret ∧ (∀ k, E k → w4.heap.size ≤ k) ∧ Below w.heap.size w W ∧ w4.heap.size ≤ W.heap.size ∧ W.cell? ⟨q, 0, none⟩ = some (.bool true) ∧ b = true
theorem InX.firm {w w4 : World} {q : Nat} {b : Bool} (hw : w.heap.size ≤ w4.heap.size) (hq : q < w4.heap.size) (c : Code) : Firm (InX w w4 q b c) := by
  rintro s D D' W W' ⟨h0, h1, h2, hs, h3, h4⟩ hm hd
  refine ⟨h0, fun k hk => (hd k hk).elim (h1 k) (fun h => by omega), ⟨hm.os.trans h2.os, hm.tape.trans h2.tape, hm.output.trans h2.output, Nat.le_trans h2.size hm.size, fun k hk => (hm.block k (by omega) (fun h => by have := h1 k h; omega)).trans (h2.block k hk)⟩, Nat.le_trans hs hm.size, (hm.cell (b := q) (o := 0) (by omega) (fun h => by have := h1 q h; omega)).trans h3, h4⟩

set_option maxRecDepth 100000 in
set_option maxHeartbeats 4000000 in
theorem in_in (n : Nat) {w : World} {B ap : Nat} {l p : List UInt8} {ta ba ca : Option Addr} {m tc bc' cn cc : Nat} {x y : Int} {k : Bool} {t : List Int} {bs : List Nat} (hA : Ar w B ap l) (hl : l.length ≤ 16384) (hx : Tx w (.slice ca cn cc) t) (hin : InL l t) (htl : t.length ≤ 100000)
    (hp : Rd w 1 ta p.length (bc p)) (hT : Tab p bs) (hb : Rd w 1 ba m (ib bs)) (hm : p.length = m) (hbs : bs.length = m) (hml : m ≤ 100000) :
    CallsIn Fence.wide n Try.prog 50 #[.agg #[.slice ta m tc, .slice ba m bc'], cellV ca cn cc x y k, .pointer (some ⟨ap, 0, none⟩)] w fun e w' => e = .returned (.bool (hasP p (atL l t))) ∧ Below w.heap.size w w' := by
  obtain ⟨hb1, hz1, hh⟩ := allocs_w [Obj.cells #[.slice ta m tc, .slice ba m bc'] 43, Obj.cells #[.slice ca cn cc, .int .i64 x, .int .i64 y, .bool k] 98, Obj.cells #[.bool false] 4] w
  simp only [List.foldl_cons, List.foldl_nil] at hb1 hz1 hh
  obtain ⟨w1, hw1⟩ : ∃ w1, ((w.alloc (Obj.cells #[.slice ta m tc, .slice ba m bc'] 43)).alloc (Obj.cells #[.slice ca cn cc, .int .i64 x, .int .i64 y, .bool k] 98)).alloc (Obj.cells #[.bool false] 4) = w1 := ⟨_, rfl⟩
  rw [hw1] at hb1 hz1 hh
  have hz1' : w1.heap.size = w.heap.size + 3 := hz1
  have h0 : w1.heap[w.heap.size]? = some (.cells #[.slice ta m tc, .slice ba m bc'] 43 (0, 0)) := hh 0 (by simp)
  have h1 : w1.heap[w.heap.size + 1]? = some (.cells #[.slice ca cn cc, .int .i64 x, .int .i64 y, .bool k] 98 (0, 0)) := hh 1 (by simp)
  have h2 : w1.heap[w.heap.size + 2]? = some (.cells #[.bool false] 4 (0, 0)) := hh 2 (by simp)
  have s0 : w1.cell? ⟨w.heap.size, 0, none⟩ = some (.slice ta m tc) := (cell_at h0 0).trans rfl
  have s1 : w1.cell? ⟨w.heap.size, 1, none⟩ = some (.slice ba m bc') := (cell_at h0 1).trans rfl
  have c0 : w1.cell? ⟨w.heap.size + 1, 0, none⟩ = some (.slice ca cn cc) := (cell_at h1 0).trans rfl
  have c1 : w1.cell? ⟨w.heap.size + 1, 1, none⟩ = some (.int .i64 x) := (cell_at h1 1).trans rfl
  have c2 : w1.cell? ⟨w.heap.size + 1, 2, none⟩ = some (.int .i64 y) := (cell_at h1 2).trans rfl
  have c3 : w1.cell? ⟨w.heap.size + 1, 3, none⟩ = some (.bool k) := (cell_at h1 3).trans rfl
  have HBy := Lib.hid (fun (V : World) (hv : Below w1.heap.size w1 V) => cbytes_of (x := x) (y := y) (k := k) ((hA.below hb1).below hv) hl ((hx.below hb1).below hv) hin)
  have HP := Lib.hid (hp.below hb1)
  have HBt := Lib.hid (hb.below hb1)
  have HTb := Lib.hid (And.intro hT (And.intro hm hbs))
  have HB1 := Lib.hid hb1
  have H2 := Lib.hid h2
  have HZ := Lib.hid hz1'
  have HTL : Hid ((atL l t).length ≤ 100000) := by show _ ≤ _; unfold atL; rw [List.length_map]; exact htl
  obtain ⟨tx, htx⟩ : ∃ tx, atL l t = tx := ⟨_, rfl⟩
  rw [htx] at HBy HTL ⊢
  obtain ⟨L, hL⟩ : ∃ L, tx.length = L := ⟨_, rfl⟩
  have HL := Lib.hid hL
  have hmix : Try.prog.follows .mixedOrders = true := by kernel_rfl
  clear hA hx hin hp hT hb hm hbs hb1 hz1 hh h0 h1 h2 htx htl
  refine callsIn_of_wp_marks Try.func50 rfl trivial ?_ rfl
  simp only [Try.ntmps50, List.size_toArray, List.length_cons, List.length_nil, Nat.reduceAdd, Nat.reduceSub, Array.replicate_succ, Array.replicate_zero, List.push_toArray, List.append_toArray, List.nil_append, List.cons_append]
  gi_wp2
  rename_i KK hKK
  have key : ∀ (a2 : Option Addr) (d2 : Nat) (V w4 : World), Below w1.heap.size w1 V → Rd V 1 a2 L (bc tx) → Below V.heap.size V w4 → w4.heap.size = V.heap.size + 2 → w4.cell? ⟨V.heap.size, 0, none⟩ = some (.slice ta m tc) → w4.cell? ⟨V.heap.size, 1, none⟩ = some (.slice ba m bc') → w4.cell? ⟨V.heap.size + 1, 0, none⟩ = some (.slice a2 L d2) →
      KK { tmps := #[.agg #[.slice ta m tc, .slice ba m bc'], cellV ca cn cc x y k, .pointer (some ⟨ap, 0, none⟩), .pointer (some ⟨w.heap.size, 0, none⟩), .pointer (some ⟨w.heap.size + 1, 0, none⟩), undef, .pointer (some ⟨w.heap.size + 1 + 1, 0, none⟩), .agg #[.slice ta m tc, .slice ba m bc'], cellV ca cn cc x y k, .pointer (some ⟨ap, 0, none⟩), .slice a2 L d2, .func (.func 27) #[] #[pbox V.heap.size, pbox (V.heap.size + 1)], undef], defers := [] } w4 := by
    intro a2 d2 V w4 hbV hrd hb4 hz4 e0 e1 e2
    have sV := hbV.size
    have s4 := hb4.size
    have hb14 := hbV.trans (hb4.mono hbV.size)
    have hbw := HB1.out.trans (hb14.mono HB1.out.size)
    have sz := HZ.out
    have hpq : PlQ V.heap.size (V.heap.size + 1) p tx ta ba a2 tc m bc' L d2 bs w4 := ⟨e0, e1, e2, by omega, by omega, HP.out.below hb14, HBt.out.below hb14, by rw [hL]; exact hrd.below hb4⟩
    have b4 := (hb14.block _ (lt_of_at H2.out)).trans H2.out
    obtain ⟨z, hz⟩ : ∃ z, V.heap.size = z := ⟨_, rfl⟩
    rw [hz] at hz4 e0 e1 e2 s4 hpq ⊢
    refine hKK _ _ ?_
    clear hKK s0 s1 c0 c1 c2 c3 hw1
    gi_wp2
    refine range_outerQ (gf := 27) (lb := #[pbox z, pbox (z + 1)]) rfl (fun h => by simp [Fence.wide] at h) rfl trivial (enters_of Try.func27 (by kernel_rfl) rfl)
      (places_iter (n - 1) 0 z (z + 1) (D0 := fun _ => False) (w := w4) (fun k h => h.elim) HTb.out.1 HTb.out.2.1 HTb.out.2.2 HL.out hml (by have := HTL.out; have := HL.out; omega)) (Nat.zero_le _) (Below.refl _ _) (fun k h => h.elim) (fun _ => rfl)
      (InI w4) (InX w w4 (w.heap.size + 2) (hasP p tx)) InI.firm (InX.firm (by omega) (by omega)) (fun s E V ⟨_, m2, _⟩ => hpq.below m2) ⟨fun k h => h.elim, Below.refl _ _, rfl⟩
      (fun xx a' E W' => a' = { tmps := #[.agg #[.slice ta m tc, .slice ba m bc'], cellV ca cn cc x y k, .pointer (some ⟨ap, 0, none⟩), .pointer (some ⟨w.heap.size, 0, none⟩), .pointer (some ⟨w.heap.size + 1, 0, none⟩), undef, .pointer (some ⟨w.heap.size + 2, 0, none⟩), .agg #[.slice ta m tc, .slice ba m bc'], cellV ca cn cc x y k, .pointer (some ⟨ap, 0, none⟩), .slice a2 L d2, .func (.func 27) #[] #[pbox z, pbox (z + 1)], .int .i64 (xx : Int)], defers := [] })
      (fun x a' E V l r o h _ => h) ?assign ?body ?done ?stop
    case assign =>
      intro l' pre x' E V K hl' hi hE hK
      clear hz4 sz hz
      simp only [encN]
      gi_wp2
      refine hK _ E _ (fun k h => h) hE (Same.refl _ _) (Below.refl _ _) hi ?_
      simp
    case body =>
      rintro lo pre x' a' E V hEl ⟨r, hr⟩ hE ⟨m1, m2, rfl⟩ rfl hN
      have bV := (m2.block _ (show w.heap.size + 2 < w4.heap.size by omega)).trans b4
      have c2V : V.cell? ⟨w.heap.size + 2, 0, none⟩ = some (.bool false) := (cell_at bV 0).trans rfl
      have zz := unfrozen bV 0
      have hs := m2.size
      have hw4 : w.heap.size + 2 < w4.heap.size := by omega
      have hhas : hasP p tx = true := by
        unfold hasP
        cases h : allOf p tx with
        | nil => rw [h] at hN; simp at hN
        | cons a b => rfl
      clear hz4 sz sV s4 hz bV b4 e0 e1 e2 hpq hrd
      gi_wp2
      exact ⟨fun k hk => heap_set_other (by have := m1 k hk; omega), rfl, m1, (hbw.trans (m2.mono hbw.size)).setCell (p := ⟨w.heap.size + 2, 0, none⟩) (by show w.heap.size ≤ w.heap.size + 2; omega) _, by rw [World.size_setCell]; exact hs, World.cell?_setCell_same' _ _ _ (by rw [c2V]; rfl), hhas⟩
    case done =>
      rintro d ys E W3 hd hEd hys ⟨m1, m2, rfl⟩ hK
      have hF : hasP p tx = false := by unfold hasP; rw [← hys]; rfl
      have bV := (m2.block _ (show w.heap.size + 2 < w4.heap.size by omega)).trans b4
      have c2V : W3.cell? ⟨w.heap.size + 2, 0, none⟩ = some (.bool false) := (cell_at bV 0).trans rfl
      have zz := unfrozen bV 0
      have hK5 : (W3.setCell ⟨w.heap.size + 2, 0, none⟩ (.bool false)).heap[d]? = some (.deferred (some [])) := (heap_set_other (show d ≠ w.heap.size + 2 by omega)).trans hK
      have HK5 := Lib.hid hK5
      have HF := Lib.hid hF
      have hdg : w.heap.size ≤ d := by omega
      clear hK hK5 hz4 sz sV s4 hz bV b4 e0 e1 e2 hpq hF hys hrd
      gi_wp2
      refine ⟨by simp, .inl ⟨_, _, rfl, run_takeDeferred HK5.out, ?_⟩⟩
      have q1 : (W3.setCell ⟨w.heap.size + 2, 0, none⟩ (.bool false)).cell? ⟨w.heap.size + 2, 0, none⟩ = some (.bool false) := World.cell?_setCell_same' _ _ _ (by rw [c2V]; rfl)
      have q0 : ((W3.setCell ⟨w.heap.size + 2, 0, none⟩ (.bool false)).putObj d (.deferred none)).cell? ⟨w.heap.size + 2, 0, none⟩ = some (.bool false) := cell_kept q1 (grownBy_putObj' _ d (.deferred none)) (fun r e => by cases e; exact ⟨_, HK5.out, rfl⟩)
      exact ⟨.bool false, by simp [results, Try.results50, go_sem, q0], by rw [HF.out], ((hbw.trans (m2.mono hbw.size)).setCell (p := ⟨w.heap.size + 2, 0, none⟩) (by show w.heap.size ≤ w.heap.size + 2; omega) _).grown (grownBy_putObj' _ d (.deferred none)) (by rw [World.size_setCell]; have := m2.size; have := hbw.size; omega) (fun k e => by cases e; exact hdg)⟩
    case stop =>
      rintro d c pre E W3 hd hEd hSp ⟨rfl, m1, m2, m3, m4, m5⟩ hK
      have hdg : w.heap.size ≤ d := by omega
      have HF := Lib.hid m5
      clear hz4 sz sV s4 hz b4 e0 e1 e2 hpq m5 hrd
      gi_wp2
      refine ⟨by simp, .inl ⟨_, _, rfl, run_takeDeferred hK, ?_⟩⟩
      have m4' : (W3.putObj d (.deferred none)).cell? ⟨w.heap.size + 2, 0, none⟩ = some (.bool true) := cell_kept m4 (grownBy_putObj' W3 d (.deferred none)) (fun r e => by cases e; exact ⟨_, hK, rfl⟩)
      have ms := m2.size
      exact ⟨.bool true, by simp [results, Try.results50, go_sem, m4'], by rw [HF.out], m2.grown (grownBy_putObj' W3 d _) ms (fun k e => by cases e; exact hdg)⟩
  clear hKK
  have hb0 : Below w1.heap.size w1 w1.drew := (Below.refl _ _).drew
  have hzA : w.heap.size < w1.heap.size := by omega
  refine wpIn_mono (Q := Exit.then KK (fun _ _ _ => False)) ?_ (fun e a W h => by cases e <;> first | exact h | exact h.elim)
  gi_region_with_o (first
    | (refine ⟨trivial, (fun h => by simp [Fence.wide] at h), ((callsIn_wide (n := n - 1)).2 (HBy.out _ hb0)).mono ?_⟩; rintro e V ⟨a2, d2, rfl, ho2, hbV⟩; rw [hL] at ho2 ⊢
       have hbV1 := hb0.trans (hbV.mono hb0.size)
       have hrdV := t_rd ho2
       have s0V := (hbV1.cell (p := ⟨w.heap.size, 0, none⟩) hzA).trans s0
       have s1V := (hbV1.cell (p := ⟨w.heap.size, 1, none⟩) hzA).trans s1)
    | (refine ⟨trivial, (fun h => by simp [Fence.wide] at h), ((callsIn_wide (n := n - 1)).2 (places_call ta ba a2 m tc bc' L d2)).mono ?_⟩; rintro e w4 ⟨rfl, hb4, hz4, e0, e1, e2⟩))
  all_goals (exact key _ _ _ _ hbV1 hrdV hb4 hz4 e0 e1 e2)

end Go.Proofs.Ytkgakgceamafcaa
