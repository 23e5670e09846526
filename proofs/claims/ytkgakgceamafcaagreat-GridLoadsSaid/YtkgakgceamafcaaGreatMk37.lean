/-
  Texts of this seat, put together (a claim holds few texts): FdE, FdF, FdI.
-/
import Derived.Test.YtkgakgceamafcaaGreatMk36
import Derived.Maps.OwnIn

namespace Go.Proofs.YtkgakgceamafcaaGreat
open Go Go.RowKit Go.Shelf
set_option linter.unusedVariables false
attribute [local go_sem] Oper.semAt_some

theorem own_moves {W W' : World} {B s n : Nat} {e : TypeId} {v : Value} {xs : List Value} (h : W.ownsRow B e s v n xs) (hb : ∀ g, v.ownBlock = some g → W'.heap[g]? = W.heap[g]?) : W'.ownsRow B e s v n xs := by
  refine ⟨h.1, ?_⟩
  rcases h.2 with hn | ⟨g, cap, cur, he, h1, h2, rest⟩
  · exact .inl hn
  · exact .inr ⟨g, cap, cur, he, h1, (hb g (by rw [he]; rfl)).trans h2, rest⟩
theorem own_blt {W : World} {B s n g : Nat} {e : TypeId} {v : Value} {xs : List Value} (h : W.ownsRow B e s v n xs) (hg : v.ownBlock = some g) : B ≤ g ∧ g < W.heap.size := by
  rcases h.2 with ⟨hn, _⟩ | ⟨g', cap, cur, he, h1, h2, _⟩
  · rw [hn] at hg; cases hg
  · rw [he] at hg
    injection hg with hg
    subst hg
    exact ⟨h1, lt_of_at h2⟩
/-- What the loop that collects keeps: its box, and the row in it. -/
def CoI (w : World) (q : Nat) (s : List Nat) (E : Bls) (W : World) : Prop :=
  ∃ (a : Option Addr) (c : Nat), (∀ k, E k → w.heap.size ≤ k ∧ k ≠ q ∧ (Value.slice a s.length c).ownBlock ≠ some k) ∧ Below w.heap.size w W ∧ W.heap[q]? = some (.cells #[.slice a s.length c] 157 (0, 0)) ∧ W.ownsRow w.heap.size 3 1 (.slice a s.length c) s.length (ib s)
theorem CoI.firm {w : World} {q : Nat} : Firm (CoI w q) := by
  rintro s D D' W W' ⟨a, c, h1, h2, h3, h4⟩ hm hd
  have hq := lt_of_at h3
  have hs := h2.size
  refine ⟨a, c, fun k hk => (hd k hk).elim (h1 k) (fun h => ⟨by omega, by omega, fun e => by have := (own_blt h4 e).2; omega⟩), ⟨hm.os.trans h2.os, hm.tape.trans h2.tape, hm.output.trans h2.output, Nat.le_trans h2.size hm.size, fun k hk => (hm.block k (by omega) (fun h => by have := (h1 k h).1; omega)).trans (h2.block k hk)⟩, (hm.block q hq (fun h => (h1 q h).2.1 rfl)).trans h3, own_moves h4 (fun g hg => hm.block g (own_blt h4 hg).2 (fun h => (h1 g h).2.2 hg))⟩

set_option maxRecDepth 100000 in
set_option maxHeartbeats 4000000 in
theorem appendseq_of (n : Nat) {w : World} {gf : Nat} {lb : Array Value} {A : List Nat} (hA : A.length ≤ 1000000) (eg : ∀ args w, (callFunc gf args).run Tryz.prog w = .ok (.enter gf args) w)
    {Qr : World → Prop} (hQr : ∀ W, Below w.heap.size w W → Qr W) (hseq : ∀ k w', IterQ Qr Fence.wide k Tryz.prog gf lb encN w.heap.size (fun ys => ys = A) (fun pre => pre <+: A) (fun pre x => A[pre.length]? = some x) (fun _ => False) w') :
    CallsIn Fence.wide n Tryz.prog 168 #[.slice none 0 0, .func (.func gf) #[] lb] w fun e w' => ∃ a c, e = .returned (.slice a A.length c) ∧ w'.ownsRow w.heap.size 3 1 (.slice a A.length c) A.length (ib A) ∧ Below w.heap.size w w' := by
  obtain ⟨i0, hi0, hz0, hz1, hz2⟩ := info_parts info_i
  have hh := World.alloc_heap_new w (Obj.cells #[.slice none 0 0] 157)
  have al := t_al w (Obj.cells #[.slice none 0 0] 157)
  obtain ⟨w1, hw1⟩ : ∃ w1, w.alloc (Obj.cells #[.slice none 0 0] 157) = w1 := ⟨_, rfl⟩
  have hsz : (w.alloc (Obj.cells #[.slice none 0 0] 157)).heap.size = w.heap.size + 1 := by simp
  rw [hw1] at hh al hsz
  refine callsIn_of_wp_marks Tryz.func168 rfl trivial ?_ rfl
  simp only [Tryz.ntmps168, List.size_toArray, List.length_cons, List.length_nil, Nat.reduceAdd, Nat.reduceSub, Array.replicate_succ, Array.replicate_zero, List.push_toArray, List.append_toArray, List.nil_append, List.cons_append]
  gi_wp2
  obtain ⟨q, hq⟩ : ∃ q, w.heap.size = q := ⟨_, rfl⟩
  have HQ := Lib.hid hq
  clear hw1
  refine range_outerQ (gf := gf) (lb := lb) rfl (fun h => by simp [Fence.wide] at h) rfl trivial eg
    (hseq (n - 1) w1) al.size (Below.refl _ _) (fun k h => h.elim) (fun _ => rfl)
    (CoI w q) (fun _ _ _ _ => False) CoI.firm (fun _ _ _ _ _ _ h _ _ => h) (fun s E V ⟨_, _, _, m2, _⟩ => hQr V m2) ⟨none, 0, fun k h => h.elim, al, by rw [← hq]; exact hh, ⟨rfl, .inl ⟨rfl, rfl⟩⟩⟩
    (fun x a' E W' => a' = { tmps := #[.slice none 0 0, .func (.func gf) #[] lb, pbox q, undef, .slice none 0 0, .int .i64 (x : Int), .func (.func gf) #[] lb, .int .i64 (x : Int), undef, undef, undef, undef, undef], defers := [] })
    (fun x a' E V l r o h _ => h) ?assign ?body ?done ?stop
  case assign =>
    intro l' pre x E V K hl' hi hE hK
    simp only [encN]
    gi_wp2
    exact hK _ E _ (fun k h => h) hE (Same.refl _ _) (Below.refl _ _) hi rfl
  case body =>
    rintro lo pre x a' E V hEl ⟨r, hr⟩ hE ⟨a, c, m1, m2, m3, m4⟩ rfl hN
    have hkl : pre.length < A.length := (List.getElem?_eq_some_iff.1 hN).1
    obtain ⟨k, hk⟩ : ∃ k, pre.length = k := ⟨_, rfl⟩
    have HK := Lib.hid hk
    rw [hk] at m1 m3 m4 hkl
    have ms := m2.size
    have hqV := lt_of_at m3
    have m3' := ((t_al V (Obj.cells #[.int .i64 (x : Int)] 3)).block q hqV).trans m3
    have b0 : V.cell? ⟨q, 0, none⟩ = some (.slice a k c) := (cell_at m3 0).trans rfl
    have M1 := Lib.hid m1
    have M2 := Lib.hid m2
    have M3 := Lib.hid m3
    have M4 := Lib.hid m4
    have C3 : Hid (k + 1 ≤ maxLen) := by show _ ≤ _; unfold maxLen; omega
    have C4 : Hid ((k + 1) * 8 ≤ 140737488355328) := by show _ ≤ _; omega
    have C5 : Hid (w.heap.size ≤ (V.alloc (Obj.cells #[.int .i64 (x : Int)] 3)).heap.size) := by show _ ≤ _; rw [World.size_alloc]; omega
    have M3' := Lib.hid m3'
    clear m1 m2 m3 m4 m3' hk hr hN hh al hseq hq
    gi_wp2_with (gi_at_builtin; refine wpListIn_append_own_at _ rfl (.tmp 8) (.tmp 10) 157 rfl w.heap.size 3 i0 (.int .i64 0) 1 8 Tryz.underlying157 hi0 hz0 hz1 hz2 rfl (by decide) (.slice a k c) k (ib pre) rfl (M4.out.alloc _) ⟨V.heap.size, 0, none⟩ 1 1 [.int .i64 (x : Int)] rfl rfl (c1_one V _ _) (c2_one _ rfl) C3.out C4.out C5.out ?_)
    intro v5 W5 ho5 hg5 _ hat5
    obtain ⟨g5, c5, rfl, hB5, hl5⟩ := ho5.form (by omega)
    have hqe : (Value.slice a k c).ownBlock ≠ some q := own_ne M4.out M3.out (by decide)
    have hq5 := (hg5.block q (by rw [World.size_alloc]; omega) (fun e => hqe e.symm)).trans M3'.out
    have b5 : W5.cell? ⟨q, 0, none⟩ = some (.slice a k c) := (cell_at hq5 0).trans rfl
    have z5 := unfrozen hq5 0
    have hg5q : g5 ≠ q := fun e => own_ne ho5 hq5 (by decide) (by rw [e]; rfl)
    have H5 := Lib.hid (And.intro ho5 (And.intro hg5 (And.intro hat5 (And.intro hq5 hg5q))))
    clear ho5 hg5 hat5 hq5 hqe hg5q M3'
    gi_wp2
    have hz5 := H5.out.2.1.size
    rw [World.size_alloc] at hz5
    have hgE : ∀ k', E k' → k' ≠ g5 := fun k' hk' e => by
      have h1 := hE k' hk'
      rcases H5.out.2.2.1 with h | h
      · exact (M1.out k' hk').2.2 (by rw [← h, e]; rfl)
      · simp only [Value.ownBlock, Option.some.injEq] at h; omega
    have hst : ∀ k', k' < V.heap.size → (Value.slice a k c).ownBlock ≠ some k' → k' ≠ q → (W5.setCell ⟨q, 0, none⟩ (.slice (some ⟨g5, 0, none⟩) (k + 1) c5)).heap[k']? = V.heap[k']? := fun k' h1 h2 h3 =>
      (heap_set_other h3).trans ((H5.out.2.1.block k' (by rw [World.size_alloc]; omega) (fun e => h2 e.symm)).trans ((t_al V _).block k' h1))
    have hB : Below w.heap.size V (W5.setCell ⟨q, 0, none⟩ (.slice (some ⟨g5, 0, none⟩) (k + 1) c5)) :=
      (((t_al V (Obj.cells #[.int .i64 (x : Int)] 3)).mono ms).grown H5.out.2.1 C5.out (fun k' hk' => ((M4.out.alloc (Obj.cells #[.int .i64 (x : Int)] 3)).lt k' hk').1)).setCell (p := ⟨q, 0, none⟩) (by show w.heap.size ≤ q; rw [HQ.out]; exact Nat.le_refl _) _
    refine ⟨fun k' hk' => hst k' (hE k' hk') (M1.out k' hk').2.2 (M1.out k' hk').2.1, hB, some ⟨g5, 0, none⟩, c5, fun k' hk' => ⟨(M1.out k' hk').1, (M1.out k' hk').2.1, fun e => by injection e with e; exact hgE k' hk' e.symm⟩, M2.out.trans hB, ?_, ?_⟩
    · rw [List.length_append, HK.out]; exact heap_set_at H5.out.2.2.2.1
    · rw [List.length_append, HK.out, ib_app]; exact own_set H5.out.1 (own_ne H5.out.1 H5.out.2.2.2.1 (by decide))
  case done =>
    rintro d ys E W3 hd hEd rfl ⟨a, c, m1, m2, m3, m4⟩ hK
    obtain ⟨k, hk⟩ : ∃ k, ys.length = k := ⟨_, rfl⟩
    have HK := Lib.hid hk
    rw [hk] at m1 m3 m4
    rw [← hq] at m3
    have b0 : W3.cell? ⟨w.heap.size, 0, none⟩ = some (.slice a k c) := (cell_at m3 0).trans rfl
    have HM := Lib.hid (And.intro m1 (And.intro m2 m4))
    have ms := m2.size
    clear m1 m2 m3 m4 hk hh al hseq hq
    gi_wp2
    refine ⟨by simp, .inl ⟨_, _, rfl, run_takeDeferred hK, ?_⟩⟩
    refine ⟨_, results_tmp rfl _ _ _, a, c, by rw [HK.out]; rfl, by rw [HK.out]; exact own_moves HM.out.2.2 (fun g hg => World.putObj_heap_other (fun e => (HM.out.1 d hEd).2.2 (by rw [hg, e]))), HM.out.2.1.grown (grownBy_putObj' W3 d _) ms (fun k e => by cases e; exact (HM.out.1 d hEd).1)⟩
  case stop =>
    rintro d c pre E W3 hd hEd hSp h hK
    exact h.elim

set_option maxRecDepth 100000 in
set_option maxHeartbeats 2000000 in
theorem collect_of (n : Nat) {w : World} {gf : Nat} {lb : Array Value} {A : List Nat} (hA : A.length ≤ 1000000) (eg : ∀ args w, (callFunc gf args).run Tryz.prog w = .ok (.enter gf args) w)
    {Qr : World → Prop} (hQr : ∀ W, Below w.heap.size w W → Qr W) (hseq : ∀ k w', IterQ Qr Fence.wide k Tryz.prog gf lb encN w.heap.size (fun ys => ys = A) (fun pre => pre <+: A) (fun pre x => A[pre.length]? = some x) (fun _ => False) w') :
    Calls Tryz.prog 136 #[.func (.func gf) #[] lb] w fun e w' => ∃ a c, e = .returned (.slice a A.length c) ∧ w'.ownsRow w.heap.size 3 1 (.slice a A.length c) A.length (ib A) ∧ Below w.heap.size w w' := by
  have HC := Lib.hid ((callsIn_wide (n := 0)).1 (appendseq_of 0 hA eg hQr hseq))
  clear hseq
  go_enter Tryz.func136, Tryz.ntmps136
  go_wp2_with fail
  refine HC.out.mono ?_; rintro e w2 ⟨a, c, rfl, h1, h2⟩
  have H := Lib.hid (And.intro h1 h2)
  clear h1 h2
  go_wp2_with fail
  go_ret
  exact ⟨a, c, rfl, H.out.1, H.out.2⟩

theorem own_mono9 {w : World} {B B' s n : Nat} {e : TypeId} {v : Value} {xs : List Value} (h : w.ownsRow B' e s v n xs) (hB : B ≤ B') : w.ownsRow B e s v n xs := by
  refine ⟨h.1, ?_⟩
  rcases h.2 with hn | ⟨g, cap, cur, he, h1, rest⟩
  · exact .inl hn
  · exact .inr ⟨g, cap, cur, he, Nat.le_trans hB h1, rest⟩
theorem all_len (p b : List UInt8) : (allOf p b).length ≤ b.length := by
  rw [all_eq]
  have := List.length_filter_le (atP p b) (List.range b.length)
  rw [List.length_range] at this
  exact this
theorem apart_len (m : Nat) : ∀ (l : List Nat) (e : Nat), (apart m e l).length ≤ l.length
  | [], e => Nat.le_refl _
  | x :: l, e => by
    show (if x < e then apart m e l else x :: apart m (x + m) l).length ≤ _
    have h1 := apart_len m l e
    have h2 := apart_len m l (x + m)
    split
    · rw [List.length_cons]; omega
    · rw [List.length_cons, List.length_cons]; omega

set_option maxRecDepth 100000 in
set_option maxHeartbeats 2000000 in
theorem every_of {w : World} {p b : List UInt8} {ta sa : Option Addr} {m tc L sc : Nat} (hb : Rd w 1 sa b.length (bc b)) (hp : Rd w 1 ta p.length (bc p)) (hL : b.length = L) (hm : p.length = m) (hml : m ≤ 100000) (hll : L ≤ 100000) :
    Calls Tryz.prog 84 #[.slice sa L sc, .slice ta m tc] w fun e w' => ∃ a c, e = .returned (.slice a (allOf p b).length c) ∧ w'.ownsRow w.heap.size 3 1 (.slice a (allOf p b).length c) (allOf p b).length (ib (allOf p b)) ∧ Below w.heap.size w w' := by
  have HSe := Lib.hid (seek_of (tc := tc) hp hm hml)
  have HB := Lib.hid hb
  have HP := Lib.hid hp
  have HL := Lib.hid hL
  have HM := Lib.hid hm
  clear hb hp hL hm
  go_enter Tryz.func84, Tryz.ntmps84
  go_wp2_with fail
  refine HSe.out.mono ?_; rintro e w1 ⟨bs, ba, bc', rfl, h1, h2, h3, hba, hb1⟩
  have HT := Lib.hid (And.intro h1 (And.intro h2 (And.intro h3 (And.intro hba hb1))))
  have HPl := Lib.hid (places_call (w := w1) ta ba sa m tc bc' L sc)
  clear h1 h2 h3 hba hb1 HSe
  go_wp2_with fail
  refine HPl.out.mono ?_; rintro e w2 ⟨rfl, hb2, hz2, e0, e1, e2⟩
  have hbw := HT.out.2.2.2.2.trans (hb2.mono HT.out.2.2.2.2.size)
  have s1 := HT.out.2.2.2.2.size
  have s2 := hb2.size
  have hpq : PlQ w1.heap.size (w1.heap.size + 1) p b ta ba sa tc m bc' L sc bs w2 := ⟨e0, e1, e2, by omega, by omega, HP.out.below hbw, HT.out.2.2.1.below hb2, HB.out.below hbw⟩
  have hA : (allOf p b).length ≤ 1000000 := by have h1 := all_len p b; have h0 := HL.out; omega
  have HCo := Lib.hid (collect_of 0 (w := w2) (gf := 169) (lb := #[pbox w1.heap.size, pbox (w1.heap.size + 1)]) hA (enters_of Tryz.func169 (by kernel_rfl) rfl)
    (Qr := PlQ w1.heap.size (w1.heap.size + 1) p b ta ba sa tc m bc' L sc bs) (fun V hb' => hpq.below hb') (fun k w' => places_iter k w2.heap.size w1.heap.size (w1.heap.size + 1) (D0 := fun _ => False) (w := w') (fun _ h => h.elim) HT.out.2.1 HM.out HT.out.1 HL.out hml (by omega)))
  have HBW := Lib.hid hbw
  clear hb2 hz2 e0 e1 e2 hbw hpq s1 s2 hA
  go_wp2_with fail
  refine HCo.out.mono ?_; rintro e w3 ⟨a, c, rfl, ho, hb3⟩
  have H3 := Lib.hid (And.intro ho hb3)
  obtain ⟨N, hN⟩ : ∃ N, (allOf p b).length = N := ⟨_, rfl⟩
  rw [hN] at H3
  clear ho hb3
  go_wp2_with fail
  go_ret
  exact ⟨a, c, by rw [hN]; rfl, by rw [hN]; exact own_mono9 H3.out.1 HBW.out.size, HBW.out.trans (H3.out.2.mono HBW.out.size)⟩

set_option maxRecDepth 100000 in
set_option maxHeartbeats 2000000 in
theorem apart_of {w : World} {p b : List UInt8} {ta sa : Option Addr} {m tc L sc : Nat} (hb : Rd w 1 sa b.length (bc b)) (hp : Rd w 1 ta p.length (bc p)) (hL : b.length = L) (hm : p.length = m) (hml : m ≤ 100000) (hll : L ≤ 100000) :
    Calls Tryz.prog 85 #[.slice sa L sc, .slice ta m tc] w fun e w' => ∃ a c, e = .returned (.slice a (apart m 0 (allOf p b)).length c) ∧ w'.ownsRow w.heap.size 3 1 (.slice a (apart m 0 (allOf p b)).length c) (apart m 0 (allOf p b)).length (ib (apart m 0 (allOf p b))) ∧ Below w.heap.size w w' := by
  have HSe := Lib.hid (seek_of (tc := tc) hp hm hml)
  have HB := Lib.hid hb
  have HP := Lib.hid hp
  have HL := Lib.hid hL
  have HM := Lib.hid hm
  clear hb hp hL hm
  go_enter Tryz.func85, Tryz.ntmps85
  go_wp2_with fail
  refine HSe.out.mono ?_; rintro e w1 ⟨bs, ba, bc', rfl, h1, h2, h3, hba, hb1⟩
  have HT := Lib.hid (And.intro h1 (And.intro h2 (And.intro h3 (And.intro hba hb1))))
  have HPl := Lib.hid (apart_call (w := w1) ta ba sa m tc bc' L sc)
  clear h1 h2 h3 hba hb1 HSe
  go_wp2_with fail
  refine HPl.out.mono ?_; rintro e w2 ⟨rfl, hb2, hz2, e0, e1, e2⟩
  have hbw := HT.out.2.2.2.2.trans (hb2.mono HT.out.2.2.2.2.size)
  have s1 := HT.out.2.2.2.2.size
  have s2 := hb2.size
  have hpq : PlQ w1.heap.size (w1.heap.size + 1) p b ta ba sa tc m bc' L sc bs w2 := ⟨e0, e1, e2, by omega, by omega, HP.out.below hbw, HT.out.2.2.1.below hb2, HB.out.below hbw⟩
  have hA : (apart m 0 (allOf p b)).length ≤ 1000000 := by have h1 := all_len p b; have h2 := apart_len m (allOf p b) 0; have h0 := HL.out; omega
  have HCo := Lib.hid (collect_of 0 (w := w2) (gf := 167) (lb := #[pbox w1.heap.size, pbox (w1.heap.size + 1)]) hA (enters_of Tryz.func167 (by kernel_rfl) rfl)
    (Qr := PlQ w1.heap.size (w1.heap.size + 1) p b ta ba sa tc m bc' L sc bs) (fun V hb' => hpq.below hb') (fun k w' => apart_iter k w2.heap.size w1.heap.size (w1.heap.size + 1) (D0 := fun _ => False) (w := w') (fun _ h => h.elim) HT.out.2.1 HM.out HT.out.1 HL.out hml (by omega)))
  have HBW := Lib.hid hbw
  clear hb2 hz2 e0 e1 e2 hbw hpq s1 s2 hA
  go_wp2_with fail
  refine HCo.out.mono ?_; rintro e w3 ⟨a, c, rfl, ho, hb3⟩
  have H3 := Lib.hid (And.intro ho hb3)
  obtain ⟨N, hN⟩ : ∃ N, (apart m 0 (allOf p b)).length = N := ⟨_, rfl⟩
  rw [hN] at H3
  clear ho hb3
  go_wp2_with fail
  go_ret
  exact ⟨a, c, by rw [hN]; rfl, by rw [hN]; exact own_mono9 H3.out.1 HBW.out.size, HBW.out.trans (H3.out.2.mono HBW.out.size)⟩

end Go.Proofs.YtkgakgceamafcaaGreat

namespace Go.Proofs.YtkgakgceamafcaaGreat
open Go Go.RowKit Go.Shelf
set_option linter.unusedVariables false
attribute [local go_sem] Oper.semAt_some

/-- The first place that is not below a number. -/
def fstL (n : Int) : List Nat → Int
  | [] => -1
  | x :: l => if n ≤ (x : Int) then (x : Int) else fstL n l
theorem fst_hit {n : Int} : ∀ {A : List Nat} {k x : Nat}, A[k]? = some x → (∀ i y, i < k → A[i]? = some y → ¬ n ≤ (y : Int)) → n ≤ (x : Int) → fstL n A = x
  | [], k, x, h, _, _ => by simp at h
  | y :: l, 0, x, h, _, hx => by
    obtain rfl : y = x := by simpa using h
    show (if n ≤ (y : Int) then (y : Int) else _) = _
    rw [if_pos hx]
  | y :: l, k + 1, x, h, hno, hx => by
    have h0 := hno 0 y (by omega) rfl
    show (if n ≤ (y : Int) then (y : Int) else fstL n l) = _
    rw [if_neg h0]
    exact fst_hit (by simpa using h) (fun i z hi hz => hno (i + 1) z (by omega) (by simpa using hz)) hx
theorem fst_miss {n : Int} : ∀ {A : List Nat}, (∀ (i : Nat) y, A[i]? = some y → ¬ n ≤ (y : Int)) → fstL n A = -1
  | [], _ => rfl
  | y :: l, h => by
    show (if n ≤ (y : Int) then (y : Int) else fstL n l) = _
    rw [if_neg (h 0 y rfl)]
    exact fst_miss (fun i z hz => h (i + 1) z (by simpa using hz))
def FsI (A : List Nat) (w4 : World) (n : Int) (s : List Nat) (E : Bls) (W : World) : Prop :=
  (∀ k, E k → w4.heap.size ≤ k) ∧ Below w4.heap.size w4 W ∧ ∀ i y, i < s.length → A[i]? = some y → ¬ n ≤ (y : Int)
theorem FsI.firm {A : List Nat} {w4 : World} {n : Int} : Firm (FsI A w4 n) := by
  rintro s D D' W W' ⟨h1, h2, h3⟩ hm hd
  have hs := h2.size
  exact ⟨fun k hk => (hd k hk).elim (h1 k) (fun h => by omega), ⟨hm.os.trans h2.os, hm.tape.trans h2.tape, hm.output.trans h2.output, Nat.le_trans h2.size hm.size, fun k hk => (hm.block k (by omega) (fun h => by have := h1 k h; omega)).trans (h2.block k hk)⟩, h3⟩
def FsX (w w4 : World) (q : Nat) (F : Int) (c : Code) (s : List Nat) (E : Bls) (W : World) : Prop :=
  c = .ret ∧ (∀ k, E k → w4.heap.size ≤ k) ∧ Below w.heap.size w W ∧ w4.heap.size ≤ W.heap.size ∧ W.cell? ⟨q, 0, none⟩ = some (.int .i64 F)
theorem FsX.firm {w w4 : World} {q : Nat} {F : Int} (hw : w.heap.size ≤ w4.heap.size) (hq : q < w4.heap.size) (c : Code) : Firm (FsX w w4 q F c) := by
  rintro s D D' W W' ⟨h0, h1, h2, hs, h3⟩ hm hd
  refine ⟨h0, fun k hk => (hd k hk).elim (h1 k) (fun h => by omega), ⟨hm.os.trans h2.os, hm.tape.trans h2.tape, hm.output.trans h2.output, Nat.le_trans h2.size hm.size, fun k hk => (hm.block k (by omega) (fun h => by have := h1 k h; omega)).trans (h2.block k hk)⟩, Nat.le_trans hs hm.size, (hm.cell (b := q) (o := 0) (by omega) (fun h => by have := h1 q h; omega)).trans h3⟩

/-- The last place ahead of the first one that is not below a number. -/
def lstP (n : Int) : Int → List Nat → Int
  | c, [] => c
  | c, x :: l => if n ≤ (x : Int) then c else lstP n (x : Int) l
/-- The last one of a row. -/
def lastN : List Nat → Int
  | [] => -1
  | [x] => (x : Int)
  | _ :: y :: l => lastN (y :: l)
theorem lastN_snoc (x : Nat) : ∀ l : List Nat, lastN (l ++ [x]) = (x : Int)
  | [] => rfl
  | [_] => rfl
  | _ :: y :: l => lastN_snoc x (y :: l)
theorem lst_go {n : Int} : ∀ (A pre : List Nat) (c : Int), pre <+: A → (∀ y ∈ pre, ¬ n ≤ (y : Int)) → lstP n c A = lstP n (if pre = [] then c else lastN pre) (A.drop pre.length)
  | A, [], c, _, _ => rfl
  | [], x :: pre, c, h, _ => by simp at h
  | y :: A, x :: pre, c, h, hn => by
    obtain ⟨rfl, h2⟩ := List.cons_prefix_cons.1 h
    have hx := hn x List.mem_cons_self
    show (if n ≤ (x : Int) then c else lstP n (x : Int) A) = _
    rw [if_neg hx, lst_go A pre x h2 (fun z hz => hn z (List.mem_cons_of_mem _ hz)), if_neg (List.cons_ne_nil _ _), List.length_cons, List.drop_succ_cons]
    cases pre with
    | nil => rfl
    | cons z pre => rw [if_neg (List.cons_ne_nil _ _)]; rfl
theorem lst_stop {n : Int} {A pre : List Nat} {x : Nat} (h : pre <+: A) (hx : A[pre.length]? = some x) (hn : ∀ y ∈ pre, ¬ n ≤ (y : Int)) (hx2 : n ≤ (x : Int)) : lstP n (-1) A = lastN pre := by
  have hk := (List.getElem?_eq_some_iff.1 hx)
  rw [lst_go A pre (-1) h hn, List.drop_eq_getElem_cons hk.1]
  show (if n ≤ ((A[pre.length]'hk.1 : Nat) : Int) then _ else _) = _
  rw [hk.2, if_pos hx2]
  cases pre with
  | nil => rfl
  | cons z pre => rfl
theorem lst_all {n : Int} {A : List Nat} (hn : ∀ y ∈ A, ¬ n ≤ (y : Int)) : lstP n (-1) A = lastN A := by
  rw [lst_go A A (-1) (List.prefix_refl _) hn, List.drop_length]
  cases A with
  | nil => rfl
  | cons z A => rfl
theorem rd_moves {w W : World} {D : Bls} {s n : Nat} {a : Option Addr} {xs : List Value} (h : Rd w s a n xs) (hm : Moves D w W) (hd : ∀ d, a = some d → ¬ D d.block) : Rd W s a n xs := by
  refine ⟨h.1, fun hx => ?_⟩
  obtain ⟨g, off, rfl, hg, hc⟩ := h.2 hx
  exact ⟨g, off, rfl, Nat.lt_of_lt_of_le hg hm.size, fun j u hj => (hm.cell (b := g) (o := off + j) hg (hd ⟨g, off, none⟩ rfl)).trans (hc j u hj)⟩
theorem PlQ.moves {D : Bls} {B1 B2 : Nat} {p b : List UInt8} {ta ba sa : Option Addr} {tc m bc' L sc : Nat} {bs : List Nat} {w W : World} (h : PlQ B1 B2 p b ta ba sa tc m bc' L sc bs w) (hm : Moves D w W) (h1 : ¬ D B1) (h2 : ¬ D B2) (ht : ∀ d, ta = some d → ¬ D d.block) (hb : ∀ d, ba = some d → ¬ D d.block) (hs : ∀ d, sa = some d → ¬ D d.block) : PlQ B1 B2 p b ta ba sa tc m bc' L sc bs W :=
  ⟨(hm.cell h.lt1 h1).trans h.c0, (hm.cell h.lt1 h1).trans h.c1, (hm.cell h.lt2 h2).trans h.c2, Nat.lt_of_lt_of_le h.lt1 hm.size, Nat.lt_of_lt_of_le h.lt2 hm.size, rd_moves h.txt hm ht, rd_moves h.rd hm hb, rd_moves h.byt hm hs⟩
def LsI (A : List Nat) (w4 : World) (q : Nat) (n : Int) (s : List Nat) (E : Bls) (W : World) : Prop :=
  (∀ k, E k → w4.heap.size ≤ k) ∧ Moves (fun k => k = q) w4 W ∧ W.heap[q]? = some (.cells #[.int .i64 (lastN s)] 3 (0, 0)) ∧ s <+: A ∧ ∀ y ∈ s, ¬ n ≤ (y : Int)
theorem Moves.more {D E : Bls} {w W W' : World} (h : Moves D w W) (hm : Moves E W W') (hd : ∀ k, k < w.heap.size → E k → D k) : Moves D w W' :=
  ⟨hm.os.trans h.os, hm.tape.trans h.tape, hm.output.trans h.output, Nat.le_trans h.size hm.size, fun k hk hn => (hm.block k (Nat.lt_of_lt_of_le hk h.size) (fun e => hn (hd k hk e))).trans (h.block k hk hn)⟩
theorem LsI.firm {A : List Nat} {w4 : World} {q : Nat} {n : Int} (hq : q < w4.heap.size) : Firm (LsI A w4 q n) := by
  rintro s D D' W W' ⟨h1, h2, h3, h4⟩ hm hd
  have hs := h2.size
  exact ⟨fun k hk => (hd k hk).elim (h1 k) (fun h => by omega), h2.more hm (fun k hk h => by have := h1 k h; omega), (hm.block q (lt_of_at h3) (fun h => by have := h1 q h; omega)).trans h3, h4⟩
def LsX (w4 : World) (q : Nat) (F : Int) (id : Nat) (c : Code) (s : List Nat) (E : Bls) (W : World) : Prop :=
  c = .exit id ∧ (∀ k, E k → w4.heap.size ≤ k) ∧ Moves (fun k => k = q) w4 W ∧ W.heap[q]? = some (.cells #[.int .i64 F] 3 (0, 0))
theorem LsX.firm {w4 : World} {q id : Nat} {F : Int} (hq : q < w4.heap.size) (c : Code) : Firm (LsX w4 q F id c) := by
  rintro s D D' W W' ⟨h0, h1, h2, h3⟩ hm hd
  have hs := h2.size
  exact ⟨h0, fun k hk => (hd k hk).elim (h1 k) (fun h => by omega), h2.more hm (fun k hk h => by have := h1 k h; omega), (hm.block q (lt_of_at h3) (fun h => by have := h1 q h; omega)).trans h3⟩

end Go.Proofs.YtkgakgceamafcaaGreat

namespace Go.Proofs.YtkgakgceamafcaaGreat
open Go Go.RowKit Go.Shelf
set_option linter.unusedVariables false
attribute [local go_sem] Oper.semAt_some

/-- Has a text the other one? -/
def hasP (p t : List UInt8) : Bool := !(allOf p t).isEmpty
def InI (w4 : World) (s : List Nat) (E : Bls) (W : World) : Prop := (∀ k, E k → w4.heap.size ≤ k) ∧ Below w4.heap.size w4 W ∧ s = []
theorem InI.firm {w4 : World} : Firm (InI w4) := by
  rintro s D D' W W' ⟨h1, h2, h3⟩ hm hd
  have hs := h2.size
  exact ⟨fun k hk => (hd k hk).elim (h1 k) (fun h => by omega), ⟨hm.os.trans h2.os, hm.tape.trans h2.tape, hm.output.trans h2.output, Nat.le_trans h2.size hm.size, fun k hk => (hm.block k (by omega) (fun h => by have := h1 k h; omega)).trans (h2.block k hk)⟩, h3⟩
def InX (w w4 : World) (q : Nat) (b : Bool) (c : Code) (s : List Nat) (E : Bls) (W : World) : Prop :=
  c = .ret ∧ (∀ k, E k → w4.heap.size ≤ k) ∧ Below w.heap.size w W ∧ w4.heap.size ≤ W.heap.size ∧ W.cell? ⟨q, 0, none⟩ = some (.bool true) ∧ b = true
theorem InX.firm {w w4 : World} {q : Nat} {b : Bool} (hw : w.heap.size ≤ w4.heap.size) (hq : q < w4.heap.size) (c : Code) : Firm (InX w w4 q b c) := by
  rintro s D D' W W' ⟨h0, h1, h2, hs, h3, h4⟩ hm hd
  refine ⟨h0, fun k hk => (hd k hk).elim (h1 k) (fun h => by omega), ⟨hm.os.trans h2.os, hm.tape.trans h2.tape, hm.output.trans h2.output, Nat.le_trans h2.size hm.size, fun k hk => (hm.block k (by omega) (fun h => by have := h1 k h; omega)).trans (h2.block k hk)⟩, Nat.le_trans hs hm.size, (hm.cell (b := q) (o := 0) (by omega) (fun h => by have := h1 q h; omega)).trans h3, h4⟩

set_option maxRecDepth 100000 in
set_option maxHeartbeats 4000000 in
theorem in_in (n : Nat) {w : World} {B ap : Nat} {l p : List UInt8} {ta ba ca : Option Addr} {m tc bc' cn cc : Nat} {x y : Int} {k : Bool} {t : List Int} {bs : List Nat} (hA : Ar w B ap l) (hl : l.length ≤ 16384) (hx : Tx w (.slice ca cn cc) t) (hin : InL l t) (htl : t.length ≤ 100000)
    (hp : Rd w 1 ta p.length (bc p)) (hT : Tab p bs) (hb : Rd w 1 ba m (ib bs)) (hm : p.length = m) (hbs : bs.length = m) (hml : m ≤ 100000) :
    CallsIn Fence.wide n Tryz.prog 140 #[.agg #[.slice ta m tc, .slice ba m bc'], cellV ca cn cc x y k, .pointer (some ⟨ap, 0, none⟩)] w fun e w' => e = .returned (.bool (hasP p (atL l t))) ∧ Below w.heap.size w w' := by
  obtain ⟨hb1, hz1, hh⟩ := allocs_w [Obj.cells #[.slice ta m tc, .slice ba m bc'] 163, Obj.cells #[.slice ca cn cc, .int .i64 x, .int .i64 y, .bool k] 61, Obj.cells #[.bool false] 4] w
  simp only [List.foldl_cons, List.foldl_nil] at hb1 hz1 hh
  obtain ⟨w1, hw1⟩ : ∃ w1, ((w.alloc (Obj.cells #[.slice ta m tc, .slice ba m bc'] 163)).alloc (Obj.cells #[.slice ca cn cc, .int .i64 x, .int .i64 y, .bool k] 61)).alloc (Obj.cells #[.bool false] 4) = w1 := ⟨_, rfl⟩
  rw [hw1] at hb1 hz1 hh
  have hz1' : w1.heap.size = w.heap.size + 3 := hz1
  have h0 : w1.heap[w.heap.size]? = some (.cells #[.slice ta m tc, .slice ba m bc'] 163 (0, 0)) := hh 0 (by simp)
  have h1 : w1.heap[w.heap.size + 1]? = some (.cells #[.slice ca cn cc, .int .i64 x, .int .i64 y, .bool k] 61 (0, 0)) := hh 1 (by simp)
  have h2 : w1.heap[w.heap.size + 2]? = some (.cells #[.bool false] 4 (0, 0)) := hh 2 (by simp)
  have s0 : w1.cell? ⟨w.heap.size, 0, none⟩ = some (.slice ta m tc) := (cell_at h0 0).trans rfl
  have s1 : w1.cell? ⟨w.heap.size, 1, none⟩ = some (.slice ba m bc') := (cell_at h0 1).trans rfl
  have c0 : w1.cell? ⟨w.heap.size + 1, 0, none⟩ = some (.slice ca cn cc) := (cell_at h1 0).trans rfl
  have c1 : w1.cell? ⟨w.heap.size + 1, 1, none⟩ = some (.int .i64 x) := (cell_at h1 1).trans rfl
  have c2 : w1.cell? ⟨w.heap.size + 1, 2, none⟩ = some (.int .i64 y) := (cell_at h1 2).trans rfl
  have c3 : w1.cell? ⟨w.heap.size + 1, 3, none⟩ = some (.bool k) := (cell_at h1 3).trans rfl
  have HBy := Lib.hid (fun (V : World) (hv : Below w1.heap.size w1 V) => cbytes_of (x := x) (y := y) (k := k) ((hA.below hb1).below hv) hl ((hx.below hb1).below hv) hin)
  have HP := Lib.hid (hp.below hb1)
  have HBt := Lib.hid (hb.below hb1)
  have HTb := Lib.hid (And.intro hT (And.intro hm hbs))
  have HB1 := Lib.hid hb1
  have H2 := Lib.hid h2
  have HZ := Lib.hid hz1'
  have HTL : Hid ((atL l t).length ≤ 100000) := by show _ ≤ _; unfold atL; rw [List.length_map]; exact htl
  obtain ⟨tx, htx⟩ : ∃ tx, atL l t = tx := ⟨_, rfl⟩
  rw [htx] at HBy HTL ⊢
  obtain ⟨L, hL⟩ : ∃ L, tx.length = L := ⟨_, rfl⟩
  have HL := Lib.hid hL
  have hmix : Tryz.prog.follows .mixedOrders = true := by kernel_rfl
  clear hA hx hin hp hT hb hm hbs hb1 hz1 hh h0 h1 h2 htx htl
  refine callsIn_of_wp_marks Tryz.func140 rfl trivial ?_ rfl
  simp only [Tryz.ntmps140, List.size_toArray, List.length_cons, List.length_nil, Nat.reduceAdd, Nat.reduceSub, Array.replicate_succ, Array.replicate_zero, List.push_toArray, List.append_toArray, List.nil_append, List.cons_append]
  gi_wp2
  rename_i KK hKK
  have key : ∀ (a2 : Option Addr) (d2 : Nat) (V w4 : World), Below w1.heap.size w1 V → Rd V 1 a2 L (bc tx) → Below V.heap.size V w4 → w4.heap.size = V.heap.size + 2 → w4.cell? ⟨V.heap.size, 0, none⟩ = some (.slice ta m tc) → w4.cell? ⟨V.heap.size, 1, none⟩ = some (.slice ba m bc') → w4.cell? ⟨V.heap.size + 1, 0, none⟩ = some (.slice a2 L d2) →
      KK { tmps := #[.agg #[.slice ta m tc, .slice ba m bc'], cellV ca cn cc x y k, .pointer (some ⟨ap, 0, none⟩), .pointer (some ⟨w.heap.size, 0, none⟩), .pointer (some ⟨w.heap.size + 1, 0, none⟩), undef, .pointer (some ⟨w.heap.size + 1 + 1, 0, none⟩), .agg #[.slice ta m tc, .slice ba m bc'], cellV ca cn cc x y k, .pointer (some ⟨ap, 0, none⟩), .slice a2 L d2, .func (.func 169) #[] #[pbox V.heap.size, pbox (V.heap.size + 1)], undef], defers := [] } w4 := by
    intro a2 d2 V w4 hbV hrd hb4 hz4 e0 e1 e2
    have sV := hbV.size
    have s4 := hb4.size
    have hb14 := hbV.trans (hb4.mono hbV.size)
    have hbw := HB1.out.trans (hb14.mono HB1.out.size)
    have sz := HZ.out
    have hpq : PlQ V.heap.size (V.heap.size + 1) p tx ta ba a2 tc m bc' L d2 bs w4 := ⟨e0, e1, e2, by omega, by omega, HP.out.below hb14, HBt.out.below hb14, by rw [hL]; exact hrd.below hb4⟩
    have b4 := (hb14.block _ (lt_of_at H2.out)).trans H2.out
    obtain ⟨z, hz⟩ : ∃ z, V.heap.size = z := ⟨_, rfl⟩
    rw [hz] at hz4 e0 e1 e2 s4 hpq ⊢
    refine hKK _ _ ?_
    clear hKK s0 s1 c0 c1 c2 c3 hw1
    gi_wp2
    refine range_outerQ (gf := 169) (lb := #[pbox z, pbox (z + 1)]) rfl (fun h => by simp [Fence.wide] at h) rfl trivial (enters_of Tryz.func169 (by kernel_rfl) rfl)
      (places_iter (n - 1) 0 z (z + 1) (D0 := fun _ => False) (w := w4) (fun k h => h.elim) HTb.out.1 HTb.out.2.1 HTb.out.2.2 HL.out hml (by have := HTL.out; have := HL.out; omega)) (Nat.zero_le _) (Below.refl _ _) (fun k h => h.elim) (fun _ => rfl)
      (InI w4) (InX w w4 (w.heap.size + 2) (hasP p tx)) InI.firm (InX.firm (by omega) (by omega)) (fun s E V ⟨_, m2, _⟩ => hpq.below m2) ⟨fun k h => h.elim, Below.refl _ _, rfl⟩
      (fun xx a' E W' => a' = { tmps := #[.agg #[.slice ta m tc, .slice ba m bc'], cellV ca cn cc x y k, .pointer (some ⟨ap, 0, none⟩), .pointer (some ⟨w.heap.size, 0, none⟩), .pointer (some ⟨w.heap.size + 1, 0, none⟩), undef, .pointer (some ⟨w.heap.size + 2, 0, none⟩), .agg #[.slice ta m tc, .slice ba m bc'], cellV ca cn cc x y k, .pointer (some ⟨ap, 0, none⟩), .slice a2 L d2, .func (.func 169) #[] #[pbox z, pbox (z + 1)], .int .i64 (xx : Int)], defers := [] })
      (fun x a' E V l r o h _ => h) ?assign ?body ?done ?stop
    case assign =>
      intro l' pre x' E V K hl' hi hE hK
      clear hz4 sz hz
      simp only [encN]
      gi_wp2
      refine hK _ E _ (fun k h => h) hE (Same.refl _ _) (Below.refl _ _) hi ?_
      simp
    case body =>
      rintro lo pre x' a' E V hEl ⟨r, hr⟩ hE ⟨m1, m2, rfl⟩ rfl hN
      have bV := (m2.block _ (show w.heap.size + 2 < w4.heap.size by omega)).trans b4
      have c2V : V.cell? ⟨w.heap.size + 2, 0, none⟩ = some (.bool false) := (cell_at bV 0).trans rfl
      have zz := unfrozen bV 0
      have hs := m2.size
      have hw4 : w.heap.size + 2 < w4.heap.size := by omega
      have hhas : hasP p tx = true := by
        unfold hasP
        cases h : allOf p tx with
        | nil => rw [h] at hN; simp at hN
        | cons a b => rfl
      clear hz4 sz sV s4 hz bV b4 e0 e1 e2 hpq hrd
      gi_wp2
      exact ⟨fun k hk => heap_set_other (by have := m1 k hk; omega), rfl, m1, (hbw.trans (m2.mono hbw.size)).setCell (p := ⟨w.heap.size + 2, 0, none⟩) (by show w.heap.size ≤ w.heap.size + 2; omega) _, by rw [World.size_setCell]; exact hs, World.cell?_setCell_same' _ _ _ (by rw [c2V]; rfl), hhas⟩
    case done =>
      rintro d ys E W3 hd hEd hys ⟨m1, m2, rfl⟩ hK
      have hF : hasP p tx = false := by unfold hasP; rw [← hys]; rfl
      have bV := (m2.block _ (show w.heap.size + 2 < w4.heap.size by omega)).trans b4
      have c2V : W3.cell? ⟨w.heap.size + 2, 0, none⟩ = some (.bool false) := (cell_at bV 0).trans rfl
      have zz := unfrozen bV 0
      have hK5 : (W3.setCell ⟨w.heap.size + 2, 0, none⟩ (.bool false)).heap[d]? = some (.deferred (some [])) := (heap_set_other (show d ≠ w.heap.size + 2 by omega)).trans hK
      have HK5 := Lib.hid hK5
      have HF := Lib.hid hF
      have hdg : w.heap.size ≤ d := by omega
      clear hK hK5 hz4 sz sV s4 hz bV b4 e0 e1 e2 hpq hF hys hrd
      gi_wp2
      refine ⟨by simp, .inl ⟨_, _, rfl, run_takeDeferred HK5.out, ?_⟩⟩
      have q1 : (W3.setCell ⟨w.heap.size + 2, 0, none⟩ (.bool false)).cell? ⟨w.heap.size + 2, 0, none⟩ = some (.bool false) := World.cell?_setCell_same' _ _ _ (by rw [c2V]; rfl)
      have q0 : ((W3.setCell ⟨w.heap.size + 2, 0, none⟩ (.bool false)).putObj d (.deferred none)).cell? ⟨w.heap.size + 2, 0, none⟩ = some (.bool false) := cell_kept q1 (grownBy_putObj' _ d (.deferred none)) (fun r e => by cases e; exact ⟨_, HK5.out, rfl⟩)
      exact ⟨.bool false, by simp [results, Tryz.results140, go_sem, q0], by rw [HF.out], ((hbw.trans (m2.mono hbw.size)).setCell (p := ⟨w.heap.size + 2, 0, none⟩) (by show w.heap.size ≤ w.heap.size + 2; omega) _).grown (grownBy_putObj' _ d (.deferred none)) (by rw [World.size_setCell]; have := m2.size; have := hbw.size; omega) (fun k e => by cases e; exact hdg)⟩
    case stop =>
      rintro d c pre E W3 hd hEd hSp ⟨rfl, m1, m2, m3, m4, m5⟩ hK
      have hdg : w.heap.size ≤ d := by omega
      have HF := Lib.hid m5
      clear hz4 sz sV s4 hz b4 e0 e1 e2 hpq m5 hrd
      gi_wp2
      refine ⟨by simp, .inl ⟨_, _, rfl, run_takeDeferred hK, ?_⟩⟩
      have m4' : (W3.putObj d (.deferred none)).cell? ⟨w.heap.size + 2, 0, none⟩ = some (.bool true) := cell_kept m4 (grownBy_putObj' W3 d (.deferred none)) (fun r e => by cases e; exact ⟨_, hK, rfl⟩)
      have ms := m2.size
      exact ⟨.bool true, by simp [results, Tryz.results140, go_sem, m4'], by rw [HF.out], m2.grown (grownBy_putObj' W3 d _) ms (fun k e => by cases e; exact hdg)⟩
  clear hKK
  have hb0 : Below w1.heap.size w1 w1.drew := (Below.refl _ _).drew
  have hzA : w.heap.size < w1.heap.size := by omega
  refine wpIn_mono (Q := Exit.then KK (fun _ _ _ => False)) ?_ (fun e a W h => by cases e <;> first | exact h | exact h.elim)
  gi_region_with_o (first
    | (refine ⟨trivial, (fun h => by simp [Fence.wide] at h), ((callsIn_wide (n := n - 1)).2 (HBy.out _ hb0)).mono ?_⟩; rintro e V ⟨a2, d2, rfl, ho2, hbV⟩; rw [hL] at ho2 ⊢
       have hbV1 := hb0.trans (hbV.mono hb0.size)
       have hrdV := t_rd ho2
       have s0V := (hbV1.cell (p := ⟨w.heap.size, 0, none⟩) hzA).trans s0
       have s1V := (hbV1.cell (p := ⟨w.heap.size, 1, none⟩) hzA).trans s1)
    | (refine ⟨trivial, (fun h => by simp [Fence.wide] at h), ((callsIn_wide (n := n - 1)).2 (places_call ta ba a2 m tc bc' L d2)).mono ?_⟩; rintro e w4 ⟨rfl, hb4, hz4, e0, e1, e2⟩))
  all_goals (exact key _ _ _ _ hbV1 hrdV hb4 hz4 e0 e1 e2)

end Go.Proofs.YtkgakgceamafcaaGreat
