/-
  Texts of this seat, put together (a claim holds few texts): FdD, FdE.
-/
import Derived.Test.YtkgakgceamafcaaMk17
import Derived.Maps.OwnIn

namespace Go.Proofs.Ytkgakgceamafcaa
open Go Go.RowKit Go.Shelf
set_option linter.unusedVariables false
attribute [local go_sem] Oper.semAt_some

set_option maxRecDepth 100000 in
set_option maxHeartbeats 2000000 in
theorem places_call {w : World} (ta ba sa : Option Addr) (m tc bc' L sc : Nat) :
    Calls Try.prog 20 #[.agg #[.slice ta m tc, .slice ba m bc'], .slice sa L sc] w fun e w' => e = .returned (.func (.func 27) #[] #[pbox w.heap.size, pbox (w.heap.size + 1)]) ∧ Below w.heap.size w w' ∧ w'.heap.size = w.heap.size + 2 ∧
      w'.cell? ⟨w.heap.size, 0, none⟩ = some (.slice ta m tc) ∧ w'.cell? ⟨w.heap.size, 1, none⟩ = some (.slice ba m bc') ∧ w'.cell? ⟨w.heap.size + 1, 0, none⟩ = some (.slice sa L sc) := by
  go_enter Try.func20, Try.ntmps20
  go_wp2_with fail
  go_ret
  obtain ⟨h1, h2, h3⟩ := allocs_w [Obj.cells #[.slice ta m tc, .slice ba m bc'] 43, Obj.cells #[.slice sa L sc] 23] w
  exact ⟨rfl, h1, h2, (cell_at (h3 0 (by simp)) 0).trans rfl, (cell_at (h3 0 (by simp)) 1).trans rfl, (cell_at (h3 1 (by simp)) 0).trans rfl⟩

set_option maxRecDepth 100000 in
set_option maxHeartbeats 2000000 in
theorem apart_call {w : World} (ta ba sa : Option Addr) (m tc bc' L sc : Nat) :
    Calls Try.prog 22 #[.agg #[.slice ta m tc, .slice ba m bc'], .slice sa L sc] w fun e w' => e = .returned (.func (.func 28) #[] #[pbox w.heap.size, pbox (w.heap.size + 1)]) ∧ Below w.heap.size w w' ∧ w'.heap.size = w.heap.size + 2 ∧
      w'.cell? ⟨w.heap.size, 0, none⟩ = some (.slice ta m tc) ∧ w'.cell? ⟨w.heap.size, 1, none⟩ = some (.slice ba m bc') ∧ w'.cell? ⟨w.heap.size + 1, 0, none⟩ = some (.slice sa L sc) := by
  go_enter Try.func22, Try.ntmps22
  go_wp2_with fail
  go_ret
  obtain ⟨h1, h2, h3⟩ := allocs_w [Obj.cells #[.slice ta m tc, .slice ba m bc'] 43, Obj.cells #[.slice sa L sc] 23] w
  exact ⟨rfl, h1, h2, (cell_at (h3 0 (by simp)) 0).trans rfl, (cell_at (h3 0 (by simp)) 1).trans rfl, (cell_at (h3 1 (by simp)) 0).trans rfl⟩

/-- What apart's loop keeps. -/
def ApI (J : List Nat → Bls → World → Prop) (A : List Nat) (m eb : Nat) (D1 : Bls) (w2 : World) (s : List Nat) (E : Bls) (W : World) : Prop :=
  s = A.take s.length ∧ (∀ k, E k → ¬ D1 k ∧ k ≠ eb) ∧ Same D1 w2 W ∧ W.heap[eb]? = some (.cells #[.int .i64 (endOf m 0 (apart m 0 s) : Int)] 3 (0, 0)) ∧ J (apart m 0 s) (fun k => E k ∨ (D1 k ∨ k = eb)) W
theorem ApI.firm {J : List Nat → Bls → World → Prop} (hJ : Firm J) {A : List Nat} {m eb : Nat} {D1 : Bls} {w2 : World} (hD : Have D1 w2) : Firm (ApI J A m eb D1 w2) := by
  rintro s D D' W W' ⟨h0, h1, h3, h5, h4⟩ hm hd
  have hel := lt_of_heap h5
  refine ⟨h0, fun k hk => (hd k hk).elim (h1 k) (fun h => ⟨fun h' => by have := h3.lt hD h'; omega, by omega⟩), fun k hk => (hm.block k (h3.lt hD hk) (fun h => (h1 k h).1 hk)).trans (h3 k hk), (hm.block eb hel (fun h => (h1 eb h).2 rfl)).trans h5, hJ _ _ _ _ _ h4 (hm.mono fun _ h => .inl h) (fun k hk => hk.elim (fun h => (hd k h).elim (fun h => .inl (.inl h)) .inr) (fun h => .inl (.inr h)))⟩
def ApX (Jx : List Nat → Bls → World → Prop) (Q : List Nat) (eb : Nat) (D1 : Bls) (w2 : World) (c : Code) (s : List Nat) (E : Bls) (W : World) : Prop :=
  c = .ret ∧ (∀ k, E k → ¬ D1 k ∧ k ≠ eb) ∧ eb < W.heap.size ∧ Same D1 w2 W ∧ ∃ q, q <+: Q ∧ Jx q (fun k => E k ∨ (D1 k ∨ k = eb)) W
theorem ApX.firm {Jx : List Nat → Bls → World → Prop} (hJ : Firm Jx) {Q : List Nat} {eb : Nat} {D1 : Bls} {w2 : World} (hD : Have D1 w2) (c : Code) : Firm (ApX Jx Q eb D1 w2 c) := by
  rintro s D D' W W' ⟨h0, h1, hel, h3, q, hq, h4⟩ hm hd
  refine ⟨h0, fun k hk => (hd k hk).elim (h1 k) (fun h => ⟨fun h' => by have := h3.lt hD h'; omega, by omega⟩), Nat.lt_of_lt_of_le hel hm.size, fun k hk => (hm.block k (h3.lt hD hk) (fun h => (h1 k h).1 hk)).trans (h3 k hk), q, hq, hJ _ _ _ _ _ h4 (hm.mono fun _ h => .inl h) (fun k hk => hk.elim (fun h => (hd k h).elim (fun h => .inl (.inl h)) .inr) (fun h => .inl (.inr h)))⟩

set_option maxRecDepth 100000 in
set_option maxHeartbeats 4000000 in
theorem apart_iter (n n₀ B1 B2 : Nat) {D0 : Bls} {w : World} {p b : List UInt8} {ta ba sa : Option Addr} {tc m bc' L sc : Nat} {bs : List Nat} (hD0 : Have D0 w) (hT : Tab p bs) (hpl : p.length = m) (hbs : bs.length = m) (hL : b.length = L) (hm : m ≤ 100000) (hbl : L ≤ 1000000) :
    IterQ (PlQ B1 B2 p b ta ba sa tc m bc' L sc bs) Fence.wide n Try.prog 28 #[pbox B1, pbox B2] encN n₀ (fun ys => ys = apart m 0 (allOf p b)) (fun pre => pre <+: apart m 0 (allOf p b)) (fun pre x => (apart m 0 (allOf p b))[pre.length]? = some x) D0 w := fun l J Jx W hW hJ hJx hQ hY h0 => by
  have hq0 := hQ _ _ _ h0
  have hDW : Have D0 W := fun k h => Nat.lt_of_lt_of_le (hD0 k h) hW.size
  obtain ⟨w1, hw1, hb1, hz1, hA, hB⟩ := two_blocks W (Obj.cells #[.func (.yield l) #[] #[]] 59) (Obj.cells #[.int .i64 0] 3)
  have HSK := Lib.hid (And.intro hT (And.intro hpl (And.intro hbs hL)))
  have HL := Lib.hid hL
  have HML := Lib.hid hpl
  have hq1 := hq0.below hb1
  have k0 := hq1.c0
  have k1 := hq1.c1
  have k2 := hq1.c2
  have HQ0 := Lib.hid hq0
  have HB1 := Lib.hid hb1
  have HA := Lib.hid hA
  have HB := Lib.hid hB
  have HZ := Lib.hid hz1
  have HPC := Lib.hid ((callsIn_wide (n := n - 1)).2 (places_call (w := w1) ta ba sa m tc bc' L sc))
  subst hw1
  clear hq0 hq1 hT hpl hbs hL hb1 hA hB hz1
  refine callsIn_of_wp_marks Try.func28 rfl trivial ?_ rfl
  simp only [Try.ntmps28, List.size_toArray, List.length_cons, List.length_nil, Nat.reduceAdd, Nat.reduceSub, Array.replicate_succ, Array.replicate_zero, List.push_toArray, List.append_toArray, List.nil_append, List.cons_append]
  gi_wp2
  refine ⟨trivial, fun h => by simp [Fence.wide] at h, HPC.out.mono ?_⟩
  rintro e w2 ⟨rfl, hb2, hz2, e0, e1, e2⟩
  generalize (W.alloc (Obj.cells #[.func (.yield l) #[] #[]] 59)).alloc (Obj.cells #[.int .i64 0] 3) = w1 at *
  gi_wp2
  obtain ⟨eb, heb⟩ : ∃ eb, W.heap.size + 1 = eb := ⟨_, rfl⟩
  have HEB := Lib.hid heb
  rw [heb] at HB ⊢
  obtain ⟨z, hz⟩ : ∃ z, w1.heap.size = z := ⟨_, rfl⟩
  have HZZ := Lib.hid hz
  rw [hz] at hz2 e0 e1 e2 ⊢
  obtain ⟨D1, hD1⟩ : ∃ D1 : Bls, D1 = fun k => k = W.heap.size ∨ k = z ∨ k = z + 1 := ⟨_, rfl⟩
  have y0 : D1 W.heap.size := by rw [hD1]; exact .inl rfl
  have y1 : D1 z := by rw [hD1]; exact .inr (.inl rfl)
  have y2 : D1 (z + 1) := by rw [hD1]; exact .inr (.inr rfl)
  have x1 (k : Nat) (h : D1 k) : k = W.heap.size ∨ k = z ∨ k = z + 1 := by rw [hD1] at h; exact h
  clear hD1
  have hzz : z = W.heap.size + 2 := by rw [← HZZ.out]; exact HZ.out
  have hb02 : Below W.heap.size W w2 := HB1.out.trans (hb2.mono HB1.out.size)
  have hD1h : Have D1 w2 := fun k h => by have := x1 k h; omega
  have hB2 : w2.heap[eb]? = some (.cells #[.int .i64 0] 3 (0, 0)) := (hb2.block eb (lt_of_at HB.out)).trans HB.out
  have hA2 : w2.heap[W.heap.size]? = some (.cells #[.func (.yield l) #[] #[]] 59 (0, 0)) := (hb2.block _ (lt_of_at HA.out)).trans HA.out
  refine range_outerQ (gf := 27) (lb := #[pbox z, pbox (z + 1)]) rfl (fun h => by simp [Fence.wide] at h) rfl trivial (enters_of Try.func27 (by kernel_rfl) rfl)
    (places_iter (n - 1) 0 z (z + 1) (D0 := fun _ => False) (w := w2) (fun k h => h.elim) HSK.out.1 HSK.out.2.1 HSK.out.2.2.1 HSK.out.2.2.2 hm hbl) (Nat.zero_le _) (Below.refl _ _) (fun k h => h.elim) (fun _ => rfl)
    (ApI J (allOf p b) m eb D1 w2) (ApX Jx (apart m 0 (allOf p b)) eb D1 w2) (ApI.firm hJ hD1h) (fun c => ApX.firm hJx hD1h c)
    (fun s E V ⟨_, _, m3, _, m4⟩ => ⟨(m3.cell (o := 0) y1).trans e0, (m3.cell (o := 1) y1).trans e1, (m3.cell (o := 0) y2).trans e2, m3.lt hD1h y1, m3.lt hD1h y2, (hQ _ _ _ m4).txt, (hQ _ _ _ m4).rd, (hQ _ _ _ m4).byt⟩)
    ⟨rfl, fun k h => h.elim, Same.refl _ _, hB2, hJ _ _ _ _ _ h0 (Moves.below hb02) (fun k h => h.elim (fun h => h.elim) (fun h => .inr (by rcases h with h | h; have := x1 k h; omega; omega)))⟩
    (fun x a' E W' => a' = { tmps := #[.func (.yield l) #[] #[], pbox B1, pbox B2, pbox W.heap.size, pbox eb, .int .i64 (x : Int), .agg #[.slice ta m tc, .slice ba m bc'], .slice sa L sc, .func (.func 27) #[] #[pbox z, pbox (z + 1)], .int .i64 (x : Int), undef, undef, undef, undef, undef, undef, undef, undef, undef, undef, undef, undef], defers := [] })
    (fun x a' E V l r o h _ => h) ?assign ?body ?done ?stop
  case assign =>
    intro l' pre x E V K hl' hi hE hK
    clear hzz
    simp only [encN]
    gi_wp2
    exact hK _ E _ (fun k h => h) hE (Same.refl _ _) (Below.refl _ _) hi rfl
  case body =>
    rintro lo pre x a' E V hEl ⟨r, hr⟩ hE ⟨hP, m1, m3, m5, m4⟩ rfl hN
    have hne (k : Nat) (h : D1 k) : k ≠ eb := by have := x1 k h; omega
    obtain ⟨hx1, hx2, _⟩ := all_lt (List.mem_of_getElem? hN)
    rw [HL.out] at hx1
    have hxm : x + m ≤ L := by rw [← HML.out]; exact hx1
    have hHD : Have (fun k => E k ∨ (D1 k ∨ k = eb)) V := fun k h => h.elim (hE k) (fun h => h.elim (m3.lt hD1h) (fun h => by rw [h]; exact lt_of_at m5))
    obtain ⟨e, he⟩ : ∃ e, endOf m 0 (apart m 0 pre) = e := ⟨_, rfl⟩
    rw [he] at m5
    have ce : V.cell? ⟨eb, 0, none⟩ = some (.int .i64 (e : Int)) := (cell_at m5 0).trans rfl
    have cy : V.cell? ⟨W.heap.size, 0, none⟩ = some (.func (.yield l) #[] #[]) := (m3.cell (o := 0) y0).trans ((cell_at hA2 0).trans rfl)
    have ct := (hQ _ _ _ m4).c0
    have HP := Lib.hid (And.intro hP hN)
    have HMM := Lib.hid (And.intro m1 (And.intro m3 (And.intro m4 m5)))
    have HHD := Lib.hid hHD
    have HNE := Lib.hid hne
    clear hzz hP hN m1 m3 m5 m4 hHD hx1 hx2 hne hB2 hA2 k0 k1 k2
    by_cases hxe : x < e
    · have dx : decide (x < e) = true := decide_eq_true hxe
      have dx' : decide ((x : Int) < (e : Int)) = true := decide_eq_true (by omega)
      have hsk := apart_skip (x := x) (l := pre) (by rw [he]; exact hxe)
      have HSKP := Lib.hid hsk
      have HE := Lib.hid he
      clear hsk he
      gi_wp2
      exact ⟨Same.refl _ _, Below.refl _ _, take_next HP.out.1 HP.out.2, HMM.out.1, HMM.out.2.1, by rw [HSKP.out, HE.out]; exact HMM.out.2.2.2, by rw [HSKP.out]; exact HMM.out.2.2.1⟩
    · have dx : decide (x < e) = false := decide_eq_false hxe
      have dx' : decide ((x : Int) < (e : Int)) = false := decide_eq_false (by omega)
      have htk := apart_take (x := x) (l := pre) (by rw [he]; exact hxe)
      have hpre : apart m 0 pre ++ [x] <+: apart m 0 (allOf p b) := by
        rw [← htk]
        have h1 := take_next HP.out.1 HP.out.2
        conv => rhs; rw [← List.take_append_drop (pre ++ [x]).length (allOf p b), ← h1]
        exact apart_pre m _ _ 0
      obtain ⟨fn, tmps, assign, body, hy, hR⟩ := hY _ x _ V HMM.out.2.2.1 HHD.out (pre_at hpre)
      have HTK := Lib.hid (And.intro htk hpre)
      simp only [encN] at hy
      clear htk hpre he
      gi_wp2
      refine ⟨fun h => by simp [Fence.wide] at h, RoundIn.mono (F := Fence.wide) ⟨hR.1, fun c cs _ => hR.2 c cs (room_wide _)⟩ ?_⟩
      rintro e' W3 ⟨hs, (⟨rfl, hJ3, hk3⟩ | ⟨rfl, hJx3⟩)⟩
      · have hb3 := (hs eb (.inr (.inr rfl))).trans HMM.out.2.2.2
        have ct3 := (hQ _ _ _ hJ3).c0
        have ce3 : W3.cell? ⟨eb, 0, none⟩ = some (.int .i64 (e : Int)) := (cell_at hb3 0).trans rfl
        have zz := unfrozen hb3 0
        have HB3 := Lib.hid hb3
        have HJ3 := Lib.hid (And.intro hs (And.intro hJ3 hk3))
        clear hb3 hs hJ3 hk3
        gi_wp2
        have hset : ∀ k, k ≠ eb → (W3.setCell ⟨eb, 0, none⟩ (Value.int .i64 ((x : Int) + (m : Int)))).heap[k]? = W3.heap[k]? := fun k hk => heap_set_other hk
        have hBel : Below 0 W3 (W3.setCell ⟨eb, 0, none⟩ (Value.int .i64 ((x : Int) + (m : Int)))) := (Below.refl _ _).setCell (p := ⟨eb, 0, none⟩) (Nat.zero_le _) _
        refine ⟨fun k hk => (hset k (HMM.out.1 k hk).2).trans (HJ3.out.1 k (.inl hk)), (HJ3.out.2.2.mono (Nat.zero_le _)).trans hBel, take_next HP.out.1 HP.out.2, HMM.out.1, fun k hk => (hset k (HNE.out k hk)).trans ((HJ3.out.1 k (.inr (.inl hk))).trans (HMM.out.2.1 k hk)), ?_, ?_⟩
        · rw [HTK.out.1, endOf_snoc, show ((x + m : Nat) : Int) = (x : Int) + (m : Int) by omega]; exact heap_set_at HB3.out
        · rw [HTK.out.1]
          exact hJ.go HJ3.out.2.1 ((Moves.refl _ _).set (.inr (.inr rfl)))
      · gi_wp2
        exact ⟨hs.mono fun _ h => .inl h, rfl, fun k h => HMM.out.1 k h, by have := hs eb (.inr (.inr rfl)); rw [HMM.out.2.2.2] at this; exact lt_of_at this, HMM.out.2.1.trans (hs.mono fun _ h => .inr (.inl h)), _, HTK.out.2, hJx3⟩
  case done =>
    rintro d ys E W3 hd hEd rfl ⟨_, m1, m3, m5, m4⟩ hK
    refine ⟨by simp, .inl ⟨_, _, rfl, run_takeDeferred hK, ?_⟩⟩
    refine ⟨_, results_none rfl _ _ _, ⟨_, rfl⟩, .inl ⟨_, _, rfl, hJ.go m4 (Moves.put _ (.inl hEd))⟩⟩
  case stop =>
    rintro d c pre E W3 hd hEd hSp ⟨rfl, m1, _, m3, q, hq, m4⟩ hK
    gi_wp2
    refine ⟨by simp, .inl ⟨_, _, rfl, run_takeDeferred hK, ?_⟩⟩
    exact ⟨_, results_none rfl _ _ _, ⟨_, rfl⟩, .inr ⟨_, _, hq, hJx.go m4 (Moves.put _ (.inl hEd))⟩⟩

end Go.Proofs.Ytkgakgceamafcaa

namespace Go.Proofs.Ytkgakgceamafcaa
open Go Go.RowKit Go.Shelf
set_option linter.unusedVariables false
attribute [local go_sem] Oper.semAt_some

theorem own_moves {W W' : World} {B s n : Nat} {e : TypeId} {v : Value} {xs : List Value} (h : W.ownsRow B e s v n xs) (hb : ∀ g, v.ownBlock = some g → W'.heap[g]? = W.heap[g]?) : W'.ownsRow B e s v n xs := by
  refine ⟨h.1, ?_⟩
  rcases h.2 with hn | ⟨g, cap, cur, he, h1, h2, rest⟩
  · exact .inl hn
  · exact .inr ⟨g, cap, cur, he, h1, (hb g (by rw [he]; rfl)).trans h2, rest⟩
theorem own_blt {W : World} {B s n g : Nat} {e : TypeId} {v : Value} {xs : List Value} (h : W.ownsRow B e s v n xs) (hg : v.ownBlock = some g) : B ≤ g ∧ g < W.heap.size := by
  rcases h.2 with ⟨hn, _⟩ | ⟨g', cap, cur, he, h1, h2, _⟩
  · rw [hn] at hg; cases hg
  · rw [he] at hg
    injection hg with hg
    subst hg
    exact ⟨h1, lt_of_at h2⟩
/-- What the loop that collects keeps: its box, and the row in it. -/
def CoI (w : World) (q : Nat) (s : List Nat) (E : Bls) (W : World) : Prop :=
  ∃ (a : Option Addr) (c : Nat), (∀ k, E k → w.heap.size ≤ k ∧ k ≠ q ∧ (Value.slice a s.length c).ownBlock ≠ some k) ∧ Below w.heap.size w W ∧ W.heap[q]? = some (.cells #[.slice a s.length c] 25 (0, 0)) ∧ W.ownsRow w.heap.size 3 1 (.slice a s.length c) s.length (ib s)
theorem CoI.firm {w : World} {q : Nat} : Firm (CoI w q) := by
  rintro s D D' W W' ⟨a, c, h1, h2, h3, h4⟩ hm hd
  have hq := lt_of_at h3
  have hs := h2.size
  refine ⟨a, c, fun k hk => (hd k hk).elim (h1 k) (fun h => ⟨by omega, by omega, fun e => by have := (own_blt h4 e).2; omega⟩), ⟨hm.os.trans h2.os, hm.tape.trans h2.tape, hm.output.trans h2.output, Nat.le_trans h2.size hm.size, fun k hk => (hm.block k (by omega) (fun h => by have := (h1 k h).1; omega)).trans (h2.block k hk)⟩, (hm.block q hq (fun h => (h1 q h).2.1 rfl)).trans h3, own_moves h4 (fun g hg => hm.block g (own_blt h4 hg).2 (fun h => (h1 g h).2.2 hg))⟩

set_option maxRecDepth 100000 in
set_option maxHeartbeats 4000000 in
theorem appendseq_of (n : Nat) {w : World} {gf : Nat} {lb : Array Value} {A : List Nat} (hA : A.length ≤ 1000000) (eg : ∀ args w, (callFunc gf args).run Try.prog w = .ok (.enter gf args) w)
    {Qr : World → Prop} (hQr : ∀ W, Below w.heap.size w W → Qr W) (hseq : ∀ k w', IterQ Qr Fence.wide k Try.prog gf lb encN w.heap.size (fun ys => ys = A) (fun pre => pre <+: A) (fun pre x => A[pre.length]? = some x) (fun _ => False) w') :
    CallsIn Fence.wide n Try.prog 25 #[.slice none 0 0, .func (.func gf) #[] lb] w fun e w' => ∃ a c, e = .returned (.slice a A.length c) ∧ w'.ownsRow w.heap.size 3 1 (.slice a A.length c) A.length (ib A) ∧ Below w.heap.size w w' := by
  obtain ⟨i0, hi0, hz0, hz1, hz2⟩ := info_parts info_i
  have hh := World.alloc_heap_new w (Obj.cells #[.slice none 0 0] 25)
  have al := t_al w (Obj.cells #[.slice none 0 0] 25)
  obtain ⟨w1, hw1⟩ : ∃ w1, w.alloc (Obj.cells #[.slice none 0 0] 25) = w1 := ⟨_, rfl⟩
  have hsz : (w.alloc (Obj.cells #[.slice none 0 0] 25)).heap.size = w.heap.size + 1 := by simp
  rw [hw1] at hh al hsz
  refine callsIn_of_wp_marks Try.func25 rfl trivial ?_ rfl
  simp only [Try.ntmps25, List.size_toArray, List.length_cons, List.length_nil, Nat.reduceAdd, Nat.reduceSub, Array.replicate_succ, Array.replicate_zero, List.push_toArray, List.append_toArray, List.nil_append, List.cons_append]
  gi_wp2
  obtain ⟨q, hq⟩ : ∃ q, w.heap.size = q := ⟨_, rfl⟩
  have HQ := Lib.hid hq
  clear hw1
  refine range_outerQ (gf := gf) (lb := lb) rfl (fun h => by simp [Fence.wide] at h) rfl trivial eg
    (hseq (n - 1) w1) al.size (Below.refl _ _) (fun k h => h.elim) (fun _ => rfl)
    (CoI w q) (fun _ _ _ _ => False) CoI.firm (fun _ _ _ _ _ _ h _ _ => h) (fun s E V ⟨_, _, _, m2, _⟩ => hQr V m2) ⟨none, 0, fun k h => h.elim, al, by rw [← hq]; exact hh, ⟨rfl, .inl ⟨rfl, rfl⟩⟩⟩
    (fun x a' E W' => a' = { tmps := #[.slice none 0 0, .func (.func gf) #[] lb, pbox q, undef, .slice none 0 0, .int .i64 (x : Int), .func (.func gf) #[] lb, .int .i64 (x : Int), undef, undef, undef, undef, undef], defers := [] })
    (fun x a' E V l r o h _ => h) ?assign ?body ?done ?stop
  case assign =>
    intro l' pre x E V K hl' hi hE hK
    simp only [encN]
    gi_wp2
    exact hK _ E _ (fun k h => h) hE (Same.refl _ _) (Below.refl _ _) hi rfl
  case body =>
    rintro lo pre x a' E V hEl ⟨r, hr⟩ hE ⟨a, c, m1, m2, m3, m4⟩ rfl hN
    have hkl : pre.length < A.length := (List.getElem?_eq_some_iff.1 hN).1
    obtain ⟨k, hk⟩ : ∃ k, pre.length = k := ⟨_, rfl⟩
    have HK := Lib.hid hk
    rw [hk] at m1 m3 m4 hkl
    have ms := m2.size
    have hqV := lt_of_at m3
    have m3' := ((t_al V (Obj.cells #[.int .i64 (x : Int)] 3)).block q hqV).trans m3
    have b0 : V.cell? ⟨q, 0, none⟩ = some (.slice a k c) := (cell_at m3 0).trans rfl
    have M1 := Lib.hid m1
    have M2 := Lib.hid m2
    have M3 := Lib.hid m3
    have M4 := Lib.hid m4
    have C3 : Hid (k + 1 ≤ maxLen) := by show _ ≤ _; unfold maxLen; omega
    have C4 : Hid ((k + 1) * 8 ≤ 140737488355328) := by show _ ≤ _; omega
    have C5 : Hid (w.heap.size ≤ (V.alloc (Obj.cells #[.int .i64 (x : Int)] 3)).heap.size) := by show _ ≤ _; rw [World.size_alloc]; omega
    have M3' := Lib.hid m3'
    clear m1 m2 m3 m4 m3' hk hr hN hh al hseq hq
    gi_wp2_with (gi_at_builtin; refine wpListIn_append_own_at _ rfl (.tmp 8) (.tmp 10) 25 rfl w.heap.size 3 i0 (.int .i64 0) 1 8 Try.underlying25 hi0 hz0 hz1 hz2 rfl (by decide) (.slice a k c) k (ib pre) rfl (M4.out.alloc _) ⟨V.heap.size, 0, none⟩ 1 1 [.int .i64 (x : Int)] rfl rfl (c1_one V _ _) (c2_one _ rfl) C3.out C4.out C5.out ?_)
    intro v5 W5 ho5 hg5 _ hat5
    obtain ⟨g5, c5, rfl, hB5, hl5⟩ := ho5.form (by omega)
    have hqe : (Value.slice a k c).ownBlock ≠ some q := own_ne M4.out M3.out (by decide)
    have hq5 := (hg5.block q (by rw [World.size_alloc]; omega) (fun e => hqe e.symm)).trans M3'.out
    have b5 : W5.cell? ⟨q, 0, none⟩ = some (.slice a k c) := (cell_at hq5 0).trans rfl
    have z5 := unfrozen hq5 0
    have hg5q : g5 ≠ q := fun e => own_ne ho5 hq5 (by decide) (by rw [e]; rfl)
    have H5 := Lib.hid (And.intro ho5 (And.intro hg5 (And.intro hat5 (And.intro hq5 hg5q))))
    clear ho5 hg5 hat5 hq5 hqe hg5q M3'
    gi_wp2
    have hz5 := H5.out.2.1.size
    rw [World.size_alloc] at hz5
    have hgE : ∀ k', E k' → k' ≠ g5 := fun k' hk' e => by
      have h1 := hE k' hk'
      rcases H5.out.2.2.1 with h | h
      · exact (M1.out k' hk').2.2 (by rw [← h, e]; rfl)
      · simp only [Value.ownBlock, Option.some.injEq] at h; omega
    have hst : ∀ k', k' < V.heap.size → (Value.slice a k c).ownBlock ≠ some k' → k' ≠ q → (W5.setCell ⟨q, 0, none⟩ (.slice (some ⟨g5, 0, none⟩) (k + 1) c5)).heap[k']? = V.heap[k']? := fun k' h1 h2 h3 =>
      (heap_set_other h3).trans ((H5.out.2.1.block k' (by rw [World.size_alloc]; omega) (fun e => h2 e.symm)).trans ((t_al V _).block k' h1))
    have hB : Below w.heap.size V (W5.setCell ⟨q, 0, none⟩ (.slice (some ⟨g5, 0, none⟩) (k + 1) c5)) :=
      (((t_al V (Obj.cells #[.int .i64 (x : Int)] 3)).mono ms).grown H5.out.2.1 C5.out (fun k' hk' => ((M4.out.alloc (Obj.cells #[.int .i64 (x : Int)] 3)).lt k' hk').1)).setCell (p := ⟨q, 0, none⟩) (by show w.heap.size ≤ q; rw [HQ.out]; exact Nat.le_refl _) _
    refine ⟨fun k' hk' => hst k' (hE k' hk') (M1.out k' hk').2.2 (M1.out k' hk').2.1, hB, some ⟨g5, 0, none⟩, c5, fun k' hk' => ⟨(M1.out k' hk').1, (M1.out k' hk').2.1, fun e => by injection e with e; exact hgE k' hk' e.symm⟩, M2.out.trans hB, ?_, ?_⟩
    · rw [List.length_append, HK.out]; exact heap_set_at H5.out.2.2.2.1
    · rw [List.length_append, HK.out, ib_app]; exact own_set H5.out.1 (own_ne H5.out.1 H5.out.2.2.2.1 (by decide))
  case done =>
    rintro d ys E W3 hd hEd rfl ⟨a, c, m1, m2, m3, m4⟩ hK
    obtain ⟨k, hk⟩ : ∃ k, ys.length = k := ⟨_, rfl⟩
    have HK := Lib.hid hk
    rw [hk] at m1 m3 m4
    rw [← hq] at m3
    have b0 : W3.cell? ⟨w.heap.size, 0, none⟩ = some (.slice a k c) := (cell_at m3 0).trans rfl
    have HM := Lib.hid (And.intro m1 (And.intro m2 m4))
    have ms := m2.size
    clear m1 m2 m3 m4 hk hh al hseq hq
    gi_wp2
    refine ⟨by simp, .inl ⟨_, _, rfl, run_takeDeferred hK, ?_⟩⟩
    refine ⟨_, results_tmp rfl _ _ _, a, c, by rw [HK.out]; rfl, by rw [HK.out]; exact own_moves HM.out.2.2 (fun g hg => World.putObj_heap_other (fun e => (HM.out.1 d hEd).2.2 (by rw [hg, e]))), HM.out.2.1.grown (grownBy_putObj' W3 d _) ms (fun k e => by cases e; exact (HM.out.1 d hEd).1)⟩
  case stop =>
    rintro d c pre E W3 hd hEd hSp h hK
    exact h.elim

set_option maxRecDepth 100000 in
set_option maxHeartbeats 2000000 in
theorem collect_of (n : Nat) {w : World} {gf : Nat} {lb : Array Value} {A : List Nat} (hA : A.length ≤ 1000000) (eg : ∀ args w, (callFunc gf args).run Try.prog w = .ok (.enter gf args) w)
    {Qr : World → Prop} (hQr : ∀ W, Below w.heap.size w W → Qr W) (hseq : ∀ k w', IterQ Qr Fence.wide k Try.prog gf lb encN w.heap.size (fun ys => ys = A) (fun pre => pre <+: A) (fun pre x => A[pre.length]? = some x) (fun _ => False) w') :
    Calls Try.prog 18 #[.func (.func gf) #[] lb] w fun e w' => ∃ a c, e = .returned (.slice a A.length c) ∧ w'.ownsRow w.heap.size 3 1 (.slice a A.length c) A.length (ib A) ∧ Below w.heap.size w w' := by
  have HC := Lib.hid ((callsIn_wide (n := 0)).1 (appendseq_of 0 hA eg hQr hseq))
  clear hseq
  go_enter Try.func18, Try.ntmps18
  go_wp2_with fail
  refine HC.out.mono ?_; rintro e w2 ⟨a, c, rfl, h1, h2⟩
  have H := Lib.hid (And.intro h1 h2)
  clear h1 h2
  go_wp2_with fail
  go_ret
  exact ⟨a, c, rfl, H.out.1, H.out.2⟩

theorem own_mono9 {w : World} {B B' s n : Nat} {e : TypeId} {v : Value} {xs : List Value} (h : w.ownsRow B' e s v n xs) (hB : B ≤ B') : w.ownsRow B e s v n xs := by
  refine ⟨h.1, ?_⟩
  rcases h.2 with hn | ⟨g, cap, cur, he, h1, rest⟩
  · exact .inl hn
  · exact .inr ⟨g, cap, cur, he, Nat.le_trans hB h1, rest⟩
theorem all_len (p b : List UInt8) : (allOf p b).length ≤ b.length := by
  rw [all_eq]
  have := List.length_filter_le (atP p b) (List.range b.length)
  rw [List.length_range] at this
  exact this
theorem apart_len (m : Nat) : ∀ (l : List Nat) (e : Nat), (apart m e l).length ≤ l.length
  | [], e => Nat.le_refl _
  | x :: l, e => by
    show (if x < e then apart m e l else x :: apart m (x + m) l).length ≤ _
    have h1 := apart_len m l e
    have h2 := apart_len m l (x + m)
    split
    · rw [List.length_cons]; omega
    · rw [List.length_cons, List.length_cons]; omega

set_option maxRecDepth 100000 in
set_option maxHeartbeats 2000000 in
theorem every_of {w : World} {p b : List UInt8} {ta sa : Option Addr} {m tc L sc : Nat} (hb : Rd w 1 sa b.length (bc b)) (hp : Rd w 1 ta p.length (bc p)) (hL : b.length = L) (hm : p.length = m) (hml : m ≤ 100000) (hll : L ≤ 100000) :
    Calls Try.prog 7 #[.slice sa L sc, .slice ta m tc] w fun e w' => ∃ a c, e = .returned (.slice a (allOf p b).length c) ∧ w'.ownsRow w.heap.size 3 1 (.slice a (allOf p b).length c) (allOf p b).length (ib (allOf p b)) ∧ Below w.heap.size w w' := by
  have HSe := Lib.hid (seek_of (tc := tc) hp hm hml)
  have HB := Lib.hid hb
  have HP := Lib.hid hp
  have HL := Lib.hid hL
  have HM := Lib.hid hm
  clear hb hp hL hm
  go_enter Try.func7, Try.ntmps7
  go_wp2_with fail
  refine HSe.out.mono ?_; rintro e w1 ⟨bs, ba, bc', rfl, h1, h2, h3, hba, hb1⟩
  have HT := Lib.hid (And.intro h1 (And.intro h2 (And.intro h3 (And.intro hba hb1))))
  have HPl := Lib.hid (places_call (w := w1) ta ba sa m tc bc' L sc)
  clear h1 h2 h3 hba hb1 HSe
  go_wp2_with fail
  refine HPl.out.mono ?_; rintro e w2 ⟨rfl, hb2, hz2, e0, e1, e2⟩
  have hbw := HT.out.2.2.2.2.trans (hb2.mono HT.out.2.2.2.2.size)
  have s1 := HT.out.2.2.2.2.size
  have s2 := hb2.size
  have hpq : PlQ w1.heap.size (w1.heap.size + 1) p b ta ba sa tc m bc' L sc bs w2 := ⟨e0, e1, e2, by omega, by omega, HP.out.below hbw, HT.out.2.2.1.below hb2, HB.out.below hbw⟩
  have hA : (allOf p b).length ≤ 1000000 := by have h1 := all_len p b; have h0 := HL.out; omega
  have HCo := Lib.hid (collect_of 0 (w := w2) (gf := 27) (lb := #[pbox w1.heap.size, pbox (w1.heap.size + 1)]) hA (enters_of Try.func27 (by kernel_rfl) rfl)
    (Qr := PlQ w1.heap.size (w1.heap.size + 1) p b ta ba sa tc m bc' L sc bs) (fun V hb' => hpq.below hb') (fun k w' => places_iter k w2.heap.size w1.heap.size (w1.heap.size + 1) (D0 := fun _ => False) (w := w') (fun _ h => h.elim) HT.out.2.1 HM.out HT.out.1 HL.out hml (by omega)))
  have HBW := Lib.hid hbw
  clear hb2 hz2 e0 e1 e2 hbw hpq s1 s2 hA
  go_wp2_with fail
  refine HCo.out.mono ?_; rintro e w3 ⟨a, c, rfl, ho, hb3⟩
  have H3 := Lib.hid (And.intro ho hb3)
  obtain ⟨N, hN⟩ : ∃ N, (allOf p b).length = N := ⟨_, rfl⟩
  rw [hN] at H3
  clear ho hb3
  go_wp2_with fail
  go_ret
  exact ⟨a, c, by rw [hN]; rfl, by rw [hN]; exact own_mono9 H3.out.1 HBW.out.size, HBW.out.trans (H3.out.2.mono HBW.out.size)⟩

set_option maxRecDepth 100000 in
set_option maxHeartbeats 2000000 in
theorem apart_of {w : World} {p b : List UInt8} {ta sa : Option Addr} {m tc L sc : Nat} (hb : Rd w 1 sa b.length (bc b)) (hp : Rd w 1 ta p.length (bc p)) (hL : b.length = L) (hm : p.length = m) (hml : m ≤ 100000) (hll : L ≤ 100000) :
    Calls Try.prog 9 #[.slice sa L sc, .slice ta m tc] w fun e w' => ∃ a c, e = .returned (.slice a (apart m 0 (allOf p b)).length c) ∧ w'.ownsRow w.heap.size 3 1 (.slice a (apart m 0 (allOf p b)).length c) (apart m 0 (allOf p b)).length (ib (apart m 0 (allOf p b))) ∧ Below w.heap.size w w' := by
  have HSe := Lib.hid (seek_of (tc := tc) hp hm hml)
  have HB := Lib.hid hb
  have HP := Lib.hid hp
  have HL := Lib.hid hL
  have HM := Lib.hid hm
  clear hb hp hL hm
  go_enter Try.func9, Try.ntmps9
  go_wp2_with fail
  refine HSe.out.mono ?_; rintro e w1 ⟨bs, ba, bc', rfl, h1, h2, h3, hba, hb1⟩
  have HT := Lib.hid (And.intro h1 (And.intro h2 (And.intro h3 (And.intro hba hb1))))
  have HPl := Lib.hid (apart_call (w := w1) ta ba sa m tc bc' L sc)
  clear h1 h2 h3 hba hb1 HSe
  go_wp2_with fail
  refine HPl.out.mono ?_; rintro e w2 ⟨rfl, hb2, hz2, e0, e1, e2⟩
  have hbw := HT.out.2.2.2.2.trans (hb2.mono HT.out.2.2.2.2.size)
  have s1 := HT.out.2.2.2.2.size
  have s2 := hb2.size
  have hpq : PlQ w1.heap.size (w1.heap.size + 1) p b ta ba sa tc m bc' L sc bs w2 := ⟨e0, e1, e2, by omega, by omega, HP.out.below hbw, HT.out.2.2.1.below hb2, HB.out.below hbw⟩
  have hA : (apart m 0 (allOf p b)).length ≤ 1000000 := by have h1 := all_len p b; have h2 := apart_len m (allOf p b) 0; have h0 := HL.out; omega
  have HCo := Lib.hid (collect_of 0 (w := w2) (gf := 28) (lb := #[pbox w1.heap.size, pbox (w1.heap.size + 1)]) hA (enters_of Try.func28 (by kernel_rfl) rfl)
    (Qr := PlQ w1.heap.size (w1.heap.size + 1) p b ta ba sa tc m bc' L sc bs) (fun V hb' => hpq.below hb') (fun k w' => apart_iter k w2.heap.size w1.heap.size (w1.heap.size + 1) (D0 := fun _ => False) (w := w') (fun _ h => h.elim) HT.out.2.1 HM.out HT.out.1 HL.out hml (by omega)))
  have HBW := Lib.hid hbw
  clear hb2 hz2 e0 e1 e2 hbw hpq s1 s2 hA
  go_wp2_with fail
  refine HCo.out.mono ?_; rintro e w3 ⟨a, c, rfl, ho, hb3⟩
  have H3 := Lib.hid (And.intro ho hb3)
  obtain ⟨N, hN⟩ : ∃ N, (apart m 0 (allOf p b)).length = N := ⟨_, rfl⟩
  rw [hN] at H3
  clear ho hb3
  go_wp2_with fail
  go_ret
  exact ⟨a, c, by rw [hN]; rfl, by rw [hN]; exact own_mono9 H3.out.1 HBW.out.size, HBW.out.trans (H3.out.2.mono HBW.out.size)⟩

end Go.Proofs.Ytkgakgceamafcaa
