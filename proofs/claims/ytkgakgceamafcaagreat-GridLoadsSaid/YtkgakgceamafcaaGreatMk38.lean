/-
  Texts of this seat, put together (a claim holds few texts): FdJ.
-/
import Derived.Test.YtkgakgceamafcaaGreatMk37

namespace Go.Proofs.YtkgakgceamafcaaGreat
open Go Go.RowKit Go.Shelf
set_option linter.unusedVariables false
attribute [local go_sem] Oper.semAt_some

set_option maxRecDepth 100000 in
set_option maxHeartbeats 2000000 in
theorem glen_of {w : World} {pv : Value} {L : List Value} {n : Nat} (tl : Bool) (en : Int) (H : Tin w 194 pv L) (hn : L.length = n) :
    Calls Tryz.prog 15 #[.agg #[pv, .bool tl, .int .i64 en]] w fun e w' => e = .returned (.int .i64 n) ∧ Below w.heap.size w w' := by
  obtain ⟨px, rfl⟩ : ∃ px, pv = .pointer px := by
    rcases H.one with rfl | ⟨b, rfl⟩
    · exact ⟨_, rfl⟩
    · exact ⟨_, rfl⟩
  have hh := heap_alloc_new w (Obj.cells #[.pointer px, .bool tl, .int .i64 en] 27)
  have al := t_al w (Obj.cells #[.pointer px, .bool tl, .int .i64 en] 27)
  obtain ⟨w1, hw1⟩ : ∃ w1, w.alloc (Obj.cells #[.pointer px, .bool tl, .int .i64 en] 27) = w1 := ⟨_, rfl⟩
  rw [hw1] at hh al
  have c0 : w1.cell? ⟨w.heap.size, 0, none⟩ = some (.pointer px) := (cell_at hh 0).trans rfl
  have HL := Lib.hid (len_i (H.below al))
  rw [hn] at HL
  have AL := Lib.hid al
  clear hh al H hn
  go_enter Tryz.func15, Tryz.ntmps15
  go_wp2_with fail
  refine HL.out.mono ?_; rintro e w2 ⟨rfl, hb2⟩
  have HB := Lib.hid (AL.out.trans (hb2.mono AL.out.size))
  clear hb2
  go_wp2_with fail
  go_ret
  exact ⟨rfl, HB.out⟩

set_option maxRecDepth 100000 in
set_option maxHeartbeats 2000000 in
theorem cells_call {w : World} (ta ba : Option Addr) (m tc bc' : Nat) (px : Option Addr) (tl : Bool) (en : Int) (ap : Nat) :
    Calls Tryz.prog 88 #[.agg #[.slice ta m tc, .slice ba m bc'], .agg #[.pointer px, .bool tl, .int .i64 en], .pointer (some ⟨ap, 0, none⟩)] w fun e w' => e = .returned (.func (.func 139) #[] #[pbox (w.heap.size + 1), pbox w.heap.size, pbox (w.heap.size + 2)]) ∧ Below w.heap.size w w' ∧ w'.heap.size = w.heap.size + 3 ∧
      w'.heap[w.heap.size]? = some (.cells #[.slice ta m tc, .slice ba m bc'] 163 (0, 0)) ∧ w'.heap[w.heap.size + 1]? = some (.cells #[.pointer px, .bool tl, .int .i64 en] 27 (0, 0)) ∧ w'.heap[w.heap.size + 2]? = some (.cells #[.pointer (some ⟨ap, 0, none⟩)] 28 (0, 0)) := by
  go_enter Tryz.func88, Tryz.ntmps88
  go_wp2_with fail
  go_ret
  obtain ⟨h1, h2, h3⟩ := allocs_w [Obj.cells #[.slice ta m tc, .slice ba m bc'] 163, Obj.cells #[.pointer px, .bool tl, .int .i64 en] 27, Obj.cells #[.pointer (some ⟨ap, 0, none⟩)] 28] w
  exact ⟨rfl, h1, h2, h3 0 (by simp), h3 1 (by simp), h3 2 (by simp)⟩

/-- Has the c-th cell of the k-th row the text? -/
def hasC (l p : List UInt8) (Cs : List (List CelM)) (k c : Nat) : Bool := match Cs[k]? with
  | some ms => match ms[c]? with
    | some m => hasP p (atL l m.t)
    | none => false
  | none => false
def upC (l p : List UInt8) (Cs : List (List CelM)) (k c : Nat) : List (Nat × Nat) := ((List.range c).filter (hasC l p Cs k)).map fun c => (k, c)
/-- The cells of a row that have it. -/
def rowH (l p : List UInt8) (Cs : List (List CelM)) (q : Nat × R3) : List (Nat × Nat) := if q.2.b then [] else upC l p Cs q.1 q.2.n
/-- All of them, as they are read. -/
def havP (l p : List UInt8) (Cs : List (List CelM)) (Ls : List R3) : List (Nat × Nat) := (pairs Ls).flatMap (rowH l p Cs)
theorem upC_yes {l p : List UInt8} {Cs : List (List CelM)} {k c : Nat} (h : hasC l p Cs k c = true) : upC l p Cs k (c + 1) = upC l p Cs k c ++ [(k, c)] := by
  unfold upC
  rw [List.range_succ, List.filter_append, List.filter_cons, h, List.map_append]; rfl
theorem upC_no {l p : List UInt8} {Cs : List (List CelM)} {k c : Nat} (h : hasC l p Cs k c = false) : upC l p Cs k (c + 1) = upC l p Cs k c := by
  unfold upC
  rw [List.range_succ, List.filter_append, List.filter_cons, h]; simp
theorem upC_pre {l p : List UInt8} {Cs : List (List CelM)} {k c n : Nat} (h : c ≤ n) : upC l p Cs k c <+: upC l p Cs k n := by
  unfold upC
  rw [show n = c + (n - c) by omega, List.range_add, List.filter_append, List.map_append]
  exact List.prefix_append _ _
theorem hits_at {α β : Type} {P pre : List α} {f : α → List β} {q : α} {u : List β} {y : β} (h1 : pre = P.take pre.length) (h2 : P[pre.length]? = some q) (h3 : u ++ [y] <+: f q) :
    (P.flatMap f)[(pre.flatMap f ++ u).length]? = some y ∧ (pre.flatMap f ++ u) ++ [y] <+: P.flatMap f := by
  obtain ⟨v, hv⟩ := h3
  have e1 := at_split h2
  rw [← h1] at e1
  have e3 : P.flatMap f = (pre.flatMap f ++ u) ++ y :: (v ++ (P.drop (pre.length + 1)).flatMap f) := by
    conv => lhs; rw [e1]
    rw [List.flatMap_append, List.flatMap_cons, ← hv]
    simp
  rw [e3]
  refine ⟨by rw [List.getElem?_append_right (Nat.le_refl _), Nat.sub_self]; rfl, ⟨v ++ (P.drop (pre.length + 1)).flatMap f, ?_⟩⟩
  rw [List.append_assoc]; rfl
abbrev encS (x : Nat × Nat) : Array Value := #[.agg #[.int .i64 (x.1 : Int), .int .i64 (x.2 : Int)]]

set_option maxRecDepth 100000 in
set_option maxHeartbeats 4000000 in
theorem cells_iter (n n₀ Bg Bs Ba : Nat) {D0 : Bls} {w0 w : World} {l p : List UInt8} {B ap N : Nat} {Ls : List R3} {Cs : List (List CelM)} {ta ba px : Option Addr} {m tc bc' : Nat} {tl : Bool} {en : Int} {bs : List Nat}
    (hw : Below w0.heap.size w0 w) (hn0 : w0.heap.size ≤ n₀) (hn : n₀ ≤ w.heap.size) (hD0 : Have D0 w) (dg : D0 Bg ∨ Bg < n₀) (ds : D0 Bs ∨ Bs < n₀) (da : D0 Ba ∨ Ba < n₀)
    (g0 : w.cell? ⟨Bg, 0, none⟩ = some (.pointer px)) (g1 : w.cell? ⟨Bg, 1, none⟩ = some (.bool tl)) (g2 : w.cell? ⟨Bg, 2, none⟩ = some (.int .i64 en))
    (s0 : w.cell? ⟨Bs, 0, none⟩ = some (.slice ta m tc)) (s1 : w.cell? ⟨Bs, 1, none⟩ = some (.slice ba m bc')) (a0 : w.cell? ⟨Ba, 0, none⟩ = some (.pointer (some ⟨ap, 0, none⟩)))
    (HT : Tin w0 194 (.pointer px) (rws Ls)) (hN : Ls.length = N) (hNl : N ≤ 100000) (HG : GrIn w0 l Ls Cs) (HA : Ar w0 B ap l) (hl : l.length ≤ 16384) (hsh : ∀ ms ∈ Cs, ∀ m ∈ ms, m.t.length ≤ 100000) (hcl : ∀ ms ∈ Cs, ms.length ≤ 100000)
    (hp : Rd w0 1 ta p.length (bc p)) (hT : Tab p bs) (hb : Rd w0 1 ba m (ib bs)) (hm : p.length = m) (hbs : bs.length = m) (hml : m ≤ 100000) :
    Iter Fence.wide n Tryz.prog 139 #[pbox Bg, pbox Bs, pbox Ba] encS n₀ (fun ys => ys = havP l p Cs Ls) (fun pre => pre <+: havP l p Cs Ls) (fun pre x => (havP l p Cs Ls)[pre.length]? = some x) D0 w := fun lp J Jx W hW hJ hJx hY h0 => by
  have hbx (k : Nat) (h : D0 k ∨ k < n₀) : k < w.heap.size := h.elim (hD0 k) (fun h => by omega)
  have hlt (k : Nat) (h : D0 k ∨ k < n₀) : k < W.heap.size := Nat.lt_of_lt_of_le (hbx k h) hW.size
  obtain ⟨w1, hw1, hb1, hz1, hh1⟩ : ∃ w1, W.alloc (Obj.cells #[.func (.yield lp) #[] #[]] 169) = w1 ∧ Below W.heap.size W w1 ∧ w1.heap.size = W.heap.size + 1 ∧ w1.heap[W.heap.size]? = some (.cells #[.func (.yield lp) #[] #[]] 169 (0, 0)) := ⟨_, rfl, t_al _ _, by simp, World.alloc_heap_new _ _⟩
  have mv (b o : Nat) (v : Value) (h : D0 b ∨ b < n₀) (hc : w.cell? ⟨b, o, none⟩ = some v) : w1.cell? ⟨b, o, none⟩ = some v := (hb1.cell (p := ⟨b, o, none⟩) (hlt _ h)).trans ((hW.cell (p := ⟨b, o, none⟩) (hbx _ h)).trans hc)
  have g01 := mv _ _ _ dg g0
  have g11 := mv _ _ _ dg g1
  have g21 := mv _ _ _ dg g2
  have s01 := mv _ _ _ ds s0
  have s11 := mv _ _ _ ds s1
  have a01 := mv _ _ _ da a0
  have cy1 : w1.cell? ⟨W.heap.size, 0, none⟩ = some (.func (.yield lp) #[] #[]) := by rw [cell_at hh1]; rfl
  have hb01 : Below w0.heap.size w0 w1 := hw.trans ((hW.mono hw.size).trans (hb1.mono (Nat.le_trans hw.size hW.size)))
  have HT1 := HT.below hb01
  have hmix : Tryz.prog.follows .mixedOrders = true := by kernel_rfl
  have HLn := Lib.hid (glen_of (w := w1.drew) tl en (HT1.below (Below.refl _ w1).drew) (n := N) (by rw [rws_len]; exact hN))
  have HRgA := Lib.hid (fun V (hv : Below w1.heap.size w1 V) => range_call (p := 0) (q := N) 0 (N : Int) (HT1.below hv) (n := N) (by rw [rws_len]; exact hN) (by omega) (by simp [heldN]) (by rw [heldN_nat (Nat.le_refl _)]; exact Nat.max_eq_right (Nat.zero_le _)))
  have HD := Lib.hid (And.intro HT (And.intro HG (And.intro HA (And.intro hsh hcl))))
  have HP := Lib.hid (And.intro hp (And.intro hT (And.intro hb (And.intro hm hbs))))
  have HN := Lib.hid hN
  clear g0 g1 g2 s0 s1 a0 HT hN HG HA hsh hcl hp hT hb hm hbs HT1 mv
  refine callsIn_of_wp_marks Tryz.func139 rfl trivial ?_ rfl
  simp only [Tryz.ntmps139, List.size_toArray, List.length_cons, List.length_nil, Nat.reduceAdd, Nat.reduceSub, Array.replicate_succ, Array.replicate_zero, List.push_toArray, List.append_toArray, List.nil_append, List.cons_append]
  gi_wp2
  clear hw1
  rename_i KK hKK
  have key : ∀ (w5 w6 : World), Below w1.heap.size w1 w5 → Five2 w5 px ((0 : Nat) : Int) N 122 123 w6 → KK { tmps := #[.func (.yield lp) #[] #[], pbox Bg, pbox Bs, pbox Ba, pbox W.heap.size, undef, undef, undef, undef, pbox Bg, .agg #[.pointer px], .agg #[.pointer px, .bool tl, .int .i64 en], .int .i64 N, .func (.func 159) #[] #[pbox w5.heap.size, pbox (w5.heap.size + 1), pbox (w5.heap.size + 2), pbox (w5.heap.size + 3), pbox (w5.heap.size + 4)], undef, undef, undef, undef, undef, undef, undef, undef, undef, undef, undef, undef, undef, undef, undef, undef, undef, undef, undef, undef, undef, undef, undef, undef, undef], defers := [] } w6 := by
    intro w5 w6 hb5 F5
    have hb16 := hb5.trans (F5.below.mono hb5.size)
    have hb06 := hb01.trans (hb16.mono hb01.size)
    have s5 := hb5.size
    have s6 := F5.size
    have hnW : n₀ ≤ W.heap.size := Nat.le_trans hn hW.size
    have hn6 : n₀ ≤ w6.heap.size := by omega
    obtain ⟨D1, hD1⟩ : ∃ D1 : Bls, D1 = fun k => D0 k ∨ k = W.heap.size := ⟨_, rfl⟩
    have d1 (k : Nat) (h : D0 k) : D1 k := by rw [hD1]; exact .inl h
    have d1' : D1 W.heap.size := by rw [hD1]; exact .inr rfl
    have x1 (k : Nat) (h : D1 k) : D0 k ∨ k = W.heap.size := by rw [hD1] at h; exact h
    clear hD1
    have hbW6 : Below W.heap.size W w6 := hb1.trans (hb16.mono hb1.size)
    have hD1h : Have D1 w6 := fun k h => (x1 k h).elim (fun h => by have := hlt k (.inl h); omega) (fun h => by omega)
    have mv6 (b o : Nat) (v : Value) (h : D0 b ∨ b < n₀) (hc : w1.cell? ⟨b, o, none⟩ = some v) : w6.cell? ⟨b, o, none⟩ = some v := (hb16.cell (p := ⟨b, o, none⟩) (show b < w1.heap.size by have := hlt b h; omega)).trans hc
    have s06 := mv6 _ _ _ ds s01
    have s16 := mv6 _ _ _ ds s11
    have a06 := mv6 _ _ _ da a01
    have cy6 := (hb16.cell (p := ⟨W.heap.size, 0, none⟩) (show W.heap.size < w1.heap.size by omega)).trans cy1
    refine hKK _ _ ?_
    clear hKK
    have HI := rng_all (n - 1) n₀ (D0 := fun k => w5.heap.size ≤ k ∧ k < w5.heap.size + 5) (by rw [HN.out]; exact F5) HD.out.1 hb06 hn0 hn6 (fun k h => by omega) (fun k h1 h2 => .inl ⟨h1, h2⟩) (by rw [HN.out]; exact hNl)
    gi_wp2
    refine range_outer (gf := 159) (lb := #[pbox w5.heap.size, pbox (w5.heap.size + 1), pbox (w5.heap.size + 2), pbox (w5.heap.size + 3), pbox (w5.heap.size + 4)]) rfl (fun h => by simp [Fence.wide] at h) rfl trivial (enters_of Tryz.func159 (by kernel_rfl) rfl)
      HI hn6 (Below.refl _ _) (fun k h => by omega) (fun _ => rfl)
      (KeepQ (fun s => s = (pairs Ls).take s.length) J (fun pre => pre.flatMap (rowH l p Cs)) D1 w6 n₀) (KeepX Jx (fun _ q => q <+: havP l p Cs Ls) D1 w6) (KeepQ.firm _ hJ _ hn6 hD1h) (KeepX.firm hJx _ hD1h)
      ⟨rfl, fun k h => ⟨by omega, fun hk => by rcases x1 k hk with h1 | h1; have := hlt k (.inl h1); omega; omega⟩, Below.refl _ _, Same.refl _ _, hJ _ _ _ _ _ h0 (Moves.below hbW6) (fun k h => h.elim (fun h => .inr (by omega)) (fun h => (x1 k h).elim .inl (fun h => .inr (by omega))))⟩
      (fun x a' E W' => ∃ rb, E rb ∧ W'.cell? ⟨rb, 0, none⟩ = some (.slice x.2.a x.2.n x.2.c) ∧ W'.cell? ⟨rb, 1, none⟩ = some (.int .i64 x.2.e) ∧ W'.cell? ⟨rb, 2, none⟩ = some (.bool x.2.b) ∧ a' = { tmps := #[.func (.yield lp) #[] #[], pbox Bg, pbox Bs, pbox Ba, pbox W.heap.size, .int .i64 (x.1 : Int), pbox rb, undef, undef, pbox Bg, .agg #[.pointer px], .agg #[.pointer px, .bool tl, .int .i64 en], .int .i64 N, .func (.func 159) #[] #[pbox w5.heap.size, pbox (w5.heap.size + 1), pbox (w5.heap.size + 2), pbox (w5.heap.size + 3), pbox (w5.heap.size + 4)], .int .i64 (x.1 : Int), .agg #[.slice x.2.a x.2.n x.2.c, .int .i64 x.2.e, .bool x.2.b], undef, undef, undef, undef, undef, undef, undef, undef, undef, undef, undef, undef, undef, undef, undef, undef, undef, undef, undef, undef, undef, undef, undef], defers := [] })
      (fun x a' E V l r o ⟨rb, h1, h2, h3, h4, h5⟩ hl => ⟨rb, h1, cell_put h2 hl, cell_put h3 hl, cell_put h4 hl, h5⟩) ?assign ?body ?done ?stop
    case assign =>
      intro l' pre x E V4 K hl' hi hE hK
      simp only [encP, r3V]
      gi_wp2
      have al := t_al V4 (Obj.cells #[.slice x.2.a x.2.n x.2.c, .int .i64 x.2.e, .bool x.2.b] 103)
      refine hK _ (fun k => E k ∨ k = V4.heap.size) _ (fun k h => .inl h) (fun k h => by rw [World.size_alloc]; exact h.elim (fun h => by have := hE k h; omega) (fun h => by omega)) (Same.below al hE) (al.mono (Nat.le_trans hn6 hi.2.2.1.size)) ?_ ⟨V4.heap.size, .inr rfl, by rw [cell_at (World.alloc_heap_new _ _)]; rfl, by rw [cell_at (World.alloc_heap_new _ _)]; rfl, by rw [cell_at (World.alloc_heap_new _ _)]; rfl, rfl⟩
      exact KeepQ.firm _ hJ _ hn6 hD1h _ _ _ _ _ hi (Moves.below al) (fun k h => h.elim .inl (fun h => .inr (by omega)))
    case body =>
      rintro lo pre ⟨k, ⟨xa, xn, xc, xe, xb⟩⟩ a' E V hEl ⟨r, hr⟩ hE ⟨hP, k1, k2, k3, k4⟩ ⟨rb, hrb, q0, q1, q2, rfl⟩ hNx
      simp only at q0 q1 q2
      obtain ⟨hkp, hLk⟩ := pairs_inv hNx
      rw [← hkp] at hLk
      have HK := Lib.hid (And.intro hP (And.intro hNx (And.intro k1 (And.intro k2 (And.intro k3 k4)))))
      have HLk := Lib.hid hLk
      have HKP := Lib.hid hkp
      cases xb with
      | true =>
        clear hP hNx k1 k2 k3 k4 hLk hkp
        gi_wp2
        refine ⟨Same.refl _ _, Below.refl _ _, take_next HK.out.1 HK.out.2.1, HK.out.2.2.1, HK.out.2.2.2.1, HK.out.2.2.2.2.1, ?_⟩
        show J ((pre ++ [_]).flatMap _) _ _
        rw [List.flatMap_append, List.flatMap_cons, List.flatMap_nil, List.append_nil]
        show J (_ ++ []) _ _
        rw [List.append_nil]
        exact HK.out.2.2.2.2.2
      | false =>
        have hkc : k < Cs.length := by rw [← HD.out.2.1.len]; exact (List.getElem?_eq_some_iff.1 hLk).1
        obtain ⟨ms, hms⟩ : ∃ ms, Cs[k]? = some ms := ⟨_, List.getElem?_eq_getElem hkc⟩
        obtain ⟨hxn, hro⟩ := HD.out.2.1.row k _ ms hLk hms
        simp only at hxn hro
        have hmem := List.mem_of_getElem? hms
        have hxl : xn ≤ 100000 := by rw [hxn]; exact HD.out.2.2.2.2 ms hmem
        have HMS := Lib.hid (And.intro hms (And.intro hxn (And.intro hro hmem)))
        have HRow : Hid (rowH l p Cs (k, ⟨xa, xn, xc, xe, false⟩) = upC l p Cs k xn) := Lib.hid rfl
        have hnV : n₀ ≤ V.heap.size := Nat.le_trans hn6 k2.size
        have hHV : Have (fun k => E k ∨ D1 k) V := fun k h => h.elim (hE k) (k3.lt hD1h)
        have HHV := Lib.hid hHV
        have stV (b o : Nat) (v : Value) (h : D0 b ∨ b < n₀) (hc : w6.cell? ⟨b, o, none⟩ = some v) : V.cell? ⟨b, o, none⟩ = some v := (h.elim (fun h => k3.cell (o := o) (d1 _ h)) (fun h => k2.cell (p := ⟨b, o, none⟩) h)).trans hc
        have s0V := Lib.hid (stV _ _ _ ds s06)
        have s1V := Lib.hid (stV _ _ _ ds s16)
        have a0V := Lib.hid (stV _ _ _ da a06)
        have cyV := Lib.hid ((k3.cell (o := 0) d1').trans cy6)
        have hb0V := Lib.hid (hb06.trans (k2.mono hn0))
        clear hP hNx k1 k2 k3 k4 hLk hkp hms hxn hro hmem stV hHV hkc
        gi_wp2
        gi_loopw [21] (fun v21 wr => ∃ c : Nat, v21 = .int .i64 (c : Int) ∧ c ≤ xn ∧ J (pre.flatMap (rowH l p Cs) ++ upC l p Cs k c) (fun k => E k ∨ D1 k) wr ∧ Same (fun k => E k ∨ D1 k) V wr ∧ Below n₀ V wr) (fun v21 _ => xn - (intOf v21).toNat)
        case atStart => exact ⟨0, rfl, Nat.zero_le _, by show J (_ ++ []) _ _; rw [List.append_nil]; exact HK.out.2.2.2.2.2, Same.refl _ _, Below.refl _ _⟩
        case round =>
          obtain ⟨c, rfl, hcn, hJs, hsm, hnx⟩ := hrel
          have HJs := Lib.hid hJs
          have HSm := Lib.hid hsm
          have HNx := Lib.hid hnx
          have hnwr : n₀ ≤ wr.heap.size := Nat.le_trans hnV hnx.size
          by_cases hlc : c < xn
          · have dk : decide (c < xn) = true := decide_eq_true hlc
            have hcm : c < ms.length := by rw [← HMS.out.2.1]; exact hlc
            have hb0r := hb0V.out.trans (hnx.mono hn0)
            have hror := HMS.out.2.2.1.below hb0r
            obtain ⟨cg, co, rfl, hcg, hc0, hc1, hc2, hc3⟩ := rd_cell hror.rd hcm
            have hcem := hror.ces ms[c] (List.getElem_mem hcm)
            have htl := HD.out.2.2.2.1 ms HMS.out.2.2.2 ms[c] (List.getElem_mem hcm)
            have hmc : ms[c]? = some ms[c] := List.getElem?_eq_getElem hcm
            have HHas : Hid (hasC l p Cs k c = hasP p (atL l ms[c].t)) := by
              show _ = _
              unfold hasC
              rw [HMS.out.1]
              show (match ms[c]? with | some m => hasP p (atL l m.t) | none => false) = _
              rw [hmc]
            generalize ms[c] = mc at *
            obtain ⟨ca, cn, cc, cx, cyy, ck, ct⟩ := mc
            simp only at hc0 hc1 hc2 hc3 hcem htl HHas
            obtain ⟨wq, hwq, hbq, e0, e1, e2, e3⟩ : ∃ wq, wr.alloc (Obj.cells #[.slice ca cn cc, .int .i64 cx, .int .i64 cyy, .bool ck] 61) = wq ∧ Below wr.heap.size wr wq ∧ wq.cell? ⟨wr.heap.size, 0, none⟩ = some (.slice ca cn cc) ∧ wq.cell? ⟨wr.heap.size, 1, none⟩ = some (.int .i64 cx) ∧ wq.cell? ⟨wr.heap.size, 2, none⟩ = some (.int .i64 cyy) ∧ wq.cell? ⟨wr.heap.size, 3, none⟩ = some (.bool ck) := ⟨_, rfl, t_al _ _, by rw [cell_at (heap_alloc_new _ _)]; rfl, by rw [cell_at (heap_alloc_new _ _)]; rfl, by rw [cell_at (heap_alloc_new _ _)]; rfl, by rw [cell_at (heap_alloc_new _ _)]; rfl⟩
            have hlV (b : Nat) (h : D0 b ∨ b < n₀) : b < wr.heap.size := by have h1 := hlt b h; have h2 := hb0r.size; have h3 := hnx.size; have h4 := HK.out.2.2.2.1.size; omega
            have stq (b o : Nat) (v : Value) (h : D0 b ∨ b < n₀) (hc : V.cell? ⟨b, o, none⟩ = some v) : wq.cell? ⟨b, o, none⟩ = some v := (hbq.cell (p := ⟨b, o, none⟩) (hlV b h)).trans ((h.elim (fun h => hsm.cell (o := o) (.inr (d1 _ h))) (fun h => hnx.cell (p := ⟨b, o, none⟩) h)).trans hc)
            have s0q := stq _ _ _ ds s0V.out
            have s1q := stq _ _ _ ds s1V.out
            have a0q := stq _ _ _ da a0V.out
            have hyl : W.heap.size < wr.heap.size := by have h3 := hnx.size; have h4 := HK.out.2.2.2.1.size; omega
            have cyq := (hbq.cell (p := ⟨W.heap.size, 0, none⟩) hyl).trans ((hsm.cell (o := 0) (.inr d1')).trans cyV.out)
            have hb0q := hb0r.trans (hbq.mono hb0r.size)
            have HIn := Lib.hid ((callsIn_wide (n := 0)).1 (in_in 0 (x := cx) (y := cyy) (k := ck) (tc := tc) (bc' := bc') (HD.out.2.2.1.below hb0q) hl ((hcem.below hbq).tx.mono (Nat.zero_le _)) hcem.inl htl (HP.out.1.below hb0q) HP.out.2.1 (HP.out.2.2.1.below hb0q) HP.out.2.2.2.1 HP.out.2.2.2.2 hml))
            have HBq := Lib.hid hbq
            have i0 : (0 : Int) ≤ (c : Int) := by omega
            have i1 : (c : Int) < (xn : Int) := by omega
            clear hJs hsm hnx hror hcem htl hmc hcm hb0q stq hb0r hcg
            cases hhas : hasP p (atL l ct) with
            | true =>
              rw [hhas] at HIn HHas
              gi_wp2
              refine ⟨trivial, fun h => by simp [Fence.wide] at h, (CallsIn.inRound lo ((callsIn_wide (n := n - 1 - 1 - 1)).2 HIn.out)).mono ?_⟩
              rintro e w3 ⟨rfl, hb3⟩
              have hb3r := HBq.out.trans (hb3.mono HBq.out.size)
              have hJ3 := hJ.below HJs.out hb3r
              have hHave : Have (fun k => E k ∨ D1 k) w3 := fun k' h => Nat.lt_of_lt_of_le (HSm.out.lt HHV.out h) hb3r.size
              have hup := upC_yes HHas.out
              have hat := hits_at (P := pairs Ls) (f := rowH l p Cs) (u := upC l p Cs k c) (y := (k, c)) HK.out.1 HK.out.2.1 (by rw [HRow.out, ← hup]; exact upC_pre (by omega))
              obtain ⟨fn, tmps, assign, body, hy, hR⟩ := hY _ (k, c) _ w3 hJ3 hHave hat.1
              have hyq3 := (hb3.cell (p := ⟨W.heap.size, 0, none⟩) (by show W.heap.size < _; have := HBq.out.size; omega)).trans cyq
              have HAT := Lib.hid (And.intro hat.2 (And.intro hup hb3r))
              have HHv := Lib.hid hHave
              simp only [encS] at hy
              clear hat hup hb3r hHave hJ3 HIn hb3 cyq s0q s1q a0q e0 e1 e2 e3
              gi_wp2
              refine ⟨fun h => by simp [Fence.wide] at h, RoundIn.mono (F := Fence.wide) ⟨hR.1, fun c cs _ => hR.2 c cs (room_wide _)⟩ ?_⟩
              rintro e W3 ⟨hs, (⟨rfl, hJ4, hk3⟩ | ⟨rfl, hJx3⟩)⟩
              · gi_wp2
                have hsA := HSm.out.trans ((Same.below HAT.out.2.2 (fun k h => HSm.out.lt HHV.out h)).trans hs)
                have hkA := HNx.out.trans ((HAT.out.2.2.mono hnwr).trans hk3)
                go_roundw
                case rel => exact ⟨c + 1, by go_num, by omega, by rw [HAT.out.2.1, ← List.append_assoc]; exact hJ4, hsA, hkA⟩
                case measure => simp [intOf]; omega
              · gi_wp2
                have hsA := HSm.out.trans ((Same.below HAT.out.2.2 (fun k h => HSm.out.lt HHV.out h)).trans hs)
                exact ⟨hsA.mono fun _ h => .inl h, rfl, fun k' h he => (HK.out.2.2.1 k' he).2 h, HK.out.2.2.2.2.1.trans (hsA.mono fun _ h => .inr h), _, HAT.out.1, hJx3⟩
            | false =>
              rw [hhas] at HIn HHas
              gi_wp2
              refine ⟨trivial, fun h => by simp [Fence.wide] at h, (CallsIn.inRound lo ((callsIn_wide (n := n - 1 - 1 - 1)).2 HIn.out)).mono ?_⟩
              rintro e w3 ⟨rfl, hb3⟩
              have hb3r := HBq.out.trans (hb3.mono HBq.out.size)
              have hup := upC_no HHas.out
              have hJ3 := hJ.below HJs.out hb3r
              rw [← hup] at hJ3
              have HAT := Lib.hid (And.intro hJ3 hb3r)
              clear hup hb3r hJ3 HIn hb3 cyq s0q s1q a0q e0 e1 e2 e3
              gi_wp2
              refine ⟨(fun _ h => by cases h), ?_⟩
              gi_wp2
              go_roundw
              case rel => exact ⟨c + 1, by go_num, by omega, HAT.out.1, HSm.out.trans (Same.below HAT.out.2 (fun k h => HSm.out.lt HHV.out h)), HNx.out.trans (HAT.out.2.mono hnwr)⟩
              case measure => simp [intOf]; omega
          · have dk : decide (c < xn) = false := decide_eq_false hlc
            have hce : c = xn := by omega
            subst hce
            clear hJs hsm hnx
            gi_wp2
            refine ⟨HSm.out.mono fun _ h => .inl h, HNx.out, take_next HK.out.1 HK.out.2.1, HK.out.2.2.1, HK.out.2.2.2.1.trans HNx.out, HK.out.2.2.2.2.1.trans (HSm.out.mono fun _ h => .inr h), ?_⟩
            show J ((pre ++ [_]).flatMap _) _ _
            rw [List.flatMap_append, List.flatMap_cons, List.flatMap_nil, List.append_nil, HRow.out]
            exact HJs.out
    case done =>
      rintro d ys E W3 hd hEd rfl ⟨_, m1, m2, m3, m4⟩ hK
      refine ⟨by simp, .inl ⟨_, _, rfl, run_takeDeferred hK, ?_⟩⟩
      refine ⟨_, results_none rfl _ _ _, ⟨_, rfl⟩, .inl ⟨_, _, rfl, hJ.go m4 (Moves.put _ (.inl hEd))⟩⟩
    case stop =>
      rintro d c pre E W3 hd hEd hSp ⟨rfl, m1, m3, q, hq, m4⟩ hK
      gi_wp2
      refine ⟨by simp, .inl ⟨_, _, rfl, run_takeDeferred hK, ?_⟩⟩
      exact ⟨_, results_none rfl _ _ _, ⟨_, rfl⟩, .inr ⟨_, _, hq, hJx.go m4 (Moves.put _ (.inl hEd))⟩⟩
  clear hKK
  have hlg : Bg < w1.heap.size := by have := hlt _ dg; omega
  refine wpIn_mono (Q := Exit.then KK (fun _ _ _ => False)) ?_ (fun e a W h => by cases e <;> first | exact h | exact h.elim)
  gi_region_with_o (first
    | (refine ⟨trivial, (fun h => by simp [Fence.wide] at h), ((callsIn_wide (n := n - 1)).2 HLn.out).mono ?_⟩; clear HLn; rintro e V ⟨rfl, hbV⟩
       have hb1V := (Below.refl _ w1).drew.trans hbV
       have c0V := (hb1V.cell (p := ⟨Bg, 0, none⟩) hlg).trans g01
       have HRg := Lib.hid (HRgA.out V hb1V))
    | (refine ⟨trivial, (fun h => by simp [Fence.wide] at h), ((callsIn_wide (n := n - 1)).2 HRg.out).mono ?_⟩; clear HRg; rintro e w6 ⟨w5, hb5, _, F5, rfl⟩))
  all_goals (exact key _ _ (hb1V.trans (hb5.mono hb1V.size)) F5)

end Go.Proofs.YtkgakgceamafcaaGreat
