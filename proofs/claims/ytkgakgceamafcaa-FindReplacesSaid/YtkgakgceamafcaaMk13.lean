/-
  Texts of this seat, put together (a claim holds few texts): FdC, WgE, WgF.
-/
import Derived.Test.YtkgakgceamafcaaMk12
import Derived.Laws.MakeOwn
import Derived.Laws.OwnMore

namespace Go.Proofs.Ytkgakgceamafcaa
open Go Go.RowKit Go.Shelf
set_option linter.unusedVariables false
attribute [local go_sem] Oper.semAt_some

/-- What the iterator over places reads: its boxes, the text that is sought, its table, and the other text. -/
structure PlQ (B1 B2 : Nat) (p b : List UInt8) (ta ba sa : Option Addr) (tc m bc' L sc : Nat) (bs : List Nat) (W : World) : Prop where
  c0 : W.cell? ⟨B1, 0, none⟩ = some (.slice ta m tc)
  c1 : W.cell? ⟨B1, 1, none⟩ = some (.slice ba m bc')
  c2 : W.cell? ⟨B2, 0, none⟩ = some (.slice sa L sc)
  lt1 : B1 < W.heap.size
  lt2 : B2 < W.heap.size
  txt : Rd W 1 ta p.length (bc p)
  rd : Rd W 1 ba m (ib bs)
  byt : Rd W 1 sa b.length (bc b)
theorem PlQ.below {B1 B2 : Nat} {p b : List UInt8} {ta ba sa : Option Addr} {tc m bc' L sc : Nat} {bs : List Nat} {W W' : World} (h : PlQ B1 B2 p b ta ba sa tc m bc' L sc bs W) (hb : Below W.heap.size W W') : PlQ B1 B2 p b ta ba sa tc m bc' L sc bs W' :=
  ⟨(hb.cell (p := ⟨B1, 0, none⟩) h.lt1).trans h.c0, (hb.cell (p := ⟨B1, 1, none⟩) h.lt1).trans h.c1, (hb.cell (p := ⟨B2, 0, none⟩) h.lt2).trans h.c2, Nat.lt_of_lt_of_le h.lt1 hb.size, Nat.lt_of_lt_of_le h.lt2 hb.size, h.txt.below hb, h.rd.below hb, h.byt.below hb⟩
abbrev encN (x : Nat) : Array Value := #[.int .i64 (x : Int)]

set_option maxRecDepth 100000 in
set_option maxHeartbeats 4000000 in
theorem places_iter (n n₀ B1 B2 : Nat) {D0 : Bls} {w : World} {p b : List UInt8} {ta ba sa : Option Addr} {tc m bc' L sc : Nat} {bs : List Nat} (hD0 : Have D0 w) (hT : Tab p bs) (hpl : p.length = m) (hbs : bs.length = m) (hL : b.length = L) (hm : m ≤ 100000) (hbl : L ≤ 1000000) :
    IterQ (PlQ B1 B2 p b ta ba sa tc m bc' L sc bs) Fence.wide n Try.prog 27 #[.pointer (some ⟨B1, 0, none⟩), .pointer (some ⟨B2, 0, none⟩)] encN n₀ (fun ys => ys = allOf p b) (fun pre => pre <+: allOf p b) (fun pre x => (allOf p b)[pre.length]? = some x) D0 w := fun l J Jx W hW hJ hJx hQ hY h0 => by
  have hq0 := hQ _ _ _ h0
  have c0' := hq0.c0
  have c1' := hq0.c1
  have c2' := hq0.c2
  have hDW : Have D0 W := fun k h => Nat.lt_of_lt_of_le (hD0 k h) hW.size
  have HL := Lib.hid hL
  have HSK := Lib.hid (And.intro hT (And.intro hpl hbs))
  clear hq0 hT hpl hbs hL
  refine callsIn_of_wp Try.func27 rfl trivial ?_ rfl
  simp only [Try.ntmps27, List.size_toArray, List.length_cons, List.length_nil, Nat.reduceAdd, Nat.reduceSub, Array.replicate_succ, Array.replicate_zero, List.push_toArray, List.append_toArray, List.nil_append, List.cons_append]
  by_cases hm0 : m = 0
  · have dm : ((m : Int) == 0) = true := by simp; omega
    have dm' : (m == 0) = true := by simp; omega
    have hp0 : p = [] := List.eq_nil_of_length_eq_zero (by rw [HSK.out.2.1]; exact hm0)
    have HA : Hid (allOf p b = []) := by show _ = _; unfold allOf; rw [if_pos hp0]
    have HJ0 := Lib.hid h0
    subst hm0
    clear hp0 h0
    gi_wp2
    refine bodyPost_ret (results_none rfl _ _ _) rfl ?_
    exact ⟨⟨_, rfl⟩, .inl (by first | exact ⟨_, _, HA.out.symm, HJ0.out⟩ | exact ⟨_, by rw [HA.out]; exact HJ0.out⟩)⟩
  · have dm : ((m : Int) == 0) = false := by simp; omega
    have dm' : (m == 0) = false := by simp; omega
    have hpn : p ≠ [] := fun e => hm0 (by have := HSK.out.2.1; rw [e] at this; exact this.symm)
    have HA : Hid (allOf p b = upTo p b L) := by show _ = _; unfold allOf; rw [if_neg hpn, HL.out]
    have HU := Lib.hid (upTo_zero (b := b) hpn)
    have HJ0 := Lib.hid h0
    clear hpn h0
    gi_wp2
    gi_loopw [4, 13] (fun v4 v13 wr => ∃ k n : Nat, v4 = .int .i64 (n : Int) ∧ v13 = .int .i64 (k : Int) ∧ k ≤ L ∧ Lg p (b.take k) n ∧ J (upTo p b k) D0 wr ∧ W.heap.size ≤ wr.heap.size) (fun _ v13 _ => L - (intOf v13).toNat)
    case atStart => exact ⟨0, 0, rfl, rfl, Nat.zero_le _, by rw [List.take_zero]; exact lg_nil p, by rw [HU.out]; exact HJ0.out, Nat.le_refl _⟩
    case round =>
      obtain ⟨k, n1, rfl, rfl, hk, hLg, hJs, hsz⟩ := hrel
      have hqr := hQ _ _ _ hJs
      have r0 := hqr.c0
      have r1 := hqr.c1
      by_cases hlt2 : k < L
      · have dk : decide (k < L) = true := decide_eq_true hlt2
        have hkb : k < b.length := by rw [HL.out]; exact hlt2
        have hrd := hqr.byt
        obtain ⟨sg, soff, rfl, hsg, hsc⟩ := rd_at hrd hkb
        obtain ⟨x, hx⟩ : ∃ x, lb b k = x := ⟨_, rfl⟩
        rw [hx] at hsc
        obtain ⟨ch, hch⟩ : ∃ ch, b[k]? = some ch := ⟨_, List.getElem?_eq_getElem hkb⟩
        have hxc : (ch.toNat : Int) = x := by rw [← hx]; exact (lb_some hch).symm
        have hn1 : n1 ≤ m := by rw [← HSK.out.2.1]; exact hLg.le
        have HFu := Lib.hid ((callsIn_wide (n := n - 1)).2 (further_of (c := ch) (tc := tc) (bc' := bc') hqr.txt (by rw [HSK.out.2.2]; exact hqr.rd) HSK.out.2.1 HSK.out.2.2 hxc (by omega) (by omega) (Nat.le_refl _) HSK.out.1 hn1 hLg))
        have HTS : Hid (b.take k ++ [ch] = b.take (k + 1)) := by show _ = _; rw [List.take_add_one, hch]; rfl
        have HKB := Lib.hid hkb
        have HJS := Lib.hid hJs
        have hl1 := hqr.lt1
        clear hrd hx hch hxc hqr hLg hJs
        gi_wp2
        refine ⟨trivial, fun h => by simp [Fence.wide] at h, HFu.out.mono ?_⟩
        rintro e w2 ⟨n2, rfl, hL2, hb2⟩
        rw [HTS.out] at hL2
        have hocc := occ_bor HKB.out hL2
        rw [HSK.out.2.1] at hocc
        have hJ2 := hJ.below HJS.out hb2
        have hsz2 : W.heap.size ≤ w2.heap.size := Nat.le_trans hsz hb2.size
        have s0 := (hb2.cell (p := ⟨B1, 0, none⟩) hl1).trans r0
        have HL2 := Lib.hid hL2
        by_cases hnm : n2 = m
        · have hoc := hocc.1 hnm
          have dn : (n2 == m) = true := by simpa using hnm
          have dn' : ((n2 : Int) == (m : Int)) = true := by simp; omega
          obtain ⟨q, hq⟩ : ∃ q, k + 1 - m = q := ⟨_, rfl⟩
          have hqi : (k : Int) + 1 - (n2 : Int) = (q : Int) := by omega
          have hyes := upTo_yes (p := p) (b := b) (k := k) (by rw [HSK.out.2.1]; exact hoc.1) (by rw [HSK.out.2.1]; exact hoc.2)
          rw [HSK.out.2.1, hq] at hyes
          have hpre : upTo p b k ++ [q] <+: allOf p b := by rw [← hyes, HA.out]; exact upTo_pre (by omega)
          obtain ⟨fn, tmps, assign, body, hy, hR⟩ := hY _ q _ w2 hJ2 (fun k' h => Nat.lt_of_lt_of_le (hDW k' h) hsz2) (pre_at hpre)
          have HP := Lib.hid (And.intro hpre hyes)
          have hwq : IntKind.i64.wrap ((k : Int) + 1 - (n2 : Int)) = (q : Int) := by rw [hqi, IntKind.wrap_i64]; omega
          simp only [encN] at hy
          clear hocc hoc hyes hpre hJ2 hq hnm HFu hwq
          gi_wp2
          refine ⟨fun h => by simp [Fence.wide] at h, hR.mono ?_⟩
          rintro e W3 ⟨hs3, (⟨rfl, hJ3, hk3⟩ | ⟨rfl, hJx3⟩)⟩
          · gi_wp2
            go_roundw
            case rel => exact ⟨k + 1, n2, rfl, by go_num, by omega, HL2.out, by rw [HP.out.2]; exact hJ3, Nat.le_trans hsz2 hk3.size⟩
            case measure => simp [intOf]; omega
          · gi_wp2
            refine bodyPost_ret (results_none rfl _ _ _) rfl ?_
            exact ⟨⟨_, rfl⟩, .inr ⟨_, _, HP.out.1, hJx3⟩⟩
        · have hno := upTo_no (p := p) (b := b) (k := k) (fun h => hnm (hocc.2 (by rw [HSK.out.2.1] at h; exact h)))
          have dn : (n2 == m) = false := by simpa using hnm
          have dn' : ((n2 : Int) == (m : Int)) = false := by simp; omega
          have HJ2 := Lib.hid hJ2
          have HNO := Lib.hid hno
          clear hocc hnm HFu hJ2 hno
          gi_wp2
          refine ⟨(fun _ h => by cases h), ?_⟩
          gi_wp2
          go_roundw
          case rel => exact ⟨k + 1, n2, rfl, by go_num, by omega, HL2.out, by rw [HNO.out]; exact HJ2.out, hsz2⟩
          case measure => simp [intOf]; omega
      · obtain rfl : k = L := by omega
        have HJ := Lib.hid hJs
        clear hJs hqr
        have dk : decide (k < k) = false := by simp
        gi_wp2
        go_end0
        exact ⟨⟨_, rfl⟩, .inl ⟨_, _, HA.out.symm, HJ.out⟩⟩

end Go.Proofs.Ytkgakgceamafcaa

namespace Go.Proofs.Ytkgakgceamafcaa
open Go Go.RowKit
set_option linter.unusedVariables false

abbrev Leaf := Nat × Nat × List Value
/-- A node: its block, the number of the first thing below it, how many things, how many nodes, and the leaves. -/
structure Ent where
  b : Nat
  f : Nat
  n : Nat
  m : Nat
  ls : List Leaf
def sumN (es : List Ent) : Nat := (es.map (·.n)).sum
def sumM (es : List Ent) : Nat := (es.map (·.m)).sum
theorem sumN_app (a b : List Ent) : sumN (a ++ b) = sumN a + sumN b := by unfold sumN; rw [List.map_append, List.sum_append]
theorem sumM_app (a b : List Ent) : sumM (a ++ b) = sumM a + sumM b := by unfold sumM; rw [List.map_append, List.sum_append]
theorem sumN_one (a : Ent) : sumN [a] = a.n := by simp [sumN]
theorem sumM_one (a : Ent) : sumM [a] = a.m := by simp [sumM]
theorem sumM_rev (a : List Ent) : sumM a.reverse = sumM a := by
  induction a with
  | nil => rfl
  | cons x a ih => rw [List.reverse_cons, sumM_app, ih, sumM_one]; show _ = (x.m :: a.map (·.m)).sum; rw [List.sum_cons]; unfold sumM; omega
theorem sumN_take (es : List Ent) (k : Nat) : sumN (es.take k) ≤ sumN es := by
  have : sumN es = sumN (es.take k) + sumN (es.drop k) := by rw [← sumN_app, List.take_append_drop]
  omega
theorem sumN_succ {es : List Ent} {k : Nat} {x : Ent} (h : es[k]? = some x) : sumN (es.take (k + 1)) = sumN (es.take k) + x.n := by
  rw [← take_snoc h, sumN_app, sumN_one]

/-- An entry that stands for a node, so many nodes above the leaves. -/
def Node (w : World) (T : TypeId) : Nat → Ent → Prop
  | 0, e => ∃ t : List Value, In w T 0 t e.b ∧ 0 < t.length ∧ e.n = t.length ∧ e.m = 1 ∧ e.ls = [(e.b, e.f, t)]
  | h + 1, e => ∃ (g o c : Nat) (es : List Ent), 0 < es.length ∧ es.length ≤ c ∧ c ≤ maxLen ∧ e.b < w.heap.size ∧ g < w.heap.size ∧ w.cell? ⟨e.b, 0, none⟩ = some (.slice (some ⟨g, o, none⟩) es.length c) ∧ w.cell? ⟨e.b, 2, none⟩ = some (.int .i64 e.n) ∧
      e.n = sumN es ∧ e.m = sumM es + 1 ∧ e.ls = es.flatMap (·.ls) ∧
      ∀ k x, es[k]? = some x → w.cell? ⟨g, o + k, none⟩ = some (ptr x.b) ∧ x.f = e.f + sumN (es.take k) ∧ Node w T h x

theorem list_pick {α : Type} (P : Nat → α → Prop) : ∀ n : Nat, (∀ k, k < n → ∃ x, P k x) → ∃ l : List α, l.length = n ∧ ∀ k x, l[k]? = some x → P k x
  | 0, _ => ⟨[], rfl, fun k x h => by simp at h⟩
  | n + 1, h => by
    obtain ⟨l, hl, hp⟩ := list_pick P n (fun k hk => h k (by omega))
    obtain ⟨x, hx⟩ := h n (by omega)
    refine ⟨l ++ [x], by simp [hl], fun k y hy => ?_⟩
    rcases Nat.lt_or_ge k n with hk | hk
    · rw [List.getElem?_append_left (by omega)] at hy
      exact hp k y hy
    · rw [List.getElem?_append_right (by omega), hl] at hy
      have : k - n = 0 := by
        rcases Nat.eq_zero_or_pos (k - n) with h0 | h0
        · exact h0
        · rw [List.getElem?_eq_none (by simp; omega)] at hy; cases hy
      rw [this] at hy
      simp at hy
      have hkn : k = n := by omega
      rw [hkn, ← hy]
      exact hx

/-- Leaves, one behind the other, from a number on. -/
def Run (w : World) (T : TypeId) : Nat → List Leaf → Prop
  | _, [] => True
  | f, x :: ls => x.2.1 = f ∧ In w T 0 x.2.2 x.1 ∧ 0 < x.2.2.length ∧ Run w T (f + x.2.2.length) ls
def tot (ls : List Leaf) : Nat := (ls.map (·.2.2.length)).sum
theorem tot_app (a b : List Leaf) : tot (a ++ b) = tot a + tot b := by unfold tot; rw [List.map_append, List.sum_append]
theorem tot_cons (x : Leaf) (a : List Leaf) : tot (x :: a) = x.2.2.length + tot a := by unfold tot; rw [List.map_cons, List.sum_cons]
theorem Run.app {w : World} {T : TypeId} : ∀ {a b : List Leaf} {f : Nat}, Run w T f a → Run w T (f + tot a) b → Run w T f (a ++ b)
  | [], b, f, _, h => by simpa [tot] using h
  | x :: a, b, f, h1, h2 => by
    obtain ⟨e1, e2, e3, e4⟩ := h1
    refine ⟨e1, e2, e3, Run.app e4 ?_⟩
    rw [tot_cons] at h2
    rw [Nat.add_assoc]; exact h2

theorem node_run {w : World} {T : TypeId} : ∀ {h : Nat} {e : Ent}, Node w T h e → Run w T e.f e.ls ∧ tot e.ls = e.n ∧ 0 < e.n ∧ 0 < e.m
  | 0, e, ⟨t, h1, h2, h3, h4, h5⟩ => by
    rw [h5]
    exact ⟨⟨rfl, h1, h2, trivial⟩, by simp [tot, h3], by omega, by omega⟩
  | h + 1, e, ⟨g, o, c, es, h0, _, _, _, _, _, _, h3, h4, h5, h6⟩ => by
    have key : ∀ k, k ≤ es.length → Run w T e.f ((es.take k).flatMap (·.ls)) ∧ tot ((es.take k).flatMap (·.ls)) = sumN (es.take k) ∧ (0 < k → 0 < sumN (es.take k)) := by
      intro k
      induction k with
      | zero => intro _; exact ⟨trivial, rfl, fun h => absurd h (by omega)⟩
      | succ k ih =>
        intro hk
        obtain ⟨i1, i2, i3⟩ := ih (by omega)
        obtain ⟨x, hx⟩ : ∃ x, es[k]? = some x := ⟨_, List.getElem?_eq_getElem (by omega)⟩
        obtain ⟨x1, x2, x3⟩ := h6 k x hx
        obtain ⟨y1, y2, y3, y4⟩ := node_run x3
        rw [sumN_succ hx, ← take_snoc hx, List.flatMap_append]
        simp only [List.flatMap_cons, List.flatMap_nil, List.append_nil]
        refine ⟨i1.app ?_, by rw [tot_app, i2, y2], fun _ => by omega⟩
        rw [i2, ← x2]; exact y1
    obtain ⟨k1, k2, k3⟩ := key es.length (Nat.le_refl _)
    rw [List.take_length] at k1 k2 k3
    rw [h5, h3]
    exact ⟨k1, k2, k3 h0, by omega⟩

/-- Does a leaf have something of the stretch? -/
def inR (i j : Nat) (x : Leaf) : Bool := decide (x.2.1 < j) && decide (i < x.2.1 + x.2.2.length)
theorem run_out {w : World} {T : TypeId} {i j : Nat} : ∀ {ls : List Leaf} {f : Nat}, Run w T f ls → (j ≤ f ∨ f + tot ls ≤ i) → ls.filter (inR i j) = []
  | [], _, _, _ => rfl
  | x :: ls, f, ⟨e1, e2, e3, e4⟩, h => by
    rw [tot_cons] at h
    have hx : inR i j x = false := by
      unfold inR
      rw [e1]
      rcases h with h | h
      · rw [decide_eq_false (by omega)]; rfl
      · rw [decide_eq_false (show ¬ i < f + x.2.2.length by omega)]; simp
    rw [List.filter_cons, hx]
    exact run_out e4 (by omega)
theorem run_at {w : World} {T : TypeId} : ∀ {ls : List Leaf} {f : Nat} {x : Leaf}, Run w T f ls → x ∈ ls → In w T 0 x.2.2 x.1 ∧ 0 < x.2.2.length
  | y :: ls, f, x, ⟨e1, e2, e3, e4⟩, h => by
    rcases List.mem_cons.1 h with rfl | h
    · exact ⟨e2, e3⟩
    · exact run_at e4 h

/-- Forward, or the last one first. -/
def dirL {α : Type} (d : Bool) (l : List α) : List α := if d then l else l.reverse
theorem dirL_one {α : Type} (d : Bool) (x : α) : dirL d [x] = [x] := by cases d <;> rfl
theorem dirL_nil {α : Type} (d : Bool) : dirL d ([] : List α) = [] := by cases d <;> rfl
theorem dirL_len {α : Type} (d : Bool) (l : List α) : (dirL d l).length = l.length := by cases d <;> simp [dirL]
/-- How kids lie on the stack. -/
def pile (d : Bool) (es : List Ent) : List Ent := dirL (!d) es
/-- What is still to come from a stack. -/
def remL (d : Bool) (i j : Nat) (stk : List Ent) : List Leaf := stk.reverse.flatMap fun e => dirL d (e.ls.filter (inR i j))
theorem remL_snoc (d : Bool) (i j : Nat) (stk : List Ent) (e : Ent) : remL d i j (stk ++ [e]) = dirL d (e.ls.filter (inR i j)) ++ remL d i j stk := by
  unfold remL
  rw [List.reverse_append, List.reverse_singleton, List.flatMap_append, List.flatMap_cons, List.flatMap_nil, List.append_nil]
theorem remL_app (d : Bool) (i j : Nat) (a b : List Ent) : remL d i j (a ++ b) = remL d i j b ++ remL d i j a := by
  unfold remL
  rw [List.reverse_append, List.flatMap_append]
theorem filter_flat {α β : Type} (p : β → Bool) (g : α → List β) : ∀ l : List α, (l.flatMap g).filter p = l.flatMap fun x => (g x).filter p
  | [] => rfl
  | x :: l => by rw [List.flatMap_cons, List.filter_append, List.flatMap_cons, filter_flat p g l]
theorem rev_flat {α β : Type} (g : α → List β) : ∀ l : List α, (l.flatMap g).reverse = l.reverse.flatMap fun x => (g x).reverse
  | [] => rfl
  | x :: l => by rw [List.flatMap_cons, List.reverse_append, List.reverse_cons, List.flatMap_append, rev_flat g l, List.flatMap_cons, List.flatMap_nil, List.append_nil]
theorem remL_pile (d : Bool) (i j : Nat) (es : List Ent) : remL d i j (pile d es) = dirL d ((es.flatMap (·.ls)).filter (inR i j)) := by
  unfold remL pile
  rw [filter_flat]
  cases d
  · simp only [dirL, Bool.not_false, if_true, Bool.false_eq_true, if_false]
    rw [rev_flat]
  · simp only [dirL, Bool.not_true, if_true, Bool.false_eq_true, if_false, List.reverse_reverse]

theorem node_zero {w : World} {T : TypeId} {t : List Value} {b : Nat} (f : Nat) (H : In w T 0 t b) (h0 : 0 < t.length) : ∃ e : Ent, e.b = b ∧ e.f = f ∧ e.n = (flatL 0 t).length ∧ Node w T 0 e ∧ e.ls.flatMap (·.2.2) = flatL 0 t ∧ e.m + 1 ≤ 2 * e.n := by
  rw [flatL_zero]
  exact ⟨⟨b, f, t.length, 1, [(b, f, t)]⟩, rfl, rfl, rfl, ⟨t, H, h0, rfl, rfl, rfl⟩, List.append_nil t, by show 1 + 1 ≤ 2 * t.length; omega⟩
theorem node_of {w : World} {T : TypeId} : ∀ (h : Nat) {lo : Nat} {t : List (El h)} {b : Nat} (f : Nat), 1 ≤ lo → (0 < h → 2 ≤ lo) → In w T h t b → Ok lo h t → ∃ e : Ent, e.b = b ∧ e.f = f ∧ e.n = (flatL h t).length ∧ Node w T h e ∧ e.ls.flatMap (·.2.2) = flatL h t ∧ e.m + 1 ≤ 2 * e.n
  | 0, lo, t, b, f, hlo, _, H, hok => node_zero (t := t) f H (show 0 < List.length t from by have hl := hok.len; omega)
  | h + 1, lo, t, b, f, hlo, hlo2, H, hok => by
    have hl := hok.len
    obtain ⟨a, c, k0, _, hes⟩ := H.kids
    obtain ⟨g, o, rfl, hg⟩ := hes.has (by omega)
    have hcap := hes.cap
    obtain ⟨es, e1, e2⟩ := list_pick (fun k (x : Ent) => w.cell? ⟨g, o + k, none⟩ = some (ptr x.b) ∧ x.f = f + (flatL (h + 1) (t.take k)).length ∧ x.n = (flatL h (nth t k)).length ∧ Node w T h x ∧ x.ls.flatMap (·.2.2) = flatL h (nth t k) ∧ x.m + 1 ≤ 2 * x.n) t.length (fun k hk => by
      obtain ⟨bk, q1, q2⟩ := hes.at (nth_at hk)
      obtain ⟨e, r1, r2, r3, r4, r5, r6⟩ := node_of h (f + (flatL (h + 1) (t.take k)).length) (by omega) (fun _ => by omega) q2 (hok.oks k hk)
      exact ⟨e, by rw [r1]; exact q1, r2, r3, r4, r5, r6⟩)
    have key : ∀ k, k ≤ es.length → (sumM (es.take k) + k ≤ 2 * sumN (es.take k)) ∧ sumN (es.take k) = (flatL (h + 1) (t.take k)).length ∧ ((es.take k).flatMap (·.ls)).flatMap (·.2.2) = flatL (h + 1) (t.take k) := by
      intro k
      induction k with
      | zero => intro _; exact ⟨by simp [sumM, sumN], rfl, rfl⟩
      | succ k ih =>
        intro hk
        obtain ⟨i0, i1, i2⟩ := ih (by omega)
        obtain ⟨x, hx⟩ : ∃ x, es[k]? = some x := ⟨_, List.getElem?_eq_getElem (by omega)⟩
        obtain ⟨_, _, x3, _, x5, x6⟩ := e2 k x hx
        refine ⟨by rw [sumN_succ hx, ← take_snoc hx, sumM_app, sumM_one]; omega, ?_⟩
        have ht : t.take (k + 1) = t.take k ++ [mk1 (nth t k)] := (take_snoc (nth_at (by omega))).symm
        have hf : flatL (h + 1) [mk1 (nth t k)] = flatL h (nth t k) := by rw [flatL_cons, flatL_nil, List.append_nil]; rfl
        rw [sumN_succ hx, ht, flatL_app, hf, ← take_snoc hx, List.flatMap_append, List.flatMap_append, List.length_append, i1, i2, x3]
        simp only [List.flatMap_cons, List.flatMap_nil, List.append_nil]
        exact ⟨by first | trivial | rfl, by rw [x5]⟩
    obtain ⟨k0', k1, k2⟩ := key es.length (Nat.le_refl _)
    rw [List.take_length] at k0'
    rw [List.take_length, e1, List.take_length] at k1 k2
    refine ⟨⟨b, f, (flatL (h + 1) t).length, sumM es + 1, es.flatMap (·.ls)⟩, rfl, rfl, rfl, ⟨g, o, c, es, by omega, by omega, by omega, H.lt, hg, by rw [e1]; exact k0, H.num, k1.symm, rfl, rfl, fun k x hx => ?_⟩, k2, by show sumM es + 1 + 1 ≤ 2 * (flatL (h + 1) t).length; have := hlo2 (by omega); omega⟩
    obtain ⟨q1, q2, q3, q4, q5, q6⟩ := e2 k x hx
    exact ⟨q1, by rw [q2, (key k (by have := (List.getElem?_eq_some_iff.1 hx).1; omega)).2.1], q4⟩

end Go.Proofs.Ytkgakgceamafcaa

namespace Go.Proofs.Ytkgakgceamafcaa
open Go Go.RowKit
set_option linter.unusedVariables false

/-- The cells of some spots. -/
def spQ (es : List Ent) : List Value := es.flatMap fun x => [ptr x.b, .int .i64 (x.f : Int)]
theorem spQ_app (a b : List Ent) : spQ (a ++ b) = spQ a ++ spQ b := by unfold spQ; rw [List.flatMap_append]
theorem spQ_len (a : List Ent) : (spQ a).length = a.length * 2 := by
  induction a with
  | nil => rfl
  | cons x a ih => unfold spQ at *; rw [List.flatMap_cons, List.length_append, ih, List.length_cons]; simp; omega
theorem spQ_one (a : List Ent) : ∀ u ∈ spQ a, u.oneCell' = true := fun u hu => by
  unfold spQ at hu
  obtain ⟨x, _, h⟩ := List.mem_flatMap.1 hu
  simp at h
  rcases h with rfl | rfl <;> rfl
theorem spQ_at {a : List Ent} {k : Nat} {x : Ent} (h : a[k]? = some x) : (spQ a)[k * 2]? = some (ptr x.b) ∧ (spQ a)[k * 2 + 1]? = some (.int .i64 (x.f : Int)) := by
  have hk := (List.getElem?_eq_some_iff.1 h).1
  have e : a = a.take k ++ x :: a.drop (k + 1) := by
    rw [List.getElem?_eq_getElem hk] at h
    injection h with h
    rw [← h, List.getElem_cons_drop, List.take_append_drop]
  have hl : (spQ (a.take k)).length = k * 2 := by rw [spQ_len, List.length_take, Nat.min_eq_left (by omega)]
  rw [e, spQ_app]
  constructor
  · rw [List.getElem?_append_right (by omega), hl, Nat.sub_self]; rfl
  · rw [List.getElem?_append_right (by omega), hl, show k * 2 + 1 - k * 2 = 1 by omega]; rfl
def mkS (es : List Ent) (m : Nat) : Array Value := (spQ es ++ spQ (List.replicate (m - es.length) ⟨0, 0, 0, 0, []⟩)).toArray
def zeroS (m : Nat) : List Value := (List.replicate m [Value.pointer none, Value.int .i64 0]).flatten
theorem zeroS_succ (m : Nat) : zeroS (m + 1) = Value.pointer none :: Value.int .i64 0 :: zeroS m := by unfold zeroS; rw [List.replicate_succ, List.flatten_cons]; rfl
def mkZ (es : List Ent) (m : Nat) : Array Value := (spQ es ++ zeroS (m - es.length)).toArray
theorem set2_app {A B : List Value} {u v u' v' : Value} {k : Nat} (h : A.length = k) : ((A ++ u :: v :: B).toArray.setIfInBounds k u').setIfInBounds (k + 1) v' = (A ++ u' :: v' :: B).toArray := by
  subst h
  rw [List.setIfInBounds_toArray, List.setIfInBounds_toArray, List.set_append_right _ _ (Nat.le_refl _), Nat.sub_self, List.set_cons_zero, List.set_append_right _ _ (by omega), show A.length + 1 - A.length = 1 by omega]
  rfl
theorem mkZ_set {es : List Ent} {m k : Nat} (hk : es.length = k) (h : k < m) (x : Ent) : ((mkZ es m).setIfInBounds (k * 2) (ptr x.b)).setIfInBounds (k * 2 + 1) (.int .i64 (x.f : Int)) = mkZ (es ++ [x]) m := by
  unfold mkZ
  rw [hk, show m - k = (m - (k + 1)) + 1 by omega, zeroS_succ, set2_app (by rw [spQ_len, hk]), List.length_append, hk, spQ_app, List.append_assoc]
  rfl
theorem mkZ_at {es : List Ent} {m k : Nat} (hk : es.length = k) (h : k < m) : (mkZ es m)[k * 2]? = some (.pointer none) ∧ (mkZ es m)[k * 2 + 1]? = some (.int .i64 0) := by
  unfold mkZ
  have hl : (spQ es).length = k * 2 := by rw [spQ_len, hk]
  rw [hk, show m - k = (m - (k + 1)) + 1 by omega, zeroS_succ, List.getElem?_toArray, List.getElem?_toArray]
  constructor
  · rw [List.getElem?_append_right (by omega), hl, Nat.sub_self]; rfl
  · rw [List.getElem?_append_right (by omega), hl, show k * 2 + 1 - k * 2 = 1 by omega]; rfl
theorem mkZ_full {es : List Ent} {m : Nat} (h : es.length = m) : mkZ es m = (spQ es).toArray := by
  unfold mkZ
  rw [h, Nat.sub_self]
  show (spQ es ++ []).toArray = _
  rw [List.append_nil]
theorem made_spots (m : Nat) : (madeCells #[.pointer none, .int .i64 0] (m * 2)).toList = zeroS m := by
  apply List.ext_getElem?
  intro j
  have hz : ∀ m, (zeroS m).length = m * 2 := fun m => by
    induction m with
    | zero => rfl
    | succ m ih => rw [zeroS_succ, List.length_cons, List.length_cons, ih]; omega
  by_cases hj : j < m * 2
  · have e : (madeCells #[Value.pointer none, .int .i64 0] (m * 2)).toList[j]? = some (#[Value.pointer none, .int .i64 0][j % 2]!) := by simp [madeCells, hj]
    have e2 : ∀ m j, j < m * 2 → (zeroS m)[j]? = some (#[Value.pointer none, .int .i64 0][j % 2]!) := fun m => by
      induction m with
      | zero => intro j h; omega
      | succ m ih =>
        intro j h
        rw [zeroS_succ]
        match j, h with
        | 0, _ => rfl
        | 1, _ => rfl
        | j + 2, h => rw [List.getElem?_cons_succ, List.getElem?_cons_succ, ih j (by omega), Nat.add_mod_right]
    rw [e, e2 m j hj]
  · rw [List.getElem?_eq_none (by simp [size_madeCells]; omega), List.getElem?_eq_none (by rw [hz]; omega)]
theorem own_whole {w : World} {B g m s : Nat} {e : TypeId} {xs : List Value} (h : w.ownsRow B e s (.slice (some ⟨g, 0, none⟩) m m) m xs) : w.heap[g]? = some (.cells xs.toArray e (0, 0)) ∧ B ≤ g := by
  rcases h.2 with ⟨h1, _⟩ | ⟨g', cap, cur, h1, hb, hg, h3, h4, h5, h6⟩
  · cases h1
  · simp only [Value.slice.injEq, Option.some.injEq, Addr.mk.injEq] at h1
    obtain ⟨⟨rfl, _⟩, _, rfl⟩ := h1
    rw [List.take_of_length_le (by simp; omega)] at h6
    rw [← h6]
    exact ⟨hg, hb⟩
theorem info_sp : (Try.prog.info? 123).map (fun i => (i.zero, i.size, i.bytes)) = some (some (.agg #[.pointer none, .int .i64 0]), 2, 16) := by kernel_rfl

end Go.Proofs.Ytkgakgceamafcaa
