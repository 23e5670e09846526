/-
  Texts of this seat, put together (a claim holds few texts): FdL, OrdJ.
-/
import Derived.Test.YtkgakgceamafcaaMk35
import Derived.OrdersIn
import Derived.RangeFuncCalls
import Derived.OwnWalkIn
import Derived.StillTailTactics

namespace Go.Proofs.Ytkgakgceamafcaa
open Go Go.RowKit Go.Shelf
set_option linter.unusedVariables false
attribute [local go_sem] Oper.semAt_some

/-- What has been written when these places are done. -/
def rp (b o : List UInt8) (m : Nat) : Nat → List Nat → List UInt8
  | f, [] => []
  | f, x :: l => (b.drop f).take (x - f) ++ o ++ rp b o m (x + m) l
theorem rp_snoc (b o : List UInt8) (m x : Nat) : ∀ (l : List Nat) (f : Nat), rp b o m f (l ++ [x]) = rp b o m f l ++ (b.drop (endOf m f l)).take (x - endOf m f l) ++ o
  | [], f => by show (b.drop f).take (x - f) ++ o ++ [] = [] ++ _ ++ _; rw [List.append_nil, List.nil_append]; rfl
  | y :: l, f => by
    show (b.drop f).take (y - f) ++ o ++ rp b o m (y + m) (l ++ [x]) = (b.drop f).take (y - f) ++ o ++ rp b o m (y + m) l ++ _ ++ o
    rw [rp_snoc b o m x l (y + m)]
    simp only [List.append_assoc]; rfl
theorem rp_repl (b o : List UInt8) (m : Nat) : ∀ (l : List Nat) (f : Nat), repl b o m f l = rp b o m f l ++ b.drop (endOf m f l)
  | [], f => rfl
  | y :: l, f => by
    show (b.drop f).take (y - f) ++ o ++ repl b o m (y + m) l = (b.drop f).take (y - f) ++ o ++ rp b o m (y + m) l ++ _
    rw [rp_repl b o m l (y + m)]
    simp only [List.append_assoc]; rfl
theorem apart_end {p b : List UInt8} {m : Nat} (hm : p.length = m) {s : List Nat} (h : s <+: apart m 0 (allOf p b)) : endOf m 0 s ≤ b.length := by
  rcases List.eq_nil_or_concat s with rfl | ⟨l, x, rfl⟩
  · exact Nat.zero_le _
  · rw [List.concat_eq_append, endOf_snoc]
    obtain ⟨u, hu⟩ := h
    have hx : x ∈ apart m 0 (allOf p b) := by rw [← hu]; simp
    have := all_lt ((apart_pair (m := m) (allOf p b) 0).2.2 x hx)
    omega
theorem apart_next {p b : List UInt8} {m x : Nat} (hm : p.length = m) {s : List Nat} (h : s <+: apart m 0 (allOf p b)) (hx : (apart m 0 (allOf p b))[s.length]? = some x) : endOf m 0 s ≤ x ∧ x + m ≤ b.length := by
  have hxm := List.mem_of_getElem? hx
  have hp := apart_pair (m := m) (allOf p b) 0
  have h1 := all_lt (hp.2.2 x hxm)
  refine ⟨?_, by omega⟩
  rcases List.eq_nil_or_concat s with rfl | ⟨l, y, rfl⟩
  · exact Nat.zero_le _
  · rw [List.concat_eq_append] at h hx ⊢
    rw [endOf_snoc]
    obtain ⟨u, hu⟩ := h
    have hpw := hp.2.1
    rw [← hu] at hx hpw
    rw [List.getElem?_append_right (Nat.le_refl _), Nat.sub_self] at hx
    cases u with
    | nil => simp at hx
    | cons v u =>
      obtain rfl : v = x := by simpa using hx
      exact (List.pairwise_append.1 hpw).2.2 y (by simp) v List.mem_cons_self
theorem rp_len {b o : List UInt8} {m n : Nat} (ho : o.length ≤ n) : ∀ (l : List Nat) (f : Nat), (rp b o m f l).length ≤ l.length * (b.length + n)
  | [], f => Nat.zero_le _
  | y :: l, f => by
    show ((b.drop f).take (y - f) ++ o ++ rp b o m (y + m) l).length ≤ _
    have ih := rp_len (b := b) (m := m) ho l (y + m)
    rw [List.length_append, List.length_append, List.length_cons, Nat.add_mul, Nat.one_mul]
    have : ((b.drop f).take (y - f)).length ≤ b.length := by rw [List.length_take, List.length_drop]; omega
    omega

/-- What Replace keeps: its slice, its number, its place, behind a world. -/
structure ReS (w : World) (q : Nat) (l : List UInt8) (nn f : Int) (a : Option Addr) (c K : Nat) (E : Bls) (W : World) : Prop where
  ge : ∀ k, E k → w.heap.size ≤ k ∧ (Value.slice a K c).ownBlock ≠ some k
  mv : Moves (fun k => k = q ∨ k = q + 1 ∨ k = q + 2) w W
  h0 : W.heap[q]? = some (.cells #[.slice a K c] 23 (0, 0))
  h1 : W.heap[q + 1]? = some (.cells #[.int .i64 nn] 3 (0, 0))
  h2 : W.heap[q + 2]? = some (.cells #[.int .i64 f] 3 (0, 0))
  own : W.ownsRow w.heap.size 5 1 (.slice a K c) K (bc l)
  len : l.length = K
theorem ReS.drew {w W : World} {q c K : Nat} {l : List UInt8} {nn f : Int} {a : Option Addr} {E : Bls} (h : ReS w q l nn f a c K E W) : ReS w q l nn f a c K E W.drew :=
  ⟨h.ge, h.mv.drew, h.h0, h.h1, h.h2, own_below h.own (Below.refl _ W).drew, h.len⟩
theorem ReS.go {w W W' : World} {q c K : Nat} {l : List UInt8} {nn f : Int} {a : Option Addr} {E E' : Bls} (h : ReS w q l nn f a c K E W) (hq : q + 2 < w.heap.size) (hm : Moves E W W') (hd : ∀ k, E' k → E k ∨ W.heap.size ≤ k) : ReS w q l nn f a c K E' W' := by
  have hs := h.mv.size
  exact ⟨fun k hk => (hd k hk).elim (h.ge k) (fun g => ⟨by omega, fun e => by have := (own_blt h.own e).2; omega⟩), h.mv.more hm (fun k hk g => by have := (h.ge k g).1; omega), (hm.block q (lt_of_at h.h0) (fun g => by have := (h.ge q g).1; omega)).trans h.h0, (hm.block (q + 1) (lt_of_at h.h1) (fun g => by have := (h.ge (q + 1) g).1; omega)).trans h.h1, (hm.block (q + 2) (lt_of_at h.h2) (fun g => by have := (h.ge (q + 2) g).1; omega)).trans h.h2, own_moves h.own (fun g hg => hm.block g (own_blt h.own hg).2 (fun e => (h.ge g e).2 hg)), h.len⟩
/-- Its number and its place are set. -/
theorem ReS.nums {w W : World} {q c K : Nat} {l : List UInt8} {nn f : Int} {a : Option Addr} {E : Bls} (h : ReS w q l nn f a c K E W) (hq : q + 2 < w.heap.size) (n2 f2 : Int) : ReS w q l n2 f2 a c K E ((W.setCell ⟨q + 1, 0, none⟩ (.int .i64 n2)).setCell ⟨q + 2, 0, none⟩ (.int .i64 f2)) ∧ Same E W ((W.setCell ⟨q + 1, 0, none⟩ (.int .i64 n2)).setCell ⟨q + 2, 0, none⟩ (.int .i64 f2)) := by
  refine ⟨⟨h.ge, (h.mv.set (.inr (.inl rfl))).set (.inr (.inr rfl)), (heap_set_other (by omega)).trans ((heap_set_other (by omega)).trans h.h0), (heap_set_other (by omega)).trans ((heap_set_at (o := 0) h.h1).trans rfl), (heap_set_at (o := 0) ((heap_set_other (by omega)).trans h.h2)).trans rfl, own_set (own_set h.own (own_ne h.own h.h1 (by decide))) (own_ne h.own h.h2 (by decide)), h.len⟩, fun k hk => (heap_set_other (by have := (h.ge k hk).1; omega)).trans (heap_set_other (by have := (h.ge k hk).1; omega))⟩
theorem slice_form {w : World} {B n : Nat} {e : TypeId} {v : Value} {xs : List Value} (h : w.ownsRow B e 1 v n xs) : ∃ a c, v = .slice a n c := by
  rcases h.2 with ⟨rfl, h0⟩ | ⟨g, cap, cur, rfl, _⟩
  · exact ⟨none, 0, by rw [h0]⟩
  · exact ⟨_, _, rfl⟩
/-- append, run. -/
theorem app_run {w W : World} {q : Nat} {l s : List UInt8} {nn f : Int} {a : Option Addr} {c K : Nat} {E : Bls} (h : ReS w q l nn f a c K E W) (hq : q + 2 < w.heap.size) {g o m' cc : Nat} (hn : s.length = m') (hs : ∀ j u, (bc s)[j]? = some u → W.cell? (Addr.add ⟨g, o, none⟩ j) = some u) (hK : K + m' ≤ 100000000) :
    ∃ a' c' W1, (Builtin.append_ #[23, 23] 23 #[.slice a K c, .slice (some ⟨g, o, none⟩) m' cc]).run Try.prog W = .ok (.slice a' (K + m') c') W1 ∧ W1.ownsRow w.heap.size 5 1 (.slice a' (K + m') c') (K + m') (bc (l ++ s)) ∧ W.grownBy W1 (Value.slice a K c).ownBlock ∧ ((Value.slice a' (K + m') c').ownBlock = (Value.slice a K c).ownBlock ∨ (Value.slice a' (K + m') c').ownBlock = some W.heap.size) := by
  obtain ⟨i0, hi0, hz0, hz1, hz2⟩ := info_parts info_u8
  obtain ⟨v', w', hr, h1, h2, h3, h4⟩ := run_append_own_at (P := Try.prog) W w.heap.size 23 23 5 i0 (.int .u8 0) 1 1 Try.underlying23 hi0 hz0 hz1 hz2 rfl (by decide) (.slice a K c) K (bc l) h.own ⟨g, o, none⟩ m' cc (bc s) (by rw [bc_len, hn, Nat.mul_one]) hs (bc_one s) (by unfold maxLen; omega) (by omega) h.mv.size
  obtain ⟨a', c', rfl⟩ := slice_form h1
  exact ⟨a', c', w', hr, by rw [bc_append]; exact h1, h2, h4⟩
/-- append, and what it has told is stored. -/
theorem app_step {w W : World} {q : Nat} {l s : List UInt8} {nn f : Int} {a : Option Addr} {c K : Nat} {E : Bls} (h : ReS w q l nn f a c K E W) (hq : q + 2 < w.heap.size) (hE : Have E W) {g o m' cc : Nat} (hn : s.length = m') (hs : ∀ j u, (bc s)[j]? = some u → W.cell? (Addr.add ⟨g, o, none⟩ j) = some u) (hK : K + m' ≤ 100000000) :
    ∃ a' c' W1, (Builtin.append_ #[23, 23] 23 #[.slice a K c, .slice (some ⟨g, o, none⟩) m' cc]).run Try.prog W = .ok (.slice a' (K + m') c') W1 ∧ W1.cell? ⟨q, 0, none⟩ = some (.slice a K c) ∧ W1.frozen? ⟨q, 0, none⟩ = false ∧
      ReS w q (l ++ s) nn f a' c' (K + m') E (W1.setCell ⟨q, 0, none⟩ (.slice a' (K + m') c')) ∧ Same E W (W1.setCell ⟨q, 0, none⟩ (.slice a' (K + m') c')) ∧ W.heap.size ≤ (W1.setCell ⟨q, 0, none⟩ (.slice a' (K + m') c')).heap.size := by
  obtain ⟨a', c', W1, hr, h1, h2, h3⟩ := app_run h hq hn hs hK
  have hs0 := h.mv.size
  have kp (k : Nat) (hk : k < W.heap.size) (hne : (Value.slice a K c).ownBlock ≠ some k) : W1.heap[k]? = W.heap[k]? := h2.block k hk (fun e => hne e.symm)
  have n0 := own_ne h.own h.h0 (by decide)
  have n1 := own_ne h.own h.h1 (by decide)
  have n2 := own_ne h.own h.h2 (by decide)
  have k0 := (kp q (lt_of_at h.h0) n0).trans h.h0
  have k1 := (kp (q + 1) (lt_of_at h.h1) n1).trans h.h1
  have k2 := (kp (q + 2) (lt_of_at h.h2) n2).trans h.h2
  have hne (k : Nat) (hk : E k) : (Value.slice a' (K + m') c').ownBlock ≠ some k := fun e => by
    rcases h3 with h3 | h3
    · exact (h.ge k hk).2 (by rw [← h3]; exact e)
    · rw [h3] at e; injection e with e; have := hE k hk; omega
  refine ⟨a', c', W1, hr, (cell_at k0 0).trans rfl, unfrozen k0 0, ⟨fun k hk => ⟨(h.ge k hk).1, hne k hk⟩, ⟨h2.os.trans h.mv.os, h2.tape.trans h.mv.tape, h2.output.trans h.mv.output, by rw [World.size_setCell]; exact Nat.le_trans hs0 h2.size, fun k hk hd => ?_⟩, (heap_set_at (o := 0) k0).trans rfl, (heap_set_other (by omega)).trans k1, (heap_set_other (by omega)).trans k2, own_set h1 (own_ne h1 k0 (by decide)), by rw [List.length_append, h.len, hn]⟩, fun k hk => (heap_set_other (by have := (h.ge k hk).1; omega)).trans (kp k (hE k hk) (h.ge k hk).2), by rw [World.size_setCell]; exact h2.size⟩
  exact (heap_set_other (fun e => hd (.inl e))).trans ((kp k (Nat.lt_of_lt_of_le hk hs0) (fun e => by have := (own_blt h.own e).1; omega)).trans (h.mv.block k hk hd))
/-- The bytes of a slice of a slice. -/
theorem sub_cells {w : World} {g o : Nat} {b : List UInt8} (h : Rd w 1 (some ⟨g, o, none⟩) b.length (bc b)) (F k : Nat) : ∀ j u, (bc ((b.drop F).take k))[j]? = some u → w.cell? (Addr.add ⟨g, o + F, none⟩ j) = some u := by
  intro j u hu
  have h1 : (bc b)[F + j]? = some u := by
    unfold bc at hu ⊢
    rw [List.getElem?_map] at hu ⊢
    rw [List.getElem?_take] at hu
    split at hu
    · rw [List.getElem?_drop] at hu; exact hu
    · simp at hu
  have hlt : F + j < b.length := by have := (List.getElem?_eq_some_iff.1 h1).1; rwa [bc_len] at this
  obtain ⟨g', o', e, _, hc⟩ := h.2 (by omega)
  cases e
  have := hc (F + j) u h1
  rw [show o + (F + j) = o + F + j by omega] at this
  rw [Addr.add_lit]; exact this
theorem all_cells {w : World} {g o : Nat} {b : List UInt8} (h : Rd w 1 (some ⟨g, o, none⟩) b.length (bc b)) : ∀ j u, (bc b)[j]? = some u → w.cell? (Addr.add ⟨g, o, none⟩ j) = some u := by
  intro j u hu
  have hlt : j < b.length := by have := (List.getElem?_eq_some_iff.1 hu).1; rwa [bc_len] at this
  obtain ⟨g', o', e, _, hc⟩ := h.2 (by omega)
  cases e
  rw [Addr.add_lit]; exact hc j u hu
theorem pre_snoc {l A : List Nat} {x : Nat} (h : l <+: A) (hx : A[l.length]? = some x) : l ++ [x] <+: A := by
  obtain ⟨u, hu⟩ := h
  rw [← hu] at hx ⊢
  rw [List.getElem?_append_right (Nat.le_refl _), Nat.sub_self] at hx
  cases u with
  | nil => simp at hx
  | cons v u =>
    obtain rfl : v = x := by simpa using hx
    exact ⟨u, by simp⟩
theorem chosen_one {A s : List Nat} {all : Bool} (h : s <+: A) (ha : all = false) (hl : s.length = 1) : chosen all A = s := by
  subst ha
  obtain ⟨u, rfl⟩ := h
  show (s ++ u).take 1 = s
  rw [← hl, List.take_left]
theorem chosen_end {A : List Nat} {all : Bool} (h : all = false → A = []) : chosen all A = A := by
  cases all with
  | true => rfl
  | false => rw [h rfl]; rfl

end Go.Proofs.Ytkgakgceamafcaa

namespace Go.Proofs.Ytkgakgceamafcaa
open Go Go.RowKit
set_option linter.unusedVariables false

/-- What is owed behind a region that goes on: nothing at any other exit. -/
def Goes (Q : Exit → Act → World → Prop) (e : Exit) (a : Act) (w : World) : Prop := e = .normal ∧ Q .normal a w
theorem opInJ {o : Oper} {l n : Nat} {P : Program} {a : Act} {w : World} {K : Act → World → Prop} {Q : Exit → Act → World → Prop} (hd : ∀ c, o.op ≠ .defer c) (h : Oper.wp P o a w K (Goes Q)) : Oper.wpIn (Fence.wide.inRound l) n P o a w K Q := by
  unfold Oper.wp at h
  unfold Oper.wpIn
  refine ⟨fun _ _ => trivial, ?_⟩
  rw [Oper.semAt_plain _ _ _ hd]
  generalize (execOp a.eval o).run P w = r at h
  have hw : (Fence.wide.inRound l).depth.isSome = true → 1 ≤ n := fun h => by simp [Fence.wide] at h
  cases r with
  | ok x w' =>
    cases x with
    | value v => exact h
    | skip => exact h
    | defer d => exact h
    | enter f args => exact ⟨hw, (CallsIn.inRound l (callsIn_wide.2 h)).mono (fun e w' he => by
        cases e with
        | returned v => exact he
        | panicked c => exact absurd he.1 (fun e => by cases e)
        | outgrown => obtain ⟨_, _, he, _⟩ := he; cases he)⟩
    | row row args => exact ⟨hw, fun c cs _ => let ⟨v, w', r, s⟩ := h c cs; ⟨v, w', r, stepsIn_wide.2 s⟩⟩
    | _ => exact h.elim
  | halt x w' =>
    cases x with
    | panic v => exact absurd h.1 (fun e => by cases e)
    | _ => exact h.elim

theorem wpAnyIn_of_plain {l n : Nat} {P : Program} {md : Region.Mode} {ops : Array Oper} {Q : Exit → Act → World → Prop} (hd : ∀ (i : Nat) (o : Oper), ops[i]? = some o → ∀ c, o.op ≠ .defer c) :
    ∀ (fuel : Nat) (listed : Array Bool) (a : Act) (w : World), wpAny P md ops (Goes Q) fuel listed a w → wpAnyIn (Fence.wide.inRound l) n P md ops Q fuel listed a w := by
  intro fuel
  induction fuel with
  | zero => intro listed a w h; exact ⟨h.1, h.2.2⟩
  | succ fuel ih =>
    intro listed a w h
    refine ⟨fun hr => (h.1 hr).2, fun i hi => ?_⟩
    have hs := h.2 i hi
    unfold wpOp at hs
    unfold wpOpIn
    split
    · rename_i e
      rw [e] at hs
      exact ih _ a w hs
    · rename_i o e
      rw [e] at hs
      simp only at hs
      split
      · rename_i hw
        rw [if_pos hw] at hs
        rcases hs with hs | ⟨_, _, _, hb, _⟩
        · exact opInJ (hd i o e) (Oper.wp_mono (fun a' w' h => ih _ a' w' h) hs)
        · cases hb
      · rename_i hw
        rw [if_neg hw] at hs
        exact ⟨fun _ _ => trivial, ih _ _ w hs⟩

def noDeferJ (ops : Array Oper) : Bool := ops.all fun o => match o.op with
  | .defer _ => false
  | _ => true
theorem noDeferJ_at {ops : Array Oper} (h : noDeferJ ops = true) (i : Nat) (o : Oper) (ho : ops[i]? = some o) (c : _) : o.op ≠ .defer c := fun e => by
  unfold noDeferJ at h
  rw [Array.all_eq_true'] at h
  have := h o (Array.mem_of_getElem? ho)
  rw [e] at this
  simp at this

/-- THE LAW, in a round: the first n operations only read; the others come in one order. -/
theorem wpIn_region_tail {lo nn id : Nat} {P : Program} {Q : Exit → Act → World → Prop} {a : Act} {w : World} {l : List Oper} (n : Nat) (hm : P.follows .mixedOrders = true) (hnd : noDeferJ l.toArray = true) (hB : Region.lexTailB .any l.toArray n = true)
    (h : wpStill P l.toArray w.drew (fun a' => wpList P l.toArray (Goes Q) (l.drop n) a' w.drew) (l.take n) a) : (Code.region id l.toArray true).wpIn (Fence.wide.inRound lo) nn P Q a w := by
  simp only [Region.lexTailB, Bool.and_eq_true, decide_eq_true_eq] at hB
  obtain ⟨⟨⟨⟨hsel, hn⟩, hs⟩, hc⟩, hlex⟩ := hB
  have hn' : n < l.length := by simpa using hn
  have htl : (l.take n).length = n := by simp; omega
  have hdl : (l.drop n).length = l.toArray.size - n := by simp
  have inv0 : HeadInv .any l.toArray n (Array.replicate l.toArray.size false) :=
    ⟨by simp, fun j oj _ hl => (by rw [getD_replicate_false] at hl; cases hl), fun t _ ht => getD_in (by simpa using ht) (getD_replicate_false _ _)⟩
  have H := wpAnyL_lex (md := .any) (g := l.toArray.size - n) hsel hs hc hn (l.take n) 0 _ a (fun j hj => by
    have hj' : j < n := by rw [htl] at hj; exact hj
    simp [hj']) (by simpa using htl) inv0 (by rw [htl]; exact hlex) h
  refine wpIn_region_any hm (wpAnyIn_of_plain (noDeferJ_at hnd) _ _ _ _ ?_)
  have := wpAny_of_head (Q' := Goes Q) (g := l.toArray.size - n) (fun listed a' hL => by
    have := wpAny_of_seq (md := .any) (Q' := Goes Q) (l.drop n) n listed a' w.drew (fun j => by simp [List.getElem?_drop]) (by rw [hdl]; exact hL.1) hL.2
    rwa [hdl] at this) _ _ _ H
  rw [htl, show n + (l.toArray.size - n) = l.toArray.size by omega] at this
  exact this
end Go.Proofs.Ytkgakgceamafcaa
