/-
  Texts of this seat, put together (a claim holds few texts): FdF.
-/
import Derived.Test.YtkgakgceamafcaaMk18

namespace Go.Proofs.Ytkgakgceamafcaa
open Go Go.RowKit Go.Shelf
set_option linter.unusedVariables false
attribute [local go_sem] Oper.semAt_some

/-- The first place that is not below a number. -/
def fstL (n : Int) : List Nat → Int
  | [] => -1
  | x :: l => if n ≤ (x : Int) then (x : Int) else fstL n l
theorem fst_hit {n : Int} : ∀ {A : List Nat} {k x : Nat}, A[k]? = some x → (∀ i y, i < k → A[i]? = some y → ¬ n ≤ (y : Int)) → n ≤ (x : Int) → fstL n A = x
  | [], k, x, h, _, _ => by simp at h
  | y :: l, 0, x, h, _, hx => by
    obtain rfl : y = x := by simpa using h
    show (if n ≤ (y : Int) then (y : Int) else _) = _
    rw [if_pos hx]
  | y :: l, k + 1, x, h, hno, hx => by
    have h0 := hno 0 y (by omega) rfl
    show (if n ≤ (y : Int) then (y : Int) else fstL n l) = _
    rw [if_neg h0]
    exact fst_hit (by simpa using h) (fun i z hi hz => hno (i + 1) z (by omega) (by simpa using hz)) hx
theorem fst_miss {n : Int} : ∀ {A : List Nat}, (∀ (i : Nat) y, A[i]? = some y → ¬ n ≤ (y : Int)) → fstL n A = -1
  | [], _ => rfl
  | y :: l, h => by
    show (if n ≤ (y : Int) then (y : Int) else fstL n l) = _
    rw [if_neg (h 0 y rfl)]
    exact fst_miss (fun i z hz => h (i + 1) z (by simpa using hz))
def FsI (A : List Nat) (w4 : World) (n : Int) (s : List Nat) (E : Bls) (W : World) : Prop :=
  (∀ k, E k → w4.heap.size ≤ k) ∧ Below w4.heap.size w4 W ∧ ∀ i y, i < s.length → A[i]? = some y → ¬ n ≤ (y : Int)
theorem FsI.firm {A : List Nat} {w4 : World} {n : Int} : Firm (FsI A w4 n) := by
  rintro s D D' W W' ⟨h1, h2, h3⟩ hm hd
  have hs := h2.size
  exact ⟨fun k hk => (hd k hk).elim (h1 k) (fun h => by omega), ⟨hm.os.trans h2.os, hm.tape.trans h2.tape, hm.output.trans h2.output, Nat.le_trans h2.size hm.size, fun k hk => (hm.block k (by omega) (fun h => by have := h1 k h; omega)).trans (h2.block k hk)⟩, h3⟩
def FsX (w w4 : World) (q : Nat) (F : Int) (c : Code) (s : List Nat) (E : Bls) (W : World) : Prop :=
  c = .ret ∧ (∀ k, E k → w4.heap.size ≤ k) ∧ Below w.heap.size w W ∧ w4.heap.size ≤ W.heap.size ∧ W.cell? ⟨q, 0, none⟩ = some (.int .i64 F)
theorem FsX.firm {w w4 : World} {q : Nat} {F : Int} (hw : w.heap.size ≤ w4.heap.size) (hq : q < w4.heap.size) (c : Code) : Firm (FsX w w4 q F c) := by
  rintro s D D' W W' ⟨h0, h1, h2, hs, h3⟩ hm hd
  refine ⟨h0, fun k hk => (hd k hk).elim (h1 k) (fun h => by omega), ⟨hm.os.trans h2.os, hm.tape.trans h2.tape, hm.output.trans h2.output, Nat.le_trans h2.size hm.size, fun k hk => (hm.block k (by omega) (fun h => by have := h1 k h; omega)).trans (h2.block k hk)⟩, Nat.le_trans hs hm.size, (hm.cell (b := q) (o := 0) (by omega) (fun h => by have := h1 q h; omega)).trans h3⟩

set_option maxRecDepth 100000 in
set_option maxHeartbeats 4000000 in
theorem first_in (n : Nat) {w : World} {p b : List UInt8} {ta sa : Option Addr} {m tc L sc : Nat} (I : Int) (hb : Rd w 1 sa b.length (bc b)) (hp : Rd w 1 ta p.length (bc p)) (hL : b.length = L) (hm : p.length = m) (hml : m ≤ 100000) (hll : L ≤ 100000) :
    CallsIn Fence.wide n Try.prog 11 #[.slice sa L sc, .slice ta m tc, .int .i64 I] w fun e w' => e = .returned (.int .i64 (fstL I (allOf p b))) ∧ Below w.heap.size w w' := by
  obtain ⟨w1, hw1, hb1, hz1, hA, hB⟩ := two_blocks w (Obj.cells #[.int .i64 I] 3) (Obj.cells #[.int .i64 0] 3)
  have HSe := Lib.hid ((callsIn_wide (n := n - 1)).2 (seek_of (tc := tc) (hp.below hb1) hm hml))
  have HB := Lib.hid hb
  have HP := Lib.hid hp
  have HL := Lib.hid hL
  have HM := Lib.hid hm
  have HB1 := Lib.hid hb1
  have HA := Lib.hid hA
  have HBx := Lib.hid hB
  have HZ := Lib.hid hz1
  obtain ⟨F, hF⟩ : ∃ F, fstL I (allOf p b) = F := ⟨_, rfl⟩
  have HF := Lib.hid hF
  rw [hF]
  clear hb hp hL hm hb1 hA hB hz1 hF
  refine callsIn_of_wp_marks Try.func11 rfl trivial ?_ rfl
  simp only [Try.ntmps11, List.size_toArray, List.length_cons, List.length_nil, Nat.reduceAdd, Nat.reduceSub, Array.replicate_succ, Array.replicate_zero, List.push_toArray, List.append_toArray, List.nil_append, List.cons_append]
  gi_wp2
  refine ⟨trivial, fun h => by simp [Fence.wide] at h, HSe.out.mono ?_⟩
  rintro e w2 ⟨bs, ba, bc', rfl, h1, h2, h3, hba, hb2⟩
  have HT := Lib.hid (And.intro h1 (And.intro h2 (And.intro h3 (And.intro hba hb2))))
  have HPl := Lib.hid ((callsIn_wide (n := n - 1)).2 (places_call (w := w2) ta ba sa m tc bc' L sc))
  clear h1 h2 h3 hba hb2 HSe hw1
  gi_wp2
  refine ⟨trivial, fun h => by simp [Fence.wide] at h, HPl.out.mono ?_⟩
  rintro e w4 ⟨rfl, hb4, hz4, e0, e1, e2⟩
  have hb24 := HT.out.2.2.2.2.trans (hb4.mono HT.out.2.2.2.2.size)
  have hbw := HB1.out.trans (hb24.mono HB1.out.size)
  have s2 := HT.out.2.2.2.2.size
  have s4 := hb4.size
  have s1 := HZ.out
  have hpq : PlQ w2.heap.size (w2.heap.size + 1) p b ta ba sa tc m bc' L sc bs w4 := ⟨e0, e1, e2, by omega, by omega, HP.out.below hbw, HT.out.2.2.1.below hb4, HB.out.below hbw⟩
  have a4 := (hb24.block _ (lt_of_at HA.out)).trans HA.out
  have b4 := (hb24.block _ (lt_of_at HBx.out)).trans HBx.out
  obtain ⟨z, hz⟩ : ∃ z, w2.heap.size = z := ⟨_, rfl⟩
  rw [hz] at hz4 e0 e1 e2 s2 s4 hpq ⊢
  clear hb4 hb24 HPl
  gi_wp2
  refine range_outerQ (gf := 27) (lb := #[pbox z, pbox (z + 1)]) rfl (fun h => by simp [Fence.wide] at h) rfl trivial (enters_of Try.func27 (by kernel_rfl) rfl)
    (places_iter (n - 1) 0 z (z + 1) (D0 := fun _ => False) (w := w4) (fun k h => h.elim) HT.out.2.1 HM.out HT.out.1 HL.out hml (by omega)) (Nat.zero_le _) (Below.refl _ _) (fun k h => h.elim) (fun _ => rfl)
    (FsI (allOf p b) w4 I) (FsX w w4 (w.heap.size + 1) F) FsI.firm (FsX.firm (by omega) (by omega)) (fun s E V ⟨_, m2, _⟩ => hpq.below m2) ⟨fun k h => h.elim, Below.refl _ _, fun i y h => by simp at h⟩
    (fun x a' E W' => a' = { tmps := #[.slice sa L sc, .slice ta m tc, .int .i64 I, undef, undef, pbox w.heap.size, pbox (w.heap.size + 1), .int .i64 (x : Int), .slice ta m tc, .agg #[.slice ta m tc, .slice ba m bc'], .slice sa L sc, .func (.func 27) #[] #[pbox z, pbox (z + 1)], .int .i64 (x : Int), undef, undef, undef, undef], defers := [] })
    (fun x a' E V l r o h _ => h) ?assign ?body ?done ?stop
  case assign =>
    intro l' pre x E V K hl' hi hE hK
    clear hz4 s1 hz
    simp only [encN]
    gi_wp2
    exact hK _ E _ (fun k h => h) hE (Same.refl _ _) (Below.refl _ _) hi rfl
  case body =>
    rintro lo pre x a' E V hEl ⟨r, hr⟩ hE ⟨m1, m2, m3⟩ rfl hN
    have aV := (m2.block _ (show w.heap.size < w4.heap.size by omega)).trans a4
    have bV := (m2.block _ (show w.heap.size + 1 < w4.heap.size by omega)).trans b4
    have c1V : V.cell? ⟨w.heap.size, 0, none⟩ = some (.int .i64 I) := (cell_at aV 0).trans rfl
    have c2V : V.cell? ⟨w.heap.size + 1, 0, none⟩ = some (.int .i64 0) := (cell_at bV 0).trans rfl
    have zz := unfrozen bV 0
    have hs := m2.size
    have HB' := Lib.hid bV
    have HSZ := Lib.hid (And.intro hz4 (And.intro s1 (And.intro s2 s4)))
    clear hz4 s1 s2 s4 hz aV bV a4 b4 e0 e1 e2 hpq
    by_cases hx : I ≤ (x : Int)
    · have hFF := fst_hit hN m3 hx
      have dx : decide (I ≤ (x : Int)) = true := decide_eq_true hx
      have hw4 : w.heap.size + 1 < w4.heap.size := by have := HSZ.out; omega
      gi_wp2
      refine ⟨fun k hk => heap_set_other (by have := m1 k hk; omega), rfl, m1, (hbw.trans (m2.mono hbw.size)).setCell (p := ⟨w.heap.size + 1, 0, none⟩) (by show w.heap.size ≤ w.heap.size + 1; omega) _, by rw [World.size_setCell]; exact hs, ?_⟩
      rw [← HF.out, hFF]; exact World.cell?_setCell_same' _ _ _ (by rw [c2V]; rfl)
    · have dx : decide (I ≤ (x : Int)) = false := decide_eq_false hx
      have M3 := Lib.hid m3
      have HX := Lib.hid hx
      clear m3 hx
      gi_wp2
      refine ⟨Same.refl _ _, Below.refl _ _, m1, m2, fun i y hi hy => ?_⟩
      rw [List.length_append, List.length_singleton] at hi
      by_cases hii : i = pre.length
      · rw [hii, hN] at hy; injection hy with hy; rw [← hy]; have := HX.out; omega
      · have := M3.out i y (by omega) hy; omega
  case done =>
    rintro d ys E W3 hd hEd rfl ⟨m1, m2, m3⟩ hK
    have hFF := fst_miss (fun i y hy => m3 i y (List.getElem?_eq_some_iff.1 hy).1 hy)
    rw [HF.out] at hFF
    have bV := (m2.block _ (show w.heap.size + 1 < w4.heap.size by omega)).trans b4
    have c2V : W3.cell? ⟨w.heap.size + 1, 0, none⟩ = some (.int .i64 0) := (cell_at bV 0).trans rfl
    have zz := unfrozen bV 0
    have hK5 : (W3.setCell ⟨w.heap.size + 1, 0, none⟩ (.int .i64 (-1))).heap[d]? = some (.deferred (some [])) := (heap_set_other (show d ≠ w.heap.size + 1 by omega)).trans hK
    have HK5 := Lib.hid hK5
    have hdg : w.heap.size ≤ d := by omega
    clear hK hK5 hz4 s1 s2 s4 hz bV a4 b4 e0 e1 e2 hpq
    gi_wp2
    refine ⟨by simp, .inl ⟨_, _, rfl, run_takeDeferred HK5.out, ?_⟩⟩
    have q1 : (W3.setCell ⟨w.heap.size + 1, 0, none⟩ (.int .i64 (-1))).cell? ⟨w.heap.size + 1, 0, none⟩ = some (.int .i64 (-1)) := World.cell?_setCell_same' _ _ _ (by rw [c2V]; rfl)
    have q0 : ((W3.setCell ⟨w.heap.size + 1, 0, none⟩ (.int .i64 (-1))).putObj d (.deferred none)).cell? ⟨w.heap.size + 1, 0, none⟩ = some (.int .i64 (-1)) := cell_kept q1 (grownBy_putObj' _ d (.deferred none)) (fun r e => by cases e; exact ⟨_, HK5.out, rfl⟩)
    exact ⟨.int .i64 (-1), by simp [results, Try.results11, go_sem, q0], by first | rfl | rw [hFF], ((hbw.trans (m2.mono hbw.size)).setCell (p := ⟨w.heap.size + 1, 0, none⟩) (by show w.heap.size ≤ w.heap.size + 1; omega) _).grown (grownBy_putObj' _ d (.deferred none)) (by rw [World.size_setCell]; have := m2.size; have := hbw.size; omega) (fun k e => by cases e; exact hdg)⟩
  case stop =>
    rintro d c pre E W3 hd hEd hSp ⟨rfl, m1, m2, m3, m4⟩ hK
    have hdg : w.heap.size ≤ d := by omega
    clear hz4 s1 s2 s4 hz a4 b4 e0 e1 e2 hpq
    gi_wp2
    refine ⟨by simp, .inl ⟨_, _, rfl, run_takeDeferred hK, ?_⟩⟩
    have m4' : (W3.putObj d (.deferred none)).cell? ⟨w.heap.size + 1, 0, none⟩ = some (.int .i64 F) := cell_kept m4 (grownBy_putObj' W3 d (.deferred none)) (fun r e => by cases e; exact ⟨_, hK, rfl⟩)
    have ms := m2.size
    exact ⟨.int .i64 F, by simp [results, Try.results11, go_sem, m4'], rfl, m2.grown (grownBy_putObj' W3 d _) ms (fun k e => by cases e; exact hdg)⟩

/-- The last place ahead of the first one that is not below a number. -/
def lstP (n : Int) : Int → List Nat → Int
  | c, [] => c
  | c, x :: l => if n ≤ (x : Int) then c else lstP n (x : Int) l
/-- The last one of a row. -/
def lastN : List Nat → Int
  | [] => -1
  | [x] => (x : Int)
  | _ :: y :: l => lastN (y :: l)
theorem lastN_snoc (x : Nat) : ∀ l : List Nat, lastN (l ++ [x]) = (x : Int)
  | [] => rfl
  | [_] => rfl
  | _ :: y :: l => lastN_snoc x (y :: l)
theorem lst_go {n : Int} : ∀ (A pre : List Nat) (c : Int), pre <+: A → (∀ y ∈ pre, ¬ n ≤ (y : Int)) → lstP n c A = lstP n (if pre = [] then c else lastN pre) (A.drop pre.length)
  | A, [], c, _, _ => rfl
  | [], x :: pre, c, h, _ => by simp at h
  | y :: A, x :: pre, c, h, hn => by
    obtain ⟨rfl, h2⟩ := List.cons_prefix_cons.1 h
    have hx := hn x List.mem_cons_self
    show (if n ≤ (x : Int) then c else lstP n (x : Int) A) = _
    rw [if_neg hx, lst_go A pre x h2 (fun z hz => hn z (List.mem_cons_of_mem _ hz)), if_neg (List.cons_ne_nil _ _), List.length_cons, List.drop_succ_cons]
    cases pre with
    | nil => rfl
    | cons z pre => rw [if_neg (List.cons_ne_nil _ _)]; rfl
theorem lst_stop {n : Int} {A pre : List Nat} {x : Nat} (h : pre <+: A) (hx : A[pre.length]? = some x) (hn : ∀ y ∈ pre, ¬ n ≤ (y : Int)) (hx2 : n ≤ (x : Int)) : lstP n (-1) A = lastN pre := by
  have hk := (List.getElem?_eq_some_iff.1 hx)
  rw [lst_go A pre (-1) h hn, List.drop_eq_getElem_cons hk.1]
  show (if n ≤ ((A[pre.length]'hk.1 : Nat) : Int) then _ else _) = _
  rw [hk.2, if_pos hx2]
  cases pre with
  | nil => rfl
  | cons z pre => rfl
theorem lst_all {n : Int} {A : List Nat} (hn : ∀ y ∈ A, ¬ n ≤ (y : Int)) : lstP n (-1) A = lastN A := by
  rw [lst_go A A (-1) (List.prefix_refl _) hn, List.drop_length]
  cases A with
  | nil => rfl
  | cons z A => rfl
theorem rd_moves {w W : World} {D : Bls} {s n : Nat} {a : Option Addr} {xs : List Value} (h : Rd w s a n xs) (hm : Moves D w W) (hd : ∀ d, a = some d → ¬ D d.block) : Rd W s a n xs := by
  refine ⟨h.1, fun hx => ?_⟩
  obtain ⟨g, off, rfl, hg, hc⟩ := h.2 hx
  exact ⟨g, off, rfl, Nat.lt_of_lt_of_le hg hm.size, fun j u hj => (hm.cell (b := g) (o := off + j) hg (hd ⟨g, off, none⟩ rfl)).trans (hc j u hj)⟩
theorem PlQ.moves {D : Bls} {B1 B2 : Nat} {p b : List UInt8} {ta ba sa : Option Addr} {tc m bc' L sc : Nat} {bs : List Nat} {w W : World} (h : PlQ B1 B2 p b ta ba sa tc m bc' L sc bs w) (hm : Moves D w W) (h1 : ¬ D B1) (h2 : ¬ D B2) (ht : ∀ d, ta = some d → ¬ D d.block) (hb : ∀ d, ba = some d → ¬ D d.block) (hs : ∀ d, sa = some d → ¬ D d.block) : PlQ B1 B2 p b ta ba sa tc m bc' L sc bs W :=
  ⟨(hm.cell h.lt1 h1).trans h.c0, (hm.cell h.lt1 h1).trans h.c1, (hm.cell h.lt2 h2).trans h.c2, Nat.lt_of_lt_of_le h.lt1 hm.size, Nat.lt_of_lt_of_le h.lt2 hm.size, rd_moves h.txt hm ht, rd_moves h.rd hm hb, rd_moves h.byt hm hs⟩
def LsI (A : List Nat) (w4 : World) (q : Nat) (n : Int) (s : List Nat) (E : Bls) (W : World) : Prop :=
  (∀ k, E k → w4.heap.size ≤ k) ∧ Moves (fun k => k = q) w4 W ∧ W.heap[q]? = some (.cells #[.int .i64 (lastN s)] 3 (0, 0)) ∧ s <+: A ∧ ∀ y ∈ s, ¬ n ≤ (y : Int)
theorem Moves.more {D E : Bls} {w W W' : World} (h : Moves D w W) (hm : Moves E W W') (hd : ∀ k, k < w.heap.size → E k → D k) : Moves D w W' :=
  ⟨hm.os.trans h.os, hm.tape.trans h.tape, hm.output.trans h.output, Nat.le_trans h.size hm.size, fun k hk hn => (hm.block k (Nat.lt_of_lt_of_le hk h.size) (fun e => hn (hd k hk e))).trans (h.block k hk hn)⟩
theorem LsI.firm {A : List Nat} {w4 : World} {q : Nat} {n : Int} (hq : q < w4.heap.size) : Firm (LsI A w4 q n) := by
  rintro s D D' W W' ⟨h1, h2, h3, h4⟩ hm hd
  have hs := h2.size
  exact ⟨fun k hk => (hd k hk).elim (h1 k) (fun h => by omega), h2.more hm (fun k hk h => by have := h1 k h; omega), (hm.block q (lt_of_at h3) (fun h => by have := h1 q h; omega)).trans h3, h4⟩
def LsX (w4 : World) (q : Nat) (F : Int) (id : Nat) (c : Code) (s : List Nat) (E : Bls) (W : World) : Prop :=
  c = .exit id ∧ (∀ k, E k → w4.heap.size ≤ k) ∧ Moves (fun k => k = q) w4 W ∧ W.heap[q]? = some (.cells #[.int .i64 F] 3 (0, 0))
theorem LsX.firm {w4 : World} {q id : Nat} {F : Int} (hq : q < w4.heap.size) (c : Code) : Firm (LsX w4 q F id c) := by
  rintro s D D' W W' ⟨h0, h1, h2, h3⟩ hm hd
  have hs := h2.size
  exact ⟨h0, fun k hk => (hd k hk).elim (h1 k) (fun h => by omega), h2.more hm (fun k hk h => by have := h1 k h; omega), (hm.block q (lt_of_at h3) (fun h => by have := h1 q h; omega)).trans h3⟩

set_option maxRecDepth 100000 in
set_option maxHeartbeats 4000000 in
theorem last_in (n : Nat) {w : World} {p b : List UInt8} {ta sa : Option Addr} {m tc L sc : Nat} (I : Int) (hb : Rd w 1 sa b.length (bc b)) (hp : Rd w 1 ta p.length (bc p)) (hL : b.length = L) (hm : p.length = m) (hml : m ≤ 100000) (hll : L ≤ 100000) (hsa : ∀ d, sa = some d → d.block < w.heap.size) (hta : ∀ d, ta = some d → d.block < w.heap.size) :
    CallsIn Fence.wide n Try.prog 13 #[.slice sa L sc, .slice ta m tc, .int .i64 I] w fun e w' => e = .returned (.int .i64 (lstP I (-1) (allOf p b))) ∧ Below w.heap.size w w' := by
  obtain ⟨w1, hw1, hb1, hz1, hA, hB⟩ := two_blocks w (Obj.cells #[.int .i64 I] 3) (Obj.cells #[.int .i64 (-1)] 3)
  have HSe := Lib.hid ((callsIn_wide (n := n - 1)).2 (seek_of (tc := tc) (hp.below hb1) hm hml))
  have HB := Lib.hid hb
  have HP := Lib.hid hp
  have HL := Lib.hid hL
  have HM := Lib.hid hm
  have HB1 := Lib.hid hb1
  have HA := Lib.hid hA
  have HBx := Lib.hid hB
  have HZ := Lib.hid hz1
  obtain ⟨F, hF⟩ : ∃ F, lstP I (-1) (allOf p b) = F := ⟨_, rfl⟩
  have HF := Lib.hid hF
  rw [hF]
  clear hb hp hL hm hb1 hA hB hz1 hF
  refine callsIn_of_wp_marks Try.func13 rfl trivial ?_ rfl
  simp only [Try.ntmps13, List.size_toArray, List.length_cons, List.length_nil, Nat.reduceAdd, Nat.reduceSub, Array.replicate_succ, Array.replicate_zero, List.push_toArray, List.append_toArray, List.nil_append, List.cons_append]
  gi_wp2
  refine ⟨trivial, fun h => by simp [Fence.wide] at h, HSe.out.mono ?_⟩
  rintro e w2 ⟨bs, ba, bc', rfl, h1, h2, h3, hba, hb2⟩
  have HT := Lib.hid (And.intro h1 (And.intro h2 (And.intro h3 (And.intro hba hb2))))
  have HPl := Lib.hid ((callsIn_wide (n := n - 1)).2 (places_call (w := w2) ta ba sa m tc bc' L sc))
  clear h1 h2 h3 hba hb2 HSe hw1
  gi_wp2
  refine ⟨trivial, fun h => by simp [Fence.wide] at h, HPl.out.mono ?_⟩
  rintro e w4 ⟨rfl, hb4, hz4, e0, e1, e2⟩
  have hb24 := HT.out.2.2.2.2.trans (hb4.mono HT.out.2.2.2.2.size)
  have hbw := HB1.out.trans (hb24.mono HB1.out.size)
  have s2 := HT.out.2.2.2.2.size
  have s4 := hb4.size
  have s1 := HZ.out
  have hpq : PlQ w2.heap.size (w2.heap.size + 1) p b ta ba sa tc m bc' L sc bs w4 := ⟨e0, e1, e2, by omega, by omega, HP.out.below hbw, HT.out.2.2.1.below hb4, HB.out.below hbw⟩
  have a4 := (hb24.block _ (lt_of_at HA.out)).trans HA.out
  have b4 := (hb24.block _ (lt_of_at HBx.out)).trans HBx.out
  obtain ⟨z, hz⟩ : ∃ z, w2.heap.size = z := ⟨_, rfl⟩
  rw [hz] at hz4 e0 e1 e2 s2 s4 hpq ⊢
  clear hb4 hb24 HPl
  gi_wp2
  refine range_outerQ (gf := 27) (lb := #[pbox z, pbox (z + 1)]) rfl (fun h => by simp [Fence.wide] at h) rfl trivial (enters_of Try.func27 (by kernel_rfl) rfl)
    (places_iter (n - 1) 0 z (z + 1) (D0 := fun _ => False) (w := w4) (fun k h => h.elim) HT.out.2.1 HM.out HT.out.1 HL.out hml (by omega)) (Nat.zero_le _) (Below.refl _ _) (fun k h => h.elim) (fun _ => rfl)
    (LsI (allOf p b) w4 (w.heap.size + 1) I) (LsX w4 (w.heap.size + 1) F 0) (LsI.firm (by omega)) (LsX.firm (by omega)) (fun s E V ⟨_, m2, _⟩ => hpq.moves m2 (by omega) (by omega) (fun d hd => by have := hta d hd; omega) (fun d hd => by have := HT.out.2.2.2.1 d hd; omega) (fun d hd => by have := hsa d hd; omega)) ⟨fun k h => h.elim, Moves.refl _ _, b4, List.nil_prefix, fun y h => by simp at h⟩
    (fun x a' E W' => a' = { tmps := #[.slice sa L sc, .slice ta m tc, .int .i64 I, undef, undef, pbox w.heap.size, .int .i64 0, pbox (w.heap.size + 1), .int .i64 (x : Int), .slice ta m tc, .agg #[.slice ta m tc, .slice ba m bc'], .slice sa L sc, .func (.func 27) #[] #[pbox z, pbox (z + 1)], .int .i64 (x : Int), undef, undef, undef, undef, undef], defers := [] })
    (fun x a' E V l r o h _ => h) ?assign ?body ?done ?stop
  case assign =>
    intro l' pre x E V K hl' hi hE hK
    clear hz4 s1 hz
    simp only [encN]
    gi_wp2
    exact hK _ E _ (fun k h => h) hE (Same.refl _ _) (Below.refl _ _) hi rfl
  case body =>
    rintro lo pre x a' E V hEl ⟨r, hr⟩ hE ⟨m1, m2, m3, m4, m5⟩ rfl hN
    have aV := (m2.block _ (show w.heap.size < w4.heap.size by omega) (by omega)).trans a4
    have c1V : V.cell? ⟨w.heap.size, 0, none⟩ = some (.int .i64 I) := (cell_at aV 0).trans rfl
    have c2V : V.cell? ⟨w.heap.size + 1, 0, none⟩ = some (.int .i64 (lastN pre)) := (cell_at m3 0).trans rfl
    have zz := unfrozen m3 0
    have hs := m2.size
    have HSZ := Lib.hid (And.intro hz4 (And.intro s1 (And.intro s2 s4)))
    have M := Lib.hid (And.intro m1 (And.intro m2 (And.intro m3 (And.intro m4 m5))))
    have HN := Lib.hid hN
    clear hz4 s1 s2 s4 hz aV a4 b4 e0 e1 e2 hpq m1 m2 m3 m4 m5 hN
    by_cases hx : I ≤ (x : Int)
    · have hFF := lst_stop M.out.2.2.2.1 HN.out M.out.2.2.2.2 hx
      have HFF := Lib.hid hFF
      have dx : decide (I ≤ (x : Int)) = true := decide_eq_true hx
      clear hFF
      gi_wp2
      exact ⟨Same.refl _ _, rfl, M.out.1, M.out.2.1, by rw [← HF.out, HFF.out]; exact M.out.2.2.1⟩
    · have dx : decide (I ≤ (x : Int)) = false := decide_eq_false hx
      have HX := Lib.hid hx
      clear hx
      gi_wp2
      refine ⟨fun k hk => heap_set_other (by have := M.out.1 k hk; have := HSZ.out; omega), (Below.refl _ _).setCell (p := ⟨w.heap.size + 1, 0, none⟩) (Nat.zero_le _) _, M.out.1, M.out.2.1.set rfl, ?_, ?_, ?_⟩
      · rw [lastN_snoc]; exact heap_set_at M.out.2.2.1
      · obtain ⟨u, hu⟩ := M.out.2.2.2.1
        have h1 := HN.out
        rw [← hu] at h1 ⊢
        rw [List.getElem?_append_right (Nat.le_refl _), Nat.sub_self] at h1
        cases u with
        | nil => simp at h1
        | cons v u =>
          obtain rfl : v = x := by simpa using h1
          exact ⟨u, by simp⟩
      · intro y hy
        rcases List.mem_append.1 hy with hy | hy
        · have := M.out.2.2.2.2 y hy; omega
        · obtain rfl := List.mem_singleton.1 hy; have := HX.out; omega
  case done =>
    rintro d ys E W3 hd hEd rfl ⟨m1, m2, m3, m4, m5⟩ hK
    have hFF := lst_all m5
    rw [HF.out] at hFF
    have c2V : W3.cell? ⟨w.heap.size + 1, 0, none⟩ = some (.int .i64 F) := (cell_at m3 0).trans (by rw [hFF]; rfl)
    have hdg : w.heap.size ≤ d := by omega
    have hbW : Below w.heap.size w W3 := ⟨m2.os.trans hbw.os, m2.tape.trans hbw.tape, m2.output.trans hbw.output, Nat.le_trans hbw.size m2.size, fun k hk => (m2.block k (by omega) (by omega)).trans (hbw.block k hk)⟩
    have HBW := Lib.hid hbW
    clear hz4 s1 s2 s4 hz a4 b4 e0 e1 e2 hpq hFF m1 m2 m3 m4 m5 hbW
    gi_wp2
    refine ⟨by simp, .inl ⟨_, _, rfl, run_takeDeferred hK, ?_⟩⟩
    exact ⟨_, results_tmp rfl _ _ _, rfl, HBW.out.grown (grownBy_putObj' W3 d _) HBW.out.size (fun k e => by cases e; exact hdg)⟩
  case stop =>
    rintro d c pre E W3 hd hEd hSp ⟨rfl, m1, m2, m3⟩ hK
    have c2V : W3.cell? ⟨w.heap.size + 1, 0, none⟩ = some (.int .i64 F) := (cell_at m3 0).trans rfl
    have hdg : w.heap.size ≤ d := by omega
    have hbW : Below w.heap.size w W3 := ⟨m2.os.trans hbw.os, m2.tape.trans hbw.tape, m2.output.trans hbw.output, Nat.le_trans hbw.size m2.size, fun k hk => (m2.block k (by omega) (by omega)).trans (hbw.block k hk)⟩
    have HBW := Lib.hid hbW
    clear hz4 s1 s2 s4 hz a4 b4 e0 e1 e2 hpq m1 m2 m3 hbW
    gi_wp2
    refine ⟨by simp, .inl ⟨_, _, rfl, run_takeDeferred hK, ?_⟩⟩
    exact ⟨_, results_tmp rfl _ _ _, rfl, HBW.out.grown (grownBy_putObj' W3 d _) HBW.out.size (fun k e => by cases e; exact hdg)⟩

end Go.Proofs.Ytkgakgceamafcaa
