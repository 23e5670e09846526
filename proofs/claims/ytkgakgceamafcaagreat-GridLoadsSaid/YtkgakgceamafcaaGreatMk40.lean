/-
  Texts of this seat, put together (a claim holds few texts): RwK, GeK.
-/
import Derived.Test.YtkgakgceamafcaaGreatMk39

namespace Go.Proofs.YtkgakgceamafcaaGreat
open Go Go.RowKit
set_option linter.unusedVariables false

theorem str_ext8 (l : List UInt8) (i j : Nat) : (strOf l).extract i j = strOf ((l.drop i).take (j - i)) := by
  apply ByteArray.ext
  simp [strOf, ByteArray.data_extract]
theorem take_ext8 (l : List UInt8) (q n : Nat) : l.take q ++ (l.drop q).take n = l.take (q + n) := by rw [List.take_add]
theorem take_one8 (l : List UInt8) (q : Nat) (h : q < l.length) (x : UInt8) (hx : lb l q = x.toNat) : l.take q ++ [x] = l.take (q + 1) := by
  rw [List.take_succ_eq_append_getElem h]
  have : l[q] = x := by
    unfold lb at hx
    rw [List.getD_eq_getElem?_getD, List.getElem?_eq_getElem h] at hx
    have hx' : ((l[q].toNat : Nat) : Int) = x.toNat := by simpa using hx
    apply UInt8.toNat_inj.1
    omega
  rw [this]

theorem mark_ext8 {l : List UInt8} {k : Nat} (hk : k < l.length) : strOf (l.take (fieldsP l k).2) ++ markS (rowP l k).fin = strOf (l.take (rowP l k).next) ∧ ((rowP l k).fin = 0 → (rowP l k).next = l.length ∧ (fieldsP l k).2 = l.length) := by
  obtain ⟨a, b, c, d, _⟩ := fieldsP_spec l _ k rfl (by omega)
  unfold rowP
  simp only
  generalize (fieldsP l k).2 = q at *
  rcases endP_spec c d b with ⟨e, f⟩ | ⟨e, f, g⟩ | ⟨e, f, g, h⟩ | ⟨e, f, g, h⟩ <;> rw [e]
  · refine ⟨?_, fun _ => ⟨?_, f.symm⟩⟩
    · show strOf (l.take q) ++ strOf [] = strOf (l.take (q + 0)); rw [strOf_app]; simp
    · show q + 0 = _; omega
  · refine ⟨?_, fun h => by cases h⟩
    show strOf (l.take q) ++ strOf [10] = strOf (l.take (q + 1)); rw [strOf_app, take_one8 l q f 10 g]
  · refine ⟨?_, fun h => by cases h⟩
    show strOf (l.take q) ++ strOf [13, 10] = strOf (l.take (q + 2))
    rw [strOf_app, show ([13, 10] : List UInt8) = [13] ++ [10] from rfl, ← List.append_assoc, take_one8 l q (by omega) 13 g, take_one8 l (q + 1) f 10 h]
  · refine ⟨?_, fun h => by cases h⟩
    show strOf (l.take q) ++ strOf [13] = strOf (l.take (q + 1)); rw [strOf_app, take_one8 l q f 13 g]

theorem allP_step8 {l : List UInt8} {k r : Nat} {R : List Rw} (h : R.drop r = allP l k) (hr : r < R.length) : k < l.length ∧ R[r] = rowP l k ∧ R.drop (r + 1) = allP l (rowP l k).next := by
  rw [List.drop_eq_getElem_cons hr] at h
  rcases Nat.lt_or_ge k l.length with h1 | h1
  · rw [allP_more h1] at h
    injection h with h2 h3
    exact ⟨h1, h2, h3⟩
  · rw [allP_end h1] at h; cases h
theorem sub_take {l : List UInt8} {i j : Nat} (hi : i ≤ j) (hj : j ≤ l.length) : subL l i ((j : Int) - i) = (l.drop i).take (j - i) := by
  unfold subL rightB
  rw [if_pos (by simp only [decide_eq_true_eq]; omega)]
  congr 1
  · omega
theorem jnP_two (x y : List UInt8) (r : List (List UInt8)) : jnP (x :: y :: r) = x ++ 44 :: jnP (y :: r) := by simp [jnP]
def rawF (l : List UInt8) (F : Fd) : List UInt8 := subL l F.from_ ((F.to_ : Int) - F.from_)
theorem jn_row (l : List UInt8) : ∀ n k, l.length - k = n → k ≤ l.length → l.take k ++ jnP ((fieldsP l k).1.map (rawF l)) = l.take (fieldsP l k).2
  | n, k, hn, hk => by
    obtain ⟨a, b, c, _⟩ := fieldP_spec hk
    have hr : rawF l (fieldP l k) = (l.drop k).take ((fieldP l k).to_ - k) := by
      unfold rawF; rw [fieldP_from]; exact sub_take a b
    have ht : l.take k ++ rawF l (fieldP l k) = l.take (fieldP l k).to_ := by
      rw [hr, take_ext8]; congr 1; omega
    by_cases h : (fieldP l k).to_ < l.length ∧ lb l (fieldP l k).to_ = 44
    · rw [fieldsP_more hk h.1 h.2]
      have ih := jn_row l (l.length - ((fieldP l k).to_ + 1)) ((fieldP l k).to_ + 1) rfl (by omega)
      rw [← take_one8 l _ h.1 44 h.2, ← ht] at ih
      simp only [List.map_cons]
      generalize hfs : (fieldsP l ((fieldP l k).to_ + 1)).1 = fs at *
      have hne : fs ≠ [] := by
        rw [← hfs]
        by_cases h3 : (fieldP l ((fieldP l k).to_ + 1)).to_ < l.length ∧ lb l (fieldP l ((fieldP l k).to_ + 1)).to_ = 44
        · rw [fieldsP_more (by omega) h3.1 h3.2]; simp
        · rw [fieldsP_last h3]; simp
      cases fs with
      | nil => exact absurd rfl hne
      | cons y ys =>
        rw [List.map_cons, jnP_two, ← ih]
        simp [List.map_cons]
    · rw [fieldsP_last h]
      simp only [List.map_cons, List.map_nil, jnP, List.flatMap_nil, List.append_nil]
      exact ht
termination_by n => n
decreasing_by omega

def kkC (l : List UInt8) (q : Int × Int × Bool × List Int) : RCM := (strOf (atL l q.2.2.2), (if q.2.2.1 = true then strOf (subL l q.1 q.2.1) else ⟨#[]⟩), q.2.2.1)
def pkC (l : List UInt8) (q : Int × Int × Bool × List Int) : List UInt8 := if q.2.2.1 = true then subL l q.1 q.2.1 else putP (atL l q.2.2.2)
theorem rc_key {l : List UInt8} {Ms : List CelM} {fs : List Fd} (h : Ms.map keyC = fs.map keyF) : Ms.map (rc l) = fs.map (rcF l) := by
  have h1 : Ms.map (rc l) = (Ms.map keyC).map (kkC l) := by rw [List.map_map]; rfl
  have h2 : fs.map (rcF l) = (fs.map keyF).map (kkC l) := by rw [List.map_map]; rfl
  rw [h1, h2, h]
theorem pr_key {l : List UInt8} {Ms : List CelM} {fs : List Fd} (h : Ms.map keyC = fs.map keyF) : Ms.map (prP l) = fs.map (rawF l) := by
  have h1 : Ms.map (prP l) = (Ms.map keyC).map (pkC l) := by rw [List.map_map]; rfl
  have h2 : fs.map (rawF l) = (fs.map keyF).map (pkC l) := by rw [List.map_map]; rfl
  rw [h1, h2, h]
theorem row_text {l : List UInt8} {k : Nat} {Ms : List CelM} (hk : k < l.length) (h : Ms.map keyC = (rowP l k).fs.map keyF) :
    strOf (jnP (Ms.map (prP l))) ++ markS (rowP l k).fin = (strOf l).extract k (rowP l k).next := by
  have h1 := (mark_ext8 hk).1
  rw [← jn_row l _ k rfl (by omega), ← pr_key (l := l) (Ms := Ms) (fs := (fieldsP l k).1) h] at h1
  have hn := rowP_next hk
  rw [str_ext8]
  generalize (rowP l k).next = nx at *
  generalize jnP (Ms.map (prP l)) = J at *
  obtain ⟨M, hM⟩ : ∃ M, markS (rowP l k).fin = strOf M := ⟨_, (strOf_data _).symm⟩
  rw [hM, strOf_app] at h1 ⊢
  have h2 := strOf_eq h1
  rw [show nx = k + (nx - k) by omega, ← take_ext8, List.append_assoc] at h2
  rw [List.append_cancel_left h2]

open Classical in
noncomputable def erOf (R : Rw) : Int := if 40 < R.fs.length then 6 else if ∃ f ∈ R.fs, longF f then 7 else 0
noncomputable def lsR (l : List UInt8) (R : Rw) : List RCM := if erOf R = 0 then R.fs.map (rcF l) else []
noncomputable def fnR (R : Rw) : Int := if erOf R = 0 then R.fin else 0
theorem er6 {R : Rw} (h : 40 < R.fs.length) : erOf R = 6 := by unfold erOf; rw [if_pos h]
theorem er7 {R : Rw} (h : R.fs.length ≤ 40) (h2 : ∃ f ∈ R.fs, longF f) : erOf R = 7 := by unfold erOf; rw [if_neg (by omega), if_pos h2]
theorem er0 {R : Rw} (h : R.fs.length ≤ 40) (h2 : ∀ f ∈ R.fs, ¬ longF f) : erOf R = 0 := by
  unfold erOf; rw [if_neg (by omega), if_neg (fun ⟨f, hf, hl⟩ => h2 f hf hl)]
theorem lsR_len (l : List UInt8) (R : Rw) : (lsR l R).length ≤ 40 := by
  unfold lsR
  split
  · rename_i h
    rw [List.length_map]
    by_cases h4 : 40 < R.fs.length
    · rw [er6 h4] at h; cases h
    · omega
  · simp
theorem ro_none (w : World) (l : List UInt8) : RoIn w l none [] := ⟨⟨rfl, fun hn => absurd hn (by simp)⟩, (fun q hq => by simp at hq), (fun d hd => by cases hd)⟩
theorem ld_one {l : List UInt8} {R : Rw} {w w' : World} {e : Ending} (h : LdPost l R w e w') :
    ∃ (a : Option Addr) (c : Nat) (Ms : List CelM), e = .returned (.tuple #[rowV a Ms.length c (fnR R) false, .int .i64 (erOf R)]) ∧ RoIn w' l a Ms ∧ Ms.length ≤ 40 ∧ Ms.map (rc l) = lsR l R ∧ (erOf R = 0 → Ms.map keyC = R.fs.map keyF ∧ fnR R = R.fin) ∧ Ms.length = c ∧ (a = none → c = 0) ∧ Below w.heap.size w w' := by
  obtain ⟨hb, h | h | h⟩ := h
  · obtain ⟨h1, rfl⟩ := h
    refine ⟨none, 0, [], ?_, ro_none _ _, by simp, ?_, ?_, by simp, fun _ => rfl, hb⟩ <;> simp [fnR, lsR, er6 h1]
  · obtain ⟨h1, h2, rfl⟩ := h
    refine ⟨none, 0, [], ?_, ro_none _ _, by simp, ?_, ?_, by simp, fun _ => rfl, hb⟩ <;> simp [fnR, lsR, er7 h1 h2]
  · obtain ⟨h1, h2, a, c, Ms, rfl, hk, hr, hcl, hcn⟩ := h
    have hl : Ms.length = R.fs.length := by have := congrArg List.length hk; simpa using this
    refine ⟨a, c, Ms, ?_, hr, by omega, ?_, ?_, hcl, hcn, hb⟩ <;> simp [fnR, lsR, er0 h1 h2, rc_key hk, hk]
theorem rld_one {l : List UInt8} {R : Rw} {w w' : World} {e : Ending} (h : RLdPost l R w e w') :
    ∃ (a : Option Addr) (c : Nat), e = .returned (.tuple #[rrV a (lsR l R).length c (fnR R), .int .i64 (erOf R)]) ∧ Rd w' 3 a (lsR l R).length (rcC (lsR l R)) ∧ Below w.heap.size w w' := by
  obtain ⟨hb, h | h | h⟩ := h
  · obtain ⟨h1, rfl⟩ := h
    refine ⟨none, 0, ?_, ?_, hb⟩ <;> simp [fnR, lsR, er6 h1]
    exact ⟨rfl, fun hn => absurd hn (by simp)⟩
  · obtain ⟨h1, h2, rfl⟩ := h
    refine ⟨none, 0, ?_, ?_, hb⟩ <;> simp [fnR, lsR, er7 h1 h2]
    exact ⟨rfl, fun hn => absurd hn (by simp)⟩
  · obtain ⟨h1, h2, a, c, rfl, ho⟩ := h
    have hr := own_rd ho
    refine ⟨a, c, ?_, ?_, hb⟩ <;> simp [fnR, lsR, er0 h1 h2]
    exact hr

end Go.Proofs.YtkgakgceamafcaaGreat

namespace Go.Proofs.YtkgakgceamafcaaGreat
open Go Go.RowKit Go.Shelf
set_option linter.unusedVariables false

/-- A row's line, without its end. -/
def lineP (l : List UInt8) (ms : List CelM) : List UInt8 := jnP (ms.map (prP l))
/-- The bytes of an end. -/
def endB (e : Int) : List UInt8 := (markS e).data.toList
theorem endB_str (e : Int) : strOf (endB e) = markS e := strOf_data _
/-- A row as it is saved. -/
def saveR (l : List UInt8) (Cs : List (List CelM)) (N : Nat) (tl : Bool) (en : Int) (x : Nat × R3) : List UInt8 :=
  lineP l (Cs.getD x.1 []) ++ (if x.1 + 1 < N ∨ tl = true ∨ (lineP l (Cs.getD x.1 [])).length = 0 then endB (endR en x.2.e) else [])
/-- A grid as it is saved. -/
def saveP (l : List UInt8) (Cs : List (List CelM)) (N : Nat) (tl : Bool) (en : Int) (Ls : List R3) : List UInt8 := (pairs Ls).flatMap (saveR l Cs N tl en)

theorem pre_any {α : Type} {l A : List α} {x : α} (h : l <+: A) (hx : A[l.length]? = some x) : l ++ [x] <+: A := by
  obtain ⟨u, hu⟩ := h
  rw [← hu] at hx ⊢
  rw [List.getElem?_append_right (Nat.le_refl _), Nat.sub_self] at hx
  cases u with
  | nil => simp at hx
  | cons v u =>
    obtain rfl : v = x := by simpa using hx
    exact ⟨u, by simp⟩
theorem flat_pre {α β : Type} {f : α → List β} {l A : List α} (h : l <+: A) : (l.flatMap f).length ≤ (A.flatMap f).length := by
  obtain ⟨u, rfl⟩ := h
  rw [List.flatMap_append, List.length_append]; omega
theorem flat_last {α β : Type} {f : α → List β} (l : List α) (x : α) : (l ++ [x]).flatMap f = l.flatMap f ++ f x := by
  rw [List.flatMap_append, List.flatMap_cons, List.flatMap_nil, List.append_nil]

/-- What Save's loop keeps: the boxes of its grid, of its arena, of its file, of its last number; the file's row. -/
structure SvS (w : World) (q q6 : Nat) (G A : Array Value) (N : Int) (s : List UInt8) (a : Option Addr) (c K : Nat) (E : Bls) (W : World) : Prop where
  el : ∀ k, E k → w.heap.size ≤ k ∧ k ≠ q ∧ k ≠ q + 1 ∧ k ≠ q + 2 ∧ k ≠ q6 ∧ (Value.slice a K c).ownBlock ≠ some k
  mv : Below w.heap.size w W
  h0 : W.heap[q]? = some (.cells G 27 (0, 0))
  h1 : W.heap[q + 1]? = some (.cells A 28 (0, 0))
  h2 : W.heap[q + 2]? = some (.cells #[.slice a K c] 32 (0, 0))
  h6 : W.heap[q6]? = some (.cells #[.int .i64 N] 3 (0, 0))
  own : W.ownsRow w.heap.size 5 1 (.slice a K c) K (bc s)
  len : s.length = K
theorem SvS.go {w W W' : World} {q q6 c K : Nat} {G A : Array Value} {N : Int} {s : List UInt8} {a : Option Addr} {E E' : Bls} (h : SvS w q q6 G A N s a c K E W) (hq : w.heap.size ≤ q) (hm : Moves E W W') (hd : ∀ k, E' k → E k ∨ W.heap.size ≤ k) : SvS w q q6 G A N s a c K E' W' := by
  have l0 := lt_of_at h.h0
  have l1 := lt_of_at h.h1
  have l2 := lt_of_at h.h2
  have l6 := lt_of_at h.h6
  have hs := h.mv.size
  refine ⟨fun k hk => (hd k hk).elim (h.el k) (fun g => ⟨by omega, by omega, by omega, by omega, by omega, fun e => by have := (own_blt h.own e).2; omega⟩), ⟨hm.os.trans h.mv.os, hm.tape.trans h.mv.tape, hm.output.trans h.mv.output, Nat.le_trans hs hm.size, fun k hk => (hm.block k (by omega) (fun g => by have := (h.el k g).1; omega)).trans (h.mv.block k hk)⟩, (hm.block q l0 (fun g => (h.el q g).2.1 rfl)).trans h.h0, (hm.block _ l1 (fun g => (h.el _ g).2.2.1 rfl)).trans h.h1, (hm.block _ l2 (fun g => (h.el _ g).2.2.2.1 rfl)).trans h.h2, (hm.block _ l6 (fun g => (h.el _ g).2.2.2.2.1 rfl)).trans h.h6, own_moves h.own (fun g hg => hm.block g (own_blt h.own hg).2 (fun e => (h.el g e).2.2.2.2.2 hg)), h.len⟩
theorem SvS.below {w W W' : World} {q q6 c K : Nat} {G A : Array Value} {N : Int} {s : List UInt8} {a : Option Addr} {E : Bls} (h : SvS w q q6 G A N s a c K E W) (hq : w.heap.size ≤ q) (hb : Below W.heap.size W W') : SvS w q q6 G A N s a c K E W' := h.go hq (Moves.below hb) (fun _ h => .inl h)

/-- What an append has told is stored. -/
theorem SvS.put {w W W1 : World} {q q6 c K c' K' : Nat} {G A : Array Value} {N : Int} {s s' : List UInt8} {a a' : Option Addr} {E : Bls} (h : SvS w q q6 G A N s a c K E W) (hq : w.heap.size ≤ q) (h6 : q6 ≠ q + 2) (hE : Have E W)
    (h1 : W1.ownsRow w.heap.size 5 1 (.slice a' K' c') K' (bc s')) (hn : s'.length = K') (h2 : W.grownBy W1 (Value.slice a K c).ownBlock) (h3 : (Value.slice a' K' c').ownBlock = (Value.slice a K c).ownBlock ∨ (Value.slice a' K' c').ownBlock = some W.heap.size) :
    W1.cell? ⟨q + 2, 0, none⟩ = some (.slice a K c) ∧ W1.frozen? ⟨q + 2, 0, none⟩ = false ∧ SvS w q q6 G A N s' a' c' K' E (W1.setCell ⟨q + 2, 0, none⟩ (.slice a' K' c')) ∧ Same E W (W1.setCell ⟨q + 2, 0, none⟩ (.slice a' K' c')) ∧ W.heap.size ≤ (W1.setCell ⟨q + 2, 0, none⟩ (.slice a' K' c')).heap.size := by
  have kp (k : Nat) (hk : k < W.heap.size) (hne : (Value.slice a K c).ownBlock ≠ some k) : W1.heap[k]? = W.heap[k]? := h2.block k hk (fun e => hne e.symm)
  have n0 := own_ne h.own h.h0 (by decide)
  have n1 := own_ne h.own h.h1 (by decide)
  have n2 := own_ne h.own h.h2 (by decide)
  have n6 := own_ne h.own h.h6 (by decide)
  have k0 := (kp q (lt_of_at h.h0) n0).trans h.h0
  have k1 := (kp (q + 1) (lt_of_at h.h1) n1).trans h.h1
  have k2 := (kp (q + 2) (lt_of_at h.h2) n2).trans h.h2
  have k6 := (kp q6 (lt_of_at h.h6) n6).trans h.h6
  have hs0 := h.mv.size
  have hne (k : Nat) (hk : E k) : (Value.slice a' K' c').ownBlock ≠ some k := fun e => by
    rcases h3 with h3 | h3
    · exact (h.el k hk).2.2.2.2.2 (by rw [← h3]; exact e)
    · rw [h3] at e; injection e with e; have := hE k hk; omega
  refine ⟨(cell_at k2 0).trans rfl, unfrozen k2 0, ⟨fun k hk => ⟨(h.el k hk).1, (h.el k hk).2.1, (h.el k hk).2.2.1, (h.el k hk).2.2.2.1, (h.el k hk).2.2.2.2.1, hne k hk⟩, ⟨h2.os.trans h.mv.os, h2.tape.trans h.mv.tape, h2.output.trans h.mv.output, by rw [World.size_setCell]; exact Nat.le_trans hs0 h2.size, fun k hk => ?_⟩, (heap_set_other (by omega)).trans k0, (heap_set_other (by omega)).trans k1, (heap_set_at (o := 0) k2).trans rfl, (heap_set_other h6).trans k6, own_set h1 (own_ne h1 k2 (by decide)), hn⟩, fun k hk => (heap_set_other (h.el k hk).2.2.2.1).trans (kp k (hE k hk) (h.el k hk).2.2.2.2.2), by rw [World.size_setCell]; exact h2.size⟩
  exact (heap_set_other (by omega)).trans ((kp k (Nat.lt_of_lt_of_le hk hs0) (fun e => by have := (own_blt h.own e).1; omega)).trans (h.mv.block k hk))

/-- Bytes of a slice behind it. -/
theorem sv_app {w W : World} {q q6 c K K2 c2 B2 : Nat} {G A : Array Value} {N : Int} {s t : List UInt8} {a a2 : Option Addr} {E : Bls} (h : SvS w q q6 G A N s a c K E W) (hq : w.heap.size ≤ q) (h6 : q6 ≠ q + 2) (hE : Have E W) (hs : W.ownsRow B2 5 1 (.slice a2 K2 c2) K2 (bc t)) (hn : t.length = K2) (hK : K + K2 ≤ 100000000) :
    ∃ a' c' W1, (Builtin.append_ #[32, 32] 32 #[.slice a K c, .slice a2 K2 c2]).run Tryz.prog W = .ok (.slice a' (K + K2) c') W1 ∧ W1.cell? ⟨q + 2, 0, none⟩ = some (.slice a K c) ∧ W1.frozen? ⟨q + 2, 0, none⟩ = false ∧
      SvS w q q6 G A N (s ++ t) a' c' (K + K2) E (W1.setCell ⟨q + 2, 0, none⟩ (.slice a' (K + K2) c')) ∧ Same E W (W1.setCell ⟨q + 2, 0, none⟩ (.slice a' (K + K2) c')) ∧ W.heap.size ≤ (W1.setCell ⟨q + 2, 0, none⟩ (.slice a' (K + K2) c')).heap.size := by
  obtain ⟨a', c', W1, hr, h1, h2, h3⟩ := bapp h.own hs h.mv.size hK
  exact ⟨a', c', W1, hr, h.put hq h6 hE h1 (by rw [List.length_append, h.len, hn]) h2 h3⟩
/-- A text behind it. -/
theorem sv_sapp {w W : World} {q q6 c K K2 : Nat} {G A : Array Value} {N : Int} {s t : List UInt8} {a : Option Addr} {E : Bls} (h : SvS w q q6 G A N s a c K E W) (hq : w.heap.size ≤ q) (h6 : q6 ≠ q + 2) (hE : Have E W) (hn : t.length = K2) (hK : K + K2 ≤ 100000000) :
    ∃ a' c' W1, (Builtin.append_ #[32, 9] 32 #[.slice a K c, .string (strOf t)]).run Tryz.prog W = .ok (.slice a' (K + K2) c') W1 ∧ W1.cell? ⟨q + 2, 0, none⟩ = some (.slice a K c) ∧ W1.frozen? ⟨q + 2, 0, none⟩ = false ∧
      SvS w q q6 G A N (s ++ t) a' c' (K + K2) E (W1.setCell ⟨q + 2, 0, none⟩ (.slice a' (K + K2) c')) ∧ Same E W (W1.setCell ⟨q + 2, 0, none⟩ (.slice a' (K + K2) c')) ∧ W.heap.size ≤ (W1.setCell ⟨q + 2, 0, none⟩ (.slice a' (K + K2) c')).heap.size := by
  obtain ⟨a', c', W1, hr, h1, h2, h3⟩ := sapp h.own h.mv.size hn hK
  exact ⟨a', c', W1, hr, h.put hq h6 hE h1 (by rw [List.length_append, h.len, hn]) h2 h3⟩

end Go.Proofs.YtkgakgceamafcaaGreat
