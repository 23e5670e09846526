/-
  Texts of this seat, put together (a claim holds few texts): ArC, TrA, FdA.
-/
import Derived.Test.YtkgakgceamafcaaMk4
import Derived.Lib.AppendZeros
import Derived.Deep.RegionHeldLaw
import Derived.Deep.DeepCutAuto
import Derived.Deep.CutRange
import Derived.Deep.CutBlock
import Derived.Deep.RegionLaw
import Derived.Deep.RegionHeld3

namespace Go.Proofs.Ytkgakgceamafcaa
open Go Go.RowKit
set_option linter.unusedVariables false

theorem own_ne {w : World} {B : Nat} {e t : TypeId} {size n : Nat} {v : Value} {xs : List Value} {b : Nat} {cs : Array Value} {fr : Nat × Nat} (h : w.ownsRow B e size v n xs) (hb : w.heap[b]? = some (.cells cs t fr)) (hne : e ≠ t) : v.ownBlock ≠ some b := by
  rcases h.2 with ⟨rfl, _⟩ | ⟨g, cap, cur, rfl, _, hh, _⟩
  · simp [Value.ownBlock]
  · intro he
    have : g = b := by simpa [Value.ownBlock] using he
    subst this
    rw [hh] at hb
    injection hb with hb
    injection hb with _ ht
    exact hne ht

theorem heap_set_other {w : World} {p b o : Nat} {u : Value} (h : b ≠ p) : (w.setCell ⟨p, o, none⟩ u).heap[b]? = w.heap[b]? := Below.heap_setCell w ⟨p, o, none⟩ u b h
theorem heap_set_at {w : World} {p o : Nat} {u : Value} {cs : Array Value} {t : TypeId} {fr : Nat × Nat} (h : w.heap[p]? = some (.cells cs t fr)) : (w.setCell ⟨p, o, none⟩ u).heap[p]? = some (.cells (cs.setIfInBounds o u) t fr) := by
  simp [World.setCell, Array.getElem?_modify, h]
theorem heap_mid (w : World) (o o' : Obj) : ((w.alloc o).alloc o').heap[w.heap.size]? = some o :=
  ((Below.refl (w.heap.size + 1) (w.alloc o)).alloc (by simp) o').block w.heap.size (by omega) |>.trans (heap_alloc_new w o)
theorem size_set {w : World} {p o : Nat} {u : Value} : (w.setCell ⟨p, o, none⟩ u).heap.size = w.heap.size := by simp [World.setCell]

theorem own_set {w : World} {B : Nat} {e : TypeId} {size n : Nat} {v : Value} {xs : List Value} {b o : Nat} {u : Value} (h : w.ownsRow B e size v n xs) (hne : v.ownBlock ≠ some b) : (w.setCell ⟨b, o, none⟩ u).ownsRow B e size v n xs :=
  h.kept (row := some b) ⟨rfl, rfl, rfl, by rw [size_set]; exact Nat.le_refl _, fun k hk hn => heap_set_other (fun e => hn (by rw [e]))⟩ (.inr hne)
theorem own_below {w w' : World} {base size n : Nat} {e : TypeId} {v : Value} {xs : List Value} (h : w.ownsRow base e size v n xs) (hb : Below w.heap.size w w') : w'.ownsRow base e size v n xs :=
  h.kept (row := none) ⟨hb.os, hb.tape, hb.output, hb.size, fun k hk _ => hb.block k hk⟩ (by cases v.ownBlock <;> simp)
theorem own_turned {B : Nat} {w w' : World} {base size n : Nat} {e : TypeId} {v : Value} {xs : List Value} (h : w.ownsRow base e size v n xs) (ht : Turned B w w') (h1 : e ≠ 87) (h2 : e ≠ 5) : w'.ownsRow base e size v n xs := by
  refine ⟨h.1, ?_⟩
  rcases h.2 with h0 | ⟨g, cap, cur, e1, e2, e3, e4⟩
  · exact .inl h0
  · refine .inr ⟨g, cap, cur, e1, e2, (ht.rest g (lt_of_heap e3) (fun cs hc => ?_) (fun cs hc => ?_)).trans e3, e4⟩
    · rw [e3] at hc; injection hc with hc; injection hc with _ hc; exact h1 hc
    · rw [e3] at hc; injection hc with hc; injection hc with _ hc; exact h2 hc

theorem Ar.set {w : World} {B p : Nat} {l : List UInt8} {b o : Nat} {u : Value} {cs : Array Value} {t : TypeId} (h : Ar w B p l) (hb : w.heap[b]? = some (.cells cs t (0, 0))) (h1 : t ≠ 87) (h2 : t ≠ 5) : Ar (w.setCell ⟨b, o, none⟩ u) B p l := by
  obtain ⟨a, c, e1, e2, e3, e4⟩ := h
  refine ⟨a, c, e1, ?_, own_set e3 (own_ne e3 hb (fun e => h2 e.symm)), e4⟩
  rw [heap_set_other]
  · exact e2
  · rintro rfl
    rw [e2] at hb
    injection hb with hb
    injection hb with _ hb
    exact h1 hb.symm

section
variable {B : Nat} {w0 w w' : World}
theorem Turned.refl (w : World) : Turned B w w := ⟨Below.refl _ _, Nat.le_refl _, fun _ _ _ _ => rfl⟩
theorem Turned.then_below (h : Turned B w0 w) (hb : Below w.heap.size w w') (hB : B ≤ w.heap.size) : Turned B w0 w' := h.trans (Turned.of_below hb hB)
theorem Turned.grown {v : Value} {n : Nat} {xs : List Value} (h : Turned B w0 w) (hB : B ≤ w.heap.size) (ho : w.ownsRow B 5 1 v n xs) (hg : w.grownBy w' v.ownBlock) : Turned B w0 w' :=
  ⟨h.low.grown hg hB (fun k hk => (ho.lt k hk).1), Nat.le_trans h.size hg.size, fun b hb h1 h2 => by
    have e := h.rest b hb h1 h2
    rw [← e]
    refine hg.block b (Nat.lt_of_lt_of_le hb h.size) (fun eb => ?_)
    rcases ho.2 with ⟨rfl, _⟩ | ⟨g, cap, cur, rfl, _, hh, _⟩
    · simp [Value.ownBlock] at eb
    · have : b = g := by simpa [Value.ownBlock] using eb
      subst this
      exact h2 cur (by rw [← e]; exact hh)⟩
theorem Turned.set_new {b o : Nat} {u : Value} (h : Turned B w0 w) (hB : B ≤ w0.heap.size) (hb : w0.heap.size ≤ b) : Turned B w0 (w.setCell ⟨b, o, none⟩ u) :=
  ⟨h.low.setCell (p := ⟨b, o, none⟩) (Nat.le_trans hB hb) u, by rw [size_set]; exact h.size, fun i hi h1 h2 => by rw [heap_set_other (by omega)]; exact h.rest i hi h1 h2⟩
theorem Turned.set_arena {p o : Nat} {u : Value} {cs : Array Value} (h : Turned B w0 w) (hB : B ≤ p) (hp : w.heap[p]? = some (.cells cs 87 (0, 0))) : Turned B w0 (w.setCell ⟨p, o, none⟩ u) :=
  ⟨h.low.setCell (p := ⟨p, o, none⟩) hB u, by rw [size_set]; exact h.size, fun i hi h1 h2 => by
    have e := h.rest i hi h1 h2
    rw [heap_set_other]
    · exact e
    · rintro rfl
      exact h1 cs (by rw [← e]; exact hp)⟩
end

end Go.Proofs.Ytkgakgceamafcaa

namespace Go.Proofs.Ytkgakgceamafcaa
open Go Go.RowKit
set_option linter.unusedVariables false

theorem t_al (w : World) (o : Obj) : Below w.heap.size w (w.alloc o) := (Below.refl _ w).alloc (Nat.le_refl _) o
theorem t_nil (w : World) (B : Nat) (e : TypeId) (sz : Nat) : w.ownsRow B e sz (.slice none 0 0) 0 [] := ⟨by simp, .inl ⟨rfl, rfl⟩⟩
theorem t_empty {w : World} {B g : Nat} {e : TypeId} (s : Nat) (hB : B ≤ g) (h : w.heap[g]? = some (.cells #[] e (0, 0))) : w.ownsRow B e s (.slice (some ⟨g, 0, none⟩) 0 0) 0 [] :=
  ⟨by simp, .inr ⟨g, 0, #[], rfl, hB, h, Nat.le_refl _, Nat.zero_le _, by simp, by simp⟩⟩
theorem t_form {w : World} {B sz n c : Nat} {e : TypeId} {a : Option Addr} {xs : List Value} (h : w.ownsRow B e sz (.slice a n c) n xs) : (a = none ∧ n = 0 ∧ c = 0) ∨ ∃ g, a = some ⟨g, 0, none⟩ ∧ B ≤ g ∧ g < w.heap.size ∧ n ≤ c ∧ c ≤ maxLen := by
  rcases h.2 with ⟨h1, h2⟩ | ⟨g, cap, cur, h1, hb, hg, h3, h4, _⟩
  · simp only [Value.slice.injEq] at h1
    exact .inl ⟨h1.1, by omega, h1.2.2⟩
  · simp only [Value.slice.injEq] at h1
    exact .inr ⟨g, h1.1, hb, lt_of_heap hg, by omega, by omega⟩
theorem t_rd {w : World} {B n c s : Nat} {e : TypeId} {a : Option Addr} {xs : List Value} (h : w.ownsRow B e s (.slice a n c) n xs) : Rd w s a n xs := by
  refine ⟨h.1, fun hn => ?_⟩
  rcases t_form h with ⟨_, h0, _⟩ | ⟨g, rfl, _, hlt, _⟩
  · omega
  · refine ⟨g, 0, rfl, hlt, fun j u hu => ?_⟩
    have := h.cells (g := g) rfl j u hu
    rwa [Addr.add_lit] at this

/-- A slice of things of one cell that can be read. -/
structure Sl (w : World) (a : Option Addr) (c : Nat) (xs : List Value) : Prop where
  rd : Rd w 1 a xs.length xs
  cap : xs.length ≤ c
  capm : c ≤ maxLen
  nil : a = none → c = 0
  form : ∀ d, a = some d → ∃ g o, d = ⟨g, o, none⟩
  one : ∀ u ∈ xs, u.oneCell' = true
theorem Sl.below {w w' : World} {a : Option Addr} {c : Nat} {xs : List Value} (h : Sl w a c xs) (hb : Below w.heap.size w w') : Sl w' a c xs := ⟨h.rd.below hb, h.cap, h.capm, h.nil, h.form, h.one⟩
theorem Sl.drew {w : World} {a : Option Addr} {c : Nat} {xs : List Value} (h : Sl w a c xs) : Sl w.drew a c xs := h.below (Below.refl _ _).drew
theorem Sl.none (w : World) : Sl w none 0 [] := ⟨⟨rfl, fun hn => absurd hn (by simp)⟩, Nat.le_refl _, Nat.zero_le _, fun _ => rfl, fun d hd => (by cases hd), fun u hu => by simp at hu⟩
theorem Sl.own {w : World} {B c : Nat} {e : TypeId} {a : Option Addr} {xs : List Value} (h : w.ownsRow B e 1 (.slice a xs.length c) xs.length xs) (h1 : ∀ u ∈ xs, u.oneCell' = true) : Sl w a c xs := by
  rcases t_form h with ⟨rfl, h0, rfl⟩ | ⟨g, rfl, _, hlt, h2, h3⟩
  · exact ⟨t_rd h, by omega, Nat.zero_le _, fun _ => rfl, fun d hd => (by cases hd), h1⟩
  · exact ⟨t_rd h, h2, h3, fun hn => (by cases hn), fun d hd => ⟨g, 0, by cases hd; rfl⟩, h1⟩
theorem Sl.empty {w : World} {c : Nat} {xs : List Value} (h : Sl w Option.none c xs) : xs = [] ∧ c = 0 := by
  refine ⟨?_, h.nil rfl⟩
  cases xs with
  | nil => rfl
  | cons x l => obtain ⟨g, o, h1, _⟩ := h.rd.2 (by simp); cases h1
/-- Its head. -/
theorem Sl.take {w : World} {a : Option Addr} {c : Nat} {xs : List Value} (h : Sl w a c xs) (i : Nat) : Sl w a c (xs.take i) := by
  refine ⟨⟨by simp, fun hn => ?_⟩, by have := h.cap; simp; omega, h.capm, h.nil, h.form, fun u hu => h.one u (List.mem_of_mem_take hu)⟩
  rw [List.length_take] at hn
  obtain ⟨g, o, e, hg, hc⟩ := h.rd.2 (by omega)
  refine ⟨g, o, e, hg, fun j u hj => hc j u ?_⟩
  rw [List.getElem?_take] at hj
  split at hj
  · exact hj
  · cases hj
/-- Its tail, where it has room. -/
theorem Sl.drop {w : World} {g o c : Nat} {xs : List Value} (h : Sl w (some ⟨g, o, Option.none⟩) c xs) {i : Nat} (hi : i ≤ xs.length) (b : Addr) (hb : i < xs.length → b = ⟨g, o + i, Option.none⟩) (hbf : ∃ g o, b = ⟨g, o, Option.none⟩) : Sl w (some b) (c - i) (xs.drop i) := by
  refine ⟨⟨by simp, fun hn => ?_⟩, by have := h.cap; simp; omega, by have := h.capm; omega, fun hn => (by cases hn), fun d hd => (by cases hd; exact hbf), fun u hu => h.one u (List.mem_of_mem_drop hu)⟩
  rw [List.length_drop] at hn
  obtain ⟨g', o', e, hg, hc⟩ := h.rd.2 (by omega)
  cases e
  refine ⟨g, o + i, by rw [hb (by omega)], hg, fun j u hj => ?_⟩
  rw [List.getElem?_drop] at hj
  rw [Nat.add_assoc]
  exact hc _ u hj
/-- A new block of things. -/
theorem Sl.new {w : World} {b : Nat} {T : TypeId} {fr : Nat × Nat} {xs : List Value} (h : w.heap[b]? = some (.cells xs.toArray T fr)) (hm : xs.length ≤ maxLen) (h1 : ∀ u ∈ xs, u.oneCell' = true) : Sl w (some ⟨b, 0, Option.none⟩) xs.length xs := by
  refine ⟨⟨by simp, fun hn => ⟨b, 0, rfl, lt_of_heap h, fun j u hj => ?_⟩⟩, Nat.le_refl _, hm, fun hn => (by cases hn), fun d hd => ⟨b, 0, by cases hd; rfl⟩, h1⟩
  rw [Nat.zero_add, cell_at h]; simpa using hj

/-- A slice that is a part: where, room, things. -/
abbrev PtM := Option Addr × Nat × List Value
def ptV (p : PtM) : Value := .slice p.1 p.2.2.length p.2.1
def catP (ps : List PtM) : List Value := ps.flatMap fun p => p.2.2
theorem catP_take {ps : List PtM} {k : Nat} (h : k < ps.length) : catP (ps.take (k + 1)) = catP (ps.take k) ++ ps[k].2.2 := by
  unfold catP
  rw [List.take_succ_eq_append_getElem h, List.flatMap_append]; simp
theorem catP_len {ps : List PtM} (k : Nat) : (catP (ps.take k)).length ≤ (catP ps).length := by
  have : catP ps = catP (ps.take k) ++ catP (ps.drop k) := by unfold catP; rw [← List.flatMap_append, List.take_append_drop]
  rw [this, List.length_append]; omega

end Go.Proofs.Ytkgakgceamafcaa

namespace Go.Proofs.Ytkgakgceamafcaa
open Go Go.RowKit
set_option linter.unusedVariables false

/-- Numbers as cells. -/
def ib (bs : List Nat) : List Value := bs.map fun (b : Nat) => Value.int .i64 (b : Int)
theorem ib_len (bs : List Nat) : (ib bs).length = bs.length := by simp [ib]
theorem ib_app (a b : List Nat) : ib (a ++ b) = ib a ++ ib b := by simp [ib]
theorem rd_ib {w : World} {a : Option Addr} {bs : List Nat} (h : Rd w 1 a bs.length (ib bs)) {i b : Nat} (hb : bs[i]? = some b) : ∃ g off, a = some ⟨g, off, none⟩ ∧ g < w.heap.size ∧ w.cell? ⟨g, off + i, none⟩ = some (.int .i64 (b : Int)) := by
  have hi := (List.getElem?_eq_some_iff.1 hb).1
  obtain ⟨g, off, rfl, hg, hc⟩ := h.2 (by omega)
  refine ⟨g, off, rfl, hg, hc i _ ?_⟩
  unfold ib
  rw [List.getElem?_map, hb]; rfl
theorem lb_some {l : List UInt8} {i : Nat} {c : UInt8} (h : l[i]? = some c) : lb l i = (c.toNat : Int) := by
  unfold lb
  rw [List.getD_eq_getElem?_getD, h]; rfl
theorem lb_eq {l : List UInt8} {i : Nat} {c : UInt8} (hi : i < l.length) : lb l i = (c.toNat : Int) ↔ l[i]? = some c := by
  constructor
  · intro h
    rw [List.getElem?_eq_getElem hi]
    have h2 : lb l i = (l[i].toNat : Int) := lb_some (List.getElem?_eq_getElem hi)
    rw [h2] at h
    congr 1
    apply UInt8.toNat_inj.1
    omega
  · exact lb_some

set_option maxRecDepth 100000 in
set_option maxHeartbeats 4000000 in
theorem further_of {w : World} {ta ba : Option Addr} {tc bc' m J n : Nat} {p s : List UInt8} {bs : List Nat} {c : UInt8} {x : Int} (hp : Rd w 1 ta p.length (bc p)) (hb : Rd w 1 ba bs.length (ib bs)) (hm : p.length = m) (hJ : bs.length = J) (hx : (c.toNat : Int) = x) (h0 : 0 < m) (hml : m ≤ 1000000) (hJm : J ≤ m) (hT : Tab p bs) (hn : n ≤ J) (hL : Lg p s n) :
    Calls Try.prog 26 #[.agg #[.slice ta m tc, .slice ba J bc'], .int .i64 n, .int .u8 x] w fun e w' => ∃ n' : Nat, e = .returned (.int .i64 (n' : Int)) ∧ Lg p (s ++ [c]) n' ∧ Below w.heap.size w w' := by
  have hh := heap_alloc_new w (Obj.cells #[.slice ta m tc, .slice ba J bc'] 43)
  have al := t_al w (Obj.cells #[.slice ta m tc, .slice ba J bc'] 43)
  have hz : (w.alloc (Obj.cells #[.slice ta m tc, .slice ba J bc'] 43)).heap.size = w.heap.size + 1 := by simp
  obtain ⟨w1, hw1⟩ : ∃ w1, w.alloc (Obj.cells #[.slice ta m tc, .slice ba J bc'] 43) = w1 := ⟨_, rfl⟩
  rw [hw1] at hh al hz
  have c0 : w1.cell? ⟨w.heap.size, 0, none⟩ = some (.slice ta m tc) := (cell_at hh 0).trans rfl
  have c1 : w1.cell? ⟨w.heap.size, 1, none⟩ = some (.slice ba J bc') := (cell_at hh 1).trans rfl
  have HP := Lib.hid (hp.below al)
  have HB := Lib.hid (hb.below al)
  have HM := Lib.hid hm
  have HJ := Lib.hid hJ
  have HX := Lib.hid hx
  have HT := Lib.hid hT
  have AL := Lib.hid al
  have HF := Lib.hid (fr_start (c := c) hL)
  have hs1 : w.heap.size < w1.heap.size := by omega
  clear hh hp hb hm hJ hx hT al hz hL
  go_enter Try.func26, Try.ntmps26
  go_wp2_with fail
  go_loopw [1] (fun v wr => ∃ k : Nat, v = .int .i64 k ∧ k ≤ J ∧ Fr p s c k ∧ Below w1.heap.size w1 wr) (fun v _ => (intOf v).toNat)
  case atStart => exact ⟨n, rfl, hn, HF.out, Below.refl _ _⟩
  case round =>
    obtain ⟨k, rfl, hk, hf, hb⟩ := hrel
    have HFk := Lib.hid hf
    have HBr := Lib.hid hb
    have r0 := (hb.cell (p := ⟨w.heap.size, 0, none⟩) hs1).trans c0
    have r1 := (hb.cell (p := ⟨w.heap.size, 1, none⟩) hs1).trans c1
    have hkm : k ≤ m := by omega
    by_cases hpos : 0 < k
    · have d0 : decide ((0 : Int) < (k : Int)) = true := decide_eq_true (by omega)
      have d0' : decide (0 < k) = true := decide_eq_true hpos
      -- where one goes back
      have hkb : k - 1 < bs.length := by rw [HJ.out]; omega
      obtain ⟨b, hbk⟩ : ∃ b, bs[k - 1]? = some b := ⟨_, List.getElem?_eq_getElem hkb⟩
      have hLb := HT.out (k - 1) b hbk
      rw [show k - 1 + 1 = k by omega] at hLb
      have hbl : b ≤ k - 1 := by
        have h1 := hLb.1.len
        have h2 := HM.out
        unfold tl at h1
        rw [List.length_drop, List.length_take] at h1
        omega
      obtain ⟨g, off, rfl, hg, hcb⟩ := rd_ib HB.out hbk
      have hcb' := (hb.cell (p := ⟨g, off + (k - 1), none⟩) hg).trans hcb
      obtain ⟨q, hq⟩ : ∃ q, k - 1 = q := ⟨_, rfl⟩
      have hqi : (k : Int) - 1 = (q : Int) := by omega
      have hwq : IntKind.i64.wrap ((k : Int) - 1) = (q : Int) := by rw [IntKind.wrap_i64]; omega
      rw [hq] at hcb'
      have i0 : (0 : Int) ≤ (q : Int) := by omega
      have i1 : (q : Int) < (J : Int) := by omega
      have HLB := Lib.hid hLb
      have HBL := Lib.hid hbl
      by_cases hkm' : k = m
      · have de : (k == m) = true := by simpa using hkm'
        have de' : ((k : Int) == (m : Int)) = true := by simp; omega
        have hne : p[k]? ≠ some c := by
          rw [List.getElem?_eq_none (by rw [HM.out]; omega)]; simp
        have HR := Lib.hid (fr_step HFk.out hne HLB.out)
        have HKM := Lib.hid hkm'
        clear hf hb hbk hcb hLb hbl hne hkm' hq hwq
        go_wp2_with fail
        go_roundw
        case rel => exact ⟨b, rfl, by have := HBL.out; omega, HR.out, HBr.out⟩
        case measure => have := HBL.out; simp [intOf]; omega
      · have de : (k == m) = false := by simpa using hkm'
        have de' : ((k : Int) == (m : Int)) = false := by simp; omega
        have hkp : k < p.length := by rw [HM.out]; omega
        obtain ⟨tg, toff, rfl, htg, htc⟩ := rd_at HP.out hkp
        have htc' := (hb.cell (p := ⟨tg, toff + k, none⟩) htg).trans htc
        have j0 : (0 : Int) ≤ (k : Int) := by omega
        have j1 : (k : Int) < (m : Int) := by omega
        by_cases hc : p[k]? = some c
        · have hv : lb p k = x := by rw [← HX.out]; exact lb_some hc
          have HY := Lib.hid (fr_yes HFk.out hc)
          rw [hv] at htc'
          have dx : (x != x) = false := by simp
          have dx' : (x == x) = true := by simp
          clear hf hb hbk hcb hLb hbl hkm' hq hwq htc hc hv hkp htg hg HLB
          go_wp2_with fail
          go_ret
          exact ⟨k + 1, by first | rfl | simp, HY.out, AL.out.trans (HBr.out.mono AL.out.size)⟩
        · have hne : ¬ lb p k = x := fun h => hc ((lb_eq hkp).1 (by rw [HX.out]; exact h))
          have HR := Lib.hid (fr_step HFk.out hc HLB.out)
          obtain ⟨y, hy⟩ : ∃ y, lb p k = y := ⟨_, rfl⟩
          rw [hy] at htc' hne
          have dx : (y != x) = true := by simpa using hne
          have dx' : (y == x) = false := by simpa using hne
          clear hf hb hbk hcb hLb hbl hkm' hq hwq htc hc hkp htg hg HLB hy hne
          go_wp2_with fail
          go_roundw
          case rel => exact ⟨b, rfl, by have := HBL.out; omega, HR.out, HBr.out⟩
          case measure => have := HBL.out; simp [intOf]; omega
    · have hk0 : k = 0 := by omega
      have d0 : decide ((0 : Int) < (k : Int)) = false := decide_eq_false (by omega)
      have d0' : decide (0 < k) = false := decide_eq_false hpos
      have hkp : k < p.length := by rw [HM.out]; omega
      obtain ⟨tg, toff, rfl, htg, htc⟩ := rd_at HP.out hkp
      have htc' := (hb.cell (p := ⟨tg, toff + k, none⟩) htg).trans htc
      have j0 : (0 : Int) ≤ (k : Int) := by omega
      have j1 : (k : Int) < (m : Int) := by omega
      by_cases hc : p[k]? = some c
      · have hv : lb p k = x := by rw [← HX.out]; exact lb_some hc
        have HY := Lib.hid (fr_yes HFk.out hc)
        rw [hv] at htc'
        have dx' : (x == x) = true := by simp
        clear hf hb htc hc hv hkp htg hk0
        go_wp2_with fail
        go_ret
        exact ⟨k + 1, by first | rfl | simp, HY.out, AL.out.trans (HBr.out.mono AL.out.size)⟩
      · have hne : ¬ lb p k = x := fun h => hc ((lb_eq hkp).1 (by rw [HX.out]; exact h))
        have HY := Lib.hid (show Lg p (s ++ [c]) k by rw [hk0] at hc ⊢; have h2 := HFk.out; rw [hk0] at h2; exact fr_no h2 hc)
        obtain ⟨y, hy⟩ : ∃ y, lb p k = y := ⟨_, rfl⟩
        rw [hy] at htc' hne
        have dx' : (y == x) = false := by simpa using hne
        clear hf hb htc hc hkp htg hk0 hy hne
        go_wp2_with fail
        go_ret
        exact ⟨k, rfl, HY.out, AL.out.trans (HBr.out.mono AL.out.size)⟩

end Go.Proofs.Ytkgakgceamafcaa
