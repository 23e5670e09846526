/-
  Texts of this seat, put together (a claim holds few texts): CeE, CeG, CeH, ScZ, CeI, RwA, RwB, RwC.
-/
import Derived.Test.YtkgakgceamafcaaMk29
import Derived.Deep.RegionHeldLaw
import Derived.Deep.RegionHeld3
import Derived.Deep.QuietTactic
import Derived.BigQuiet
import Derived.Laws.StructEq
import Derived.Laws.CopyOwn
import Derived.Deep.RegionLaw
import Derived.Laws.AppendOwnNone

namespace Go.Proofs.Ytkgakgceamafcaa
open Go Go.RowKit
set_option linter.unusedVariables false

/-- A block of three cells that are written. -/
def set3 (w : World) (b : Nat) (u0 u1 u2 : Value) : World := ((w.setCell ⟨b, 0, none⟩ u0).setCell ⟨b, 1, none⟩ u1).setCell ⟨b, 2, none⟩ u2
theorem set3_at {w : World} {b T : Nat} {a0 a1 a2 : Value} (h : w.heap[b]? = some (.cells #[a0, a1, a2] T (0, 0))) (u0 u1 u2 : Value) : (set3 w b u0 u1 u2).heap[b]? = some (.cells #[u0, u1, u2] T (0, 0)) := by
  unfold set3
  rw [heap_set_at (heap_set_at (heap_set_at h))]; rfl
theorem set3_below {B b : Nat} {a w : World} (h : Below B a w) (hb : B ≤ b) (u0 u1 u2 : Value) : Below B a (((w.setCell ⟨b, 0, none⟩ u0).setCell ⟨b, 1, none⟩ u1).setCell ⟨b, 2, none⟩ u2) :=
  ((h.setCell (p := ⟨b, 0, none⟩) hb _).setCell (p := ⟨b, 1, none⟩) hb _).setCell (p := ⟨b, 2, none⟩) hb _

end Go.Proofs.Ytkgakgceamafcaa

namespace Go.Proofs.Ytkgakgceamafcaa
open Go Go.RowKit
set_option linter.unusedVariables false

theorem strOf_beq (l m : List UInt8) : ((strOf l).toList == (strOf m).toList) = decide (l = m) := by
  have e : ∀ l, (strOf l).toList = l := fun l => by rw [ByteArray.toList_eq]; rfl
  rw [e, e]
  by_cases h : l = m
  · subst h; simp
  · rw [decide_eq_false h]; simpa using h

end Go.Proofs.Ytkgakgceamafcaa

namespace Go.Proofs.Ytkgakgceamafcaa
open Go Go.RowKit
set_option linter.unusedVariables false


end Go.Proofs.Ytkgakgceamafcaa

namespace Go.Proofs.Ytkgakgceamafcaa
open Go
set_option linter.unusedVariables false

theorem fieldsP_mem (l : List UInt8) : ∀ n i, l.length - i = n → i ≤ l.length → ∀ f ∈ (fieldsP l i).1, ∃ p, p ≤ l.length ∧ f = fieldP l p
  | n, i, hn, hi, f, hf => by
    obtain ⟨a, b, c, _⟩ := fieldP_spec hi
    by_cases h : (fieldP l i).to_ < l.length ∧ lb l (fieldP l i).to_ = 44
    · rw [fieldsP_more hi h.1 h.2] at hf
      rcases List.mem_cons.1 hf with rfl | hf
      · exact ⟨i, hi, rfl⟩
      · exact fieldsP_mem l (l.length - ((fieldP l i).to_ + 1)) ((fieldP l i).to_ + 1) rfl (by omega) f hf
    · rw [fieldsP_last h] at hf
      obtain rfl := List.mem_singleton.1 hf
      exact ⟨i, hi, rfl⟩
termination_by n => n
decreasing_by omega
theorem allP_mem (l : List UInt8) : ∀ n i, l.length - i = n → ∀ R ∈ allP l i, ∃ k, k < l.length ∧ R = rowP l k
  | n, i, hn, R, hR => by
    rcases Nat.lt_or_ge i l.length with h | h
    · rw [allP_more h] at hR
      have h2 := rowP_next h
      rcases List.mem_cons.1 hR with rfl | hR
      · exact ⟨i, h, rfl⟩
      · exact allP_mem l (l.length - (rowP l i).next) (rowP l i).next rfl R hR
    · rw [allP_end h] at hR; cases hR
termination_by n => n
decreasing_by omega
/-- The fields of a file's rows. -/
theorem row_fields {l : List UInt8} {R : Rw} (hR : R ∈ allP l 0) : R.fs.length ≤ l.length + 1 ∧ ∀ f ∈ R.fs, (∀ x ∈ f.pl, 0 ≤ x ∧ x < l.length) ∧ f.pl.length ≤ l.length := by
  obtain ⟨k, hk, rfl⟩ := allP_mem l _ 0 rfl R hR
  refine ⟨?_, fun f hf => ?_⟩
  · have := (fieldsP_spec l _ k rfl (by omega)).2.2.2.2
    show (fieldsP l k).1.length ≤ _
    omega
  · obtain ⟨p, hp, rfl⟩ := fieldsP_mem l _ k rfl (by omega) f hf
    obtain ⟨h1, h2, _, _, h5, h6⟩ := fieldP_spec hp
    exact ⟨fun x hx => by have := h5 x hx; omega, by omega⟩

theorem allP_cnt (l : List UInt8) : ∀ n k, l.length - k = n → (allP l k).length ≤ l.length - k
  | n, k, hn => by
    rcases Nat.lt_or_ge k l.length with h | h
    · have h2 := rowP_next h
      have := allP_cnt l (l.length - (rowP l k).next) (rowP l k).next rfl
      rw [allP_more h, List.length_cons]; omega
    · rw [allP_end h]; simp
termination_by n => n
decreasing_by omega

theorem row_fields2 {l : List UInt8} {R : Rw} (hR : R ∈ allP l 0) : ∀ f ∈ R.fs, f.from_ ≤ f.to_ ∧ f.to_ ≤ l.length := by
  obtain ⟨k, hk, rfl⟩ := allP_mem l _ 0 rfl R hR
  intro f hf
  obtain ⟨p, hp, rfl⟩ := fieldsP_mem l _ k rfl (by omega) f hf
  obtain ⟨h1, h2, _⟩ := fieldP_spec hp
  rw [fieldP_from]
  exact ⟨h1, h2⟩

end Go.Proofs.Ytkgakgceamafcaa

namespace Go.Proofs.Ytkgakgceamafcaa
open Go Go.RowKit
set_option linter.unusedVariables false

theorem TxB.grown {B B' : Nat} {w w' : World} {v : Value} {t : List Int} {e : TypeId} {sz n : Nat} {v' : Value} {xs : List Value} (h : TxB B w v t) (ho : w.ownsRow B' e sz v' n xs) (he : e ≠ 91) (hg : w.grownBy w' v'.ownBlock) : TxB B w' v t := by
  obtain ⟨a, c, h1, h2, h3, h4, h5, h6⟩ := h
  have hk : ∀ d, a = some d → w'.heap[d.block]? = w.heap[d.block]? := fun d hd => by
    obtain ⟨cs, h7⟩ := h6 d hd
    exact hg.block d.block (lt_of_heap h7) (fun e' => own_ne ho h7 he e'.symm)
  refine ⟨a, c, h1, ⟨h2.1, fun hn => ?_⟩, h3, h4, h5, fun d hd => ?_⟩
  · obtain ⟨g, off, rfl, hlt, hx⟩ := h2.2 hn
    refine ⟨g, off, rfl, Nat.lt_of_lt_of_le hlt hg.size, fun j x hj => ?_⟩
    rw [World.cell?_of_block (w := w) (w' := w') (a := ⟨g, off + j, none⟩) (hk ⟨g, off, none⟩ rfl)]
    exact hx j x hj
  · obtain ⟨cs, h7⟩ := h6 d hd; exact ⟨cs, (hk d hd).trans h7⟩

/-- A cell in memory: where its text's spans lie, its raw bytes' span, whether it is kept; its text's places. -/
structure CelM where
  a : Option Addr
  n : Nat
  c : Nat
  x : Int
  y : Int
  k : Bool
  t : List Int
def ceC1 (p : CelM) : List Value := [.slice p.a p.n p.c, .int .i64 p.x, .int .i64 p.y, .bool p.k]
/-- The cells of cells. -/
def ceC (ps : List CelM) : List Value := ps.flatMap ceC1
theorem ceC_snoc (ps : List CelM) (p : CelM) : ceC (ps ++ [p]) = ceC ps ++ ceC1 p := by unfold ceC; simp
theorem ceC_len : ∀ ps : List CelM, (ceC ps).length = ps.length * 4
  | [] => rfl
  | p :: ps => by
    have := ceC_len ps
    have e : ceC (p :: ps) = ceC1 p ++ ceC ps := by unfold ceC; simp
    rw [e, List.length_append, this, List.length_cons]; show 4 + _ = _; omega
theorem ceC_at : ∀ (ps : List CelM) (k : Nat) (p : CelM) (j : Nat), ps[k]? = some p → j < 4 → (ceC ps)[k * 4 + j]? = (ceC1 p)[j]?
  | [], k, p, j, h, _ => by simp at h
  | q :: ps, 0, p, j, h, hj => by
    obtain rfl : q = p := by simpa using h
    have e : ceC (q :: ps) = ceC1 q ++ ceC ps := by unfold ceC; simp
    rw [e, List.getElem?_append_left (by show _ < 4; omega)]; simp
  | q :: ps, k + 1, p, j, h, hj => by
    have e : ceC (q :: ps) = ceC1 q ++ ceC ps := by unfold ceC; simp
    rw [e, List.getElem?_append_right (by show 4 ≤ _; omega)]
    have := ceC_at ps k p j (by simpa using h) hj
    rw [← this]; congr 1; show (k + 1) * 4 + j - 4 = _; omega
/-- A cell's text lies in memory, and within the arena. -/
structure CeIn (w : World) (B : Nat) (l : List UInt8) (p : CelM) : Prop where
  tx : TxB B w (.slice p.a p.n p.c) p.t
  inl : InL l p.t
theorem CeIn.below {w w' : World} {B : Nat} {l : List UInt8} {p : CelM} (h : CeIn w B l p) (hb : Below w.heap.size w w') : CeIn w' B l p := ⟨h.tx.below hb, h.inl⟩
theorem CeIn.mono {w : World} {B B' : Nat} {l : List UInt8} {p : CelM} (h : CeIn w B' l p) (hB : B ≤ B') : CeIn w B l p := ⟨h.tx.mono hB, h.inl⟩
theorem CeIn.grown {w w' : World} {B B' sz n : Nat} {e : TypeId} {v : Value} {xs : List Value} {l : List UInt8} {p : CelM} (h : CeIn w B l p) (ho : w.ownsRow B' e sz v n xs) (he : e ≠ 91) (hg : w.grownBy w' v.ownBlock) : CeIn w' B l p := ⟨h.tx.grown ho he hg, h.inl⟩
def CesIn (w : World) (B : Nat) (l : List UInt8) (ps : List CelM) : Prop := ∀ p ∈ ps, CeIn w B l p
theorem CesIn.below {w w' : World} {B : Nat} {l : List UInt8} {ps : List CelM} (h : CesIn w B l ps) (hb : Below w.heap.size w w') : CesIn w' B l ps := fun p hp => (h p hp).below hb
theorem CesIn.grown {w w' : World} {B B' sz n : Nat} {e : TypeId} {v : Value} {xs : List Value} {l : List UInt8} {ps : List CelM} (h : CesIn w B l ps) (ho : w.ownsRow B' e sz v n xs) (he : e ≠ 91) (hg : w.grownBy w' v.ownBlock) : CesIn w' B l ps := fun p hp => (h p hp).grown ho he hg
theorem CesIn.snoc {w : World} {B : Nat} {l : List UInt8} {ps : List CelM} {p : CelM} (h : CesIn w B l ps) (hp : CeIn w B l p) : CesIn w B l (ps ++ [p]) := by
  intro q hq
  rcases List.mem_append.1 hq with hq | hq
  · exact h q hq
  · obtain rfl := List.mem_singleton.1 hq; exact hp
theorem info_cell : (Try.prog.info? 98).map (fun i => (i.zero, i.size, i.bytes)) = some (some (.agg #[.slice none 0 0, .int .i64 0, .int .i64 0, .bool false]), 4, 48) := by kernel_rfl

/-- A cell's raw bytes as the document has them. -/
def rawP (l : List UInt8) (p : CelM) : ByteArray := if p.k = true then strOf (subL l p.x p.y) else ⟨#[]⟩
/-- A cell as the document's. -/
def plC (l : List UInt8) (p : CelM) : List Value := [.string (strOf (atL l p.t)), .string (rawP l p), .bool p.k]
/-- Are two cells the same? -/
def sameP (l : List UInt8) (p q : CelM) : Bool := decide (strOf (atL l p.t) = strOf (atL l q.t) ∧ rawP l p = rawP l q ∧ p.k = q.k)
theorem strOf_eq {a b : List UInt8} (h : strOf a = strOf b) : a = b := by
  have := congrArg (fun s : ByteArray => s.data.toList) h
  simpa [strOf] using this
theorem sameP_self (l : List UInt8) (p : CelM) : sameP l p p = true := by unfold sameP; simp

theorem toList_iff (a b : ByteArray) : a.toList = b.toList ↔ a = b := by
  rw [ByteArray.toList_eq, ByteArray.toList_eq]
  exact ⟨fun h => ByteArray.ext (Array.toList_inj.1 h), fun h => by rw [h]⟩
end Go.Proofs.Ytkgakgceamafcaa

namespace Go.Proofs.Ytkgakgceamafcaa
open Go Go.RowKit
set_option linter.unusedVariables false

abbrev rowV (a : Option Addr) (n c : Nat) (e : Int) (h : Bool) : Value := .agg #[.slice a n c, .int .i64 e, .bool h]
/-- Cells to be read. -/
structure RoIn (w : World) (l : List UInt8) (a : Option Addr) (ps : List CelM) : Prop where
  rd : Rd w 4 a ps.length (ceC ps)
  ces : CesIn w 0 l ps
  ty : ∀ d, a = some d → ∃ cs, w.heap[d.block]? = some (.cells cs 98 (0, 0))
theorem RoIn.below {w w' : World} {l : List UInt8} {a : Option Addr} {ps : List CelM} (h : RoIn w l a ps) (hb : Below w.heap.size w w') : RoIn w' l a ps :=
  ⟨h.rd.below hb, h.ces.below hb, fun d hd => by obtain ⟨cs, hc⟩ := h.ty d hd; exact ⟨cs, (hb.block _ (lt_of_heap hc)).trans hc⟩⟩
theorem TxB.setT {B b o : Nat} {w : World} {v u : Value} {t : List Int} {cs : Array Value} {T : TypeId} {fr : Nat × Nat} (h : TxB B w v t) (hb : w.heap[b]? = some (.cells cs T fr)) (hT : T ≠ 91) : TxB B (w.setCell ⟨b, o, none⟩ u) v t := by
  obtain ⟨a, c, h1, h2, h3, h4, h5, h6⟩ := h
  have hne : ∀ d, a = some d → d.block ≠ b := fun d hd e => by
    obtain ⟨cs', h7⟩ := h6 d hd
    rw [e, hb] at h7; injection h7 with h7; injection h7 with _ h7; exact hT h7
  exact ⟨a, c, h1, h2.set hne, h3, h4, h5, fun d hd => by obtain ⟨cs', h7⟩ := h6 d hd; exact ⟨cs', (heap_set_other (hne d hd)).trans h7⟩⟩
theorem RoIn.setT {w : World} {l : List UInt8} {a : Option Addr} {ps : List CelM} {b o : Nat} {u : Value} {cs : Array Value} {T : TypeId} {fr : Nat × Nat} (h : RoIn w l a ps) (hb : w.heap[b]? = some (.cells cs T fr)) (hT : T ≠ 91) (hT2 : T ≠ 98) : RoIn (w.setCell ⟨b, o, none⟩ u) l a ps := by
  have hne : ∀ d, a = some d → d.block ≠ b := fun d hd e => by
    obtain ⟨cs', h7⟩ := h.ty d hd
    rw [e, hb] at h7; injection h7 with h7; injection h7 with _ h7; exact hT2 h7
  exact ⟨h.rd.set hne, fun q hq => ⟨(h.ces q hq).tx.setT hb hT, (h.ces q hq).inl⟩, fun d hd => by obtain ⟨cs', h7⟩ := h.ty d hd; exact ⟨cs', (heap_set_other (hne d hd)).trans h7⟩⟩
theorem RoIn.set3 {w : World} {l : List UInt8} {a : Option Addr} {ps : List CelM} {b : Nat} {u0 u1 u2 x0 x1 x2 : Value} {T : TypeId} (h : RoIn w l a ps) (hb : w.heap[b]? = some (.cells #[x0, x1, x2] T (0, 0))) (hT : T ≠ 91) (hT2 : T ≠ 98) : RoIn (set3 w b u0 u1 u2) l a ps := by
  unfold Go.Proofs.Ytkgakgceamafcaa.set3
  exact ((h.setT hb hT hT2).setT (heap_set_at hb) hT hT2).setT (heap_set_at (heap_set_at hb)) hT hT2
/-- Cells of one's own are to be read. -/
theorem own_ro {w : World} {B c : Nat} {l : List UInt8} {a : Option Addr} {ps : List CelM} (h : w.ownsRow B 98 4 (.slice a ps.length c) ps.length (ceC ps)) (hi : CesIn w 0 l ps) : RoIn w l a ps :=
  ⟨own_rd h, hi, fun d hd => by subst hd; exact own_cellsAt h⟩
theorem rd_cell {w : World} {a : Option Addr} {ps : List CelM} (h : Rd w 4 a ps.length (ceC ps)) {k : Nat} (hk : k < ps.length) :
    ∃ g o, a = some ⟨g, o, none⟩ ∧ g < w.heap.size ∧ w.cell? ⟨g, o + k * 4, none⟩ = some (.slice ps[k].a ps[k].n ps[k].c) ∧ w.cell? ⟨g, o + k * 4 + 1, none⟩ = some (.int .i64 ps[k].x) ∧ w.cell? ⟨g, o + k * 4 + 2, none⟩ = some (.int .i64 ps[k].y) ∧ w.cell? ⟨g, o + k * 4 + 3, none⟩ = some (.bool ps[k].k) := by
  obtain ⟨g, o, e, hg, hc⟩ := h.2 (by omega)
  have hh := fun (j : Nat) (u : Value) (hj : j < 4) (hu : (ceC1 ps[k])[j]? = some u) => hc (k * 4 + j) u ((ceC_at ps k ps[k] j (List.getElem?_eq_getElem hk) hj).trans hu)
  have h0 := hh 0 _ (by omega) rfl
  have h1 := hh 1 _ (by omega) rfl
  have h2 := hh 2 _ (by omega) rfl
  have h3 := hh 3 _ (by omega) rfl
  exact ⟨g, o, e, hg, h0, by rw [Nat.add_assoc]; exact h1, by rw [Nat.add_assoc]; exact h2, by rw [Nat.add_assoc]; exact h3⟩

set_option maxRecDepth 100000 in
set_option maxHeartbeats 2000000 in
theorem ceC_one (ps : List CelM) : ∀ u ∈ ceC ps, u.oneCell' = true := by
  intro u hu
  unfold ceC at hu
  obtain ⟨p, _, hp⟩ := List.mem_flatMap.1 hu
  simp only [ceC1, List.mem_cons, List.not_mem_nil, or_false] at hp
  rcases hp with rfl | rfl | rfl | rfl <;> rfl

end Go.Proofs.Ytkgakgceamafcaa

namespace Go.Proofs.Ytkgakgceamafcaa
open Go Go.RowKit
set_option linter.unusedVariables false

/-- copy, of elements of k cells, into a whole block of one's own. -/
theorem wpList_copyK {P : Program} {w : World} {ops : Array Oper} {rest : List Oper} {o : Oper} {a : Act} {Q : Exit → Act → World → Prop} (hgd : o.guard = none) (d s : Operand) (dT sT : TypeId)
    (ho : o.op = .call { callee := .builtin .copy, args := #[d, s], argTypes := #[dT, sT] }) (elem : TypeId) (hu : P.underlying dT = some (.slice elem)) (k : Nat) (hsz : (P.info? elem).map (·.size) = some k)
    (g dLen dCap : Nat) (sp : Option Addr) (sLen sCap : Nat) (hd : a.eval d = .slice (some ⟨g, 0, none⟩) dLen dCap) (hs : a.eval s = .slice sp sLen sCap)
    (cur : List Value) (t : TypeId) (hg : w.heap[g]? = some (.cells cur.toArray t (0, 0))) (cs : List Value) (n : Nat) (hn : n = Nat.min sLen dLen) (hcs : cs.length = n * k)
    (hpos : 0 < cs.length → ∃ ad, sp = some ad ∧ ∀ j v, cs[j]? = some v → w.cell? (ad.add j) = some v)
    (hfit : cs.length ≤ cur.length) (h1 : ∀ v ∈ cs, v.oneCell' = true) (B : Nat) (w0 : World) (hb : Below B w0 w) (hBg : B ≤ g)
    (h : ∀ w', Hid (w'.heap[g]? = some (.cells (cs ++ cur.drop cs.length).toArray t (0, 0))) → Below B w0 w' → wpList P ops Q rest (a.put o.dst (goInt n)) w') :
    wpList P ops Q (o :: rest) a w := by
  have hrun : (Builtin.copy_ #[dT, sT] o.type #[.slice (some ⟨g, 0, none⟩) dLen dCap, .slice sp sLen sCap]).run P w = .ok (goInt n) (w.setRow g (cs ++ cur.drop cs.length).toArray) := by
    have hst := run_storeCells_at P g 0 t cs 0 cur.toArray w hg (by simpa using hfit) h1
    simp only [Nat.zero_add, List.take_zero, List.nil_append] at hst
    cases hq : P.info? elem with
    | none => simp [hq] at hsz
    | some i =>
      have hi : i.size = k := by simpa [hq] using hsz
      cases sp with
      | none =>
        have h0 : cs = [] := by
          rcases Nat.eq_zero_or_pos cs.length with h | h
          · exact List.eq_nil_of_length_eq_zero h
          · obtain ⟨ad, e, _⟩ := hpos h; cases e
        subst h0
        simp [Builtin.copy_, run_underlying hu, Builtin.lenOf, Builtin.firstCells, sizeOf, typeInfo, hq, storeCells, ← hn]
        exact (setRow_self w g cur.toArray t (0, 0) hg).symm
      | some ad =>
        have hl := run_loadCells_list (P := P) w ad cs (by
          intro j v hj
          have hp : 0 < cs.length := by
            have := (List.getElem?_eq_some_iff.1 hj).1; omega
          obtain ⟨ad', e, hc⟩ := hpos hp
          cases e
          exact hc j v hj)
        simp [Builtin.copy_, run_underlying hu, Builtin.lenOf, Builtin.firstCells, sizeOf, typeInfo, hq, hi, ← hn, ← hcs, hl, hst]
  refine wpList_plain hgd fun K hK => ?_
  unfold Oper.wp
  simp [execOp, ho, resolve, invoke, builtin, hd, hs, hrun, Result.andThen]
  exact hK _ _ (h _ (show _ = _ from setRow_heap w g _ _ t _ hg) (Go.below_setRow hb hBg _))

theorem own_full {w : World} {B s n g : Nat} {e : TypeId} {xs : List Value} (h : w.ownsRow B e s (.slice (some ⟨g, 0, none⟩) n n) n xs) : w.heap[g]? = some (.cells xs.toArray e (0, 0)) ∧ B ≤ g := by
  rcases h.2 with ⟨h1, _⟩ | ⟨g', cap, cur, h1, hB, hg, _, _, hsz, ht⟩
  · cases h1
  · simp only [Value.slice.injEq, Option.some.injEq, Addr.mk.injEq, and_true, true_and] at h1
    obtain ⟨rfl, rfl⟩ := h1
    refine ⟨?_, hB⟩
    rw [hg, ← ht, ← hsz, ← Array.length_toList, List.take_length]
/-- The empty cell. -/
def noneM : CelM := ⟨none, 0, 0, 0, 0, false, []⟩
theorem noneM_in (w : World) (l : List UInt8) : CeIn w 0 l noneM := by
  have hc : canon noneM.t = [] := by simp [noneM, canon]
  refine ⟨⟨none, 0, by rw [hc]; rfl, by rw [hc]; exact ⟨rfl, fun hn => absurd hn (by simp)⟩, ⟨by simp [noneM], fun x hx => by simp [noneM] at hx⟩, (fun d hd => by simp at hd), fun _ => rfl, (fun d hd => by simp at hd)⟩, fun x hx => by simp [noneM] at hx⟩
theorem ceC_app (a b : List CelM) : ceC (a ++ b) = ceC a ++ ceC b := by unfold ceC; simp
theorem ceC_at4 (ps : List CelM) (j : Nat) (h : j < ps.length * 4) : (ceC ps)[j]? = (ceC1 (ps[j / 4]'(by omega)))[j % 4]? := by
  have := ceC_at ps (j / 4) (ps[j / 4]'(by omega)) (j % 4) (List.getElem?_eq_getElem (by omega)) (Nat.mod_lt _ (by omega))
  rw [← this]; congr 1; omega
theorem made_cells (m : Nat) : (madeCells #[.slice none 0 0, .int .i64 0, .int .i64 0, .bool false] (m * 4)).toList = ceC (List.replicate m noneM) := by
  apply List.ext_getElem?
  intro j
  by_cases hj : j < m * 4
  · rw [ceC_at4 _ j (by simpa using hj)]
    simp only [List.getElem_replicate]
    have e : (madeCells #[Value.slice none 0 0, .int .i64 0, .int .i64 0, .bool false] (m * 4)).toList[j]? = some (#[Value.slice none 0 0, .int .i64 0, .int .i64 0, .bool false][j % 4]!) := by
      simp [madeCells, hj]
    rw [e]
    have h4 := Nat.mod_lt j (show 0 < 4 by omega)
    rcases (show j % 4 = 0 ∨ j % 4 = 1 ∨ j % 4 = 2 ∨ j % 4 = 3 by omega) with h | h | h | h <;> rw [h] <;> rfl
  · rw [List.getElem?_eq_none (by simp [size_madeCells]; omega), List.getElem?_eq_none (by rw [ceC_len]; simp; omega)]
/-- A list with empty cells behind, up to so many. -/
def padL (ps : List CelM) (N : Int) : List CelM := ps ++ List.replicate ((min N 40).toNat - ps.length) noneM

end Go.Proofs.Ytkgakgceamafcaa

namespace Go.Proofs.Ytkgakgceamafcaa
open Go Go.RowKit
set_option linter.unusedVariables false

/-- Four cells of a block are written. -/
def put4 (w : World) (b o : Nat) (u0 u1 u2 u3 : Value) : World := (((w.setCell ⟨b, o, none⟩ u0).setCell ⟨b, o + 1, none⟩ u1).setCell ⟨b, o + 2, none⟩ u2).setCell ⟨b, o + 3, none⟩ u3
theorem put4_other {w : World} {b o b' : Nat} {u0 u1 u2 u3 : Value} (hn : b' ≠ b) : (put4 w b o u0 u1 u2 u3).heap[b']? = w.heap[b']? := by
  unfold put4
  rw [heap_set_other hn, heap_set_other hn, heap_set_other hn, heap_set_other hn]
theorem put4_below {B b o : Nat} {a w : World} {u0 u1 u2 u3 : Value} (h : Below B a w) (hb : B ≤ b) : Below B a (put4 w b o u0 u1 u2 u3) :=
  (((h.setCell (p := ⟨b, o, none⟩) hb _).setCell (p := ⟨b, o + 1, none⟩) hb _).setCell (p := ⟨b, o + 2, none⟩) hb _).setCell (p := ⟨b, o + 3, none⟩) hb _
theorem put4_own {w : World} {B g c i : Nat} {L : List CelM} {M : CelM} (h : w.ownsRow B 98 4 (.slice (some ⟨g, 0, none⟩) L.length c) L.length (ceC L)) (hi : i < L.length) :
    (put4 w g (i * 4) (.slice M.a M.n M.c) (.int .i64 M.x) (.int .i64 M.y) (.bool M.k)).ownsRow B 98 4 (.slice (some ⟨g, 0, none⟩) (L.set i M).length c) (L.set i M).length (ceC (L.set i M)) := by
  rcases h.2 with ⟨h1, _⟩ | ⟨g', cap, cur, h1, hB, hg, hnc, hcm, hsz, ht⟩
  · cases h1
  · simp only [Value.slice.injEq, Option.some.injEq, Addr.mk.injEq, and_true, true_and] at h1
    obtain ⟨rfl, rfl⟩ := h1
    rw [List.length_set]
    refine ⟨by rw [ceC_len, List.length_set], .inr ⟨g, c, _, rfl, hB, (by unfold put4; exact heap_set_at (heap_set_at (heap_set_at (heap_set_at hg)))), hnc, hcm, by simp [hsz], ?_⟩⟩
    apply List.ext_getElem?
    intro j
    by_cases hj : j < L.length * 4
    · have hjc : j < cur.size := by rw [hsz]; omega
      have h0 : cur[j]? = (ceC L)[j]? := by
        rw [← ht, List.getElem?_take, if_pos hj, Array.getElem?_toList]
      have hs : (ceC (L.set i M))[j]? = if j / 4 = i then (ceC1 M)[j % 4]? else (ceC L)[j]? := by
        rw [ceC_at4 _ j (by rw [List.length_set]; exact hj), List.getElem_set]
        by_cases hji : i = j / 4
        · rw [if_pos hji, if_pos hji.symm]
        · rw [if_neg hji, if_neg (fun e => hji e.symm), ceC_at4 _ j hj]
      rw [hs, List.getElem?_take, if_pos hj, Array.getElem?_toList]
      simp only [Array.getElem?_setIfInBounds, Array.size_setIfInBounds]
      by_cases hji : j / 4 = i
      · rw [if_pos hji]
        have h4 := Nat.mod_lt j (show 0 < 4 by omega)
        rcases (show j % 4 = 0 ∨ j % 4 = 1 ∨ j % 4 = 2 ∨ j % 4 = 3 by omega) with h | h | h | h
        · rw [if_neg (by omega), if_neg (by omega), if_neg (by omega), if_pos (by omega), if_pos (by omega), h]; rfl
        · rw [if_neg (by omega), if_neg (by omega), if_pos (by omega), if_pos (by omega), h]; rfl
        · rw [if_neg (by omega), if_pos (by omega), if_pos (by omega), h]; rfl
        · rw [if_pos (by omega), if_pos (by omega), h]; rfl
      · rw [if_neg hji, if_neg (by omega), if_neg (by omega), if_neg (by omega), if_neg (by omega), h0]
    · rw [List.getElem?_eq_none (by rw [List.length_take]; omega), List.getElem?_eq_none (by rw [ceC_len, List.length_set]; omega)]

theorem rfield0 (w : World) (a : Option Addr) (n c : Nat) (e : Int) (h : Bool) : Sem.run Try.prog (Instr.field 71 (.agg #[.slice a n c, .int .i64 e, .bool h]) 0) w = .ok (.slice a n c) w := by
  have u := Try.underlying71
  have a1 := Try.isAgg69
  have z1 := Try.sizeOf69
  unfold Instr.field
  go_simp
  rfl
/-- A row with another cell. -/
def setL (ps : List CelM) (i : Nat) (M : CelM) : List CelM := (padL ps ((i : Int) + 1)).set i M
theorem padL_len (ps : List CelM) (N : Int) : (padL ps N).length = max ps.length (min N 40).toNat := by unfold padL; rw [List.length_append, List.length_replicate]; omega
theorem setL_len (ps : List CelM) (i : Nat) (M : CelM) : (setL ps i M).length = max ps.length (min (i + 1) 40) := by unfold setL; rw [List.length_set, padL_len]; omega

end Go.Proofs.Ytkgakgceamafcaa
