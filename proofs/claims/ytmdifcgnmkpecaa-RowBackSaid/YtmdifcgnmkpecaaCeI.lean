/-
  Loaded and written cells of a file, in memory, and what they are as the document's; at this seat's numbers.
-/
import Derived.Test.YtmdifcgnmkpecaaCeH
import Derived.Test.YtmdifcgnmkpecaaScZ
import Derived.Laws.StructEq
namespace Go.Proofs.Ytmdifcgnmkpecaa
open Go Go.RowKit
set_option linter.unusedVariables false

theorem TxB.grown {B B' : Nat} {w w' : World} {v : Value} {t : List Int} {e : TypeId} {sz n : Nat} {v' : Value} {xs : List Value} (h : TxB B w v t) (ho : w.ownsRow B' e sz v' n xs) (he : e ≠ 39) (hg : w.grownBy w' v'.ownBlock) : TxB B w' v t := by
  obtain ⟨a, c, h1, h2, h3, h4, h5, h6⟩ := h
  have hk : ∀ d, a = some d → w'.heap[d.block]? = w.heap[d.block]? := fun d hd => by
    obtain ⟨cs, h7⟩ := h6 d hd
    exact hg.block d.block (lt_of_heap h7) (fun e' => own_ne ho h7 he e'.symm)
  refine ⟨a, c, h1, ⟨h2.1, fun hn => ?_⟩, h3, h4, h5, fun d hd => ?_⟩
  · obtain ⟨g, off, rfl, hlt, hx⟩ := h2.2 hn
    refine ⟨g, off, rfl, Nat.lt_of_lt_of_le hlt hg.size, fun j x hj => ?_⟩
    rw [World.cell?_of_block (w := w) (w' := w') (a := ⟨g, off + j, none⟩) (hk ⟨g, off, none⟩ rfl)]
    exact hx j x hj
  · obtain ⟨cs, h7⟩ := h6 d hd; exact ⟨cs, (hk d hd).trans h7⟩

/-- A cell in memory: where its text's spans lie, its raw bytes' span, whether it is kept; its text's places. -/
structure CelM where
  a : Option Addr
  n : Nat
  c : Nat
  x : Int
  y : Int
  k : Bool
  t : List Int
def ceC1 (p : CelM) : List Value := [.slice p.a p.n p.c, .int .i64 p.x, .int .i64 p.y, .bool p.k]
/-- The cells of cells. -/
def ceC (ps : List CelM) : List Value := ps.flatMap ceC1
theorem ceC_snoc (ps : List CelM) (p : CelM) : ceC (ps ++ [p]) = ceC ps ++ ceC1 p := by unfold ceC; simp
theorem ceC_len : ∀ ps : List CelM, (ceC ps).length = ps.length * 4
  | [] => rfl
  | p :: ps => by
    have := ceC_len ps
    have e : ceC (p :: ps) = ceC1 p ++ ceC ps := by unfold ceC; simp
    rw [e, List.length_append, this, List.length_cons]; show 4 + _ = _; omega
theorem ceC_at : ∀ (ps : List CelM) (k : Nat) (p : CelM) (j : Nat), ps[k]? = some p → j < 4 → (ceC ps)[k * 4 + j]? = (ceC1 p)[j]?
  | [], k, p, j, h, _ => by simp at h
  | q :: ps, 0, p, j, h, hj => by
    obtain rfl : q = p := by simpa using h
    have e : ceC (q :: ps) = ceC1 q ++ ceC ps := by unfold ceC; simp
    rw [e, List.getElem?_append_left (by show _ < 4; omega)]; simp
  | q :: ps, k + 1, p, j, h, hj => by
    have e : ceC (q :: ps) = ceC1 q ++ ceC ps := by unfold ceC; simp
    rw [e, List.getElem?_append_right (by show 4 ≤ _; omega)]
    have := ceC_at ps k p j (by simpa using h) hj
    rw [← this]; congr 1; show (k + 1) * 4 + j - 4 = _; omega
/-- A cell's text lies in memory, and within the arena. -/
structure CeIn (w : World) (B : Nat) (l : List UInt8) (p : CelM) : Prop where
  tx : TxB B w (.slice p.a p.n p.c) p.t
  inl : InL l p.t
theorem CeIn.below {w w' : World} {B : Nat} {l : List UInt8} {p : CelM} (h : CeIn w B l p) (hb : Below w.heap.size w w') : CeIn w' B l p := ⟨h.tx.below hb, h.inl⟩
theorem CeIn.mono {w : World} {B B' : Nat} {l : List UInt8} {p : CelM} (h : CeIn w B' l p) (hB : B ≤ B') : CeIn w B l p := ⟨h.tx.mono hB, h.inl⟩
theorem CeIn.grown {w w' : World} {B B' sz n : Nat} {e : TypeId} {v : Value} {xs : List Value} {l : List UInt8} {p : CelM} (h : CeIn w B l p) (ho : w.ownsRow B' e sz v n xs) (he : e ≠ 39) (hg : w.grownBy w' v.ownBlock) : CeIn w' B l p := ⟨h.tx.grown ho he hg, h.inl⟩
def CesIn (w : World) (B : Nat) (l : List UInt8) (ps : List CelM) : Prop := ∀ p ∈ ps, CeIn w B l p
theorem CesIn.below {w w' : World} {B : Nat} {l : List UInt8} {ps : List CelM} (h : CesIn w B l ps) (hb : Below w.heap.size w w') : CesIn w' B l ps := fun p hp => (h p hp).below hb
theorem CesIn.grown {w w' : World} {B B' sz n : Nat} {e : TypeId} {v : Value} {xs : List Value} {l : List UInt8} {ps : List CelM} (h : CesIn w B l ps) (ho : w.ownsRow B' e sz v n xs) (he : e ≠ 39) (hg : w.grownBy w' v.ownBlock) : CesIn w' B l ps := fun p hp => (h p hp).grown ho he hg
theorem CesIn.snoc {w : World} {B : Nat} {l : List UInt8} {ps : List CelM} {p : CelM} (h : CesIn w B l ps) (hp : CeIn w B l p) : CesIn w B l (ps ++ [p]) := by
  intro q hq
  rcases List.mem_append.1 hq with hq | hq
  · exact h q hq
  · obtain rfl := List.mem_singleton.1 hq; exact hp
theorem info_cell : (Try.prog.info? 50).map (fun i => (i.zero, i.size, i.bytes)) = some (some (.agg #[.slice none 0 0, .int .i64 0, .int .i64 0, .bool false]), 4, 48) := by kernel_rfl

/-- A cell's raw bytes as the document has them. -/
def rawP (l : List UInt8) (p : CelM) : ByteArray := if p.k = true then strOf (subL l p.x p.y) else ⟨#[]⟩
/-- A cell as the document's. -/
def plC (l : List UInt8) (p : CelM) : List Value := [.string (strOf (atL l p.t)), .string (rawP l p), .bool p.k]
/-- Are two cells the same? -/
def sameP (l : List UInt8) (p q : CelM) : Bool := decide (strOf (atL l p.t) = strOf (atL l q.t) ∧ rawP l p = rawP l q ∧ p.k = q.k)
theorem strOf_eq {a b : List UInt8} (h : strOf a = strOf b) : a = b := by
  have := congrArg (fun s : ByteArray => s.data.toList) h
  simpa [strOf] using this
theorem sameP_self (l : List UInt8) (p : CelM) : sameP l p p = true := by unfold sameP; simp

theorem cplain_of {w : World} {B B' p : Nat} {l : List UInt8} {m : CelM} (h : Ar w B p l) (hl : l.length ≤ 16384) (hm : CeIn w B' l m) :
    Calls Try.prog 15 #[.pointer (some ⟨p, 0, none⟩), .agg #[.slice m.a m.n m.c, .int .i64 m.x, .int .i64 m.y, .bool m.k]] w fun e w' => e = .returned (.agg #[.string (strOf (atL l m.t)), .string (rawP l m), .bool m.k]) ∧ Below w.heap.size w w' := by
  obtain ⟨a, n, c, x, y, k, t⟩ := m
  cases k with
  | false => exact cplain_text x y h hl hm.tx.tx hm.inl
  | true => exact cplain_kept x y h hl hm.tx.tx hm.inl
theorem csame_of {w : World} {B B1 B2 p : Nat} {l : List UInt8} {m1 m2 : CelM} (h : Ar w B p l) (hl : l.length ≤ 16384) (h1 : CeIn w B1 l m1) (h2 : CeIn w B2 l m2) :
    Calls Try.prog 29 #[.pointer (some ⟨p, 0, none⟩), .agg #[.slice m1.a m1.n m1.c, .int .i64 m1.x, .int .i64 m1.y, .bool m1.k], .agg #[.slice m2.a m2.n m2.c, .int .i64 m2.x, .int .i64 m2.y, .bool m2.k]] w fun e w' => e = .returned (.bool (sameP l m1 m2)) ∧ Below w.heap.size w w' := by
  obtain ⟨a, n, c, x, y, k, t⟩ := m1
  obtain ⟨a2, n2, c2, x2, y2, k2, t2⟩ := m2
  cases k with
  | false =>
    cases k2 with
    | false =>
      refine (csame_alike (x0 := x) (y0 := y) (x1 := x2) (y1 := y2) false h hl h1.tx.tx h2.tx.tx h1.inl h2.inl).mono ?_
      rintro e w' ⟨rfl, hb⟩
      refine ⟨?_, hb⟩
      congr 2
      simp only [sameP, rawP, Bool.not_false, Bool.true_or, Bool.and_true]
      exact decide_eq_decide.2 ⟨fun e => ⟨by rw [e], by simp⟩, fun e => strOf_eq e.1⟩
    | true =>
      refine (csame_diff2 (x0 := x) (y0 := y) (x1 := x2) (y1 := y2) _).mono ?_
      rintro e w' ⟨rfl, hb⟩
      refine ⟨?_, hb⟩
      simp [sameP]
  | true =>
    cases k2 with
    | false =>
      refine (csame_diff (x0 := x) (y0 := y) (x1 := x2) (y1 := y2) _).mono ?_
      rintro e w' ⟨rfl, hb⟩
      refine ⟨?_, hb⟩
      simp [sameP]
    | true =>
      refine (csame_alike (x0 := x) (y0 := y) (x1 := x2) (y1 := y2) true h hl h1.tx.tx h2.tx.tx h1.inl h2.inl).mono ?_
      rintro e w' ⟨rfl, hb⟩
      refine ⟨?_, hb⟩
      congr 2
      simp only [sameP, rawP, Bool.not_true, Bool.false_or]
      rw [← Bool.decide_and]
      exact decide_eq_decide.2 ⟨fun e => ⟨by rw [e.1], by rw [e.2], trivial⟩, fun e => ⟨strOf_eq e.1, strOf_eq (by simpa using e.2.1)⟩⟩

theorem toList_iff (a b : ByteArray) : a.toList = b.toList ↔ a = b := by
  rw [ByteArray.toList_eq, ByteArray.toList_eq]
  exact ⟨fun h => ByteArray.ext (Array.toList_inj.1 h), fun h => by rw [h]⟩
theorem eq_plain (w : World) (a0 a1 b0 b1 : ByteArray) (ka kb : Bool) : Sem.run Try.prog (binOp .eql 53 (.agg #[.string a0, .string a1, .bool ka]) (.agg #[.string b0, .string b1, .bool kb])) w = .ok (.bool (decide (a0 = b0 ∧ a1 = b1 ∧ ka = kb))) w := by
  have u9 := Try.underlying9
  have a9 := Try.isAgg9
  have z9 := Try.sizeOf9
  have u4 := Try.underlying4
  have a4 := Try.isAgg4
  have z4 := Try.sizeOf4
  have hS : Try.prog.underlying 53 = some (.struct (Try.prog.fieldsOf 53)) := by kernel_rfl
  have hp : Try.prog.stoodInHeld 53 = false := by kernel_rfl
  rw [run_eql_struct, show (10000 : Nat) = 9999 + 1 from rfl, run_equalIn_agg w 9999 53 _ _ hS hp]
  simp only [Program.fieldsOf, Try.underlying53]
  go_simp
  by_cases h1 : a0 = b0 <;> by_cases h2 : a1 = b1 <;> by_cases h3 : ka = kb <;> simp [h1, h2, h3, toList_iff]

end Go.Proofs.Ytmdifcgnmkpecaa
