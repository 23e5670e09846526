/-
  Texts of this seat, put together (a claim holds few texts): CeH, ScZ, CeI, RwA.
-/
import Derived.Test.YtkgakgceamafcaaGreatMk15
import Derived.Laws.StructEq
import Derived.Laws.CopyOwn
import Derived.Deep.RegionLaw
import Derived.Laws.AppendOwnNone

namespace Go.Proofs.YtkgakgceamafcaaGreat
open Go Go.RowKit
set_option linter.unusedVariables false

set_option maxRecDepth 100000 in
set_option maxHeartbeats 2000000 in
theorem cplain_kept {w : World} {B p : Nat} {l : List UInt8} {a : Option Addr} {n c : Nat} {t : List Int} (x y : Int) (h : Ar w B p l) (hl : l.length ≤ 16384) (hx : Tx w (.slice a n c) t) (hin : InL l t) :
    Calls Tryz.prog 22 #[.pointer (some ⟨p, 0, none⟩), cellV a n c x y true] w fun e w' => e = .returned (.agg #[.string (strOf (atL l t)), .string (strOf (subL l x y)), .bool true]) ∧ Below w.heap.size w w' := by
  obtain ⟨w1, hw1⟩ : ∃ w1, w1 = allocs w [Obj.cells #[Value.slice a n c, Value.int .i64 x, Value.int .i64 y, Value.bool true] 61, Obj.cells #[Value.string ⟨#[]⟩, Value.string ⟨#[]⟩, Value.bool false] 51] := ⟨_, rfl⟩
  have HB1 : Hid (Below w.heap.size w w1) := by rw [hw1]; exact Lib.hid (allocs_below _ w)
  have hzw : w1.heap.size > w.heap.size + 1 := by rw [hw1, allocs_size]; simp
  have h0 : w1.heap[w.heap.size]? = some (.cells #[Value.slice a n c, Value.int .i64 x, Value.int .i64 y, Value.bool true] 61 (0, 0)) := by rw [hw1]; exact allocs_at _ w 0 _ rfl
  have H1 : Hid (w1.heap[w.heap.size + 1]? = some (.cells #[Value.string ⟨#[]⟩, Value.string ⟨#[]⟩, Value.bool false] 51 (0, 0))) := by rw [hw1]; exact Lib.hid (allocs_at _ w 1 _ rfl)
  have k0 : w1.cell? ⟨w.heap.size, 0, none⟩ = some (.slice a n c) := by rw [cell_at h0]; rfl
  have k1 : w1.cell? ⟨w.heap.size, 1, none⟩ = some (.int .i64 x) := by rw [cell_at h0]; rfl
  have k2 : w1.cell? ⟨w.heap.size, 2, none⟩ = some (.int .i64 y) := by rw [cell_at h0]; rfl
  have k3 : w1.cell? ⟨w.heap.size, 3, none⟩ = some (.bool true) := by rw [cell_at h0]; rfl
  have ld0 := fun w' (h : Below w1.heap.size w1 w') => (h.cell (p := ⟨w.heap.size, 0, none⟩) (by simp only; omega)).trans k0
  have ld1 := fun w' (h : Below w1.heap.size w1 w') => (h.cell (p := ⟨w.heap.size, 1, none⟩) (by simp only; omega)).trans k1
  have ld2 := fun w' (h : Below w1.heap.size w1 w') => (h.cell (p := ⟨w.heap.size, 2, none⟩) (by simp only; omega)).trans k2
  have ld3 := fun w' (h : Below w1.heap.size w1 w') => (h.cell (p := ⟨w.heap.size, 3, none⟩) (by simp only; omega)).trans k3
  have hb0 : Below w1.heap.size w1 w1.drew := (Below.refl _ _).drew
  have hbB : Below w1.heap.size w1 (w1.alloc (Obj.cells #[Value.string ⟨#[]⟩, Value.string ⟨#[]⟩, Value.bool false] 51)).drew := ((Below.refl _ w1).alloc (Nat.le_refl _) _).drew
  have HF := Lib.hid (fun w' (hb : Below w1.heap.size w1 w') => cbytes_of x y true (h.below (HB1.out.trans (hb.mono (by omega)))) hl (hx.below (HB1.out.trans (hb.mono (by omega)))) hin)
  have HG := Lib.hid (fun w' (hb : Below w1.heap.size w1 w') => abytes_of (h.below (HB1.out.trans (hb.mono (by omega)))) hl x y)
  generalize subL l x y = g at *
  generalize atL l t = f at *
  clear h hx h0 k0 k1 k2 k3
  go_enter Tryz.func22, Tryz.ntmps22
  go_upto_region 1 with fail
  rw [show (w.alloc (Obj.cells #[Value.slice a n c, Value.int .i64 x, Value.int .i64 y, Value.bool true] 61)).alloc (Obj.cells #[Value.string ⟨#[]⟩, Value.string ⟨#[]⟩, Value.bool false] 51) = w1 from hw1.symm]
  clear hw1
  go_cut [5] (fun s5 wx => ∃ b : Nat, s5 = .pointer (some ⟨b, 0, none⟩) ∧ w1.heap.size ≤ b ∧ wx.heap[b]? = some (.cells #[.string (strOf f), .string ⟨#[]⟩, .bool true] 51 (0, 0)) ∧ Below w1.heap.size w1 wx)
  case first =>
    go_region_held_law (fun w' => Below w1.heap.size w1 w')
      (first | assumption | exact Below.alloc (by assumption) (Below.size (by assumption)) _ | exact set3_below (by assumption) (Nat.le_refl _) _ _ _ | exact set3_below (Below.alloc (by assumption) (Below.size (by assumption)) _) (Below.size (by assumption)) _ _ _)
      ((first
        | (go_at_call 66; refine (HF.out _ hb0).mono ?_; rintro e w2 ⟨a2, c2, rfl, ho2, hb2⟩; have hst0 := string_own ho2; have hst := string_own (own_below ho2 (below_al w2 (Obj.cells #[Value.string ⟨#[]⟩, Value.string ⟨#[]⟩, Value.bool false] 51))); have hh2 := heap_alloc_new w2 (Obj.cells #[Value.string ⟨#[]⟩, Value.string ⟨#[]⟩, Value.bool false] 51); have z2 := (fun i => unfrozen hh2 i); have p0 : (w2.alloc (Obj.cells #[Value.string ⟨#[]⟩, Value.string ⟨#[]⟩, Value.bool false] 51)).cell? ⟨w2.heap.size, 0, none⟩ = some (.string ⟨#[]⟩) := (by rw [cell_at hh2]; rfl); have p1 : (w2.alloc (Obj.cells #[Value.string ⟨#[]⟩, Value.string ⟨#[]⟩, Value.bool false] 51)).cell? ⟨w2.heap.size, 1, none⟩ = some (.string ⟨#[]⟩) := (by rw [cell_at hh2]; rfl); have p2 : (w2.alloc (Obj.cells #[Value.string ⟨#[]⟩, Value.string ⟨#[]⟩, Value.bool false] 51)).cell? ⟨w2.heap.size, 2, none⟩ = some (.bool false) := (by rw [cell_at hh2]; rfl); have HH2 := Lib.hid hh2; have hs2 := hb0.trans (hb2.mono hb0.size); clear ho2 hb2 hh2)
        | (go_at_call 66; refine (HF.out _ hbB).mono ?_; rintro e w2 ⟨a2, c2, rfl, ho2, hb2⟩; have hst := string_own ho2; have hh2 := (hb2.block w1.heap.size (by simp)).trans (heap_alloc_new w1 (Obj.cells #[Value.string ⟨#[]⟩, Value.string ⟨#[]⟩, Value.bool false] 51)); have z2 := (fun i => unfrozen hh2 i); have p0 : w2.cell? ⟨w1.heap.size, 0, none⟩ = some (.string ⟨#[]⟩) := (by rw [cell_at hh2]; rfl); have p1 : w2.cell? ⟨w1.heap.size, 1, none⟩ = some (.string ⟨#[]⟩) := (by rw [cell_at hh2]; rfl); have p2 : w2.cell? ⟨w1.heap.size, 2, none⟩ = some (.bool false) := (by rw [cell_at hh2]; rfl); have HH2 := Lib.hid hh2; have hs2 := hbB.trans (hb2.mono hbB.size); clear ho2 hb2 hh2)))
    all_goals
      go_wp2_with fail
      go_meet
      first
      | exact ⟨_, rfl, hs2.size, heap_alloc_new _ _, hs2.alloc hs2.size _⟩
      | exact ⟨_, rfl, Nat.le_refl _, set3_at HH2.out _ _ _, set3_below hs2 (Nat.le_refl _) _ _ _⟩
  case rest =>
    obtain ⟨b, rfl, hb, hh, hbx⟩ := hcut
    have k1 := ld1 _ hbx
    have k2 := ld2 _ hbx
    have k3 := ld3 _ hbx
    have HH := Lib.hid hh
    have HX := Lib.hid hbx
    have HGx := Lib.hid (HG.out wc hbx)
    have hbl := lt_of_heap hh
    clear hh hbx ld0 ld1 ld2 ld3 hbB hb0 HF HG
    go_wp2_with fail
    refine HGx.out.mono ?_; rintro e w5 ⟨a5, c5, rfl, ho5, hb5⟩
    have hst := string_own ho5
    have hh := (hb5.block b hbl).trans HH.out
    have z5 := fun i => unfrozen hh i
    have c0 : w5.cell? ⟨b, 0, none⟩ = some (.string (strOf f)) := by rw [cell_at hh]; rfl
    have c1 : w5.cell? ⟨b, 1, none⟩ = some (.string ⟨#[]⟩) := by rw [cell_at hh]; rfl
    have hh6 : (w5.setCell ⟨b, 1, none⟩ (.string (strOf g))).heap[b]? = some (.cells #[.string (strOf f), .string (strOf g), .bool true] 51 (0, 0)) := by rw [heap_set_at hh]; rfl
    have HB6 := Lib.hid ((HX.out.trans (hb5.mono HX.out.size)).setCell (p := ⟨b, 1, none⟩) hb (.string (strOf g)))
    have hr1 := (HB6.out.block (w.heap.size + 1) (by omega)).trans H1.out
    have HR1 := Lib.hid hr1
    have HH6 := Lib.hid hh6
    clear hh hb5 ho5 hr1 hh6 HGx HX
    go_upto_region 4 with fail
    generalize w5.setCell ⟨b, 1, none⟩ (.string (strOf g)) = w6 at *
    have hr1 := HR1.out
    have hh6 := HH6.out
    have z6 := fun i => unfrozen hr1 i
    have d0 : w6.cell? ⟨b, 0, none⟩ = some (.string (strOf f)) := by rw [cell_at hh6]; rfl
    have d1 : w6.cell? ⟨b, 1, none⟩ = some (.string (strOf g)) := by rw [cell_at hh6]; rfl
    have d2 : w6.cell? ⟨b, 2, none⟩ = some (.bool true) := by rw [cell_at hh6]; rfl
    have r0 : w6.cell? ⟨w.heap.size + 1, 0, none⟩ = some (.string ⟨#[]⟩) := by rw [cell_at hr1]; rfl
    have r1 : w6.cell? ⟨w.heap.size + 1, 1, none⟩ = some (.string ⟨#[]⟩) := by rw [cell_at hr1]; rfl
    have r2 : w6.cell? ⟨w.heap.size + 1, 2, none⟩ = some (.bool false) := by rw [cell_at hr1]; rfl
    have HS := Lib.hid (set3_at hr1 (.string (strOf f)) (.string (strOf g)) (.bool true))
    have HBX := Lib.hid (set3_below (HB1.out.trans (HB6.out.mono (by omega))) (show w.heap.size ≤ w.heap.size + 1 by omega) (.string (strOf f)) (.string (strOf g)) (.bool true))
    clear hr1 hh6 c0 c1 k1 k2 k3 z5 hst
    go_wp2_with fail
    have q0 : (set3 w6 (w.heap.size + 1) (.string (strOf f)) (.string (strOf g)) (.bool true)).cell? ⟨w.heap.size + 1, 0, none⟩ = some (.string (strOf f)) := by rw [cell_at HS.out]; rfl
    have q1 : (set3 w6 (w.heap.size + 1) (.string (strOf f)) (.string (strOf g)) (.bool true)).cell? ⟨w.heap.size + 1, 1, none⟩ = some (.string (strOf g)) := by rw [cell_at HS.out]; rfl
    have q2 : (set3 w6 (w.heap.size + 1) (.string (strOf f)) (.string (strOf g)) (.bool true)).cell? ⟨w.heap.size + 1, 2, none⟩ = some (.bool true) := by rw [cell_at HS.out]; rfl
    unfold set3 at q0 q1 q2
    exact bodyPost_ret (v := .agg #[.string (strOf f), .string (strOf g), .bool true]) (by simp [results, Tryz.results22, go_sem, q0, q1, q2]) rfl ⟨rfl, HBX.out⟩

end Go.Proofs.YtkgakgceamafcaaGreat

namespace Go.Proofs.YtkgakgceamafcaaGreat
open Go
set_option linter.unusedVariables false

theorem fieldsP_mem (l : List UInt8) : ∀ n i, l.length - i = n → i ≤ l.length → ∀ f ∈ (fieldsP l i).1, ∃ p, p ≤ l.length ∧ f = fieldP l p
  | n, i, hn, hi, f, hf => by
    obtain ⟨a, b, c, _⟩ := fieldP_spec hi
    by_cases h : (fieldP l i).to_ < l.length ∧ lb l (fieldP l i).to_ = 44
    · rw [fieldsP_more hi h.1 h.2] at hf
      rcases List.mem_cons.1 hf with rfl | hf
      · exact ⟨i, hi, rfl⟩
      · exact fieldsP_mem l (l.length - ((fieldP l i).to_ + 1)) ((fieldP l i).to_ + 1) rfl (by omega) f hf
    · rw [fieldsP_last h] at hf
      obtain rfl := List.mem_singleton.1 hf
      exact ⟨i, hi, rfl⟩
termination_by n => n
decreasing_by omega
theorem allP_mem (l : List UInt8) : ∀ n i, l.length - i = n → ∀ R ∈ allP l i, ∃ k, k < l.length ∧ R = rowP l k
  | n, i, hn, R, hR => by
    rcases Nat.lt_or_ge i l.length with h | h
    · rw [allP_more h] at hR
      have h2 := rowP_next h
      rcases List.mem_cons.1 hR with rfl | hR
      · exact ⟨i, h, rfl⟩
      · exact allP_mem l (l.length - (rowP l i).next) (rowP l i).next rfl R hR
    · rw [allP_end h] at hR; cases hR
termination_by n => n
decreasing_by omega
/-- The fields of a file's rows. -/
theorem row_fields {l : List UInt8} {R : Rw} (hR : R ∈ allP l 0) : R.fs.length ≤ l.length + 1 ∧ ∀ f ∈ R.fs, (∀ x ∈ f.pl, 0 ≤ x ∧ x < l.length) ∧ f.pl.length ≤ l.length := by
  obtain ⟨k, hk, rfl⟩ := allP_mem l _ 0 rfl R hR
  refine ⟨?_, fun f hf => ?_⟩
  · have := (fieldsP_spec l _ k rfl (by omega)).2.2.2.2
    show (fieldsP l k).1.length ≤ _
    omega
  · obtain ⟨p, hp, rfl⟩ := fieldsP_mem l _ k rfl (by omega) f hf
    obtain ⟨h1, h2, _, _, h5, h6⟩ := fieldP_spec hp
    exact ⟨fun x hx => by have := h5 x hx; omega, by omega⟩

theorem allP_cnt (l : List UInt8) : ∀ n k, l.length - k = n → (allP l k).length ≤ l.length - k
  | n, k, hn => by
    rcases Nat.lt_or_ge k l.length with h | h
    · have h2 := rowP_next h
      have := allP_cnt l (l.length - (rowP l k).next) (rowP l k).next rfl
      rw [allP_more h, List.length_cons]; omega
    · rw [allP_end h]; simp
termination_by n => n
decreasing_by omega

theorem row_fields2 {l : List UInt8} {R : Rw} (hR : R ∈ allP l 0) : ∀ f ∈ R.fs, f.from_ ≤ f.to_ ∧ f.to_ ≤ l.length := by
  obtain ⟨k, hk, rfl⟩ := allP_mem l _ 0 rfl R hR
  intro f hf
  obtain ⟨p, hp, rfl⟩ := fieldsP_mem l _ k rfl (by omega) f hf
  obtain ⟨h1, h2, _⟩ := fieldP_spec hp
  rw [fieldP_from]
  exact ⟨h1, h2⟩

end Go.Proofs.YtkgakgceamafcaaGreat

namespace Go.Proofs.YtkgakgceamafcaaGreat
open Go Go.RowKit
set_option linter.unusedVariables false

theorem TxB.grown {B B' : Nat} {w w' : World} {v : Value} {t : List Int} {e : TypeId} {sz n : Nat} {v' : Value} {xs : List Value} (h : TxB B w v t) (ho : w.ownsRow B' e sz v' n xs) (he : e ≠ 59) (hg : w.grownBy w' v'.ownBlock) : TxB B w' v t := by
  obtain ⟨a, c, h1, h2, h3, h4, h5, h6⟩ := h
  have hk : ∀ d, a = some d → w'.heap[d.block]? = w.heap[d.block]? := fun d hd => by
    obtain ⟨cs, h7⟩ := h6 d hd
    exact hg.block d.block (lt_of_heap h7) (fun e' => own_ne ho h7 he e'.symm)
  refine ⟨a, c, h1, ⟨h2.1, fun hn => ?_⟩, h3, h4, h5, fun d hd => ?_⟩
  · obtain ⟨g, off, rfl, hlt, hx⟩ := h2.2 hn
    refine ⟨g, off, rfl, Nat.lt_of_lt_of_le hlt hg.size, fun j x hj => ?_⟩
    rw [World.cell?_of_block (w := w) (w' := w') (a := ⟨g, off + j, none⟩) (hk ⟨g, off, none⟩ rfl)]
    exact hx j x hj
  · obtain ⟨cs, h7⟩ := h6 d hd; exact ⟨cs, (hk d hd).trans h7⟩

/-- A cell in memory: where its text's spans lie, its raw bytes' span, whether it is kept; its text's places. -/
structure CelM where
  a : Option Addr
  n : Nat
  c : Nat
  x : Int
  y : Int
  k : Bool
  t : List Int
def ceC1 (p : CelM) : List Value := [.slice p.a p.n p.c, .int .i64 p.x, .int .i64 p.y, .bool p.k]
/-- The cells of cells. -/
def ceC (ps : List CelM) : List Value := ps.flatMap ceC1
theorem ceC_snoc (ps : List CelM) (p : CelM) : ceC (ps ++ [p]) = ceC ps ++ ceC1 p := by unfold ceC; simp
theorem ceC_len : ∀ ps : List CelM, (ceC ps).length = ps.length * 4
  | [] => rfl
  | p :: ps => by
    have := ceC_len ps
    have e : ceC (p :: ps) = ceC1 p ++ ceC ps := by unfold ceC; simp
    rw [e, List.length_append, this, List.length_cons]; show 4 + _ = _; omega
theorem ceC_at : ∀ (ps : List CelM) (k : Nat) (p : CelM) (j : Nat), ps[k]? = some p → j < 4 → (ceC ps)[k * 4 + j]? = (ceC1 p)[j]?
  | [], k, p, j, h, _ => by simp at h
  | q :: ps, 0, p, j, h, hj => by
    obtain rfl : q = p := by simpa using h
    have e : ceC (q :: ps) = ceC1 q ++ ceC ps := by unfold ceC; simp
    rw [e, List.getElem?_append_left (by show _ < 4; omega)]; simp
  | q :: ps, k + 1, p, j, h, hj => by
    have e : ceC (q :: ps) = ceC1 q ++ ceC ps := by unfold ceC; simp
    rw [e, List.getElem?_append_right (by show 4 ≤ _; omega)]
    have := ceC_at ps k p j (by simpa using h) hj
    rw [← this]; congr 1; show (k + 1) * 4 + j - 4 = _; omega
/-- A cell's text lies in memory, and within the arena. -/
structure CeIn (w : World) (B : Nat) (l : List UInt8) (p : CelM) : Prop where
  tx : TxB B w (.slice p.a p.n p.c) p.t
  inl : InL l p.t
theorem CeIn.below {w w' : World} {B : Nat} {l : List UInt8} {p : CelM} (h : CeIn w B l p) (hb : Below w.heap.size w w') : CeIn w' B l p := ⟨h.tx.below hb, h.inl⟩
theorem CeIn.mono {w : World} {B B' : Nat} {l : List UInt8} {p : CelM} (h : CeIn w B' l p) (hB : B ≤ B') : CeIn w B l p := ⟨h.tx.mono hB, h.inl⟩
theorem CeIn.grown {w w' : World} {B B' sz n : Nat} {e : TypeId} {v : Value} {xs : List Value} {l : List UInt8} {p : CelM} (h : CeIn w B l p) (ho : w.ownsRow B' e sz v n xs) (he : e ≠ 59) (hg : w.grownBy w' v.ownBlock) : CeIn w' B l p := ⟨h.tx.grown ho he hg, h.inl⟩
def CesIn (w : World) (B : Nat) (l : List UInt8) (ps : List CelM) : Prop := ∀ p ∈ ps, CeIn w B l p
theorem CesIn.below {w w' : World} {B : Nat} {l : List UInt8} {ps : List CelM} (h : CesIn w B l ps) (hb : Below w.heap.size w w') : CesIn w' B l ps := fun p hp => (h p hp).below hb
theorem CesIn.grown {w w' : World} {B B' sz n : Nat} {e : TypeId} {v : Value} {xs : List Value} {l : List UInt8} {ps : List CelM} (h : CesIn w B l ps) (ho : w.ownsRow B' e sz v n xs) (he : e ≠ 59) (hg : w.grownBy w' v.ownBlock) : CesIn w' B l ps := fun p hp => (h p hp).grown ho he hg
theorem CesIn.snoc {w : World} {B : Nat} {l : List UInt8} {ps : List CelM} {p : CelM} (h : CesIn w B l ps) (hp : CeIn w B l p) : CesIn w B l (ps ++ [p]) := by
  intro q hq
  rcases List.mem_append.1 hq with hq | hq
  · exact h q hq
  · obtain rfl := List.mem_singleton.1 hq; exact hp
theorem info_cell : (Tryz.prog.info? 61).map (fun i => (i.zero, i.size, i.bytes)) = some (some (.agg #[.slice none 0 0, .int .i64 0, .int .i64 0, .bool false]), 4, 48) := by kernel_rfl

/-- A cell's raw bytes as the document has them. -/
def rawP (l : List UInt8) (p : CelM) : ByteArray := if p.k = true then strOf (subL l p.x p.y) else ⟨#[]⟩
/-- A cell as the document's. -/
def plC (l : List UInt8) (p : CelM) : List Value := [.string (strOf (atL l p.t)), .string (rawP l p), .bool p.k]
/-- Are two cells the same? -/
def sameP (l : List UInt8) (p q : CelM) : Bool := decide (strOf (atL l p.t) = strOf (atL l q.t) ∧ rawP l p = rawP l q ∧ p.k = q.k)
theorem strOf_eq {a b : List UInt8} (h : strOf a = strOf b) : a = b := by
  have := congrArg (fun s : ByteArray => s.data.toList) h
  simpa [strOf] using this
theorem sameP_self (l : List UInt8) (p : CelM) : sameP l p p = true := by unfold sameP; simp

theorem cplain_of {w : World} {B B' p : Nat} {l : List UInt8} {m : CelM} (h : Ar w B p l) (hl : l.length ≤ 16384) (hm : CeIn w B' l m) :
    Calls Tryz.prog 22 #[.pointer (some ⟨p, 0, none⟩), .agg #[.slice m.a m.n m.c, .int .i64 m.x, .int .i64 m.y, .bool m.k]] w fun e w' => e = .returned (.agg #[.string (strOf (atL l m.t)), .string (rawP l m), .bool m.k]) ∧ Below w.heap.size w w' := by
  obtain ⟨a, n, c, x, y, k, t⟩ := m
  cases k with
  | false => exact cplain_text x y h hl hm.tx.tx hm.inl
  | true => exact cplain_kept x y h hl hm.tx.tx hm.inl
theorem toList_iff (a b : ByteArray) : a.toList = b.toList ↔ a = b := by
  rw [ByteArray.toList_eq, ByteArray.toList_eq]
  exact ⟨fun h => ByteArray.ext (Array.toList_inj.1 h), fun h => by rw [h]⟩
theorem eq_plain (w : World) (a0 a1 b0 b1 : ByteArray) (ka kb : Bool) : Sem.run Tryz.prog (binOp .eql 51 (.agg #[.string a0, .string a1, .bool ka]) (.agg #[.string b0, .string b1, .bool kb])) w = .ok (.bool (decide (a0 = b0 ∧ a1 = b1 ∧ ka = kb))) w := by
  have u9 := Tryz.underlying9
  have a9 := Tryz.isAgg9
  have z9 := Tryz.sizeOf9
  have u4 := Tryz.underlying4
  have a4 := Tryz.isAgg4
  have z4 := Tryz.sizeOf4
  have hS : Tryz.prog.underlying 51 = some (.struct (Tryz.prog.fieldsOf 51)) := by kernel_rfl
  have hp : Tryz.prog.stoodInHeld 51 = false := by kernel_rfl
  rw [run_eql_struct, show (10000 : Nat) = 9999 + 1 from rfl, run_equalIn_agg w 9999 51 _ _ hS hp]
  simp only [Program.fieldsOf, Tryz.underlying51]
  go_simp
  by_cases h1 : a0 = b0 <;> by_cases h2 : a1 = b1 <;> by_cases h3 : ka = kb <;> simp [h1, h2, h3, toList_iff]

end Go.Proofs.YtkgakgceamafcaaGreat

namespace Go.Proofs.YtkgakgceamafcaaGreat
open Go Go.RowKit
set_option linter.unusedVariables false

abbrev rowV (a : Option Addr) (n c : Nat) (e : Int) (h : Bool) : Value := .agg #[.slice a n c, .int .i64 e, .bool h]
/-- Cells to be read. -/
structure RoIn (w : World) (l : List UInt8) (a : Option Addr) (ps : List CelM) : Prop where
  rd : Rd w 4 a ps.length (ceC ps)
  ces : CesIn w 0 l ps
  ty : ∀ d, a = some d → ∃ cs, w.heap[d.block]? = some (.cells cs 61 (0, 0))
theorem RoIn.below {w w' : World} {l : List UInt8} {a : Option Addr} {ps : List CelM} (h : RoIn w l a ps) (hb : Below w.heap.size w w') : RoIn w' l a ps :=
  ⟨h.rd.below hb, h.ces.below hb, fun d hd => by obtain ⟨cs, hc⟩ := h.ty d hd; exact ⟨cs, (hb.block _ (lt_of_heap hc)).trans hc⟩⟩
theorem TxB.setT {B b o : Nat} {w : World} {v u : Value} {t : List Int} {cs : Array Value} {T : TypeId} {fr : Nat × Nat} (h : TxB B w v t) (hb : w.heap[b]? = some (.cells cs T fr)) (hT : T ≠ 59) : TxB B (w.setCell ⟨b, o, none⟩ u) v t := by
  obtain ⟨a, c, h1, h2, h3, h4, h5, h6⟩ := h
  have hne : ∀ d, a = some d → d.block ≠ b := fun d hd e => by
    obtain ⟨cs', h7⟩ := h6 d hd
    rw [e, hb] at h7; injection h7 with h7; injection h7 with _ h7; exact hT h7
  exact ⟨a, c, h1, h2.set hne, h3, h4, h5, fun d hd => by obtain ⟨cs', h7⟩ := h6 d hd; exact ⟨cs', (heap_set_other (hne d hd)).trans h7⟩⟩
theorem RoIn.setT {w : World} {l : List UInt8} {a : Option Addr} {ps : List CelM} {b o : Nat} {u : Value} {cs : Array Value} {T : TypeId} {fr : Nat × Nat} (h : RoIn w l a ps) (hb : w.heap[b]? = some (.cells cs T fr)) (hT : T ≠ 59) (hT2 : T ≠ 61) : RoIn (w.setCell ⟨b, o, none⟩ u) l a ps := by
  have hne : ∀ d, a = some d → d.block ≠ b := fun d hd e => by
    obtain ⟨cs', h7⟩ := h.ty d hd
    rw [e, hb] at h7; injection h7 with h7; injection h7 with _ h7; exact hT2 h7
  exact ⟨h.rd.set hne, fun q hq => ⟨(h.ces q hq).tx.setT hb hT, (h.ces q hq).inl⟩, fun d hd => by obtain ⟨cs', h7⟩ := h.ty d hd; exact ⟨cs', (heap_set_other (hne d hd)).trans h7⟩⟩
theorem RoIn.set3 {w : World} {l : List UInt8} {a : Option Addr} {ps : List CelM} {b : Nat} {u0 u1 u2 x0 x1 x2 : Value} {T : TypeId} (h : RoIn w l a ps) (hb : w.heap[b]? = some (.cells #[x0, x1, x2] T (0, 0))) (hT : T ≠ 59) (hT2 : T ≠ 61) : RoIn (set3 w b u0 u1 u2) l a ps := by
  unfold Go.Proofs.YtkgakgceamafcaaGreat.set3
  exact ((h.setT hb hT hT2).setT (heap_set_at hb) hT hT2).setT (heap_set_at (heap_set_at hb)) hT hT2
/-- Cells of one's own are to be read. -/
theorem own_ro {w : World} {B c : Nat} {l : List UInt8} {a : Option Addr} {ps : List CelM} (h : w.ownsRow B 61 4 (.slice a ps.length c) ps.length (ceC ps)) (hi : CesIn w 0 l ps) : RoIn w l a ps :=
  ⟨own_rd h, hi, fun d hd => by subst hd; exact own_cellsAt h⟩
theorem rd_cell {w : World} {a : Option Addr} {ps : List CelM} (h : Rd w 4 a ps.length (ceC ps)) {k : Nat} (hk : k < ps.length) :
    ∃ g o, a = some ⟨g, o, none⟩ ∧ g < w.heap.size ∧ w.cell? ⟨g, o + k * 4, none⟩ = some (.slice ps[k].a ps[k].n ps[k].c) ∧ w.cell? ⟨g, o + k * 4 + 1, none⟩ = some (.int .i64 ps[k].x) ∧ w.cell? ⟨g, o + k * 4 + 2, none⟩ = some (.int .i64 ps[k].y) ∧ w.cell? ⟨g, o + k * 4 + 3, none⟩ = some (.bool ps[k].k) := by
  obtain ⟨g, o, e, hg, hc⟩ := h.2 (by omega)
  have hh := fun (j : Nat) (u : Value) (hj : j < 4) (hu : (ceC1 ps[k])[j]? = some u) => hc (k * 4 + j) u ((ceC_at ps k ps[k] j (List.getElem?_eq_getElem hk) hj).trans hu)
  have h0 := hh 0 _ (by omega) rfl
  have h1 := hh 1 _ (by omega) rfl
  have h2 := hh 2 _ (by omega) rfl
  have h3 := hh 3 _ (by omega) rfl
  exact ⟨g, o, e, hg, h0, by rw [Nat.add_assoc]; exact h1, by rw [Nat.add_assoc]; exact h2, by rw [Nat.add_assoc]; exact h3⟩

set_option maxRecDepth 100000 in
set_option maxHeartbeats 2000000 in
theorem rwith_of {w : World} (a : Option Addr) (n c : Nat) (e : Int) (h : Bool) (a' : Option Addr) (n' c' : Nat) :
    Calls Tryz.prog 157 #[rowV a n c e h, .slice a' n' c'] w fun e' w' => e' = .returned (rowV a' n' c' e h) ∧ Below w.heap.size w w' := by
  obtain ⟨w1, hw1⟩ : ∃ w1, w1 = allocs w [Obj.cells #[Value.slice a n c, Value.int .i64 e, Value.bool h] 103, Obj.cells #[Value.slice none 0 0, Value.int .i64 0, Value.bool false] 103] := ⟨_, rfl⟩
  have HB1 : Hid (Below w.heap.size w w1) := by rw [hw1]; exact Lib.hid (allocs_below _ w)
  have hzw : w1.heap.size > w.heap.size + 1 := by rw [hw1, allocs_size]; simp
  have h0 : w1.heap[w.heap.size]? = some (.cells #[Value.slice a n c, Value.int .i64 e, Value.bool h] 103 (0, 0)) := by rw [hw1]; exact allocs_at _ w 0 _ rfl
  have HH1 : Hid (w1.heap[w.heap.size + 1]? = some (.cells #[Value.slice none 0 0, Value.int .i64 0, Value.bool false] 103 (0, 0))) := by rw [hw1]; exact Lib.hid (allocs_at _ w 1 _ rfl)
  have z0 := fun i => unfrozen h0 i
  have k0 : w1.cell? ⟨w.heap.size, 0, none⟩ = some (Value.slice a n c) := by rw [cell_at h0]; rfl
  have k1 : w1.cell? ⟨w.heap.size, 1, none⟩ = some (.int .i64 e) := by rw [cell_at h0]; rfl
  have k2 : w1.cell? ⟨w.heap.size, 2, none⟩ = some (.bool h) := by rw [cell_at h0]; rfl
  have H0 := Lib.hid h0
  clear h0
  go_enter Tryz.func157, Tryz.ntmps157
  go_upto_region 1 with fail
  rw [show (w.alloc (Obj.cells #[Value.slice a n c, Value.int .i64 e, Value.bool h] 103)).alloc (Obj.cells #[Value.slice none 0 0, Value.int .i64 0, Value.bool false] 103) = w1 from hw1.symm]
  clear hw1
  go_upto_region 2 with fail
  have h2 := heap_set_at (o := 0) (u := .slice a' n' c') H0.out
  have hh := (heap_set_other (w := w1) (o := 0) (u := .slice a' n' c') (show w.heap.size + 1 ≠ w.heap.size by omega)).trans HH1.out
  have HB2 := Lib.hid (HB1.out.setCell (p := ⟨w.heap.size, 0, none⟩) (Nat.le_refl _) (.slice a' n' c'))
  generalize w1.setCell ⟨w.heap.size, 0, none⟩ (.slice a' n' c') = w2 at *
  have j0 : w2.cell? ⟨w.heap.size, 0, none⟩ = some (.slice a' n' c') := by rw [cell_at h2]; rfl
  have j1 : w2.cell? ⟨w.heap.size, 1, none⟩ = some (.int .i64 e) := by rw [cell_at h2]; rfl
  have j2 : w2.cell? ⟨w.heap.size, 2, none⟩ = some (.bool h) := by rw [cell_at h2]; rfl
  have r0 : w2.cell? ⟨w.heap.size + 1, 0, none⟩ = some (.slice none 0 0) := by rw [cell_at hh]; rfl
  have r1 : w2.cell? ⟨w.heap.size + 1, 1, none⟩ = some (.int .i64 0) := by rw [cell_at hh]; rfl
  have r2 : w2.cell? ⟨w.heap.size + 1, 2, none⟩ = some (.bool false) := by rw [cell_at hh]; rfl
  have zz := fun i => unfrozen hh i
  have HH2 := Lib.hid hh
  clear h2 hh k0 k1 k2 z0
  go_wp2_with fail
  have hs := set3_at HH2.out (.slice a' n' c') (.int .i64 e) (.bool h)
  have hB := set3_below HB2.out (show w.heap.size ≤ w.heap.size + 1 by omega) (.slice a' n' c') (.int .i64 e) (.bool h)
  have q0 : (set3 w2 (w.heap.size + 1) (.slice a' n' c') (.int .i64 e) (.bool h)).cell? ⟨w.heap.size + 1, 0, none⟩ = some (.slice a' n' c') := by rw [cell_at hs]; rfl
  have q1 : (set3 w2 (w.heap.size + 1) (.slice a' n' c') (.int .i64 e) (.bool h)).cell? ⟨w.heap.size + 1, 1, none⟩ = some (.int .i64 e) := by rw [cell_at hs]; rfl
  have q2 : (set3 w2 (w.heap.size + 1) (.slice a' n' c') (.int .i64 e) (.bool h)).cell? ⟨w.heap.size + 1, 2, none⟩ = some (.bool h) := by rw [cell_at hs]; rfl
  unfold set3 at hB q0 q1 q2
  exact bodyPost_ret (v := rowV a' n' c' e h) (by simp [results, Tryz.results157, go_sem, q0, q1, q2]) rfl ⟨rfl, hB⟩

set_option maxRecDepth 100000 in
set_option maxHeartbeats 2000000 in
theorem rhide_of {w : World} (a : Option Addr) (n c : Nat) (e : Int) (h : Bool) (h' : Bool) :
    Calls Tryz.prog 80 #[rowV a n c e h, .bool h'] w fun e' w' => e' = .returned (rowV a n c e h') ∧ Below w.heap.size w w' := by
  obtain ⟨w1, hw1⟩ : ∃ w1, w1 = allocs w [Obj.cells #[Value.slice a n c, Value.int .i64 e, Value.bool h] 103, Obj.cells #[Value.slice none 0 0, Value.int .i64 0, Value.bool false] 103] := ⟨_, rfl⟩
  have HB1 : Hid (Below w.heap.size w w1) := by rw [hw1]; exact Lib.hid (allocs_below _ w)
  have hzw : w1.heap.size > w.heap.size + 1 := by rw [hw1, allocs_size]; simp
  have h0 : w1.heap[w.heap.size]? = some (.cells #[Value.slice a n c, Value.int .i64 e, Value.bool h] 103 (0, 0)) := by rw [hw1]; exact allocs_at _ w 0 _ rfl
  have HH1 : Hid (w1.heap[w.heap.size + 1]? = some (.cells #[Value.slice none 0 0, Value.int .i64 0, Value.bool false] 103 (0, 0))) := by rw [hw1]; exact Lib.hid (allocs_at _ w 1 _ rfl)
  have z0 := fun i => unfrozen h0 i
  have k0 : w1.cell? ⟨w.heap.size, 0, none⟩ = some (Value.slice a n c) := by rw [cell_at h0]; rfl
  have k1 : w1.cell? ⟨w.heap.size, 1, none⟩ = some (.int .i64 e) := by rw [cell_at h0]; rfl
  have k2 : w1.cell? ⟨w.heap.size, 2, none⟩ = some (.bool h) := by rw [cell_at h0]; rfl
  have H0 := Lib.hid h0
  clear h0
  go_enter Tryz.func80, Tryz.ntmps80
  go_upto_region 1 with fail
  rw [show (w.alloc (Obj.cells #[Value.slice a n c, Value.int .i64 e, Value.bool h] 103)).alloc (Obj.cells #[Value.slice none 0 0, Value.int .i64 0, Value.bool false] 103) = w1 from hw1.symm]
  clear hw1
  go_upto_region 2 with fail
  have h2 := heap_set_at (o := 2) (u := .bool h') H0.out
  have hh := (heap_set_other (w := w1) (o := 2) (u := .bool h') (show w.heap.size + 1 ≠ w.heap.size by omega)).trans HH1.out
  have HB2 := Lib.hid (HB1.out.setCell (p := ⟨w.heap.size, 2, none⟩) (Nat.le_refl _) (.bool h'))
  generalize w1.setCell ⟨w.heap.size, 2, none⟩ (.bool h') = w2 at *
  have j0 : w2.cell? ⟨w.heap.size, 0, none⟩ = some (.slice a n c) := by rw [cell_at h2]; rfl
  have j1 : w2.cell? ⟨w.heap.size, 1, none⟩ = some (.int .i64 e) := by rw [cell_at h2]; rfl
  have j2 : w2.cell? ⟨w.heap.size, 2, none⟩ = some (.bool h') := by rw [cell_at h2]; rfl
  have r0 : w2.cell? ⟨w.heap.size + 1, 0, none⟩ = some (.slice none 0 0) := by rw [cell_at hh]; rfl
  have r1 : w2.cell? ⟨w.heap.size + 1, 1, none⟩ = some (.int .i64 0) := by rw [cell_at hh]; rfl
  have r2 : w2.cell? ⟨w.heap.size + 1, 2, none⟩ = some (.bool false) := by rw [cell_at hh]; rfl
  have zz := fun i => unfrozen hh i
  have HH2 := Lib.hid hh
  clear h2 hh k0 k1 k2 z0
  go_wp2_with fail
  have hs := set3_at HH2.out (.slice a n c) (.int .i64 e) (.bool h')
  have hB := set3_below HB2.out (show w.heap.size ≤ w.heap.size + 1 by omega) (.slice a n c) (.int .i64 e) (.bool h')
  have q0 : (set3 w2 (w.heap.size + 1) (.slice a n c) (.int .i64 e) (.bool h')).cell? ⟨w.heap.size + 1, 0, none⟩ = some (.slice a n c) := by rw [cell_at hs]; rfl
  have q1 : (set3 w2 (w.heap.size + 1) (.slice a n c) (.int .i64 e) (.bool h')).cell? ⟨w.heap.size + 1, 1, none⟩ = some (.int .i64 e) := by rw [cell_at hs]; rfl
  have q2 : (set3 w2 (w.heap.size + 1) (.slice a n c) (.int .i64 e) (.bool h')).cell? ⟨w.heap.size + 1, 2, none⟩ = some (.bool h') := by rw [cell_at hs]; rfl
  unfold set3 at hB q0 q1 q2
  exact bodyPost_ret (v := rowV a n c e h') (by simp [results, Tryz.results80, go_sem, q0, q1, q2]) rfl ⟨rfl, hB⟩

set_option maxRecDepth 100000 in
set_option maxHeartbeats 2000000 in
theorem rlen_of {w : World} (a : Option Addr) (n c : Nat) (e : Int) (h : Bool) :
    Calls Tryz.prog 112 #[rowV a n c e h] w fun e' w' => e' = .returned (.int .i64 n) ∧ Below w.heap.size w w' := by
  have al := below_al w (Obj.cells #[Value.slice a n c, Value.int .i64 e, Value.bool h] 103)
  have k0 : (w.alloc (Obj.cells #[Value.slice a n c, Value.int .i64 e, Value.bool h] 103)).cell? ⟨w.heap.size, 0, none⟩ = some (.slice a n c) := by rw [cell_at (heap_alloc_new w _)]; rfl
  have HB := Lib.hid al
  clear al
  go_enter Tryz.func112, Tryz.ntmps112
  go_wp2_with fail
  go_ret
  exact ⟨rfl, HB.out⟩

set_option maxRecDepth 100000 in
set_option maxHeartbeats 2000000 in
theorem rhas_of {w : World} (a : Option Addr) (n c : Nat) (e : Int) (h : Bool) (i : Int) :
    Calls Tryz.prog 124 #[rowV a n c e h, .int .i64 i] w fun e' w' => e' = .returned (.bool (decide (0 ≤ i ∧ i < n))) ∧ Below w.heap.size w w' := by
  have al := below_al w (Obj.cells #[Value.slice a n c, Value.int .i64 e, Value.bool h] 103)
  have k0 : (w.alloc (Obj.cells #[Value.slice a n c, Value.int .i64 e, Value.bool h] 103)).cell? ⟨w.heap.size, 0, none⟩ = some (.slice a n c) := by rw [cell_at (heap_alloc_new w _)]; rfl
  have HB := Lib.hid al
  clear al
  by_cases h1 : 0 ≤ i
  · have d1 : decide (0 ≤ i) = true := decide_eq_true h1
    by_cases h2 : i < (n : Int)
    · have d2 : decide (i < (n : Int)) = true := decide_eq_true h2
      have HE := Lib.hid (decide_eq_true (p := 0 ≤ i ∧ i < (n : Int)) ⟨h1, h2⟩)
      go_enter Tryz.func124, Tryz.ntmps124
      go_wp2_with fail
      go_ret
      exact ⟨(by rw [HE.out]; rfl), HB.out⟩
    · have d2 : decide (i < (n : Int)) = false := decide_eq_false h2
      have HE := Lib.hid (decide_eq_false (p := 0 ≤ i ∧ i < (n : Int)) (fun hh => h2 hh.2))
      go_enter Tryz.func124, Tryz.ntmps124
      go_wp2_with fail
      go_ret
      exact ⟨rfl, HB.out⟩
  · have d1 : decide (0 ≤ i) = false := decide_eq_false h1
    have HE := Lib.hid (decide_eq_false (p := 0 ≤ i ∧ i < (n : Int)) (fun hh => h1 hh.1))
    go_enter Tryz.func124, Tryz.ntmps124
    go_wp2_with fail
    go_ret
    exact ⟨rfl, HB.out⟩

set_option maxRecDepth 100000 in
set_option maxHeartbeats 2000000 in
theorem ceC_one (ps : List CelM) : ∀ u ∈ ceC ps, u.oneCell' = true := by
  intro u hu
  unfold ceC at hu
  obtain ⟨p, _, hp⟩ := List.mem_flatMap.1 hu
  simp only [ceC1, List.mem_cons, List.not_mem_nil, or_false] at hp
  rcases hp with rfl | rfl | rfl | rfl <;> rfl

set_option maxRecDepth 100000 in
set_option maxHeartbeats 2000000 in
theorem cclone_of {w : World} {a : Option Addr} {c : Nat} {ps : List CelM} (hr : Rd w 4 a ps.length (ceC ps)) (hl : ps.length ≤ 1000000) (hne : 0 < ps.length) :
    Calls Tryz.prog 207 #[.slice a ps.length c] w fun e w' => ∃ v', e = .returned v' ∧ w'.ownsRow w.heap.size 61 4 v' ps.length (ceC ps) ∧ Below w.heap.size w w' := by
  obtain ⟨i0, hi0, hz0, hz1, hz2⟩ := info_parts info_cell
  obtain ⟨g, off, rfl, hg, hc⟩ := hr.2 hne
  have al := below_al w (Obj.cells #[] 61)
  have HR := Lib.hid (fun j u hj => (al.cell (p := ⟨g, off + j, none⟩) hg).trans (hc j u hj))
  have HE := Lib.hid (own_empty (B := w.heap.size) 4 (Nat.le_refl _) (heap_alloc_new w (Obj.cells #[] 61)))
  have HB := Lib.hid al
  have HL := Lib.hid hl
  have HLN := Lib.hid (ceC_len ps)
  have hq : ∀ w, (binOp .eql 46 (.slice (some ⟨g, off, none⟩) ps.length c) (.slice none 0 0)).run Tryz.prog w = .ok (.bool false) w := fun w => Go.Lib.run_eql_slice_nil w _ _ _ _ _ _ _ Tryz.underlying46
  clear hr hl al hc
  go_enter Tryz.func207, Tryz.ntmps207
  go_wp2_with (first
    | (at_builtin; refine wpList_append_own _ rfl (.tmp 5) (.tmp 6) 46 rfl w.heap.size 61 i0 (.agg #[.slice none 0 0, .int .i64 0, .int .i64 0, .bool false]) 4 48 Tryz.underlying46 hi0 hz0 hz1 hz2 rfl (by decide) (.slice (some ⟨w.heap.size, 0, none⟩) 0 0) 0 [] rfl HE.out ⟨g, off, none⟩ ps.length c (ceC ps) rfl HLN.out ?c1 (ceC_one ps) ?c3 ?c4 ?c5 ?_)
    | fail)
  case c1 => intro j u hj; rw [Addr.add_lit]; exact HR.out j u hj
  case c3 => have := HL.out; unfold maxLen; omega
  case c4 => have := HL.out; omega
  case c5 => simp only [World.size_alloc]; omega
  intro v7 wB ho7 hg7 _
  have HO7 := Lib.hid ho7
  have HBB := Lib.hid (HB.out.grown hg7 (by simp only [World.size_alloc]; omega) (fun q hq => (HE.out.lt q hq).1))
  clear ho7 hg7
  go_wp2_with fail
  go_ret
  exact ⟨_, rfl, HO7.out, HBB.out⟩

end Go.Proofs.YtkgakgceamafcaaGreat
