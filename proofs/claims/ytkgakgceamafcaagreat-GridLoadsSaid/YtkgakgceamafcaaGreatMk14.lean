/-
  Texts of this seat, put together (a claim holds few texts): ScG, ScH.
-/
import Derived.Test.YtkgakgceamafcaaGreatMk13
import Derived.Deep.RegionWith

namespace Go.Proofs.YtkgakgceamafcaaGreat
open Go Go.RowKit
set_option linter.unusedVariables false

/-- A field in memory, with where its parts lie. -/
abbrev FdM := Fd × Option Addr × Nat
def fdC1 (p : FdM) : List Value := [.int .i64 p.1.from_, .int .i64 ((p.1.to_ : Int) - p.1.from_), .int .i64 p.1.kind, .slice p.2.1 (canon p.1.pl).length p.2.2]
/-- The cells of fields. -/
def fdC (ps : List FdM) : List Value := ps.flatMap fdC1
theorem fdC_snoc (ps : List FdM) (p : FdM) : fdC (ps ++ [p]) = fdC ps ++ fdC1 p := by unfold fdC; simp
theorem fdC_len : ∀ ps : List FdM, (fdC ps).length = ps.length * 4
  | [] => rfl
  | p :: ps => by
    have := fdC_len ps
    have e : fdC (p :: ps) = fdC1 p ++ fdC ps := by unfold fdC; simp
    rw [e, List.length_append, this, List.length_cons]; show 4 + _ = _; omega
theorem fdC_at : ∀ (ps : List FdM) (k : Nat) (p : FdM) (j : Nat), ps[k]? = some p → j < 4 → (fdC ps)[k * 4 + j]? = (fdC1 p)[j]?
  | [], k, p, j, h, _ => by simp at h
  | q :: ps, 0, p, j, h, hj => by
    obtain rfl : q = p := by simpa using h
    have e : fdC (q :: ps) = fdC1 q ++ fdC ps := by unfold fdC; simp
    rw [e, List.getElem?_append_left (by show _ < 4; omega)]; simp
  | q :: ps, k + 1, p, j, h, hj => by
    have e : fdC (q :: ps) = fdC1 q ++ fdC ps := by unfold fdC; simp
    rw [e, List.getElem?_append_right (by show 4 ≤ _; omega)]
    have := fdC_at ps k p j (by simpa using h) hj
    rw [← this]; congr 1; show (k + 1) * 4 + j - 4 = _; omega
/-- Where the parts of fields lie. -/
def PartsIn (w : World) (B : Nat) (ps : List FdM) : Prop := ∀ p ∈ ps, w.ownsRow B 59 2 (.slice p.2.1 (canon p.1.pl).length p.2.2) (canon p.1.pl).length (spC (canon p.1.pl))
theorem PartsIn.below {w w' : World} {B : Nat} {ps : List FdM} (h : PartsIn w B ps) (hb : Below w.heap.size w w') : PartsIn w' B ps := fun p hp => own_below (h p hp) hb
theorem PartsIn.set {w : World} {B b o : Nat} {u : Value} {cs : Array Value} {t : TypeId} {fr : Nat × Nat} {ps : List FdM} (h : PartsIn w B ps) (hb : w.heap[b]? = some (.cells cs t fr)) (ht : t ≠ 59) : PartsIn (w.setCell ⟨b, o, none⟩ u) B ps := fun p hp => own_set (h p hp) (own_ne (h p hp) hb (fun e => ht e.symm))
theorem PartsIn.grown {w w' : World} {B B' sz n : Nat} {e : TypeId} {v : Value} {xs : List Value} {ps : List FdM} (h : PartsIn w B ps) (ho : w.ownsRow B' e sz v n xs) (he : e ≠ 59) (hg : w.grownBy w' v.ownBlock) : PartsIn w' B ps := fun p hp => own_grown (h p hp) ho (fun e' => he e'.symm) hg
theorem PartsIn.mono {w : World} {B B' : Nat} {ps : List FdM} (h : PartsIn w B' ps) (hB : B ≤ B') : PartsIn w B ps := fun p hp => own_mono (h p hp) hB
theorem PartsIn.snoc {w : World} {B : Nat} {ps : List FdM} {p : FdM} (h : PartsIn w B ps) (hp : w.ownsRow B 59 2 (.slice p.2.1 (canon p.1.pl).length p.2.2) (canon p.1.pl).length (spC (canon p.1.pl))) : PartsIn w B (ps ++ [p]) := by
  intro q hq
  rcases List.mem_append.1 hq with hq | hq
  · exact h q hq
  · obtain rfl := List.mem_singleton.1 hq; exact hp

/-- What a call hands back that tells a row and the place behind it. -/
def RwPost (R : Rw) (w : World) (e : Ending) (w' : World) : Prop :=
  ∃ (ps : List FdM) (a : Option Addr) (c : Nat), e = .returned (.tuple #[.agg #[.slice a ps.length c, .int .i64 R.fin], .int .i64 R.next]) ∧ ps.map (·.1) = R.fs ∧ w'.ownsRow w.heap.size 180 4 (.slice a ps.length c) ps.length (fdC ps) ∧ PartsIn w' w.heap.size ps ∧ Below w.heap.size w w'

/-- What is left behind a field that ends there. -/
def restP (l : List UInt8) (k : Nat) : List Fd × Nat := if k < l.length ∧ lb l k = 44 then fieldsP l (k + 1) else ([], k)
theorem fieldsP_rest {l : List UInt8} {i : Nat} (hi : i ≤ l.length) : fieldsP l i = (fieldP l i :: (restP l (fieldP l i).to_).1, (restP l (fieldP l i).to_).2) := by
  unfold restP
  by_cases h : (fieldP l i).to_ < l.length ∧ lb l (fieldP l i).to_ = 44
  · rw [if_pos h, fieldsP_more hi h.1 h.2]
  · rw [if_neg h, fieldsP_last h]
theorem oneJ_end {l : List UInt8} {i k : Nat} {fs : List Fd} (h : fieldsP l i = (fs ++ (restP l k).1, (restP l k).2)) (hk : ¬ (k < l.length ∧ lb l k = 44)) : (rowP l i).fs = fs ∧ (rowP l i).fin = endP l k ∧ (rowP l i).next = k + markN (endP l k) := by
  unfold restP at h
  rw [if_neg hk, List.append_nil] at h
  unfold rowP
  rw [h]; exact ⟨rfl, rfl, rfl⟩
theorem markS_size (x : Int) : (markS x).size = markN x := by
  unfold markS markN
  split
  · rfl
  · split
    · rfl
    · split <;> rfl
theorem info_field : (Tryz.prog.info? 180).map (fun i => (i.zero, i.size, i.bytes)) = some (some (.agg #[.int .i64 0, .int .i64 0, .int .i64 0, .slice none 0 0]), 4, 48) := by kernel_rfl
theorem own_one {w : World} {B g : Nat} {e : TypeId} {x0 x1 x2 x3 : Value} (hB : B ≤ g) (h : w.heap[g]? = some (.cells #[x0, x1, x2, x3] e (0, 0))) : w.ownsRow B e 4 (.slice (some ⟨g, 0, none⟩) 1 1) 1 [x0, x1, x2, x3] :=
  ⟨rfl, .inr ⟨g, 1, #[x0, x1, x2, x3], rfl, hB, h, Nat.le_refl _, (by unfold maxLen; omega), rfl, rfl⟩⟩

/-- What holds at the head of One's loop. -/
def OneJ (l : List UInt8) (i p6 p7 : Nat) (w w1 : World) (v : Value) (wr : World) : Prop := ∃ (ps : List FdM) (k : Nat) (a : Option Addr) (c : Nat) (x0 x1 x2 x3 : Value), v = .int .i64 k ∧ k ≤ l.length ∧ i ≤ k ∧ ps.length ≤ k + 1 ∧
  fieldsP l i = (ps.map (·.1) ++ (restP l k).1, (restP l k).2) ∧
  wr.heap[p7]? = some (.cells #[.slice a ps.length c, .int .i64 0] 101 (0, 0)) ∧ wr.heap[p6]? = some (.cells #[x0, x1, x2, x3] 180 (0, 0)) ∧
  wr.ownsRow (p6 + 1) 180 4 (.slice a ps.length c) ps.length (fdC ps) ∧ PartsIn wr (w.heap.size + 1) ps ∧ Below (w.heap.size + 1) w1 wr

set_option maxRecDepth 100000 in
set_option maxHeartbeats 8000000 in
theorem one_of {w : World} {b off : Nat} {c : Nat} {l : List UInt8} (hr : Rd w 1 (some ⟨b, off, none⟩) l.length (bc l)) (hbw : b < w.heap.size) (hl : l.length ≤ 1000000) (hlc : l.length ≤ c) (hc : c ≤ maxLen) (i : Nat) (hi : i < l.length) :
    Calls Tryz.prog 98 #[.slice (some ⟨b, off, none⟩) l.length c, .int .i64 i] w (RwPost (rowP l i) w) := by
  obtain ⟨i0, hi0, hz0, hz1, hz2⟩ := info_parts info_field
  have al := below_al w (Obj.cells #[Value.slice none 0 0, Value.int IntKind.i64 0] 101)
  have H4 := Lib.hid (heap_alloc_new w (Obj.cells #[Value.slice none 0 0, Value.int IntKind.i64 0] 101))
  have hzw : (w.alloc (Obj.cells #[Value.slice none 0 0, Value.int IntKind.i64 0] 101)).heap.size = w.heap.size + 1 := by simp
  have HB1 := Lib.hid al
  have HR := Lib.hid (hr.below al)
  have hbw1 : b < (w.alloc (Obj.cells #[Value.slice none 0 0, Value.int IntKind.i64 0] 101)).heap.size := by omega
  have HF := Lib.hid (fun (w' : World) (hb : Below (w.alloc (Obj.cells #[Value.slice none 0 0, Value.int IntKind.i64 0] 101)).heap.size (w.alloc (Obj.cells #[Value.slice none 0 0, Value.int IntKind.i64 0] 101)) w') (k : Nat) (hk : k ≤ l.length) => field_of (c := c) (HR.out.below hb) (Nat.lt_of_lt_of_le hbw1 hb.size) hl hlc hc k hk)
  have hf0 := fieldP_spec (l := l) (i := i) (by omega)
  have HFR := Lib.hid (fieldsP_rest (l := l) (i := i) (by omega))
  have HFF := Lib.hid (fieldP_from l i)
  have d1 : decide ((i : Int) < 0) = false := decide_eq_false (by omega)
  have d2 : decide (l.length ≤ i) = false := decide_eq_false (by omega)
  have hf1 := hf0.1
  have hf2 := hf0.2.1
  clear al hr hf0
  go_enter Tryz.func98, Tryz.ntmps98
  go_upto_region 3 with fail
  generalize w.alloc (Obj.cells #[Value.slice none 0 0, Value.int IntKind.i64 0] 101) = w1 at *
  have HZ := Lib.hid hzw
  clear hzw
  go_wp2_with fail
  refine (HF.out w1 (Below.refl _ _) i (by omega)).mono ?_; rintro e w2 ⟨pa, pc, rfl, ho2, hb2⟩
  have hz2' := hb2.size
  have HO2 := Lib.hid ho2
  have HB2 := Lib.hid hb2
  have H42 := Lib.hid ((hb2.block w.heap.size (by have := HZ.out; omega)).trans H4.out)
  clear ho2 hb2
  generalize fieldP l i = F at *
  unfold fdV
  go_upto_region 4 with fail
  have H6 := Lib.hid (heap_alloc_new w2 (Obj.cells #[Value.int IntKind.i64 F.from_, Value.int IntKind.i64 ((F.to_ : Int) - F.from_), Value.int IntKind.i64 F.kind, Value.slice pa (canon F.pl).length pc] 180))
  have al3 := below_al w2 (Obj.cells #[Value.int IntKind.i64 F.from_, Value.int IntKind.i64 ((F.to_ : Int) - F.from_), Value.int IntKind.i64 F.kind, Value.slice pa (canon F.pl).length pc] 180)
  have HO3 := Lib.hid (own_below HO2.out al3)
  have HB3 := Lib.hid (HB2.out.trans (al3.mono hz2'))
  have hz3 : (w2.alloc (Obj.cells #[Value.int IntKind.i64 F.from_, Value.int IntKind.i64 ((F.to_ : Int) - F.from_), Value.int IntKind.i64 F.kind, Value.slice pa (canon F.pl).length pc] 180)).heap.size = w2.heap.size + 1 := by simp
  have r0 : (w2.alloc (Obj.cells #[Value.int IntKind.i64 F.from_, Value.int IntKind.i64 ((F.to_ : Int) - F.from_), Value.int IntKind.i64 F.kind, Value.slice pa (canon F.pl).length pc] 180)).cell? ⟨w2.heap.size, 0, none⟩ = some (.int .i64 F.from_) := by rw [cell_at H6.out]; rfl
  have r1 : (w2.alloc (Obj.cells #[Value.int IntKind.i64 F.from_, Value.int IntKind.i64 ((F.to_ : Int) - F.from_), Value.int IntKind.i64 F.kind, Value.slice pa (canon F.pl).length pc] 180)).cell? ⟨w2.heap.size, 1, none⟩ = some (.int .i64 ((F.to_ : Int) - F.from_)) := by rw [cell_at H6.out]; rfl
  have r2 : (w2.alloc (Obj.cells #[Value.int IntKind.i64 F.from_, Value.int IntKind.i64 ((F.to_ : Int) - F.from_), Value.int IntKind.i64 F.kind, Value.slice pa (canon F.pl).length pc] 180)).cell? ⟨w2.heap.size, 2, none⟩ = some (.int .i64 F.kind) := by rw [cell_at H6.out]; rfl
  have r3 : (w2.alloc (Obj.cells #[Value.int IntKind.i64 F.from_, Value.int IntKind.i64 ((F.to_ : Int) - F.from_), Value.int IntKind.i64 F.kind, Value.slice pa (canon F.pl).length pc] 180)).cell? ⟨w2.heap.size, 3, none⟩ = some (.slice pa (canon F.pl).length pc) := by rw [cell_at H6.out]; rfl
  clear al3
  generalize w2.alloc (Obj.cells #[Value.int IntKind.i64 F.from_, Value.int IntKind.i64 ((F.to_ : Int) - F.from_), Value.int IntKind.i64 F.kind, Value.slice pa (canon F.pl).length pc] 180) = w3 at *
  have HZ3 := Lib.hid hz3
  clear hz3
  generalize w2.heap.size = p6 at *
  go_upto_region 5 with fail
  have HJ : Hid (OneJ l i p6 (w3.heap.size + 1) w w1 (.int .i64 F.to_) ((w3.alloc (Obj.cells #[Value.int IntKind.i64 F.from_, Value.int IntKind.i64 ((F.to_ : Int) - F.from_), Value.int IntKind.i64 F.kind, Value.slice pa (canon F.pl).length pc] 180)).alloc (Obj.cells #[Value.slice (some ⟨w3.heap.size, 0, none⟩) 1 1, Value.int IntKind.i64 0] 101))) := by
    have hz := HZ3.out
    have hw1 := HZ.out
    have e7 := heap_alloc_new (w3.alloc (Obj.cells #[Value.int IntKind.i64 F.from_, Value.int IntKind.i64 ((F.to_ : Int) - F.from_), Value.int IntKind.i64 F.kind, Value.slice pa (canon F.pl).length pc] 180)) (Obj.cells #[Value.slice (some ⟨w3.heap.size, 0, none⟩) 1 1, Value.int IntKind.i64 0] 101)
    rw [World.size_alloc] at e7
    have e70 := heap_mid w3 (Obj.cells #[Value.int IntKind.i64 F.from_, Value.int IntKind.i64 ((F.to_ : Int) - F.from_), Value.int IntKind.i64 F.kind, Value.slice pa (canon F.pl).length pc] 180) (Obj.cells #[Value.slice (some ⟨w3.heap.size, 0, none⟩) 1 1, Value.int IntKind.i64 0] 101)
    have hbb : Below w3.heap.size w3 ((w3.alloc (Obj.cells #[Value.int IntKind.i64 F.from_, Value.int IntKind.i64 ((F.to_ : Int) - F.from_), Value.int IntKind.i64 F.kind, Value.slice pa (canon F.pl).length pc] 180)).alloc (Obj.cells #[Value.slice (some ⟨w3.heap.size, 0, none⟩) 1 1, Value.int IntKind.i64 0] 101)) := (below_al w3 _).alloc (by simp only [World.size_alloc]; omega) _
    refine ⟨[(F, pa, pc)], F.to_, _, _, _, _, _, _, rfl, hf2, hf1, by simp, ?_, e7, (hbb.block p6 (by omega)).trans H6.out, own_one (by omega) e70, ?_, ?_⟩
    · rw [HFR.out]; rfl
    · intro q hq
      obtain rfl := List.mem_singleton.1 hq
      rw [← hw1]
      exact own_below HO3.out hbb
    · rw [← hw1]
      exact HB3.out.trans (hbb.mono (by omega))
  have hz37 : p6 < w3.heap.size + 1 := by have := HZ3.out; omega
  have hz17 : w.heap.size < p6 := by have := HZ.out; omega
  have hzW := HB1.out.size
  generalize ((w3.alloc (Obj.cells #[Value.int IntKind.i64 F.from_, Value.int IntKind.i64 ((F.to_ : Int) - F.from_), Value.int IntKind.i64 F.kind, Value.slice pa (canon F.pl).length pc] 180)).alloc (Obj.cells #[Value.slice (some ⟨w3.heap.size, 0, none⟩) 1 1, Value.int IntKind.i64 0] 101)) = w5 at *
  have HH4 := H4
  clear r0 r1 r2 r3 H6 HO3 HB3 HB2 HO2 H42 HFR HFF hf1 hf2 HZ3 hz2'
  generalize w3.heap.size + 1 = p7 at *
  have hzh1 : w1.heap.size ≤ w.heap.size + 1 := by rw [HZ.out]; exact Nat.le_refl _
  go_loopw [1] (fun v wr => OneJ l i p6 p7 w w1 v wr) (fun v _ => l.length + 1 - (intOf v).toNat)
  case atStart => exact HJ.out
  case round =>
    obtain ⟨ps, k, a7, c7, x0, x1, x2, x3, rfl, hkn, hik, hpk, hJf', h7, h6, ho, hpi, hbb⟩ := hrel
    have hJf := Lib.hid hJf'
    have H7 := Lib.hid h7
    have H6 := Lib.hid h6
    have HO := Lib.hid ho
    have HPI := Lib.hid hpi
    clear hJf' h7 h6 ho hpi HJ
    by_cases hlt : k < l.length
    · have dk : decide (k < l.length) = true := decide_eq_true hlt
      obtain ⟨b', off', e', _, hcl⟩ := rd_at (HR.out.below (hbb.mono hzh1)) hlt
      obtain ⟨rfl, rfl⟩ : b = b' ∧ off = off' := by simpa using e'
      by_cases h44 : lb l k = 44
      · have hrest : (restP l k) = fieldsP l (k + 1) := by unfold restP; rw [if_pos ⟨hlt, h44⟩]
        have HRS := Lib.hid hrest
        rw [h44] at hcl
        have HFk := Lib.hid (HF.out wr (hbb.mono hzh1) (k + 1) (by omega))
        have HFR := Lib.hid (fieldsP_rest (l := l) (i := k + 1) (by omega))
        have hf0 := fieldP_spec (l := l) (i := k + 1) (by omega)
        have hf1 := hf0.1
        have hf2 := hf0.2.1
        have hkk : ((k + 1 : Nat) : Int) = (k : Int) + 1 := by omega
        rw [hkk] at HFk
        clear hrest h44 hf0 hkk e'
        generalize fieldP l (k + 1) = G at *
        have HBB := Lib.hid hbb
        have hzr := hbb.size
        clear hbb
        go_wp2_with fail
        refine HFk.out.mono ?_; rintro e wx ⟨pa, pc, rfl, ho2, hb2⟩
        have hp6 := lt_of_heap H6.out
        have hp7 := lt_of_heap H7.out
        have hzx := hb2.size
        have H6x := Lib.hid ((hb2.block p6 hp6).trans H6.out)
        have H7x := Lib.hid ((hb2.block p7 hp7).trans H7.out)
        have HOx := Lib.hid (own_below HO.out hb2)
        have HPx := Lib.hid (HPI.out.below hb2)
        have HOp := Lib.hid ho2
        have HBx := Lib.hid (HBB.out.trans (hb2.mono (by have := HZ.out; omega)))
        clear ho2 hb2 H6 H7 HO HPI HBB hcl HFk
        have y0 : wx.cell? ⟨p6, 0, none⟩ = some x0 := by rw [cell_at H6x.out]; rfl
        have y1 : wx.cell? ⟨p6, 1, none⟩ = some x1 := by rw [cell_at H6x.out]; rfl
        have y2 : wx.cell? ⟨p6, 2, none⟩ = some x2 := by rw [cell_at H6x.out]; rfl
        have y3 : wx.cell? ⟨p6, 3, none⟩ = some x3 := by rw [cell_at H6x.out]; rfl
        have z0 := unfrozen H6x.out 0
        have z1 := unfrozen H6x.out 1
        have z2 := unfrozen H6x.out 2
        have z3 := unfrozen H6x.out 3
        unfold fdV
        go_upto_region 7 with fail
        have H6y : Hid (((((wx.setCell ⟨p6, 0, none⟩ (.int .i64 G.from_)).setCell ⟨p6, 1, none⟩ (.int .i64 ((G.to_ : Int) - G.from_))).setCell ⟨p6, 2, none⟩ (.int .i64 G.kind)).setCell ⟨p6, 3, none⟩ (.slice pa (canon G.pl).length pc)).heap[p6]? = some (.cells #[.int .i64 G.from_, .int .i64 ((G.to_ : Int) - G.from_), .int .i64 G.kind, .slice pa (canon G.pl).length pc] 180 (0, 0))) := four_at H6x.out _ _ _ _
        have H7y : Hid (((((wx.setCell ⟨p6, 0, none⟩ (.int .i64 G.from_)).setCell ⟨p6, 1, none⟩ (.int .i64 ((G.to_ : Int) - G.from_))).setCell ⟨p6, 2, none⟩ (.int .i64 G.kind)).setCell ⟨p6, 3, none⟩ (.slice pa (canon G.pl).length pc)).heap[p7]? = some (.cells #[.slice a7 ps.length c7, .int .i64 0] 101 (0, 0))) := (heap_set_other (by omega)).trans ((heap_set_other (by omega)).trans ((heap_set_other (by omega)).trans ((heap_set_other (by omega)).trans H7x.out)))
        have HOy : Hid (((((wx.setCell ⟨p6, 0, none⟩ (.int .i64 G.from_)).setCell ⟨p6, 1, none⟩ (.int .i64 ((G.to_ : Int) - G.from_))).setCell ⟨p6, 2, none⟩ (.int .i64 G.kind)).setCell ⟨p6, 3, none⟩ (.slice pa (canon G.pl).length pc)).ownsRow (p6 + 1) 180 4 (.slice a7 ps.length c7) ps.length (fdC ps)) := by
          have hne : (Value.slice a7 ps.length c7).ownBlock ≠ some p6 := fun e => by have := (HOx.out.lt p6 e).1; omega
          exact own_set (own_set (own_set (own_set HOx.out hne) hne) hne) hne
        have HPy : Hid (PartsIn ((((wx.setCell ⟨p6, 0, none⟩ (.int .i64 G.from_)).setCell ⟨p6, 1, none⟩ (.int .i64 ((G.to_ : Int) - G.from_))).setCell ⟨p6, 2, none⟩ (.int .i64 G.kind)).setCell ⟨p6, 3, none⟩ (.slice pa (canon G.pl).length pc)) (w.heap.size + 1) (ps ++ [(G, pa, pc)])) := by
          intro q hq
          refine four_own H6x.out ?_ (by decide) _ _ _ _
          rcases List.mem_append.1 hq with hq | hq
          · exact HPx.out q hq
          · obtain rfl := List.mem_singleton.1 hq
            exact own_mono HOp.out (by omega)
        have HBy : Hid (Below (w.heap.size + 1) w1 ((((wx.setCell ⟨p6, 0, none⟩ (.int .i64 G.from_)).setCell ⟨p6, 1, none⟩ (.int .i64 ((G.to_ : Int) - G.from_))).setCell ⟨p6, 2, none⟩ (.int .i64 G.kind)).setCell ⟨p6, 3, none⟩ (.slice pa (canon G.pl).length pc))) :=
          (((HBx.out.setCell (p := ⟨p6, 0, none⟩) (by show w.heap.size + 1 ≤ p6; omega) _).setCell (p := ⟨p6, 1, none⟩) (by show w.heap.size + 1 ≤ p6; omega) _).setCell (p := ⟨p6, 2, none⟩) (by show w.heap.size + 1 ≤ p6; omega) _).setCell (p := ⟨p6, 3, none⟩) (by show w.heap.size + 1 ≤ p6; omega) _
        have hzy : ((((wx.setCell ⟨p6, 0, none⟩ (.int .i64 G.from_)).setCell ⟨p6, 1, none⟩ (.int .i64 ((G.to_ : Int) - G.from_))).setCell ⟨p6, 2, none⟩ (.int .i64 G.kind)).setCell ⟨p6, 3, none⟩ (.slice pa (canon G.pl).length pc)).heap.size = wx.heap.size := by simp only [size_set]
        have hp7y : p7 < wx.heap.size := by omega
        clear y0 y1 y2 y3 z0 z1 z2 z3
        generalize ((((wx.setCell ⟨p6, 0, none⟩ (.int .i64 G.from_)).setCell ⟨p6, 1, none⟩ (.int .i64 ((G.to_ : Int) - G.from_))).setCell ⟨p6, 2, none⟩ (.int .i64 G.kind)).setCell ⟨p6, 3, none⟩ (.slice pa (canon G.pl).length pc)) = wy at *
        have hp7z : p7 < wy.heap.size := by omega
        have hpz : p6 + 1 ≤ wy.heap.size := by omega
        have hwz : w.heap.size + 1 ≤ wy.heap.size := by omega
        have y0 : wy.cell? ⟨p6, 0, none⟩ = some (.int .i64 G.from_) := by rw [cell_at H6y.out]; rfl
        have y1 : wy.cell? ⟨p6, 1, none⟩ = some (.int .i64 ((G.to_ : Int) - G.from_)) := by rw [cell_at H6y.out]; rfl
        have y2 : wy.cell? ⟨p6, 2, none⟩ = some (.int .i64 G.kind) := by rw [cell_at H6y.out]; rfl
        have y3 : wy.cell? ⟨p6, 3, none⟩ = some (.slice pa (canon G.pl).length pc) := by rw [cell_at H6y.out]; rfl
        have y7 : wy.cell? ⟨p7, 0, none⟩ = some (.slice a7 ps.length c7) := by rw [cell_at H7y.out]; rfl
        have HBl := Lib.hid (fdC_len ps)
        clear hzy H6x H7x HOx HPx HOp HBx
        go_wp2_with (first
          | (at_builtin; refine wpList_append_own _ rfl (.tmp 46) (.tmp 48) 99 rfl (p6 + 1) 180 i0 (.agg #[.int .i64 0, .int .i64 0, .int .i64 0, .slice none 0 0]) 4 48 Tryz.underlying99 hi0 hz0 hz1 hz2 rfl (by decide) (.slice a7 ps.length c7) ps.length (fdC ps) rfl (HOy.out.alloc _) ⟨wy.heap.size, 0, none⟩ 1 1 (fdC1 (G, pa, pc)) rfl rfl ?c1 ?c2 ?c3 ?c4 ?c5 ?_)
          | fail)
        case c1 =>
          intro j u hj
          rw [Addr.add_lit, Nat.zero_add]
          rw [cell_at (heap_alloc_new wy _)]
          simpa [fdC1] using hj
        case c2 =>
          intro u hu
          simp only [fdC1, List.mem_cons, List.not_mem_nil, or_false] at hu
          rcases hu with rfl | rfl | rfl | rfl <;> rfl
        case c3 => unfold maxLen; omega
        case c4 => omega
        case c5 => simp only [World.size_alloc]; omega
        intro v7 wB ho7 hg7 _
        obtain ⟨a8, c8, rfl⟩ := own_slice ho7
        have al := below_al wy (Obj.cells #[Value.int IntKind.i64 G.from_, Value.int IntKind.i64 ((G.to_ : Int) - G.from_), Value.int IntKind.i64 G.kind, Value.slice pa (canon G.pl).length pc] 180)
        have HOa := HOy.out.alloc (Obj.cells #[Value.int IntKind.i64 G.from_, Value.int IntKind.i64 ((G.to_ : Int) - G.from_), Value.int IntKind.i64 G.kind, Value.slice pa (canon G.pl).length pc] 180)
        have H7a := (al.block p7 (by omega)).trans H7y.out
        have H6a := (al.block p6 (by omega)).trans H6y.out
        have H7B := Lib.hid ((hg7.block p7 (by simp only [World.size_alloc]; omega) (fun e => own_ne HOa H7a (by decide) e.symm)).trans H7a)
        have H6B := Lib.hid ((hg7.block p6 (by simp only [World.size_alloc]; omega) (fun e => by have := (HOa.lt p6 e.symm).1; omega)).trans H6a)
        have HPB := Lib.hid ((HPy.out.below al).grown HOa (by decide) hg7)
        have HBB := Lib.hid ((HBy.out.trans (al.mono (by omega))).grown hg7 (by simp only [World.size_alloc]; omega) (fun q hq => by have := (HOa.lt q hq).1; omega))
        have HOB := Lib.hid ho7
        clear ho7 hg7 al HOa H7a H6a H7y H6y HOy HPy HBy y0 y1 y2 y3 y7
        have y7 : wB.cell? ⟨p7, 0, none⟩ = some (.slice a7 ps.length c7) := by rw [cell_at H7B.out]; rfl
        have z7 := unfrozen H7B.out 0
        go_wp2_with fail
        go_roundw
        case rel =>
          refine ⟨ps ++ [(G, pa, pc)], G.to_, a8, c8, _, _, _, _, rfl, hf2, by omega, by simp; omega, ?_, ?_, (heap_set_other (by omega)).trans H6B.out, ?_, HPB.out.set H7B.out (by decide), HBB.out.setCell (p := ⟨p7, 0, none⟩) (by show w.heap.size + 1 ≤ p7; omega) _⟩
          · rw [hJf.out, HRS.out, HFR.out, List.map_append, List.append_assoc]; rfl
          · rw [heap_set_at H7B.out]; simp
          · rw [fdC_snoc, List.length_append]
            exact own_set HOB.out (own_ne HOB.out H7B.out (by decide))
        case measure => simp [intOf]; omega
      · have d44 : (lb l k == 44) = false := by simpa using h44
        have hgo := Lib.hid (fun h : k < l.length ∧ lb l k = 44 => h44 h.2)
        clear h44 e'
        generalize lb l k = x at hcl d44
        have HLE := Lib.hid (lineEnd_of (c := c) (HR.out.below (hbb.mono hzh1)) hl k hkn)
        have HE0 := Lib.hid (oneJ_end hJf.out hgo.out)
        have hms : (markS (endP l k)).size ≤ 2 := by rw [markS_size]; unfold markN; split <;> (try split) <;> (try split) <;> omega
        have HMS := Lib.hid (markS_size (endP l k))
        have HMK := Lib.hid (fun w => mark_of (endP l k) w)
        clear hgo
        generalize endP l k = en at *
        generalize markS en = ms at *
        have c70 : wr.cell? ⟨p7, 0, none⟩ = some (.slice a7 ps.length c7) := by rw [cell_at H7.out]; rfl
        have c71 : wr.cell? ⟨p7, 1, none⟩ = some (.int .i64 0) := by rw [cell_at H7.out]; rfl
        have z70 := unfrozen H7.out 0
        have z71 := unfrozen H7.out 1
        have H4r := Lib.hid ((hbb.block w.heap.size (by omega)).trans H4.out)
        have HB := Lib.hid hbb
        clear hbb
        go_wp2_with fail
        refine HLE.out.mono ?_; rintro e wx ⟨rfl, rfl⟩
        clear HLE
        have hp7 : p7 < wr.heap.size := lt_of_heap H7.out
        have H7b : Hid ((wr.setCell ⟨p7, 1, none⟩ (.int .i64 en)).heap[p7]? = some (.cells #[.slice a7 ps.length c7, .int .i64 en] 101 (0, 0))) := heap_set_at H7.out
        have H4b : Hid ((wr.setCell ⟨p7, 1, none⟩ (.int .i64 en)).heap[w.heap.size]? = some (.cells #[.slice none 0 0, .int .i64 0] 101 (0, 0))) := (heap_set_other (by omega)).trans H4r.out
        have HOb := Lib.hid (own_set (o := 1) (u := .int .i64 en) HO.out (own_ne HO.out H7.out (by decide)))
        have HPb := Lib.hid (HPI.out.set (o := 1) (u := .int .i64 en) H7.out (by decide))
        have HBb := Lib.hid (HB.out.setCell (p := ⟨p7, 1, none⟩) (by show w.heap.size + 1 ≤ p7; omega) (.int .i64 en))
        clear H4r HO HPI HB
        go_upto_region 9 with fail
        generalize wr.setCell ⟨p7, 1, none⟩ (.int .i64 en) = wy at *
        have b70 : wy.cell? ⟨p7, 0, none⟩ = some (.slice a7 ps.length c7) := by rw [cell_at H7b.out]; rfl
        have b71 : wy.cell? ⟨p7, 1, none⟩ = some (.int .i64 en) := by rw [cell_at H7b.out]; rfl
        have b40 : wy.cell? ⟨w.heap.size, 0, none⟩ = some (.slice none 0 0) := by rw [cell_at H4b.out]; rfl
        have b41 : wy.cell? ⟨w.heap.size, 1, none⟩ = some (.int .i64 0) := by rw [cell_at H4b.out]; rfl
        have y40 := unfrozen H4b.out 0
        have y41 := unfrozen H4b.out 1
        clear c70 c71 z70 z71 H7 H6
        have HW := Lib.hid (IntWalk.i64_in ((k : Int) + (ms.size : Int)) (by omega))
        go_region_with ((go_at_call 109; refine (HMK.out _).mono ?_; rintro e w' ⟨rfl, rfl⟩))
        all_goals go_wp2_with fail
        all_goals
          have hwr := HW.out
          have e40 := two_c0 b40 (.slice a7 ps.length c7) (.int .i64 en)
          have e41 := two_c1 b41 (.slice a7 ps.length c7) (.int .i64 en)
          refine bodyPost_ret (v := .tuple #[.agg #[.slice a7 ps.length c7, .int .i64 en], .int .i64 ((k : Int) + (ms.size : Int))]) (by simp [results, Tryz.results98, go_sem, hwr, e40, e41]) rfl ?_
          obtain ⟨g1, g2, g3⟩ := HE0.out
          have H4c := heap_set_at (o := 0) (u := .slice a7 ps.length c7) H4b.out
          refine ⟨ps, a7, c7, ?_, g1.symm, ?_, ?_, ?_⟩
          · rw [g2, g3, HMS.out]; simp
          · exact own_mono (own_below (own_set (own_set HOb.out (own_ne HOb.out H4b.out (by decide))) (own_ne (own_set HOb.out (own_ne HOb.out H4b.out (by decide))) H4c (by decide))) (Below.refl _ _).drew) (by omega)
          · exact (((HPb.out.set H4b.out (by decide)).set H4c (by decide)).below (Below.refl _ _).drew).mono (by omega)
          · exact (((HB1.out.trans (HBb.out.mono (by omega))).setCell (p := ⟨w.heap.size, 0, none⟩) (Nat.le_refl _) _).setCell (p := ⟨w.heap.size, 1, none⟩) (Nat.le_refl _) _).drew
    · have dk : decide (k < l.length) = false := decide_eq_false hlt
      have hgo := Lib.hid (fun h : k < l.length ∧ lb l k = 44 => hlt h.1)
      have HLE := Lib.hid (lineEnd_of (c := c) (HR.out.below (hbb.mono hzh1)) hl k hkn)
      have HE0 := Lib.hid (oneJ_end hJf.out hgo.out)
      have hms : (markS (endP l k)).size ≤ 2 := by rw [markS_size]; unfold markN; split <;> (try split) <;> (try split) <;> omega
      have HMS := Lib.hid (markS_size (endP l k))
      have HMK := Lib.hid (fun w => mark_of (endP l k) w)
      clear hgo
      generalize endP l k = en at *
      generalize markS en = ms at *
      have c70 : wr.cell? ⟨p7, 0, none⟩ = some (.slice a7 ps.length c7) := by rw [cell_at H7.out]; rfl
      have c71 : wr.cell? ⟨p7, 1, none⟩ = some (.int .i64 0) := by rw [cell_at H7.out]; rfl
      have z70 := unfrozen H7.out 0
      have z71 := unfrozen H7.out 1
      have H4r := Lib.hid ((hbb.block w.heap.size (by omega)).trans H4.out)
      have HB := Lib.hid hbb
      clear hbb
      go_wp2_with fail
      refine HLE.out.mono ?_; rintro e wx ⟨rfl, rfl⟩
      clear HLE
      have hp7 : p7 < wr.heap.size := lt_of_heap H7.out
      have H7b : Hid ((wr.setCell ⟨p7, 1, none⟩ (.int .i64 en)).heap[p7]? = some (.cells #[.slice a7 ps.length c7, .int .i64 en] 101 (0, 0))) := heap_set_at H7.out
      have H4b : Hid ((wr.setCell ⟨p7, 1, none⟩ (.int .i64 en)).heap[w.heap.size]? = some (.cells #[.slice none 0 0, .int .i64 0] 101 (0, 0))) := (heap_set_other (by omega)).trans H4r.out
      have HOb := Lib.hid (own_set (o := 1) (u := .int .i64 en) HO.out (own_ne HO.out H7.out (by decide)))
      have HPb := Lib.hid (HPI.out.set (o := 1) (u := .int .i64 en) H7.out (by decide))
      have HBb := Lib.hid (HB.out.setCell (p := ⟨p7, 1, none⟩) (by show w.heap.size + 1 ≤ p7; omega) (.int .i64 en))
      clear H4r HO HPI HB
      go_upto_region 9 with fail
      generalize wr.setCell ⟨p7, 1, none⟩ (.int .i64 en) = wy at *
      have b70 : wy.cell? ⟨p7, 0, none⟩ = some (.slice a7 ps.length c7) := by rw [cell_at H7b.out]; rfl
      have b71 : wy.cell? ⟨p7, 1, none⟩ = some (.int .i64 en) := by rw [cell_at H7b.out]; rfl
      have b40 : wy.cell? ⟨w.heap.size, 0, none⟩ = some (.slice none 0 0) := by rw [cell_at H4b.out]; rfl
      have b41 : wy.cell? ⟨w.heap.size, 1, none⟩ = some (.int .i64 0) := by rw [cell_at H4b.out]; rfl
      have y40 := unfrozen H4b.out 0
      have y41 := unfrozen H4b.out 1
      clear c70 c71 z70 z71 H7 H6
      have HW := Lib.hid (IntWalk.i64_in ((k : Int) + (ms.size : Int)) (by omega))
      go_region_with ((go_at_call 109; refine (HMK.out _).mono ?_; rintro e w' ⟨rfl, rfl⟩))
      all_goals go_wp2_with fail
      all_goals
        have hwr := HW.out
        have e40 := two_c0 b40 (.slice a7 ps.length c7) (.int .i64 en)
        have e41 := two_c1 b41 (.slice a7 ps.length c7) (.int .i64 en)
        refine bodyPost_ret (v := .tuple #[.agg #[.slice a7 ps.length c7, .int .i64 en], .int .i64 ((k : Int) + (ms.size : Int))]) (by simp [results, Tryz.results98, go_sem, hwr, e40, e41]) rfl ?_
        obtain ⟨g1, g2, g3⟩ := HE0.out
        have H4c := heap_set_at (o := 0) (u := .slice a7 ps.length c7) H4b.out
        refine ⟨ps, a7, c7, ?_, g1.symm, ?_, ?_, ?_⟩
        · rw [g2, g3, HMS.out]; simp
        · exact own_mono (own_below (own_set (own_set HOb.out (own_ne HOb.out H4b.out (by decide))) (own_ne (own_set HOb.out (own_ne HOb.out H4b.out (by decide))) H4c (by decide))) (Below.refl _ _).drew) (by omega)
        · exact (((HPb.out.set H4b.out (by decide)).set H4c (by decide)).below (Below.refl _ _).drew).mono (by omega)
        · exact (((HB1.out.trans (HBb.out.mono (by omega))).setCell (p := ⟨w.heap.size, 0, none⟩) (Nat.le_refl _) _).setCell (p := ⟨w.heap.size, 1, none⟩) (Nat.le_refl _) _).drew

end Go.Proofs.YtkgakgceamafcaaGreat

namespace Go.Proofs.YtkgakgceamafcaaGreat
open Go Go.RowKit
set_option linter.unusedVariables false

/-- A row in memory: its fields, and where they lie. -/
abbrev RowM := Rw × List FdM × Option Addr × Nat
def rwC1 (p : RowM) : List Value := [.slice p.2.2.1 p.2.1.length p.2.2.2, .int .i64 p.1.fin]
def rwC (rs : List RowM) : List Value := rs.flatMap rwC1
theorem rwC_snoc (ps : List RowM) (p : RowM) : rwC (ps ++ [p]) = rwC ps ++ rwC1 p := by unfold rwC; simp
theorem rwC_len : ∀ ps : List RowM, (rwC ps).length = ps.length * 2
  | [] => rfl
  | p :: ps => by
    have := rwC_len ps
    have e : rwC (p :: ps) = rwC1 p ++ rwC ps := by unfold rwC; simp
    rw [e, List.length_append, this, List.length_cons]; show 2 + _ = _; omega
theorem rwC_at : ∀ (ps : List RowM) (k : Nat) (p : RowM) (j : Nat), ps[k]? = some p → j < 2 → (rwC ps)[k * 2 + j]? = (rwC1 p)[j]?
  | [], k, p, j, h, _ => by simp at h
  | q :: ps, 0, p, j, h, hj => by
    obtain rfl : q = p := by simpa using h
    have e : rwC (q :: ps) = rwC1 q ++ rwC ps := by unfold rwC; simp
    rw [e, List.getElem?_append_left (by show _ < 2; omega)]; simp
  | q :: ps, k + 1, p, j, h, hj => by
    have e : rwC (q :: ps) = rwC1 q ++ rwC ps := by unfold rwC; simp
    rw [e, List.getElem?_append_right (by show 2 ≤ _; omega)]
    have := rwC_at ps k p j (by simpa using h) hj
    rw [← this]; congr 1; show (k + 1) * 2 + j - 2 = _; omega
/-- A row's fields, and their parts, lie in memory. -/
structure RowIn (w : World) (B : Nat) (p : RowM) : Prop where
  fs : p.2.1.map (·.1) = p.1.fs
  own : w.ownsRow B 180 4 (.slice p.2.2.1 p.2.1.length p.2.2.2) p.2.1.length (fdC p.2.1)
  parts : PartsIn w B p.2.1
def RowsIn (w : World) (B : Nat) (rs : List RowM) : Prop := ∀ p ∈ rs, RowIn w B p
theorem RowIn.below {w w' : World} {B : Nat} {p : RowM} (h : RowIn w B p) (hb : Below w.heap.size w w') : RowIn w' B p := ⟨h.fs, own_below h.own hb, h.parts.below hb⟩
theorem RowIn.mono {w : World} {B B' : Nat} {p : RowM} (h : RowIn w B' p) (hB : B ≤ B') : RowIn w B p := ⟨h.fs, own_mono h.own hB, h.parts.mono hB⟩
theorem RowIn.grown {w w' : World} {B B' sz n : Nat} {e : TypeId} {v : Value} {xs : List Value} {p : RowM} (h : RowIn w B p) (ho : w.ownsRow B' e sz v n xs) (he : e ≠ 59) (he2 : e ≠ 180) (hg : w.grownBy w' v.ownBlock) : RowIn w' B p :=
  ⟨h.fs, own_grown h.own ho (fun e' => he2 e'.symm) hg, h.parts.grown ho he hg⟩
theorem RowsIn.below {w w' : World} {B : Nat} {ps : List RowM} (h : RowsIn w B ps) (hb : Below w.heap.size w w') : RowsIn w' B ps := fun p hp => (h p hp).below hb
theorem RowsIn.mono {w : World} {B B' : Nat} {ps : List RowM} (h : RowsIn w B' ps) (hB : B ≤ B') : RowsIn w B ps := fun p hp => (h p hp).mono hB
theorem RowsIn.grown {w w' : World} {B B' sz n : Nat} {e : TypeId} {v : Value} {xs : List Value} {ps : List RowM} (h : RowsIn w B ps) (ho : w.ownsRow B' e sz v n xs) (he : e ≠ 59) (he2 : e ≠ 180) (hg : w.grownBy w' v.ownBlock) : RowsIn w' B ps := fun p hp => (h p hp).grown ho he he2 hg
theorem RowsIn.snoc {w : World} {B : Nat} {ps : List RowM} {p : RowM} (h : RowsIn w B ps) (hp : RowIn w B p) : RowsIn w B (ps ++ [p]) := by
  intro q hq
  rcases List.mem_append.1 hq with hq | hq
  · exact h q hq
  · obtain rfl := List.mem_singleton.1 hq; exact hp

/-- What a call hands back that tells all rows. -/
def AllPost (R : List Rw) (w : World) (e : Ending) (w' : World) : Prop :=
  ∃ (rs : List RowM) (a : Option Addr) (c : Nat), e = .returned (.slice a rs.length c) ∧ rs.map (·.1) = R ∧ w'.ownsRow w.heap.size 101 2 (.slice a rs.length c) rs.length (rwC rs) ∧ RowsIn w' w.heap.size rs ∧ Below w.heap.size w w'
theorem info_row : (Tryz.prog.info? 101).map (fun i => (i.zero, i.size, i.bytes)) = some (some (.agg #[.slice none 0 0, .int .i64 0]), 2, 32) := by kernel_rfl

/-- What holds at the head of All's loop. -/
def AllJ (l : List UInt8) (w : World) (v3 v4 : Value) (wr : World) : Prop := ∃ (rs : List RowM) (k : Nat) (a : Option Addr) (c : Nat), v3 = .slice a rs.length c ∧ v4 = .int .i64 k ∧ k ≤ l.length ∧ rs.length ≤ k ∧
  allP l 0 = rs.map (·.1) ++ allP l k ∧ wr.ownsRow w.heap.size 101 2 (.slice a rs.length c) rs.length (rwC rs) ∧ RowsIn wr w.heap.size rs ∧ Below w.heap.size w wr

set_option maxRecDepth 100000 in
set_option maxHeartbeats 4000000 in
theorem all_of {w : World} {a : Option Addr} {c : Nat} {l : List UInt8} (hr : Rd w 1 a l.length (bc l)) (hl : l.length ≤ 1000000) (hlc : l.length ≤ c) (hc : c ≤ maxLen) :
    Calls Tryz.prog 44 #[.slice a l.length c] w (AllPost (allP l 0) w) := by
  obtain ⟨i0, hi0, hz0, hz1, hz2⟩ := info_parts info_row
  have HR := Lib.hid hr
  clear hr
  go_enter Tryz.func44, Tryz.ntmps44
  go_wp2_with fail
  go_loopw [3, 4] (fun v3 v4 wr => AllJ l w v3 v4 wr) (fun _ v4 _ => l.length - (intOf v4).toNat)
  case atStart => exact ⟨[], 0, none, 0, rfl, rfl, by omega, by simp, by simp, own_nil _ _ _ _, fun p hp => by simp at hp, Below.refl _ _⟩
  case round =>
    obtain ⟨rs, k, a3, c3, rfl, rfl, hkn, hrk, hall, ho, hri, hb⟩ := hrel
    have HA := Lib.hid hall
    have HO := Lib.hid ho
    have HI := Lib.hid hri
    have HB := Lib.hid hb
    have hzr := hb.size
    clear hall ho hri hb
    by_cases hlt : k < l.length
    · have dk : decide (k < l.length) = true := decide_eq_true hlt
      obtain ⟨b, off, rfl, hbl, _⟩ := HR.out.2 (by omega)
      have hn := rowP_next hlt
      have hn1 := hn.1
      have hn2 := hn.2
      have HC := Lib.hid (one_of (c := c) (HR.out.below (HB.out)) (Nat.lt_of_lt_of_le hbl hzr) hl hlc hc k hlt)
      have HM := Lib.hid (allP_more hlt)
      clear hn
      generalize rowP l k = R at *
      go_wp2_with fail
      refine HC.out.mono ?_; rintro e w2 ⟨ps, a5, c5, rfl, hfs, ho2, hpi2, hb2⟩
      have hz2 := hb2.size
      have HFS := Lib.hid hfs
      have HO2 := Lib.hid ho2
      have HP2 := Lib.hid hpi2
      have HOr := Lib.hid (own_below HO.out hb2)
      have HIr := Lib.hid (HI.out.below hb2)
      have HBr := Lib.hid (HB.out.trans (hb2.mono hzr))
      have HLN := Lib.hid (rwC_len rs)
      clear hfs ho2 hpi2 hb2 HC
      go_wp2_with (first
        | (at_builtin; refine wpList_append_own _ rfl (.tmp 17) (.tmp 19) 96 rfl w.heap.size 101 i0 (.agg #[.slice none 0 0, .int .i64 0]) 2 32 Tryz.underlying96 hi0 hz0 hz1 (by assumption) rfl (by decide) (.slice a3 rs.length c3) rs.length (rwC rs) rfl ((HOr.out.alloc _).alloc _) ⟨w2.heap.size + 1, 0, none⟩ 1 1 (rwC1 (R, ps, a5, c5)) rfl rfl ?c1 ?c2 ?c3 ?c4 ?c5 ?_)
        | fail)
      case c1 =>
        intro j u hj
        rw [Addr.add_lit, Nat.zero_add]
        have hn := heap_alloc_new (w2.alloc (Obj.cells #[Value.slice a5 ps.length c5, Value.int IntKind.i64 R.fin] 101)) (Obj.cells #[Value.slice a5 ps.length c5, Value.int IntKind.i64 R.fin] 101)
        rw [World.size_alloc] at hn
        rw [cell_at hn]
        simpa [rwC1] using hj
      case c2 =>
        intro u hu
        simp only [rwC1, List.mem_cons, List.not_mem_nil, or_false] at hu
        rcases hu with rfl | rfl <;> rfl
      case c3 => unfold maxLen; omega
      case c4 => omega
      case c5 => simp only [World.size_alloc]; omega
      intro v7 wB ho7 hg7 _
      obtain ⟨a8, c8, rfl⟩ := own_slice ho7
      have al := (below_al w2 (Obj.cells #[Value.slice a5 ps.length c5, Value.int IntKind.i64 R.fin] 101)).alloc (by simp) (Obj.cells #[Value.slice a5 ps.length c5, Value.int IntKind.i64 R.fin] 101)
      have HOa := own_below HOr.out al
      have HIB := Lib.hid (((HIr.out.below al).grown HOa (by decide) (by decide) hg7).snoc (p := (R, ps, a5, c5)) (((RowIn.mk HFS.out HO2.out HP2.out : RowIn w2 wr.heap.size (R, ps, a5, c5)).mono hzr).below al |>.grown HOa (by decide) (by decide) hg7))
      have HOB := Lib.hid ho7
      have HBB := Lib.hid ((HBr.out.trans (al.mono (by omega))).grown hg7 (by simp only [World.size_alloc]; omega) (fun q hq => (HOa.lt q hq).1))
      clear ho7 hg7 al HOa
      go_wp2_with fail
      go_roundw
      case rel => exact ⟨rs ++ [(R, ps, a5, c5)], R.next, a8, c8, by simp, rfl, hn2, by simp; omega, by rw [HA.out, HM.out]; simp, by rw [rwC_snoc, List.length_append]; exact HOB.out, HIB.out, HBB.out⟩
      case measure => simp [intOf]; omega
    · have dk : decide (k < l.length) = false := decide_eq_false hlt
      have hend := Lib.hid (allP_end (l := l) (i := k) (by omega))
      go_wp2_with fail
      go_ret
      exact ⟨rs, a3, c3, rfl, by rw [HA.out, hend.out, List.append_nil], HO.out, HI.out, HB.out⟩

end Go.Proofs.YtkgakgceamafcaaGreat
