/-
  Texts of layer 8, put together (a claim holds few texts): RwA, RwB, RwC, RwD, RwF, RwG, RwH.
-/
import Derived.Test.YtmdifcgnmkpecaaCeI
import Derived.Laws.CopyOwn
import Derived.Deep.RegionLaw
import Derived.Laws.AppendOwnNone
import Derived.Deep.AppendLies
import Derived.Deep.CutBlock
import Derived.Deep.CutRange
import Derived.Deep.RegionHeld3
import Derived.BigQuiet
import Derived.Deep.QuietTactic
import Derived.Test.YtmdifcgnmkpecaaScZ
namespace Go.Proofs.Ytmdifcgnmkpecaa
open Go Go.RowKit
set_option linter.unusedVariables false

abbrev rowV (a : Option Addr) (n c : Nat) (e : Int) (h : Bool) : Value := .agg #[.slice a n c, .int .i64 e, .bool h]
/-- Cells to be read. -/
structure RoIn (w : World) (l : List UInt8) (a : Option Addr) (ps : List CelM) : Prop where
  rd : Rd w 4 a ps.length (ceC ps)
  ces : CesIn w 0 l ps
  ty : ∀ d, a = some d → ∃ cs, w.heap[d.block]? = some (.cells cs 50 (0, 0))
theorem RoIn.below {w w' : World} {l : List UInt8} {a : Option Addr} {ps : List CelM} (h : RoIn w l a ps) (hb : Below w.heap.size w w') : RoIn w' l a ps :=
  ⟨h.rd.below hb, h.ces.below hb, fun d hd => by obtain ⟨cs, hc⟩ := h.ty d hd; exact ⟨cs, (hb.block _ (lt_of_heap hc)).trans hc⟩⟩
theorem TxB.setT {B b o : Nat} {w : World} {v u : Value} {t : List Int} {cs : Array Value} {T : TypeId} {fr : Nat × Nat} (h : TxB B w v t) (hb : w.heap[b]? = some (.cells cs T fr)) (hT : T ≠ 39) : TxB B (w.setCell ⟨b, o, none⟩ u) v t := by
  obtain ⟨a, c, h1, h2, h3, h4, h5, h6⟩ := h
  have hne : ∀ d, a = some d → d.block ≠ b := fun d hd e => by
    obtain ⟨cs', h7⟩ := h6 d hd
    rw [e, hb] at h7; injection h7 with h7; injection h7 with _ h7; exact hT h7
  exact ⟨a, c, h1, h2.set hne, h3, h4, h5, fun d hd => by obtain ⟨cs', h7⟩ := h6 d hd; exact ⟨cs', (heap_set_other (hne d hd)).trans h7⟩⟩
theorem RoIn.setT {w : World} {l : List UInt8} {a : Option Addr} {ps : List CelM} {b o : Nat} {u : Value} {cs : Array Value} {T : TypeId} {fr : Nat × Nat} (h : RoIn w l a ps) (hb : w.heap[b]? = some (.cells cs T fr)) (hT : T ≠ 39) (hT2 : T ≠ 50) : RoIn (w.setCell ⟨b, o, none⟩ u) l a ps := by
  have hne : ∀ d, a = some d → d.block ≠ b := fun d hd e => by
    obtain ⟨cs', h7⟩ := h.ty d hd
    rw [e, hb] at h7; injection h7 with h7; injection h7 with _ h7; exact hT2 h7
  exact ⟨h.rd.set hne, fun q hq => ⟨(h.ces q hq).tx.setT hb hT, (h.ces q hq).inl⟩, fun d hd => by obtain ⟨cs', h7⟩ := h.ty d hd; exact ⟨cs', (heap_set_other (hne d hd)).trans h7⟩⟩
theorem RoIn.set3 {w : World} {l : List UInt8} {a : Option Addr} {ps : List CelM} {b : Nat} {u0 u1 u2 x0 x1 x2 : Value} {T : TypeId} (h : RoIn w l a ps) (hb : w.heap[b]? = some (.cells #[x0, x1, x2] T (0, 0))) (hT : T ≠ 39) (hT2 : T ≠ 50) : RoIn (set3 w b u0 u1 u2) l a ps := by
  unfold Go.Proofs.Ytmdifcgnmkpecaa.set3
  exact ((h.setT hb hT hT2).setT (heap_set_at hb) hT hT2).setT (heap_set_at (heap_set_at hb)) hT hT2
/-- Cells of one's own are to be read. -/
theorem own_ro {w : World} {B c : Nat} {l : List UInt8} {a : Option Addr} {ps : List CelM} (h : w.ownsRow B 50 4 (.slice a ps.length c) ps.length (ceC ps)) (hi : CesIn w 0 l ps) : RoIn w l a ps :=
  ⟨own_rd h, hi, fun d hd => by subst hd; exact own_cellsAt h⟩
theorem rd_cell {w : World} {a : Option Addr} {ps : List CelM} (h : Rd w 4 a ps.length (ceC ps)) {k : Nat} (hk : k < ps.length) :
    ∃ g o, a = some ⟨g, o, none⟩ ∧ g < w.heap.size ∧ w.cell? ⟨g, o + k * 4, none⟩ = some (.slice ps[k].a ps[k].n ps[k].c) ∧ w.cell? ⟨g, o + k * 4 + 1, none⟩ = some (.int .i64 ps[k].x) ∧ w.cell? ⟨g, o + k * 4 + 2, none⟩ = some (.int .i64 ps[k].y) ∧ w.cell? ⟨g, o + k * 4 + 3, none⟩ = some (.bool ps[k].k) := by
  obtain ⟨g, o, e, hg, hc⟩ := h.2 (by omega)
  have hh := fun (j : Nat) (u : Value) (hj : j < 4) (hu : (ceC1 ps[k])[j]? = some u) => hc (k * 4 + j) u ((ceC_at ps k ps[k] j (List.getElem?_eq_getElem hk) hj).trans hu)
  have h0 := hh 0 _ (by omega) rfl
  have h1 := hh 1 _ (by omega) rfl
  have h2 := hh 2 _ (by omega) rfl
  have h3 := hh 3 _ (by omega) rfl
  exact ⟨g, o, e, hg, h0, by rw [Nat.add_assoc]; exact h1, by rw [Nat.add_assoc]; exact h2, by rw [Nat.add_assoc]; exact h3⟩

set_option maxRecDepth 100000 in
set_option maxHeartbeats 2000000 in
theorem rwith_of {w : World} (a : Option Addr) (n c : Nat) (e : Int) (h : Bool) (a' : Option Addr) (n' c' : Nat) :
    Calls Try.prog 80 #[rowV a n c e h, .slice a' n' c'] w fun e' w' => e' = .returned (rowV a' n' c' e h) ∧ Below w.heap.size w w' := by
  obtain ⟨w1, hw1⟩ : ∃ w1, w1 = allocs w [Obj.cells #[Value.slice a n c, Value.int .i64 e, Value.bool h] 81, Obj.cells #[Value.slice none 0 0, Value.int .i64 0, Value.bool false] 81] := ⟨_, rfl⟩
  have HB1 : Hid (Below w.heap.size w w1) := by rw [hw1]; exact Lib.hid (allocs_below _ w)
  have hzw : w1.heap.size > w.heap.size + 1 := by rw [hw1, allocs_size]; simp
  have h0 : w1.heap[w.heap.size]? = some (.cells #[Value.slice a n c, Value.int .i64 e, Value.bool h] 81 (0, 0)) := by rw [hw1]; exact allocs_at _ w 0 _ rfl
  have HH1 : Hid (w1.heap[w.heap.size + 1]? = some (.cells #[Value.slice none 0 0, Value.int .i64 0, Value.bool false] 81 (0, 0))) := by rw [hw1]; exact Lib.hid (allocs_at _ w 1 _ rfl)
  have z0 := fun i => unfrozen h0 i
  have k0 : w1.cell? ⟨w.heap.size, 0, none⟩ = some (Value.slice a n c) := by rw [cell_at h0]; rfl
  have k1 : w1.cell? ⟨w.heap.size, 1, none⟩ = some (.int .i64 e) := by rw [cell_at h0]; rfl
  have k2 : w1.cell? ⟨w.heap.size, 2, none⟩ = some (.bool h) := by rw [cell_at h0]; rfl
  have H0 := Lib.hid h0
  clear h0
  go_enter Try.func80, Try.ntmps80
  go_upto_region 1 with fail
  rw [show (w.alloc (Obj.cells #[Value.slice a n c, Value.int .i64 e, Value.bool h] 81)).alloc (Obj.cells #[Value.slice none 0 0, Value.int .i64 0, Value.bool false] 81) = w1 from hw1.symm]
  clear hw1
  go_upto_region 2 with fail
  have h2 := heap_set_at (o := 0) (u := .slice a' n' c') H0.out
  have hh := (heap_set_other (w := w1) (o := 0) (u := .slice a' n' c') (show w.heap.size + 1 ≠ w.heap.size by omega)).trans HH1.out
  have HB2 := Lib.hid (HB1.out.setCell (p := ⟨w.heap.size, 0, none⟩) (Nat.le_refl _) (.slice a' n' c'))
  generalize w1.setCell ⟨w.heap.size, 0, none⟩ (.slice a' n' c') = w2 at *
  have j0 : w2.cell? ⟨w.heap.size, 0, none⟩ = some (.slice a' n' c') := by rw [cell_at h2]; rfl
  have j1 : w2.cell? ⟨w.heap.size, 1, none⟩ = some (.int .i64 e) := by rw [cell_at h2]; rfl
  have j2 : w2.cell? ⟨w.heap.size, 2, none⟩ = some (.bool h) := by rw [cell_at h2]; rfl
  have r0 : w2.cell? ⟨w.heap.size + 1, 0, none⟩ = some (.slice none 0 0) := by rw [cell_at hh]; rfl
  have r1 : w2.cell? ⟨w.heap.size + 1, 1, none⟩ = some (.int .i64 0) := by rw [cell_at hh]; rfl
  have r2 : w2.cell? ⟨w.heap.size + 1, 2, none⟩ = some (.bool false) := by rw [cell_at hh]; rfl
  have zz := fun i => unfrozen hh i
  have HH2 := Lib.hid hh
  clear h2 hh k0 k1 k2 z0
  go_wp2_with fail
  have hs := set3_at HH2.out (.slice a' n' c') (.int .i64 e) (.bool h)
  have hB := set3_below HB2.out (show w.heap.size ≤ w.heap.size + 1 by omega) (.slice a' n' c') (.int .i64 e) (.bool h)
  have q0 : (set3 w2 (w.heap.size + 1) (.slice a' n' c') (.int .i64 e) (.bool h)).cell? ⟨w.heap.size + 1, 0, none⟩ = some (.slice a' n' c') := by rw [cell_at hs]; rfl
  have q1 : (set3 w2 (w.heap.size + 1) (.slice a' n' c') (.int .i64 e) (.bool h)).cell? ⟨w.heap.size + 1, 1, none⟩ = some (.int .i64 e) := by rw [cell_at hs]; rfl
  have q2 : (set3 w2 (w.heap.size + 1) (.slice a' n' c') (.int .i64 e) (.bool h)).cell? ⟨w.heap.size + 1, 2, none⟩ = some (.bool h) := by rw [cell_at hs]; rfl
  unfold set3 at hB q0 q1 q2
  exact bodyPost_ret (v := rowV a' n' c' e h) (by simp [results, Try.results80, go_sem, q0, q1, q2]) rfl ⟨rfl, hB⟩

set_option maxRecDepth 100000 in
set_option maxHeartbeats 2000000 in
theorem rhide_of {w : World} (a : Option Addr) (n c : Nat) (e : Int) (h : Bool) (h' : Bool) :
    Calls Try.prog 49 #[rowV a n c e h, .bool h'] w fun e' w' => e' = .returned (rowV a n c e h') ∧ Below w.heap.size w w' := by
  obtain ⟨w1, hw1⟩ : ∃ w1, w1 = allocs w [Obj.cells #[Value.slice a n c, Value.int .i64 e, Value.bool h] 81, Obj.cells #[Value.slice none 0 0, Value.int .i64 0, Value.bool false] 81] := ⟨_, rfl⟩
  have HB1 : Hid (Below w.heap.size w w1) := by rw [hw1]; exact Lib.hid (allocs_below _ w)
  have hzw : w1.heap.size > w.heap.size + 1 := by rw [hw1, allocs_size]; simp
  have h0 : w1.heap[w.heap.size]? = some (.cells #[Value.slice a n c, Value.int .i64 e, Value.bool h] 81 (0, 0)) := by rw [hw1]; exact allocs_at _ w 0 _ rfl
  have HH1 : Hid (w1.heap[w.heap.size + 1]? = some (.cells #[Value.slice none 0 0, Value.int .i64 0, Value.bool false] 81 (0, 0))) := by rw [hw1]; exact Lib.hid (allocs_at _ w 1 _ rfl)
  have z0 := fun i => unfrozen h0 i
  have k0 : w1.cell? ⟨w.heap.size, 0, none⟩ = some (Value.slice a n c) := by rw [cell_at h0]; rfl
  have k1 : w1.cell? ⟨w.heap.size, 1, none⟩ = some (.int .i64 e) := by rw [cell_at h0]; rfl
  have k2 : w1.cell? ⟨w.heap.size, 2, none⟩ = some (.bool h) := by rw [cell_at h0]; rfl
  have H0 := Lib.hid h0
  clear h0
  go_enter Try.func49, Try.ntmps49
  go_upto_region 1 with fail
  rw [show (w.alloc (Obj.cells #[Value.slice a n c, Value.int .i64 e, Value.bool h] 81)).alloc (Obj.cells #[Value.slice none 0 0, Value.int .i64 0, Value.bool false] 81) = w1 from hw1.symm]
  clear hw1
  go_upto_region 2 with fail
  have h2 := heap_set_at (o := 2) (u := .bool h') H0.out
  have hh := (heap_set_other (w := w1) (o := 2) (u := .bool h') (show w.heap.size + 1 ≠ w.heap.size by omega)).trans HH1.out
  have HB2 := Lib.hid (HB1.out.setCell (p := ⟨w.heap.size, 2, none⟩) (Nat.le_refl _) (.bool h'))
  generalize w1.setCell ⟨w.heap.size, 2, none⟩ (.bool h') = w2 at *
  have j0 : w2.cell? ⟨w.heap.size, 0, none⟩ = some (.slice a n c) := by rw [cell_at h2]; rfl
  have j1 : w2.cell? ⟨w.heap.size, 1, none⟩ = some (.int .i64 e) := by rw [cell_at h2]; rfl
  have j2 : w2.cell? ⟨w.heap.size, 2, none⟩ = some (.bool h') := by rw [cell_at h2]; rfl
  have r0 : w2.cell? ⟨w.heap.size + 1, 0, none⟩ = some (.slice none 0 0) := by rw [cell_at hh]; rfl
  have r1 : w2.cell? ⟨w.heap.size + 1, 1, none⟩ = some (.int .i64 0) := by rw [cell_at hh]; rfl
  have r2 : w2.cell? ⟨w.heap.size + 1, 2, none⟩ = some (.bool false) := by rw [cell_at hh]; rfl
  have zz := fun i => unfrozen hh i
  have HH2 := Lib.hid hh
  clear h2 hh k0 k1 k2 z0
  go_wp2_with fail
  have hs := set3_at HH2.out (.slice a n c) (.int .i64 e) (.bool h')
  have hB := set3_below HB2.out (show w.heap.size ≤ w.heap.size + 1 by omega) (.slice a n c) (.int .i64 e) (.bool h')
  have q0 : (set3 w2 (w.heap.size + 1) (.slice a n c) (.int .i64 e) (.bool h')).cell? ⟨w.heap.size + 1, 0, none⟩ = some (.slice a n c) := by rw [cell_at hs]; rfl
  have q1 : (set3 w2 (w.heap.size + 1) (.slice a n c) (.int .i64 e) (.bool h')).cell? ⟨w.heap.size + 1, 1, none⟩ = some (.int .i64 e) := by rw [cell_at hs]; rfl
  have q2 : (set3 w2 (w.heap.size + 1) (.slice a n c) (.int .i64 e) (.bool h')).cell? ⟨w.heap.size + 1, 2, none⟩ = some (.bool h') := by rw [cell_at hs]; rfl
  unfold set3 at hB q0 q1 q2
  exact bodyPost_ret (v := rowV a n c e h') (by simp [results, Try.results49, go_sem, q0, q1, q2]) rfl ⟨rfl, hB⟩

set_option maxRecDepth 100000 in
set_option maxHeartbeats 2000000 in
theorem rlen_of {w : World} (a : Option Addr) (n c : Nat) (e : Int) (h : Bool) :
    Calls Try.prog 42 #[rowV a n c e h] w fun e' w' => e' = .returned (.int .i64 n) ∧ Below w.heap.size w w' := by
  have al := below_al w (Obj.cells #[Value.slice a n c, Value.int .i64 e, Value.bool h] 81)
  have k0 : (w.alloc (Obj.cells #[Value.slice a n c, Value.int .i64 e, Value.bool h] 81)).cell? ⟨w.heap.size, 0, none⟩ = some (.slice a n c) := by rw [cell_at (heap_alloc_new w _)]; rfl
  have HB := Lib.hid al
  clear al
  go_enter Try.func42, Try.ntmps42
  go_wp2_with fail
  go_ret
  exact ⟨rfl, HB.out⟩

set_option maxRecDepth 100000 in
set_option maxHeartbeats 2000000 in
theorem rhas_of {w : World} (a : Option Addr) (n c : Nat) (e : Int) (h : Bool) (i : Int) :
    Calls Try.prog 79 #[rowV a n c e h, .int .i64 i] w fun e' w' => e' = .returned (.bool (decide (0 ≤ i ∧ i < n))) ∧ Below w.heap.size w w' := by
  have al := below_al w (Obj.cells #[Value.slice a n c, Value.int .i64 e, Value.bool h] 81)
  have k0 : (w.alloc (Obj.cells #[Value.slice a n c, Value.int .i64 e, Value.bool h] 81)).cell? ⟨w.heap.size, 0, none⟩ = some (.slice a n c) := by rw [cell_at (heap_alloc_new w _)]; rfl
  have HB := Lib.hid al
  clear al
  by_cases h1 : 0 ≤ i
  · have d1 : decide (0 ≤ i) = true := decide_eq_true h1
    by_cases h2 : i < (n : Int)
    · have d2 : decide (i < (n : Int)) = true := decide_eq_true h2
      have HE := Lib.hid (decide_eq_true (p := 0 ≤ i ∧ i < (n : Int)) ⟨h1, h2⟩)
      go_enter Try.func79, Try.ntmps79
      go_wp2_with fail
      go_ret
      exact ⟨(by rw [HE.out]; rfl), HB.out⟩
    · have d2 : decide (i < (n : Int)) = false := decide_eq_false h2
      have HE := Lib.hid (decide_eq_false (p := 0 ≤ i ∧ i < (n : Int)) (fun hh => h2 hh.2))
      go_enter Try.func79, Try.ntmps79
      go_wp2_with fail
      go_ret
      exact ⟨rfl, HB.out⟩
  · have d1 : decide (0 ≤ i) = false := decide_eq_false h1
    have HE := Lib.hid (decide_eq_false (p := 0 ≤ i ∧ i < (n : Int)) (fun hh => h1 hh.1))
    go_enter Try.func79, Try.ntmps79
    go_wp2_with fail
    go_ret
    exact ⟨rfl, HB.out⟩

set_option maxRecDepth 100000 in
set_option maxHeartbeats 2000000 in
theorem ceC_one (ps : List CelM) : ∀ u ∈ ceC ps, u.oneCell' = true := by
  intro u hu
  unfold ceC at hu
  obtain ⟨p, _, hp⟩ := List.mem_flatMap.1 hu
  simp only [ceC1, List.mem_cons, List.not_mem_nil, or_false] at hp
  rcases hp with rfl | rfl | rfl | rfl <;> rfl

set_option maxRecDepth 100000 in
set_option maxHeartbeats 2000000 in
theorem cclone_of {w : World} {a : Option Addr} {c : Nat} {ps : List CelM} (hr : Rd w 4 a ps.length (ceC ps)) (hl : ps.length ≤ 1000000) (hne : 0 < ps.length) :
    Calls Try.prog 95 #[.slice a ps.length c] w fun e w' => ∃ v', e = .returned v' ∧ w'.ownsRow w.heap.size 50 4 v' ps.length (ceC ps) ∧ Below w.heap.size w w' := by
  obtain ⟨i0, hi0, hz0, hz1, hz2⟩ := info_parts info_cell
  obtain ⟨g, off, rfl, hg, hc⟩ := hr.2 hne
  have al := below_al w (Obj.cells #[] 50)
  have HR := Lib.hid (fun j u hj => (al.cell (p := ⟨g, off + j, none⟩) hg).trans (hc j u hj))
  have HE := Lib.hid (own_empty (B := w.heap.size) 4 (Nat.le_refl _) (heap_alloc_new w (Obj.cells #[] 50)))
  have HB := Lib.hid al
  have HL := Lib.hid hl
  have HLN := Lib.hid (ceC_len ps)
  have hq : ∀ w, (binOp .eql 74 (.slice (some ⟨g, off, none⟩) ps.length c) (.slice none 0 0)).run Try.prog w = .ok (.bool false) w := fun w => Go.Lib.run_eql_slice_nil w _ _ _ _ _ _ _ Try.underlying74
  clear hr hl al hc
  go_enter Try.func95, Try.ntmps95
  go_wp2_with (first
    | (at_builtin; refine wpList_append_own _ rfl (.tmp 5) (.tmp 6) 74 rfl w.heap.size 50 i0 (.agg #[.slice none 0 0, .int .i64 0, .int .i64 0, .bool false]) 4 48 Try.underlying74 hi0 hz0 hz1 hz2 rfl (by decide) (.slice (some ⟨w.heap.size, 0, none⟩) 0 0) 0 [] rfl HE.out ⟨g, off, none⟩ ps.length c (ceC ps) rfl HLN.out ?c1 (ceC_one ps) ?c3 ?c4 ?c5 ?_)
    | fail)
  case c1 => intro j u hj; rw [Addr.add_lit]; exact HR.out j u hj
  case c3 => have := HL.out; unfold maxLen; omega
  case c4 => have := HL.out; omega
  case c5 => simp only [World.size_alloc]; omega
  intro v7 wB ho7 hg7 _
  have HO7 := Lib.hid ho7
  have HBB := Lib.hid (HB.out.grown hg7 (by simp only [World.size_alloc]; omega) (fun q hq => (HE.out.lt q hq).1))
  clear ho7 hg7
  go_wp2_with fail
  go_ret
  exact ⟨_, rfl, HO7.out, HBB.out⟩

/-- copy, of elements of k cells, into a whole block of one's own. -/
theorem wpList_copyK {P : Program} {w : World} {ops : Array Oper} {rest : List Oper} {o : Oper} {a : Act} {Q : Exit → Act → World → Prop} (hgd : o.guard = none) (d s : Operand) (dT sT : TypeId)
    (ho : o.op = .call { callee := .builtin .copy, args := #[d, s], argTypes := #[dT, sT] }) (elem : TypeId) (hu : P.underlying dT = some (.slice elem)) (k : Nat) (hsz : (P.info? elem).map (·.size) = some k)
    (g dLen dCap : Nat) (sp : Option Addr) (sLen sCap : Nat) (hd : a.eval d = .slice (some ⟨g, 0, none⟩) dLen dCap) (hs : a.eval s = .slice sp sLen sCap)
    (cur : List Value) (t : TypeId) (hg : w.heap[g]? = some (.cells cur.toArray t (0, 0))) (cs : List Value) (n : Nat) (hn : n = Nat.min sLen dLen) (hcs : cs.length = n * k)
    (hpos : 0 < cs.length → ∃ ad, sp = some ad ∧ ∀ j v, cs[j]? = some v → w.cell? (ad.add j) = some v)
    (hfit : cs.length ≤ cur.length) (h1 : ∀ v ∈ cs, v.oneCell' = true) (B : Nat) (w0 : World) (hb : Below B w0 w) (hBg : B ≤ g)
    (h : ∀ w', Hid (w'.heap[g]? = some (.cells (cs ++ cur.drop cs.length).toArray t (0, 0))) → Below B w0 w' → wpList P ops Q rest (a.put o.dst (goInt n)) w') :
    wpList P ops Q (o :: rest) a w := by
  have hrun : (Builtin.copy_ #[dT, sT] o.type #[.slice (some ⟨g, 0, none⟩) dLen dCap, .slice sp sLen sCap]).run P w = .ok (goInt n) (w.setRow g (cs ++ cur.drop cs.length).toArray) := by
    have hst := run_storeCells_at P g 0 t cs 0 cur.toArray w hg (by simpa using hfit) h1
    simp only [Nat.zero_add, List.take_zero, List.nil_append] at hst
    cases hq : P.info? elem with
    | none => simp [hq] at hsz
    | some i =>
      have hi : i.size = k := by simpa [hq] using hsz
      cases sp with
      | none =>
        have h0 : cs = [] := by
          rcases Nat.eq_zero_or_pos cs.length with h | h
          · exact List.eq_nil_of_length_eq_zero h
          · obtain ⟨ad, e, _⟩ := hpos h; cases e
        subst h0
        simp [Builtin.copy_, run_underlying hu, Builtin.lenOf, Builtin.firstCells, sizeOf, typeInfo, hq, storeCells, ← hn]
        exact (setRow_self w g cur.toArray t (0, 0) hg).symm
      | some ad =>
        have hl := run_loadCells_list (P := P) w ad cs (by
          intro j v hj
          have hp : 0 < cs.length := by
            have := (List.getElem?_eq_some_iff.1 hj).1; omega
          obtain ⟨ad', e, hc⟩ := hpos hp
          cases e
          exact hc j v hj)
        simp [Builtin.copy_, run_underlying hu, Builtin.lenOf, Builtin.firstCells, sizeOf, typeInfo, hq, hi, ← hn, ← hcs, hl, hst]
  refine wpList_plain hgd fun K hK => ?_
  unfold Oper.wp
  simp [execOp, ho, resolve, invoke, builtin, hd, hs, hrun, Result.andThen]
  exact hK _ _ (h _ (show _ = _ from setRow_heap w g _ _ t _ hg) (Go.below_setRow hb hBg _))

theorem own_full {w : World} {B s n g : Nat} {e : TypeId} {xs : List Value} (h : w.ownsRow B e s (.slice (some ⟨g, 0, none⟩) n n) n xs) : w.heap[g]? = some (.cells xs.toArray e (0, 0)) ∧ B ≤ g := by
  rcases h.2 with ⟨h1, _⟩ | ⟨g', cap, cur, h1, hB, hg, _, _, hsz, ht⟩
  · cases h1
  · simp only [Value.slice.injEq, Option.some.injEq, Addr.mk.injEq, and_true, true_and] at h1
    obtain ⟨rfl, rfl⟩ := h1
    refine ⟨?_, hB⟩
    rw [hg, ← ht, ← hsz, ← Array.length_toList, List.take_length]
/-- The empty cell. -/
def noneM : CelM := ⟨none, 0, 0, 0, 0, false, []⟩
theorem noneM_in (w : World) (l : List UInt8) : CeIn w 0 l noneM := by
  have hc : canon noneM.t = [] := by simp [noneM, canon]
  refine ⟨⟨none, 0, by rw [hc]; rfl, by rw [hc]; exact ⟨rfl, fun hn => absurd hn (by simp)⟩, ⟨by simp [noneM], fun x hx => by simp [noneM] at hx⟩, (fun d hd => by simp at hd), fun _ => rfl, (fun d hd => by simp at hd)⟩, fun x hx => by simp [noneM] at hx⟩
theorem ceC_app (a b : List CelM) : ceC (a ++ b) = ceC a ++ ceC b := by unfold ceC; simp
theorem ceC_at4 (ps : List CelM) (j : Nat) (h : j < ps.length * 4) : (ceC ps)[j]? = (ceC1 (ps[j / 4]'(by omega)))[j % 4]? := by
  have := ceC_at ps (j / 4) (ps[j / 4]'(by omega)) (j % 4) (List.getElem?_eq_getElem (by omega)) (Nat.mod_lt _ (by omega))
  rw [← this]; congr 1; omega
theorem made_cells (m : Nat) : (madeCells #[.slice none 0 0, .int .i64 0, .int .i64 0, .bool false] (m * 4)).toList = ceC (List.replicate m noneM) := by
  apply List.ext_getElem?
  intro j
  by_cases hj : j < m * 4
  · rw [ceC_at4 _ j (by simpa using hj)]
    simp only [List.getElem_replicate]
    have e : (madeCells #[Value.slice none 0 0, .int .i64 0, .int .i64 0, .bool false] (m * 4)).toList[j]? = some (#[Value.slice none 0 0, .int .i64 0, .int .i64 0, .bool false][j % 4]!) := by
      simp [madeCells, hj]
    rw [e]
    have h4 := Nat.mod_lt j (show 0 < 4 by omega)
    rcases (show j % 4 = 0 ∨ j % 4 = 1 ∨ j % 4 = 2 ∨ j % 4 = 3 by omega) with h | h | h | h <;> rw [h] <;> rfl
  · rw [List.getElem?_eq_none (by simp [size_madeCells]; omega), List.getElem?_eq_none (by rw [ceC_len]; simp; omega)]
/-- A list with empty cells behind, up to so many. -/
def padL (ps : List CelM) (N : Int) : List CelM := ps ++ List.replicate ((min N 40).toNat - ps.length) noneM

set_option maxRecDepth 100000 in
set_option maxHeartbeats 2000000 in
theorem rpad_of {w : World} {l : List UInt8} {a : Option Addr} {c : Nat} {e : Int} {h : Bool} {ps : List CelM} (N : Int) (hr : RoIn w l a ps) (hl : ps.length ≤ 1000000) (hN : I64 N) :
    Calls Try.prog 76 #[rowV a ps.length c e h, .int .i64 N] w fun e' w' => ∃ a' c', e' = .returned (rowV a' (padL ps N).length c' e h) ∧ RoIn w' l a' (padL ps N) ∧ Below w.heap.size w w' := by
  obtain ⟨i0, hi0, hz0, hz1, hz2⟩ := info_parts info_cell
  generalize hps : ps.length = n at *
  obtain ⟨w1, hw1⟩ : ∃ w1, w1 = allocs w [Obj.cells #[Value.slice a n c, Value.int .i64 e, Value.bool h] 81, Obj.cells #[Value.slice none 0 0, Value.int .i64 0, Value.bool false] 81] := ⟨_, rfl⟩
  have HB1 : Hid (Below w.heap.size w w1) := by rw [hw1]; exact Lib.hid (allocs_below _ w)
  have hzw : w1.heap.size > w.heap.size + 1 := by rw [hw1, allocs_size]; simp
  have h0 : w1.heap[w.heap.size]? = some (.cells #[Value.slice a n c, Value.int .i64 e, Value.bool h] 81 (0, 0)) := by rw [hw1]; exact allocs_at _ w 0 _ rfl
  have HH1 : Hid (w1.heap[w.heap.size + 1]? = some (.cells #[Value.slice none 0 0, Value.int .i64 0, Value.bool false] 81 (0, 0))) := by rw [hw1]; exact Lib.hid (allocs_at _ w 1 _ rfl)
  have HR := Lib.hid hr
  have k0 : w1.cell? ⟨w.heap.size, 0, none⟩ = some (Value.slice a n c) := by rw [cell_at h0]; rfl
  have k1 : w1.cell? ⟨w.heap.size, 1, none⟩ = some (.int .i64 e) := by rw [cell_at h0]; rfl
  have k2 : w1.cell? ⟨w.heap.size, 2, none⟩ = some (.bool h) := by rw [cell_at h0]; rfl
  have H0 := Lib.hid h0
  have hh1 := HH1.out
  have zz := fun i => unfrozen hh1 i
  have r0 : w1.cell? ⟨w.heap.size + 1, 0, none⟩ = some (.slice none 0 0) := by rw [cell_at hh1]; rfl
  have r1 : w1.cell? ⟨w.heap.size + 1, 1, none⟩ = some (.int .i64 0) := by rw [cell_at hh1]; rfl
  have r2 : w1.cell? ⟨w.heap.size + 1, 2, none⟩ = some (.bool false) := by rw [cell_at hh1]; rfl
  clear h0 hr hh1
  obtain ⟨hN1, hN2⟩ := hN
  obtain ⟨M, hM⟩ : ∃ M, min N 40 = M := ⟨_, rfl⟩
  have HMM := Lib.hid hM
  go_enter Try.func76, Try.ntmps76
  go_upto_region 1 with fail
  rw [show (w.alloc (Obj.cells #[Value.slice a n c, Value.int .i64 e, Value.bool h] 81)).alloc (Obj.cells #[Value.slice none 0 0, Value.int .i64 0, Value.bool false] 81) = w1 from hw1.symm]
  clear hw1
  go_upto_region 2 with fail
  by_cases hle : M ≤ (n : Int)
  · have d : decide (M ≤ (n : Int)) = true := decide_eq_true hle
    have HE : Hid (padL ps N = ps) := by
      show _ = _
      have := HMM.out
      unfold padL
      rw [this, hps, show M.toNat - n = 0 by omega]; simp
    go_wp2_with fail
    have hs := set3_at HH1.out (Value.slice a n c) (.int .i64 e) (.bool h)
    have hB := set3_below HB1.out (show w.heap.size ≤ w.heap.size + 1 by omega) (Value.slice a n c) (.int .i64 e) (.bool h)
    have q0 : (set3 w1 (w.heap.size + 1) (Value.slice a n c) (.int .i64 e) (.bool h)).cell? ⟨w.heap.size + 1, 0, none⟩ = some (Value.slice a n c) := by rw [cell_at hs]; rfl
    have q1 : (set3 w1 (w.heap.size + 1) (Value.slice a n c) (.int .i64 e) (.bool h)).cell? ⟨w.heap.size + 1, 1, none⟩ = some (.int .i64 e) := by rw [cell_at hs]; rfl
    have q2 : (set3 w1 (w.heap.size + 1) (Value.slice a n c) (.int .i64 e) (.bool h)).cell? ⟨w.heap.size + 1, 2, none⟩ = some (.bool h) := by rw [cell_at hs]; rfl
    unfold set3 at hB q0 q1 q2
    exact bodyPost_ret (v := rowV a n c e h) (by simp [results, Try.results76, go_sem, q0, q1, q2]) rfl ⟨a, c, by rw [HE.out, hps], by rw [HE.out]; exact HR.out.below hB, hB⟩
  · have d : decide (M ≤ (n : Int)) = false := decide_eq_false hle
    obtain ⟨m, rfl⟩ := Int.eq_ofNat_of_zero_le (show 0 ≤ M by omega)
    have hm40 : m ≤ 40 := by omega
    have HE : Hid (padL ps N = ps ++ List.replicate (m - n) noneM) := by
      show _ = _
      have := HMM.out
      unfold padL
      rw [this, hps, Int.toNat_natCast]
    have hnm : n < m := by omega
    clear hM
    go_wp2_with (at_make; refine wpList_make_full _ rfl _ _ 74 rfl w.heap.size 50 i0 (.agg #[.slice none 0 0, .int .i64 0, .int .i64 0, .bool false]) 4 Try.underlying74 hi0 hz0 hz1 .i64 .i64 _ _ m rfl rfl rfl rfl ?b2 ?b3 ?b4 ?_)
    case b2 => omega
    case b3 => unfold maxLen; omega
    case b4 => omega
    intro w3 hown hgrow
    rw [show (madeCells #[Value.slice none 0 0, .int .i64 0, .int .i64 0, .bool false] (m * 4)).toList = ceC (List.replicate m noneM) from made_cells m] at hown
    have hb3 := (Below.refl w1.heap.size w1).grown hgrow (Nat.le_refl _) (by simp)
    have hg := (own_full hown).1
    have hk0 := (hb3.cell (p := ⟨w.heap.size, 0, none⟩) (by simp only; omega)).trans k0
    have hk1 := (hb3.cell (p := ⟨w.heap.size, 1, none⟩) (by simp only; omega)).trans k1
    have hk2 := (hb3.cell (p := ⟨w.heap.size, 2, none⟩) (by simp only; omega)).trans k2
    have HR3 := Lib.hid (HR.out.below (HB1.out.trans (hb3.mono (by omega))))
    have HG := Lib.hid hg
    have HB3 := Lib.hid hb3
    have HPS := Lib.hid hps
    have HCL : Hid ((ceC ps).length = n * 4) := by show _ = _; rw [ceC_len, hps]
    have HSZ : Hid ((Try.prog.info? 50).map (·.size) = some 4) := by show _ = _; rw [hi0]; exact congrArg some hz1
    clear hown hgrow hg hb3 k0 k1 k2 hps
    go_wp2_with (refine wpList_copyK rfl (.tmp 16) (.tmp 18) 74 74 rfl 50 Try.underlying74 4 HSZ.out w1.heap.size m m a n c (by simp [Act.eval]) (by simp [Act.eval]) (ceC (List.replicate m noneM)) 50 HG.out (ceC ps) n (by show n = min _ _; omega) HCL.out ?hp ?hf (ceC_one ps) w1.heap.size w1 HB3.out (Nat.le_refl _) ?_)
    case hp =>
      intro hpos
      rw [HCL.out] at hpos
      obtain ⟨g, off, e1, _, hc⟩ := HR3.out.rd.2 (by rw [HPS.out]; omega)
      exact ⟨_, e1, fun j v hj => by rw [Addr.add_lit]; exact hc j v hj⟩
    case hf => rw [HCL.out, ceC_len, List.length_replicate]; omega
    intro w4 hg4 hb4
    have HC4 : Hid (w4.heap[w1.heap.size]? = some (.cells (ceC (padL ps N)).toArray 50 (0, 0))) := by
      show _ = _
      rw [HE.out, hg4.out, HCL.out, ceC_app]
      congr 3
      rw [show m = n + (m - n) by omega, ← List.replicate_append_replicate, ceC_app, show n * 4 = (ceC (List.replicate n noneM)).length by rw [ceC_len, List.length_replicate], List.drop_left, Nat.add_sub_cancel_left]
    have HLen : Hid ((padL ps N).length = m) := by show _ = _; rw [HE.out, List.length_append, HPS.out, List.length_replicate]; omega
    have HB4 := Lib.hid hb4
    have hj0 := (hb4.cell (p := ⟨w.heap.size, 0, none⟩) (by simp only; omega)).trans ((HB3.out.cell (p := ⟨w.heap.size, 0, none⟩) (by simp only; omega)).symm.trans hk0)
    have hj1 := (hb4.cell (p := ⟨w.heap.size, 1, none⟩) (by simp only; omega)).trans ((HB3.out.cell (p := ⟨w.heap.size, 1, none⟩) (by simp only; omega)).symm.trans hk1)
    have hj2 := (hb4.cell (p := ⟨w.heap.size, 2, none⟩) (by simp only; omega)).trans ((HB3.out.cell (p := ⟨w.heap.size, 2, none⟩) (by simp only; omega)).symm.trans hk2)
    have HW := Lib.hid (rwith_of (w := w4) a n c e h (some ⟨w1.heap.size, 0, none⟩) m m)
    have hz4 := hb4.size
    clear hb4 hk0 hk1 hk2 hg4 r0 r1 r2 zz
    go_wp2_with fail
    refine HW.out.mono ?_; rintro e' w5 ⟨rfl, hb5⟩
    have HB5 := Lib.hid (HB1.out.trans ((HB4.out.trans (hb5.mono hz4)).mono (by omega)))
    have hh5 := ((HB4.out.trans (hb5.mono hz4)).block (w.heap.size + 1) (by omega)).trans HH1.out
    have HC5 := Lib.hid ((hb5.block w1.heap.size (lt_of_heap HC4.out)).trans HC4.out)
    have hz5 := hb5.size
    have zz := fun i => unfrozen hh5 i
    have r0 : w5.cell? ⟨w.heap.size + 1, 0, none⟩ = some (.slice none 0 0) := by rw [cell_at hh5]; rfl
    have r1 : w5.cell? ⟨w.heap.size + 1, 1, none⟩ = some (.int .i64 0) := by rw [cell_at hh5]; rfl
    have r2 : w5.cell? ⟨w.heap.size + 1, 2, none⟩ = some (.bool false) := by rw [cell_at hh5]; rfl
    have HH5 := Lib.hid hh5
    clear hh5 hb5 HW hj0 hj1 hj2
    go_wp2_with fail
    have hro : RoIn (set3 w5 (w.heap.size + 1) (.slice (some ⟨w1.heap.size, 0, none⟩) m m) (.int .i64 e) (.bool h)) l (some ⟨w1.heap.size, 0, none⟩) (padL ps N) := by
      have hbs := set3_below (B := w.heap.size + 1) ((Below.refl (w.heap.size + 1) w5)) (Nat.le_refl _) (.slice (some ⟨w1.heap.size, 0, none⟩) m m) (.int .i64 e) (.bool h)
      have hcs := (heap_set_other (w := (w5.setCell ⟨w.heap.size + 1, 0, none⟩ (.slice (some ⟨w1.heap.size, 0, none⟩) m m)).setCell ⟨w.heap.size + 1, 1, none⟩ (.int .i64 e)) (o := 2) (u := .bool h) (show w1.heap.size ≠ w.heap.size + 1 by omega)).trans ((heap_set_other (w := w5.setCell ⟨w.heap.size + 1, 0, none⟩ (.slice (some ⟨w1.heap.size, 0, none⟩) m m)) (o := 1) (u := .int .i64 e) (show w1.heap.size ≠ w.heap.size + 1 by omega)).trans ((heap_set_other (w := w5) (o := 0) (u := .slice (some ⟨w1.heap.size, 0, none⟩) m m) (show w1.heap.size ≠ w.heap.size + 1 by omega)).trans HC5.out))
      refine ⟨⟨by rw [ceC_len], fun _ => ⟨w1.heap.size, 0, rfl, lt_of_heap hcs, fun j u hj => ?_⟩⟩, fun q hq => ?_, fun d hd => ?_⟩
      · unfold set3
        rw [Nat.zero_add, cell_at hcs]; simpa using hj
      · rw [HE.out] at hq
        rcases List.mem_append.1 hq with hq | hq
        · exact (HR.out.below (set3_below HB5.out (show w.heap.size ≤ w.heap.size + 1 by omega) _ _ _)).ces q hq
        · rw [(List.mem_replicate.1 hq).2]; exact noneM_in _ _
      · injection hd with hd; subst hd; exact ⟨_, hcs⟩
    have hln := HLen.out
    have hs := set3_at HH5.out (.slice (some ⟨w1.heap.size, 0, none⟩) m m) (.int .i64 e) (.bool h)
    have hB := set3_below HB5.out (show w.heap.size ≤ w.heap.size + 1 by omega) (.slice (some ⟨w1.heap.size, 0, none⟩) m m) (.int .i64 e) (.bool h)
    have q0 : (set3 w5 (w.heap.size + 1) (.slice (some ⟨w1.heap.size, 0, none⟩) m m) (.int .i64 e) (.bool h)).cell? ⟨w.heap.size + 1, 0, none⟩ = some (.slice (some ⟨w1.heap.size, 0, none⟩) m m) := by rw [cell_at hs]; rfl
    have q1 : (set3 w5 (w.heap.size + 1) (.slice (some ⟨w1.heap.size, 0, none⟩) m m) (.int .i64 e) (.bool h)).cell? ⟨w.heap.size + 1, 1, none⟩ = some (.int .i64 e) := by rw [cell_at hs]; rfl
    have q2 : (set3 w5 (w.heap.size + 1) (.slice (some ⟨w1.heap.size, 0, none⟩) m m) (.int .i64 e) (.bool h)).cell? ⟨w.heap.size + 1, 2, none⟩ = some (.bool h) := by rw [cell_at hs]; rfl
    unfold set3 at hro hB q0 q1 q2
    exact bodyPost_ret (v := rowV (some ⟨w1.heap.size, 0, none⟩) m m e h) (by simp [results, Try.results76, go_sem, q0, q1, q2]) rfl ⟨some ⟨w1.heap.size, 0, none⟩, m, by rw [hln], hro, hB⟩

/-- Four cells of a block are written. -/
def put4 (w : World) (b o : Nat) (u0 u1 u2 u3 : Value) : World := (((w.setCell ⟨b, o, none⟩ u0).setCell ⟨b, o + 1, none⟩ u1).setCell ⟨b, o + 2, none⟩ u2).setCell ⟨b, o + 3, none⟩ u3
theorem put4_other {w : World} {b o b' : Nat} {u0 u1 u2 u3 : Value} (hn : b' ≠ b) : (put4 w b o u0 u1 u2 u3).heap[b']? = w.heap[b']? := by
  unfold put4
  rw [heap_set_other hn, heap_set_other hn, heap_set_other hn, heap_set_other hn]
theorem put4_below {B b o : Nat} {a w : World} {u0 u1 u2 u3 : Value} (h : Below B a w) (hb : B ≤ b) : Below B a (put4 w b o u0 u1 u2 u3) :=
  (((h.setCell (p := ⟨b, o, none⟩) hb _).setCell (p := ⟨b, o + 1, none⟩) hb _).setCell (p := ⟨b, o + 2, none⟩) hb _).setCell (p := ⟨b, o + 3, none⟩) hb _
theorem put4_own {w : World} {B g c i : Nat} {L : List CelM} {M : CelM} (h : w.ownsRow B 50 4 (.slice (some ⟨g, 0, none⟩) L.length c) L.length (ceC L)) (hi : i < L.length) :
    (put4 w g (i * 4) (.slice M.a M.n M.c) (.int .i64 M.x) (.int .i64 M.y) (.bool M.k)).ownsRow B 50 4 (.slice (some ⟨g, 0, none⟩) (L.set i M).length c) (L.set i M).length (ceC (L.set i M)) := by
  rcases h.2 with ⟨h1, _⟩ | ⟨g', cap, cur, h1, hB, hg, hnc, hcm, hsz, ht⟩
  · cases h1
  · simp only [Value.slice.injEq, Option.some.injEq, Addr.mk.injEq, and_true, true_and] at h1
    obtain ⟨rfl, rfl⟩ := h1
    rw [List.length_set]
    refine ⟨by rw [ceC_len, List.length_set], .inr ⟨g, c, _, rfl, hB, (by unfold put4; exact heap_set_at (heap_set_at (heap_set_at (heap_set_at hg)))), hnc, hcm, by simp [hsz], ?_⟩⟩
    apply List.ext_getElem?
    intro j
    by_cases hj : j < L.length * 4
    · have hjc : j < cur.size := by rw [hsz]; omega
      have h0 : cur[j]? = (ceC L)[j]? := by
        rw [← ht, List.getElem?_take, if_pos hj, Array.getElem?_toList]
      have hs : (ceC (L.set i M))[j]? = if j / 4 = i then (ceC1 M)[j % 4]? else (ceC L)[j]? := by
        rw [ceC_at4 _ j (by rw [List.length_set]; exact hj), List.getElem_set]
        by_cases hji : i = j / 4
        · rw [if_pos hji, if_pos hji.symm]
        · rw [if_neg hji, if_neg (fun e => hji e.symm), ceC_at4 _ j hj]
      rw [hs, List.getElem?_take, if_pos hj, Array.getElem?_toList]
      simp only [Array.getElem?_setIfInBounds, Array.size_setIfInBounds]
      by_cases hji : j / 4 = i
      · rw [if_pos hji]
        have h4 := Nat.mod_lt j (show 0 < 4 by omega)
        rcases (show j % 4 = 0 ∨ j % 4 = 1 ∨ j % 4 = 2 ∨ j % 4 = 3 by omega) with h | h | h | h
        · rw [if_neg (by omega), if_neg (by omega), if_neg (by omega), if_pos (by omega), if_pos (by omega), h]; rfl
        · rw [if_neg (by omega), if_neg (by omega), if_pos (by omega), if_pos (by omega), h]; rfl
        · rw [if_neg (by omega), if_pos (by omega), if_pos (by omega), h]; rfl
        · rw [if_pos (by omega), if_pos (by omega), h]; rfl
      · rw [if_neg hji, if_neg (by omega), if_neg (by omega), if_neg (by omega), if_neg (by omega), h0]
    · rw [List.getElem?_eq_none (by rw [List.length_take]; omega), List.getElem?_eq_none (by rw [ceC_len, List.length_set]; omega)]

set_option maxRecDepth 100000 in
set_option maxHeartbeats 2000000 in
theorem rfresh_of {w : World} (l : List UInt8) (N E : Int) (hN : I64 N) :
    Calls Try.prog 48 #[.int .i64 N, .int .i64 E] w fun e' w' => ∃ a' c', e' = .returned (rowV a' (padL [] (max N 1)).length c' E false) ∧ RoIn w' l a' (padL [] (max N 1)) ∧ Below w.heap.size w w' := by
  have al := below_al w (Obj.cells #[Value.slice none 0 0, Value.int .i64 0, Value.bool false] 81)
  have hh0 := heap_alloc_new w (Obj.cells #[Value.slice none 0 0, Value.int .i64 0, Value.bool false] 81)
  have hzw : (w.alloc (Obj.cells #[Value.slice none 0 0, Value.int .i64 0, Value.bool false] 81)).heap.size > w.heap.size := by simp
  obtain ⟨M, hM⟩ : ∃ M, max N 1 = M := ⟨_, rfl⟩
  have hMI : I64 M := by obtain ⟨h1, h2⟩ := hN; unfold I64; omega
  have HMM := Lib.hid hM
  go_enter Try.func48, Try.ntmps48
  go_upto_region 1 with fail
  generalize w.alloc (Obj.cells #[Value.slice none 0 0, Value.int .i64 0, Value.bool false] 81) = w1 at *
  have HP := Lib.hid (rpad_of (w := w1) (l := l) (a := none) (c := 0) (e := E) (h := false) (ps := []) M ⟨⟨rfl, fun hn => absurd hn (by simp)⟩, (fun q hq => by simp at hq), (fun d hd => by cases hd)⟩ (by simp) hMI)
  have HB1 := Lib.hid al
  have HH1 := Lib.hid hh0
  clear al hh0 hMI hN
  go_wp2_with fail
  refine HP.out.mono ?_; rintro e' w5 ⟨a', c', rfl, hro5, hb5⟩
  have HB5 := Lib.hid (HB1.out.trans (hb5.mono (by omega)))
  have hh5 := (hb5.block w.heap.size (by omega)).trans HH1.out
  have zz := fun i => unfrozen hh5 i
  have r0 : w5.cell? ⟨w.heap.size, 0, none⟩ = some (.slice none 0 0) := by rw [cell_at hh5]; rfl
  have r1 : w5.cell? ⟨w.heap.size, 1, none⟩ = some (.int .i64 0) := by rw [cell_at hh5]; rfl
  have r2 : w5.cell? ⟨w.heap.size, 2, none⟩ = some (.bool false) := by rw [cell_at hh5]; rfl
  have HH5 := Lib.hid hh5
  have HR5 := Lib.hid hro5
  have hz5 := hb5.size
  obtain ⟨k, hk⟩ : ∃ k, (padL [] M).length = k := ⟨_, rfl⟩
  have HKK := Lib.hid hk
  rw [hk]
  clear hh5 hb5 hro5 HP hk
  go_wp2_with fail
  have hro := HR5.out.set3 (u0 := .slice a' k c') (u1 := .int .i64 E) (u2 := .bool false) HH5.out (by decide) (by decide)
  rw [HMM.out, HKK.out]
  have hs := set3_at HH5.out (.slice a' k c') (.int .i64 E) (.bool false)
  have hB := set3_below HB5.out (Nat.le_refl _) (.slice a' k c') (.int .i64 E) (.bool false)
  have q0 : (set3 w5 (w.heap.size) (.slice a' k c') (.int .i64 E) (.bool false)).cell? ⟨w.heap.size, 0, none⟩ = some (.slice a' k c') := by rw [cell_at hs]; rfl
  have q1 : (set3 w5 (w.heap.size) (.slice a' k c') (.int .i64 E) (.bool false)).cell? ⟨w.heap.size, 1, none⟩ = some (.int .i64 E) := by rw [cell_at hs]; rfl
  have q2 : (set3 w5 (w.heap.size) (.slice a' k c') (.int .i64 E) (.bool false)).cell? ⟨w.heap.size, 2, none⟩ = some (.bool false) := by rw [cell_at hs]; rfl
  unfold set3 at hro hB q0 q1 q2
  exact bodyPost_ret (v := rowV a' k c' E false) (by simp [results, Try.results48, go_sem, q0, q1, q2]) rfl ⟨a', c', rfl, hro, hB⟩

theorem rfield0 (w : World) (a : Option Addr) (n c : Nat) (e : Int) (h : Bool) : Sem.run Try.prog (Instr.field 81 (.agg #[.slice a n c, .int .i64 e, .bool h]) 0) w = .ok (.slice a n c) w := by
  have u := Try.underlying81
  have a1 := Try.isAgg74
  have z1 := Try.sizeOf74
  unfold Instr.field
  go_simp
  rfl
/-- A row with another cell. -/
def setL (ps : List CelM) (i : Nat) (M : CelM) : List CelM := (padL ps ((i : Int) + 1)).set i M
theorem padL_len (ps : List CelM) (N : Int) : (padL ps N).length = max ps.length (min N 40).toNat := by unfold padL; rw [List.length_append, List.length_replicate]; omega
theorem setL_len (ps : List CelM) (i : Nat) (M : CelM) : (setL ps i M).length = max ps.length (min (i + 1) 40) := by unfold setL; rw [List.length_set, padL_len]; omega

set_option maxRecDepth 100000 in
set_option maxHeartbeats 2000000 in
theorem rset_of {w : World} {l : List UInt8} {a : Option Addr} {c : Nat} {e : Int} {h : Bool} {ps : List CelM} {M : CelM} (i : Nat) (hi : i < 40) (hr : RoIn w l a ps) (hM : CeIn w 0 l M) (hl : ps.length ≤ 100000) :
    Calls Try.prog 71 #[rowV a ps.length c e h, .int .i64 i, .agg #[.slice M.a M.n M.c, .int .i64 M.x, .int .i64 M.y, .bool M.k]] w fun e' w' => ∃ a' c', e' = .returned (.tuple #[rowV a' (setL ps i M).length c' e h, .int .i64 0]) ∧ RoIn w' l a' (setL ps i M) ∧ Below w.heap.size w w' := by
  obtain ⟨w1, hw1⟩ : ∃ w1, w1 = allocs w [Obj.cells #[Value.slice a ps.length c, Value.int .i64 e, Value.bool h] 81, Obj.cells #[Value.slice M.a M.n M.c, Value.int .i64 M.x, Value.int .i64 M.y, Value.bool M.k] 50, Obj.cells #[Value.slice none 0 0, Value.int .i64 0, Value.bool false] 81] := ⟨_, rfl⟩
  have HB1 : Hid (Below w.heap.size w w1) := by rw [hw1]; exact Lib.hid (allocs_below _ w)
  have hzw : w1.heap.size > w.heap.size + 2 := by rw [hw1, allocs_size]; simp
  have h0 : w1.heap[w.heap.size]? = some (.cells #[Value.slice a ps.length c, Value.int .i64 e, Value.bool h] 81 (0, 0)) := by rw [hw1]; exact allocs_at _ w 0 _ rfl
  have h1 : w1.heap[w.heap.size + 1]? = some (Obj.cells #[Value.slice M.a M.n M.c, Value.int .i64 M.x, Value.int .i64 M.y, Value.bool M.k] 50) := by rw [hw1]; exact allocs_at _ w 1 _ rfl
  have HH1 : Hid (w1.heap[w.heap.size + 2]? = some (.cells #[Value.slice none 0 0, Value.int .i64 0, Value.bool false] 81 (0, 0))) := by rw [hw1]; exact Lib.hid (allocs_at _ w 2 _ rfl)
  have HP := Lib.hid (rpad_of (c := c) (e := e) (h := h) ((i : Int) + 1) (hr.below HB1.out) (by omega) (by unfold I64; omega))
  have HMc := Lib.hid (hM.below HB1.out)
  obtain ⟨n, hn⟩ : ∃ n, ps.length = n := ⟨_, rfl⟩
  have hpl := padL_len ps ((i : Int) + 1)
  have HPL := Lib.hid hpl
  have HN := Lib.hid hn
  rw [hn] at h0 hw1 HP
  rw [hn]
  have k0 : w1.cell? ⟨w.heap.size, 0, none⟩ = some (Value.slice a n c) := by rw [cell_at h0]; rfl
  have k1 : w1.cell? ⟨w.heap.size, 1, none⟩ = some (.int .i64 e) := by rw [cell_at h0]; rfl
  have k2 : w1.cell? ⟨w.heap.size, 2, none⟩ = some (.bool h) := by rw [cell_at h0]; rfl
  have H0 := Lib.hid h0
  have H1 := Lib.hid h1
  have d1 : decide ((i : Int) < 0) = false := decide_eq_false (by omega)
  have d2 : decide ((40 : Int) ≤ (i : Int)) = false := decide_eq_false (by omega)
  have d2' : decide (40 ≤ i) = false := decide_eq_false (by omega)
  clear h0 h1 hr hM hpl hn
  go_enter Try.func71, Try.ntmps71
  go_upto_region 1 with fail
  rw [show ((w.alloc (Obj.cells #[Value.slice a n c, Value.int .i64 e, Value.bool h] 81)).alloc (Obj.cells #[Value.slice M.a M.n M.c, Value.int .i64 M.x, Value.int .i64 M.y, Value.bool M.k] 50)).alloc (Obj.cells #[Value.slice none 0 0, Value.int .i64 0, Value.bool false] 81) = w1 from hw1.symm]
  clear hw1
  go_wp2_with fail
  refine HP.out.mono ?_; rintro e' w2 ⟨a2, c2, rfl, hro2, hb2⟩
  have hpos : 0 < (padL ps ((i : Int) + 1)).length := by rw [HPL.out]; omega
  have hil : i < (padL ps ((i : Int) + 1)).length := by rw [HPL.out]; omega
  have hsl := setL_len ps i M
  have HCL := Lib.hid (cclone_of (c := c2) hro2.rd (by rw [HPL.out]; omega) hpos)
  have HB2 := Lib.hid (HB1.out.trans (hb2.mono (by omega)))
  have HRO := Lib.hid hro2
  have hz2 := hb2.size
  have H02 := Lib.hid ((hb2.block _ (lt_of_heap H0.out)).trans H0.out)
  have H12 := Lib.hid ((hb2.block _ (lt_of_heap H1.out)).trans H1.out)
  have HH2 := Lib.hid ((hb2.block _ (by omega)).trans HH1.out)
  have HM2 := Lib.hid (HMc.out.below hb2)
  generalize hL : padL ps ((i : Int) + 1) = L at *
  have HLE := Lib.hid hL
  clear hL
  clear hro2 hb2 HP H0 H1 HH1 HMc hpos k0 k1 k2 hsl
  have HIL := Lib.hid hil
  have HLL : Hid (L.length = L.length) := Lib.hid rfl
  obtain ⟨m, hm⟩ : ∃ m, L.length = m := ⟨_, rfl⟩
  rw [hm] at HCL hil
  rw [hm]
  have HMM := Lib.hid hm
  clear hm
  unfold rowV
  have hfd := fun (w : World) => rfield0 w a2 m c2 e h
  go_wp2_with fail
  refine HCL.out.mono ?_; rintro e' w3 ⟨v3, rfl, ho3, hb3⟩
  obtain ⟨a3, c3, rfl⟩ := own_slice ho3
  have hIL0 := HIL.out
  rcases own_form ho3 with ⟨_, h0⟩ | ⟨g, rfl, hgB, hg⟩
  · omega
  have hm1 : (m : Int) > i := by omega
  have HB3 := Lib.hid (HB2.out.trans (hb3.mono (by omega)))
  have h03 := (hb3.block _ (lt_of_heap H02.out)).trans H02.out
  have h13 := (hb3.block _ (lt_of_heap H12.out)).trans H12.out
  have HH3 := Lib.hid ((hb3.block _ (lt_of_heap HH2.out)).trans HH2.out)
  have HM3 := Lib.hid (HM2.out.below hb3)
  have HRO3 := Lib.hid (HRO.out.below hb3)
  have HMML := HMM.out
  have ho3' : w3.ownsRow w2.heap.size 50 4 (.slice (some ⟨g, 0, none⟩) L.length c3) L.length (ceC L) := by rw [HMM.out]; exact ho3
  have HO3 := Lib.hid ho3'
  obtain ⟨cs3, hcs3⟩ := own_cellsAt ho3
  have zz := fun i => unfrozen hcs3 i
  have x0 := own_cells ho3' ((ceC_at L i L[i] 0 (List.getElem?_eq_getElem hIL0) (by omega)).trans rfl)
  have x1 := own_cells ho3' ((ceC_at L i L[i] 1 (List.getElem?_eq_getElem hIL0) (by omega)).trans rfl)
  have x2 := own_cells ho3' ((ceC_at L i L[i] 2 (List.getElem?_eq_getElem hIL0) (by omega)).trans rfl)
  have x3 := own_cells ho3' ((ceC_at L i L[i] 3 (List.getElem?_eq_getElem hIL0) (by omega)).trans rfl)
  rw [Nat.add_zero] at x0
  have k0 : w3.cell? ⟨w.heap.size + 1, 0, none⟩ = some (.slice M.a M.n M.c) := by rw [cell_at h13]; rfl
  have k1 : w3.cell? ⟨w.heap.size + 1, 1, none⟩ = some (.int .i64 M.x) := by rw [cell_at h13]; rfl
  have k2 : w3.cell? ⟨w.heap.size + 1, 2, none⟩ = some (.int .i64 M.y) := by rw [cell_at h13]; rfl
  have k3 : w3.cell? ⟨w.heap.size + 1, 3, none⟩ = some (.bool M.k) := by rw [cell_at h13]; rfl
  have H03 := Lib.hid h03
  have e0 : (0 : Int) ≤ (i : Int) := by omega
  have e1 : (i : Int) < (m : Int) := by omega
  clear ho3 ho3' hb3 h03 h13 hcs3 HCL H02 H12 HH2 HM2 HRO HMML
  go_upto_region 5 with fail
  obtain ⟨w4, hw4⟩ : ∃ w4, w4 = put4 w3 g (i * 4) (Value.slice M.a M.n M.c) (Value.int IntKind.i64 M.x) (Value.int IntKind.i64 M.y) (Value.bool M.k) := ⟨_, rfl⟩
  rw [show (((w3.setCell ⟨g, i * 4, none⟩ (Value.slice M.a M.n M.c)).setCell ⟨g, i * 4 + 1, none⟩ (Value.int IntKind.i64 M.x)).setCell ⟨g, i * 4 + 2, none⟩ (Value.int IntKind.i64 M.y)).setCell ⟨g, i * 4 + 3, none⟩ (Value.bool M.k) = w4 from hw4.symm]
  have HO4 : Hid (w4.ownsRow w2.heap.size 50 4 (.slice (some ⟨g, 0, none⟩) (L.set i M).length c3) (L.set i M).length (ceC (L.set i M))) := by rw [hw4]; exact Lib.hid (put4_own HO3.out hIL0)
  have hb4 : Below w2.heap.size w3 w4 := by rw [hw4]; exact put4_below (Below.refl _ _) hgB
  have HB4 := Lib.hid (HB3.out.trans (hb4.mono (by omega)))
  have h04 : w4.heap[w.heap.size]? = some (.cells #[Value.slice a n c, Value.int .i64 e, Value.bool h] 81 (0, 0)) := (hb4.block _ (by omega)).trans H03.out
  have HH4 : Hid (w4.heap[w.heap.size + 2]? = some (.cells #[Value.slice none 0 0, Value.int .i64 0, Value.bool false] 81 (0, 0))) := Lib.hid ((hb4.block _ (by omega)).trans HH3.out)
  have y0 : w4.cell? ⟨w.heap.size, 0, none⟩ = some (Value.slice a n c) := by rw [cell_at h04]; rfl
  have y1 : w4.cell? ⟨w.heap.size, 1, none⟩ = some (.int .i64 e) := by rw [cell_at h04]; rfl
  have y2 : w4.cell? ⟨w.heap.size, 2, none⟩ = some (.bool h) := by rw [cell_at h04]; rfl
  have HRO4 : Hid (CesIn w4 0 l (L.set i M)) := Lib.hid (fun q hq => by
    have hset : ∀ (P : CelM) , CeIn w3 0 l P → CeIn w4 0 l P := fun P hP => by
      rw [hw4]
      obtain ⟨cs, hcs⟩ := own_cellsAt HO3.out
      exact ⟨(((hP.tx.setT hcs (by decide)).setT (heap_set_at hcs) (by decide)).setT (heap_set_at (heap_set_at hcs)) (by decide)).setT (heap_set_at (heap_set_at (heap_set_at hcs))) (by decide), hP.inl⟩
    rcases List.mem_or_eq_of_mem_set hq with hq | rfl
    · exact hset q (HRO3.out.ces q hq)
    · exact hset q HM3.out)
  have HW := Lib.hid (rwith_of (w := w4) a n c e h (some ⟨g, 0, none⟩) m c3)
  have hz4 := hb4.size
  have hgz : g < w4.heap.size := by omega
  clear h04 hb4 hw4 HO3 HRO3 HM3 H03 HH3 HB3 x0 x1 x2 x3 k0 k1 k2 k3 zz
  go_wp2_with fail
  refine HW.out.mono ?_; rintro e' w5 ⟨rfl, hb5⟩
  have HB5 := Lib.hid (HB4.out.trans (hb5.mono (by omega)))
  have hh5 := (hb5.block _ (lt_of_heap HH4.out)).trans HH4.out
  have hro := own_ro (own_below HO4.out hb5) (HRO4.out.below hb5)
  have HR5 := Lib.hid hro
  have zz := fun i => unfrozen hh5 i
  have r0 : w5.cell? ⟨w.heap.size + 1 + 1, 0, none⟩ = some (.slice none 0 0) := by rw [cell_at hh5]; rfl
  have r1 : w5.cell? ⟨w.heap.size + 1 + 1, 1, none⟩ = some (.int .i64 0) := by rw [cell_at hh5]; rfl
  have r2 : w5.cell? ⟨w.heap.size + 1 + 1, 2, none⟩ = some (.bool false) := by rw [cell_at hh5]; rfl
  have HH5 := Lib.hid hh5
  clear hh5 hb5 HW y0 y1 y2 hro
  go_wp2_with fail
  have hro := HR5.out.set3 (u0 := .slice (some ⟨g, 0, none⟩) m c3) (u1 := .int .i64 e) (u2 := .bool h) HH5.out (by decide) (by decide)
  have hlm : (setL ps i M).length = m := by unfold setL; rw [List.length_set, HLE.out, HMM.out]
  have hsl : setL ps i M = L.set i M := by unfold setL; rw [HLE.out]
  have hs := set3_at HH5.out (.slice (some ⟨g, 0, none⟩) m c3) (.int .i64 e) (.bool h)
  have hB := set3_below HB5.out (show w.heap.size ≤ w.heap.size + 1 + 1 by omega) (.slice (some ⟨g, 0, none⟩) m c3) (.int .i64 e) (.bool h)
  have q0 : (set3 w5 (w.heap.size + 1 + 1) (.slice (some ⟨g, 0, none⟩) m c3) (.int .i64 e) (.bool h)).cell? ⟨w.heap.size + 1 + 1, 0, none⟩ = some (.slice (some ⟨g, 0, none⟩) m c3) := by rw [cell_at hs]; rfl
  have q1 : (set3 w5 (w.heap.size + 1 + 1) (.slice (some ⟨g, 0, none⟩) m c3) (.int .i64 e) (.bool h)).cell? ⟨w.heap.size + 1 + 1, 1, none⟩ = some (.int .i64 e) := by rw [cell_at hs]; rfl
  have q2 : (set3 w5 (w.heap.size + 1 + 1) (.slice (some ⟨g, 0, none⟩) m c3) (.int .i64 e) (.bool h)).cell? ⟨w.heap.size + 1 + 1, 2, none⟩ = some (.bool h) := by rw [cell_at hs]; rfl
  unfold set3 at hro hB q0 q1 q2
  exact bodyPost_ret (v := .tuple #[rowV (some ⟨g, 0, none⟩) m c3 e h, .int .i64 0]) (by simp [results, Try.results71, go_sem, q0, q1, q2]) rfl ⟨some ⟨g, 0, none⟩, c3, by rw [hlm], by rw [hsl]; exact hro, hB⟩

set_option maxRecDepth 100000 in
set_option maxHeartbeats 2000000 in
theorem rat_of {w : World} {l : List UInt8} {a : Option Addr} {c : Nat} {e : Int} {h : Bool} {ps : List CelM} (i : Nat) (hi : i < ps.length) (hr : RoIn w l a ps) (hl : ps.length ≤ 100000) :
    Calls Try.prog 43 #[rowV a ps.length c e h, .int .i64 i] w fun e' w' => e' = .returned (.tuple #[.agg #[.slice ps[i].a ps[i].n ps[i].c, .int .i64 ps[i].x, .int .i64 ps[i].y, .bool ps[i].k], .bool true]) ∧ Below w.heap.size w w' := by
  obtain ⟨w1, hw1⟩ : ∃ w1, w1 = allocs w [Obj.cells #[Value.slice a ps.length c, Value.int .i64 e, Value.bool h] 81, Obj.cells #[Value.slice none 0 0, Value.int .i64 0, Value.int .i64 0, Value.bool false] 50] := ⟨_, rfl⟩
  have HB1 : Hid (Below w.heap.size w w1) := by rw [hw1]; exact Lib.hid (allocs_below _ w)
  have hzw : w1.heap.size > w.heap.size + 1 := by rw [hw1, allocs_size]; simp
  have h0 : w1.heap[w.heap.size]? = some (.cells #[Value.slice a ps.length c, Value.int .i64 e, Value.bool h] 81 (0, 0)) := by rw [hw1]; exact allocs_at _ w 0 _ rfl
  have HH1 : Hid (w1.heap[w.heap.size + 1]? = some (Obj.cells #[Value.slice none 0 0, Value.int .i64 0, Value.int .i64 0, Value.bool false] 50)) := by rw [hw1]; exact Lib.hid (allocs_at _ w 1 _ rfl)
  obtain ⟨g, o, rfl, hg, x0, x1, x2, x3⟩ := rd_cell hr.rd hi
  generalize ps[i] = M at *
  generalize ps.length = n at *
  have k0 : w1.cell? ⟨w.heap.size, 0, none⟩ = some (Value.slice (some ⟨g, o, none⟩) n c) := by rw [cell_at h0]; rfl
  have k1 : w1.cell? ⟨w.heap.size, 1, none⟩ = some (.int .i64 e) := by rw [cell_at h0]; rfl
  have k2 : w1.cell? ⟨w.heap.size, 2, none⟩ = some (.bool h) := by rw [cell_at h0]; rfl
  have HHas := Lib.hid (fun w' => rhas_of (w := w') (some ⟨g, o, none⟩) n c e h (i : Int))
  rw [decide_eq_true (show (0 : Int) ≤ (i : Int) ∧ (i : Int) < (n : Int) by omega)] at HHas
  have H0 := Lib.hid h0
  have e0 : (0 : Int) ≤ (i : Int) := by omega
  have e1 : (i : Int) < (n : Int) := by omega
  clear h0 hr
  go_enter Try.func43, Try.ntmps43
  go_upto_region 1 with fail
  rw [show (w.alloc (Obj.cells #[Value.slice (some ⟨g, o, none⟩) n c, Value.int .i64 e, Value.bool h] 81)).alloc (Obj.cells #[Value.slice none 0 0, Value.int .i64 0, Value.int .i64 0, Value.bool false] 50) = w1 from hw1.symm]
  clear hw1
  go_wp2_with fail
  refine (HHas.out _).mono ?_; rintro e' w2 ⟨rfl, hb2⟩
  have HB2 := Lib.hid (HB1.out.trans (hb2.mono (by omega)))
  have h02 := (hb2.block _ (lt_of_heap H0.out)).trans H0.out
  have hh2 := (hb2.block _ (lt_of_heap HH1.out)).trans HH1.out
  have zz := fun i => unfrozen hh2 i
  have hbx := HB1.out.trans (hb2.mono (by omega))
  have x0' := (hbx.cell (p := ⟨g, o + i * 4, none⟩) hg).trans x0
  have x1' := (hbx.cell (p := ⟨g, o + i * 4 + 1, none⟩) hg).trans x1
  have x2' := (hbx.cell (p := ⟨g, o + i * 4 + 2, none⟩) hg).trans x2
  have x3' := (hbx.cell (p := ⟨g, o + i * 4 + 3, none⟩) hg).trans x3
  have y0 : w2.cell? ⟨w.heap.size, 0, none⟩ = some (.slice (some ⟨g, o, none⟩) n c) := by rw [cell_at h02]; rfl
  have r0 : w2.cell? ⟨w.heap.size + 1, 0, none⟩ = some (.slice none 0 0) := by rw [cell_at hh2]; rfl
  have r1 : w2.cell? ⟨w.heap.size + 1, 1, none⟩ = some (.int .i64 0) := by rw [cell_at hh2]; rfl
  have r2 : w2.cell? ⟨w.heap.size + 1, 2, none⟩ = some (.int .i64 0) := by rw [cell_at hh2]; rfl
  have r3 : w2.cell? ⟨w.heap.size + 1, 3, none⟩ = some (.bool false) := by rw [cell_at hh2]; rfl
  have HH2 := Lib.hid hh2
  clear hb2 h02 hh2 hbx x0 x1 x2 x3 HHas k0 k1 k2
  go_wp2_with fail
  have hs := set4_at HH2.out (.slice M.a M.n M.c) (.int .i64 M.x) (.int .i64 M.y) (.bool M.k)
  have hB := set4_below HB2.out (show w.heap.size ≤ w.heap.size + 1 by omega) (.slice M.a M.n M.c) (.int .i64 M.x) (.int .i64 M.y) (.bool M.k)
  have q0 : (set4 w2 (w.heap.size + 1) (.slice M.a M.n M.c) (.int .i64 M.x) (.int .i64 M.y) (.bool M.k)).cell? ⟨w.heap.size + 1, 0, none⟩ = some (.slice M.a M.n M.c) := by rw [cell_at hs]; rfl
  have q1 : (set4 w2 (w.heap.size + 1) (.slice M.a M.n M.c) (.int .i64 M.x) (.int .i64 M.y) (.bool M.k)).cell? ⟨w.heap.size + 1, 1, none⟩ = some (.int .i64 M.x) := by rw [cell_at hs]; rfl
  have q2 : (set4 w2 (w.heap.size + 1) (.slice M.a M.n M.c) (.int .i64 M.x) (.int .i64 M.y) (.bool M.k)).cell? ⟨w.heap.size + 1, 2, none⟩ = some (.int .i64 M.y) := by rw [cell_at hs]; rfl
  have q3 : (set4 w2 (w.heap.size + 1) (.slice M.a M.n M.c) (.int .i64 M.x) (.int .i64 M.y) (.bool M.k)).cell? ⟨w.heap.size + 1, 3, none⟩ = some (.bool M.k) := by rw [cell_at hs]; rfl
  unfold set4 at hB q0 q1 q2 q3
  exact bodyPost_ret (v := .tuple #[.agg #[.slice M.a M.n M.c, .int .i64 M.x, .int .i64 M.y, .bool M.k], .bool true]) (by simp [results, Try.results43, go_sem, q0, q1, q2, q3]) rfl ⟨rfl, hB⟩

/-- A cell as a field. -/
def prP (l : List UInt8) (p : CelM) : List UInt8 := if p.k = true then subL l p.x p.y else putP (atL l p.t)
/-- Fields with commas between them. -/
def jnP : List (List UInt8) → List UInt8
  | [] => []
  | x :: xs => x ++ xs.flatMap fun y => 44 :: y
theorem jnP_snoc (xs : List (List UInt8)) (x : List UInt8) : jnP (xs ++ [x]) = if xs = [] then x else jnP xs ++ 44 :: x := by
  cases xs with
  | nil => simp [jnP]
  | cons y ys => simp [jnP, List.flatMap_append]
theorem prP_len {l : List UInt8} {p : CelM} (hl : l.length ≤ 16384) (ht : p.t.length ≤ 20000) : (prP l p).length ≤ 40002 := by
  unfold prP
  split
  · unfold subL; split
    · rw [List.length_take, List.length_drop]; omega
    · simp
  · have := putP_len (atL l p.t)
    rw [atL_len] at this; omega
theorem cprint_of {w : World} {B B' p : Nat} {l : List UInt8} {m : CelM} (h : Ar w B p l) (hl : l.length ≤ 16384) (hm : CeIn w B' l m) :
    Calls Try.prog 17 #[.agg #[.slice m.a m.n m.c, .int .i64 m.x, .int .i64 m.y, .bool m.k], .pointer (some ⟨p, 0, none⟩)] w (BytesPost (prP l m) w) := by
  obtain ⟨a, n, c, x, y, k, t⟩ := m
  cases k with
  | false => exact cprint_text x y h hl hm.tx.tx hm.inl
  | true => exact cprint_kept x y h hl
/-- A bound of a line's bytes. -/
def lim (k : Nat) : Nat := k * 50000
theorem lim_zero : lim 0 = 0 := rfl
theorem lim_step (k : Nat) : lim (k + 1) = lim k + 50000 := by unfold lim; rw [Nat.add_mul]
theorem lim_le {k : Nat} (h : k ≤ 1000) : lim k ≤ 50000000 := by unfold lim; omega
/-- What holds at the head of Print's loop. -/
def PrJ (l : List UInt8) (ps : List CelM) (w : World) (v5 v11 : Value) (wr : World) : Prop := ∃ (k n : Nat) (a5 : Option Addr) (c5 : Nat), k ≤ ps.length ∧ v11 = .int .i64 k ∧ v5 = .slice a5 n c5 ∧ n = (jnP ((ps.take k).map (prP l))).length ∧ n ≤ lim k ∧ wr.ownsRow w.heap.size 5 1 (.slice a5 n c5) n (bc (jnP ((ps.take k).map (prP l)))) ∧ Below w.heap.size w wr

set_option maxRecDepth 100000 in
set_option maxHeartbeats 4000000 in
theorem rprint_of {w : World} {B p : Nat} {l : List UInt8} {a : Option Addr} {c : Nat} {e : Int} {h : Bool} {ps : List CelM} (hA : Ar w B p l) (hl : l.length ≤ 16384) (hr : RoIn w l a ps) (hn : ps.length ≤ 1000) :
    Calls Try.prog 36 #[rowV a ps.length c e h, .pointer (some ⟨p, 0, none⟩)] w (BytesPost (jnP (ps.map (prP l))) w) := by
  obtain ⟨i0, hi0, hz0, hz1, hz2⟩ := info_parts info_u8
  have al := below_al w (Obj.cells #[Value.slice a ps.length c, Value.int .i64 e, Value.bool h] 81)
  have k0 : (w.alloc (Obj.cells #[Value.slice a ps.length c, Value.int .i64 e, Value.bool h] 81)).cell? ⟨w.heap.size, 0, none⟩ = some (.slice a ps.length c) := by rw [cell_at (heap_alloc_new w _)]; rfl
  have HA1 := Lib.hid hA
  have HR1 := Lib.hid hr
  have HB0 := Lib.hid al
  clear al hA hr
  go_enter Try.func36, Try.ntmps36
  go_wp2_with fail
  clear k0
  generalize w.alloc (Obj.cells #[Value.slice a ps.length c, Value.int .i64 e, Value.bool h] 81) = w1 at *
  go_loopw [5, 11] (fun v5 v11 wr => PrJ l ps w v5 v11 wr) (fun _ v11 _ => ps.length - (intOf v11).toNat)
  case atStart => exact ⟨0, 0, none, 0, by omega, rfl, rfl, by simp [jnP], by rw [lim_zero]; omega, by simpa [jnP, bc] using own_nil _ _ _ _, HB0.out⟩
  case round =>
    obtain ⟨k, n, a5, c5, hk, rfl, rfl, hnn, hnk, ho, hb⟩ := hrel
    have HO := Lib.hid ho
    have HB := Lib.hid hb
    have HNN := Lib.hid hnn
    have hzr := hb.size
    clear ho hb hnn
    by_cases hlt : k < ps.length
    · have dk : decide (k < ps.length) = true := decide_eq_true hlt
      obtain ⟨g, o, rfl, hg, x0, x1, x2, x3⟩ := rd_cell HR1.out.rd hlt
      have y0 := (HB.out.cell (p := ⟨g, o + k * 4, none⟩) hg).trans x0
      have y1 := (HB.out.cell (p := ⟨g, o + k * 4 + 1, none⟩) hg).trans x1
      have y2 := (HB.out.cell (p := ⟨g, o + k * 4 + 2, none⟩) hg).trans x2
      have y3 := (HB.out.cell (p := ⟨g, o + k * 4 + 3, none⟩) hg).trans x3
      have hM := HR1.out.ces ps[k] (List.getElem_mem hlt)
      have hst : jnP ((ps.take (k + 1)).map (prP l)) = if k = 0 then prP l ps[k] else jnP ((ps.take k).map (prP l)) ++ 44 :: prP l ps[k] := by
        rw [List.take_succ_eq_append_getElem hlt, List.map_append, List.map_cons, List.map_nil, jnP_snoc]
        by_cases h0 : k = 0
        · subst h0; simp
        · rw [if_neg h0, if_neg (fun e => h0 (by have := congrArg List.length e; rw [List.length_map, List.length_take, Nat.min_eq_left (by omega), List.length_nil] at this; exact this))]
      have hpl := prP_len hl (by obtain ⟨_, _, _, _, h, _⟩ := hM.tx; exact h.1)
      have HST := Lib.hid hst
      have HMr := Lib.hid (hM.below HB.out)
      generalize ps[k] = M at *
      have al := below_al wr (Obj.cells #[Value.slice M.a M.n M.c, Value.int .i64 M.x, Value.int .i64 M.y, Value.bool M.k] 50)
      have hfn := heap_alloc_new wr (Obj.cells #[Value.slice M.a M.n M.c, Value.int .i64 M.x, Value.int .i64 M.y, Value.bool M.k] 50)
      have hzf : wr.heap.size < (wr.alloc (Obj.cells #[Value.slice M.a M.n M.c, Value.int .i64 M.x, Value.int .i64 M.y, Value.bool M.k] 50)).heap.size := by simp
      have e0 : (0 : Int) ≤ (k : Int) := by omega
      have e1 : (k : Int) < (ps.length : Int) := by omega
      clear hst hM x0 x1 x2 x3
      go_upto_region 5 with fail
      have HO2 := Lib.hid (own_below HO.out al)
      have HB2 := Lib.hid (HB.out.trans (al.mono hzr))
      have HM2 := Lib.hid (HMr.out.below al)
      have HF2 := Lib.hid hfn
      generalize wr.alloc (Obj.cells #[Value.slice M.a M.n M.c, Value.int .i64 M.x, Value.int .i64 M.y, Value.bool M.k] 50) = w2 at *
      clear al hfn y0 y1 y2 y3 HO HB HMr
      generalize hJ : jnP ((ps.take k).map (prP l)) = J at *
      generalize hJ2 : jnP ((ps.take (k + 1)).map (prP l)) = J2 at *
      have HJ2 := Lib.hid hJ2
      clear hJ2 hJ
      go_upto_if 17 with fail
      go_cut [5] from 16 to 20 (fun s5 wx => ∃ (a6 : Option Addr) (c6 n6 : Nat) (J6 : List UInt8), s5 = .slice a6 n6 c6 ∧ n6 = J6.length ∧ n6 ≤ lim k + 1 ∧ J2 = J6 ++ prP l M ∧ wx.ownsRow w.heap.size 5 1 (.slice a6 n6 c6) n6 (bc J6) ∧ Below w.heap.size w wx ∧ wx.heap[wr.heap.size]? = some (.cells #[Value.slice M.a M.n M.c, Value.int .i64 M.x, Value.int .i64 M.y, Value.bool M.k] 50 (0, 0)) ∧ CeIn wx 0 l M)
      case first =>
        by_cases h0 : k = 0
        · have d0 : decide ((0 : Int) < (k : Int)) = false := decide_eq_false (by omega)
          have d0' : decide (0 < k) = false := decide_eq_false (by omega)
          go_wp2_with fail
          go_meet
          refine ⟨a5, c5, n, J, rfl, HNN.out, Nat.le_succ_of_le hnk, ?_, HO2.out, HB2.out, HF2.out, HM2.out⟩
          have := HNN.out
          have hJn : J = [] := List.eq_nil_of_length_eq_zero (by rw [← this]; subst h0; rw [lim_zero] at hnk; omega)
          rw [HST.out, if_pos h0, hJn, List.nil_append]
        · have d0 : decide ((0 : Int) < (k : Int)) = true := decide_eq_true (by omega)
          have d0' : decide (0 < k) = true := decide_eq_true (by omega)
          have hn7 : n ≤ 50000000 := Nat.le_trans hnk (lim_le (by omega))
          have C44 : Hid ((bc [44]).length = 1 * 1) := Lib.hid rfl
          go_wp2_with (first
            | (at_builtin; refine wpList_append_own _ rfl (.tmp 18) (.tmp 19) 27 rfl w.heap.size 5 i0 (.int .u8 0) 1 1 Try.underlying27 hi0 hz0 hz1 hz2 rfl (by decide) (.slice a5 n c5) n (bc J) rfl (HO2.out.alloc _) ⟨w2.heap.size, 0, none⟩ 1 1 (bc [44]) rfl C44.out ?c1 ?c2 ?c3 ?c4 ?c5 ?_)
            | fail)
          case c1 =>
            intro j u hj
            rw [Addr.add_lit, Nat.zero_add, cell_at (heap_alloc_new w2 _)]
            simpa [bc] using hj
          case c2 => exact bc_one [44]
          case c3 => unfold maxLen; omega
          case c4 => omega
          case c5 => simp only [World.size_alloc]; omega
          intro v7 wB ho7 hg7 _
          obtain ⟨a8, c8, rfl⟩ := own_slice ho7
          have HO7 := Lib.hid ho7
          have al := below_al w2 (Obj.cells #[Value.int IntKind.u8 44] 5)
          have hoa := own_below HO2.out al
          have hz22 := HB2.out.size
          have HB7 := Lib.hid ((HB2.out.trans (al.mono hz22)).grown hg7 (by simp only [World.size_alloc]; omega) (fun q hq => (hoa.lt q hq).1))
          have hf2 := (al.block _ (lt_of_heap HF2.out)).trans HF2.out
          have HF7 := Lib.hid ((hg7.block wr.heap.size (lt_of_heap hf2) (fun e' => own_ne hoa hf2 (by decide) e'.symm)).trans hf2)
          have HM7 := Lib.hid ((HM2.out.below al).grown hoa (by decide) hg7)
          have HJ6 : Hid (J2 = (J ++ [44]) ++ prP l M) := by show _ = _; rw [HST.out, if_neg h0]; simp
          have HO8 : Hid (wB.ownsRow w.heap.size 5 1 (.slice a8 (n + 1) c8) (n + 1) (bc (J ++ [44]))) := by rw [show bc (J ++ [44]) = bc J ++ bc [44] by simp [bc]]; exact HO7
          have HL6 : Hid (n + 1 = (J ++ [44]).length) := by show _ = _; rw [List.length_append, ← HNN.out]; rfl
          clear ho7 hg7 al hoa hf2
          generalize J ++ [44] = J7 at *
          go_wp2_with fail
          go_meet
          exact ⟨a8, c8, n + 1, J7, rfl, HL6.out, by omega, HJ6.out, HO8.out, HB7.out, HF7.out, HM7.out⟩
      case rest =>
        obtain ⟨a6, c6, n6, J6, rfl, hn6, hnk6, hj6, ho6, hb6, hf6, hm6⟩ := hcut
        have HN6 := Lib.hid hn6
        have HJ6 := Lib.hid hj6
        have HO6 := Lib.hid ho6
        have HB6 := Lib.hid hb6
        have HF6 := Lib.hid hf6
        have HP6 := Lib.hid (cprint_of (HA1.out.below hb6) hl hm6)
        have z0 : wc.cell? ⟨wr.heap.size, 0, none⟩ = some (.slice M.a M.n M.c) := by rw [cell_at hf6]; rfl
        have z1 : wc.cell? ⟨wr.heap.size, 1, none⟩ = some (.int .i64 M.x) := by rw [cell_at hf6]; rfl
        have z2 : wc.cell? ⟨wr.heap.size, 2, none⟩ = some (.int .i64 M.y) := by rw [cell_at hf6]; rfl
        have z3 : wc.cell? ⟨wr.heap.size, 3, none⟩ = some (.bool M.k) := by rw [cell_at hf6]; rfl
        clear hn6 hj6 ho6 hb6 hf6 hm6 HO2 HB2 HF2 HM2 HST HNN
        generalize hY : prP l M = Y at *
        clear hY
        go_wp2_with fail
        refine HP6.out.mono ?_; rintro e' w7 ⟨ay, cy, rfl, ho7, hb7⟩
        have HB7 := Lib.hid (HB6.out.trans (hb7.mono HB6.out.size))
        have HO7 := Lib.hid (own_below HO6.out hb7)
        have hzw7 : w.heap.size ≤ w7.heap.size := HB7.out.size
        have HBL := Lib.hid (bc_len Y)
        have C2 := Lib.hid (bc_one Y)
        have hjl : n6 + Y.length ≤ lim (k + 1) := by rw [lim_step]; omega
        have hnb : n6 + Y.length ≤ 51000000 := by have := lim_le (show k ≤ 1000 by omega); omega
        have HJL : Hid (n6 + Y.length = J2.length) := by show _ = _; rw [HJ6.out, List.length_append, HN6.out]
        have HJB : Hid (bc J6 ++ bc Y = bc J2) := by show _ = _; rw [HJ6.out]; simp [bc]
        clear hb7 HP6 z0 z1 z2 z3
        rcases own_formD ho7 with ⟨rfl, h0, rfl⟩ | ⟨gy, rfl, hcy⟩
        · have HE2 : Hid (n6 = J2.length) := by show _ = _; rw [← HJL.out]; omega
          have HX2 : Hid (bc J6 = bc J2) := by
            show _ = _
            rw [← HJB.out, show bc Y = [] from List.length_eq_zero_iff.1 (by rw [bc_len]; exact h0), List.append_nil]
          have hnk2 : n6 ≤ lim (k + 1) := by omega
          clear HJL HJB ho7 HBL hjl hnb hpl
          generalize Y.length = m at *
          subst h0
          go_wp2_with (first
            | (at_builtin; refine wpList_append_own_none rfl (.tmp 21) (.tmp 24) 27 rfl w.heap.size 5 i0 1 Try.underlying27 hi0 (.slice a6 n6 c6) n6 (bc J6) rfl HO7.out rfl ?_)
            | fail)
          go_wp2_with fail
          go_roundw
          case rel => exact ⟨k + 1, n6, a6, c6, hlt, by go_num, rfl, by rw [HJ2.out]; exact HE2.out, hnk2, by rw [HJ2.out, ← HX2.out]; exact HO7.out, HB7.out⟩
          case measure => simp [intOf]; omega
        · have C0 : Hid ((bc Y).length = Y.length * 1) := by show _ = _; rw [HBL.out]; omega
          have C1 : Hid (∀ j u, (bc Y)[j]? = some u → w7.cell? (Addr.add ⟨gy, 0, none⟩ j) = some u) := by
            intro j u hj
            rw [Addr.add_lit, Nat.zero_add]
            exact hcy j u hj
          have C3 : Hid (n6 + Y.length ≤ maxLen) := by show _ ≤ _; unfold maxLen; omega
          have C4 : Hid ((n6 + Y.length) * 1 ≤ 140737488355328) := by show _ ≤ _; omega
          have C5 : Hid (w.heap.size ≤ w7.heap.size) := hzw7
          clear hcy ho7 HBL hpl
          generalize bc Y = ys at *
          generalize bc J6 = xs6 at *
          generalize Y.length = m at *
          go_wp2_with (first
            | (at_builtin; refine wpList_append_own _ rfl (.tmp 21) (.tmp 24) 27 rfl w.heap.size 5 i0 (.int .u8 0) 1 1 Try.underlying27 hi0 hz0 hz1 hz2 rfl (by decide) (.slice a6 n6 c6) n6 xs6 rfl HO7.out ⟨gy, 0, none⟩ m cy ys rfl C0.out C1.out C2.out C3.out C4.out C5.out ?_)
            | fail)
          intro v8 wB ho8 hg8 _
          obtain ⟨A9, C9, rfl⟩ := own_slice ho8
          have OF := Lib.hid ho8
          have BF := Lib.hid (HB7.out.grown hg8 hzw7 (fun q hq => (HO7.out.lt q hq).1))
          clear ho8 hg8 C0 C1 C2 C3 C4 C5
          go_wp2_with fail
          go_roundw
          case rel => exact ⟨k + 1, n6 + m, A9, C9, hlt, by go_num, rfl, by rw [HJ2.out]; exact HJL.out, hjl, by rw [HJ2.out, ← HJB.out]; exact OF.out, BF.out⟩
          case measure => simp [intOf]; omega
    · have dk : decide (k < ps.length) = false := decide_eq_false hlt
      obtain rfl : k = ps.length := by omega
      have h1 := HNN.out
      have HO9 := HO.out
      rw [List.take_length] at h1 HO9
      subst h1
      have HO10 := Lib.hid HO9
      clear HO9 HNN HO
      go_wp2_with fail
      go_ret
      exact ⟨a5, c5, rfl, HO10.out, HB.out⟩

/-- A cell as the document's. -/
abbrev RCM := ByteArray × ByteArray × Bool
def rcC1 (p : RCM) : List Value := [.string p.1, .string p.2.1, .bool p.2.2]
def rcC (ps : List RCM) : List Value := ps.flatMap rcC1
theorem rcC_snoc (ps : List RCM) (p : RCM) : rcC (ps ++ [p]) = rcC ps ++ rcC1 p := by unfold rcC; simp
theorem rcC_len : ∀ ps : List RCM, (rcC ps).length = ps.length * 3
  | [] => rfl
  | p :: ps => by
    have := rcC_len ps
    have e : rcC (p :: ps) = rcC1 p ++ rcC ps := by unfold rcC; simp
    rw [e, List.length_append, this, List.length_cons]; show 3 + _ = _; omega
theorem rcC_at : ∀ (ps : List RCM) (k : Nat) (p : RCM) (j : Nat), ps[k]? = some p → j < 3 → (rcC ps)[k * 3 + j]? = (rcC1 p)[j]?
  | [], k, p, j, h, _ => by simp at h
  | q :: ps, 0, p, j, h, hj => by
    obtain rfl : q = p := by simpa using h
    have e : rcC (q :: ps) = rcC1 q ++ rcC ps := by unfold rcC; simp
    rw [e, List.getElem?_append_left (by show _ < 3; omega)]; simp
  | q :: ps, k + 1, p, j, h, hj => by
    have e : rcC (q :: ps) = rcC1 q ++ rcC ps := by unfold rcC; simp
    rw [e, List.getElem?_append_right (by show 3 ≤ _; omega)]
    have := rcC_at ps k p j (by simpa using h) hj
    rw [← this]; congr 1; show (k + 1) * 3 + j - 3 = _; omega
theorem rcC1_one (p : RCM) : ∀ u ∈ rcC1 p, u.oneCell' = true := by
  intro u hu
  simp only [rcC1, List.mem_cons, List.not_mem_nil, or_false] at hu
  rcases hu with rfl | rfl | rfl <;> rfl
def rc (l : List UInt8) (p : CelM) : RCM := (strOf (atL l p.t), rawP l p, p.k)
theorem info_rc : (Try.prog.info? 53).map (fun i => (i.zero, i.size, i.bytes)) = some (some (.agg #[.string ⟨#[]⟩, .string ⟨#[]⟩, .bool false]), 3, 40) := by kernel_rfl

/-- What holds at the head of Plain's loop. -/
def PlJ (l : List UInt8) (ps : List CelM) (e : Int) (h : Bool) (w w1 : World) (v16 : Value) (wr : World) : Prop := ∃ (k : Nat) (ak : Option Addr) (ck : Nat), v16 = .int .i64 k ∧ k ≤ ps.length ∧
  wr.heap[w.heap.size + 2]? = some (.cells #[.slice ak k ck, .int .i64 e, .bool h] 86 (0, 0)) ∧ wr.ownsRow (w.heap.size + 3) 53 3 (.slice ak k ck) k (rcC ((ps.take k).map (rc l))) ∧ Below (w.heap.size + 2) w1 wr

set_option maxRecDepth 100000 in
set_option maxHeartbeats 4000000 in
theorem rplain_of {w : World} {B p : Nat} {l : List UInt8} {a : Option Addr} {c : Nat} {e : Int} {h : Bool} {ps : List CelM} (hA : Ar w B p l) (hl : l.length ≤ 16384) (hr : RoIn w l a ps) (hn : ps.length ≤ 1000) :
    Calls Try.prog 34 #[.pointer (some ⟨p, 0, none⟩), rowV a ps.length c e h] w fun e' w' => ∃ a' c', e' = .returned (.agg #[.slice a' ps.length c', .int .i64 e, .bool h]) ∧ w'.ownsRow w.heap.size 53 3 (.slice a' ps.length c') ps.length (rcC (ps.map (rc l))) ∧ Below w.heap.size w w' := by
  obtain ⟨i0, hi0, hz0, hz1, hz2⟩ := info_parts info_rc
  obtain ⟨n, hps⟩ : ∃ n, ps.length = n := ⟨_, rfl⟩
  obtain ⟨w1, hw1⟩ : ∃ w1, w1 = allocs w [Obj.cells #[Value.slice a n c, Value.int .i64 e, Value.bool h] 81, Obj.cells #[Value.slice none 0 0, Value.int .i64 0, Value.bool false] 86, Obj.cells #[Value.slice none 0 0, Value.int .i64 e, Value.bool h] 86] := ⟨_, rfl⟩
  have HB1 : Hid (Below w.heap.size w w1) := by rw [hw1]; exact Lib.hid (allocs_below _ w)
  have hzw : w1.heap.size > w.heap.size + 2 := by rw [hw1, allocs_size]; simp
  have h0 : w1.heap[w.heap.size]? = some (.cells #[Value.slice a n c, Value.int .i64 e, Value.bool h] 81 (0, 0)) := by rw [hw1]; exact allocs_at _ w 0 _ rfl
  have HH1 : Hid (w1.heap[w.heap.size + 1]? = some (.cells #[Value.slice none 0 0, Value.int .i64 0, Value.bool false] 86 (0, 0))) := by rw [hw1]; exact Lib.hid (allocs_at _ w 1 _ rfl)
  have HH2 : Hid (w1.heap[w.heap.size + 2]? = some (.cells #[Value.slice none 0 0, Value.int .i64 e, Value.bool h] 86 (0, 0))) := by rw [hw1]; exact Lib.hid (allocs_at _ w 2 _ rfl)
  have HAw := Lib.hid hA
  have HRw := Lib.hid hr
  have HPS := Lib.hid hps
  have k0 : w1.cell? ⟨w.heap.size, 0, none⟩ = some (Value.slice a n c) := by rw [cell_at h0]; rfl
  have k1 : w1.cell? ⟨w.heap.size, 1, none⟩ = some (.int .i64 e) := by rw [cell_at h0]; rfl
  have k2 : w1.cell? ⟨w.heap.size, 2, none⟩ = some (.bool h) := by rw [cell_at h0]; rfl
  clear h0 hA hr
  rw [hps]
  rw [hps] at hn
  go_enter Try.func34, Try.ntmps34
  go_upto_region 2 with fail
  rw [show ((w.alloc (Obj.cells #[Value.slice a n c, Value.int .i64 e, Value.bool h] 81)).alloc (Obj.cells #[Value.slice none 0 0, Value.int .i64 0, Value.bool false] 86)).alloc (Obj.cells #[Value.slice none 0 0, Value.int .i64 e, Value.bool h] 86) = w1 from hw1.symm]
  clear hw1
  go_wp2_with fail
  clear k0 k1 k2
  go_loopw [16] (fun v16 wr => PlJ l ps e h w w1 v16 wr) (fun v16 _ => n - (intOf v16).toNat)
  case atStart => exact ⟨0, none, 0, rfl, by omega, HH2.out, by simpa [rcC] using own_nil _ _ _ _, Below.refl _ _⟩
  case round =>
    obtain ⟨k, ak, ck, rfl, hk, hh, ho, hb⟩ := hrel
    have HH := Lib.hid hh
    have HO := Lib.hid ho
    have HB := Lib.hid hb
    have hzr := hb.size
    clear hh ho hb
    rw [HPS.out] at hk
    by_cases hlt : k < n
    · have dk : decide (k < n) = true := decide_eq_true hlt
      have hltp : k < ps.length := by rw [HPS.out]; exact hlt
      obtain ⟨g, o, rfl, hg, x0, x1, x2, x3⟩ := rd_cell HRw.out.rd hltp
      have hM := HRw.out.ces ps[k] (List.getElem_mem hltp)
      have hst : (ps.take (k + 1)).map (rc l) = (ps.take k).map (rc l) ++ [rc l ps[k]] := by
        rw [List.take_succ_eq_append_getElem hltp, List.map_append]; rfl
      have HST := Lib.hid hst
      clear hst
      generalize ps[k] = M at *
      have hbw : Below w.heap.size w wr := HB1.out.trans (HB.out.mono (by omega))
      have y0 := (hbw.cell (p := ⟨g, o + k * 4, none⟩) hg).trans x0
      have y1 := (hbw.cell (p := ⟨g, o + k * 4 + 1, none⟩) hg).trans x1
      have y2 := (hbw.cell (p := ⟨g, o + k * 4 + 2, none⟩) hg).trans x2
      have y3 := (hbw.cell (p := ⟨g, o + k * 4 + 3, none⟩) hg).trans x3
      have HMr := Lib.hid (hM.below hbw)
      have HAr := Lib.hid (HAw.out.below hbw)
      have e0 : (0 : Int) ≤ (k : Int) := by omega
      have e1 : (k : Int) < (n : Int) := by omega
      clear x0 x1 x2 x3 hM hbw
      generalize hL0 : (ps.take k).map (rc l) = L0 at *
      generalize hL1 : (ps.take (k + 1)).map (rc l) = L1 at *
      have HL1 := Lib.hid hL1
      clear hL1 hL0
      have al := below_al wr (Obj.cells #[Value.slice M.a M.n M.c, Value.int .i64 M.x, Value.int .i64 M.y, Value.bool M.k] 50)
      have hfn := heap_alloc_new wr (Obj.cells #[Value.slice M.a M.n M.c, Value.int .i64 M.x, Value.int .i64 M.y, Value.bool M.k] 50)
      have hzf : wr.heap.size < (wr.alloc (Obj.cells #[Value.slice M.a M.n M.c, Value.int .i64 M.x, Value.int .i64 M.y, Value.bool M.k] 50)).heap.size := by simp
      go_upto_block 1 with fail
      go_cut [7] from 18 to 27 (fun s7 wx => ∃ (ak' : Option Addr) (ck' : Nat), wx.heap[w.heap.size + 2]? = some (.cells #[.slice ak' (k + 1) ck', .int .i64 e, .bool h] 86 (0, 0)) ∧ wx.ownsRow (w.heap.size + 3) 53 3 (.slice ak' (k + 1) ck') (k + 1) (rcC L1) ∧ Below (w.heap.size + 2) w1 wx)
      case first =>
        go_upto_region 5 with fail
        have HO2 := Lib.hid (own_below HO.out al)
        have HM2 := Lib.hid (HMr.out.below al)
        have HA2 := Lib.hid (HAr.out.below al)
        have HH2' := Lib.hid ((al.block _ (lt_of_heap HH.out)).trans HH.out)
        have HB2 := Lib.hid (HB.out.trans (al.mono (by omega)))
        generalize wr.alloc (Obj.cells #[Value.slice M.a M.n M.c, Value.int .i64 M.x, Value.int .i64 M.y, Value.bool M.k] 50) = w2 at *
        have HF2 := Lib.hid hfn
        have hltb : w.heap.size + 2 < w2.heap.size := lt_of_heap HH2'.out
        have HPl := Lib.hid (fun w' (hb : Below w2.heap.size w2 w') => cplain_of (HA2.out.below hb) hl (HM2.out.below hb))
        have HRC : Hid (rc l M = (strOf (atL l M.t), rawP l M, M.k)) := Lib.hid rfl
        have hb0 : Below w2.heap.size w2 w2.drew := (Below.refl _ _).drew
        have kb : w2.cell? ⟨w.heap.size + 1 + 1, 0, none⟩ = some (.slice ak k ck) := by rw [cell_at HH2'.out]; rfl
        have kb0 : w2.drew.cell? ⟨w.heap.size + 1 + 1, 0, none⟩ = some (.slice ak k ck) := kb
        have c0 : w2.drew.cell? ⟨wr.heap.size, 0, none⟩ = some (.slice M.a M.n M.c) := show w2.cell? ⟨wr.heap.size, 0, none⟩ = some (.slice M.a M.n M.c) by rw [cell_at hfn]; rfl
        have c1 : w2.drew.cell? ⟨wr.heap.size, 1, none⟩ = some (.int .i64 M.x) := show w2.cell? ⟨wr.heap.size, 1, none⟩ = some (.int .i64 M.x) by rw [cell_at hfn]; rfl
        have c2 : w2.drew.cell? ⟨wr.heap.size, 2, none⟩ = some (.int .i64 M.y) := show w2.cell? ⟨wr.heap.size, 2, none⟩ = some (.int .i64 M.y) by rw [cell_at hfn]; rfl
        have c3 : w2.drew.cell? ⟨wr.heap.size, 3, none⟩ = some (.bool M.k) := show w2.cell? ⟨wr.heap.size, 3, none⟩ = some (.bool M.k) by rw [cell_at hfn]; rfl
        generalize strOf (atL l M.t) = f0 at *
        generalize rawP l M = f1 at *
        generalize hf2 : M.k = f2 at *
        clear al hfn y0 y1 y2 y3 hf2
        go_region_law (first
          | (refine step_append_lies _ rfl (.tmp 21) (.tmp 25) 84 rfl (w.heap.size + 3) 53 i0 (.agg #[.string ⟨#[]⟩, .string ⟨#[]⟩, .bool false]) 3 40 Try.underlying84 hi0 hz0 hz1 hz2 rfl (by decide) (.slice ak k ck) k (rcC L0) rfl HO5.out ⟨w4.heap.size, 0, none⟩ 1 1 [.string f0, .string f1, .bool f2] rfl rfl HN5.out HON.out (by decide) (by unfold maxLen; omega) (by omega) HZ5.out _ rfl ?_; intro g6 cap6 w6 ho6 hg6 hat6 hlt6; have HO6 := Lib.hid ho6; have HG6 := Lib.hid hg6; have hh6 := (HG6.out.block (w.heap.size + 1 + 1) (lt_of_heap HH5.out) (fun e' => HNE.out e'.symm)).trans HH5.out; have zz := (fun i => unfrozen hh6 i); have kb6 : w6.cell? ⟨w.heap.size + 1 + 1, 0, none⟩ = some (.slice ak k ck) := (by rw [cell_at hh6]; rfl); have HH6 := Lib.hid hh6; clear ho6 hg6 hat6 hh6)
          | (go_simp; go_at_call 15; refine (HPl.out _ hb0).mono ?_; rintro e' w4 ⟨rfl, hb4⟩; have hs4 := hb0.trans (hb4.mono (Nat.le_refl _)); have kb4 := (hs4.cell (p := ⟨w.heap.size + 1 + 1, 0, none⟩) hltb).trans kb; have al4 := below_al w4 (Obj.cells #[Value.string f0, Value.string f1, Value.bool f2] 53); have hs5 := hs4.trans (al4.mono hs4.size); have kb5 := (hs5.cell (p := ⟨w.heap.size + 1 + 1, 0, none⟩) hltb).trans kb; have HO5 := Lib.hid ((own_below HO2.out hs4).alloc (Obj.cells #[Value.string f0, Value.string f1, Value.bool f2] 53)); have HN5 := Lib.hid (World.news_of_block (heap_alloc_new w4 (Obj.cells #[Value.string f0, Value.string f1, Value.bool f2] 53))); have HH5 := Lib.hid ((hs5.block _ hltb).trans HH2'.out); have HNE := Lib.hid (own_ne HO5.out HH5.out (by decide)); have HON := Lib.hid (rcC1_one (f0, f1, f2)); have HZ5 := Lib.hid (show w.heap.size + 3 ≤ (w4.alloc (Obj.cells #[Value.string f0, Value.string f1, Value.bool f2] 53)).heap.size by rw [World.size_alloc]; have := hs4.size; omega); have HS5 := Lib.hid hs5; clear hb4 al4))
        all_goals
          go_wp2_with fail
          go_meet
          refine ⟨some ⟨g6, 0, none⟩, cap6, (by rw [show w.heap.size + 2 = w.heap.size + 1 + 1 from rfl, heap_set_at HH6.out]; rfl), ?_, ?_⟩
          · have h1 := own_set (o := 0) (u := .slice (some ⟨g6, 0, none⟩) (k + 1) cap6) HO6.out (own_ne HO6.out HH6.out (by decide))
            rw [HST.out, rcC_snoc, HRC.out]
            exact h1
          · have hg := (HB2.out.trans (HS5.out.mono (by omega))).grown HG6.out (by have := HZ5.out; omega) (fun q hq => by have := (HO5.out.lt q hq).1; omega)
            exact hg.setCell (p := ⟨w.heap.size + 1 + 1, 0, none⟩) (Nat.le_refl _) _
      case rest =>
        obtain ⟨ak', ck', hh', ho', hb'⟩ := hcut
        have HF := Lib.hid (And.intro hh' (And.intro ho' hb'))
        clear hh' ho' hb' HMr HAr HST HO HH al hfn y0 y1 y2 y3
        go_wp2_with fail
        go_roundw
        case rel => exact ⟨k + 1, ak', ck', by simp, by rw [HPS.out]; omega, HF.out.1, by rw [HL1.out]; exact HF.out.2.1, HF.out.2.2⟩
        case measure => simp [intOf]; omega
    · have dk : decide (k < n) = false := decide_eq_false hlt
      obtain rfl : k = n := by omega
      have hh2 := HH.out
      have hh1 := (HB.out.block (w.heap.size + 1) (by omega)).trans HH1.out
      have zz := fun i => unfrozen hh1 i
      have x0 : wr.cell? ⟨w.heap.size + 1 + 1, 0, none⟩ = some (.slice ak k ck) := by rw [cell_at hh2]; rfl
      have x1 : wr.cell? ⟨w.heap.size + 1 + 1, 1, none⟩ = some (.int .i64 e) := by rw [cell_at hh2]; rfl
      have x2 : wr.cell? ⟨w.heap.size + 1 + 1, 2, none⟩ = some (.bool h) := by rw [cell_at hh2]; rfl
      have r0 : wr.cell? ⟨w.heap.size + 1, 0, none⟩ = some (.slice none 0 0) := by rw [cell_at hh1]; rfl
      have r1 : wr.cell? ⟨w.heap.size + 1, 1, none⟩ = some (.int .i64 0) := by rw [cell_at hh1]; rfl
      have r2 : wr.cell? ⟨w.heap.size + 1, 2, none⟩ = some (.bool false) := by rw [cell_at hh1]; rfl
      have HHr := Lib.hid hh1
      have HBr := Lib.hid (HB1.out.trans (HB.out.mono (by omega)))
      clear hh1 hh2
      go_wp2_with fail
      have hos : (set3 wr (w.heap.size + 1) (.slice ak k ck) (.int .i64 e) (.bool h)).ownsRow w.heap.size 53 3 (.slice ak k ck) k (rcC (ps.map (rc l))) := by
        have h1 := HO.out
        rw [show ps.take k = ps by rw [← HPS.out]; exact List.take_length] at h1
        have n0 := own_ne h1 HHr.out (by decide)
        unfold set3
        exact own_mono (own_set (own_set (own_set h1 n0) n0) n0) (by omega)
      have hs := set3_at HHr.out (.slice ak k ck) (.int .i64 e) (.bool h)
      have hB := set3_below HBr.out (show w.heap.size ≤ w.heap.size + 1 by omega) (.slice ak k ck) (.int .i64 e) (.bool h)
      have q0 : (set3 wr (w.heap.size + 1) (.slice ak k ck) (.int .i64 e) (.bool h)).cell? ⟨w.heap.size + 1, 0, none⟩ = some (.slice ak k ck) := by rw [cell_at hs]; rfl
      have q1 : (set3 wr (w.heap.size + 1) (.slice ak k ck) (.int .i64 e) (.bool h)).cell? ⟨w.heap.size + 1, 1, none⟩ = some (.int .i64 e) := by rw [cell_at hs]; rfl
      have q2 : (set3 wr (w.heap.size + 1) (.slice ak k ck) (.int .i64 e) (.bool h)).cell? ⟨w.heap.size + 1, 2, none⟩ = some (.bool h) := by rw [cell_at hs]; rfl
      unfold set3 at hos hB q0 q1 q2
      exact bodyPost_ret (v := .agg #[.slice ak k ck, .int .i64 e, .bool h]) (by simp [results, Try.results34, go_sem, q0, q1, q2]) rfl ⟨ak, ck, rfl, hos, hB⟩

theorem neq_plain (w : World) (a0 a1 b0 b1 : ByteArray) (ka kb : Bool) : Sem.run Try.prog (binOp .neq 53 (.agg #[.string a0, .string a1, .bool ka]) (.agg #[.string b0, .string b1, .bool kb])) w = .ok (.bool (!decide (a0 = b0 ∧ a1 = b1 ∧ ka = kb))) w := by
  have u9 := Try.underlying9
  have a9 := Try.isAgg9
  have z9 := Try.sizeOf9
  have u4 := Try.underlying4
  have a4 := Try.isAgg4
  have z4 := Try.sizeOf4
  have hS : Try.prog.underlying 53 = some (.struct (Try.prog.fieldsOf 53)) := by kernel_rfl
  have hp : Try.prog.stoodInHeld 53 = false := by kernel_rfl
  rw [run_neq_struct, show (10000 : Nat) = 9999 + 1 from rfl, run_equalIn_agg w 9999 53 _ _ hS hp]
  simp only [Program.fieldsOf, Try.underlying53]
  go_simp
  by_cases h1 : a0 = b0 <;> by_cases h2 : a1 = b1 <;> by_cases h3 : ka = kb <;> simp [h1, h2, h3, toList_iff]
theorem rcd_cell {w : World} {a : Option Addr} {L : List RCM} (h : Rd w 3 a L.length (rcC L)) {k : Nat} (hk : k < L.length) :
    ∃ g o, a = some ⟨g, o, none⟩ ∧ g < w.heap.size ∧ w.cell? ⟨g, o + k * 3, none⟩ = some (.string L[k].1) ∧ w.cell? ⟨g, o + k * 3 + 1, none⟩ = some (.string L[k].2.1) ∧ w.cell? ⟨g, o + k * 3 + 2, none⟩ = some (.bool L[k].2.2) := by
  obtain ⟨g, o, e, hg, hc⟩ := h.2 (by omega)
  have hh := fun (j : Nat) (u : Value) (hj : j < 3) (hu : (rcC1 L[k])[j]? = some u) => hc (k * 3 + j) u ((rcC_at L k L[k] j (List.getElem?_eq_getElem hk) hj).trans hu)
  have h0 := hh 0 _ (by omega) rfl
  have h1 := hh 1 _ (by omega) rfl
  have h2 := hh 2 _ (by omega) rfl
  exact ⟨g, o, e, hg, h0, by rw [Nat.add_assoc]; exact h1, by rw [Nat.add_assoc]; exact h2⟩

set_option maxRecDepth 100000 in
set_option maxHeartbeats 4000000 in
theorem rcsame_of {w : World} {a b : Option Addr} {c d : Nat} {L M : List RCM} (ha : Rd w 3 a L.length (rcC L)) (hb : Rd w 3 b M.length (rcC M)) (hn : L.length ≤ 1000000) (hn2 : M.length ≤ 1000000) :
    Calls Try.prog 68 #[.slice a L.length c, .slice b M.length d] w fun e w' => e = .returned (.bool (decide (L = M))) ∧ Below w.heap.size w w' := by
  by_cases hlm : L.length = M.length
  · have HA := Lib.hid ha
    have HB := Lib.hid hb
    have HLM := Lib.hid hlm
    have dn : ((L.length : Int) != (L.length : Int)) = false := by simp
    rw [← hlm]
    clear ha hb hlm
    go_enter Try.func68, Try.ntmps68
    go_wp2_with fail
    go_loopw [13] (fun v13 wr => ∃ k : Nat, v13 = .int .i64 k ∧ k ≤ L.length ∧ L.take k = M.take k ∧ Below w.heap.size w wr) (fun v13 _ => L.length - (intOf v13).toNat)
    case atStart => exact ⟨0, rfl, by omega, by simp, Below.refl _ _⟩
    case round =>
      obtain ⟨k, rfl, hk, hpre, hbr⟩ := hrel
      have HP := Lib.hid hpre
      have HBr := Lib.hid hbr
      have hzr := hbr.size
      clear hpre hbr
      by_cases hlt : k < L.length
      · have dk : decide (k < L.length) = true := decide_eq_true hlt
        have hlt2 : k < M.length := by rw [← HLM.out]; exact hlt
        obtain ⟨g, o, rfl, hg, x0, x1, x2⟩ := rcd_cell HA.out hlt
        obtain ⟨g2, o2, rfl, hg2, z0, z1, z2⟩ := rcd_cell HB.out hlt2
        have y0 := (HBr.out.cell (p := ⟨g, o + k * 3, none⟩) hg).trans x0
        have y1 := (HBr.out.cell (p := ⟨g, o + k * 3 + 1, none⟩) hg).trans x1
        have y2 := (HBr.out.cell (p := ⟨g, o + k * 3 + 2, none⟩) hg).trans x2
        have v0 := (HBr.out.cell (p := ⟨g2, o2 + k * 3, none⟩) hg2).trans z0
        have v1 := (HBr.out.cell (p := ⟨g2, o2 + k * 3 + 1, none⟩) hg2).trans z1
        have v2 := (HBr.out.cell (p := ⟨g2, o2 + k * 3 + 2, none⟩) hg2).trans z2
        have hnq := fun w' => neq_plain w' L[k].1 L[k].2.1 M[k].1 M[k].2.1 L[k].2.2 M[k].2.2
        have e0 : (0 : Int) ≤ (k : Int) := by omega
        have e1 : (k : Int) < (L.length : Int) := by omega
        have htk : L.take (k + 1) = L.take k ++ [L[k]] := List.take_succ_eq_append_getElem hlt
        have htk2 : M.take (k + 1) = M.take k ++ [M[k]] := List.take_succ_eq_append_getElem hlt2
        have HTK := Lib.hid htk
        have HTK2 := Lib.hid htk2
        have HLK := Lib.hid (show ∀ h : L = M, L[k] = M[k] from fun h => by subst h; rfl)
        clear x0 x1 x2 z0 z1 z2 htk htk2
        generalize L[k] = P at *
        generalize M[k] = Q at *
        obtain ⟨p0, p1, p2⟩ := P
        obtain ⟨q0, q1, q2⟩ := Q
        simp only at y0 y1 y2 v0 v1 v2 hnq
        by_cases hpq : (p0, p1, p2) = ((q0, q1, q2) : RCM)
        · simp only [Prod.mk.injEq] at hpq
          rw [decide_eq_true hpq] at hnq
          go_upto_region 6 with fail
          go_quiet (fail)
          all_goals
            go_wp2_with fail
            go_roundw
            case rel => exact ⟨k + 1, by simp, by omega, by rw [HTK.out, HTK2.out, HP.out, hpq.1, hpq.2.1, hpq.2.2], below_draw1 HBr.out _⟩
            case measure => simp [intOf]; omega
        · have hne : ¬ (p0 = q0 ∧ p1 = q1 ∧ p2 = q2) := fun h => hpq (by rw [h.1, h.2.1, h.2.2])
          rw [decide_eq_false hne] at hnq
          have HNE : Hid (decide (L = M) = false) := Lib.hid (decide_eq_false (fun h => hpq (HLK.out h)))
          clear hpq hne
          go_upto_region 6 with fail
          go_quiet (fail)
          all_goals
            go_wp2_with fail
            go_ret
            exact ⟨by rw [HNE.out] <;> rfl, below_draw1 HBr.out _⟩
      · have dk : decide (k < L.length) = false := decide_eq_false hlt
        have hkl : k = L.length := by omega
        have HEQ : Hid (decide (L = M) = true) := Lib.hid (decide_eq_true (by
          have h := HP.out
          rw [hkl, List.take_length, HLM.out, List.take_length] at h
          exact h))
        go_wp2_with fail
        go_ret
        exact ⟨by rw [HEQ.out] <;> rfl, HBr.out⟩
  · have HNE : Hid (decide (L = M) = false) := Lib.hid (decide_eq_false (fun h => hlm (by rw [h])))
    have dn : ((L.length : Int) != (M.length : Int)) = true := by simp; omega
    clear ha hb
    go_enter Try.func68, Try.ntmps68
    go_wp2_with fail
    go_ret
    exact ⟨by rw [HNE.out] <;> rfl, Below.refl _ _⟩

set_option maxRecDepth 100000 in
set_option maxHeartbeats 4000000 in
theorem rrsame_of {w : World} {a b : Option Addr} {c d : Nat} {e f : Int} {h k : Bool} {L M : List RCM} (ha : Rd w 3 a L.length (rcC L)) (hb : Rd w 3 b M.length (rcC M)) (hn : L.length ≤ 1000000) (hn2 : M.length ≤ 1000000) :
    Calls Try.prog 33 #[.agg #[.slice a L.length c, .int .i64 e, .bool h], .agg #[.slice b M.length d, .int .i64 f, .bool k]] w fun e' w' => e' = .returned (.bool (decide (e = f ∧ h = k ∧ L = M))) ∧ Below w.heap.size w w' := by
  obtain ⟨w1, hw1⟩ : ∃ w1, w1 = allocs w [Obj.cells #[Value.slice a L.length c, Value.int .i64 e, Value.bool h] 86, Obj.cells #[Value.slice b M.length d, Value.int .i64 f, Value.bool k] 86] := ⟨_, rfl⟩
  have HB1 : Hid (Below w.heap.size w w1) := by rw [hw1]; exact Lib.hid (allocs_below _ w)
  have hzw : w1.heap.size > w.heap.size + 1 := by rw [hw1, allocs_size]; simp
  have h0 : w1.heap[w.heap.size]? = some (.cells #[Value.slice a L.length c, Value.int .i64 e, Value.bool h] 86 (0, 0)) := by rw [hw1]; exact allocs_at _ w 0 _ rfl
  have h1 : w1.heap[w.heap.size + 1]? = some (.cells #[Value.slice b M.length d, Value.int .i64 f, Value.bool k] 86 (0, 0)) := by rw [hw1]; exact allocs_at _ w 1 _ rfl
  have x0 : w1.cell? ⟨w.heap.size, 0, none⟩ = some (Value.slice a L.length c) := by rw [cell_at h0]; rfl
  have x1 : w1.cell? ⟨w.heap.size, 1, none⟩ = some (.int .i64 e) := by rw [cell_at h0]; rfl
  have x2 : w1.cell? ⟨w.heap.size, 2, none⟩ = some (.bool h) := by rw [cell_at h0]; rfl
  have y0 : w1.cell? ⟨w.heap.size + 1, 0, none⟩ = some (Value.slice b M.length d) := by rw [cell_at h1]; rfl
  have y1 : w1.cell? ⟨w.heap.size + 1, 1, none⟩ = some (.int .i64 f) := by rw [cell_at h1]; rfl
  have y2 : w1.cell? ⟨w.heap.size + 1, 2, none⟩ = some (.bool k) := by rw [cell_at h1]; rfl
  have HS := Lib.hid (rcsame_of (w := w1) (c := c) (d := d) (ha.below HB1.out) (hb.below HB1.out) hn hn2)
  have HE : Hid (decide (e = f ∧ h = k ∧ L = M) = (decide (e = f) && (decide (h = k) && decide (L = M)))) := Lib.hid (by rw [Bool.decide_and, Bool.decide_and])
  have he : (e == f) = decide (e = f) := by by_cases hh : e = f <;> simp [hh]
  have hk : (h == k) = decide (h = k) := by by_cases hh : h = k <;> simp [hh]
  generalize decide (L = M) = q at *
  generalize decide (e = f) = q1 at *
  generalize decide (h = k) = q2 at *
  clear h0 h1 ha hb
  go_enter Try.func33, Try.ntmps33
  go_upto_region 1 with fail
  rw [show (w.alloc (Obj.cells #[Value.slice a L.length c, Value.int .i64 e, Value.bool h] 86)).alloc (Obj.cells #[Value.slice b M.length d, Value.int .i64 f, Value.bool k] 86) = w1 from hw1.symm]
  clear hw1
  cases q1 with
  | false =>
    go_wp2_with fail
    go_ret
    exact ⟨by rw [HE.out] <;> rfl, HB1.out⟩
  | true =>
    cases q2 with
    | false =>
      go_wp2_with fail
      go_ret
      exact ⟨by rw [HE.out] <;> rfl, HB1.out⟩
    | true =>
      go_wp2_with fail
      refine HS.out.mono ?_; rintro e' w2 ⟨rfl, hb2⟩
      have HB2 := Lib.hid (HB1.out.trans (hb2.mono (by omega)))
      clear hb2
      go_wp2_with fail
      go_ret
      exact ⟨by rw [HE.out]; simp, HB2.out⟩

/-- What a loaded cell is of its field. -/
def keyC (m : CelM) : Int × Int × Bool × List Int := (m.x, m.y, m.k, m.t)
def keyF (f : Fd) : Int × Int × Bool × List Int := ((f.from_ : Int), (f.to_ : Int) - f.from_, true, f.pl)
/-- Is a field too long? -/
def longF (f : Fd) : Prop := 400 < f.pl.length
/-- What Load tells. -/
def LdPost (l : List UInt8) (R : Rw) (w : World) (e : Ending) (w' : World) : Prop :=
  Below w.heap.size w w' ∧
  ((40 < R.fs.length ∧ e = .returned (.tuple #[rowV none 0 0 0 false, .int .i64 6])) ∨
   (R.fs.length ≤ 40 ∧ (∃ f ∈ R.fs, longF f) ∧ e = .returned (.tuple #[rowV none 0 0 0 false, .int .i64 7])) ∨
   (R.fs.length ≤ 40 ∧ (∀ f ∈ R.fs, ¬ longF f) ∧ ∃ (a : Option Addr) (c : Nat) (Ms : List CelM), e = .returned (.tuple #[rowV a Ms.length c R.fin false, .int .i64 0]) ∧ Ms.map keyC = R.fs.map keyF ∧ RoIn w' l a Ms ∧ Ms.length = c ∧ (a = none → c = 0)))
/-- What holds at the head of Load's loop. -/
def LdJ (l : List UInt8) (R : Rw) (w w1 : World) (n g : Nat) (v19 : Value) (wr : World) : Prop := ∃ (k : Nat) (Ms : List CelM), v19 = .int .i64 k ∧ k ≤ n ∧ Ms.length = k ∧ Ms.map keyC = (R.fs.take k).map keyF ∧ (∀ f ∈ R.fs.take k, ¬ longF f) ∧
  wr.ownsRow w1.heap.size 50 4 (.slice (some ⟨g, 0, none⟩) n n) n (ceC (Ms ++ List.replicate (n - k) noneM)) ∧ CesIn wr 0 l Ms ∧ Below w1.heap.size w1 wr

set_option maxRecDepth 100000 in
set_option maxHeartbeats 4000000 in
theorem rload_of {w : World} {B : Nat} {l : List UInt8} {R : Rw} {ps : List FdM} {pa : Option Addr} {pc : Nat} (hri : RowIn w B (R, ps, pa, pc)) (hok : ∀ f ∈ R.fs, InL l f.pl ∧ f.pl.length ≤ l.length) (hl : l.length ≤ 16384) (hn : R.fs.length ≤ 1000000) :
    Calls Try.prog 31 #[.agg #[.slice pa R.fs.length pc, .int .i64 R.fin]] w (LdPost l R w) := by
  obtain ⟨i0, hi0, hz0, hz1, hz2⟩ := info_parts info_cell
  obtain ⟨n, hnn⟩ : ∃ n, R.fs.length = n := ⟨_, rfl⟩
  have hpn : ps.length = n := by rw [← hnn, ← hri.fs]; simp
  obtain ⟨w1, hw1⟩ : ∃ w1, w1 = allocs w [Obj.cells #[Value.slice pa n pc, Value.int .i64 R.fin] 34, Obj.cells #[Value.slice none 0 0, Value.int .i64 0, Value.bool false] 81] := ⟨_, rfl⟩
  have HB1 : Hid (Below w.heap.size w w1) := by rw [hw1]; exact Lib.hid (allocs_below _ w)
  have hzw : w1.heap.size > w.heap.size + 1 := by rw [hw1, allocs_size]; simp
  have h0 : w1.heap[w.heap.size]? = some (Obj.cells #[Value.slice pa n pc, Value.int .i64 R.fin] 34) := by rw [hw1]; exact allocs_at _ w 0 _ rfl
  have HH1 : Hid (w1.heap[w.heap.size + 1]? = some (.cells #[Value.slice none 0 0, Value.int .i64 0, Value.bool false] 81 (0, 0))) := by rw [hw1]; exact Lib.hid (allocs_at _ w 1 _ rfl)
  have HRI := Lib.hid (hri.below HB1.out)
  have HOK := Lib.hid hok
  have HNN := Lib.hid hnn
  have HPN := Lib.hid hpn
  have k0 : w1.cell? ⟨w.heap.size, 0, none⟩ = some (.slice pa n pc) := by rw [cell_at h0]; rfl
  have k1 : w1.cell? ⟨w.heap.size, 1, none⟩ = some (.int .i64 R.fin) := by rw [cell_at h0]; rfl
  have hh1 := HH1.out
  have zz := fun i => unfrozen hh1 i
  have r0 : w1.cell? ⟨w.heap.size + 1, 0, none⟩ = some (.slice none 0 0) := by rw [cell_at hh1]; rfl
  have r1 : w1.cell? ⟨w.heap.size + 1, 1, none⟩ = some (.int .i64 0) := by rw [cell_at hh1]; rfl
  have r2 : w1.cell? ⟨w.heap.size + 1, 2, none⟩ = some (.bool false) := by rw [cell_at hh1]; rfl
  have H0 := Lib.hid h0
  rw [hnn] at hn
  rw [hnn]
  clear h0 hh1 hri hok hpn
  unfold LdPost
  go_enter Try.func31, Try.ntmps31
  go_upto_region 1 with fail
  rw [show (w.alloc (Obj.cells #[Value.slice pa n pc, Value.int .i64 R.fin] 34)).alloc (Obj.cells #[Value.slice none 0 0, Value.int .i64 0, Value.bool false] 81) = w1 from hw1.symm]
  clear hw1
  by_cases h40 : 40 < n
  · have d : decide ((40 : Int) < (n : Int)) = true := decide_eq_true (by omega)
    have d' : decide (40 < n) = true := decide_eq_true h40
    go_wp2_with fail
    have hs := set3_at HH1.out (.slice none 0 0) (.int .i64 0) (.bool false)
    have hB := set3_below HB1.out (show w.heap.size ≤ w.heap.size + 1 by omega) (.slice none 0 0) (.int .i64 0) (.bool false)
    have q0 : (set3 w1 (w.heap.size + 1) (.slice none 0 0) (.int .i64 0) (.bool false)).cell? ⟨w.heap.size + 1, 0, none⟩ = some (.slice none 0 0) := by rw [cell_at hs]; rfl
    have q1 : (set3 w1 (w.heap.size + 1) (.slice none 0 0) (.int .i64 0) (.bool false)).cell? ⟨w.heap.size + 1, 1, none⟩ = some (.int .i64 0) := by rw [cell_at hs]; rfl
    have q2 : (set3 w1 (w.heap.size + 1) (.slice none 0 0) (.int .i64 0) (.bool false)).cell? ⟨w.heap.size + 1, 2, none⟩ = some (.bool false) := by rw [cell_at hs]; rfl
    unfold set3 at hB q0 q1 q2
    exact bodyPost_ret (v := .tuple #[rowV none 0 0 0 false, .int .i64 6]) (by simp [results, Try.results31, go_sem, q0, q1, q2]) rfl ⟨hB, .inl ⟨by rw [HNN.out]; exact h40, rfl⟩⟩
  · have d : decide ((40 : Int) < (n : Int)) = false := decide_eq_false (by omega)
    have d' : decide (40 < n) = false := decide_eq_false h40
    go_wp2_with (at_make; refine wpList_make_full _ rfl _ _ 74 rfl w1.heap.size 50 i0 (.agg #[.slice none 0 0, .int .i64 0, .int .i64 0, .bool false]) 4 Try.underlying74 hi0 hz0 hz1 .i64 .i64 _ _ n rfl rfl rfl rfl ?b2 ?b3 ?b4 ?_)
    case b2 => first | omega | (rw [hz2]; omega)
    case b3 => unfold maxLen; omega
    case b4 => omega
    intro w3 hown hgrow
    rw [show (madeCells #[Value.slice none 0 0, .int .i64 0, .int .i64 0, .bool false] (n * 4)).toList = ceC (List.replicate n noneM) from made_cells n] at hown
    have hb3 := (Below.refl w1.heap.size w1).grown hgrow (Nat.le_refl _) (by simp)
    have j0 := (hb3.cell (p := ⟨w.heap.size, 0, none⟩) (by simp only; omega)).trans k0
    have HO3 := Lib.hid hown
    have HB3 := Lib.hid hb3
    clear hown hgrow hb3 k0 k1 r0 r1 r2 zz
    go_upto_region 4 with fail
    go_wp2_with fail
    clear j0
    go_loopw [19] (fun v19 wr => LdJ l R w w1 n w1.heap.size v19 wr) (fun v19 _ => n - (intOf v19).toNat)
    case atStart => exact ⟨0, [], rfl, by omega, rfl, by simp, fun f hf => by simp at hf, by simpa using HO3.out, fun q hq => by simp at hq, HB3.out⟩
    case round =>
      obtain ⟨k, Ms, rfl, hk, hmk, hkey, hshort, ho, hces, hb⟩ := hrel
      have HO := Lib.hid ho
      have HB := Lib.hid hb
      have HCE := Lib.hid hces
      have HKY := Lib.hid hkey
      have HSH := Lib.hid hshort
      have HMK := Lib.hid hmk
      have hzr := hb.size
      have hgr : w1.heap.size < wr.heap.size := by
        rcases own_form ho with ⟨h0, _⟩ | ⟨g, hg, _, hg2⟩
        · cases h0
        · injection hg with hg; injection hg with hg; omega
      clear ho hces hb hkey hshort hmk
      by_cases hlt : k < n
      · have dk : decide (k < n) = true := decide_eq_true hlt
        have hkp : k < ps.length := by rw [HPN.out]; exact hlt
        have hFk : k < R.fs.length := by rw [HNN.out]; exact hlt
        rcases own_form HRI.out.own with ⟨_, h0⟩ | ⟨gf, hgf, _, hgf2⟩
        · simp only at h0; omega
        simp only at hgf
        subst hgf
        have hFP : ps[k].1 = R.fs[k] := by
          have h := HRI.out.fs; simp only at h
          simp only [← h, List.getElem_map]
        have hF := HOK.out _ (List.getElem_mem hFk)
        have hpp := own_below (HRI.out.parts ps[k] (List.getElem_mem hkp)) HB.out
        have hc := fun (o : Nat) (u : Value) (ho : o < 4) (hu : (fdC1 ps[k])[o]? = some u) => (HB.out.cell (p := ⟨gf, k * 4 + o, none⟩) hgf2).trans (own_cells HRI.out.own ((fdC_at ps k ps[k] o (List.getElem?_eq_getElem hkp) ho).trans hu))
        have p0 := hc 0 _ (by omega) rfl
        have p1 := hc 1 _ (by omega) rfl
        have p2 := hc 2 _ (by omega) rfl
        have p3 := hc 3 _ (by omega) rfl
        rw [hFP] at p0 p1 p2 p3 hpp
        rw [Nat.add_zero] at p0
        obtain ⟨a5, c5, h5⟩ : ∃ a5 c5, ps[k].2 = (a5, c5) := ⟨_, _, rfl⟩
        rw [h5] at p3 hpp
        simp only at p3 hpp
        have hst : R.fs.take (k + 1) = R.fs.take k ++ [R.fs[k]] := List.take_succ_eq_append_getElem hFk
        have HST := Lib.hid hst
        have HMEM := Lib.hid (List.getElem_mem hFk)
        clear hc hFP h5 hst
        generalize R.fs[k] = F at *
        have HKF : Hid (keyF F = ((F.from_ : Int), (F.to_ : Int) - F.from_, true, F.pl)) := Lib.hid rfl
        generalize (F.from_ : Int) = x0 at *
        generalize (F.to_ : Int) - x0 = x2 at *
        generalize F.kind = x3 at *
        generalize hQ : F.pl = Q at *
        have HQ := Lib.hid hQ
        clear hQ
        have al := below_al wr (Obj.cells #[Value.int IntKind.i64 x0, Value.int IntKind.i64 x2, Value.int IntKind.i64 x3, Value.slice a5 (canon Q).length c5] 42)
        have hfn := heap_alloc_new wr (Obj.cells #[Value.int IntKind.i64 x0, Value.int IntKind.i64 x2, Value.int IntKind.i64 x3, Value.slice a5 (canon Q).length c5] 42)
        have hzf2 : (wr.alloc (Obj.cells #[Value.int IntKind.i64 x0, Value.int IntKind.i64 x2, Value.int IntKind.i64 x3, Value.slice a5 (canon Q).length c5] 42)).heap.size > wr.heap.size := by simp
        have hcl' : (canon Q).length ≤ 100000 := by have := canon_count Q; omega
        have HLD := Lib.hid (cload_of (x := x0) (y := x2) (k := x3) (c := c5) (own_rd (own_below hpp al)) hcl' (fun sp hsp => by have := canon_in (l := l) hF.1 sp hsp; unfold In40; omega) (by rw [ex_canon]; exact ⟨by omega, fun x hx => by have := hF.1 x hx; omega⟩))
        have e2 : (0 : Int) ≤ (k : Int) := by omega
        have e3 : (k : Int) < (n : Int) := by omega
        have hz0r : w.heap.size < wr.heap.size := by omega
        have HF := Lib.hid hF
        go_upto_region 7 with fail
        generalize wr.alloc (Obj.cells #[Value.int IntKind.i64 x0, Value.int IntKind.i64 x2, Value.int IntKind.i64 x3, Value.slice a5 (canon Q).length c5] 42) = w4 at *
        have q0 : w4.cell? ⟨wr.heap.size, 0, none⟩ = some (.int .i64 x0) := by rw [cell_at hfn]; rfl
        have q1 : w4.cell? ⟨wr.heap.size, 1, none⟩ = some (.int .i64 x2) := by rw [cell_at hfn]; rfl
        have q2 : w4.cell? ⟨wr.heap.size, 2, none⟩ = some (.int .i64 x3) := by rw [cell_at hfn]; rfl
        have q3 : w4.cell? ⟨wr.heap.size, 3, none⟩ = some (.slice a5 (canon Q).length c5) := by rw [cell_at hfn]; rfl
        have HB4 := Lib.hid (HB.out.trans (al.mono hzr))
        have HO4 := Lib.hid (own_below HO.out al)
        have HC4 := Lib.hid (HCE.out.below al)
        clear al hfn hpp hF p0 p1 p2 p3 HO HCE
        obtain ⟨L, hL⟩ : ∃ L, L = Ms ++ List.replicate (n - k) noneM := ⟨_, rfl⟩
        have hLl : L.length = n := by rw [hL, List.length_append, HMK.out, List.length_replicate]; omega
        have hkL : k < L.length := by omega
        rw [← hL] at HO4
        have HLL := Lib.hid hLl
        have HLE := Lib.hid hL
        have HKL := Lib.hid hkL
        clear hL hLl hkL
        go_wp2_with fail
        refine HLD.out.mono ?_; rintro e w5 ⟨a6, n6, c6, rfl, hx6, hb6⟩
        rw [ex_canon] at hx6
        have ho5 : w5.ownsRow w1.heap.size 50 4 (.slice (some ⟨w1.heap.size, 0, none⟩) L.length n) L.length (ceC L) := by rw [HLL.out]; exact own_below HO4.out hb6
        have hkL := HKL.out
        obtain ⟨cs5, hcs5⟩ := own_cellsAt ho5
        have zz := fun i => unfrozen hcs5 i
        have x0' := own_cells ho5 ((ceC_at L k L[k] 0 (List.getElem?_eq_getElem hkL) (by omega)).trans rfl)
        have x1' := own_cells ho5 ((ceC_at L k L[k] 1 (List.getElem?_eq_getElem hkL) (by omega)).trans rfl)
        have x2' := own_cells ho5 ((ceC_at L k L[k] 2 (List.getElem?_eq_getElem hkL) (by omega)).trans rfl)
        have x3' := own_cells ho5 ((ceC_at L k L[k] 3 (List.getElem?_eq_getElem hkL) (by omega)).trans rfl)
        rw [Nat.add_zero] at x0'
        obtain ⟨M, hM⟩ : ∃ M : CelM, M = ⟨a6, n6, c6, x0, x2, true, Q⟩ := ⟨_, rfl⟩
        obtain ⟨w6, hw6⟩ : ∃ w6, w6 = put4 w5 w1.heap.size (k * 4) (Value.slice a6 n6 c6) (Value.int .i64 x0) (Value.int .i64 x2) (Value.bool true) := ⟨_, rfl⟩
        have HO6 : Hid (w6.ownsRow w1.heap.size 50 4 (.slice (some ⟨w1.heap.size, 0, none⟩) (L.set k M).length n) (L.set k M).length (ceC (L.set k M))) := by
          have := put4_own (M := M) ho5 hkL
          rw [hM] at this
          rw [hw6, hM]; exact Lib.hid this
        have hset : ∀ (P : CelM), CeIn w5 0 l P → CeIn w6 0 l P := fun P hP => by
          rw [hw6]
          exact ⟨(((hP.tx.setT hcs5 (by decide)).setT (heap_set_at hcs5) (by decide)).setT (heap_set_at (heap_set_at hcs5)) (by decide)).setT (heap_set_at (heap_set_at (heap_set_at hcs5))) (by decide), hP.inl⟩
        have HM6 : Hid (CeIn w6 0 l M) := Lib.hid (hset M (by rw [hM]; exact ⟨hx6.mono (Nat.zero_le _), HF.out.1⟩))
        have HC6 : Hid (CesIn w6 0 l Ms) := Lib.hid (fun q hq => hset q ((HC4.out.below hb6) q hq))
        have HB6 : Hid (Below w1.heap.size w1 w6) := by rw [hw6]; exact Lib.hid (put4_below (HB4.out.trans (hb6.mono (by omega))) (Nat.le_refl _))
        have h60 := own_cells HO6.out ((ceC_at (L.set k M) k M 0 (by rw [List.getElem?_set_self hkL]) (by omega)).trans rfl)
        rw [Nat.add_zero, hM] at h60
        simp only at h60
        have HTx : Hid (Tx w6 (.slice a6 n6 c6) Q) := by have := HM6.out.tx; rw [hM] at this; exact Lib.hid this.tx
        have HLS : Hid (L.set k M = (Ms ++ [M]) ++ List.replicate (n - (k + 1)) noneM) := by
          show _ = _
          rw [HLE.out, List.set_append, if_neg (by rw [HMK.out]; omega), HMK.out, Nat.sub_self, show n - k = (n - (k + 1)) + 1 by omega, List.replicate_succ, List.set_cons_zero]
          simp
        have HKM : Hid (keyC M = keyF F) := by show _ = _; rw [hM, HKF.out]; rfl
        have hzw6 := HB6.out.size
        go_upto_region 8 with fail
        rw [show (((w5.setCell ⟨w1.heap.size, k * 4, none⟩ (Value.slice a6 n6 c6)).setCell ⟨w1.heap.size, k * 4 + 1, none⟩ (Value.int .i64 x0)).setCell ⟨w1.heap.size, k * 4 + 2, none⟩ (Value.int .i64 x2)).setCell ⟨w1.heap.size, k * 4 + 3, none⟩ (Value.bool true) = w6 from hw6.symm]
        clear hw6 hM ho5 hcs5 zz x0' x1' x2' x3' hx6 hb6 hset HO4 HC4 HB4 HLD q0 q1 q2 q3
        have HTL := Lib.hid (tlen_of HTx.out)
        generalize hql : Q.length = nq at *
        have HQL := Lib.hid hql
        clear hql
        have hh6 := (HB6.out.block (w.heap.size + 1) (by omega)).trans HH1.out
        have HH6 := Lib.hid hh6
        clear hh6
        go_wp2_with fail
        refine HTL.out.mono ?_; rintro e w7 ⟨rfl, hb7⟩
        have HO7 := Lib.hid (own_below HO6.out hb7)
        have HC7 := Lib.hid (HC6.out.below hb7)
        have HM7 := Lib.hid (HM6.out.below hb7)
        have HB7 := Lib.hid (HB6.out.trans (hb7.mono hzw6))
        have hh7 := (hb7.block (w.heap.size + 1) (by omega)).trans HH6.out
        have hzw7 := HB7.out.size
        have HH7 := Lib.hid hh7
        clear hb7 HO6 HC6 HM6 HB6 HTL HTx h60
        by_cases hbig : 400 < nq
        · have dq : decide ((400 : Int) < (nq : Int)) = true := decide_eq_true (by omega)
          have dq' : decide (400 < nq) = true := decide_eq_true hbig
          have zz := fun i => unfrozen hh7 i
          have r0 : w7.cell? ⟨w.heap.size + 1, 0, none⟩ = some (.slice none 0 0) := by rw [cell_at hh7]; rfl
          have r1 : w7.cell? ⟨w.heap.size + 1, 1, none⟩ = some (.int .i64 0) := by rw [cell_at hh7]; rfl
          have r2 : w7.cell? ⟨w.heap.size + 1, 2, none⟩ = some (.bool false) := by rw [cell_at hh7]; rfl
          clear hh7
          go_wp2_with fail
          have hs := set3_at HH7.out (.slice none 0 0) (.int .i64 0) (.bool false)
          have hB := set3_below (HB1.out.trans (HB7.out.mono (show w.heap.size ≤ w1.heap.size by omega))) (show w.heap.size ≤ w.heap.size + 1 by omega) (.slice none 0 0) (.int .i64 0) (.bool false)
          have q0 : (set3 w7 (w.heap.size + 1) (.slice none 0 0) (.int .i64 0) (.bool false)).cell? ⟨w.heap.size + 1, 0, none⟩ = some (.slice none 0 0) := by rw [cell_at hs]; rfl
          have q1 : (set3 w7 (w.heap.size + 1) (.slice none 0 0) (.int .i64 0) (.bool false)).cell? ⟨w.heap.size + 1, 1, none⟩ = some (.int .i64 0) := by rw [cell_at hs]; rfl
          have q2 : (set3 w7 (w.heap.size + 1) (.slice none 0 0) (.int .i64 0) (.bool false)).cell? ⟨w.heap.size + 1, 2, none⟩ = some (.bool false) := by rw [cell_at hs]; rfl
          unfold set3 at hB q0 q1 q2
          exact bodyPost_ret (v := .tuple #[rowV none 0 0 0 false, .int .i64 7]) (by simp [results, Try.results31, go_sem, q0, q1, q2]) rfl ⟨hB, .inr (.inl ⟨by rw [HNN.out]; omega, ⟨F, HMEM.out, by unfold longF; rw [HQ.out, HQL.out]; exact hbig⟩, rfl⟩)⟩
        · have dq : decide ((400 : Int) < (nq : Int)) = false := decide_eq_false (by omega)
          have dq' : decide (400 < nq) = false := decide_eq_false hbig
          clear hh7
          go_wp2_with fail
          go_roundw <;> first | exact ⟨k + 1, Ms ++ [M], rfl, by omega, by rw [List.length_append, HMK.out]; rfl, by rw [List.map_append, HKY.out, HST.out, List.map_append, List.map_singleton, List.map_singleton, HKM.out], (by intro f hf; rw [HST.out] at hf; exact (List.mem_append.mp hf).elim (fun h => HSH.out f h) (fun h => by rw [List.mem_singleton.mp h]; unfold longF; rw [HQ.out, HQL.out]; exact hbig)), (by have := HO7.out; rw [List.length_set, HLL.out, HLS.out] at this; exact this), (fun q hq => (List.mem_append.mp hq).elim (fun h => HC7.out q h) (fun h => by rw [List.mem_singleton.mp h]; exact HM7.out)), HB7.out⟩ | omega | (simp [intOf]; omega) | fail
      · have hkn : k = n := by omega
        subst hkn
        have dk : decide (k < k) = false := decide_eq_false (by omega)
        have hh6 := (HB.out.block (w.heap.size + 1) (by omega)).trans HH1.out
        have hp6 := (HB.out.block (w.heap.size) (by omega)).trans H0.out
        have HH6 := Lib.hid hh6
        have zz := fun i => unfrozen hh6 i
        have r0 : wr.cell? ⟨w.heap.size + 1, 0, none⟩ = some (.slice none 0 0) := by rw [cell_at hh6]; rfl
        have r1 : wr.cell? ⟨w.heap.size + 1, 1, none⟩ = some (.int .i64 0) := by rw [cell_at hh6]; rfl
        have r2 : wr.cell? ⟨w.heap.size + 1, 2, none⟩ = some (.bool false) := by rw [cell_at hh6]; rfl
        have k1 : wr.cell? ⟨w.heap.size, 1, none⟩ = some (.int .i64 R.fin) := by rw [cell_at hp6]; rfl
        clear hh6 hp6
        go_wp2_with fail
        have hown : wr.ownsRow w1.heap.size 50 4 (.slice (some ⟨w1.heap.size, 0, none⟩) Ms.length k) Ms.length (ceC Ms) := by
          have := HO.out; rw [Nat.sub_self, List.replicate_zero, List.append_nil] at this; rw [HMK.out]; exact this
        have hro := (own_ro hown HCE.out).set3 (u0 := .slice (some ⟨w1.heap.size, 0, none⟩) k k) (u1 := .int .i64 R.fin) (u2 := .bool false) HH6.out (by decide) (by decide)
        have hs := set3_at HH6.out (.slice (some ⟨w1.heap.size, 0, none⟩) k k) (.int .i64 R.fin) (.bool false)
        have hB := set3_below (HB1.out.trans (HB.out.mono (show w.heap.size ≤ w1.heap.size by omega))) (show w.heap.size ≤ w.heap.size + 1 by omega) (.slice (some ⟨w1.heap.size, 0, none⟩) k k) (.int .i64 R.fin) (.bool false)
        have q0 : (set3 wr (w.heap.size + 1) (.slice (some ⟨w1.heap.size, 0, none⟩) k k) (.int .i64 R.fin) (.bool false)).cell? ⟨w.heap.size + 1, 0, none⟩ = some (.slice (some ⟨w1.heap.size, 0, none⟩) k k) := by rw [cell_at hs]; rfl
        have q1 : (set3 wr (w.heap.size + 1) (.slice (some ⟨w1.heap.size, 0, none⟩) k k) (.int .i64 R.fin) (.bool false)).cell? ⟨w.heap.size + 1, 1, none⟩ = some (.int .i64 R.fin) := by rw [cell_at hs]; rfl
        have q2 : (set3 wr (w.heap.size + 1) (.slice (some ⟨w1.heap.size, 0, none⟩) k k) (.int .i64 R.fin) (.bool false)).cell? ⟨w.heap.size + 1, 2, none⟩ = some (.bool false) := by rw [cell_at hs]; rfl
        unfold set3 at hro hB q0 q1 q2
        exact bodyPost_ret (v := .tuple #[rowV (some ⟨w1.heap.size, 0, none⟩) k k R.fin false, .int .i64 0]) (by simp [results, Try.results31, go_sem, q0, q1, q2]) rfl ⟨hB, .inr (.inr ⟨by rw [HNN.out]; omega, (by intro f hf; exact HSH.out f (by rw [← HNN.out, List.take_length]; exact hf)), some ⟨w1.heap.size, 0, none⟩, k, Ms, (by rw [HMK.out]), (by rw [HKY.out, ← HNN.out, List.take_length]), hro, HMK.out, (fun h => by cases h)⟩)⟩

end Go.Proofs.Ytmdifcgnmkpecaa
