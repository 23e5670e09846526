/-
  Texts of this seat, put together (a claim holds few texts): RwB, RwC.
-/
import Derived.Test.YtkgakgceamafcaaGreatMk16

namespace Go.Proofs.YtkgakgceamafcaaGreat
open Go Go.RowKit
set_option linter.unusedVariables false

/-- copy, of elements of k cells, into a whole block of one's own. -/
theorem wpList_copyK {P : Program} {w : World} {ops : Array Oper} {rest : List Oper} {o : Oper} {a : Act} {Q : Exit → Act → World → Prop} (hgd : o.guard = none) (d s : Operand) (dT sT : TypeId)
    (ho : o.op = .call { callee := .builtin .copy, args := #[d, s], argTypes := #[dT, sT] }) (elem : TypeId) (hu : P.underlying dT = some (.slice elem)) (k : Nat) (hsz : (P.info? elem).map (·.size) = some k)
    (g dLen dCap : Nat) (sp : Option Addr) (sLen sCap : Nat) (hd : a.eval d = .slice (some ⟨g, 0, none⟩) dLen dCap) (hs : a.eval s = .slice sp sLen sCap)
    (cur : List Value) (t : TypeId) (hg : w.heap[g]? = some (.cells cur.toArray t (0, 0))) (cs : List Value) (n : Nat) (hn : n = Nat.min sLen dLen) (hcs : cs.length = n * k)
    (hpos : 0 < cs.length → ∃ ad, sp = some ad ∧ ∀ j v, cs[j]? = some v → w.cell? (ad.add j) = some v)
    (hfit : cs.length ≤ cur.length) (h1 : ∀ v ∈ cs, v.oneCell' = true) (B : Nat) (w0 : World) (hb : Below B w0 w) (hBg : B ≤ g)
    (h : ∀ w', Hid (w'.heap[g]? = some (.cells (cs ++ cur.drop cs.length).toArray t (0, 0))) → Below B w0 w' → wpList P ops Q rest (a.put o.dst (goInt n)) w') :
    wpList P ops Q (o :: rest) a w := by
  have hrun : (Builtin.copy_ #[dT, sT] o.type #[.slice (some ⟨g, 0, none⟩) dLen dCap, .slice sp sLen sCap]).run P w = .ok (goInt n) (w.setRow g (cs ++ cur.drop cs.length).toArray) := by
    have hst := run_storeCells_at P g 0 t cs 0 cur.toArray w hg (by simpa using hfit) h1
    simp only [Nat.zero_add, List.take_zero, List.nil_append] at hst
    cases hq : P.info? elem with
    | none => simp [hq] at hsz
    | some i =>
      have hi : i.size = k := by simpa [hq] using hsz
      cases sp with
      | none =>
        have h0 : cs = [] := by
          rcases Nat.eq_zero_or_pos cs.length with h | h
          · exact List.eq_nil_of_length_eq_zero h
          · obtain ⟨ad, e, _⟩ := hpos h; cases e
        subst h0
        simp [Builtin.copy_, run_underlying hu, Builtin.lenOf, Builtin.firstCells, sizeOf, typeInfo, hq, storeCells, ← hn]
        exact (setRow_self w g cur.toArray t (0, 0) hg).symm
      | some ad =>
        have hl := run_loadCells_list (P := P) w ad cs (by
          intro j v hj
          have hp : 0 < cs.length := by
            have := (List.getElem?_eq_some_iff.1 hj).1; omega
          obtain ⟨ad', e, hc⟩ := hpos hp
          cases e
          exact hc j v hj)
        simp [Builtin.copy_, run_underlying hu, Builtin.lenOf, Builtin.firstCells, sizeOf, typeInfo, hq, hi, ← hn, ← hcs, hl, hst]
  refine wpList_plain hgd fun K hK => ?_
  unfold Oper.wp
  simp [execOp, ho, resolve, invoke, builtin, hd, hs, hrun, Result.andThen]
  exact hK _ _ (h _ (show _ = _ from setRow_heap w g _ _ t _ hg) (Go.below_setRow hb hBg _))

theorem own_full {w : World} {B s n g : Nat} {e : TypeId} {xs : List Value} (h : w.ownsRow B e s (.slice (some ⟨g, 0, none⟩) n n) n xs) : w.heap[g]? = some (.cells xs.toArray e (0, 0)) ∧ B ≤ g := by
  rcases h.2 with ⟨h1, _⟩ | ⟨g', cap, cur, h1, hB, hg, _, _, hsz, ht⟩
  · cases h1
  · simp only [Value.slice.injEq, Option.some.injEq, Addr.mk.injEq, and_true, true_and] at h1
    obtain ⟨rfl, rfl⟩ := h1
    refine ⟨?_, hB⟩
    rw [hg, ← ht, ← hsz, ← Array.length_toList, List.take_length]
/-- The empty cell. -/
def noneM : CelM := ⟨none, 0, 0, 0, 0, false, []⟩
theorem noneM_in (w : World) (l : List UInt8) : CeIn w 0 l noneM := by
  have hc : canon noneM.t = [] := by simp [noneM, canon]
  refine ⟨⟨none, 0, by rw [hc]; rfl, by rw [hc]; exact ⟨rfl, fun hn => absurd hn (by simp)⟩, ⟨by simp [noneM], fun x hx => by simp [noneM] at hx⟩, (fun d hd => by simp at hd), fun _ => rfl, (fun d hd => by simp at hd)⟩, fun x hx => by simp [noneM] at hx⟩
theorem ceC_app (a b : List CelM) : ceC (a ++ b) = ceC a ++ ceC b := by unfold ceC; simp
theorem ceC_at4 (ps : List CelM) (j : Nat) (h : j < ps.length * 4) : (ceC ps)[j]? = (ceC1 (ps[j / 4]'(by omega)))[j % 4]? := by
  have := ceC_at ps (j / 4) (ps[j / 4]'(by omega)) (j % 4) (List.getElem?_eq_getElem (by omega)) (Nat.mod_lt _ (by omega))
  rw [← this]; congr 1; omega
theorem made_cells (m : Nat) : (madeCells #[.slice none 0 0, .int .i64 0, .int .i64 0, .bool false] (m * 4)).toList = ceC (List.replicate m noneM) := by
  apply List.ext_getElem?
  intro j
  by_cases hj : j < m * 4
  · rw [ceC_at4 _ j (by simpa using hj)]
    simp only [List.getElem_replicate]
    have e : (madeCells #[Value.slice none 0 0, .int .i64 0, .int .i64 0, .bool false] (m * 4)).toList[j]? = some (#[Value.slice none 0 0, .int .i64 0, .int .i64 0, .bool false][j % 4]!) := by
      simp [madeCells, hj]
    rw [e]
    have h4 := Nat.mod_lt j (show 0 < 4 by omega)
    rcases (show j % 4 = 0 ∨ j % 4 = 1 ∨ j % 4 = 2 ∨ j % 4 = 3 by omega) with h | h | h | h <;> rw [h] <;> rfl
  · rw [List.getElem?_eq_none (by simp [size_madeCells]; omega), List.getElem?_eq_none (by rw [ceC_len]; simp; omega)]
/-- A list with empty cells behind, up to so many. -/
def padL (ps : List CelM) (N : Int) : List CelM := ps ++ List.replicate ((min N 40).toNat - ps.length) noneM

set_option maxRecDepth 100000 in
set_option maxHeartbeats 2000000 in
theorem rpad_of {w : World} {l : List UInt8} {a : Option Addr} {c : Nat} {e : Int} {h : Bool} {ps : List CelM} (N : Int) (hr : RoIn w l a ps) (hl : ps.length ≤ 1000000) (hN : I64 N) :
    Calls Tryz.prog 120 #[rowV a ps.length c e h, .int .i64 N] w fun e' w' => ∃ a' c', e' = .returned (rowV a' (padL ps N).length c' e h) ∧ RoIn w' l a' (padL ps N) ∧ Below w.heap.size w w' := by
  obtain ⟨i0, hi0, hz0, hz1, hz2⟩ := info_parts info_cell
  generalize hps : ps.length = n at *
  obtain ⟨w1, hw1⟩ : ∃ w1, w1 = allocs w [Obj.cells #[Value.slice a n c, Value.int .i64 e, Value.bool h] 103, Obj.cells #[Value.slice none 0 0, Value.int .i64 0, Value.bool false] 103] := ⟨_, rfl⟩
  have HB1 : Hid (Below w.heap.size w w1) := by rw [hw1]; exact Lib.hid (allocs_below _ w)
  have hzw : w1.heap.size > w.heap.size + 1 := by rw [hw1, allocs_size]; simp
  have h0 : w1.heap[w.heap.size]? = some (.cells #[Value.slice a n c, Value.int .i64 e, Value.bool h] 103 (0, 0)) := by rw [hw1]; exact allocs_at _ w 0 _ rfl
  have HH1 : Hid (w1.heap[w.heap.size + 1]? = some (.cells #[Value.slice none 0 0, Value.int .i64 0, Value.bool false] 103 (0, 0))) := by rw [hw1]; exact Lib.hid (allocs_at _ w 1 _ rfl)
  have HR := Lib.hid hr
  have k0 : w1.cell? ⟨w.heap.size, 0, none⟩ = some (Value.slice a n c) := by rw [cell_at h0]; rfl
  have k1 : w1.cell? ⟨w.heap.size, 1, none⟩ = some (.int .i64 e) := by rw [cell_at h0]; rfl
  have k2 : w1.cell? ⟨w.heap.size, 2, none⟩ = some (.bool h) := by rw [cell_at h0]; rfl
  have H0 := Lib.hid h0
  have hh1 := HH1.out
  have zz := fun i => unfrozen hh1 i
  have r0 : w1.cell? ⟨w.heap.size + 1, 0, none⟩ = some (.slice none 0 0) := by rw [cell_at hh1]; rfl
  have r1 : w1.cell? ⟨w.heap.size + 1, 1, none⟩ = some (.int .i64 0) := by rw [cell_at hh1]; rfl
  have r2 : w1.cell? ⟨w.heap.size + 1, 2, none⟩ = some (.bool false) := by rw [cell_at hh1]; rfl
  clear h0 hr hh1
  obtain ⟨hN1, hN2⟩ := hN
  obtain ⟨M, hM⟩ : ∃ M, min N 40 = M := ⟨_, rfl⟩
  have HMM := Lib.hid hM
  go_enter Tryz.func120, Tryz.ntmps120
  go_upto_region 1 with fail
  rw [show (w.alloc (Obj.cells #[Value.slice a n c, Value.int .i64 e, Value.bool h] 103)).alloc (Obj.cells #[Value.slice none 0 0, Value.int .i64 0, Value.bool false] 103) = w1 from hw1.symm]
  clear hw1
  go_upto_region 2 with fail
  by_cases hle : M ≤ (n : Int)
  · have d : decide (M ≤ (n : Int)) = true := decide_eq_true hle
    have HE : Hid (padL ps N = ps) := by
      show _ = _
      have := HMM.out
      unfold padL
      rw [this, hps, show M.toNat - n = 0 by omega]; simp
    go_wp2_with fail
    have hs := set3_at HH1.out (Value.slice a n c) (.int .i64 e) (.bool h)
    have hB := set3_below HB1.out (show w.heap.size ≤ w.heap.size + 1 by omega) (Value.slice a n c) (.int .i64 e) (.bool h)
    have q0 : (set3 w1 (w.heap.size + 1) (Value.slice a n c) (.int .i64 e) (.bool h)).cell? ⟨w.heap.size + 1, 0, none⟩ = some (Value.slice a n c) := by rw [cell_at hs]; rfl
    have q1 : (set3 w1 (w.heap.size + 1) (Value.slice a n c) (.int .i64 e) (.bool h)).cell? ⟨w.heap.size + 1, 1, none⟩ = some (.int .i64 e) := by rw [cell_at hs]; rfl
    have q2 : (set3 w1 (w.heap.size + 1) (Value.slice a n c) (.int .i64 e) (.bool h)).cell? ⟨w.heap.size + 1, 2, none⟩ = some (.bool h) := by rw [cell_at hs]; rfl
    unfold set3 at hB q0 q1 q2
    exact bodyPost_ret (v := rowV a n c e h) (by simp [results, Tryz.results120, go_sem, q0, q1, q2]) rfl ⟨a, c, by rw [HE.out, hps], by rw [HE.out]; exact HR.out.below hB, hB⟩
  · have d : decide (M ≤ (n : Int)) = false := decide_eq_false hle
    obtain ⟨m, rfl⟩ := Int.eq_ofNat_of_zero_le (show 0 ≤ M by omega)
    have hm40 : m ≤ 40 := by omega
    have HE : Hid (padL ps N = ps ++ List.replicate (m - n) noneM) := by
      show _ = _
      have := HMM.out
      unfold padL
      rw [this, hps, Int.toNat_natCast]
    have hnm : n < m := by omega
    clear hM
    go_wp2_with (at_make; refine wpList_make_full _ rfl _ _ 46 rfl w.heap.size 61 i0 (.agg #[.slice none 0 0, .int .i64 0, .int .i64 0, .bool false]) 4 Tryz.underlying46 hi0 hz0 hz1 .i64 .i64 _ _ m rfl rfl rfl rfl ?b2 ?b3 ?b4 ?_)
    case b2 => omega
    case b3 => unfold maxLen; omega
    case b4 => omega
    intro w3 hown hgrow
    rw [show (madeCells #[Value.slice none 0 0, .int .i64 0, .int .i64 0, .bool false] (m * 4)).toList = ceC (List.replicate m noneM) from made_cells m] at hown
    have hb3 := (Below.refl w1.heap.size w1).grown hgrow (Nat.le_refl _) (by simp)
    have hg := (own_full hown).1
    have hk0 := (hb3.cell (p := ⟨w.heap.size, 0, none⟩) (by simp only; omega)).trans k0
    have hk1 := (hb3.cell (p := ⟨w.heap.size, 1, none⟩) (by simp only; omega)).trans k1
    have hk2 := (hb3.cell (p := ⟨w.heap.size, 2, none⟩) (by simp only; omega)).trans k2
    have HR3 := Lib.hid (HR.out.below (HB1.out.trans (hb3.mono (by omega))))
    have HG := Lib.hid hg
    have HB3 := Lib.hid hb3
    have HPS := Lib.hid hps
    have HCL : Hid ((ceC ps).length = n * 4) := by show _ = _; rw [ceC_len, hps]
    have HSZ : Hid ((Tryz.prog.info? 61).map (·.size) = some 4) := by show _ = _; rw [hi0]; exact congrArg some hz1
    clear hown hgrow hg hb3 k0 k1 k2 hps
    go_wp2_with (refine wpList_copyK rfl (.tmp 16) (.tmp 18) 46 46 rfl 61 Tryz.underlying46 4 HSZ.out w1.heap.size m m a n c (by simp [Act.eval]) (by simp [Act.eval]) (ceC (List.replicate m noneM)) 61 HG.out (ceC ps) n (by show n = min _ _; omega) HCL.out ?hp ?hf (ceC_one ps) w1.heap.size w1 HB3.out (Nat.le_refl _) ?_)
    case hp =>
      intro hpos
      rw [HCL.out] at hpos
      obtain ⟨g, off, e1, _, hc⟩ := HR3.out.rd.2 (by rw [HPS.out]; omega)
      exact ⟨_, e1, fun j v hj => by rw [Addr.add_lit]; exact hc j v hj⟩
    case hf => rw [HCL.out, ceC_len, List.length_replicate]; omega
    intro w4 hg4 hb4
    have HC4 : Hid (w4.heap[w1.heap.size]? = some (.cells (ceC (padL ps N)).toArray 61 (0, 0))) := by
      show _ = _
      rw [HE.out, hg4.out, HCL.out, ceC_app]
      congr 3
      rw [show m = n + (m - n) by omega, ← List.replicate_append_replicate, ceC_app, show n * 4 = (ceC (List.replicate n noneM)).length by rw [ceC_len, List.length_replicate], List.drop_left, Nat.add_sub_cancel_left]
    have HLen : Hid ((padL ps N).length = m) := by show _ = _; rw [HE.out, List.length_append, HPS.out, List.length_replicate]; omega
    have HB4 := Lib.hid hb4
    have hj0 := (hb4.cell (p := ⟨w.heap.size, 0, none⟩) (by simp only; omega)).trans ((HB3.out.cell (p := ⟨w.heap.size, 0, none⟩) (by simp only; omega)).symm.trans hk0)
    have hj1 := (hb4.cell (p := ⟨w.heap.size, 1, none⟩) (by simp only; omega)).trans ((HB3.out.cell (p := ⟨w.heap.size, 1, none⟩) (by simp only; omega)).symm.trans hk1)
    have hj2 := (hb4.cell (p := ⟨w.heap.size, 2, none⟩) (by simp only; omega)).trans ((HB3.out.cell (p := ⟨w.heap.size, 2, none⟩) (by simp only; omega)).symm.trans hk2)
    have HW := Lib.hid (rwith_of (w := w4) a n c e h (some ⟨w1.heap.size, 0, none⟩) m m)
    have hz4 := hb4.size
    clear hb4 hk0 hk1 hk2 hg4 r0 r1 r2 zz
    go_wp2_with fail
    refine HW.out.mono ?_; rintro e' w5 ⟨rfl, hb5⟩
    have HB5 := Lib.hid (HB1.out.trans ((HB4.out.trans (hb5.mono hz4)).mono (by omega)))
    have hh5 := ((HB4.out.trans (hb5.mono hz4)).block (w.heap.size + 1) (by omega)).trans HH1.out
    have HC5 := Lib.hid ((hb5.block w1.heap.size (lt_of_heap HC4.out)).trans HC4.out)
    have hz5 := hb5.size
    have zz := fun i => unfrozen hh5 i
    have r0 : w5.cell? ⟨w.heap.size + 1, 0, none⟩ = some (.slice none 0 0) := by rw [cell_at hh5]; rfl
    have r1 : w5.cell? ⟨w.heap.size + 1, 1, none⟩ = some (.int .i64 0) := by rw [cell_at hh5]; rfl
    have r2 : w5.cell? ⟨w.heap.size + 1, 2, none⟩ = some (.bool false) := by rw [cell_at hh5]; rfl
    have HH5 := Lib.hid hh5
    clear hh5 hb5 HW hj0 hj1 hj2
    go_wp2_with fail
    have hro : RoIn (set3 w5 (w.heap.size + 1) (.slice (some ⟨w1.heap.size, 0, none⟩) m m) (.int .i64 e) (.bool h)) l (some ⟨w1.heap.size, 0, none⟩) (padL ps N) := by
      have hbs := set3_below (B := w.heap.size + 1) ((Below.refl (w.heap.size + 1) w5)) (Nat.le_refl _) (.slice (some ⟨w1.heap.size, 0, none⟩) m m) (.int .i64 e) (.bool h)
      have hcs := (heap_set_other (w := (w5.setCell ⟨w.heap.size + 1, 0, none⟩ (.slice (some ⟨w1.heap.size, 0, none⟩) m m)).setCell ⟨w.heap.size + 1, 1, none⟩ (.int .i64 e)) (o := 2) (u := .bool h) (show w1.heap.size ≠ w.heap.size + 1 by omega)).trans ((heap_set_other (w := w5.setCell ⟨w.heap.size + 1, 0, none⟩ (.slice (some ⟨w1.heap.size, 0, none⟩) m m)) (o := 1) (u := .int .i64 e) (show w1.heap.size ≠ w.heap.size + 1 by omega)).trans ((heap_set_other (w := w5) (o := 0) (u := .slice (some ⟨w1.heap.size, 0, none⟩) m m) (show w1.heap.size ≠ w.heap.size + 1 by omega)).trans HC5.out))
      refine ⟨⟨by rw [ceC_len], fun _ => ⟨w1.heap.size, 0, rfl, lt_of_heap hcs, fun j u hj => ?_⟩⟩, fun q hq => ?_, fun d hd => ?_⟩
      · unfold set3
        rw [Nat.zero_add, cell_at hcs]; simpa using hj
      · rw [HE.out] at hq
        rcases List.mem_append.1 hq with hq | hq
        · exact (HR.out.below (set3_below HB5.out (show w.heap.size ≤ w.heap.size + 1 by omega) _ _ _)).ces q hq
        · rw [(List.mem_replicate.1 hq).2]; exact noneM_in _ _
      · injection hd with hd; subst hd; exact ⟨_, hcs⟩
    have hln := HLen.out
    have hs := set3_at HH5.out (.slice (some ⟨w1.heap.size, 0, none⟩) m m) (.int .i64 e) (.bool h)
    have hB := set3_below HB5.out (show w.heap.size ≤ w.heap.size + 1 by omega) (.slice (some ⟨w1.heap.size, 0, none⟩) m m) (.int .i64 e) (.bool h)
    have q0 : (set3 w5 (w.heap.size + 1) (.slice (some ⟨w1.heap.size, 0, none⟩) m m) (.int .i64 e) (.bool h)).cell? ⟨w.heap.size + 1, 0, none⟩ = some (.slice (some ⟨w1.heap.size, 0, none⟩) m m) := by rw [cell_at hs]; rfl
    have q1 : (set3 w5 (w.heap.size + 1) (.slice (some ⟨w1.heap.size, 0, none⟩) m m) (.int .i64 e) (.bool h)).cell? ⟨w.heap.size + 1, 1, none⟩ = some (.int .i64 e) := by rw [cell_at hs]; rfl
    have q2 : (set3 w5 (w.heap.size + 1) (.slice (some ⟨w1.heap.size, 0, none⟩) m m) (.int .i64 e) (.bool h)).cell? ⟨w.heap.size + 1, 2, none⟩ = some (.bool h) := by rw [cell_at hs]; rfl
    unfold set3 at hro hB q0 q1 q2
    exact bodyPost_ret (v := rowV (some ⟨w1.heap.size, 0, none⟩) m m e h) (by simp [results, Tryz.results120, go_sem, q0, q1, q2]) rfl ⟨some ⟨w1.heap.size, 0, none⟩, m, by rw [hln], hro, hB⟩

end Go.Proofs.YtkgakgceamafcaaGreat

namespace Go.Proofs.YtkgakgceamafcaaGreat
open Go Go.RowKit
set_option linter.unusedVariables false

/-- Four cells of a block are written. -/
def put4 (w : World) (b o : Nat) (u0 u1 u2 u3 : Value) : World := (((w.setCell ⟨b, o, none⟩ u0).setCell ⟨b, o + 1, none⟩ u1).setCell ⟨b, o + 2, none⟩ u2).setCell ⟨b, o + 3, none⟩ u3
theorem put4_other {w : World} {b o b' : Nat} {u0 u1 u2 u3 : Value} (hn : b' ≠ b) : (put4 w b o u0 u1 u2 u3).heap[b']? = w.heap[b']? := by
  unfold put4
  rw [heap_set_other hn, heap_set_other hn, heap_set_other hn, heap_set_other hn]
theorem put4_below {B b o : Nat} {a w : World} {u0 u1 u2 u3 : Value} (h : Below B a w) (hb : B ≤ b) : Below B a (put4 w b o u0 u1 u2 u3) :=
  (((h.setCell (p := ⟨b, o, none⟩) hb _).setCell (p := ⟨b, o + 1, none⟩) hb _).setCell (p := ⟨b, o + 2, none⟩) hb _).setCell (p := ⟨b, o + 3, none⟩) hb _
theorem put4_own {w : World} {B g c i : Nat} {L : List CelM} {M : CelM} (h : w.ownsRow B 61 4 (.slice (some ⟨g, 0, none⟩) L.length c) L.length (ceC L)) (hi : i < L.length) :
    (put4 w g (i * 4) (.slice M.a M.n M.c) (.int .i64 M.x) (.int .i64 M.y) (.bool M.k)).ownsRow B 61 4 (.slice (some ⟨g, 0, none⟩) (L.set i M).length c) (L.set i M).length (ceC (L.set i M)) := by
  rcases h.2 with ⟨h1, _⟩ | ⟨g', cap, cur, h1, hB, hg, hnc, hcm, hsz, ht⟩
  · cases h1
  · simp only [Value.slice.injEq, Option.some.injEq, Addr.mk.injEq, and_true, true_and] at h1
    obtain ⟨rfl, rfl⟩ := h1
    rw [List.length_set]
    refine ⟨by rw [ceC_len, List.length_set], .inr ⟨g, c, _, rfl, hB, (by unfold put4; exact heap_set_at (heap_set_at (heap_set_at (heap_set_at hg)))), hnc, hcm, by simp [hsz], ?_⟩⟩
    apply List.ext_getElem?
    intro j
    by_cases hj : j < L.length * 4
    · have hjc : j < cur.size := by rw [hsz]; omega
      have h0 : cur[j]? = (ceC L)[j]? := by
        rw [← ht, List.getElem?_take, if_pos hj, Array.getElem?_toList]
      have hs : (ceC (L.set i M))[j]? = if j / 4 = i then (ceC1 M)[j % 4]? else (ceC L)[j]? := by
        rw [ceC_at4 _ j (by rw [List.length_set]; exact hj), List.getElem_set]
        by_cases hji : i = j / 4
        · rw [if_pos hji, if_pos hji.symm]
        · rw [if_neg hji, if_neg (fun e => hji e.symm), ceC_at4 _ j hj]
      rw [hs, List.getElem?_take, if_pos hj, Array.getElem?_toList]
      simp only [Array.getElem?_setIfInBounds, Array.size_setIfInBounds]
      by_cases hji : j / 4 = i
      · rw [if_pos hji]
        have h4 := Nat.mod_lt j (show 0 < 4 by omega)
        rcases (show j % 4 = 0 ∨ j % 4 = 1 ∨ j % 4 = 2 ∨ j % 4 = 3 by omega) with h | h | h | h
        · rw [if_neg (by omega), if_neg (by omega), if_neg (by omega), if_pos (by omega), if_pos (by omega), h]; rfl
        · rw [if_neg (by omega), if_neg (by omega), if_pos (by omega), if_pos (by omega), h]; rfl
        · rw [if_neg (by omega), if_pos (by omega), if_pos (by omega), h]; rfl
        · rw [if_pos (by omega), if_pos (by omega), h]; rfl
      · rw [if_neg hji, if_neg (by omega), if_neg (by omega), if_neg (by omega), if_neg (by omega), h0]
    · rw [List.getElem?_eq_none (by rw [List.length_take]; omega), List.getElem?_eq_none (by rw [ceC_len, List.length_set]; omega)]

set_option maxRecDepth 100000 in
set_option maxHeartbeats 2000000 in
theorem rfresh_of {w : World} (l : List UInt8) (N E : Int) (hN : I64 N) :
    Calls Tryz.prog 131 #[.int .i64 N, .int .i64 E] w fun e' w' => ∃ a' c', e' = .returned (rowV a' (padL [] (max N 1)).length c' E false) ∧ RoIn w' l a' (padL [] (max N 1)) ∧ Below w.heap.size w w' := by
  have al := below_al w (Obj.cells #[Value.slice none 0 0, Value.int .i64 0, Value.bool false] 103)
  have hh0 := heap_alloc_new w (Obj.cells #[Value.slice none 0 0, Value.int .i64 0, Value.bool false] 103)
  have hzw : (w.alloc (Obj.cells #[Value.slice none 0 0, Value.int .i64 0, Value.bool false] 103)).heap.size > w.heap.size := by simp
  obtain ⟨M, hM⟩ : ∃ M, max N 1 = M := ⟨_, rfl⟩
  have hMI : I64 M := by obtain ⟨h1, h2⟩ := hN; unfold I64; omega
  have HMM := Lib.hid hM
  go_enter Tryz.func131, Tryz.ntmps131
  go_upto_region 1 with fail
  generalize w.alloc (Obj.cells #[Value.slice none 0 0, Value.int .i64 0, Value.bool false] 103) = w1 at *
  have HP := Lib.hid (rpad_of (w := w1) (l := l) (a := none) (c := 0) (e := E) (h := false) (ps := []) M ⟨⟨rfl, fun hn => absurd hn (by simp)⟩, (fun q hq => by simp at hq), (fun d hd => by cases hd)⟩ (by simp) hMI)
  have HB1 := Lib.hid al
  have HH1 := Lib.hid hh0
  clear al hh0 hMI hN
  go_wp2_with fail
  refine HP.out.mono ?_; rintro e' w5 ⟨a', c', rfl, hro5, hb5⟩
  have HB5 := Lib.hid (HB1.out.trans (hb5.mono (by omega)))
  have hh5 := (hb5.block w.heap.size (by omega)).trans HH1.out
  have zz := fun i => unfrozen hh5 i
  have r0 : w5.cell? ⟨w.heap.size, 0, none⟩ = some (.slice none 0 0) := by rw [cell_at hh5]; rfl
  have r1 : w5.cell? ⟨w.heap.size, 1, none⟩ = some (.int .i64 0) := by rw [cell_at hh5]; rfl
  have r2 : w5.cell? ⟨w.heap.size, 2, none⟩ = some (.bool false) := by rw [cell_at hh5]; rfl
  have HH5 := Lib.hid hh5
  have HR5 := Lib.hid hro5
  have hz5 := hb5.size
  obtain ⟨k, hk⟩ : ∃ k, (padL [] M).length = k := ⟨_, rfl⟩
  have HKK := Lib.hid hk
  rw [hk]
  clear hh5 hb5 hro5 HP hk
  go_wp2_with fail
  have hro := HR5.out.set3 (u0 := .slice a' k c') (u1 := .int .i64 E) (u2 := .bool false) HH5.out (by decide) (by decide)
  rw [HMM.out, HKK.out]
  have hs := set3_at HH5.out (.slice a' k c') (.int .i64 E) (.bool false)
  have hB := set3_below HB5.out (Nat.le_refl _) (.slice a' k c') (.int .i64 E) (.bool false)
  have q0 : (set3 w5 (w.heap.size) (.slice a' k c') (.int .i64 E) (.bool false)).cell? ⟨w.heap.size, 0, none⟩ = some (.slice a' k c') := by rw [cell_at hs]; rfl
  have q1 : (set3 w5 (w.heap.size) (.slice a' k c') (.int .i64 E) (.bool false)).cell? ⟨w.heap.size, 1, none⟩ = some (.int .i64 E) := by rw [cell_at hs]; rfl
  have q2 : (set3 w5 (w.heap.size) (.slice a' k c') (.int .i64 E) (.bool false)).cell? ⟨w.heap.size, 2, none⟩ = some (.bool false) := by rw [cell_at hs]; rfl
  unfold set3 at hro hB q0 q1 q2
  exact bodyPost_ret (v := rowV a' k c' E false) (by simp [results, Tryz.results131, go_sem, q0, q1, q2]) rfl ⟨a', c', rfl, hro, hB⟩

theorem rfield0 (w : World) (a : Option Addr) (n c : Nat) (e : Int) (h : Bool) : Sem.run Tryz.prog (Instr.field 103 (.agg #[.slice a n c, .int .i64 e, .bool h]) 0) w = .ok (.slice a n c) w := by
  have u := Tryz.underlying103
  have a1 := Tryz.isAgg46
  have z1 := Tryz.sizeOf46
  unfold Instr.field
  go_simp
  rfl
/-- A row with another cell. -/
def setL (ps : List CelM) (i : Nat) (M : CelM) : List CelM := (padL ps ((i : Int) + 1)).set i M
theorem padL_len (ps : List CelM) (N : Int) : (padL ps N).length = max ps.length (min N 40).toNat := by unfold padL; rw [List.length_append, List.length_replicate]; omega
theorem setL_len (ps : List CelM) (i : Nat) (M : CelM) : (setL ps i M).length = max ps.length (min (i + 1) 40) := by unfold setL; rw [List.length_set, padL_len]; omega

set_option maxRecDepth 100000 in
set_option maxHeartbeats 2000000 in
theorem rset_of {w : World} {l : List UInt8} {a : Option Addr} {c : Nat} {e : Int} {h : Bool} {ps : List CelM} {M : CelM} (i : Nat) (hi : i < 40) (hr : RoIn w l a ps) (hM : CeIn w 0 l M) (hl : ps.length ≤ 100000) :
    Calls Tryz.prog 188 #[rowV a ps.length c e h, .int .i64 i, .agg #[.slice M.a M.n M.c, .int .i64 M.x, .int .i64 M.y, .bool M.k]] w fun e' w' => ∃ a' c', e' = .returned (.tuple #[rowV a' (setL ps i M).length c' e h, .int .i64 0]) ∧ RoIn w' l a' (setL ps i M) ∧ Below w.heap.size w w' := by
  obtain ⟨w1, hw1⟩ : ∃ w1, w1 = allocs w [Obj.cells #[Value.slice a ps.length c, Value.int .i64 e, Value.bool h] 103, Obj.cells #[Value.slice M.a M.n M.c, Value.int .i64 M.x, Value.int .i64 M.y, Value.bool M.k] 61, Obj.cells #[Value.slice none 0 0, Value.int .i64 0, Value.bool false] 103] := ⟨_, rfl⟩
  have HB1 : Hid (Below w.heap.size w w1) := by rw [hw1]; exact Lib.hid (allocs_below _ w)
  have hzw : w1.heap.size > w.heap.size + 2 := by rw [hw1, allocs_size]; simp
  have h0 : w1.heap[w.heap.size]? = some (.cells #[Value.slice a ps.length c, Value.int .i64 e, Value.bool h] 103 (0, 0)) := by rw [hw1]; exact allocs_at _ w 0 _ rfl
  have h1 : w1.heap[w.heap.size + 1]? = some (Obj.cells #[Value.slice M.a M.n M.c, Value.int .i64 M.x, Value.int .i64 M.y, Value.bool M.k] 61) := by rw [hw1]; exact allocs_at _ w 1 _ rfl
  have HH1 : Hid (w1.heap[w.heap.size + 2]? = some (.cells #[Value.slice none 0 0, Value.int .i64 0, Value.bool false] 103 (0, 0))) := by rw [hw1]; exact Lib.hid (allocs_at _ w 2 _ rfl)
  have HP := Lib.hid (rpad_of (c := c) (e := e) (h := h) ((i : Int) + 1) (hr.below HB1.out) (by omega) (by unfold I64; omega))
  have HMc := Lib.hid (hM.below HB1.out)
  obtain ⟨n, hn⟩ : ∃ n, ps.length = n := ⟨_, rfl⟩
  have hpl := padL_len ps ((i : Int) + 1)
  have HPL := Lib.hid hpl
  have HN := Lib.hid hn
  rw [hn] at h0 hw1 HP
  rw [hn]
  have k0 : w1.cell? ⟨w.heap.size, 0, none⟩ = some (Value.slice a n c) := by rw [cell_at h0]; rfl
  have k1 : w1.cell? ⟨w.heap.size, 1, none⟩ = some (.int .i64 e) := by rw [cell_at h0]; rfl
  have k2 : w1.cell? ⟨w.heap.size, 2, none⟩ = some (.bool h) := by rw [cell_at h0]; rfl
  have H0 := Lib.hid h0
  have H1 := Lib.hid h1
  have d1 : decide ((i : Int) < 0) = false := decide_eq_false (by omega)
  have d2 : decide ((40 : Int) ≤ (i : Int)) = false := decide_eq_false (by omega)
  have d2' : decide (40 ≤ i) = false := decide_eq_false (by omega)
  clear h0 h1 hr hM hpl hn
  go_enter Tryz.func188, Tryz.ntmps188
  go_upto_region 1 with fail
  rw [show ((w.alloc (Obj.cells #[Value.slice a n c, Value.int .i64 e, Value.bool h] 103)).alloc (Obj.cells #[Value.slice M.a M.n M.c, Value.int .i64 M.x, Value.int .i64 M.y, Value.bool M.k] 61)).alloc (Obj.cells #[Value.slice none 0 0, Value.int .i64 0, Value.bool false] 103) = w1 from hw1.symm]
  clear hw1
  go_wp2_with fail
  refine HP.out.mono ?_; rintro e' w2 ⟨a2, c2, rfl, hro2, hb2⟩
  have hpos : 0 < (padL ps ((i : Int) + 1)).length := by rw [HPL.out]; omega
  have hil : i < (padL ps ((i : Int) + 1)).length := by rw [HPL.out]; omega
  have hsl := setL_len ps i M
  have HCL := Lib.hid (cclone_of (c := c2) hro2.rd (by rw [HPL.out]; omega) hpos)
  have HB2 := Lib.hid (HB1.out.trans (hb2.mono (by omega)))
  have HRO := Lib.hid hro2
  have hz2 := hb2.size
  have H02 := Lib.hid ((hb2.block _ (lt_of_heap H0.out)).trans H0.out)
  have H12 := Lib.hid ((hb2.block _ (lt_of_heap H1.out)).trans H1.out)
  have HH2 := Lib.hid ((hb2.block _ (by omega)).trans HH1.out)
  have HM2 := Lib.hid (HMc.out.below hb2)
  generalize hL : padL ps ((i : Int) + 1) = L at *
  have HLE := Lib.hid hL
  clear hL
  clear hro2 hb2 HP H0 H1 HH1 HMc hpos k0 k1 k2 hsl
  have HIL := Lib.hid hil
  have HLL : Hid (L.length = L.length) := Lib.hid rfl
  obtain ⟨m, hm⟩ : ∃ m, L.length = m := ⟨_, rfl⟩
  rw [hm] at HCL hil
  rw [hm]
  have HMM := Lib.hid hm
  clear hm
  unfold rowV
  have hfd := fun (w : World) => rfield0 w a2 m c2 e h
  go_wp2_with fail
  refine HCL.out.mono ?_; rintro e' w3 ⟨v3, rfl, ho3, hb3⟩
  obtain ⟨a3, c3, rfl⟩ := own_slice ho3
  have hIL0 := HIL.out
  rcases own_form ho3 with ⟨_, h0⟩ | ⟨g, rfl, hgB, hg⟩
  · omega
  have hm1 : (m : Int) > i := by omega
  have HB3 := Lib.hid (HB2.out.trans (hb3.mono (by omega)))
  have h03 := (hb3.block _ (lt_of_heap H02.out)).trans H02.out
  have h13 := (hb3.block _ (lt_of_heap H12.out)).trans H12.out
  have HH3 := Lib.hid ((hb3.block _ (lt_of_heap HH2.out)).trans HH2.out)
  have HM3 := Lib.hid (HM2.out.below hb3)
  have HRO3 := Lib.hid (HRO.out.below hb3)
  have HMML := HMM.out
  have ho3' : w3.ownsRow w2.heap.size 61 4 (.slice (some ⟨g, 0, none⟩) L.length c3) L.length (ceC L) := by rw [HMM.out]; exact ho3
  have HO3 := Lib.hid ho3'
  obtain ⟨cs3, hcs3⟩ := own_cellsAt ho3
  have zz := fun i => unfrozen hcs3 i
  have x0 := own_cells ho3' ((ceC_at L i L[i] 0 (List.getElem?_eq_getElem hIL0) (by omega)).trans rfl)
  have x1 := own_cells ho3' ((ceC_at L i L[i] 1 (List.getElem?_eq_getElem hIL0) (by omega)).trans rfl)
  have x2 := own_cells ho3' ((ceC_at L i L[i] 2 (List.getElem?_eq_getElem hIL0) (by omega)).trans rfl)
  have x3 := own_cells ho3' ((ceC_at L i L[i] 3 (List.getElem?_eq_getElem hIL0) (by omega)).trans rfl)
  rw [Nat.add_zero] at x0
  have k0 : w3.cell? ⟨w.heap.size + 1, 0, none⟩ = some (.slice M.a M.n M.c) := by rw [cell_at h13]; rfl
  have k1 : w3.cell? ⟨w.heap.size + 1, 1, none⟩ = some (.int .i64 M.x) := by rw [cell_at h13]; rfl
  have k2 : w3.cell? ⟨w.heap.size + 1, 2, none⟩ = some (.int .i64 M.y) := by rw [cell_at h13]; rfl
  have k3 : w3.cell? ⟨w.heap.size + 1, 3, none⟩ = some (.bool M.k) := by rw [cell_at h13]; rfl
  have H03 := Lib.hid h03
  have e0 : (0 : Int) ≤ (i : Int) := by omega
  have e1 : (i : Int) < (m : Int) := by omega
  clear ho3 ho3' hb3 h03 h13 hcs3 HCL H02 H12 HH2 HM2 HRO HMML
  go_upto_region 5 with fail
  obtain ⟨w4, hw4⟩ : ∃ w4, w4 = put4 w3 g (i * 4) (Value.slice M.a M.n M.c) (Value.int IntKind.i64 M.x) (Value.int IntKind.i64 M.y) (Value.bool M.k) := ⟨_, rfl⟩
  rw [show (((w3.setCell ⟨g, i * 4, none⟩ (Value.slice M.a M.n M.c)).setCell ⟨g, i * 4 + 1, none⟩ (Value.int IntKind.i64 M.x)).setCell ⟨g, i * 4 + 2, none⟩ (Value.int IntKind.i64 M.y)).setCell ⟨g, i * 4 + 3, none⟩ (Value.bool M.k) = w4 from hw4.symm]
  have HO4 : Hid (w4.ownsRow w2.heap.size 61 4 (.slice (some ⟨g, 0, none⟩) (L.set i M).length c3) (L.set i M).length (ceC (L.set i M))) := by rw [hw4]; exact Lib.hid (put4_own HO3.out hIL0)
  have hb4 : Below w2.heap.size w3 w4 := by rw [hw4]; exact put4_below (Below.refl _ _) hgB
  have HB4 := Lib.hid (HB3.out.trans (hb4.mono (by omega)))
  have h04 : w4.heap[w.heap.size]? = some (.cells #[Value.slice a n c, Value.int .i64 e, Value.bool h] 103 (0, 0)) := (hb4.block _ (by omega)).trans H03.out
  have HH4 : Hid (w4.heap[w.heap.size + 2]? = some (.cells #[Value.slice none 0 0, Value.int .i64 0, Value.bool false] 103 (0, 0))) := Lib.hid ((hb4.block _ (by omega)).trans HH3.out)
  have y0 : w4.cell? ⟨w.heap.size, 0, none⟩ = some (Value.slice a n c) := by rw [cell_at h04]; rfl
  have y1 : w4.cell? ⟨w.heap.size, 1, none⟩ = some (.int .i64 e) := by rw [cell_at h04]; rfl
  have y2 : w4.cell? ⟨w.heap.size, 2, none⟩ = some (.bool h) := by rw [cell_at h04]; rfl
  have HRO4 : Hid (CesIn w4 0 l (L.set i M)) := Lib.hid (fun q hq => by
    have hset : ∀ (P : CelM) , CeIn w3 0 l P → CeIn w4 0 l P := fun P hP => by
      rw [hw4]
      obtain ⟨cs, hcs⟩ := own_cellsAt HO3.out
      exact ⟨(((hP.tx.setT hcs (by decide)).setT (heap_set_at hcs) (by decide)).setT (heap_set_at (heap_set_at hcs)) (by decide)).setT (heap_set_at (heap_set_at (heap_set_at hcs))) (by decide), hP.inl⟩
    rcases List.mem_or_eq_of_mem_set hq with hq | rfl
    · exact hset q (HRO3.out.ces q hq)
    · exact hset q HM3.out)
  have HW := Lib.hid (rwith_of (w := w4) a n c e h (some ⟨g, 0, none⟩) m c3)
  have hz4 := hb4.size
  have hgz : g < w4.heap.size := by omega
  clear h04 hb4 hw4 HO3 HRO3 HM3 H03 HH3 HB3 x0 x1 x2 x3 k0 k1 k2 k3 zz
  go_wp2_with fail
  refine HW.out.mono ?_; rintro e' w5 ⟨rfl, hb5⟩
  have HB5 := Lib.hid (HB4.out.trans (hb5.mono (by omega)))
  have hh5 := (hb5.block _ (lt_of_heap HH4.out)).trans HH4.out
  have hro := own_ro (own_below HO4.out hb5) (HRO4.out.below hb5)
  have HR5 := Lib.hid hro
  have zz := fun i => unfrozen hh5 i
  have r0 : w5.cell? ⟨w.heap.size + 1 + 1, 0, none⟩ = some (.slice none 0 0) := by rw [cell_at hh5]; rfl
  have r1 : w5.cell? ⟨w.heap.size + 1 + 1, 1, none⟩ = some (.int .i64 0) := by rw [cell_at hh5]; rfl
  have r2 : w5.cell? ⟨w.heap.size + 1 + 1, 2, none⟩ = some (.bool false) := by rw [cell_at hh5]; rfl
  have HH5 := Lib.hid hh5
  clear hh5 hb5 HW y0 y1 y2 hro
  go_wp2_with fail
  have hro := HR5.out.set3 (u0 := .slice (some ⟨g, 0, none⟩) m c3) (u1 := .int .i64 e) (u2 := .bool h) HH5.out (by decide) (by decide)
  have hlm : (setL ps i M).length = m := by unfold setL; rw [List.length_set, HLE.out, HMM.out]
  have hsl : setL ps i M = L.set i M := by unfold setL; rw [HLE.out]
  have hs := set3_at HH5.out (.slice (some ⟨g, 0, none⟩) m c3) (.int .i64 e) (.bool h)
  have hB := set3_below HB5.out (show w.heap.size ≤ w.heap.size + 1 + 1 by omega) (.slice (some ⟨g, 0, none⟩) m c3) (.int .i64 e) (.bool h)
  have q0 : (set3 w5 (w.heap.size + 1 + 1) (.slice (some ⟨g, 0, none⟩) m c3) (.int .i64 e) (.bool h)).cell? ⟨w.heap.size + 1 + 1, 0, none⟩ = some (.slice (some ⟨g, 0, none⟩) m c3) := by rw [cell_at hs]; rfl
  have q1 : (set3 w5 (w.heap.size + 1 + 1) (.slice (some ⟨g, 0, none⟩) m c3) (.int .i64 e) (.bool h)).cell? ⟨w.heap.size + 1 + 1, 1, none⟩ = some (.int .i64 e) := by rw [cell_at hs]; rfl
  have q2 : (set3 w5 (w.heap.size + 1 + 1) (.slice (some ⟨g, 0, none⟩) m c3) (.int .i64 e) (.bool h)).cell? ⟨w.heap.size + 1 + 1, 2, none⟩ = some (.bool h) := by rw [cell_at hs]; rfl
  unfold set3 at hro hB q0 q1 q2
  exact bodyPost_ret (v := .tuple #[rowV (some ⟨g, 0, none⟩) m c3 e h, .int .i64 0]) (by simp [results, Tryz.results188, go_sem, q0, q1, q2]) rfl ⟨some ⟨g, 0, none⟩, c3, by rw [hlm], by rw [hsl]; exact hro, hB⟩

end Go.Proofs.YtkgakgceamafcaaGreat
