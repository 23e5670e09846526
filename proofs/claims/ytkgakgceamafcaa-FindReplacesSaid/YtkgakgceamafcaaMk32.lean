/-
  Texts of this seat, put together (a claim holds few texts): GdA, GdB.
-/
import Derived.Test.YtkgakgceamafcaaMk31

namespace Go.Proofs.Ytkgakgceamafcaa
open Go Go.RowKit
set_option linter.unusedVariables false

theorem TyAt.ne {w : World} {b p : Nat} {cs : Array Value} {TT : TypeId} {fr : Nat × Nat} (h : TyAt w b) (hp : w.heap[p]? = some (.cells cs TT fr)) (hT : ¬ okT TT) : b ≠ p := by
  rintro rfl
  obtain ⟨cs', t, fr', h1, h2⟩ := h
  rw [hp] at h1
  injection h1 with h1
  injection h1 with _ h1
  subst h1
  exact hT h2
/-- A block of another type is turned: the tree stands. -/
theorem InE.setT {w : World} {T p TT o : Nat} {u : Value} {cs : Array Value} {fr : Nat × Nat} (hp : w.heap[p]? = some (.cells cs TT fr)) (hT : TT ≠ T) (hT2 : ¬ okT TT) : ∀ {h : Nat} {t : El h} {y : Value}, InE w T h t y → InE (w.setCell ⟨p, o, none⟩ u) T h t y
  | 0, t, y, H => H
  | h + 1, t, y, H => by
    obtain ⟨b, a, c, us, rfl, h1, ht, h2, h3, h4⟩ := H
    have hb : b ≠ p := by
      rintro rfl
      rw [h1] at hp
      injection hp with hp
      injection hp with _ hp
      exact hT hp.symm
    exact ⟨b, a, c, us, rfl, (heap_set_other hb).trans h1, fun d hd => (ht d hd).set, h2.set (fun d hd => (ht d hd).ne hp hT2), h3, fun i x z hx hz => InE.setT hp hT hT2 (h4 i x z hx hz)⟩
theorem In.setT {w : World} {T p TT o h b : Nat} {u : Value} {cs : Array Value} {fr : Nat × Nat} {t : List (El h)} (H : In w T h t b) (hp : w.heap[p]? = some (.cells cs TT fr)) (hT : TT ≠ T) (hT2 : ¬ okT TT) : In (w.setCell ⟨p, o, none⟩ u) T h t b := by
  have h1 := InE.setT (u := u) (o := o) hp hT hT2 (h := h + 1) (t := mk1 t) (in_of H)
  obtain ⟨b', hb, h2⟩ := of_in h1
  have : b' = b := by injection hb with hb; injection hb with hb; injection hb with hb; exact hb.symm
  subst this
  exact h2
theorem Tin.setT {w : World} {T p TT o : Nat} {u pv : Value} {cs : Array Value} {fr : Nat × Nat} {L : List Value} (H : Tin w T pv L) (hp : w.heap[p]? = some (.cells cs TT fr)) (hT : TT ≠ T) (hT2 : ¬ okT TT) : Tin (w.setCell ⟨p, o, none⟩ u) T pv L := by
  rcases H with h | ⟨b, h, t, h1, h2, h3, h4⟩
  · exact .inl h
  · exact .inr ⟨b, h, t, h1, h2.setT hp hT hT2, h3, h4⟩
theorem okT_grid : ¬ okT 50 := by unfold okT; decide

/-- A row of nothing. -/
def zR : R3 := ⟨none, 0, 0, 0, false⟩
theorem set3_app {A B : List Value} {u v t u' v' t' : Value} {k : Nat} (h : A.length = k) : (((A ++ u :: v :: t :: B).toArray.setIfInBounds k u').setIfInBounds (k + 1) v').setIfInBounds (k + 2) t' = (A ++ u' :: v' :: t' :: B).toArray := by
  subst h
  rw [List.setIfInBounds_toArray, List.setIfInBounds_toArray, List.setIfInBounds_toArray, List.set_append_right _ _ (Nat.le_refl _), Nat.sub_self, List.set_cons_zero, List.set_append_right _ _ (by omega), show A.length + 1 - A.length = 1 by omega, List.set_append_right _ _ (by omega), show A.length + 2 - A.length = 2 by omega]
  rfl
theorem cs3_rws_len (l : List R3) : (cs3 (rws l)).length = l.length * 3 := by rw [cs3_len (rws_is l), rws_len]
theorem cs3_set {L : List R3} {k : Nat} (hk : k < L.length) (M : R3) : (((cs3 (rws L)).toArray.setIfInBounds (k * 3) (.slice M.a M.n M.c)).setIfInBounds (k * 3 + 1) (.int .i64 M.e)).setIfInBounds (k * 3 + 2) (.bool M.b) = (cs3 (rws (L.set k M))).toArray := by
  have e : L = L.take k ++ L[k] :: L.drop (k + 1) := by rw [List.getElem_cons_drop, List.take_append_drop]
  have hl : (L.take k).length = k := by rw [List.length_take]; omega
  have hs : L.set k M = L.take k ++ M :: L.drop (k + 1) := by
    conv => lhs; rw [e]
    rw [List.set_append_right _ _ (by omega), hl, Nat.sub_self]; rfl
  have h1 : cs3 (rws L) = cs3 (rws (L.take k)) ++ Value.slice L[k].a L[k].n L[k].c :: Value.int .i64 L[k].e :: Value.bool L[k].b :: cs3 (rws (L.drop (k + 1))) := by
    conv => lhs; rw [e]
    rw [rws_app, cs3_app]; rfl
  rw [h1, set3_app (by rw [cs3_rws_len, hl]), hs, rws_app, cs3_app]
  rfl
theorem rws_rep (m : Nat) : cs3 (rws (List.replicate (m + 1) zR)) = Value.slice none 0 0 :: Value.int .i64 0 :: Value.bool false :: cs3 (rws (List.replicate m zR)) := by
  rw [List.replicate_succ]; rfl
theorem made_rows (m : Nat) : (madeCells #[.slice none 0 0, .int .i64 0, .bool false] (m * 3)).toList = cs3 (rws (List.replicate m zR)) := by
  apply List.ext_getElem?
  intro j
  by_cases hj : j < m * 3
  · have e : (madeCells #[Value.slice none 0 0, .int .i64 0, .bool false] (m * 3)).toList[j]? = some (#[Value.slice none 0 0, .int .i64 0, .bool false][j % 3]!) := by simp [madeCells, hj]
    have e2 : ∀ m j, j < m * 3 → (cs3 (rws (List.replicate m zR)))[j]? = some (#[Value.slice none 0 0, .int .i64 0, .bool false][j % 3]!) := fun m => by
      induction m with
      | zero => intro j h; omega
      | succ m ih =>
        intro j h
        rw [rws_rep]
        match j, h with
        | 0, _ => rfl
        | 1, _ => rfl
        | 2, _ => rfl
        | j + 3, h => rw [List.getElem?_cons_succ, List.getElem?_cons_succ, List.getElem?_cons_succ, ih j (by omega), Nat.add_mod_right]
    rw [e, e2 m j hj]
  · rw [List.getElem?_eq_none (by simp [size_madeCells]; omega), List.getElem?_eq_none (by rw [cs3_rws_len, List.length_replicate]; omega)]
theorem info_rw : (Try.prog.info? 71).map (fun i => (i.zero, i.size, i.bytes)) = some (some (.agg #[.slice none 0 0, .int .i64 0, .bool false]), 3, 40) := by kernel_rfl

/-- Is the last row ended? How does the first one end that is? -/
def tailP (R : List Rw) : Bool := match R.getLast? with
  | some r => r.fin != 0
  | none => false
def frsP : List Rw → Int
  | [] => 2
  | r :: l => if r.fin = 0 then frsP l else r.fin

/-- Rows of a file in memory, to be read. -/
def RsRd (w : World) (a : Option Addr) (n : Nat) (R : List Rw) : Prop := R.length = n ∧ ∃ rs : List RowM, rs.map (·.1) = R ∧ Rd w 2 a n (rwC rs)
theorem RsRd.below {w w' : World} {a : Option Addr} {n : Nat} {R : List Rw} (h : RsRd w a n R) (hb : Below w.heap.size w w') : RsRd w' a n R := ⟨h.1, by obtain ⟨rs, h1, h2⟩ := h.2; exact ⟨rs, h1, h2.below hb⟩⟩
theorem RsRd.at {w : World} {a : Option Addr} {n k : Nat} {R : List Rw} {r : Rw} (h : RsRd w a n R) (hr : R[k]? = some r) : ∃ g o v, a = some ⟨g, o, none⟩ ∧ g < w.heap.size ∧ w.cell? ⟨g, o + k * 2, none⟩ = some v ∧ (∃ pa pn pc, v = .slice pa pn pc) ∧ w.cell? ⟨g, o + k * 2 + 1, none⟩ = some (.int .i64 r.fin) := by
  obtain ⟨hn, rs, h1, h2⟩ := h
  have hk := (List.getElem?_eq_some_iff.1 hr).1
  have hkr : k < rs.length := by have := congrArg List.length h1; rw [List.length_map] at this; omega
  obtain ⟨g, o, rfl, hg, hc⟩ := h2.2 (by omega)
  have hrk : rs[k]? = some rs[k] := List.getElem?_eq_getElem hkr
  have hfin : rs[k].1 = r := by
    have h3 : (rs.map (·.1))[k]? = some r := by rw [h1]; exact hr
    rw [List.getElem?_map, hrk] at h3
    simpa using h3
  have c0 := hc (k * 2 + 0) _ ((rwC_at rs k rs[k] 0 hrk (by omega)).trans rfl)
  have c1 := hc (k * 2 + 1) _ ((rwC_at rs k rs[k] 1 hrk (by omega)).trans rfl)
  refine ⟨g, o, _, rfl, hg, by rw [Nat.add_zero] at c0; exact c0, ⟨_, _, _, rfl⟩, ?_⟩
  rw [← hfin, Nat.add_assoc]
  exact c1

set_option maxRecDepth 100000 in
set_option maxHeartbeats 2000000 in
theorem gended_of {w : World} {a : Option Addr} {n c : Nat} {R : List Rw} (h : RsRd w a n R) (hl : n ≤ 1000000) :
    Calls Try.prog 34 #[.slice a n c] w fun e w' => e = .returned (.bool (tailP R)) ∧ w = w' := by
  have HN := Lib.hid h.1
  by_cases h0 : 0 < n
  · have d0 : decide ((0 : Int) < (n : Int)) = true := decide_eq_true (by omega)
    have d0' : decide (0 < n) = true := decide_eq_true h0
    have hk : n - 1 < R.length := by rw [HN.out]; omega
    obtain ⟨r, hr⟩ : ∃ r, R[n - 1]? = some r := ⟨_, List.getElem?_eq_getElem hk⟩
    have hT : tailP R = (r.fin != 0) := by unfold tailP; rw [List.getLast?_eq_getElem?, HN.out, hr]
    obtain ⟨g, o, v, rfl, hg, c0, hv, c1⟩ := h.at hr
    obtain ⟨q, hq⟩ : ∃ q, n - 1 = q := ⟨_, rfl⟩
    rw [hq] at c0 c1
    have hqi : (n : Int) - 1 = (q : Int) := by omega
    have i0 : (0 : Int) ≤ (q : Int) := by omega
    have i1 : (q : Int) < (n : Int) := by omega
    rw [hT]
    generalize r.fin = f at *
    clear hT hr hk h hq hg
    go_enter Try.func34, Try.ntmps34
    go_wp2_with fail
    go_ret
    exact ⟨rfl, rfl⟩
  · have d0 : decide ((0 : Int) < (n : Int)) = false := decide_eq_false (by omega)
    have d0' : decide (0 < n) = false := decide_eq_false h0
    have hR : R = [] := List.eq_nil_of_length_eq_zero (by rw [HN.out]; omega)
    have hT : tailP R = false := by rw [hR]; rfl
    rw [hT]
    clear h hR hT
    go_enter Try.func34, Try.ntmps34
    go_wp2_with fail
    go_ret
    exact ⟨rfl, rfl⟩

theorem frs_step {R : List Rw} : ∀ {k : Nat} {r : Rw}, R[k]? = some r → r.fin = 0 → frsP (R.drop k) = frsP (R.drop (k + 1)) := fun {k r} hr h0 => by
  have hk := List.getElem?_eq_some_iff.1 hr
  rw [List.drop_eq_getElem_cons hk.1, hk.2]
  show (if r.fin = 0 then _ else _) = _
  rw [if_pos h0]
theorem frs_hit {R : List Rw} {k : Nat} {r : Rw} (hr : R[k]? = some r) (h0 : r.fin ≠ 0) : frsP (R.drop k) = r.fin := by
  have hk := List.getElem?_eq_some_iff.1 hr
  rw [List.drop_eq_getElem_cons hk.1, hk.2]
  show (if r.fin = 0 then _ else _) = _
  rw [if_neg h0]

set_option maxRecDepth 100000 in
set_option maxHeartbeats 2000000 in
theorem gfirst_of {w : World} {a : Option Addr} {n c : Nat} {R : List Rw} (h : RsRd w a n R) (hl : n ≤ 1000000) :
    Calls Try.prog 35 #[.slice a n c] w fun e w' => e = .returned (.int .i64 (frsP R)) ∧ Below w.heap.size w w' := by
  have HN := Lib.hid h.1
  have H := Lib.hid h
  clear h
  go_enter Try.func35, Try.ntmps35
  go_wp2_with fail
  go_loopw [7] (fun v7 wr => ∃ k : Nat, v7 = .int .i64 (k : Int) ∧ k ≤ n ∧ frsP (R.drop k) = frsP R ∧ Below w.heap.size w wr) (fun v7 _ => n - (intOf v7).toNat)
  case atStart => exact ⟨0, rfl, Nat.zero_le _, rfl, Below.refl _ _⟩
  case round =>
    obtain ⟨k, rfl, hk, hf, hb⟩ := hrel
    have HF := Lib.hid hf
    have HBl := Lib.hid hb
    by_cases hlt : k < n
    · have dk : decide (k < n) = true := decide_eq_true hlt
      obtain ⟨r, hr⟩ : ∃ r, R[k]? = some r := ⟨_, List.getElem?_eq_getElem (by rw [HN.out]; exact hlt)⟩
      obtain ⟨g, o, v, rfl, hg, c0, ⟨pa, pn, pc, rfl⟩, c1⟩ := (H.out.below hb).at hr
      have i0 : (0 : Int) ≤ (k : Int) := by omega
      have i1 : (k : Int) < (n : Int) := by omega
      obtain ⟨f, hff⟩ : ∃ f, r.fin = f := ⟨_, rfl⟩
      have HFF := Lib.hid hff
      have HR := Lib.hid hr
      rw [hff] at c1
      have hh := heap_alloc_new wr (Obj.cells #[.slice pa pn pc, .int .i64 f] 68)
      have q1 : (wr.alloc (Obj.cells #[.slice pa pn pc, .int .i64 f] 68)).cell? ⟨wr.heap.size, 1, none⟩ = some (.int .i64 f) := (cell_at hh 1).trans rfl
      have HA := Lib.hid (HBl.out.trans ((t_al wr (Obj.cells #[.slice pa pn pc, .int .i64 f] 68)).mono HBl.out.size))
      clear hf hb hr hff hh
      by_cases h0 : f = 0
      · have d0 : (f != 0) = false := by simpa using h0
        have HS := Lib.hid (frs_step HR.out (by rw [HFF.out]; exact h0))
        clear h0
        go_wp2_with fail
        go_roundw
        case rel => exact ⟨k + 1, by go_num, by omega, by rw [← HS.out]; exact HF.out, HA.out⟩
        case measure => simp [intOf]; omega
      · have d0 : (f != 0) = true := by simpa using h0
        have HS := Lib.hid (frs_hit HR.out (by rw [HFF.out]; exact h0))
        clear h0
        go_wp2_with fail
        go_ret
        exact ⟨by rw [← HF.out, HS.out, HFF.out]; rfl, HA.out⟩
    · have dk : decide (k < n) = false := decide_eq_false hlt
      obtain rfl : k = n := by omega
      have HE : Hid (frsP R = 2) := by show _ = _; rw [← HF.out, List.drop_of_length_le (by rw [HN.out]; exact Nat.le_refl _)]; rfl
      clear hf hb
      go_wp2_with fail
      go_ret
      exact ⟨by rw [HE.out]; rfl, HBl.out⟩

end Go.Proofs.Ytkgakgceamafcaa

namespace Go.Proofs.Ytkgakgceamafcaa
open Go Go.RowKit
set_option linter.unusedVariables false

/-- Rows of cells in memory, of an arena's bytes. -/
structure GrIn (w : World) (l : List UInt8) (Ls : List R3) (Cs : List (List CelM)) : Prop where
  len : Ls.length = Cs.length
  row : ∀ (k : Nat) (r : R3) (ms : List CelM), Ls[k]? = some r → Cs[k]? = some ms → r.n = ms.length ∧ RoIn w l r.a ms
theorem GrIn.below {w w' : World} {l : List UInt8} {Ls : List R3} {Cs : List (List CelM)} (h : GrIn w l Ls Cs) (hb : Below w.heap.size w w') : GrIn w' l Ls Cs := ⟨h.len, fun k r ms h1 h2 => ⟨(h.row k r ms h1 h2).1, (h.row k r ms h1 h2).2.below hb⟩⟩
theorem GrIn.setT {w : World} {l : List UInt8} {Ls : List R3} {Cs : List (List CelM)} {b o : Nat} {u : Value} {cs : Array Value} {T : TypeId} {fr : Nat × Nat} (h : GrIn w l Ls Cs) (hb : w.heap[b]? = some (.cells cs T fr)) (hT : T ≠ 91) (hT2 : T ≠ 98) : GrIn (w.setCell ⟨b, o, none⟩ u) l Ls Cs := ⟨h.len, fun k r ms h1 h2 => ⟨(h.row k r ms h1 h2).1, (h.row k r ms h1 h2).2.setT hb hT hT2⟩⟩
theorem GrIn.snoc {w : World} {l : List UInt8} {Ls : List R3} {Cs : List (List CelM)} {r : R3} {ms : List CelM} (h : GrIn w l Ls Cs) (h1 : r.n = ms.length) (h2 : RoIn w l r.a ms) : GrIn w l (Ls ++ [r]) (Cs ++ [ms]) := by
  have hl := h.len
  refine ⟨by simp [hl], fun k r' ms' e1 e2 => ?_⟩
  rcases Nat.lt_or_ge k Ls.length with hk | hk
  · rw [List.getElem?_append_left hk] at e1
    rw [List.getElem?_append_left (by omega)] at e2
    exact h.row k r' ms' e1 e2
  · have hk0 : k = Ls.length := by
      have := (List.getElem?_eq_some_iff.1 e1).1
      rw [List.length_append, List.length_singleton] at this
      omega
    rw [List.getElem?_append_right hk, hk0, Nat.sub_self] at e1
    rw [List.getElem?_append_right (by omega), hk0, hl, Nat.sub_self] at e2
    simp at e1 e2
    subst e1 e2
    exact ⟨h1, h2⟩
/-- Rows that are a file's, as far as they go. -/
def FileOf (Ls : List R3) (Cs : List (List CelM)) (R : List Rw) : Prop := ∀ (k : Nat) (r : R3) (ms : List CelM) (q : Rw), Ls[k]? = some r → Cs[k]? = some ms → R[k]? = some q → r.e = q.fin ∧ r.b = false ∧ ms.map keyC = q.fs.map keyF
theorem FileOf.snoc {Ls : List R3} {Cs : List (List CelM)} {R : List Rw} {r : R3} {ms : List CelM} {q : Rw} (h : FileOf Ls Cs R) (hl : Ls.length = Cs.length) (hq : R[Ls.length]? = some q) (h1 : r.e = q.fin) (h2 : r.b = false) (h3 : ms.map keyC = q.fs.map keyF) : FileOf (Ls ++ [r]) (Cs ++ [ms]) R := by
  intro k r' ms' q' e1 e2 e3
  rcases Nat.lt_or_ge k Ls.length with hk | hk
  · rw [List.getElem?_append_left hk] at e1
    rw [List.getElem?_append_left (by omega)] at e2
    exact h k r' ms' q' e1 e2 e3
  · have hk0 : k = Ls.length := by
      have := (List.getElem?_eq_some_iff.1 e1).1
      rw [List.length_append, List.length_singleton] at this
      omega
    rw [List.getElem?_append_right hk, hk0, Nat.sub_self] at e1
    rw [List.getElem?_append_right (by omega), hk0, hl, Nat.sub_self] at e2
    rw [hk0, hq] at e3
    simp at e1 e2 e3
    subst e1 e2 e3
    exact ⟨h1, h2, h3⟩

/-- What Load's loop keeps. -/
def LgJ (l : List UInt8) (R : List Rw) (w2 : World) (g n : Nat) (v6 v37 : Value) (wr : World) : Prop :=
  ∃ (k : Nat) (Ls : List R3) (Cs : List (List CelM)), v6 = .int .i64 0 ∧ v37 = .int .i64 (k : Int) ∧ k ≤ n ∧ Ls.length = k ∧ wr.heap[g]? = some (.cells (cs3 (rws (Ls ++ List.replicate (n - k) zR))).toArray 71 (0, 0)) ∧ GrIn wr l Ls Cs ∧ FileOf Ls Cs R ∧ Below w2.heap.size w2 wr

set_option maxRecDepth 100000 in
set_option maxHeartbeats 4000000 in
theorem gload_ok {w : World} {l : List UInt8} {a : Option Addr} {N c n : Nat} (hrd : Rd w 1 a l.length (bc l)) (hN : l.length = N) (hl : N ≤ 4096) (hlc : N ≤ c) (hc : c ≤ maxLen) (hn : (allP l 0).length = n) (hn4 : n ≤ 400) (hok : ∀ r ∈ allP l 0, r.fs.length ≤ 40 ∧ ∀ f ∈ r.fs, ¬ longF f) :
    Calls Try.prog 23 #[.slice a N c] w fun e w' => ∃ (px : Option Addr) (p : Nat) (Ls : List R3) (Cs : List (List CelM)), e = .returned (.tuple #[.agg #[.pointer px, .bool (tailP (allP l 0)), .int .i64 (frsP (allP l 0))], .pointer (some ⟨p, 0, none⟩), .int .i64 0]) ∧
      Tin w' 118 (.pointer px) (rws Ls) ∧ Ls.length = n ∧ GrIn w' l Ls Cs ∧ FileOf Ls Cs (allP l 0) ∧ Ar w' (w.heap.size + 1) p l ∧ Below w.heap.size w w' := by
  obtain ⟨i0, hi0, hz0, hz1, hz2⟩ := info_parts info_rw
  have hh0 := heap_alloc_new w (Obj.cells #[.pointer none, .bool false, .int .i64 0] 50)
  have al0 := t_al w (Obj.cells #[.pointer none, .bool false, .int .i64 0] 50)
  obtain ⟨w1, hw1⟩ : ∃ w1, w.alloc (Obj.cells #[.pointer none, .bool false, .int .i64 0] 50) = w1 := ⟨_, rfl⟩
  have hsz1 : (w.alloc (Obj.cells #[.pointer none, .bool false, .int .i64 0] 50)).heap.size = w.heap.size + 1 := by simp
  rw [hw1] at hh0 al0 hsz1
  have HNew := Lib.hid (new_of (t := l) a c (hrd.below al0) (by rw [hN]; exact hl))
  rw [hN] at HNew
  have HRd := Lib.hid (hrd.below al0)
  have HN := Lib.hid hN
  have HOK := Lib.hid hok
  have HNn := Lib.hid hn
  have HH0 := Lib.hid hh0
  have HAL0 := Lib.hid al0
  have HSZ1 := Lib.hid hsz1
  obtain ⟨R, hR⟩ : ∃ R, allP l 0 = R := ⟨_, rfl⟩
  have HRR := Lib.hid hR
  rw [hR] at HOK HNn ⊢
  clear hrd hN hok hn hh0 al0 hsz1 hR
  go_enter Try.func23, Try.ntmps23
  go_wp2_with fail
  refine HNew.out.mono ?_; rintro e w2 ⟨p, rfl, hAr, hb2⟩
  have HAr := Lib.hid hAr
  have HB2 := Lib.hid hb2
  have HAll := Lib.hid (all_of (c := c) (HRd.out.below hb2) (by rw [HN.out]; omega) (by rw [HN.out]; exact hlc) hc)
  rw [HN.out, HRR.out] at HAll
  clear hAr hb2 HNew hw1
  go_wp2_with fail
  refine HAll.out.mono ?_; rintro e w3 ⟨rs, a4, c4, rfl, hm, ho, hi, hb3⟩
  have hrl : rs.length = n := by rw [← HNn.out, ← hm, List.length_map]
  have HRS := Lib.hid hrl
  rw [hrl] at ho ⊢
  have HM := Lib.hid hm
  have HO := Lib.hid ho
  have HI := Lib.hid hi
  have HB3 := Lib.hid (HB2.out.trans (hb3.mono HB2.out.size))
  have HAr3 := Lib.hid (HAr.out.below hb3)
  have d4 : decide ((400 : Int) < (n : Int)) = false := decide_eq_false (by omega)
  have d4' : decide (400 < n) = false := decide_eq_false (by omega)
  clear hm ho hi hb3 hrl HAll HAr
  go_wp2_with (at_make; refine wpList_make_full _ rfl _ _ 65 rfl w3.heap.size 71 i0 (.agg #[.slice none 0 0, .int .i64 0, .bool false]) 3 Try.underlying65 hi0 hz0 hz1 .i64 .i64 _ _ n rfl rfl rfl rfl ?b2 ?b3 ?b4 ?_)
  case b2 => rw [hz2]; omega
  case b3 => unfold maxLen; omega
  case b4 => omega
  intro w4 hown hgrow
  rw [show (madeCells #[Value.slice none 0 0, .int .i64 0, .bool false] (n * 3)).toList = cs3 (rws (List.replicate n zR)) from made_rows n] at hown
  obtain ⟨hg4, _⟩ := own_whole hown
  have hb4 := (Below.refl w3.heap.size w3).grown hgrow (Nat.le_refl _) (by simp)
  obtain ⟨g, hgg⟩ : ∃ g, w3.heap.size = g := ⟨_, rfl⟩
  have HGG := Lib.hid hgg
  rw [hgg] at hg4 ⊢
  have HG4 := Lib.hid hg4
  have HB4 := Lib.hid hb4
  clear hown hgrow hg4 hb4
  go_wp2_with fail
  go_loopw [6, 37] (fun v6 v37 wr => LgJ l R w3 g n v6 v37 wr) (fun _ v37 _ => n - (intOf v37).toNat)
  case atStart => exact ⟨0, [], [], rfl, rfl, Nat.zero_le _, rfl, HG4.out, ⟨rfl, fun k r ms h => by simp at h⟩, fun k r ms q h => by simp at h, HB4.out⟩
  case round =>
    obtain ⟨k, Ls, Cs, rfl, rfl, hk, hkl, hblk, hgr, hfo, hb⟩ := hrel
    have HKL := Lib.hid hkl
    have HBlk := Lib.hid hblk
    have HGr := Lib.hid hgr
    have HFo := Lib.hid hfo
    have HB := Lib.hid hb
    have hzr := hb.size
    have HLen := Lib.hid hgr.len
    clear hblk hgr hfo hkl
    by_cases hlt : k < n
    · have dk : decide (k < n) = true := decide_eq_true hlt
      have hkr : k < rs.length := by rw [HRS.out]; exact hlt
      have hrk : rs[k]? = some rs[k] := List.getElem?_eq_getElem hkr
      rcases own_form HO.out with ⟨_, h0⟩ | ⟨ga, hga, _, hga2⟩
      · omega
      subst hga
      have hRk : R[k]? = some rs[k].1 := by rw [← HM.out, List.getElem?_map, hrk]; rfl
      have hri := HI.out rs[k] (List.getElem_mem hkr)
      have p0 := (hb.cell (p := ⟨ga, k * 2 + 0, none⟩) hga2).trans (own_cells HO.out ((rwC_at rs k rs[k] 0 hrk (by omega)).trans rfl))
      have p1 := (hb.cell (p := ⟨ga, k * 2 + 1, none⟩) hga2).trans (own_cells HO.out ((rwC_at rs k rs[k] 1 hrk (by omega)).trans rfl))
      rw [Nat.add_zero] at p0
      generalize rs[k] = P at *
      obtain ⟨Q, ps, pa, pc⟩ := P
      simp only at hRk p0 p1
      have hpl : ps.length = Q.fs.length := by rw [← hri.fs]; simp
      have hmem : Q ∈ allP l 0 := by rw [HRR.out]; exact List.mem_of_getElem? hRk
      have hrf := row_fields hmem
      have hokQ := HOK.out Q (by rw [← HRR.out]; exact hmem)
      obtain ⟨m, hm⟩ : ∃ m, ps.length = m := ⟨_, rfl⟩
      rw [hm] at p0 hpl
      have e0 : (0 : Int) ≤ (k : Int) := by omega
      have e1 : (k : Int) < (n : Int) := by omega
      have al := t_al wr (Obj.cells #[.slice pa m pc, .int .i64 Q.fin] 68)
      have hh := heap_alloc_new wr (Obj.cells #[.slice pa m pc, .int .i64 Q.fin] 68)
      have HLd := Lib.hid (rload_of (l := l) ((hri.below hb).below al) (fun f hf => hrf.2 f hf) (by rw [HN.out]; omega) (by omega))
      rw [← hpl] at HLd
      have HRk := Lib.hid (And.intro hRk (And.intro hokQ hpl))
      have hgr' : g < wr.heap.size := lt_of_heap HBlk.out
      clear hri hrf hmem hokQ hRk hpl hm hrk hkr hlc
      generalize hfin : Q.fin = fin at *
      have HFIN := Lib.hid hfin
      clear hfin
      go_upto_region 11 with fail
      generalize wr.alloc (Obj.cells #[.slice pa m pc, .int .i64 fin] 68) = w5 at *
      have q0 : w5.cell? ⟨wr.heap.size, 0, none⟩ = some (.slice pa m pc) := (cell_at hh 0).trans rfl
      have q1 : w5.cell? ⟨wr.heap.size, 1, none⟩ = some (.int .i64 fin) := (cell_at hh 1).trans rfl
      have HB5 := Lib.hid (HB.out.trans (al.mono hzr))
      have HG5 := Lib.hid ((al.block g hgr').trans HBlk.out)
      have HGr5 := Lib.hid (HGr.out.below al)
      clear al hh p0 p1 HBlk HGr hb
      go_wp2_with fail
      refine HLd.out.mono ?_; rintro e w6 hpost
      obtain ⟨hb6, h | h | h⟩ := hpost
      · exact absurd h.1 (by have := HRk.out.2.1.1; omega)
      · obtain ⟨f, hf, hlg⟩ := h.2.1
        exact absurd hlg (HRk.out.2.1.2 f hf)
      obtain ⟨_, _, a', c', Ms, rfl, hkey, hro, hcl, hcn⟩ := h
      rw [HFIN.out]
      have HG6 := Lib.hid ((hb6.block g (lt_of_heap HG5.out)).trans HG5.out)
      have HGr6 := Lib.hid (HGr5.out.below hb6)
      have HB6 := Lib.hid (HB5.out.trans (hb6.mono HB5.out.size))
      have HRo := Lib.hid hro
      have HKey := Lib.hid hkey
      obtain ⟨mm, hmm⟩ : ∃ mm, Ms.length = mm := ⟨_, rfl⟩
      have HMM := Lib.hid hmm
      rw [hmm]
      obtain ⟨L, hL⟩ : ∃ L, Ls ++ List.replicate (n - k) zR = L := ⟨_, rfl⟩
      rw [hL] at HG6
      have hLk : L[k]? = some zR := by
        rw [← hL, List.getElem?_append_right (by rw [HKL.out]; exact Nat.le_refl _), HKL.out, Nat.sub_self, show n - k = (n - k - 1) + 1 by omega, List.replicate_succ]; rfl
      have hLr : (rws L)[k]? = some (r3V zR) := by unfold rws; rw [List.getElem?_map, hLk]; rfl
      have hLl : k < L.length := (List.getElem?_eq_some_iff.1 hLk).1
      have hbx := HG6.out
      have zz := fun i => unfrozen hbx i
      have y0 : w6.cell? ⟨g, k * 3, none⟩ = some (.slice none 0 0) := by rw [cell_at hbx, List.getElem?_toArray]; exact (cs3_at (rws_is L) hLr (j := 0) (by omega)).trans rfl
      have y1 : w6.cell? ⟨g, k * 3 + 1, none⟩ = some (.int .i64 0) := by rw [cell_at hbx, List.getElem?_toArray]; exact (cs3_at (rws_is L) hLr (j := 1) (by omega)).trans rfl
      have y2 : w6.cell? ⟨g, k * 3 + 2, none⟩ = some (.bool false) := by rw [cell_at hbx, List.getElem?_toArray]; exact (cs3_at (rws_is L) hLr (j := 2) (by omega)).trans rfl
      have hset := heap_set_at (o := k * 3 + 2) (u := Value.bool false) (heap_set_at (o := k * 3 + 1) (u := Value.int .i64 fin) (heap_set_at (o := k * 3) (u := Value.slice a' mm c') HG6.out))
      have hs3 := cs3_set hLl ⟨a', mm, c', fin, false⟩
      simp only at hs3
      rw [hs3] at hset
      have hLs : L.set k ⟨a', mm, c', fin, false⟩ = (Ls ++ [⟨a', mm, c', fin, false⟩]) ++ List.replicate (n - (k + 1)) zR := by
        rw [← hL, List.set_append, if_neg (by rw [HKL.out]; omega), HKL.out, Nat.sub_self, show n - k = (n - (k + 1)) + 1 by omega, List.replicate_succ, List.set_cons_zero]
        simp
      rw [hLs] at hset
      have HSet := Lib.hid hset
      have HGr7 := Lib.hid (((HGr6.out.setT (o := k * 3) (u := Value.slice a' mm c') HG6.out (by decide) (by decide)).setT (o := k * 3 + 1) (u := Value.int .i64 fin) (heap_set_at HG6.out) (by decide) (by decide)).setT (o := k * 3 + 2) (u := Value.bool false) (heap_set_at (heap_set_at HG6.out)) (by decide) (by decide))
      have HRo7 := Lib.hid (((HRo.out.setT (o := k * 3) (u := Value.slice a' mm c') HG6.out (by decide) (by decide)).setT (o := k * 3 + 1) (u := Value.int .i64 fin) (heap_set_at HG6.out) (by decide) (by decide)).setT (o := k * 3 + 2) (u := Value.bool false) (heap_set_at (heap_set_at HG6.out)) (by decide) (by decide))
      have hgw : w3.heap.size ≤ g := by rw [HGG.out]; exact Nat.le_refl _
      have HB7 := Lib.hid (((HB6.out.setCell (p := ⟨g, k * 3, none⟩) hgw (Value.slice a' mm c')).setCell (p := ⟨g, k * 3 + 1, none⟩) hgw (Value.int .i64 fin)).setCell (p := ⟨g, k * 3 + 2, none⟩) hgw (Value.bool false))
      clear hb6 hro hkey hmm hL hLk hLr hLl hbx hset hs3 hLs HLd HG5 HGr5 HB5 HG6 HGr6 HB6 HRo q0 q1 hgw hgr'
      go_wp2_with fail
      go_roundw
      case rel =>
        refine ⟨k + 1, Ls ++ [⟨a', mm, c', fin, false⟩], Cs ++ [Ms], rfl, by go_num, by omega, by rw [List.length_append, HKL.out]; rfl, HSet.out, HGr7.out.snoc HMM.out.symm HRo7.out, HFo.out.snoc HLen.out (by rw [HKL.out]; exact HRk.out.1) HFIN.out.symm rfl HKey.out, HB7.out⟩
      case measure => simp [intOf]; omega
    · have dk : decide (k < n) = false := decide_eq_false hlt
      obtain rfl : k = n := by omega
      have hbk := HBlk.out
      rw [Nat.sub_self, List.replicate_zero, List.append_nil] at hbk
      have hS3 : S3 wr (some ⟨g, 0, none⟩) (rws Ls).length (rws Ls) := S3.new hbk (by rw [rws_len, HKL.out]; unfold maxLen; omega) (rws_is Ls)
      rw [rws_len, HKL.out] at hS3
      have HOf := Lib.hid (of_i (n := k) hS3 (by rw [rws_len]; exact HKL.out) (by omega) (rws_gd Ls))
      have hrs : RsRd wr a4 k R := ⟨HNn.out, rs, HM.out, (t_rd HO.out).below hb⟩
      have HRs := Lib.hid hrs
      clear hbk hS3 hrs hb
      go_wp2_with fail
      refine HOf.out.mono ?_; rintro e w5 ⟨pv, rfl, hT, hb5⟩
      obtain ⟨px, rfl⟩ : ∃ px, pv = .pointer px := by
        rcases hT.one with rfl | ⟨b, rfl⟩
        · exact ⟨_, rfl⟩
        · exact ⟨_, rfl⟩
      have HEn := Lib.hid (gended_of (c := c4) (HRs.out.below hb5) (by omega))
      have HT := Lib.hid hT
      have HB5 := Lib.hid hb5
      clear hT hb5 HOf
      go_wp2_with fail
      refine HEn.out.mono ?_; rintro e w6 ⟨rfl, rfl⟩
      have HFi := Lib.hid (gfirst_of (c := c4) (HRs.out.below HB5.out) (by omega))
      clear HEn
      go_wp2_with fail
      refine HFi.out.mono ?_; rintro e w6 ⟨rfl, hb6⟩
      have HT6 := Lib.hid (HT.out.below hb6)
      have hb36 := HB.out.trans ((HB5.out.trans (hb6.mono HB5.out.size)).mono HB.out.size)
      have hbw3 := HAL0.out.trans (HB3.out.mono HAL0.out.size)
      have hbw6 := hbw3.trans (hb36.mono hbw3.size)
      have hG := (HGr.out.below HB5.out).below hb6
      have hA := HAr3.out.below hb36
      have hbox := (hb36.block w.heap.size (by have := HB3.out.size; have := HSZ1.out; omega)).trans ((HB3.out.block w.heap.size (by have := HSZ1.out; omega)).trans HH0.out)
      have zz := fun i => unfrozen hbox i
      have r0 : w6.cell? ⟨w.heap.size, 0, none⟩ = some (.pointer none) := (cell_at hbox 0).trans rfl
      have r1 : w6.cell? ⟨w.heap.size, 1, none⟩ = some (.bool false) := (cell_at hbox 1).trans rfl
      have r2 : w6.cell? ⟨w.heap.size, 2, none⟩ = some (.int .i64 0) := (cell_at hbox 2).trans rfl
      have HX := Lib.hid (And.intro hbw6 (And.intro hG (And.intro hA hbox)))
      clear hb6 hb36 hbw3 hbw6 hG hA hbox HFi
      obtain ⟨tp, htp⟩ : ∃ tp, tailP R = tp := ⟨_, rfl⟩
      obtain ⟨fp, hfp⟩ : ∃ fp, frsP R = fp := ⟨_, rfl⟩
      have HTP := Lib.hid (And.intro htp hfp)
      rw [htp, hfp]
      clear htp hfp
      go_wp2_with fail
      have hbox := HX.out.2.2.2
      have h1 := heap_set_at (o := 0) (u := .pointer px) hbox
      have h2 := heap_set_at (o := 1) (u := Value.bool tp) h1
      have h3 := heap_set_at (o := 2) (u := Value.int .i64 fp) h2
      have hT7 := ((HT6.out.setT (o := 0) (u := .pointer px) hbox (by decide) okT_grid).setT (o := 1) (u := Value.bool tp) h1 (by decide) okT_grid).setT (o := 2) (u := Value.int .i64 fp) h2 (by decide) okT_grid
      have hG7 := ((HX.out.2.1.setT (o := 0) (u := .pointer px) hbox (by decide) (by decide)).setT (o := 1) (u := Value.bool tp) h1 (by decide) (by decide)).setT (o := 2) (u := Value.int .i64 fp) h2 (by decide) (by decide)
      have hA7 := ((HX.out.2.2.1.set (o := 0) (u := .pointer px) hbox (by decide) (by decide)).set (o := 1) (u := Value.bool tp) h1 (by decide) (by decide)).set (o := 2) (u := Value.int .i64 fp) h2 (by decide) (by decide)
      have hB7 := ((HX.out.1.setCell (p := ⟨w.heap.size, 0, none⟩) (Nat.le_refl _) (.pointer px)).setCell (p := ⟨w.heap.size, 1, none⟩) (Nat.le_refl _) (Value.bool tp)).setCell (p := ⟨w.heap.size, 2, none⟩) (Nat.le_refl _) (Value.int .i64 fp)
      generalize ((w6.setCell ⟨w.heap.size, 0, none⟩ (.pointer px)).setCell ⟨w.heap.size, 1, none⟩ (Value.bool tp)).setCell ⟨w.heap.size, 2, none⟩ (Value.int .i64 fp) = w7 at *
      have s0 : w7.cell? ⟨w.heap.size, 0, none⟩ = some (.pointer px) := (cell_at h3 0).trans rfl
      have s1 : w7.cell? ⟨w.heap.size, 1, none⟩ = some (.bool tp) := (cell_at h3 1).trans rfl
      have s2 : w7.cell? ⟨w.heap.size, 2, none⟩ = some (.int .i64 fp) := (cell_at h3 2).trans rfl
      exact bodyPost_ret (v := .tuple #[.agg #[.pointer px, .bool tp, .int .i64 fp], .pointer (some ⟨p, 0, none⟩), .int .i64 0]) (by simp [results, Try.results23, go_sem, s0, s1, s2]) rfl ⟨px, p, Ls, Cs, by rw [HTP.out.1, HTP.out.2], hT7, HKL.out, hG7, HFo.out, by rw [← HSZ1.out]; exact hA7, hB7⟩

end Go.Proofs.Ytkgakgceamafcaa
