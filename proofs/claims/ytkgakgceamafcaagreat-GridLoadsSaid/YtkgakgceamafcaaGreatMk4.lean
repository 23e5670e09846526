/-
  Texts of this seat, put together (a claim holds few texts): TgE, TgF.
-/
import Derived.Test.YtkgakgceamafcaaGreatMk3
import Derived.Deep.OwnRows

namespace Go.Proofs.YtkgakgceamafcaaGreat
open Go Go.RowKit
set_option linter.unusedVariables false

/-- A new node in memory, from a block on. -/
def RawN (B : Nat) (w : World) (T : TypeId) (h : Nat) (us : List Value) (N : Nat) (b : Nat) : Prop :=
  ∃ (a : Option Addr) (c : Nat), w.heap[b]? = some (.cells (nodeC h a us.length c N) T (0, 0)) ∧ Ss w h a c us ∧ B ≤ b ∧ ∀ d, a = some d → B ≤ d.block ∧ TyAt w d.block
theorem RawN.in {B : Nat} {w w0 : World} {T : TypeId} {h : Nat} {us : List Value} {t : List (El h)} {b : Nat} (H : RawN B w T h us (flatL h t).length b) (hu : us.length = t.length) (hb : Below w0.heap.size w0 w) (hi : ∀ (i : Nat) (x : El h) (y : Value), t[i]? = some x → us[i]? = some y → InE w0 T h x y) : In w T h t b := by
  obtain ⟨a, c, h1, h2, _, h4⟩ := H
  rw [hu] at h1
  exact ⟨a, c, h1, fun d hd => (h4 d hd).2, us, h2, hu, fun i x y hx hy => (hi i x y hx hy).below hb⟩
theorem RawN.below {B : Nat} {w w' : World} {T : TypeId} {h N b : Nat} {us : List Value} (H : RawN B w T h us N b) (hb : Below w.heap.size w w') : RawN B w' T h us N b := by
  obtain ⟨a, c, h1, h2, h3, h4⟩ := H
  exact ⟨a, c, (hb.block b (lt_of_heap h1)).trans h1, h2.below hb, h3, fun d hd => ⟨(h4 d hd).1, (h4 d hd).2.below hb⟩⟩
theorem RawN.mono {B B' : Nat} {w : World} {T : TypeId} {h N b : Nat} {us : List Value} (H : RawN B w T h us N b) (hB : B' ≤ B) : RawN B' w T h us N b := by
  obtain ⟨a, c, h1, h2, h3, h4⟩ := H
  exact ⟨a, c, h1, h2, by omega, fun d hd => ⟨by have := (h4 d hd).1; omega, (h4 d hd).2⟩⟩
theorem Sl.set {w : World} {a : Option Addr} {c p o : Nat} {u : Value} {xs : List Value} (h : Sl w a c xs) (hp : ∀ d, a = some d → d.block ≠ p) : Sl (w.setCell ⟨p, o, Option.none⟩ u) a c xs := by
  refine ⟨⟨h.rd.1, fun hn => ?_⟩, h.cap, h.capm, h.nil, h.form, h.one⟩
  obtain ⟨g, off, rfl, hlt, hc⟩ := h.rd.2 hn
  refine ⟨g, off, rfl, by rw [size_set]; exact hlt, fun j x hj => ?_⟩
  rw [World.cell?_of_block (w := w) (w' := w.setCell ⟨p, o, Option.none⟩ u) (a := ⟨g, off + j, Option.none⟩) (heap_set_other (hp ⟨g, off, Option.none⟩ rfl))]
  exact hc j x hj
theorem Ss.set {w : World} {h : Nat} {a : Option Addr} {c p o : Nat} {u : Value} {xs : List Value} (H : Ss w h a c xs) (hp : ∀ d, a = some d → d.block ≠ p) : Ss (w.setCell ⟨p, o, Option.none⟩ u) h a c xs := by
  cases h with
  | zero => exact S3.set H hp
  | succ h => exact Sl.set H hp
theorem RawN.set {B : Nat} {w : World} {T : TypeId} {h N b p o : Nat} {u : Value} {us : List Value} (H : RawN B w T h us N b) (hp : p < B) : RawN B (w.setCell ⟨p, o, none⟩ u) T h us N b := by
  obtain ⟨a, c, h1, h2, h3, h4⟩ := H
  exact ⟨a, c, (heap_set_other (by omega)).trans h1, h2.set (fun d hd => by have := (h4 d hd).1; omega), h3, fun d hd => ⟨(h4 d hd).1, (h4 d hd).2.set⟩⟩
theorem leaf_i {w : World} {a : Option Addr} {c n : Nat} {xs : List Value} (h : S3 w a c xs) (hn : xs.length = n) (hl : n ≤ 1000000) :
    Calls Tryz.prog 103 #[.slice a n c] w fun e w' => ∃ b, e = .returned (ptr b) ∧ RawN w.heap.size w' 194 0 xs n b ∧ Below w.heap.size w w' := by
  have HC := Lib.hid (clone_row h (by omega))
  have HN := Lib.hid hn
  rw [hn] at HC
  clear h hn
  go_enter Tryz.func103, Tryz.ntmps103
  go_wp2_with fail
  refine HC.out.mono ?_; rintro e w1 ⟨a', c', rfl, hs, hfr, hb⟩
  have al := t_al w1 (Obj.cells #[.slice none 0 0, .slice a' n c', .int .i64 n] 194)
  have hh := heap_alloc_new w1 (Obj.cells #[.slice none 0 0, .slice a' n c', .int .i64 n] 194)
  have HB := Lib.hid (hb.trans (al.mono hb.size))
  have HS := Lib.hid (hs.below al)
  have HH := Lib.hid hh
  have HFR := Lib.hid (fun d hd => And.intro (hfr d hd).1 ((hfr d hd).2.below al))
  have hz := hb.size
  clear hs hb al hh HC hfr
  go_wp2_with fail
  go_ret
  have h2 : (w1.alloc (Obj.cells #[.slice none 0 0, .slice a' n c', .int .i64 n] 194)).heap[w1.heap.size]? = some (.cells (nodeC 0 a' xs.length c' n) 194 (0, 0)) := by
    rw [HN.out]; exact HH.out
  exact ⟨w1.heap.size, rfl, ⟨a', c', h2, HS.out, hz, HFR.out⟩, HB.out⟩

theorem flat_take {h : Nat} {ts : List (El (h + 1))} {k : Nat} {x : List (El h)} (hx : ts[k]? = some x) : (flatL (h + 1) (ts.take (k + 1))).length = (flatL (h + 1) (ts.take k)).length + (flatL h x).length := by
  have hk := (List.getElem?_eq_some_iff.1 hx).1
  have hx2 : ts[k] = x := (List.getElem?_eq_some_iff.1 hx).2
  rw [List.take_succ_eq_append_getElem hk, flatL_app, List.length_append, flatL_cons, flatL_nil, List.append_nil, hx2]; rfl
theorem flat_part {h : Nat} {ts : List (El h)} (k : Nat) : (flatL h (ts.take k)).length ≤ (flatL h ts).length := by
  have : flatL h ts = flatL h (ts.take k) ++ flatL h (ts.drop k) := by rw [← flatL_app, List.take_append_drop]
  rw [this, List.length_append]; omega

set_option maxRecDepth 100000 in
set_option maxHeartbeats 2000000 in
theorem above_i {w : World} {h : Nat} {a : Option Addr} {c n : Nat} {ts : List (El (h + 1))} {us : List Value} (hsl : Sl w a c us) (hul : us.length = ts.length) (hus : ∀ (i : Nat) (x : El (h + 1)) (y : Value), ts[i]? = some x → us[i]? = some y → InE w 194 (h + 1) x y) (hn : ts.length = n) (hl : n ≤ 1000000) (hf : (flatL (h + 1) ts).length ≤ 1000000) :
    Calls Tryz.prog 148 #[.slice a n c] w fun e w' => ∃ b, e = .returned (ptr b) ∧ RawN w.heap.size w' 194 (h + 1) us (flatL (h + 1) ts).length b ∧ Below w.heap.size w w' := by
  have H : Es w 194 (h + 1) ts a c := ⟨us, hsl, hul, hus⟩
  have HC := Lib.hid (clone_ni hsl (by omega))
  have HU := Lib.hid (And.intro hul hus)
  have HE := Lib.hid H
  have HN := Lib.hid hn
  have HF := Lib.hid (fun k => Nat.le_trans (flat_part (h := h + 1) (ts := ts) k) hf)
  rw [hul, hn] at HC
  clear H hn hsl hul hus
  go_enter Tryz.func148, Tryz.ntmps148
  go_wp2_with fail
  refine HC.out.mono ?_; rintro e w1 ⟨a', c', rfl, hs, hfr, hb⟩
  have HFR := Lib.hid hfr
  clear hfr
  have HB := Lib.hid hb
  have HS := Lib.hid hs
  have hz := hb.size
  clear hs hb HC
  go_upto_region 2 with fail
  have hh := heap_alloc_new w1 (Obj.cells #[.slice a' n c', .slice none 0 0, .int .i64 0] 194)
  have al := t_al w1 (Obj.cells #[.slice a' n c', .slice none 0 0, .int .i64 0] 194)
  generalize w1.alloc (Obj.cells #[.slice a' n c', .slice none 0 0, .int .i64 0] 194) = w2 at *
  have HH := Lib.hid hh
  have HAL := Lib.hid al
  clear hh al
  go_wp2_with fail
  go_loopw [5, 12] (fun v5 v12 wr => ∃ k : Nat, v12 = .int .i64 k ∧ k ≤ n ∧ wr.heap[w1.heap.size]? = some (.cells #[.slice a' n c', .slice none 0 0, .int .i64 ((flatL (h + 1) (ts.take k)).length : Nat)] 194 (0, 0)) ∧ Below w1.heap.size w1 wr) (fun _ i _ => n - (intOf i).toNat)
  case atStart => exact ⟨0, rfl, by omega, HH.out, HAL.out⟩
  case round =>
    obtain ⟨k, rfl, hk, hw, hbw⟩ := hrel
    have HW := Lib.hid hw
    have HBW := Lib.hid hbw
    by_cases hlt : k < n
    · have dk : decide (k < n) = true := decide_eq_true hlt
      have hkt : k < ts.length := by rw [HN.out]; exact hlt
      obtain ⟨g, o, rfl, hg⟩ := HE.out.has (by omega)
      have hx : ts[k]? = some ts[k] := List.getElem?_eq_getElem hkt
      obtain ⟨b', hcb, hin⟩ := HE.out.at hx
      have hb0 := HB.out.trans (hbw.mono hz)
      have c0 := (hb0.cell (p := ⟨g, o + k, none⟩) hg).trans hcb
      have c1 := (hb0.cell (p := ⟨b', 2, none⟩) hin.lt).trans hin.num
      have c2 : wr.cell? ⟨w1.heap.size, 2, none⟩ = some (.int .i64 ((flatL (h + 1) (ts.take k)).length : Nat)) := by rw [cell_at hw]; rfl
      have zz := fun i => unfrozen hw i
      have hne : b' ≠ w1.heap.size := by have := hin.lt; omega
      have hst := flat_take hx
      have HST := Lib.hid hst
      have hf1 := HF.out (k + 1)
      rw [hst] at hf1
      unfold ptr at c0
      clear hw hbw hcb hin hb0 hst hx
      generalize (flatL h ts[k]).length = q at *
      generalize hN0 : (flatL (h + 1) (ts.take k)).length = N0 at *
      have hw0 : IntKind.i64.wrap ((N0 : Int) + (q : Int)) = ((N0 + q : Nat) : Int) := by rw [IntKind.wrap_i64]; omega
      have e0 : (0 : Int) ≤ (k : Int) := by omega
      have e1 : (k : Int) < (n : Int) := by omega
      go_wp2_with fail
      go_region
      all_goals
        go_wp2_with fail
        have h1 := heap_set_at (o := 2) (u := .int .i64 ((N0 + q : Nat) : Int)) HW.out
        have h2 := HBW.out.setCell (p := ⟨w1.heap.size, 2, none⟩) (Nat.le_refl _) (.int .i64 ((N0 + q : Nat) : Int))
        go_roundw
        case rel => exact ⟨k + 1, by go_num, hlt, by rw [HST.out]; exact h1, h2.drew⟩
        case measure => simp [intOf]; omega
    · have dk : decide (k < n) = false := decide_eq_false hlt
      have hkn : k = n := by omega
      subst hkn
      have htk : ts.take k = ts := by rw [← HN.out]; exact List.take_length
      rw [htk] at hw
      have HW2 := Lib.hid hw
      clear hw hbw
      go_wp2_with fail
      go_ret
      refine ⟨w1.heap.size, rfl, ⟨a', c', ?_, HS.out.below HBW.out, hz, fun d hd => ⟨(HFR.out d hd).1, (HFR.out d hd).2.below HBW.out⟩⟩, HB.out.trans (HBW.out.mono hz)⟩
      rw [HU.out.1, HN.out]; exact HW2.out

theorem isleaf_i {w : World} {t : List Value} {b : Nat} (H : In w 194 0 t b) :
    Calls Tryz.prog 152 #[ptr b] w fun e w' => e = .returned (.bool true) ∧ w = w' := by
  obtain ⟨a, c, h1, h2, h3⟩ := H.items
  unfold ptr
  clear H h3
  go_enter Tryz.func152, Tryz.ntmps152
  go_wp2_with fail
  go_ret
  exact ⟨rfl, rfl⟩
theorem notleaf_i {w : World} {h : Nat} {t : List (El (h + 1))} {b : Nat} (H : In w 194 (h + 1) t b) (hn : 0 < t.length) :
    Calls Tryz.prog 152 #[ptr b] w fun e w' => e = .returned (.bool false) ∧ w = w' := by
  obtain ⟨a, c, h1, h2, h3⟩ := H.kids
  unfold ptr
  generalize t.length = n at *
  have d0 : ((n : Int) == 0) = false := by simp; omega
  clear H h3
  go_enter Tryz.func152, Tryz.ntmps152
  go_wp2_with fail
  go_ret
  exact ⟨rfl, rfl⟩
theorem low_i {w : World} {h : Nat} {t : List (El h)} {b : Nat} (H : In w 194 h t b) (hl : t.length ≤ 1000000) :
    Calls Tryz.prog 181 #[ptr b] w fun e w' => e = .returned (.bool (decide (t.length < 3))) ∧ Below w.heap.size w w' := by
  obtain ⟨a, c, h1, -⟩ := H
  unfold ptr
  generalize t.length = n at *
  have hw : IntKind.i64.wrap ((n : Int) + 0) = n := by rw [IntKind.wrap_i64]; omega
  have hw2 : IntKind.i64.wrap ((0 : Int) + n) = n := by rw [IntKind.wrap_i64]; omega
  have hw3 : IntKind.i64.wrap (n : Int) = n := by rw [IntKind.wrap_i64]; omega
  have hd : decide ((n : Int) < 3) = decide (n < 3) := by
    by_cases h : n < 3
    · rw [decide_eq_true h, decide_eq_true (by omega)]
    · rw [decide_eq_false h, decide_eq_false (by omega)]
  rw [← hd]
  clear hd
  cases h with
  | zero =>
    have c0 : w.cell? ⟨b, 0, none⟩ = some (.slice none 0 0) := by rw [cell_at h1]; rfl
    have c1 : w.cell? ⟨b, 1, none⟩ = some (.slice a n c) := by rw [cell_at h1]; rfl
    clear h1
    go_enter Tryz.func181, Tryz.ntmps181
    go_wp2_with fail
    go_region
    all_goals
      go_wp2_with fail
      go_ret
      exact ⟨rfl, (Below.refl _ _).drew⟩
  | succ h =>
    have c0 : w.cell? ⟨b, 0, none⟩ = some (.slice a n c) := by rw [cell_at h1]; rfl
    have c1 : w.cell? ⟨b, 1, none⟩ = some (.slice none 0 0) := by rw [cell_at h1]; rfl
    clear h1
    go_enter Tryz.func181, Tryz.ntmps181
    go_wp2_with fail
    go_region
    all_goals
      go_wp2_with fail
      go_ret
      exact ⟨rfl, (Below.refl _ _).drew⟩

end Go.Proofs.YtkgakgceamafcaaGreat

namespace Go.Proofs.YtkgakgceamafcaaGreat
open Go Go.RowKit
set_option linter.unusedVariables false

/-- Below which kid the i-th thing lies, by how many each one has; and which one it is there. -/
def kidP : List Nat → Nat → Nat × Nat
  | [], i => (0, i)
  | [_], i => (0, i)
  | x :: y :: r, i => if i < x then (0, i) else ((kidP (y :: r) (i - x)).1 + 1, (kidP (y :: r) (i - x)).2)
theorem kidP_stop {x y : Nat} {r : List Nat} {i : Nat} (h : i < x) : kidP (x :: y :: r) i = (0, i) := by simp [kidP, h]
theorem kidP_go {x y : Nat} {r : List Nat} {i : Nat} (h : ¬ i < x) : kidP (x :: y :: r) i = ((kidP (y :: r) (i - x)).1 + 1, (kidP (y :: r) (i - x)).2) := by simp [kidP, h]
theorem kidP_spec : ∀ (l : List Nat) (i : Nat), l ≠ [] → (kidP l i).1 < l.length ∧ (l.take (kidP l i).1).sum + (kidP l i).2 = i ∧ (i < l.sum → (kidP l i).2 < l.getD (kidP l i).1 0) ∧ (i ≤ l.sum → (kidP l i).2 ≤ l.getD (kidP l i).1 0)
  | [], i, h => absurd rfl h
  | [x], i, _ => by simp [kidP]
  | x :: y :: r, i, _ => by
    by_cases h : i < x
    · rw [kidP_stop h]; simp; omega
    · obtain ⟨h1, h2, h3, h4⟩ := kidP_spec (y :: r) (i - x) (by simp)
      rw [kidP_go h]
      refine ⟨by simp at h1 ⊢; omega, ?_, ?_, ?_⟩
      · simp only [List.take_succ_cons, List.sum_cons]; omega
      · intro hs; rw [List.sum_cons] at hs; simp only [List.getD_cons_succ]; exact h3 (by omega)
      · intro hs; rw [List.sum_cons] at hs; simp only [List.getD_cons_succ]; exact h4 (by omega)
/-- How many values lie below each. -/
def szs (h : Nat) (ks : List (El (h + 1))) : List Nat := ks.map fun k => (flatE (h + 1) k).length
theorem szs_len (h : Nat) (ks : List (El (h + 1))) : (szs h ks).length = ks.length := by unfold szs; simp
theorem szs_at {h : Nat} {ks : List (El (h + 1))} {k : Nat} {x : List (El h)} (hx : ks[k]? = some x) : (szs h ks)[k]? = some (flatL h x).length := by unfold szs; rw [List.getElem?_map, hx]; rfl
theorem szs_drop {h : Nat} {ks : List (El (h + 1))} {k : Nat} {x : List (El h)} (hx : ks[k]? = some x) : (szs h ks).drop k = (flatL h x).length :: (szs h ks).drop (k + 1) := by
  have h1 := szs_at hx
  have h2 := (List.getElem?_eq_some_iff.1 h1)
  rw [List.drop_eq_getElem_cons h2.1, h2.2]
theorem szs_sum (h : Nat) (ks : List (El (h + 1))) : (szs h ks).sum = (flatL (h + 1) ks).length := by
  induction ks with
  | nil => rfl
  | cons k ks ih => rw [flatL_cons, List.length_append, ← ih]; rfl

set_option maxRecDepth 100000 in
set_option maxHeartbeats 2000000 in
theorem kid_i {w : World} {h : Nat} {ks : List (El (h + 1))} {b : Nat} (H : In w 194 (h + 1) ks b) (hn : 0 < ks.length) (hl : ks.length ≤ 1000000) (i : Nat) (hi : i ≤ 1000000) :
    Calls Tryz.prog 153 #[ptr b, .int .i64 i] w fun e w' => e = .returned (.tuple #[.int .i64 (kidP (szs h ks) i).1, .int .i64 (kidP (szs h ks) i).2]) ∧ w = w' := by
  obtain ⟨a, c, h1, h2, h3⟩ := H.kids
  have hlt := H.lt
  obtain ⟨g, o, rfl, hg⟩ := h3.has hn
  have HE := Lib.hid h3
  obtain ⟨n, hnn⟩ : ∃ n, ks.length = n := ⟨_, rfl⟩
  have HN := Lib.hid hnn
  rw [hnn] at h1 hn hl
  have HKC := Lib.hid (h3.cap)
  clear H h2 h3 hnn
  unfold ptr
  have hw1 : IntKind.i64.wrap ((n : Int) - 1) = (n : Int) - 1 := by rw [IntKind.wrap_i64]; omega
  go_enter Tryz.func153, Tryz.ntmps153
  go_wp2_with fail
  go_loopw [1, 6] (fun v1 v6 wr => ∃ k j : Nat, v6 = .int .i64 k ∧ v1 = .int .i64 j ∧ k < n ∧ j ≤ 1000000 ∧ kidP (szs h ks) i = (k + (kidP ((szs h ks).drop k) j).1, (kidP ((szs h ks).drop k) j).2) ∧ wr = w) (fun _ v _ => n - (intOf v).toNat)
  case atStart => exact ⟨0, i, rfl, rfl, by omega, hi, by simp, rfl⟩
  case round =>
    obtain ⟨k, j, rfl, rfl, hk, hj, hp, hww⟩ := hrel
    have hww2 := hww.symm
    subst hww2
    clear hww
    have HP := Lib.hid hp
    have hkt : k < ks.length := by rw [HN.out]; exact hk
    have hx : ks[k]? = some ks[k] := List.getElem?_eq_getElem hkt
    obtain ⟨b', hcb, hin⟩ := HE.out.at hx
    have c2 := hin.num
    have hsd := szs_drop hx
    have HSD := Lib.hid hsd
    unfold ptr at hcb
    clear hp hin hsd hx
    generalize (flatL h ks[k]).length = q at *
    by_cases h1k : k + 1 < n
    · have dk : decide ((k : Int) < (n : Int) - 1) = true := decide_eq_true (by omega)
      have e0 : (0 : Int) ≤ (k : Int) := by omega
      have e1 : (k : Int) < (n : Int) := by omega
      have hkt2 : k + 1 < ks.length := by rw [HN.out]; exact h1k
      have hsd2 := szs_drop (List.getElem?_eq_getElem hkt2)
      generalize (flatL h ks[k + 1]).length = q2 at *
      have HSD2 := Lib.hid hsd2
      clear hsd2
      by_cases hjq : q ≤ j
      · have dq : decide ((q : Int) ≤ (j : Int)) = true := decide_eq_true (by omega)
        have dq' : decide (q ≤ j) = true := decide_eq_true hjq
        have hw2 : IntKind.i64.wrap ((j : Int) - (q : Int)) = ((j - q : Nat) : Int) := by rw [IntKind.wrap_i64]; omega
        have hpk : kidP (szs h ks) i = ((k + 1) + (kidP ((szs h ks).drop (k + 1)) (j - q)).1, (kidP ((szs h ks).drop (k + 1)) (j - q)).2) := by
          rw [HP.out, HSD.out, HSD2.out, kidP_go (by omega)]
          simp only
          congr 1; omega
        have HPK := Lib.hid hpk
        clear hpk
        go_wp2_with fail
        go_roundw
        case rel => exact ⟨k + 1, j - q, by go_num, by go_num, h1k, by omega, HPK.out, by first | rfl | trivial⟩
        case measure => simp [intOf]; omega
      · have dq : decide ((q : Int) ≤ (j : Int)) = false := decide_eq_false (by omega)
        have dq' : decide (q ≤ j) = false := decide_eq_false hjq
        have hpk : kidP (szs h ks) i = (k, j) := by
          rw [HP.out, HSD.out, HSD2.out, kidP_stop (by omega)]; rfl
        have HPK := Lib.hid hpk
        clear hpk
        go_wp2_with fail
        go_ret2
        exact ⟨by rw [HPK.out]; rfl, rfl⟩
    · have dk : decide ((k : Int) < (n : Int) - 1) = false := decide_eq_false (by omega)
      have hpk : kidP (szs h ks) i = (k, j) := by
        rw [HP.out, HSD.out, List.drop_eq_nil_of_le (by rw [szs_len, HN.out]; omega)]; rfl
      have HPK := Lib.hid hpk
      clear hpk
      go_wp2_with fail
      go_ret2
      exact ⟨by rw [HPK.out]; rfl, rfl⟩

theorem Es.part {w : World} {T : TypeId} {h : Nat} {ts : List (El h)} {g o c n k : Nat} (H : Es w T h ts (Option.some ⟨g, o, Option.none⟩) c) (hn : ts.length = n) (hk : k < fewN n) : Es w T h (partOf ts k) (Option.some ⟨g, o + stp h (cutAt n k), Option.none⟩) (c - cutAt n k) ∧ (partOf ts k).length = cutAt n (k + 1) - cutAt n k := by
  subst hn
  have h0 : 0 < ts.length := by unfold fewN at hk; omega
  have h1 := cutAt_lt (k := k) h0
  have h2 := cutAt_le (n := ts.length) (k := k + 1) hk
  refine ⟨?_, partOf_len ts hk⟩
  have := (H.take (cutAt ts.length (k + 1))).drop (i := cutAt ts.length k) (by rw [List.length_take]; omega) ⟨g, o + stp h (cutAt ts.length k), Option.none⟩ (fun _ => rfl) ⟨g, _, rfl⟩
  exact this
theorem cut_div {n k : Nat} (hn : n ≤ 1000000) (hk : k ≤ fewN n) : IntKind.i64.wrap ((k : Int) * (n : Int)) = (k : Int) * (n : Int) ∧ IntKind.i64.wrap (((k : Int) * (n : Int)).tdiv (fewN n : Int)) = (cutAt n k : Int) := by
  have h1 : k * n ≤ 1000000 * 1000000 := Nat.mul_le_mul (by have := fewN_le n; omega) hn
  have h2 : (k : Int) * (n : Int) = ((k * n : Nat) : Int) := by rw [Int.natCast_mul]
  have h3 : ((k * n : Nat) : Int).tdiv (fewN n : Int) = (cutAt n k : Int) := by
    unfold cutAt
    rw [Int.tdiv_eq_ediv_of_nonneg (by omega)]; norm_cast
  have h4 := cutAt_le hk
  rw [h2, h3]
  constructor
  · rw [IntKind.wrap_i64]; omega
  · rw [IntKind.wrap_i64]; omega
theorem flatLen0 (t : List (El 0)) : (flatL 0 t).length = t.length := congrArg List.length (flatL_zero t)
/-- The cells of a row of nodes, the first ones of which are made. -/
def mkC (bs : List Nat) (n : Nat) : Array Value := (bs.map ptr ++ List.replicate (n - bs.length) (Value.pointer none)).toArray
theorem mkC_set {bs : List Nat} {n : Nat} (h : bs.length < n) (b : Nat) : (mkC bs n).setIfInBounds bs.length (ptr b) = mkC (bs ++ [b]) n := by
  apply Array.ext'
  unfold mkC
  have e : n - bs.length = (n - (bs ++ [b]).length) + 1 := by simp; omega
  rw [e, List.replicate_succ]
  simp
theorem mkC_full {bs : List Nat} {n : Nat} (h : bs.length = n) : mkC bs n = (bs.map ptr).toArray := by unfold mkC; simp [h]
theorem mkC_at {bs : List Nat} {n : Nat} (h : bs.length < n) : (mkC bs n)[bs.length]? = some (Value.pointer none) := by
  unfold mkC
  have e : n - bs.length = (n - bs.length - 1) + 1 := by omega
  rw [e, List.replicate_succ]
  simp
theorem mkC_len (bs : List Nat) (n : Nat) (h : bs.length ≤ n) : (mkC bs n).size = n := by unfold mkC; simp; omega
theorem mkC_made (n : Nat) : madeCells #[Value.pointer none] n = mkC [] n := by
  apply Array.ext
  · rw [size_madeCells]; simp [mkC]
  · intro i h1 h2
    simp [madeCells, mkC, Nat.mod_one]
theorem part_idx {α β : Type} {ts : List α} {us : List β} (hl : us.length = ts.length) {P : α → β → Prop} (H : ∀ (i : Nat) (x : α) (y : β), ts[i]? = some x → us[i]? = some y → P x y) (k : Nat) : (partOf us k).length = (partOf ts k).length ∧ ∀ (i : Nat) (x : α) (y : β), (partOf ts k)[i]? = some x → (partOf us k)[i]? = some y → P x y := by
  unfold partOf
  rw [hl]
  refine ⟨by rw [List.length_drop, List.length_drop, List.length_take, List.length_take, hl], fun i x y hx hy => ?_⟩
  rw [List.getElem?_drop, List.getElem?_take] at hx hy
  split at hx
  · rename_i h; rw [if_pos h] at hy; exact H _ x y hx hy
  · cases hx
theorem Sl.part {w : World} {us : List Value} {g o c n k : Nat} (H : Sl w (Option.some ⟨g, o, Option.none⟩) c us) (hn : us.length = n) (hk : k < fewN n) : Sl w (Option.some ⟨g, o + cutAt n k, Option.none⟩) (c - cutAt n k) (partOf us k) ∧ (partOf us k).length = cutAt n (k + 1) - cutAt n k := by
  subst hn
  have h0 : 0 < us.length := by unfold fewN at hk; omega
  have h1 := cutAt_lt (k := k) h0
  have h2 := cutAt_le (n := us.length) (k := k + 1) hk
  refine ⟨?_, partOf_len us hk⟩
  exact (H.take (cutAt us.length (k + 1))).drop (i := cutAt us.length k) (by rw [List.length_take]; omega) ⟨g, o + cutAt us.length k, Option.none⟩ (fun _ => rfl) ⟨g, _, rfl⟩
theorem S3.part {w : World} {us : List Value} {g o c n k : Nat} (H : S3 w (Option.some ⟨g, o, Option.none⟩) c us) (hn : us.length = n) (hk : k < fewN n) : S3 w (Option.some ⟨g, o + cutAt n k * 3, Option.none⟩) (c - cutAt n k) (partOf us k) ∧ (partOf us k).length = cutAt n (k + 1) - cutAt n k := by
  subst hn
  have h0 : 0 < us.length := by unfold fewN at hk; omega
  have h1 := cutAt_lt (k := k) h0
  have h2 := cutAt_le (n := us.length) (k := k + 1) hk
  refine ⟨?_, partOf_len us hk⟩
  exact (H.take (cutAt us.length (k + 1))).drop (i := cutAt us.length k) (by rw [List.length_take]; omega) ⟨g, o + cutAt us.length k * 3, Option.none⟩ (fun _ => rfl) ⟨g, _, rfl⟩
theorem part_flat {h : Nat} (ts : List (El h)) (k : Nat) : (flatL h (partOf ts k)).length ≤ (flatL h ts).length := by
  have h1 : ∀ (l : List (El h)) i, (flatL h (l.take i)).length ≤ (flatL h l).length := fun l i => by
    conv => rhs; rw [← List.take_append_drop i l, flatL_app, List.length_append]
    omega
  have h2 : ∀ (l : List (El h)) i, (flatL h (l.drop i)).length ≤ (flatL h l).length := fun l i => by
    conv => rhs; rw [← List.take_append_drop i l, flatL_app, List.length_append]
    omega
  exact Nat.le_trans (h2 _ _) (h1 _ _)
theorem ptr_one (bs : List Nat) : ∀ u ∈ bs.map ptr, u.oneCell' = true := by
  intro u hu
  obtain ⟨b, _, rfl⟩ := List.mem_map.1 hu
  rfl

set_option maxRecDepth 100000 in
set_option maxHeartbeats 4000000 in
theorem pack_li {w : World}  {a : Option Addr} {c n : Nat} {ts : List (El 0)} (H : Es w 194 0 ts a c) (hn : ts.length = n) (hl : n ≤ 100000) (hf : (flatL 0 ts).length ≤ 1000000) :
    Calls Tryz.prog 102 #[.func (.func 103) #[] #[], .slice a n c] w fun e w' => ∃ a' c', e = .returned (.slice a' (fewN n) c') ∧ Es w' 194 (0 + 1) (pts ts) a' c' ∧ Below w.heap.size w w' := by
  have hcap := H.cap
  obtain ⟨us, hsl, hul, hus⟩ := H
  replace hsl : S3 w a c us := hsl
  have HSL := Lib.hid hsl
  have HUL := Lib.hid hul
  have HUS := Lib.hid hus
  have HN := Lib.hid hn
  have HF := Lib.hid hf
  have hcm := hcap.2
  unfold maxLen at hcm
  have hcn := hcap.1
  rw [hn] at hcn
  obtain ⟨few, hfew⟩ : ∃ f, fewN n = f := ⟨_, rfl⟩
  have HFW := Lib.hid hfew
  have hfl : few ≤ n := by rw [← hfew]; exact fewN_le n
  have hwa : IntKind.i64.wrap ((n : Int) + 6) = (n : Int) + 6 := by rw [IntKind.wrap_i64]; omega
  have hwb : IntKind.i64.wrap ((n : Int) + 6 - 1) = (n : Int) + 5 := by rw [IntKind.wrap_i64]; omega
  have hwc : ((n : Int) + 5).tdiv 6 = (few : Int) := by rw [Int.tdiv_eq_ediv_of_nonneg (by omega), ← hfew]; unfold fewN; omega
  have hmk := fun w => Go.run_make_row' (P := Tryz.prog) 183 23 (.pointer none) 8 Tryz.underlying183 info_ni rfl .i64 .i64 few (by omega) (by omega) w
  rw [mkC_made] at hmk
  rw [hfew]
  clear hn hf hcap hfew hsl hul hus
  go_enter Tryz.func102, Tryz.ntmps102
  go_upto_region 3 with fail
  have hh := heap_alloc_new w (.cells (mkC [] few) 23)
  have al := t_al w (.cells (mkC [] few) 23)
  generalize w.alloc (.cells (mkC [] few) 23) = w2 at *
  have HH := Lib.hid hh
  have HAL := Lib.hid al
  clear hh al hmk
  go_wp2_with fail
  go_loopw [7, 17] (fun v7 v17 wr => ∃ bs : List Nat, v17 = .int .i64 bs.length ∧ bs.length ≤ few ∧ wr.heap[w.heap.size]? = some (.cells (mkC bs few) 23 (0, 0)) ∧ (∀ (i b : Nat), bs[i]? = some b → RawN (w.heap.size + 1) wr 194 0 (partOf us i) (flatL 0 (partOf ts i)).length b) ∧ Below w.heap.size w wr) (fun _ i _ => few - (intOf i).toNat)
  case atStart => exact ⟨[], rfl, by simp, HH.out, fun i b hb => by simp at hb, HAL.out⟩
  case round =>
    obtain ⟨bs, rfl, hbl, hw, hraw, hbw⟩ := hrel
    have HW := Lib.hid hw
    have HR := Lib.hid hraw
    have HBW := Lib.hid hbw
    have hzw := lt_of_heap hw
    obtain ⟨k, hk⟩ : ∃ k, bs.length = k := ⟨_, rfl⟩
    have HK := Lib.hid hk
    rw [hk] at hbl ⊢
    by_cases hlt : k < few
    · have dk : decide (k < few) = true := decide_eq_true hlt
      have hkf : k < fewN n := by rw [HFW.out]; exact hlt
      have hn0 : 0 < n := by unfold fewN at hkf; omega
      obtain ⟨g, o, rfl, hg, _⟩ := HSL.out.rd.2 (by rw [HUL.out, HN.out]; exact hn0)
      obtain ⟨hp1, hp2⟩ := HSL.out.part (k := k) (by rw [HUL.out, HN.out]) hkf
      obtain ⟨hpl, hpi⟩ := part_idx HUL.out HUS.out k
      have hc1 := cutAt_lt (n := n) (k := k) hn0
      have hc2 := cutAt_le (n := n) (k := k + 1) hkf
      have hM : Hid (∀ w', Below w.heap.size w w' → Calls Tryz.prog 103 #[.slice (some ⟨g, o + cutAt n k * 3, none⟩) (cutAt n (k + 1) - cutAt n k) (c - cutAt n k)] w' fun e w'' => ∃ b, e = .returned (ptr b) ∧ RawN w'.heap.size w'' 194 0 (partOf us k) (flatL 0 (partOf ts k)).length b ∧ Below w'.heap.size w' w'') := by
        refine Lib.hid (fun w' hb => ?_)
        have := leaf_i (hp1.below hb) hp2 (by omega)
        rw [flatLen0, ← hpl, hp2]
        exact this
      obtain ⟨hw1, hd1⟩ := cut_div (n := n) (k := k) (by omega) (by omega)
      obtain ⟨hw2, hd2⟩ := cut_div (n := n) (k := k + 1) (by omega) (by omega)
      rw [HFW.out] at hd1 hd2
      rw [show ((k + 1 : Nat) : Int) = (k : Int) + 1 by omega] at hw2 hd2
      have hwk : IntKind.i64.wrap ((k : Int) + 1) = (k : Int) + 1 := by rw [IntKind.wrap_i64]; omega
      have hf0 : ((few : Int) == 0) = false := by simp; omega
      have hf1 : ¬ (few : Int) = 0 := by omega
      have hf2 : ¬ few = 0 := by omega
      have e0 : (0 : Int) ≤ (k : Int) := by omega
      have e1 : (k : Int) < (few : Int) := by omega
      clear hp1 hp2 hpl hpi hraw
      generalize cutAt n k = q1 at *
      generalize cutAt n (k + 1) = q2 at *
      have e2 : (0 : Int) ≤ (q1 : Int) := by omega
      have e3 : (q1 : Int) ≤ (q2 : Int) := by omega
      have e4 : (q2 : Int) ≤ (c : Int) := by omega
      have e5 : ¬ ((c : Int) - (q1 : Int) = 0) := by omega
      have e6 : c - q1 ≠ 0 := by omega
      have e7 : ¬ c = q1 := by omega
      have hb0 : Below wr.heap.size wr wr.drew := (Below.refl _ _).drew
      go_wp2_with fail
      go_region_law (go_simp; go_at_call 103; refine (hM.out _ (hbw.drew)).mono ?_; rintro e w5 ⟨b', rfl, hraw5, hb5⟩; have hw5 := (hb5.block w.heap.size hzw).trans HW.out; have zz := (fun i => unfrozen hw5 i); have c0 : w5.cell? ⟨w.heap.size, k, none⟩ = some (.pointer none) := (by rw [cell_at hw5, ← HK.out]; exact mkC_at (by rw [HK.out]; exact hlt)); have HW5 := Lib.hid hw5; have HR5 := Lib.hid hraw5; have HB5 := Lib.hid hb5; clear hw5 hraw5 hb5)
      all_goals
        go_wp2_with fail
        have h1 := heap_set_at (o := k) (u := ptr b') HW5.out
        have h2 := (HBW.out.drew.trans (HB5.out.mono hbw.size)).setCell (p := ⟨w.heap.size, k, none⟩) (Nat.le_refl _) (ptr b')
        have h3 : (mkC bs few).setIfInBounds k (ptr b') = mkC (bs ++ [b']) few := by rw [← HK.out]; exact mkC_set (by rw [HK.out]; exact hlt) b'
        rw [h3] at h1
        have h4 : ∀ (i b : Nat), (bs ++ [b'])[i]? = some b → RawN (w.heap.size + 1) (w5.setCell ⟨w.heap.size, k, none⟩ (ptr b')) 194 0 (partOf us i) (flatL 0 (partOf ts i)).length b := fun i b hi => by
          rcases Nat.lt_or_ge i bs.length with h | h
          · rw [List.getElem?_append_left h] at hi
            exact ((HR.out i b hi).below ((Below.refl _ wr).drew.trans HB5.out)).set (by omega)
          · rw [List.getElem?_append_right h] at hi
            have hik : i = k := by
              have := (List.getElem?_eq_some_iff.1 hi).1
              simp at this; have := HK.out; omega
            subst hik
            rw [HK.out, Nat.sub_self] at hi
            cases hi
            exact (HR5.out.mono (by show w.heap.size + 1 ≤ wr.heap.size; omega)).set (by omega)
        have h5 : (bs ++ [b']).length = k + 1 := by rw [List.length_append, HK.out]; rfl
        unfold ptr at h1 h2 h4
        go_roundw
        case rel => exact ⟨bs ++ [b'], by rw [h5]; go_num, by rw [h5]; omega, h1, h4, h2⟩
        case measure => simp [intOf]; omega
    · have dk : decide (k < few) = false := decide_eq_false hlt
      have hkf : bs.length = few := by rw [HK.out]; omega
      clear hw hraw hbw
      go_wp2_with fail
      go_ret
      have h1 := HW.out
      rw [mkC_full hkf] at h1
      have h2 : (bs.map ptr).length = few := by rw [List.length_map, hkf]
      have hs := Sl.new h1 (by rw [h2]; unfold maxLen; omega) (ptr_one bs)
      rw [h2] at hs
      refine ⟨some ⟨w.heap.size, 0, none⟩, few, rfl, ⟨bs.map ptr, hs, by rw [h2, pts_len, HN.out, HFW.out], fun i x y hx hy => ?_⟩, HBW.out⟩
      have hif : i < fewN ts.length := by
        have := (List.getElem?_eq_some_iff.1 hx).1
        rwa [pts_len] at this
      rw [pts_at ts hif] at hx
      cases hx
      rw [List.getElem?_map] at hy
      obtain ⟨b, hb, rfl⟩ := Option.map_eq_some_iff.1 hy
      obtain ⟨hpl, hpi⟩ := part_idx HUL.out HUS.out i
      exact in_of ((HR.out i b hb).in hpl HBW.out hpi)

set_option maxRecDepth 100000 in
set_option maxHeartbeats 4000000 in
theorem pack_ni {w : World} {h : Nat} {a : Option Addr} {c n : Nat} {ts : List (El (h + 1))} (H : Es w 194 (h + 1) ts a c) (hn : ts.length = n) (hl : n ≤ 100000) (hf : (flatL (h + 1) ts).length ≤ 1000000) :
    Calls Tryz.prog 147 #[.func (.func 148) #[] #[], .slice a n c] w fun e w' => ∃ a' c', e = .returned (.slice a' (fewN n) c') ∧ Es w' 194 ((h + 1) + 1) (pts ts) a' c' ∧ Below w.heap.size w w' := by
  have hcap := H.cap
  obtain ⟨us, hsl, hul, hus⟩ := H
  replace hsl : Sl w a c us := hsl
  have HSL := Lib.hid hsl
  have HUL := Lib.hid hul
  have HUS := Lib.hid hus
  have HN := Lib.hid hn
  have HF := Lib.hid hf
  have hcm := hcap.2
  unfold maxLen at hcm
  have hcn := hcap.1
  rw [hn] at hcn
  obtain ⟨few, hfew⟩ : ∃ f, fewN n = f := ⟨_, rfl⟩
  have HFW := Lib.hid hfew
  have hfl : few ≤ n := by rw [← hfew]; exact fewN_le n
  have hwa : IntKind.i64.wrap ((n : Int) + 6) = (n : Int) + 6 := by rw [IntKind.wrap_i64]; omega
  have hwb : IntKind.i64.wrap ((n : Int) + 6 - 1) = (n : Int) + 5 := by rw [IntKind.wrap_i64]; omega
  have hwc : ((n : Int) + 5).tdiv 6 = (few : Int) := by rw [Int.tdiv_eq_ediv_of_nonneg (by omega), ← hfew]; unfold fewN; omega
  have hmk := fun w => Go.run_make_row' (P := Tryz.prog) 183 23 (.pointer none) 8 Tryz.underlying183 info_ni rfl .i64 .i64 few (by omega) (by omega) w
  rw [mkC_made] at hmk
  rw [hfew]
  clear hn hf hcap hfew hsl hul hus
  go_enter Tryz.func147, Tryz.ntmps147
  go_upto_region 3 with fail
  have hh := heap_alloc_new w (.cells (mkC [] few) 23)
  have al := t_al w (.cells (mkC [] few) 23)
  generalize w.alloc (.cells (mkC [] few) 23) = w2 at *
  have HH := Lib.hid hh
  have HAL := Lib.hid al
  clear hh al hmk
  go_wp2_with fail
  go_loopw [7, 17] (fun v7 v17 wr => ∃ bs : List Nat, v17 = .int .i64 bs.length ∧ bs.length ≤ few ∧ wr.heap[w.heap.size]? = some (.cells (mkC bs few) 23 (0, 0)) ∧ (∀ (i b : Nat), bs[i]? = some b → RawN (w.heap.size + 1) wr 194 (h + 1) (partOf us i) (flatL (h + 1) (partOf ts i)).length b) ∧ Below w.heap.size w wr) (fun _ i _ => few - (intOf i).toNat)
  case atStart => exact ⟨[], rfl, by simp, HH.out, fun i b hb => by simp at hb, HAL.out⟩
  case round =>
    obtain ⟨bs, rfl, hbl, hw, hraw, hbw⟩ := hrel
    have HW := Lib.hid hw
    have HR := Lib.hid hraw
    have HBW := Lib.hid hbw
    have hzw := lt_of_heap hw
    obtain ⟨k, hk⟩ : ∃ k, bs.length = k := ⟨_, rfl⟩
    have HK := Lib.hid hk
    rw [hk] at hbl ⊢
    by_cases hlt : k < few
    · have dk : decide (k < few) = true := decide_eq_true hlt
      have hkf : k < fewN n := by rw [HFW.out]; exact hlt
      have hn0 : 0 < n := by unfold fewN at hkf; omega
      obtain ⟨g, o, rfl, hg, _⟩ := HSL.out.rd.2 (by rw [HUL.out, HN.out]; exact hn0)
      obtain ⟨hp1, hp2⟩ := HSL.out.part (k := k) (by rw [HUL.out, HN.out]) hkf
      obtain ⟨hpl, hpi⟩ := part_idx HUL.out HUS.out k
      have hc1 := cutAt_lt (n := n) (k := k) hn0
      have hc2 := cutAt_le (n := n) (k := k + 1) hkf
      have hM : Hid (∀ w', Below w.heap.size w w' → Calls Tryz.prog 148 #[.slice (some ⟨g, o + cutAt n k, none⟩) (cutAt n (k + 1) - cutAt n k) (c - cutAt n k)] w' fun e w'' => ∃ b, e = .returned (ptr b) ∧ RawN w'.heap.size w'' 194 (h + 1) (partOf us k) (flatL (h + 1) (partOf ts k)).length b ∧ Below w'.heap.size w' w'') := by
        refine Lib.hid (fun w' hb => ?_)
        exact above_i (hp1.below hb) hpl (fun i x y hx hy => (hpi i x y hx hy).below hb) (by rw [← hpl, hp2]) (by omega) (Nat.le_trans (part_flat ts k) HF.out)
      obtain ⟨hw1, hd1⟩ := cut_div (n := n) (k := k) (by omega) (by omega)
      obtain ⟨hw2, hd2⟩ := cut_div (n := n) (k := k + 1) (by omega) (by omega)
      rw [HFW.out] at hd1 hd2
      rw [show ((k + 1 : Nat) : Int) = (k : Int) + 1 by omega] at hw2 hd2
      have hwk : IntKind.i64.wrap ((k : Int) + 1) = (k : Int) + 1 := by rw [IntKind.wrap_i64]; omega
      have hf0 : ((few : Int) == 0) = false := by simp; omega
      have hf1 : ¬ (few : Int) = 0 := by omega
      have hf2 : ¬ few = 0 := by omega
      have e0 : (0 : Int) ≤ (k : Int) := by omega
      have e1 : (k : Int) < (few : Int) := by omega
      clear hp1 hp2 hpl hpi hraw
      generalize cutAt n k = q1 at *
      generalize cutAt n (k + 1) = q2 at *
      have e2 : (0 : Int) ≤ (q1 : Int) := by omega
      have e3 : (q1 : Int) ≤ (q2 : Int) := by omega
      have e4 : (q2 : Int) ≤ (c : Int) := by omega
      have e5 : ¬ ((c : Int) - (q1 : Int) = 0) := by omega
      have e6 : c - q1 ≠ 0 := by omega
      have e7 : ¬ c = q1 := by omega
      have hb0 : Below wr.heap.size wr wr.drew := (Below.refl _ _).drew
      go_wp2_with fail
      go_region_law (go_simp; go_at_call 148; refine (hM.out _ (hbw.drew)).mono ?_; rintro e w5 ⟨b', rfl, hraw5, hb5⟩; have hw5 := (hb5.block w.heap.size hzw).trans HW.out; have zz := (fun i => unfrozen hw5 i); have c0 : w5.cell? ⟨w.heap.size, k, none⟩ = some (.pointer none) := (by rw [cell_at hw5, ← HK.out]; exact mkC_at (by rw [HK.out]; exact hlt)); have HW5 := Lib.hid hw5; have HR5 := Lib.hid hraw5; have HB5 := Lib.hid hb5; clear hw5 hraw5 hb5)
      all_goals
        go_wp2_with fail
        have h1 := heap_set_at (o := k) (u := ptr b') HW5.out
        have h2 := (HBW.out.drew.trans (HB5.out.mono hbw.size)).setCell (p := ⟨w.heap.size, k, none⟩) (Nat.le_refl _) (ptr b')
        have h3 : (mkC bs few).setIfInBounds k (ptr b') = mkC (bs ++ [b']) few := by rw [← HK.out]; exact mkC_set (by rw [HK.out]; exact hlt) b'
        rw [h3] at h1
        have h4 : ∀ (i b : Nat), (bs ++ [b'])[i]? = some b → RawN (w.heap.size + 1) (w5.setCell ⟨w.heap.size, k, none⟩ (ptr b')) 194 (h + 1) (partOf us i) (flatL (h + 1) (partOf ts i)).length b := fun i b hi => by
          rcases Nat.lt_or_ge i bs.length with h | h
          · rw [List.getElem?_append_left h] at hi
            exact ((HR.out i b hi).below ((Below.refl _ wr).drew.trans HB5.out)).set (by omega)
          · rw [List.getElem?_append_right h] at hi
            have hik : i = k := by
              have := (List.getElem?_eq_some_iff.1 hi).1
              simp at this; have := HK.out; omega
            subst hik
            rw [HK.out, Nat.sub_self] at hi
            cases hi
            exact (HR5.out.mono (by show w.heap.size + 1 ≤ wr.heap.size; omega)).set (by omega)
        have h5 : (bs ++ [b']).length = k + 1 := by rw [List.length_append, HK.out]; rfl
        unfold ptr at h1 h2 h4
        go_roundw
        case rel => exact ⟨bs ++ [b'], by rw [h5]; go_num, by rw [h5]; omega, h1, h4, h2⟩
        case measure => simp [intOf]; omega
    · have dk : decide (k < few) = false := decide_eq_false hlt
      have hkf : bs.length = few := by rw [HK.out]; omega
      clear hw hraw hbw
      go_wp2_with fail
      go_ret
      have h1 := HW.out
      rw [mkC_full hkf] at h1
      have h2 : (bs.map ptr).length = few := by rw [List.length_map, hkf]
      have hs := Sl.new h1 (by rw [h2]; unfold maxLen; omega) (ptr_one bs)
      rw [h2] at hs
      refine ⟨some ⟨w.heap.size, 0, none⟩, few, rfl, ⟨bs.map ptr, hs, by rw [h2, pts_len, HN.out, HFW.out], fun i x y hx hy => ?_⟩, HBW.out⟩
      have hif : i < fewN ts.length := by
        have := (List.getElem?_eq_some_iff.1 hx).1
        rwa [pts_len] at this
      rw [pts_at ts hif] at hx
      cases hx
      rw [List.getElem?_map] at hy
      obtain ⟨b, hb, rfl⟩ := Option.map_eq_some_iff.1 hy
      obtain ⟨hpl, hpi⟩ := part_idx HUL.out HUS.out i
      exact in_of ((HR.out i b hb).in hpl HBW.out hpi)

end Go.Proofs.YtkgakgceamafcaaGreat
