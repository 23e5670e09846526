/-
  Contracts of layer 9, nodes of ints: leaf, above, isLeaf, low, kid; at this seat's numbers.
-/
import Derived.Test.YtofncnommekbjaaTrB
import Derived.Test.YtofncnommekbjaaTrC
import Derived.Test.YtofncnommekbjaaTrD
namespace Go.Proofs.Ytofncnommekbjaa
open Go Go.RowKit
set_option linter.unusedVariables false

/-- A new node in memory, from a block on. -/
def RawN (B : Nat) (w : World) (T : TypeId) (h : Nat) (us : List Value) (N : Nat) (b : Nat) : Prop :=
  ∃ (a : Option Addr) (c : Nat), w.heap[b]? = some (.cells (nodeC h a us.length c N) T (0, 0)) ∧ Sl w a c us ∧ B ≤ b ∧ ∀ d, a = some d → B ≤ d.block ∧ TyAt w d.block
theorem RawN.in {B : Nat} {w w0 : World} {T : TypeId} {h : Nat} {us : List Value} {t : List (El h)} {b : Nat} (H : RawN B w T h us (flatL h t).length b) (hu : us.length = t.length) (hb : Below w0.heap.size w0 w) (hi : ∀ (i : Nat) (x : El h) (y : Value), t[i]? = some x → us[i]? = some y → InE w0 T h x y) : In w T h t b := by
  obtain ⟨a, c, h1, h2, _, h4⟩ := H
  rw [hu] at h1
  exact ⟨a, c, h1, fun d hd => (h4 d hd).2, us, h2, hu, fun i x y hx hy => (hi i x y hx hy).below hb⟩
theorem RawN.below {B : Nat} {w w' : World} {T : TypeId} {h N b : Nat} {us : List Value} (H : RawN B w T h us N b) (hb : Below w.heap.size w w') : RawN B w' T h us N b := by
  obtain ⟨a, c, h1, h2, h3, h4⟩ := H
  exact ⟨a, c, (hb.block b (lt_of_heap h1)).trans h1, h2.below hb, h3, fun d hd => ⟨(h4 d hd).1, (h4 d hd).2.below hb⟩⟩
theorem RawN.mono {B B' : Nat} {w : World} {T : TypeId} {h N b : Nat} {us : List Value} (H : RawN B w T h us N b) (hB : B' ≤ B) : RawN B' w T h us N b := by
  obtain ⟨a, c, h1, h2, h3, h4⟩ := H
  exact ⟨a, c, h1, h2, by omega, fun d hd => ⟨by have := (h4 d hd).1; omega, (h4 d hd).2⟩⟩
theorem Sl.set {w : World} {a : Option Addr} {c p o : Nat} {u : Value} {xs : List Value} (h : Sl w a c xs) (hp : ∀ d, a = some d → d.block ≠ p) : Sl (w.setCell ⟨p, o, Option.none⟩ u) a c xs := by
  refine ⟨⟨h.rd.1, fun hn => ?_⟩, h.cap, h.capm, h.nil, h.form, h.one⟩
  obtain ⟨g, off, rfl, hlt, hc⟩ := h.rd.2 hn
  refine ⟨g, off, rfl, by rw [size_set]; exact hlt, fun j x hj => ?_⟩
  rw [World.cell?_of_block (w := w) (w' := w.setCell ⟨p, o, Option.none⟩ u) (a := ⟨g, off + j, Option.none⟩) (heap_set_other (hp ⟨g, off, Option.none⟩ rfl))]
  exact hc j x hj
theorem RawN.set {B : Nat} {w : World} {T : TypeId} {h N b p o : Nat} {u : Value} {us : List Value} (H : RawN B w T h us N b) (hp : p < B) : RawN B (w.setCell ⟨p, o, none⟩ u) T h us N b := by
  obtain ⟨a, c, h1, h2, h3, h4⟩ := H
  exact ⟨a, c, (heap_set_other (by omega)).trans h1, h2.set (fun d hd => by have := (h4 d hd).1; omega), h3, fun d hd => ⟨(h4 d hd).1, (h4 d hd).2.set⟩⟩
theorem leaf_i {w : World} {a : Option Addr} {c n : Nat} {xs : List Value} (h : Sl w a c xs) (hn : xs.length = n) (hl : n ≤ 1000000) :
    Calls Try.prog 45 #[.slice a n c] w fun e w' => ∃ b, e = .returned (ptr b) ∧ RawN w.heap.size w' 95 0 xs n b ∧ Below w.heap.size w w' := by
  have HC := Lib.hid (clone_int h (by omega))
  have HN := Lib.hid hn
  rw [hn] at HC
  clear h hn
  go_enter Try.func45, Try.ntmps45
  go_wp2_with fail
  refine HC.out.mono ?_; rintro e w1 ⟨a', c', rfl, hs, hfr, hb⟩
  have al := t_al w1 (Obj.cells #[.slice none 0 0, .slice a' n c', .int .i64 n] 95)
  have hh := heap_alloc_new w1 (Obj.cells #[.slice none 0 0, .slice a' n c', .int .i64 n] 95)
  have HB := Lib.hid (hb.trans (al.mono hb.size))
  have HS := Lib.hid (hs.below al)
  have HH := Lib.hid hh
  have HFR := Lib.hid (fun d hd => And.intro (hfr d hd).1 ((hfr d hd).2.below al))
  have hz := hb.size
  clear hs hb al hh HC hfr
  go_wp2_with fail
  go_ret
  have h2 : (w1.alloc (Obj.cells #[.slice none 0 0, .slice a' n c', .int .i64 n] 95)).heap[w1.heap.size]? = some (.cells (nodeC 0 a' xs.length c' n) 95 (0, 0)) := by
    rw [HN.out]; exact HH.out
  exact ⟨w1.heap.size, rfl, ⟨a', c', h2, HS.out, hz, HFR.out⟩, HB.out⟩

theorem flat_take {h : Nat} {ts : List (El (h + 1))} {k : Nat} {x : List (El h)} (hx : ts[k]? = some x) : (flatL (h + 1) (ts.take (k + 1))).length = (flatL (h + 1) (ts.take k)).length + (flatL h x).length := by
  have hk := (List.getElem?_eq_some_iff.1 hx).1
  have hx2 : ts[k] = x := (List.getElem?_eq_some_iff.1 hx).2
  rw [List.take_succ_eq_append_getElem hk, flatL_app, List.length_append, flatL_cons, flatL_nil, List.append_nil, hx2]; rfl
theorem flat_part {h : Nat} {ts : List (El h)} (k : Nat) : (flatL h (ts.take k)).length ≤ (flatL h ts).length := by
  have : flatL h ts = flatL h (ts.take k) ++ flatL h (ts.drop k) := by rw [← flatL_app, List.take_append_drop]
  rw [this, List.length_append]; omega

set_option maxRecDepth 100000 in
set_option maxHeartbeats 2000000 in
theorem above_i {w : World} {h : Nat} {a : Option Addr} {c n : Nat} {ts : List (El (h + 1))} {us : List Value} (hsl : Sl w a c us) (hul : us.length = ts.length) (hus : ∀ (i : Nat) (x : El (h + 1)) (y : Value), ts[i]? = some x → us[i]? = some y → InE w 95 (h + 1) x y) (hn : ts.length = n) (hl : n ≤ 1000000) (hf : (flatL (h + 1) ts).length ≤ 1000000) :
    Calls Try.prog 75 #[.slice a n c] w fun e w' => ∃ b, e = .returned (ptr b) ∧ RawN w.heap.size w' 95 (h + 1) us (flatL (h + 1) ts).length b ∧ Below w.heap.size w w' := by
  have H : Es w 95 (h + 1) ts a c := ⟨us, hsl, hul, hus⟩
  have HC := Lib.hid (clone_ni hsl (by omega))
  have HU := Lib.hid (And.intro hul hus)
  have HE := Lib.hid H
  have HN := Lib.hid hn
  have HF := Lib.hid (fun k => Nat.le_trans (flat_part (h := h + 1) (ts := ts) k) hf)
  rw [hul, hn] at HC
  clear H hn hsl hul hus
  go_enter Try.func75, Try.ntmps75
  go_wp2_with fail
  refine HC.out.mono ?_; rintro e w1 ⟨a', c', rfl, hs, hfr, hb⟩
  have HFR := Lib.hid hfr
  clear hfr
  have HB := Lib.hid hb
  have HS := Lib.hid hs
  have hz := hb.size
  clear hs hb HC
  go_upto_region 2 with fail
  have hh := heap_alloc_new w1 (Obj.cells #[.slice a' n c', .slice none 0 0, .int .i64 0] 95)
  have al := t_al w1 (Obj.cells #[.slice a' n c', .slice none 0 0, .int .i64 0] 95)
  generalize w1.alloc (Obj.cells #[.slice a' n c', .slice none 0 0, .int .i64 0] 95) = w2 at *
  have HH := Lib.hid hh
  have HAL := Lib.hid al
  clear hh al
  go_wp2_with fail
  go_loopw [5, 12] (fun v5 v12 wr => ∃ k : Nat, v12 = .int .i64 k ∧ k ≤ n ∧ wr.heap[w1.heap.size]? = some (.cells #[.slice a' n c', .slice none 0 0, .int .i64 ((flatL (h + 1) (ts.take k)).length : Nat)] 95 (0, 0)) ∧ Below w1.heap.size w1 wr) (fun _ i _ => n - (intOf i).toNat)
  case atStart => exact ⟨0, rfl, by omega, HH.out, HAL.out⟩
  case round =>
    obtain ⟨k, rfl, hk, hw, hbw⟩ := hrel
    have HW := Lib.hid hw
    have HBW := Lib.hid hbw
    by_cases hlt : k < n
    · have dk : decide (k < n) = true := decide_eq_true hlt
      have hkt : k < ts.length := by rw [HN.out]; exact hlt
      obtain ⟨g, o, rfl, hg⟩ := HE.out.has (by omega)
      have hx : ts[k]? = some ts[k] := List.getElem?_eq_getElem hkt
      obtain ⟨b', hcb, hin⟩ := HE.out.at hx
      have hb0 := HB.out.trans (hbw.mono hz)
      have c0 := (hb0.cell (p := ⟨g, o + k, none⟩) hg).trans hcb
      have c1 := (hb0.cell (p := ⟨b', 2, none⟩) hin.lt).trans hin.num
      have c2 : wr.cell? ⟨w1.heap.size, 2, none⟩ = some (.int .i64 ((flatL (h + 1) (ts.take k)).length : Nat)) := by rw [cell_at hw]; rfl
      have zz := fun i => unfrozen hw i
      have hne : b' ≠ w1.heap.size := by have := hin.lt; omega
      have hst := flat_take hx
      have HST := Lib.hid hst
      have hf1 := HF.out (k + 1)
      rw [hst] at hf1
      unfold ptr at c0
      clear hw hbw hcb hin hb0 hst hx
      generalize (flatL h ts[k]).length = q at *
      generalize hN0 : (flatL (h + 1) (ts.take k)).length = N0 at *
      have hw0 : IntKind.i64.wrap ((N0 : Int) + (q : Int)) = ((N0 + q : Nat) : Int) := by rw [IntKind.wrap_i64]; omega
      have e0 : (0 : Int) ≤ (k : Int) := by omega
      have e1 : (k : Int) < (n : Int) := by omega
      go_wp2_with fail
      go_region
      all_goals
        go_wp2_with fail
        have h1 := heap_set_at (o := 2) (u := .int .i64 ((N0 + q : Nat) : Int)) HW.out
        have h2 := HBW.out.setCell (p := ⟨w1.heap.size, 2, none⟩) (Nat.le_refl _) (.int .i64 ((N0 + q : Nat) : Int))
        go_roundw
        case rel => exact ⟨k + 1, by go_num, hlt, by rw [HST.out]; exact h1, h2.drew⟩
        case measure => simp [intOf]; omega
    · have dk : decide (k < n) = false := decide_eq_false hlt
      have hkn : k = n := by omega
      subst hkn
      have htk : ts.take k = ts := by rw [← HN.out]; exact List.take_length
      rw [htk] at hw
      have HW2 := Lib.hid hw
      clear hw hbw
      go_wp2_with fail
      go_ret
      refine ⟨w1.heap.size, rfl, ⟨a', c', ?_, HS.out.below HBW.out, hz, fun d hd => ⟨(HFR.out d hd).1, (HFR.out d hd).2.below HBW.out⟩⟩, HB.out.trans (HBW.out.mono hz)⟩
      rw [HU.out.1, HN.out]; exact HW2.out

theorem isleaf_i {w : World} {t : List Value} {b : Nat} (H : In w 95 0 t b) :
    Calls Try.prog 57 #[ptr b] w fun e w' => e = .returned (.bool true) ∧ w = w' := by
  obtain ⟨a, c, h1, h2, h3⟩ := H.items
  unfold ptr
  clear H h3
  go_enter Try.func57, Try.ntmps57
  go_wp2_with fail
  go_ret
  exact ⟨rfl, rfl⟩
theorem notleaf_i {w : World} {h : Nat} {t : List (El (h + 1))} {b : Nat} (H : In w 95 (h + 1) t b) (hn : 0 < t.length) :
    Calls Try.prog 57 #[ptr b] w fun e w' => e = .returned (.bool false) ∧ w = w' := by
  obtain ⟨a, c, h1, h2, h3⟩ := H.kids
  unfold ptr
  generalize t.length = n at *
  have d0 : ((n : Int) == 0) = false := by simp; omega
  clear H h3
  go_enter Try.func57, Try.ntmps57
  go_wp2_with fail
  go_ret
  exact ⟨rfl, rfl⟩
theorem low_i {w : World} {h : Nat} {t : List (El h)} {b : Nat} (H : In w 95 h t b) (hl : t.length ≤ 1000000) :
    Calls Try.prog 97 #[ptr b] w fun e w' => e = .returned (.bool (decide (t.length < 3))) ∧ Below w.heap.size w w' := by
  obtain ⟨a, c, h1, -⟩ := H
  unfold ptr
  generalize t.length = n at *
  have hw : IntKind.i64.wrap ((n : Int) + 0) = n := by rw [IntKind.wrap_i64]; omega
  have hw2 : IntKind.i64.wrap ((0 : Int) + n) = n := by rw [IntKind.wrap_i64]; omega
  have hw3 : IntKind.i64.wrap (n : Int) = n := by rw [IntKind.wrap_i64]; omega
  have hd : decide ((n : Int) < 3) = decide (n < 3) := by
    by_cases h : n < 3
    · rw [decide_eq_true h, decide_eq_true (by omega)]
    · rw [decide_eq_false h, decide_eq_false (by omega)]
  rw [← hd]
  clear hd
  cases h with
  | zero =>
    have c0 : w.cell? ⟨b, 0, none⟩ = some (.slice none 0 0) := by rw [cell_at h1]; rfl
    have c1 : w.cell? ⟨b, 1, none⟩ = some (.slice a n c) := by rw [cell_at h1]; rfl
    clear h1
    go_enter Try.func97, Try.ntmps97
    go_wp2_with fail
    go_region
    all_goals
      go_wp2_with fail
      go_ret
      exact ⟨rfl, (Below.refl _ _).drew⟩
  | succ h =>
    have c0 : w.cell? ⟨b, 0, none⟩ = some (.slice a n c) := by rw [cell_at h1]; rfl
    have c1 : w.cell? ⟨b, 1, none⟩ = some (.slice none 0 0) := by rw [cell_at h1]; rfl
    clear h1
    go_enter Try.func97, Try.ntmps97
    go_wp2_with fail
    go_region
    all_goals
      go_wp2_with fail
      go_ret
      exact ⟨rfl, (Below.refl _ _).drew⟩

end Go.Proofs.Ytofncnommekbjaa
