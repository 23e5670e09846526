/-
  A feed in memory: New, Type, the small reads, at this seat's numbers.
-/
import Derived.Test.YtdkgnmomkimpoaaFeA
namespace Go.Proofs.Ytdkgnmomkimpoaa
open Go Go.RowKit
set_option linter.unusedVariables false

theorem heap_setCh (w : World) (c cap : Nat) (buf : Array Value) (cl : Bool) (s r : Nat) (tm : Bool) {b : Nat} (h : b ≠ c) : (w.setChan c cap buf cl s r tm).heap[b]? = w.heap[b]? := by
  simp only [World.setChan]; rw [Array.getElem?_setIfInBounds_ne (by omega)]
theorem nums_push (l : List Int) (x : Int) : (nums l).toArray.push (.int .i64 x) = (nums (l ++ [x])).toArray := by simp [nums]
theorem nums_size (l : List Int) : (nums l).toArray.size = l.length := by simp [nums]

/-- A pack of keys: a closed channel. -/
def Pk (w : World) (b : Nat) (l : List Int) : Prop := ∃ k s r, w.heap[b]? = some (.chan k (nums l).toArray true s r false)
abbrev chV (x : Nat × List Int) : Value := .chan (some x.1)

/-- A feed: its box at f, what it has at h, the keys that were typed in c, its packs; all above B. -/
structure Fd (w : World) (B f h c room : Nat) (v : Value) (ty : List Int) (L : List (Nat × List Int)) (fu : Nat) : Prop where
  box : w.heap[f]? = some (.cells #[pbox h] 70 (0, 0))
  wat : w.heap[h]? = some (.cells #[.chan (some c), v, .int .i64 fu] 68 (0, 0))
  typ : ∃ s r, w.heap[c]? = some (.chan room (nums ty).toArray false s r false)
  own : w.ownsRow B 73 1 v L.length (L.map chV)
  pks : ∀ x ∈ L, Pk w x.1 x.2 ∧ x.2 ≠ []
  nd : (L.map (·.1)).Nodup
  lo : B ≤ f ∧ B ≤ h ∧ B ≤ c ∧ ∀ x ∈ L, B ≤ x.1

/-- What a feed's calls leave as it was: whatever is no feed's. -/
structure FMv (B : Nat) (w w' : World) : Prop where
  low : Below B w w'
  oth : ∀ (k : Nat) (cs : Array Value) (t : TypeId) (fr : Nat × Nat), w.heap[k]? = some (.cells cs t fr) → t ≠ 70 → t ≠ 68 → t ≠ 73 → w'.heap[k]? = w.heap[k]?
theorem FMv.refl (B : Nat) (w : World) : FMv B w w := ⟨Below.refl _ _, fun _ _ _ _ _ _ _ _ => rfl⟩
theorem FMv.trans {B : Nat} {a b c : World} (h : FMv B a b) (k : FMv B b c) : FMv B a c :=
  ⟨h.low.trans k.low, fun i cs t fr e h1 h2 h3 => by
    have e1 := h.oth i cs t fr e h1 h2 h3
    rw [← e1]; exact k.oth i cs t fr (e1.trans e) h1 h2 h3⟩
theorem FMv.of_below {B : Nat} {w w' : World} (h : Below w.heap.size w w') (hB : B ≤ w.heap.size) : FMv B w w' :=
  ⟨h.mono hB, fun k cs t fr e _ _ _ => h.block k (lt_of_heap e)⟩
theorem FMv.set {B p o : Nat} {w : World} {u : Value} {cs : Array Value} {t : TypeId} {fr : Nat × Nat} (hp : w.heap[p]? = some (.cells cs t fr)) (ht : t = 70 ∨ t = 68 ∨ t = 73) (hB : B ≤ p) : FMv B w (w.setCell ⟨p, o, none⟩ u) :=
  ⟨(Below.refl B w).setCell (p := ⟨p, o, none⟩) hB u, fun k cs' t' fr' e h1 h2 h3 => heap_set_other (fun ek => by
    subst ek
    rw [hp] at e
    injection e with e; injection e with e1 e2 e3
    subst e2
    rcases ht with h | h | h <;> contradiction)⟩
theorem FMv.setCh {B c cap cap' : Nat} {w : World} {buf buf' : Array Value} {cl cl' tm tm' : Bool} {s r s' r' : Nat} (hc : w.heap[c]? = some (.chan cap buf cl s r tm)) (hB : B ≤ c) : FMv B w (w.setChan c cap' buf' cl' s' r' tm') :=
  ⟨Conc.below_setChan (Below.refl B w) hB _ _ _ _ _ _, fun k cs' t' fr' e _ _ _ => heap_setCh w c _ _ _ _ _ _ (fun ek => by subst ek; rw [hc] at e; cases e)⟩

theorem Pk.at {w w' : World} {b : Nat} {l : List Int} (h : Pk w b l) (e : w'.heap[b]? = w.heap[b]?) : Pk w' b l := by
  obtain ⟨k, s, r, hb⟩ := h
  exact ⟨k, s, r, e.trans hb⟩

section
variable {w w' : World} {B f h c room fu : Nat} {v : Value} {ty : List Int} {L : List (Nat × List Int)}

theorem Fd.lt (H : Fd w B f h c room v ty L fu) : f < w.heap.size ∧ h < w.heap.size ∧ c < w.heap.size ∧ ∀ x ∈ L, x.1 < w.heap.size := by
  obtain ⟨s, r, hc⟩ := H.typ
  refine ⟨lt_of_heap H.box, lt_of_heap H.wat, lt_of_heap hc, fun x hx => ?_⟩
  obtain ⟨_, _, _, hb⟩ := (H.pks x hx).1
  exact lt_of_heap hb
theorem Fd.ne (H : Fd w B f h c room v ty L fu) : f ≠ h ∧ f ≠ c ∧ h ≠ c ∧ ∀ x ∈ L, x.1 ≠ f ∧ x.1 ≠ h ∧ x.1 ≠ c := by
  obtain ⟨s, r, hc⟩ := H.typ
  have hf := H.box
  have hh := H.wat
  refine ⟨fun e => ?_, fun e => ?_, fun e => ?_, fun x hx => ?_⟩
  · rw [e] at hf; rw [hf] at hh; cases hh
  · rw [e] at hf; rw [hf] at hc; cases hc
  · rw [e] at hh; rw [hh] at hc; cases hc
  · obtain ⟨_, _, _, hb⟩ := (H.pks x hx).1
    refine ⟨fun e => ?_, fun e => ?_, fun e => ?_⟩
    · rw [e, hf] at hb; cases hb
    · rw [e, hh] at hb; cases hb
    · rw [e, hc] at hb; injection hb with hb; injection hb; contradiction
theorem Fd.below (H : Fd w B f h c room v ty L fu) (hb : Below w.heap.size w w') : Fd w' B f h c room v ty L fu := by
  obtain ⟨l1, l2, l3, l4⟩ := H.lt
  obtain ⟨s, r, hc⟩ := H.typ
  exact ⟨(hb.block f l1).trans H.box, (hb.block h l2).trans H.wat, ⟨s, r, (hb.block c l3).trans hc⟩, own_below H.own hb, fun x hx => ⟨(H.pks x hx).1.at (hb.block _ (l4 x hx)), (H.pks x hx).2⟩, H.nd, H.lo⟩
theorem Fd.cells (H : Fd w B f h c room v ty L fu) : w.cell? ⟨f, 0, none⟩ = some (pbox h) ∧ w.cell? ⟨h, 0, none⟩ = some (.chan (some c)) ∧ w.cell? ⟨h, 1, none⟩ = some v ∧ w.cell? ⟨h, 2, none⟩ = some (.int .i64 fu) ∧ w.frozen? ⟨h, 1, none⟩ = false ∧ w.frozen? ⟨h, 2, none⟩ = false :=
  ⟨by rw [cell_at H.box]; rfl, by rw [cell_at H.wat]; rfl, by rw [cell_at H.wat]; rfl, by rw [cell_at H.wat]; rfl, unfrozen H.wat 1, unfrozen H.wat 2⟩
theorem Fd.form (H : Fd w B f h c room v ty L fu) : ∃ a k, v = .slice a L.length k := by
  rcases H.own.2 with ⟨h1, h2⟩ | ⟨g, cap, cur, h1, _⟩
  · exact ⟨none, 0, by rw [h1, h2]⟩
  · exact ⟨_, _, h1⟩

theorem has_of (H : Fd w B f h c room v ty L fu) : Calls Try.prog 35 #[pbox f] w fun e w' => e = .returned (pbox h) ∧ w = w' := by
  obtain ⟨c0, _⟩ := H.cells
  clear H
  go_enter Try.func35, Try.ntmps35
  go_wp2_with fail
  go_ret
  exact ⟨rfl, rfl⟩
theorem fuel_of (H : Fd w B f h c room v ty L fu) : Calls Try.prog 15 #[pbox f] w fun e w' => e = .returned (.int .i64 fu) ∧ w = w' := by
  obtain ⟨c0, c1, c2, c3, _⟩ := H.cells
  have HH := Lib.hid (has_of H)
  clear H
  go_enter Try.func15, Try.ntmps15
  go_wp2_with fail
  refine HH.out.mono ?_; rintro e w1 ⟨rfl, rfl⟩
  go_wp2_with fail
  go_ret
  exact ⟨rfl, rfl⟩
theorem packs_of (H : Fd w B f h c room v ty L fu) : Calls Try.prog 14 #[pbox f] w fun e w' => e = .returned (.int .i64 L.length) ∧ w = w' := by
  obtain ⟨a, k, rfl⟩ := H.form
  obtain ⟨c0, c1, c2, c3, _⟩ := H.cells
  have HH := Lib.hid (has_of H)
  clear H
  go_enter Try.func14, Try.ntmps14
  go_wp2_with fail
  refine HH.out.mono ?_; rintro e w1 ⟨rfl, rfl⟩
  go_wp2_with fail
  go_ret
  exact ⟨rfl, rfl⟩
theorem len_chan {t n : Nat} {dir : ChanDir} {e : TypeId} (ht : Try.prog.underlying t = some (.chan dir e)) {b k s r : Nat} {cl : Bool} {l : List Int} (h : w.heap[b]? = some (.chan k (nums l).toArray cl s r false)) :
    (Builtin.len_ #[t] n #[.chan (some b)]).run Try.prog w = .ok (.int .i64 l.length) w := by
  have := run_getObj_chan Try.prog w h
  simp [Builtin.len_, run_underlying ht, this, goInt, nums]
theorem waits_of (H : Fd w B f h c room v ty L fu) : Calls Try.prog 13 #[pbox f] w fun e w' => e = .returned (.int .i64 ty.length) ∧ w = w' := by
  obtain ⟨c0, c1, c2, c3, _⟩ := H.cells
  obtain ⟨s, r, hc⟩ := H.typ
  have hl := len_chan (t := 65) (n := 3) Try.underlying65 hc
  have HH := Lib.hid (has_of H)
  clear H hc
  go_enter Try.func13, Try.ntmps13
  go_wp2_with fail
  refine HH.out.mono ?_; rintro e w1 ⟨rfl, rfl⟩
  go_wp2_with fail
  go_ret
  exact ⟨rfl, rfl⟩

set_option maxRecDepth 100000 in
/-- A key that was typed waits, if there is room. -/
theorem type_of (H : Fd w B f h c room v ty L fu) (x : Int) : Calls Try.prog 17 #[pbox f, .int .i64 x] w fun e w' =>
    e = .returned (.bool (decide (ty.length < room))) ∧ Fd w' B f h c room v (if ty.length < room then ty ++ [x] else ty) L fu ∧ FMv B w w' := by
  obtain ⟨c0, c1, _⟩ := H.cells
  obtain ⟨s, r, hc⟩ := H.typ
  have HH := Lib.hid (has_of H)
  have HF := Lib.hid H
  clear H
  have HC := Lib.hid hc
  clear hc
  by_cases hr : ty.length < room
  · rw [decide_eq_true hr, if_pos hr]
    go_enter Try.func17, Try.ntmps17
    rw [halt_at 3]
    go_wp2_with fail
    refine HH.out.mono ?_; rintro e w1 ⟨rfl, rfl⟩
    go_wp2_with fail
    refine wp_halt (wp_region_cut 3 0 (Nat.zero_le _) (wpList_nil ?_))
    refine comm_at (cases := #[Conc.scase c (.int .i64 x) (.int .i64 0)]) (blocking := false) (shape := .select) rfl rfl ?_ (fun fr cs es h => Conc.step_lone_select_send_room h HC.out (by rw [nums_size]; exact hr)) ?_
    · simp [go_sem, execOp, Conc.scase, Act.eval]
    go_wp2_with fail
    go_ret
    rw [show (nums ty ++ [Value.int .i64 x]) = nums (ty ++ [x]) from nums_app ty [x]]
    refine ⟨rfl, ?_, FMv.setCh HC.out HF.out.lo.2.2.1⟩
    obtain ⟨n1, n2, n3, n4⟩ := HF.out.ne
    have hlt := HF.out.lt.2.2.1
    refine ⟨(heap_setCh _ _ _ _ _ _ _ _ n2).trans HF.out.box, (heap_setCh _ _ _ _ _ _ _ _ n3).trans HF.out.wat, ⟨_, _, Conc.heap_setChan _ _ _ _ _ _ _ _ hlt⟩, ?_, fun y hy => ⟨(HF.out.pks y hy).1.at (heap_setCh _ _ _ _ _ _ _ _ (n4 y hy).2.2), (HF.out.pks y hy).2⟩, HF.out.nd, HF.out.lo⟩
    exact own_same HF.out.own fun b hb => heap_setCh _ _ _ _ _ _ _ _ (fun e => by
      subst e
      rcases HF.out.own.2 with ⟨h1, _⟩ | ⟨g, cap, cur, h1, _, hg, _⟩
      · rw [h1] at hb; cases hb
      · rw [h1] at hb; injection hb with hb; subst hb; rw [HC.out] at hg; cases hg)
  · rw [decide_eq_false hr, if_neg hr]
    go_enter Try.func17, Try.ntmps17
    rw [halt_at 3]
    go_wp2_with fail
    refine HH.out.mono ?_; rintro e w1 ⟨rfl, rfl⟩
    go_wp2_with fail
    refine wp_halt (wp_region_cut 3 0 (Nat.zero_le _) (wpList_nil ?_))
    refine comm_at (cases := #[Conc.scase c (.int .i64 x) (.int .i64 0)]) (blocking := false) (shape := .select) rfl rfl ?_ (fun fr cs es h => Conc.step_lone_select_send_full h HC.out (by rw [nums_size]; omega)) ?_
    · simp [go_sem, execOp, Conc.scase, Act.eval]
    go_wp2_with fail
    go_ret
    exact ⟨rfl, HF.out, FMv.refl _ _⟩
end

theorem bytes_int : ∃ i, Try.prog.info? 3 = some i ∧ i.bytes = 8 := by
  have h : (Try.prog.info? 3).map (·.bytes) = some 8 := by kernel_rfl
  obtain ⟨i, hi, hb⟩ := Option.map_eq_some_iff.1 h
  exact ⟨i, hi, hb⟩
theorem mkch (n : Nat) (hn : n ≤ 100000) (w : World) : (Instr.makeChan 65 (.int .i64 n)).run Try.prog w = .ok (.chan (some w.heap.size)) (w.alloc (.chan n #[] false 0 0 false)) := by
  obtain ⟨i, hi, hb⟩ := bytes_int
  simpa using Conc.run_makeChan (P := Try.prog) (w := w) Try.underlying65 hi .i64 n (by omega) (by rw [hb]; omega)

/-- The room that a feed is given. -/
def roomOf (x : Int) : Nat := (min (max x 1) 1000).toNat
theorem roomOf_eq (x : Int) : min (max x 1) 1000 = (roomOf x : Int) := by unfold roomOf; omega
theorem roomOf_le (x : Int) : 1 ≤ roomOf x ∧ roomOf x ≤ 1000 := by unfold roomOf; omega

set_option maxRecDepth 100000 in
theorem new_of (x : Int) (w : World) : Calls Try.prog 10 #[.int .i64 x] w fun e w' => ∃ f h c, e = .returned (pbox f) ∧ Fd w' w.heap.size f h c (roomOf x) (.slice none 0 0) [] [] 200 ∧ Below w.heap.size w w' := by
  have hm := mkch (roomOf x) (by have := roomOf_le x; omega) w
  have e := roomOf_eq x
  generalize roomOf x = n at *
  have HF : Hid (Fd (((w.alloc (.chan n #[] false 0 0 false)).alloc (.cells #[.chan (some w.heap.size), .slice none 0 0, .int .i64 200] 68)).alloc (.cells #[pbox (w.heap.size + 1)] 70)) w.heap.size (w.heap.size + 2) (w.heap.size + 1) w.heap.size n (.slice none 0 0) [] [] 200) := by
    show Fd _ _ _ _ _ _ _ _ _ _
    refine ⟨?_, ?_, ⟨0, 0, ?_⟩, t_nil _ _ _ _, fun y hy => (by cases hy), List.nodup_nil, ⟨by omega, by omega, by omega, fun y hy => (by cases hy)⟩⟩
    · have := heap_alloc_new ((w.alloc (.chan n #[] false 0 0 false)).alloc (.cells #[.chan (some w.heap.size), .slice none 0 0, .int .i64 200] 68)) (.cells #[pbox (w.heap.size + 1)] 70)
      simpa using this
    · have := heap_mid (w.alloc (.chan n #[] false 0 0 false)) (.cells #[.chan (some w.heap.size), .slice none 0 0, .int .i64 200] 68) (.cells #[pbox (w.heap.size + 1)] 70)
      simpa using this
    · rw [(t_al ((w.alloc (.chan n #[] false 0 0 false)).alloc (.cells #[.chan (some w.heap.size), .slice none 0 0, .int .i64 200] 68)) (.cells #[pbox (w.heap.size + 1)] 70)).block _ (by simp; omega)]
      exact heap_mid w _ _
  have HB := Lib.hid (((t_al w (.chan n #[] false 0 0 false)).alloc (by simp) (.cells #[.chan (some w.heap.size), .slice none 0 0, .int .i64 200] 68)).alloc (by simp; omega) (.cells #[pbox (w.heap.size + 1)] 70))
  go_enter Try.func10, Try.ntmps10
  go_wp2_with fail
  all_goals
    first
    | (exfalso; omega)
    | rw [show (1000 : Int) = (n : Int) by omega]
    | rw [show (1 : Int) = (n : Int) by omega]
    | rw [show x = (n : Int) by omega]
    rw [hm]
    go_wp2_with fail
    go_ret
    exact ⟨_, _, _, rfl, HF.out, HB.out⟩
end Go.Proofs.Ytdkgnmomkimpoaa
