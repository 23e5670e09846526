/-
  Texts of this seat, put together (a claim holds few texts): TgA, TgB, TgC.
-/
import Derived.Test.YtkgakgceamafcaaMk5
import Derived.Lib.SliceRun
import Derived.Laws.AppendOwnNone

namespace Go.Proofs.Ytkgakgceamafcaa
open Go Go.RowKit
set_option linter.unusedVariables false

/-- The cells of a thing in memory. -/
def c3 : Value → List Value
  | .agg a => a.toList
  | v => [v]
def cs3 (l : List Value) : List Value := l.flatMap c3
/-- A row of cells as a value. -/
def row3 (a : Option Addr) (n c : Nat) (e : Int) (b : Bool) : Value := .agg #[.slice a n c, .int .i64 e, .bool b]
def Is3 (v : Value) : Prop := ∃ (a : Option Addr) (n c : Nat) (e : Int) (b : Bool), v = row3 a n c e b
/-- The row of nothing. -/
def z3 : Value := row3 none 0 0 0 false
theorem z3_is : Is3 z3 := ⟨_, _, _, _, _, rfl⟩
theorem Is3.len {v : Value} (h : Is3 v) : (c3 v).length = 3 := by
  obtain ⟨a, n, c, e, b, rfl⟩ := h; rfl
theorem Is3.one {v : Value} (h : Is3 v) : ∀ u ∈ c3 v, u.oneCell' = true := by
  obtain ⟨a, n, c, e, b, rfl⟩ := h
  intro u hu
  simp only [c3, row3, List.mem_cons, List.not_mem_nil, or_false] at hu
  rcases hu with rfl | rfl | rfl <;> rfl
theorem Is3.nil {v : Value} (h : Is3 v) : v ≠ Value.pointer none := by
  obtain ⟨a, n, c, e, b, rfl⟩ := h
  intro hh; cases hh
theorem Is3.nilc {v : Value} (h : Is3 v) : ∀ u ∈ c3 v, u ≠ Value.pointer none := by
  obtain ⟨a, n, c, e, b, rfl⟩ := h
  intro u hu
  simp only [c3, row3, List.mem_cons, List.not_mem_nil, or_false] at hu
  rcases hu with rfl | rfl | rfl <;> (intro hh; cases hh)
theorem cs3_nil : cs3 [] = [] := rfl
theorem cs3_cons (v : Value) (l : List Value) : cs3 (v :: l) = c3 v ++ cs3 l := by unfold cs3; rw [List.flatMap_cons]
theorem cs3_app (a b : List Value) : cs3 (a ++ b) = cs3 a ++ cs3 b := by unfold cs3; rw [List.flatMap_append]
theorem cs3_len : ∀ {l : List Value}, (∀ u ∈ l, Is3 u) → (cs3 l).length = l.length * 3
  | [], _ => rfl
  | v :: l, h => by
    rw [cs3_cons, List.length_append, (h v List.mem_cons_self).len, cs3_len (fun u hu => h u (List.mem_cons_of_mem _ hu)), List.length_cons]; omega
theorem cs3_one {l : List Value} (h : ∀ u ∈ l, Is3 u) : ∀ u ∈ cs3 l, u.oneCell' = true := by
  intro u hu
  obtain ⟨v, hv, hu⟩ := List.mem_flatMap.1 hu
  exact (h v hv).one u hu
theorem cs3_nilc {l : List Value} (h : ∀ u ∈ l, Is3 u) : ∀ u ∈ cs3 l, u ≠ Value.pointer none := by
  intro u hu
  obtain ⟨v, hv, hu⟩ := List.mem_flatMap.1 hu
  exact (h v hv).nilc u hu
theorem is3_take {l : List Value} (h : ∀ u ∈ l, Is3 u) (k : Nat) : ∀ u ∈ l.take k, Is3 u := fun u hu => h u (List.mem_of_mem_take hu)
theorem is3_drop {l : List Value} (h : ∀ u ∈ l, Is3 u) (k : Nat) : ∀ u ∈ l.drop k, Is3 u := fun u hu => h u (List.mem_of_mem_drop hu)
theorem is3_app {l m : List Value} (h : ∀ u ∈ l, Is3 u) (h' : ∀ u ∈ m, Is3 u) : ∀ u ∈ l ++ m, Is3 u := fun u hu => (List.mem_append.1 hu).elim (h u) (h' u)
theorem is3_set {l : List Value} (h : ∀ u ∈ l, Is3 u) {v : Value} (hv : Is3 v) (k : Nat) : ∀ u ∈ l.set k v, Is3 u := fun u hu => (List.mem_or_eq_of_mem_set hu).elim (h u) (fun e => e ▸ hv)
theorem cs3_take {l : List Value} (h : ∀ u ∈ l, Is3 u) (k : Nat) : cs3 (l.take k) = (cs3 l).take (k * 3) := by
  induction l generalizing k with
  | nil => simp [cs3_nil]
  | cons v l ih =>
    cases k with
    | zero => simp [cs3_nil]
    | succ k =>
      have hv := (h v List.mem_cons_self).len
      rw [List.take_succ_cons, cs3_cons, cs3_cons, ih (fun u hu => h u (List.mem_cons_of_mem _ hu)), List.take_append, hv, show (k + 1) * 3 - 3 = k * 3 by omega, show (c3 v).take ((k + 1) * 3) = c3 v from List.take_of_length_le (by rw [hv]; omega)]
theorem cs3_drop {l : List Value} (h : ∀ u ∈ l, Is3 u) (k : Nat) : cs3 (l.drop k) = (cs3 l).drop (k * 3) := by
  induction l generalizing k with
  | nil => simp [cs3_nil]
  | cons v l ih =>
    cases k with
    | zero => simp
    | succ k =>
      have hv := (h v List.mem_cons_self).len
      rw [List.drop_succ_cons, cs3_cons, ih (fun u hu => h u (List.mem_cons_of_mem _ hu)), List.drop_append, hv, show (k + 1) * 3 - 3 = k * 3 by omega, show (c3 v).drop ((k + 1) * 3) = [] from List.drop_of_length_le (by rw [hv]; omega), List.nil_append]
theorem cs3_at {l : List Value} (h : ∀ u ∈ l, Is3 u) {k j : Nat} {v : Value} (hv : l[k]? = some v) (hj : j < 3) : (cs3 l)[k * 3 + j]? = (c3 v)[j]? := by
  have hk := (List.getElem?_eq_some_iff.1 hv).1
  have h3 : Is3 v := h v (List.mem_of_getElem? hv)
  have e1 : (cs3 (l.drop k))[j]? = (cs3 l)[k * 3 + j]? := by rw [cs3_drop h, List.getElem?_drop]
  rw [← e1, List.drop_eq_getElem_cons hk, cs3_cons, (List.getElem?_eq_some_iff.1 hv).2, List.getElem?_append_left (by rw [h3.len]; exact hj)]

/-- A slice of rows that can be read. -/
structure S3 (w : World) (a : Option Addr) (c : Nat) (xs : List Value) : Prop where
  rd : Rd w 3 a xs.length (cs3 xs)
  cap : xs.length ≤ c
  capm : c ≤ maxLen
  nil : a = none → c = 0
  form : ∀ d, a = some d → ∃ g o, d = ⟨g, o, none⟩
  one : ∀ u ∈ xs, Is3 u
theorem S3.below {w w' : World} {a : Option Addr} {c : Nat} {xs : List Value} (h : S3 w a c xs) (hb : Below w.heap.size w w') : S3 w' a c xs := ⟨h.rd.below hb, h.cap, h.capm, h.nil, h.form, h.one⟩
theorem S3.drew {w : World} {a : Option Addr} {c : Nat} {xs : List Value} (h : S3 w a c xs) : S3 w.drew a c xs := h.below (Below.refl _ _).drew
theorem S3.none (w : World) : S3 w none 0 [] := ⟨⟨rfl, fun hn => absurd hn (by simp)⟩, Nat.le_refl _, Nat.zero_le _, fun _ => rfl, fun d hd => (by cases hd), fun u hu => by simp at hu⟩
theorem S3.own {w : World} {B c : Nat} {e : TypeId} {a : Option Addr} {xs : List Value} (h : w.ownsRow B e 3 (.slice a xs.length c) xs.length (cs3 xs)) (h1 : ∀ u ∈ xs, Is3 u) : S3 w a c xs := by
  rcases t_form h with ⟨rfl, h0, rfl⟩ | ⟨g, rfl, _, hlt, h2, h3⟩
  · exact ⟨t_rd h, by omega, Nat.zero_le _, fun _ => rfl, fun d hd => (by cases hd), h1⟩
  · exact ⟨t_rd h, h2, h3, fun hn => (by cases hn), fun d hd => ⟨g, 0, by cases hd; rfl⟩, h1⟩
theorem S3.empty {w : World} {c : Nat} {xs : List Value} (h : S3 w Option.none c xs) : xs = [] ∧ c = 0 := by
  refine ⟨?_, h.nil rfl⟩
  cases xs with
  | nil => rfl
  | cons x l => obtain ⟨g, o, h1, _⟩ := h.rd.2 (by simp); cases h1
/-- Its head. -/
theorem S3.take {w : World} {a : Option Addr} {c : Nat} {xs : List Value} (h : S3 w a c xs) (i : Nat) : S3 w a c (xs.take i) := by
  refine ⟨⟨cs3_len (is3_take h.one i), fun hn => ?_⟩, by have := h.cap; simp; omega, h.capm, h.nil, h.form, is3_take h.one i⟩
  rw [List.length_take] at hn
  obtain ⟨g, o, e, hg, hc⟩ := h.rd.2 (by omega)
  refine ⟨g, o, e, hg, fun j u hj => hc j u ?_⟩
  rw [cs3_take h.one, List.getElem?_take] at hj
  split at hj
  · exact hj
  · cases hj
/-- Its tail, where it has room. -/
theorem S3.drop {w : World} {g o c : Nat} {xs : List Value} (h : S3 w (some ⟨g, o, Option.none⟩) c xs) {i : Nat} (hi : i ≤ xs.length) (b : Addr) (hb : i < xs.length → b = ⟨g, o + i * 3, Option.none⟩) (hbf : ∃ g o, b = ⟨g, o, Option.none⟩) : S3 w (some b) (c - i) (xs.drop i) := by
  refine ⟨⟨cs3_len (is3_drop h.one i), fun hn => ?_⟩, by have := h.cap; simp; omega, by have := h.capm; omega, fun hn => (by cases hn), fun d hd => (by cases hd; exact hbf), is3_drop h.one i⟩
  rw [List.length_drop] at hn
  obtain ⟨g', o', e, hg, hc⟩ := h.rd.2 (by omega)
  cases e
  refine ⟨g, o + i * 3, by rw [hb (by omega)], hg, fun j u hj => ?_⟩
  rw [cs3_drop h.one, List.getElem?_drop] at hj
  rw [Nat.add_assoc]
  exact hc _ u hj
/-- A new block of things. -/
theorem S3.new {w : World} {b : Nat} {T : TypeId} {fr : Nat × Nat} {xs : List Value} (h : w.heap[b]? = some (.cells (cs3 xs).toArray T fr)) (hm : xs.length ≤ maxLen) (h1 : ∀ u ∈ xs, Is3 u) : S3 w (some ⟨b, 0, Option.none⟩) xs.length xs := by
  refine ⟨⟨cs3_len h1, fun hn => ⟨b, 0, rfl, lt_of_heap h, fun j u hj => ?_⟩⟩, Nat.le_refl _, hm, fun hn => (by cases hn), fun d hd => ⟨b, 0, by cases hd; rfl⟩, h1⟩
  rw [Nat.zero_add, cell_at h]; simpa using hj
theorem S3.set {w : World} {a : Option Addr} {c p o : Nat} {u : Value} {xs : List Value} (h : S3 w a c xs) (hp : ∀ d, a = some d → d.block ≠ p) : S3 (w.setCell ⟨p, o, Option.none⟩ u) a c xs := by
  refine ⟨⟨h.rd.1, fun hn => ?_⟩, h.cap, h.capm, h.nil, h.form, h.one⟩
  obtain ⟨g, off, rfl, hlt, hc⟩ := h.rd.2 hn
  refine ⟨g, off, rfl, by rw [size_set]; exact hlt, fun j x hj => ?_⟩
  rw [World.cell?_of_block (w := w) (w' := w.setCell ⟨p, o, Option.none⟩ u) (a := ⟨g, off + j, Option.none⟩) (heap_set_other (hp ⟨g, off, Option.none⟩ rfl))]
  exact hc j x hj
theorem S3.setNil {w : World} {a : Option Addr} {c p TT : Nat} {u : Value} {xs : List Value} (h : S3 w a c xs) (hp : w.heap[p]? = some (.cells #[Value.pointer Option.none] TT (0, 0))) : S3 (w.setCell ⟨p, 0, Option.none⟩ u) a c xs := by
  refine ⟨⟨h.rd.1, fun hn => ?_⟩, h.cap, h.capm, h.nil, h.form, h.one⟩
  obtain ⟨g, off, rfl, hlt, hc⟩ := h.rd.2 hn
  have hln := cs3_len h.one
  have hg : g ≠ p := by
    rintro rfl
    have hpos : 0 < (cs3 xs).length := by omega
    have h0 := hc 0 _ (List.getElem?_eq_getElem hpos)
    rw [cell_at hp] at h0
    have h1 : off + 0 < 1 := by
      have := (Array.getElem?_eq_some_iff.1 h0).1
      simpa using this
    have h2 : off = 0 := by omega
    subst h2
    exact cs3_nilc h.one _ (List.getElem_mem hpos) (Option.some.inj h0).symm
  refine ⟨g, off, rfl, by rw [size_set]; exact hlt, fun j x hj => ?_⟩
  rw [World.cell?_of_block (w := w) (w' := w.setCell ⟨p, 0, Option.none⟩ u) (a := ⟨g, off + j, Option.none⟩) (heap_set_other hg)]
  exact hc j x hj
/-- Its k-th row, cell by cell. -/
theorem S3.at {w : World} {a : Option Addr} {c k : Nat} {xs : List Value} {v : Value} (h : S3 w a c xs) (hv : xs[k]? = some v) :
    ∃ (g o : Nat) (a' : Option Addr) (n' c' : Nat) (e : Int) (b : Bool), a = some ⟨g, o, Option.none⟩ ∧ g < w.heap.size ∧ v = row3 a' n' c' e b ∧ w.cell? ⟨g, o + k * 3, Option.none⟩ = some (.slice a' n' c') ∧ w.cell? ⟨g, o + k * 3 + 1, Option.none⟩ = some (.int .i64 e) ∧ w.cell? ⟨g, o + k * 3 + 2, Option.none⟩ = some (.bool b) := by
  have hk := (List.getElem?_eq_some_iff.1 hv).1
  obtain ⟨g, o, e, hg, hc⟩ := h.rd.2 (by omega)
  obtain ⟨a', n', c', en, b, hv3⟩ := h.one v (List.mem_of_getElem? hv)
  subst hv3
  have hh := fun (j : Nat) (u : Value) (hj : j < 3) (hu : (c3 (row3 a' n' c' en b))[j]? = some u) => hc (k * 3 + j) u ((cs3_at h.one hv hj).trans hu)
  have h0 := hh 0 _ (by omega) rfl
  have h1 := hh 1 _ (by omega) rfl
  have h2 := hh 2 _ (by omega) rfl
  exact ⟨g, o, a', n', c', en, b, e, hg, rfl, h0, by rw [Nat.add_assoc]; exact h1, by rw [Nat.add_assoc]; exact h2⟩

/-- The types of the blocks in which nodes keep their lists. -/
def okT (t : TypeId) : Prop := t = 71 ∨ t = 46
/-- A block of such a type. -/
def TyAt (w : World) (b : Nat) : Prop := ∃ cs t fr, w.heap[b]? = some (.cells cs t fr) ∧ okT t
theorem TyAt.below {w w' : World} {b : Nat} (h : TyAt w b) (hb : Below w.heap.size w w') : TyAt w' b := by
  obtain ⟨cs, t, fr, h1, h2⟩ := h
  exact ⟨cs, t, fr, (hb.block b (by
    rcases Nat.lt_or_ge b w.heap.size with hlt | hge
    · exact hlt
    · rw [Array.getElem?_eq_none hge] at h1; cases h1)).trans h1, h2⟩
theorem TyAt.set {w : World} {b p o : Nat} {u : Value} (h : TyAt w b) : TyAt (w.setCell ⟨p, o, Option.none⟩ u) b := by
  obtain ⟨cs, t, fr, h1, h2⟩ := h
  by_cases e : b = p
  · subst e
    exact ⟨_, t, fr, heap_set_at h1, h2⟩
  · exact ⟨cs, t, fr, (heap_set_other e).trans h1, h2⟩
theorem TyAt.own {w : World} {B n c s : Nat} {e : TypeId} {d : Addr} {xs : List Value} (h : w.ownsRow B e s (.slice (some d) n c) n xs) (he : okT e) : TyAt w d.block := by
  rcases h.2 with ⟨h1, _⟩ | ⟨g, cap, cur, h1, _, hg, _⟩
  · cases h1
  · simp only [Value.slice.injEq, Option.some.injEq] at h1
    obtain ⟨rfl, _⟩ := h1
    exact ⟨cur, e, (0, 0), hg, he⟩
theorem TyAt.grown {w w' : World} {b : Nat} {row : Option Nat} (h : TyAt w b) (hg : w.grownBy w' row) (hr : row ≠ some b) : TyAt w' b := by
  obtain ⟨cs, t, fr, h1, h2⟩ := h
  have hb : b < w.heap.size := by
    rcases Nat.lt_or_ge b w.heap.size with hlt | hge
    · exact hlt
    · rw [Array.getElem?_eq_none hge] at h1; cases h1
  exact ⟨cs, t, fr, (hg.block b hb (fun e => hr e.symm)).trans h1, h2⟩

theorem cs3_catP (ps : List PtM) : cs3 (catP ps) = ps.flatMap fun p => cs3 p.2.2 := by
  unfold catP
  induction ps with
  | nil => rfl
  | cons p ps ih => rw [List.flatMap_cons, List.flatMap_cons, cs3_app, ih]

end Go.Proofs.Ytkgakgceamafcaa

namespace Go.Proofs.Ytkgakgceamafcaa
open Go Go.RowKit
set_option linter.unusedVariables false

theorem info_r3 : (Try.prog.info? 71).map (fun i => (i.zero, i.size, i.bytes)) = some (some (.agg #[.slice none 0 0, .int .i64 0, .bool false]), 3, 40) := by kernel_rfl

set_option maxRecDepth 100000 in
theorem clone_row {w : World} {a : Option Addr} {c : Nat} {xs : List Value} (h : S3 w a c xs) (hl : xs.length ≤ 1000000) :
    Calls Try.prog 57 #[.slice a xs.length c] w fun e w' => ∃ a' c', e = .returned (.slice a' xs.length c') ∧ S3 w' a' c' xs ∧ (∀ d, a' = some d → w.heap.size ≤ d.block ∧ TyAt w' d.block) ∧ Below w.heap.size w w' := by
  obtain ⟨i0, hi0, hz0, hz1, hz2⟩ := info_parts info_r3
  have H := Lib.hid h
  rcases a with _ | d
  · obtain ⟨rfl, rfl⟩ := h.empty
    clear h
    have hq : ∀ w, (binOp .eql 65 (.slice none 0 0) (.slice none 0 0)).run Try.prog w = .ok (.bool true) w := fun w => Go.Lib.run_eql_slice_nil w _ _ _ _ _ _ _ Try.underlying65
    rw [List.length_nil]
    go_enter Try.func57, Try.ntmps57
    go_wp2_with fail
    go_ret
    exact ⟨none, 0, rfl, S3.none _, fun d hd => (by cases hd), Below.refl _ _⟩
  · obtain ⟨g, off, rfl⟩ := h.form d rfl
    have al := t_al w (Obj.cells #[] 71)
    have HE := Lib.hid (t_empty (B := w.heap.size) 3 (Nat.le_refl _) (heap_alloc_new w (Obj.cells #[] 71)))
    have HB := Lib.hid al
    have HL := Lib.hid hl
    obtain ⟨n, hn⟩ : ∃ n, xs.length = n := ⟨_, rfl⟩
    have HN := Lib.hid hn
    have hq : ∀ w, (binOp .eql 65 (.slice (some ⟨g, off, none⟩) n c) (.slice none 0 0)).run Try.prog w = .ok (.bool false) w := fun w => Go.Lib.run_eql_slice_nil w _ _ _ _ _ _ _ Try.underlying65
    rw [hn] at hl ⊢
    clear h al hn
    go_enter Try.func57, Try.ntmps57
    go_wp2_with (first
      | (at_builtin; refine wpList_append_own _ rfl (.tmp 5) (.tmp 6) 65 rfl w.heap.size 71 i0 (.agg #[.slice none 0 0, .int .i64 0, .bool false]) 3 40 Try.underlying65 hi0 hz0 hz1 hz2 rfl (by decide) (.slice (some ⟨w.heap.size, 0, none⟩) 0 0) 0 [] rfl HE.out ⟨g, off, none⟩ n c (cs3 xs) rfl ?c0 ?c1 (cs3_one H.out.one) ?c3 ?c4 ?c5 ?_)
      | fail)
    case c0 => rw [cs3_len H.out.one, HN.out]
    case c1 =>
      intro j u hj
      have hp := (List.getElem?_eq_some_iff.1 hj).1
      rw [cs3_len H.out.one] at hp
      obtain ⟨g', o', e', hg, hc⟩ := H.out.rd.2 (by omega)
      cases e'
      rw [Addr.add_lit]
      exact (HB.out.cell (p := ⟨g, off + j, none⟩) hg).trans (hc j u hj)
    case c3 => unfold maxLen; omega
    case c4 => omega
    case c5 => simp only [World.size_alloc]; omega
    intro v7 wB ho7 hg7 _
    have hbb := HB.out.grown hg7 (by simp only [World.size_alloc]; omega) (fun q hq => (HE.out.lt q hq).1)
    obtain ⟨a7, c7, rfl⟩ : ∃ a7 c7, v7 = .slice a7 n c7 := by
      rcases ho7.2 with ⟨h1, h2⟩ | ⟨g, cap, cur, h1, _⟩
      · exact ⟨none, 0, by rw [h1, h2]⟩
      · exact ⟨_, _, h1⟩
    have HO7 := Lib.hid ho7
    have HBB := Lib.hid hbb
    clear ho7 hg7 hbb
    go_wp2_with fail
    go_ret
    have hq7 := HO7.out
    rw [← HN.out] at hq7
    refine ⟨a7, c7, rfl, S3.own hq7 H.out.one, fun d hd => ?_, HBB.out⟩
    rcases t_form hq7 with ⟨h1, _⟩ | ⟨g7, h1, h2, _⟩
    · rw [h1] at hd; cases hd
    · rw [h1] at hd; cases hd; exact ⟨h2, by rw [h1] at hq7; exact TyAt.own hq7 (by unfold okT; simp)⟩

end Go.Proofs.Ytkgakgceamafcaa

namespace Go.Proofs.Ytkgakgceamafcaa
open Go Go.RowKit
set_option linter.unusedVariables false

theorem info_ni : (Try.prog.info? 46).map (fun i => (i.zero, i.size, i.bytes)) = some (some (.pointer none), 1, 8) := by kernel_rfl

set_option maxRecDepth 100000 in
theorem clone_ni {w : World} {a : Option Addr} {c : Nat} {xs : List Value} (h : Sl w a c xs) (hl : xs.length ≤ 1000000) :
    Calls Try.prog 67 #[.slice a xs.length c] w fun e w' => ∃ a' c', e = .returned (.slice a' xs.length c') ∧ Sl w' a' c' xs ∧ (∀ d, a' = some d → w.heap.size ≤ d.block ∧ TyAt w' d.block) ∧ Below w.heap.size w w' := by
  obtain ⟨i0, hi0, hz0, hz1, hz2⟩ := info_parts info_ni
  have H := Lib.hid h
  rcases a with _ | d
  · obtain ⟨rfl, rfl⟩ := h.empty
    clear h
    have hq : ∀ w, (binOp .eql 102 (.slice none 0 0) (.slice none 0 0)).run Try.prog w = .ok (.bool true) w := fun w => Go.Lib.run_eql_slice_nil w _ _ _ _ _ _ _ Try.underlying102
    rw [List.length_nil]
    go_enter Try.func67, Try.ntmps67
    go_wp2_with fail
    go_ret
    exact ⟨none, 0, rfl, Sl.none _, fun d hd => (by cases hd), Below.refl _ _⟩
  · obtain ⟨g, off, rfl⟩ := h.form d rfl
    have al := t_al w (Obj.cells #[] 46)
    have HE := Lib.hid (t_empty (B := w.heap.size) 1 (Nat.le_refl _) (heap_alloc_new w (Obj.cells #[] 46)))
    have HB := Lib.hid al
    have HL := Lib.hid hl
    obtain ⟨n, hn⟩ : ∃ n, xs.length = n := ⟨_, rfl⟩
    have HN := Lib.hid hn
    have hq : ∀ w, (binOp .eql 102 (.slice (some ⟨g, off, none⟩) n c) (.slice none 0 0)).run Try.prog w = .ok (.bool false) w := fun w => Go.Lib.run_eql_slice_nil w _ _ _ _ _ _ _ Try.underlying102
    rw [hn] at hl ⊢
    clear h al hn
    go_enter Try.func67, Try.ntmps67
    go_wp2_with (first
      | (at_builtin; refine wpList_append_own _ rfl (.tmp 5) (.tmp 6) 102 rfl w.heap.size 46 i0 (.pointer none) 1 8 Try.underlying102 hi0 hz0 hz1 hz2 rfl (by decide) (.slice (some ⟨w.heap.size, 0, none⟩) 0 0) 0 [] rfl HE.out ⟨g, off, none⟩ n c xs rfl ?c0 ?c1 H.out.one ?c3 ?c4 ?c5 ?_)
      | fail)
    case c0 => rw [HN.out, Nat.mul_one]
    case c1 =>
      intro j u hj
      have hp := (List.getElem?_eq_some_iff.1 hj).1
      obtain ⟨g', o', e', hg, hc⟩ := H.out.rd.2 (by omega)
      cases e'
      rw [Addr.add_lit]
      exact (HB.out.cell (p := ⟨g, off + j, none⟩) hg).trans (hc j u hj)
    case c3 => unfold maxLen; omega
    case c4 => omega
    case c5 => simp only [World.size_alloc]; omega
    intro v7 wB ho7 hg7 _
    have hbb := HB.out.grown hg7 (by simp only [World.size_alloc]; omega) (fun q hq => (HE.out.lt q hq).1)
    obtain ⟨a7, c7, rfl⟩ : ∃ a7 c7, v7 = .slice a7 n c7 := by
      rcases ho7.2 with ⟨h1, h2⟩ | ⟨g, cap, cur, h1, _⟩
      · exact ⟨none, 0, by rw [h1, h2]⟩
      · exact ⟨_, _, h1⟩
    have HO7 := Lib.hid ho7
    have HBB := Lib.hid hbb
    clear ho7 hg7 hbb
    go_wp2_with fail
    go_ret
    have hq7 := HO7.out
    rw [← HN.out] at hq7
    refine ⟨a7, c7, rfl, Sl.own hq7 H.out.one, fun d hd => ?_, HBB.out⟩
    rcases t_form hq7 with ⟨h1, _⟩ | ⟨g7, h1, h2, _⟩
    · rw [h1] at hd; cases hd
    · rw [h1] at hd; cases hd; exact ⟨h2, by rw [h1] at hq7; exact TyAt.own hq7 (by unfold okT; simp)⟩

end Go.Proofs.Ytkgakgceamafcaa
