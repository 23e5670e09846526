/-
  What a queue tells: waits, Len, Has, Top, Other, All, at this seat's numbers.
-/
import Derived.Test.YtmjlmciocockpaaLfE
import Derived.Lib.MinMax
namespace Go.Proofs.Ytmjlmciocockpaa
open Go Go.RowKit
set_option linter.unusedVariables false

/-- A queue in memory: its box at q; t tells the boxes of what waits. -/
def QIn (w : World) (q : Nat) (t : Option (Nat × Nat × Option Nat)) (R : List Int) : Prop :=
  match t with
  | none => w.heap[q]? = some (.cells #[.pointer none] 75 (0, 0)) ∧ R = []
  | some (p, m, g) => w.heap[q]? = some (.cells #[pbox p] 75 (0, 0)) ∧ Heap R R.length ∧ ∃ c D, Hw w p m g c D R
def inQ (q : Nat) (t : Option (Nat × Nat × Option Nat)) (b : Nat) : Prop := b = q ∨ ∃ p m g, t = some (p, m, g) ∧ (b = p ∨ b = m ∨ g = some b)
theorem QIn.lt {w : World} {q : Nat} {t : Option (Nat × Nat × Option Nat)} {R : List Int} (h : QIn w q t R) : ∀ b, inQ q t b → b < w.heap.size := by
  intro b hb
  rcases t with _ | ⟨p, m, g⟩
  · rcases hb with rfl | ⟨p, m, g, e, _⟩
    · exact lt_of_heap h.1
    · cases e
  · obtain ⟨h1, _, c, D, h2⟩ := h
    rcases hb with rfl | ⟨p', m', g', e, hb⟩
    · exact lt_of_heap h1
    · injection e with e; injection e with e1 e2; injection e2 with e2 e3
      subst e1; subst e2; subst e3
      rcases hb with rfl | rfl | hb
      · exact h2.lt.1
      · exact h2.lt.2.1
      · exact h2.lt.2.2 b hb
theorem QIn.same {w w' : World} {q : Nat} {t : Option (Nat × Nat × Option Nat)} {R : List Int} (h : QIn w q t R) (hb : ∀ b, inQ q t b → w'.heap[b]? = w.heap[b]?) : QIn w' q t R := by
  rcases t with _ | ⟨p, m, g⟩
  · exact ⟨(hb q (.inl rfl)).trans h.1, h.2⟩
  · obtain ⟨h1, h0, c, D, h2⟩ := h
    exact ⟨(hb q (.inl rfl)).trans h1, h0, c, D, h2.same (hb p (.inr ⟨p, m, g, rfl, .inl rfl⟩)) (hb m (.inr ⟨p, m, g, rfl, .inr (.inl rfl)⟩)) (fun b e => hb b (.inr ⟨p, m, g, rfl, .inr (.inr e)⟩))⟩
theorem QIn.below {w w' : World} {q : Nat} {t : Option (Nat × Nat × Option Nat)} {R : List Int} (h : QIn w q t R) (hb : Below w.heap.size w w') : QIn w' q t R := h.same (fun b hi => hb.block b (h.lt b hi))
theorem QIn.heap {w : World} {q : Nat} {t : Option (Nat × Nat × Option Nat)} {R : List Int} (h : QIn w q t R) : Heap R R.length ∧ R.Nodup ∧ ∀ x ∈ R, Wf x := by
  rcases t with _ | ⟨p, m, g⟩
  · rw [h.2]; exact ⟨fun k _ h => absurd h (by simp), List.nodup_nil, by simp⟩
  · obtain ⟨h1, h0, c, D, h2⟩ := h
    exact ⟨h0, h2.nd, h2.wf⟩
/-- A queue as a value: nil, or one in memory. -/
def Qv (w : World) (v : Value) (R : List Int) : Prop := (v = .pointer none ∧ R = []) ∨ ∃ q t, v = pbox q ∧ QIn w q t R
theorem Qv.below {w w' : World} {v : Value} {R : List Int} (h : Qv w v R) (hb : Below w.heap.size w w') : Qv w' v R := by
  rcases h with h | ⟨q, t, e, h⟩
  · exact .inl h
  · exact .inr ⟨q, t, e, h.below hb⟩

/-- What waits, as it is read. -/
structure Wt (w : World) (p : Nat) (R : List Int) : Prop where
  row : ∃ a c, w.cell? ⟨p, 0, none⟩ = some (.slice a R.length c) ∧ Sl w a c (nums R) ∧ ∀ d, a = some d → d.block < w.heap.size
  map : ∃ mm, w.cell? ⟨p, 1, none⟩ = some (.map mm) ∧ ((mm = none ∧ R = []) ∨ ∃ m n D, mm = some m ∧ Mp w m n D ∧ Ix D R)
theorem wt_none (w : World) : Wt (w.alloc (.cells #[.slice none 0 0, .map none] 72)) w.heap.size [] :=
  ⟨⟨none, 0, by rw [cell_at (heap_alloc_new _ _)]; rfl, Sl.none _, fun d e => by cases e⟩, ⟨none, by rw [cell_at (heap_alloc_new _ _)]; rfl, .inl ⟨rfl, rfl⟩⟩⟩
theorem Hw.wt {w : World} {p m : Nat} {g : Option Nat} {c : Nat} {D : DataW Unit} {R : List Int} (h : Hw w p m g c D R) : Wt w p R := by
  obtain ⟨c0, c1, _⟩ := h.cells
  refine ⟨⟨adr g, c, c0, ?_, fun d e => ?_⟩, ⟨some m, c1, .inr ⟨m, _, D, rfl, h.map, h.ix⟩⟩⟩
  · have := h.own
    rw [← nums_len R] at this
    exact Sl.own this (nums_one R)
  · have := h.lt.2.2
    cases g with
    | none => cases e
    | some b => cases e; exact this b rfl

theorem waits_none (w : World) : Calls Try.prog 32 #[.pointer none] w fun e w' => e = .returned (pbox w.heap.size) ∧ w' = w.alloc (.cells #[.slice none 0 0, .map none] 72) := by
  go_enter Try.func32, Try.ntmps32
  go_wp2_with fail
  go_ret
  exact ⟨rfl, rfl⟩
theorem waits_empty {w : World} {q : Nat} (h : w.heap[q]? = some (.cells #[.pointer none] 75 (0, 0))) : Calls Try.prog 32 #[pbox q] w fun e w' => e = .returned (pbox w.heap.size) ∧ w' = w.alloc (.cells #[.slice none 0 0, .map none] 72) := by
  have c0 : w.cell? ⟨q, 0, none⟩ = some (.pointer none) := by rw [cell_at h]; rfl
  go_enter Try.func32, Try.ntmps32
  go_wp2_with fail
  go_ret
  exact ⟨rfl, rfl⟩
theorem waits_some {w : World} {q p : Nat} (h : w.heap[q]? = some (.cells #[pbox p] 75 (0, 0))) : Calls Try.prog 32 #[pbox q] w fun e w' => e = .returned (pbox p) ∧ w' = w := by
  have c0 : w.cell? ⟨q, 0, none⟩ = some (pbox p) := by rw [cell_at h]; rfl
  go_enter Try.func32, Try.ntmps32
  go_wp2_with fail
  go_ret
  exact ⟨rfl, rfl⟩
theorem waits_of {w : World} {v : Value} {R : List Int} (h : Qv w v R) : Calls Try.prog 32 #[v] w fun e w' => ∃ p, e = .returned (pbox p) ∧ Wt w' p R ∧ Below w.heap.size w w' := by
  rcases h with ⟨rfl, rfl⟩ | ⟨q, t, rfl, h⟩
  · exact (waits_none w).mono (fun e w' ⟨h1, h2⟩ => ⟨_, h1, by rw [h2]; exact wt_none w, by rw [h2]; exact t_al _ _⟩)
  · rcases t with _ | ⟨p, m, g⟩
    · obtain ⟨h1, rfl⟩ := h
      exact (waits_empty h1).mono (fun e w' ⟨h1, h2⟩ => ⟨_, h1, by rw [h2]; exact wt_none w, by rw [h2]; exact t_al _ _⟩)
    · obtain ⟨h1, _, c, D, h2⟩ := h
      exact (waits_some h1).mono (fun e w' ⟨h3, h4⟩ => ⟨_, h3, by rw [h4]; exact h2.wt, by rw [h4]; exact Below.refl _ _⟩)
theorem Wt.look {w : World} {p : Nat} {R : List Int} (h : Wt w p R) {x : Int} (hx : Wf x) : ∃ mm c, w.cell? ⟨p, 1, none⟩ = some (.map mm) ∧ (Instr.lookup 70 (.map mm) (.int .i64 x) true).run Try.prog w = .ok (.tuple #[.int .i64 c, .bool (decide (x ∈ R))]) w ∧ ∀ k, k < R.length → gN R k = x → c = k := by
  obtain ⟨mm, h1, h2⟩ := h.map
  rcases h2 with ⟨rfl, rfl⟩ | ⟨m, n, D, rfl, hm, hi⟩
  · have := Maps.look_nil (t := 70) (w := w) true lawI Try.underlying70 (zeroI w) (keyI hx)
    exact ⟨none, 0, h1, by simpa using this, fun k hk => absurd hk (by simp)⟩
  · obtain ⟨v, ps, hrun, hv⟩ := World.ownsMap.look_ok (t := 70) hm lawI Try.underlying70 (zeroI w) (plI (x := 0) (by unfold Wf; decide)) (keyI hx)
    obtain ⟨c, rfl, hc, hwc⟩ := plainElem_int_inv Try.underlying3 hv
    refine ⟨some m, c, h1, by rw [hrun, hi.is], fun k hk e => ?_⟩
    have h3 := (hi.has k hk).2
    rw [e] at h3
    simp only [Prod.mk.injEq] at hc
    rw [h3] at hc
    have h4 := hc.1
    unfold dI at h4
    simp at h4
    exact h4.symm

theorem qlen_of {w : World} {v : Value} {R : List Int} (h : Qv w v R) : Calls Try.prog 91 #[v] w fun e w' => e = .returned (.int .i64 R.length) ∧ Below w.heap.size w w' := by
  have HW := Lib.hid (waits_of h)
  clear h
  go_enter Try.func91, Try.ntmps91
  go_wp2_with fail
  refine HW.out.mono ?_; rintro e w1 ⟨p, rfl, hw, hb⟩
  obtain ⟨⟨a, c, c0, _⟩, _⟩ := hw
  have HL : Hid (Calls Try.prog 93 #[pbox p] w1 fun e w' => e = .returned (.int .i64 R.length) ∧ w1 = w') := Lib.hid (by
    clear hb HW
    go_enter Try.func93, Try.ntmps93
    go_wp2_with fail
    go_ret
    exact ⟨rfl, rfl⟩)
  have HB := Lib.hid hb
  clear hb HW c0
  go_wp2_with fail
  refine HL.out.mono ?_; rintro e w2 ⟨rfl, rfl⟩
  go_wp2_with fail
  go_ret
  exact ⟨rfl, HB.out⟩
theorem has_of {w : World} {v : Value} {R : List Int} (h : Qv w v R) {x : Int} (hx : Wf x) : Calls Try.prog 34 #[v, .int .i64 x] w fun e w' => e = .returned (.bool (decide (x ∈ R))) ∧ Below w.heap.size w w' := by
  have HW := Lib.hid (waits_of h)
  clear h
  go_enter Try.func34, Try.ntmps34
  go_wp2_with fail
  refine HW.out.mono ?_; rintro e w1 ⟨p, rfl, hw, hb⟩
  obtain ⟨mm, c, c1, hl, _⟩ := hw.look hx
  have HB := Lib.hid hb
  obtain ⟨bb, hbb⟩ : ∃ bb, decide (x ∈ R) = bb := ⟨_, rfl⟩
  rw [hbb] at hl
  have HBB := Lib.hid hbb
  clear hb HW hw hx hbb
  go_wp2_with fail
  go_ret
  exact ⟨by rw [HBB.out]; rfl, HB.out⟩
theorem least_of {w : World} {a : Option Addr} {c : Nat} {l : List Int} (h : Sl w a c (nums l)) (hl : l.length ≤ 1000000) : Calls Try.prog 48 #[.slice a l.length c] w fun e w' => e = .returned (.tuple #[.int .i64 (Lib.minOf l), .bool (decide (0 < l.length))]) ∧ w' = w := by
  rcases Nat.eq_zero_or_pos l.length with h0 | h0
  · have hn : l = [] := List.eq_nil_of_length_eq_zero h0
    subst hn
    have e0 : Lib.minOf [] = 0 := rfl
    rw [e0]
    clear h hl h0
    go_enter Try.func48, Try.ntmps48
    go_wp2_with fail
    refine bodyPost_ret (v := .tuple #[.int .i64 0, .bool false]) (by simp [results, Try.results48, go_sem]) rfl ⟨rfl, rfl⟩
  · obtain ⟨g, o, rfl⟩ := h.numsome h0
    have HM := Try.slices_Min_int g o l.length c l w h0 (Nat.le_refl _) (by omega) (fun j hj => by
      have := (h.num (k := j) (x := l.getD j 0) (by rw [List.getD_eq_getElem?_getD, List.getElem?_eq_getElem hj]; rfl)).1
      exact this)
    rw [List.take_length] at HM
    have HM := Lib.hid HM
    generalize Lib.minOf l = x at *
    generalize l.length = n at *
    have d0 : (((n : Nat) : Int) == 0) = false := by rw [beq_eq_false_iff_ne]; omega
    have d1 : ¬ (n : Int) = 0 := by omega
    have d2 : decide (0 < n) = true := decide_eq_true h0
    rw [d2]
    clear h
    go_enter Try.func48, Try.ntmps48
    go_wp2_with fail
    refine HM.out.mono ?_; rintro e w1 ⟨rfl, rfl⟩
    go_wp2_with fail
    refine bodyPost_ret (v := .tuple #[.int .i64 x, .bool true]) (by simp [results, Try.results48, go_sem]) rfl ⟨rfl, rfl⟩
theorem top_of {w : World} {v : Value} {R : List Int} (h : Qv w v R) (hR : R.length ≤ 1000000) : Calls Try.prog 47 #[v] w fun e w' => e = .returned (.tuple #[.int .i64 (gN R 0), .bool (decide (0 < R.length))]) ∧ Below w.heap.size w w' := by
  have HW := Lib.hid (waits_of h)
  clear h
  go_enter Try.func47, Try.ntmps47
  go_wp2_with fail
  refine HW.out.mono ?_; rintro e w1 ⟨p, rfl, hw, hb⟩
  obtain ⟨⟨a, c, c0, hs, _⟩, _⟩ := hw
  have HB := Lib.hid hb
  clear hb HW
  have hcap := hs.cap
  rw [nums_len] at hcap
  rcases R with _ | ⟨x, R⟩
  · have HL := least_of (l := []) (w := w1) (a := a) (c := c) hs (by simp)
    have HL := Lib.hid HL
    have m0 : min (1 : Int) 0 = 0 := by decide
    clear hs
    have hz : (0 : Int) ≤ (c : Int) := by omega
    go_wp2_with fail
    refine HL.out.mono ?_; rintro e w2 ⟨rfl, rfl⟩
    go_wp2_with fail
    refine bodyPost_ret (v := .tuple #[.int .i64 0, .bool false]) (by simp [results, Try.results47, go_sem]; rfl) rfl ⟨rfl, HB.out⟩
  · have HL := least_of (l := [x]) (w := w1) (a := a) (c := c) (by have := hs.take 1; simpa [nums] using this) (by simp)
    have HL := Lib.hid HL
    have e1 : Lib.minOf [x] = x := by simp [Lib.minOf]
    rw [e1] at HL
    have D2 : Hid (decide (0 < (x :: R).length) = true) := Lib.hid (by simp)
    generalize hn : (x :: R).length = n at *
    have hn0 : 0 < n := by rw [← hn]; simp
    have m0 : min (1 : Int) (n : Int) = 1 := by omega
    have m1 : (1 : Int) ≤ (c : Int) := by omega
    clear hs hn
    go_wp2_with fail
    refine HL.out.mono ?_; rintro e w2 ⟨rfl, rfl⟩
    go_wp2_with fail
    refine bodyPost_ret (v := .tuple #[.int .i64 x, .bool true]) (by simp [results, Try.results47, go_sem]) rfl ⟨by simp [gN], HB.out⟩

/-- The least number that is not n, where numbers stand in a heap. -/
def otherH (R : List Int) (n : Int) : Int × Bool :=
  if 0 < R.length ∧ gN R 0 = n then (Lib.minOf ((R.take 3).drop 1), decide (0 < ((R.take 3).drop 1).length)) else (gN R 0, decide (0 < R.length))
set_option maxHeartbeats 4000000 in
theorem other_of {w : World} {v : Value} {R : List Int} (h : Qv w v R) (hR : R.length ≤ 1000000) (n : Int) : Calls Try.prog 36 #[v, .int .i64 n] w fun e w' => e = .returned (.tuple #[.int .i64 (otherH R n).1, .bool (otherH R n).2]) ∧ Below w.heap.size w w' := by
  have HT := Lib.hid (top_of h hR)
  have HQ := Lib.hid h
  clear h
  go_enter Try.func36, Try.ntmps36
  go_wp2_with fail
  refine HT.out.mono ?_; rintro e w1 ⟨rfl, hb⟩
  have HW := Lib.hid (waits_of (HQ.out.below hb))
  have HB := Lib.hid hb
  clear hb HT
  by_cases h0 : 0 < R.length
  · have d0 : decide (0 < R.length) = true := decide_eq_true h0
    rw [d0]
    obtain ⟨x, hx⟩ : ∃ x, gN R 0 = x := ⟨_, rfl⟩
    rw [hx]
    by_cases hn : x = n
    · have ho : otherH R n = (Lib.minOf ((R.take 3).drop 1), decide (0 < ((R.take 3).drop 1).length)) := by unfold otherH; rw [if_pos ⟨h0, by rw [hx, hn]⟩]
      have HO := Lib.hid ho
      subst hn
      have hxx : (x == x) = true := by simp
      have hnx : (x != x) = false := by simp
      clear ho hx d0
      go_wp2_with fail
      refine HW.out.mono ?_; rintro e w2 ⟨p, rfl, hw, hb2⟩
      obtain ⟨⟨a, c, c0, hs, _⟩, _⟩ := hw
      have HB2 := Lib.hid (HB.out.trans (hb2.mono HB.out.size))
      have hcap := hs.cap
      rw [nums_len] at hcap
      obtain ⟨g, o, rfl⟩ := hs.numsome h0
      obtain ⟨n3, hn3⟩ : ∃ n3, min 3 R.length = n3 := ⟨_, rfl⟩
      have h1 : 1 ≤ n3 := by omega
      have h2 : n3 ≤ c := by omega
      have m0 : min (3 : Int) (R.length : Int) = (n3 : Int) := by omega
      have e1 : (1 : Int) ≤ (n3 : Int) := by omega
      have e2 : (n3 : Int) ≤ (c : Int) := by omega
      have hlen : ((R.take 3).drop 1).length = n3 - 1 := by rw [List.length_drop, List.length_take, hn3]
      have hs3 := hs.take 3
      rw [nums_take] at hs3
      have hlt : (nums (R.take 3)).length = n3 := by rw [nums_len, List.length_take, hn3]
      have HLs : Hid (∀ b : Addr, (1 < n3 → b = ⟨g, o + 1, none⟩) → (∃ g o, b = ⟨g, o, none⟩) → Calls Try.prog 48 #[.slice (some b) (n3 - 1 : Nat) (c - 1 : Nat)] w2 fun e w' => e = .returned (.tuple #[.int .i64 (Lib.minOf ((R.take 3).drop 1)), .bool (decide (0 < n3 - 1))]) ∧ w' = w2) := Lib.hid (by
        intro b hb hf
        have hd := hs3.drop (i := 1) (by rw [hlt]; exact h1) b (fun h => hb (by rw [hlt] at h; exact h)) hf
        rw [nums_drop] at hd
        have := least_of hd (by omega)
        rw [hlen] at this
        exact this)
      rw [hlen] at HO
      generalize Lib.minOf ((R.take 3).drop 1) = mo at *
      generalize decide (0 < n3 - 1) = bo at *
      generalize hnR : R.length = n at *
      by_cases hc1 : c = 1
      · subst hc1
        have hn31 : n3 = 1 := by omega
        have hL := HLs.out ⟨g, o, none⟩ (by omega) ⟨g, o, rfl⟩
        rw [hn31] at hL
        rw [hn31] at m0
        have hL := Lib.hid (show Calls Try.prog 48 #[.slice (some ⟨g, o, none⟩) 0 0] w2 fun e w' => e = .returned (.tuple #[.int .i64 mo, .bool bo]) ∧ w' = w2 from hL)
        clear hs hs3 hlt hlen hn3 HLs hb2 HW HQ h0
        go_wp2_with fail
        refine hL.out.mono ?_; rintro e w3 ⟨rfl, rfl⟩
        go_wp2_with fail
        refine bodyPost_ret (v := .tuple #[.int .i64 mo, .bool bo]) (by simp [results, Try.results36, go_sem]) rfl ⟨by rw [HO.out], HB2.out⟩
      · have hL := Lib.hid (HLs.out ⟨g, o + 1, none⟩ (fun _ => rfl) ⟨g, o + 1, rfl⟩)
        have hc2 : ¬ (c = 1) := hc1
        have hc3 : 1 < c := by omega
        clear hs hs3 hlt hlen hn3 HLs hb2 HW HQ h0
        go_wp2_with fail
        refine hL.out.mono ?_; rintro e w3 ⟨rfl, rfl⟩
        go_wp2_with fail
        refine bodyPost_ret (v := .tuple #[.int .i64 mo, .bool bo]) (by simp [results, Try.results36, go_sem]) rfl ⟨by rw [HO.out], HB2.out⟩
    · have ho : otherH R n = (x, true) := by unfold otherH; rw [if_neg (fun h => hn (hx.symm.trans h.2)), hx, d0]
      have HO := Lib.hid ho
      have hxx : (x == n) = false := by rw [beq_eq_false_iff_ne]; exact hn
      have hnx : (x != n) = true := by simp [hn]
      clear ho hx d0 HW HQ h0
      go_wp2_with fail
      refine bodyPost_ret (v := .tuple #[.int .i64 x, .bool true]) (by simp [results, Try.results36, go_sem]) rfl ⟨by rw [HO.out], HB.out⟩
  · have d0 : decide (0 < R.length) = false := decide_eq_false h0
    rw [d0]
    have ho : otherH R n = (gN R 0, false) := by unfold otherH; rw [if_neg (fun h => h0 h.1), d0]
    have HO := Lib.hid ho
    generalize gN R 0 = x at *
    clear ho d0 HW HQ h0
    go_wp2_with fail
    refine bodyPost_ret (v := .tuple #[.int .i64 x, .bool false]) (by simp [results, Try.results36, go_sem]) rfl ⟨by rw [HO.out], HB.out⟩

end Go.Proofs.Ytmjlmciocockpaa
