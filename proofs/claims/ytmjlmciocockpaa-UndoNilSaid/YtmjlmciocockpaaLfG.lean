/-
  What turns a queue: Put, Drop, Pop, New, at this seat's numbers.
-/
import Derived.Test.YtmjlmciocockpaaLfF
namespace Go.Proofs.Ytmjlmciocockpaa
open Go Go.RowKit
set_option linter.unusedVariables false

abbrev Qt := Option (Nat × Nat × Option Nat)
/-- What calls leave that turn one queue alone. -/
structure Mq (q : Nat) (t t' : Qt) (w w' : World) : Prop where
  low : Below 0 w w'
  rest : ∀ b, b < w.heap.size → ¬ inQ q t b → w'.heap[b]? = w.heap[b]?
  new : ∀ b, inQ q t' b → inQ q t b ∨ w.heap.size ≤ b
theorem Mq.of_below {q : Nat} {t : Qt} {w w' : World} (h : Below w.heap.size w w') : Mq q t t w w' := ⟨h.mono (Nat.zero_le _), fun b hb _ => h.block b hb, fun b hb => .inl hb⟩
theorem Mq.trans {q : Nat} {t t1 t2 : Qt} {a b c : World} (h : Mq q t t1 a b) (k : Mq q t1 t2 b c) : Mq q t t2 a c := by
  refine ⟨h.low.trans k.low, fun i hi hn => ?_, fun i hi => ?_⟩
  · rw [← h.rest i hi hn]
    refine k.rest i (Nat.lt_of_lt_of_le hi h.low.size) (fun e => ?_)
    rcases h.new i e with e' | e'
    · exact hn e'
    · omega
  · rcases k.new i hi with e | e
    · exact h.new i e
    · exact .inr (Nat.le_trans h.low.size e)
theorem Mq.below {q B : Nat} {t t' : Qt} {w w' : World} (h : Mq q t t' w w') (hB : ∀ b, inQ q t b → B ≤ b) (hs : B ≤ w.heap.size) : Below B w w' :=
  ⟨h.low.os, h.low.tape, h.low.output, h.low.size, fun k hk => h.rest k (by omega) (fun e => by have := hB k e; omega)⟩
theorem Mq.base {q B : Nat} {t t' : Qt} {w w' : World} (h : Mq q t t' w w') (hB : ∀ b, inQ q t b → B ≤ b) (hs : B ≤ w.heap.size) : ∀ b, inQ q t' b → B ≤ b := fun b hb => by
  rcases h.new b hb with e | e
  · exact hB b e
  · omega
theorem Mq.of_hs {q p m : Nat} {g g' : Option Nat} {w w' : World} (h : Mv p m g g' w w') : Mq q (some (p, m, g)) (some (p, m, g')) w w' := by
  refine ⟨h.low, fun b hb hn => h.rest b hb (fun e => hn (.inr ⟨p, m, g, rfl, .inl e⟩)) (fun e => hn (.inr ⟨p, m, g, rfl, .inr (.inl e)⟩)) (fun e => hn (.inr ⟨p, m, g, rfl, .inr (.inr e)⟩)), fun b hb => ?_⟩
  rcases hb with rfl | ⟨p', m', g1, e, hb⟩
  · exact .inl (.inl rfl)
  · injection e with e; injection e with e1 e2; injection e2 with e2 e3
    subst e1; subst e2; subst e3
    rcases hb with rfl | rfl | hb
    · exact .inl (.inr ⟨_, _, _, rfl, .inl rfl⟩)
    · exact .inl (.inr ⟨_, _, _, rfl, .inr (.inl rfl)⟩)
    · rcases h.new b hb with e | e
      · exact .inl (.inr ⟨_, _, _, rfl, .inr (.inr e)⟩)
      · exact .inr e
theorem Hw.fresh {w : World} {p m : Nat} (h1 : w.heap[p]? = some (.cells #[.slice none 0 0, .map (some m)] 72 (0, 0))) (h2 : w.heap[m]? = some (.map #[] 0)) : Hw w p m none 0 (.map []) [] := by
  refine ⟨h1, t_nil _ _ _ _, ?_, Ix.nil, List.nodup_nil, by simp⟩
  obtain ⟨es, clock, hb, F, hs, hD⟩ := World.ownsMap_made (H := Unit) w Try.prog 3 (plainElem Try.prog 3)
  have e : (w.alloc (.map #[] 0)).heap[w.heap.size]? = some (.map #[] 0) := heap_alloc_new _ _
  rw [e] at hb
  injection hb with hb
  injection hb with e1 e2
  subst e1; subst e2
  exact ⟨#[], 0, h2, F, hs, hD⟩
theorem QIn.ne {w : World} {q p m : Nat} {g : Option Nat} {R : List Int} (h : QIn w q (some (p, m, g)) R) : q ≠ p ∧ q ≠ m ∧ g ≠ some q := by
  obtain ⟨h1, _, c, D, h2⟩ := h
  refine ⟨fun e => ?_, fun e => ?_, fun e => ?_⟩
  · have := h2.box; rw [← e, h1] at this; simp at this
  · obtain ⟨es, clock, hb⟩ := h2.map.obj; rw [← e, h1] at hb; cases hb
  · exact own_ne h2.own h1 (by decide) (by rw [adr_own]; exact e)
/-- What a heap's call left, as a queue. -/
theorem QIn.of_hs {w w' : World} {q p m : Nat} {g : Option Nat} {R R' : List Int} (h : QIn w q (some (p, m, g)) R) (hs : Hs w w' p m g R') (hh : Heap R' R'.length) : ∃ t', QIn w' q t' R' ∧ Mq q (some (p, m, g)) t' w w' := by
  obtain ⟨n1, n2, n3⟩ := h.ne
  obtain ⟨g', c', D', h1, h2⟩ := hs
  refine ⟨some (p, m, g'), ⟨(h2.rest q (h.lt q (.inl rfl)) n1 n2 n3).trans h.1, hh, c', D', h1⟩, Mq.of_hs h2⟩

set_option maxHeartbeats 4000000 in
theorem put_nil {w : World} (x : Int) : Calls Try.prog 25 #[.pointer none, .int .i64 x] w fun e w' => e = .returned (.bool false) ∧ w' = w := by
  go_enter Try.func25, Try.ntmps25
  go_wp2_with fail
  go_ret
  exact ⟨rfl, rfl⟩
set_option maxRecDepth 100000 in
set_option maxHeartbeats 8000000 in
theorem put_of {w : World} {q : Nat} {t : Qt} {R : List Int} (h : QIn w q t R) (hR : R.length < 1000000) {x : Int} (wx : Wf x) :
    Calls Try.prog 25 #[pbox q, .int .i64 x] w fun e w' => e = .returned (.bool (!decide (x ∈ R))) ∧ ∃ t' R', QIn w' q t' R' ∧ R'.Perm (if x ∈ R then R else x :: R) ∧ Mq q t t' w w' := by
  have HH := Lib.hid (has_of (v := pbox q) (.inr ⟨q, t, rfl, h⟩) wx)
  have HQ := Lib.hid h
  by_cases hx : x ∈ R
  · have d0 : decide (x ∈ R) = true := decide_eq_true hx
    rw [d0] at HH ⊢
    have e1 : (if x ∈ R then R else x :: R) = R := if_pos hx
    rw [e1]
    clear h d0 e1 hx
    go_enter Try.func25, Try.ntmps25
    go_wp2_with fail
    refine HH.out.mono ?_; rintro e w1 ⟨rfl, hb⟩
    have HB := Lib.hid hb
    clear hb HH
    go_wp2_with fail
    go_ret
    exact ⟨rfl, t, R, HQ.out.below HB.out, List.Perm.refl _, Mq.of_below HB.out⟩
  · have d0 : decide (x ∈ R) = false := decide_eq_false hx
    rw [d0] at HH ⊢
    have e1 : (if x ∈ R then R else x :: R) = x :: R := if_neg hx
    rw [e1]
    -- behind Has, and behind a fresh map: the call of heap.Push
    have HPU : Hid (∀ (w2 : World) (p m : Nat) (g : Option Nat), QIn w2 q (some (p, m, g)) R → Calls Try.prog 35 #[.iface 68 (.pointer (some ⟨p, 0, none⟩)), .iface 3 (.int .i64 x)] w2 fun e w' => e = .returned (.tuple #[]) ∧ ∃ t' R', QIn w' q t' R' ∧ R'.Perm (x :: R) ∧ Mq q (some (p, m, g)) t' w2 w') := Lib.hid (by
      intro w2 p m g h2
      obtain ⟨_, hh, c, D, hw⟩ := id h2
      refine (hpush_of hw hR hh wx hx).mono ?_
      rintro e w' ⟨rfl, R', hp, hh', hs⟩
      rw [show R.length + 1 = R'.length by rw [hp.length_eq]; rfl] at hh'
      obtain ⟨t', h3, h4⟩ := h2.of_hs hs hh'
      exact ⟨rfl, t', R', h3, hp, h4⟩)
    clear d0 e1 hx
    rcases t with _ | ⟨p, m, g⟩
    · obtain ⟨hq, rfl⟩ := h
      have hmm := @run_makeMap Try.prog
      go_enter Try.func25, Try.ntmps25
      go_wp2_with fail
      refine HH.out.mono ?_; rintro e w1 ⟨rfl, hb⟩
      have hq1 := (hb.block q (lt_of_heap hq)).trans hq
      have c0 : w1.cell? ⟨q, 0, none⟩ = some (.pointer none) := by rw [cell_at hq1]; rfl
      have f0 := unfrozen hq1 0
      obtain ⟨wa, hwa, hba, hsa, hm1, hp1⟩ : ∃ wa, ((w1.alloc (.map #[] 0)).alloc (.cells #[.slice none 0 0, .map (some w1.heap.size)] 72)) = wa ∧ Below w1.heap.size w1 wa ∧ wa.heap.size = w1.heap.size + 2 ∧ wa.heap[w1.heap.size]? = some (.map #[] 0) ∧ wa.heap[w1.heap.size + 1]? = some (.cells #[.slice none 0 0, .map (some w1.heap.size)] 72 (0, 0)) := by
        refine ⟨_, rfl, ((Below.refl _ w1).alloc (Nat.le_refl _) _).alloc (by simp) _, by simp, heap_mid _ _ _, ?_⟩
        rw [show w1.heap.size + 1 = (w1.alloc (.map #[] 0)).heap.size by simp]
        exact heap_alloc_new _ _
      have hlq := lt_of_heap hq1
      have hqa := (hba.block q hlq).trans hq1
      have ca : wa.cell? ⟨q, 0, none⟩ = some (.pointer none) := by rw [cell_at hqa]; rfl
      have fa := unfrozen hqa 0
      have h2 : QIn (wa.setCell ⟨q, 0, none⟩ (pbox (w1.heap.size + 1))) q (some (w1.heap.size + 1, w1.heap.size, none)) [] :=
        ⟨by rw [heap_set_at hqa]; rfl, fun k _ h => absurd h (by simp), 0, _, Hw.fresh (by rw [heap_set_other (by omega)]; exact hp1) (by rw [heap_set_other (by omega)]; exact hm1)⟩
      have cb : (wa.setCell ⟨q, 0, none⟩ (pbox (w1.heap.size + 1))).cell? ⟨q, 0, none⟩ = some (pbox (w1.heap.size + 1)) := by rw [cell_at h2.1]; rfl
      have HP := Lib.hid (HPU.out _ _ _ _ h2)
      have HM : Hid (Mq q none (some (w1.heap.size + 1, w1.heap.size, none)) w (wa.setCell ⟨q, 0, none⟩ (pbox (w1.heap.size + 1)))) := Lib.hid (by
        refine ⟨((hb.trans (hba.mono hb.size)).mono (Nat.zero_le _)).setCell (p := ⟨q, 0, none⟩) (Nat.zero_le _) _, fun b hbl hn => ?_, fun b hi => ?_⟩
        · rw [heap_set_other (fun e => hn (.inl e)), hba.block b (Nat.lt_of_lt_of_le hbl hb.size), hb.block b hbl]
        · have hz := hb.size
          rcases hi with rfl | ⟨p', m', g', e, hi⟩
          · exact .inl (.inl rfl)
          · injection e with e; injection e with e1 e2; injection e2 with e2 e3
            subst e1; subst e2; subst e3
            rcases hi with rfl | rfl | hi
            · exact .inr (by omega)
            · exact .inr hz
            · cases hi)
      clear h2 hqa hq1 hq hlq hm1 hp1 hsa hba hb HH HPU HQ
      go_wp2_with fail
      refine HP.out.mono ?_; rintro e w3 ⟨rfl, t', R', h3, h4, h5⟩
      have HF := Lib.hid (And.intro h3 (And.intro h4 (HM.out.trans h5)))
      clear h3 h4 h5 HP
      go_wp2_with fail
      go_ret
      exact ⟨rfl, t', R', HF.out⟩
    · clear h
      go_enter Try.func25, Try.ntmps25
      go_wp2_with fail
      refine HH.out.mono ?_; rintro e w1 ⟨rfl, hb⟩
      have h2 := HQ.out.below hb
      have c0 : w1.cell? ⟨q, 0, none⟩ = some (pbox p) := by rw [cell_at h2.1]; rfl
      have HP := Lib.hid (HPU.out _ _ _ _ h2)
      have HB := Lib.hid hb
      clear h2 hb HH HPU
      go_wp2_with fail
      refine HP.out.mono ?_; rintro e w3 ⟨rfl, t', R', h3, h4, h5⟩
      have HF := Lib.hid (And.intro h3 (And.intro h4 ((Mq.of_below HB.out).trans h5)))
      clear h3 h4 h5 HP
      go_wp2_with fail
      go_ret
      exact ⟨rfl, t', R', HF.out⟩

set_option maxHeartbeats 4000000 in
/-- A number that does not wait. -/
theorem drop_not {w : World} {v : Value} {R : List Int} (h : Qv w v R) {x : Int} (wx : Wf x) (hx : x ∉ R) :
    Calls Try.prog 24 #[v, .int .i64 x] w fun e w' => e = .returned (.bool false) ∧ Below w.heap.size w w' := by
  have HW := Lib.hid (waits_of h)
  clear h
  go_enter Try.func24, Try.ntmps24
  go_wp2_with fail
  refine HW.out.mono ?_; rintro e w1 ⟨p, rfl, hw, hb⟩
  obtain ⟨mm, c, c1, hl, _⟩ := hw.look wx
  rw [decide_eq_false hx] at hl
  have HB := Lib.hid hb
  clear hb HW hw hx wx
  go_wp2_with fail
  go_ret
  exact ⟨rfl, HB.out⟩
set_option maxRecDepth 100000 in
set_option maxHeartbeats 8000000 in
/-- A number that waits. -/
theorem drop_yes {w : World} {q : Nat} {t : Qt} {R : List Int} (h : QIn w q t R) (hR : R.length ≤ 1000000) {x : Int} (hx : x ∈ R) :
    Calls Try.prog 24 #[pbox q, .int .i64 x] w fun e w' => e = .returned (.bool true) ∧ ∃ t' R', QIn w' q t' R' ∧ (x :: R').Perm R ∧ Mq q t t' w w' := by
  have wx := h.heap.2.2 x hx
  rcases t with _ | ⟨p, m, g⟩
  · rw [h.2] at hx; cases hx
  · have HW := Lib.hid (waits_some h.1)
    obtain ⟨_, hh, c, D, hw⟩ := id h
    obtain ⟨mm, cc, c1, hl, hk⟩ := hw.wt.look wx
    rw [decide_eq_true hx] at hl
    obtain ⟨k, hkl, hkx⟩ := mem_gN hx
    obtain rfl := hk k hkl hkx
    have HP : Hid (Calls Try.prog 33 #[.iface 68 (.pointer (some ⟨p, 0, none⟩)), .int .i64 k] w fun e w' => (∃ v, e = .returned v) ∧ ∃ t' R', QIn w' q t' R' ∧ (x :: R').Perm R ∧ Mq q (some (p, m, g)) t' w w') := Lib.hid (by
      refine (hrem_of hw hR hh k hkl).mono ?_
      rintro e w' ⟨he, R', hp, hh', hs⟩
      obtain ⟨t', h3, h4⟩ := h.of_hs hs hh'
      rw [hkx] at hp
      exact ⟨he, t', R', h3, hp, h4⟩)
    clear h hw hh hx hk hkl hkx wx
    go_enter Try.func24, Try.ntmps24
    go_wp2_with fail
    refine HW.out.mono ?_; rintro e w1 ⟨rfl, rfl⟩
    go_wp2_with fail
    refine HP.out.mono ?_; rintro e w2 ⟨⟨v, rfl⟩, t', R', h3, h4, h5⟩
    have HF := Lib.hid (And.intro h3 (And.intro h4 h5))
    clear h3 h4 h5 HP HW
    go_wp2_with fail
    go_ret
    exact ⟨rfl, t', R', HF.out⟩
end Go.Proofs.Ytmjlmciocockpaa
