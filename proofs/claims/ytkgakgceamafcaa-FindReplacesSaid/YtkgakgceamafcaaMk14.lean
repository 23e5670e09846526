/-
  Texts of this seat, put together (a claim holds few texts): WgG, WgH, WgI.
-/
import Derived.Test.YtkgakgceamafcaaMk13
import Derived.Sort.LoopGhostIn
import Derived.Maps.OwnIn

namespace Go.Proofs.Ytkgakgceamafcaa
open Go Go.RowKit
set_option linter.unusedVariables false

set_option maxRecDepth 100000 in
set_option maxHeartbeats 2000000 in
theorem kids_i {w w0 : World} {b f g o c h : Nat} {es : List Ent} (hw : Below w0.heap.size w0 w) (hb : b < w0.heap.size) (hg : g < w0.heap.size) (k0 : w0.cell? ⟨b, 0, none⟩ = some (.slice (some ⟨g, o, none⟩) es.length c)) (hl : es.length ≤ 1000000) (h0 : 0 < es.length) (hf : f + sumN es ≤ 2000000)
    (hk : ∀ k x, es[k]? = some x → w0.cell? ⟨g, o + k, none⟩ = some (ptr x.b) ∧ x.f = f + sumN (es.take k) ∧ w0.cell? ⟨x.b, 2, none⟩ = some (.int .i64 x.n) ∧ x.b < w0.heap.size) :
    Calls Try.prog 81 #[spotV b f] w fun e w' => ∃ g', e = .returned (.slice (some ⟨g', 0, none⟩) es.length es.length) ∧ w.heap.size ≤ g' ∧ w'.heap[g']? = some (.cells (spQ es).toArray 123 (0, 0)) ∧ Below w.heap.size w w' := by
  obtain ⟨i0, hi0, hz0, hz1, hz2⟩ := info_parts info_sp
  have hh := heap_alloc_new w (Obj.cells #[ptr b, .int .i64 (f : Int)] 123)
  have al := t_al w (Obj.cells #[ptr b, .int .i64 (f : Int)] 123)
  have hsz : (w.alloc (Obj.cells #[ptr b, .int .i64 (f : Int)] 123)).heap.size = w.heap.size + 1 := by simp
  obtain ⟨w1, hw1⟩ : ∃ w1, w.alloc (Obj.cells #[ptr b, .int .i64 (f : Int)] 123) = w1 := ⟨_, rfl⟩
  rw [hw1] at hh al hsz
  have c0 : w1.cell? ⟨w.heap.size, 0, none⟩ = some (ptr b) := (cell_at hh 0).trans rfl
  have c1 : w1.cell? ⟨w.heap.size, 1, none⟩ = some (.int .i64 (f : Int)) := (cell_at hh 1).trans rfl
  have hw01 := hw.trans (al.mono hw.size)
  have hws := hw.size
  have kb := (hw01.cell (p := ⟨b, 0, none⟩) hb).trans k0
  obtain ⟨m, hm⟩ : ∃ m, es.length = m := ⟨_, rfl⟩
  have HM := Lib.hid hm
  have HK := Lib.hid hk
  rw [hm] at kb hl h0 ⊢
  clear k0 hk hm
  go_enter Try.func81, Try.ntmps81
  simp only [spotV]
  go_wp2_with (at_make; refine wpList_make_full _ rfl _ _ 121 rfl w.heap.size 123 i0 (.agg #[.pointer none, .int .i64 0]) 2 Try.underlying121 hi0 hz0 hz1 .i64 .i64 _ _ m rfl rfl rfl rfl ?b2 ?b3 ?b4 ?_)
  case b2 => rw [hz2]; omega
  case b3 => unfold maxLen; omega
  case b4 => omega
  intro w3 hown hgrow
  rw [show (madeCells #[Value.pointer none, .int .i64 0] (m * 2)).toList = zeroS m from made_spots m] at hown
  obtain ⟨hg3, _⟩ := own_whole hown
  have hb3 := (Below.refl w1.heap.size w1).grown hgrow (Nat.le_refl _) (by simp)
  obtain ⟨G, hG⟩ : ∃ G, w.heap.size + 1 = G := ⟨_, rfl⟩
  have c0 := (hb3.cell (p := ⟨w.heap.size, 0, none⟩) (by show w.heap.size < _; omega)).trans c0
  have kb := (hb3.cell (p := ⟨b, 0, none⟩) (show b < w1.heap.size by omega)).trans kb
  have hbox := (hb3.block w.heap.size (by omega)).trans hh
  have hbw := al.trans (hb3.mono al.size)
  have HS := Lib.hid (And.intro hg3 (And.intro hbox hbw))
  rw [hG]
  rw [hG] at HS
  clear hown hgrow hg3 hb3 hbox hbw hh al hw1 hw01 c1
  go_wp2_with fail
  go_loopw [19] (fun v wr => ∃ k : Nat, v = .int .i64 k ∧ k ≤ m ∧ wr.heap[w.heap.size]? = some (.cells #[ptr b, .int .i64 ((f + sumN (es.take k) : Nat) : Int)] 123 (0, 0)) ∧ wr.heap[G]? = some (.cells (mkZ (es.take k) m) 123 (0, 0)) ∧ Below w.heap.size w wr) (fun v _ => m - (intOf v).toNat)
  case atStart => exact ⟨0, rfl, Nat.zero_le _, HS.out.2.1, HS.out.1, HS.out.2.2⟩
  case round =>
    obtain ⟨k, rfl, hkm, hx, hy, hbr⟩ := hrel
    have hw0r := hw.trans (hbr.mono hws)
    by_cases hlt : k < m
    · have d0 : decide (k < m) = true := decide_eq_true hlt
      obtain ⟨x, hxk⟩ : ∃ x, es[k]? = some x := ⟨_, List.getElem?_eq_getElem (by rw [HM.out]; exact hlt)⟩
      obtain ⟨e1, e2, e3, e4⟩ := HK.out k x hxk
      have q1 := (hw0r.cell (p := ⟨g, o + k, none⟩) hg).trans e1
      have q2 := (hw0r.cell (p := ⟨x.b, 2, none⟩) e4).trans e3
      have b0 : wr.cell? ⟨w.heap.size, 0, none⟩ = some (ptr b) := (cell_at hx 0).trans rfl
      have b1 : wr.cell? ⟨w.heap.size, 1, none⟩ = some (.int .i64 ((f + sumN (es.take k) : Nat) : Int)) := (cell_at hx 1).trans rfl
      have HX := Lib.hid (And.intro hx (And.intro hy hbr))
      have HT := Lib.hid (And.intro hxk e2)
      have hsum := sumN_succ hxk
      have hle := sumN_take es (k + 1)
      obtain ⟨s, hs⟩ : ∃ s : Nat, f + sumN (es.take k) = s := ⟨_, rfl⟩
      rw [hs] at b1 HX HT
      obtain ⟨xb, hxb⟩ : ∃ xb, x.b = xb := ⟨_, rfl⟩
      obtain ⟨xn, hxn⟩ : ∃ xn, x.n = xn := ⟨_, rfl⟩
      rw [hxn] at q2 hsum
      rw [hxb] at q1 q2 e4
      have hsx : s + xn ≤ 2000000 := by omega
      have zz1 := fun i => unfrozen hx i
      have zz2 := fun i => unfrozen hy i
      have hbl : xb ≠ w.heap.size := by omega
      have hkl : (es.take k).length = k := by rw [List.length_take, HM.out]; omega
      obtain ⟨p1, p2⟩ := mkZ_at (m := m) hkl hlt
      have g1 : wr.cell? ⟨G, k * 2, none⟩ = some (.pointer none) := by rw [cell_at hy]; exact p1
      have g2 : wr.cell? ⟨G, k * 2 + 1, none⟩ = some (.int .i64 0) := by rw [cell_at hy]; exact p2
      have hGb : G ≠ xb := by omega
      have hGg : G ≠ g := by omega
      have hGw : G ≠ w.heap.size := by omega
      have hGe : w.heap.size ≤ G := by omega
      have HSs := Lib.hid hs
      clear hx hy hbr hw0r hxk e1 e2 e3 hs p1 p2 hG
      go_wp2_with fail
      have h1 := heap_set_at (o := k * 2 + 1) (u := Value.int .i64 (s : Int)) (heap_set_at (o := k * 2) (u := ptr xb) HX.out.2.1)
      have h2 := mkZ_set hkl hlt x
      rw [hxb, HT.out.2] at h2
      rw [h2, take_snoc HT.out.1] at h1
      have h3 := (heap_set_other (w := wr.setCell ⟨G, k * 2, none⟩ (ptr xb)) (o := k * 2 + 1) (u := Value.int .i64 (s : Int)) (show w.heap.size ≠ G by omega)).trans ((heap_set_other (w := wr) (o := k * 2) (u := ptr xb) (show w.heap.size ≠ G by omega)).trans HX.out.1)
      have h4 := (HX.out.2.2.setCell (p := ⟨G, k * 2, none⟩) (show w.heap.size ≤ G by omega) (ptr xb)).setCell (p := ⟨G, k * 2 + 1, none⟩) (show w.heap.size ≤ G by omega) (Value.int .i64 (s : Int))
      have h5 : ((wr.setCell ⟨G, k * 2, none⟩ (ptr xb)).setCell ⟨G, k * 2 + 1, none⟩ (Value.int .i64 (s : Int))).cell? ⟨xb, 2, none⟩ = some (.int .i64 xn) := by
        rw [World.cell?_setCell_other (h := by intro e; injection e with e1 e2; exact hGb e1), World.cell?_setCell_other (h := by intro e; injection e with e1 e2; exact hGb e1)]; exact q2
      have e5 : ((s + xn : Nat) : Int) = (s : Int) + (xn : Int) := by omega
      obtain ⟨w4, hw4⟩ : ∃ w4, (wr.setCell ⟨G, k * 2, none⟩ (ptr xb)).setCell ⟨G, k * 2 + 1, none⟩ (Value.int .i64 (s : Int)) = w4 := ⟨_, rfl⟩
      rw [hw4] at h1 h3 h4 h5 ⊢
      have b0 : w4.cell? ⟨w.heap.size, 0, none⟩ = some (ptr b) := (cell_at h3 0).trans rfl
      have b1 : w4.cell? ⟨w.heap.size, 1, none⟩ = some (.int .i64 (s : Int)) := (cell_at h3 1).trans rfl
      have zz3 := fun i => unfrozen h3 i
      have H4 := Lib.hid (And.intro h1 (And.intro h3 h4))
      clear h1 h2 h3 h4 hw4 HX
      have e6 : f + sumN (es.take (k + 1)) = s + xn := by rw [sumN_succ HT.out.1, hxn]; have := HSs.out; omega
      have E6 := Lib.hid (And.intro e6 e5)
      clear e6 e5 hkl hsum hle hxb hxn hkm q2 g1 g2
      go_region
      all_goals
        go_wp2_with fail
        go_roundw
        case rel =>
          refine ⟨k + 1, by go_num, by omega, ?_, (heap_set_other (w := w4) (o := 1) (u := Value.int .i64 ((s : Int) + (xn : Int))) (show G ≠ w.heap.size by omega)).trans H4.out.1, (H4.out.2.2.setCell (p := ⟨w.heap.size, 1, none⟩) (Nat.le_refl _) _).drew⟩
          rw [E6.out.1, E6.out.2]
          exact heap_set_at (w := w4) (o := 1) (u := Value.int .i64 ((s : Int) + (xn : Int))) H4.out.2.1
        case measure => simp [intOf]; omega
    · have d0 : decide (k < m) = false := decide_eq_false hlt
      have hkm' : k = m := by omega
      subst hkm'
      rw [List.take_of_length_le (by rw [HM.out]; omega), mkZ_full HM.out] at hy
      have HY := Lib.hid (And.intro hy hbr)
      clear hx hy hbr hw0r
      go_wp2_with fail
      go_ret
      exact ⟨G, rfl, by omega, HY.out.1, HY.out.2⟩

end Go.Proofs.Ytkgakgceamafcaa

namespace Go.Proofs.Ytkgakgceamafcaa
open Go Go.RowKit
set_option linter.unusedVariables false

theorem spQ_set {es : List Ent} {k : Nat} (hk : k < es.length) (x : Ent) : ((spQ es).toArray.setIfInBounds (k * 2) (ptr x.b)).setIfInBounds (k * 2 + 1) (.int .i64 (x.f : Int)) = (spQ (es.set k x)).toArray := by
  have e : es = es.take k ++ es[k] :: es.drop (k + 1) := by rw [List.getElem_cons_drop, List.take_append_drop]
  have hl : (es.take k).length = k := by rw [List.length_take]; omega
  have hs : es.set k x = es.take k ++ x :: es.drop (k + 1) := by
    conv => lhs; rw [e]
    rw [List.set_append_right _ _ (by omega), hl, Nat.sub_self]; rfl
  have h1 : spQ es = spQ (es.take k) ++ ptr es[k].b :: Value.int .i64 (es[k].f : Int) :: spQ (es.drop (k + 1)) := by
    conv => lhs; rw [e]
    rw [spQ_app]; rfl
  rw [h1, set2_app (by rw [spQ_len, hl]), hs, spQ_app]
  rfl
/-- Half turned over. -/
def Half (es es' : List Ent) (k : Nat) : Prop := es'.length = es.length ∧ ∀ x, x < es.length → es'[x]? = if x < k ∨ es.length - k ≤ x then es[es.length - 1 - x]? else es[x]?
theorem Half.zero (es : List Ent) : Half es es 0 := ⟨rfl, fun x hx => by rw [if_neg (by omega)]⟩
theorem Half.done {es es' : List Ent} {k : Nat} (h : Half es es' k) (hk : es.length ≤ 2 * k + 1) : es' = es.reverse := by
  apply List.ext_getElem?
  intro x
  by_cases hx : x < es.length
  · rw [h.2 x hx, List.getElem?_reverse hx]
    by_cases hc : x < k ∨ es.length - k ≤ x
    · rw [if_pos hc]
    · rw [if_neg hc, show es.length - 1 - x = x by omega]
  · rw [List.getElem?_eq_none (by rw [h.1]; omega), List.getElem?_eq_none (by rw [List.length_reverse]; omega)]
theorem Half.step {es es' : List Ent} {k q : Nat} {u v : Ent} (h : Half es es' k) (hq : q = es.length - 1 - k) (hk : 2 * k + 1 < es.length) (hu : es'[k]? = some u) (hv : es'[q]? = some v) : Half es ((es'.set k v).set q u) (k + 1) := by
  subst hq
  refine ⟨by simp [h.1], fun x hx => ?_⟩
  have hkk := h.2 k (by omega)
  have hqq := h.2 (es.length - 1 - k) (by omega)
  rw [if_neg (by omega)] at hkk hqq
  by_cases h1 : x = es.length - 1 - k
  · rw [if_pos (by omega), h1, List.getElem?_set_self (by simp [h.1]; omega), ← hu, hkk, show es.length - 1 - (es.length - 1 - k) = k by omega]
  · rw [List.getElem?_set_ne (fun e => h1 e.symm)]
    by_cases h2 : x = k
    · rw [if_pos (by omega), h2, List.getElem?_set_self (by rw [h.1]; omega), ← hv, hqq]
    · rw [List.getElem?_set_ne (fun e => h2 e.symm), h.2 x hx]
      by_cases h3 : x < k ∨ es.length - k ≤ x
      · rw [if_pos h3, if_pos (by omega)]
      · rw [if_neg h3, if_neg (by omega)]
theorem Moves.set {D : Bls} {W W' : World} {g o : Nat} {u : Value} (h : Moves D W W') (hg : D g) : Moves D W (W'.setCell ⟨g, o, none⟩ u) :=
  ⟨h.os, h.tape, h.output, by rw [World.size_setCell]; exact h.size, fun k hk hd => (heap_set_other (fun e => hd (by rw [e]; exact hg))).trans (h.block k hk hd)⟩
theorem Moves.drew {D : Bls} {W W' : World} (h : Moves D W W') : Moves D W W'.drew := ⟨h.os, h.tape, h.output, h.size, h.block⟩
theorem Moves.refl (D : Bls) (W : World) : Moves D W W := Moves.below (Below.refl _ _)
theorem Moves.trans {D : Bls} {W W' W'' : World} (h : Moves D W W') (h' : Moves D W' W'') : Moves D W W'' :=
  ⟨h'.os.trans h.os, h'.tape.trans h.tape, h'.output.trans h.output, Nat.le_trans h.size h'.size, fun k hk hd => (h'.block k (Nat.lt_of_lt_of_le hk h.size) hd).trans (h.block k hk hd)⟩

set_option maxRecDepth 100000 in
set_option maxHeartbeats 4000000 in
theorem rev_i {w : World} {g m c : Nat} {es : List Ent} (hg : w.heap[g]? = some (.cells (spQ es).toArray 123 (0, 0))) (hm : es.length = m) (hl : m ≤ 1000000) :
    Calls Try.prog 59 #[.slice (some ⟨g, 0, none⟩) m c] w fun e w' => (∃ v, e = .returned v) ∧ w'.heap[g]? = some (.cells (spQ es.reverse).toArray 123 (0, 0)) ∧ Moves (fun k => k = g) w w' := by
  have HM := Lib.hid hm
  have HG := Lib.hid hg
  clear hm hg
  have hw0 : IntKind.i64.wrap ((m : Int) - 1) = (m : Int) - 1 := by rw [IntKind.wrap_i64]; omega
  go_enter Try.func59, Try.ntmps59
  go_wp2_with fail
  go_loopw [2, 3] (fun v2 v3 wr => ∃ (k : Nat) (es' : List Ent), v2 = .int .i64 k ∧ v3 = .int .i64 ((m : Int) - 1 - k) ∧ k ≤ m ∧ Half es es' k ∧ wr.heap[g]? = some (.cells (spQ es').toArray 123 (0, 0)) ∧ Moves (fun k => k = g) w wr) (fun v2 _ _ => m - (intOf v2).toNat)
  case atStart => exact ⟨0, es, rfl, by simp, Nat.zero_le _, Half.zero _, HG.out, Moves.refl _ _⟩
  case round =>
    obtain ⟨k, es', rfl, rfl, hkm, hh, hc, hmv⟩ := hrel
    have HH := Lib.hid (And.intro hh (And.intro hc hmv))
    by_cases hlt : 2 * k + 1 < m
    · have d0 : decide ((k : Int) < (m : Int) - 1 - (k : Int)) = true := decide_eq_true (by omega)
      obtain ⟨q, hq⟩ : ∃ q : Nat, (m : Int) - 1 - (k : Int) = q := ⟨m - 1 - k, by omega⟩
      have HQ := Lib.hid hq
      have hqm : q < m := by omega
      have hkq : k < q := by omega
      have hes : es'.length = m := by rw [hh.1, HM.out]
      obtain ⟨u, hu⟩ : ∃ u, es'[k]? = some u := ⟨_, List.getElem?_eq_getElem (by omega)⟩
      obtain ⟨v, hv⟩ : ∃ v, es'[q]? = some v := ⟨_, List.getElem?_eq_getElem (by omega)⟩
      obtain ⟨a1, a2⟩ := spQ_at hu
      obtain ⟨b1, b2⟩ := spQ_at hv
      have c1 : wr.cell? ⟨g, k * 2, none⟩ = some (ptr u.b) := by rw [cell_at hc]; simpa using a1
      have c2 : wr.cell? ⟨g, k * 2 + 1, none⟩ = some (.int .i64 u.f) := by rw [cell_at hc]; simpa using a2
      have c3 : wr.cell? ⟨g, q * 2, none⟩ = some (ptr v.b) := by rw [cell_at hc]; simpa using b1
      have c4 : wr.cell? ⟨g, q * 2 + 1, none⟩ = some (.int .i64 v.f) := by rw [cell_at hc]; simpa using b2
      have zz := fun i => unfrozen hc i
      have HU := Lib.hid (And.intro hu (And.intro hv hes))
      rw [hq] at d0 ⊢
      clear hh hc hmv hq a1 a2 b1 b2 hu hv hes
      have e0 : (0 : Int) ≤ (k : Int) := by omega
      have e1 : (k : Int) < (m : Int) := by omega
      have e2 : (0 : Int) ≤ (q : Int) := by omega
      have e3 : (q : Int) < (m : Int) := by omega
      go_wp2_with fail
      go_region
      all_goals
        have s1 := heap_set_at (o := k * 2 + 1) (u := Value.int .i64 (v.f : Int)) (heap_set_at (o := k * 2) (u := ptr v.b) HH.out.2.1)
        rw [spQ_set (by rw [HU.out.2.2]; omega) v] at s1
        have s2 := heap_set_at (o := q * 2 + 1) (u := Value.int .i64 (u.f : Int)) (heap_set_at (o := q * 2) (u := ptr u.b) s1)
        rw [spQ_set (by rw [List.length_set, HU.out.2.2]; omega) u] at s2
        have s3 := (((HH.out.2.2.set (o := k * 2) (u := ptr v.b) rfl).set (o := k * 2 + 1) (u := Value.int .i64 (v.f : Int)) rfl).set (o := q * 2) (u := ptr u.b) rfl).set (o := q * 2 + 1) (u := Value.int .i64 (u.f : Int)) rfl
        have s4 := HH.out.1.step (q := q) (by rw [HM.out]; have := HQ.out; omega) (by rw [HM.out]; exact hlt) HU.out.1 HU.out.2.1
        have S := Lib.hid (And.intro s2 (And.intro s3.drew s4))
        have e4 : (q : Int) - 1 = (m : Int) - 1 - ((k + 1 : Nat) : Int) := by have := HQ.out; omega
        have E4 := Lib.hid e4
        clear s1 s2 s3 s4 HH HU HG c1 c2 c3 c4 e4
        go_wp2_with fail
        go_roundw
        case rel => exact ⟨k + 1, _, by go_num, by rw [← E4.out], by omega, S.out.2.2, S.out.1, S.out.2.1⟩
        case measure => simp [intOf]; omega
    · have d0 : decide ((k : Int) < (m : Int) - 1 - (k : Int)) = false := decide_eq_false (by omega)
      have he := HH.out.1.done (by rw [HM.out]; omega)
      rw [he] at HH
      clear hh hc hmv he
      go_wp2_with fail
      go_end0
      exact ⟨⟨_, rfl⟩, HH.out.2.1, HH.out.2.2⟩

end Go.Proofs.Ytkgakgceamafcaa

namespace Go.Proofs.Ytkgakgceamafcaa
open Go Go.RowKit
set_option linter.unusedVariables false

/-- Which function piles kids. -/
def pkOf (d : Bool) : Nat :=
  if d then 59 else 0
/-- The ways that there are here. -/
def dirOk (d : Bool) : Prop :=
  d = true
theorem dirOk_t : dirOk true := rfl

theorem own_pop {w : World} {B c : Nat} {a : Option Addr} {T : TypeId} {rest : List Ent} {e : Ent} (h : w.ownsRow B T 2 (.slice a (rest.length + 1) c) (rest.length + 1) (spQ (rest ++ [e]))) :
    ∃ g, a = some ⟨g, 0, none⟩ ∧ B ≤ g ∧ g < w.heap.size ∧ rest.length + 1 ≤ c ∧ w.cell? ⟨g, rest.length * 2, none⟩ = some (ptr e.b) ∧ w.cell? ⟨g, rest.length * 2 + 1, none⟩ = some (.int .i64 (e.f : Int)) ∧ w.ownsRow B T 2 (.slice a rest.length c) rest.length (spQ rest) := by
  rcases t_form h with ⟨_, h0, _⟩ | ⟨g, rfl, hB, hlt, h1, h2⟩
  · omega
  · have hx : (rest ++ [e])[rest.length]? = some e := by rw [List.getElem?_append_right (Nat.le_refl _), Nat.sub_self]; rfl
    obtain ⟨p1, p2⟩ := spQ_at hx
    have c1 := h.cells (g := g) rfl _ _ p1
    have c2 := h.cells (g := g) rfl _ _ p2
    rw [Addr.add_lit, Nat.zero_add] at c1 c2
    refine ⟨g, rfl, hB, hlt, h1, c1, c2, spQ_len rest, .inr ?_⟩
    rcases h.2 with ⟨hn, _⟩ | ⟨g', cap, cur, e1, e2, e3, e4, e5, e6, e7⟩
    · cases hn
    · simp only [Value.slice.injEq, Option.some.injEq, Addr.mk.injEq] at e1
      obtain ⟨⟨rfl, _⟩, _, rfl⟩ := e1
      refine ⟨g, c, cur, rfl, e2, e3, by omega, e5, e6, ?_⟩
      have : cur.toList.take (rest.length * 2) = (cur.toList.take ((rest.length + 1) * 2)).take (rest.length * 2) := by rw [List.take_take]; congr 1; omega
      rw [this, e7, spQ_app, ← spQ_len rest, List.take_left]

theorem own_blk {W W' : World} {B s g n c : Nat} {e : TypeId} {xs : List Value} (h : W.ownsRow B e s (.slice (some ⟨g, 0, none⟩) n c) n xs) (hb : W'.heap[g]? = W.heap[g]?) : W'.ownsRow B e s (.slice (some ⟨g, 0, none⟩) n c) n xs := by
  refine ⟨h.1, ?_⟩
  rcases h.2 with hn | ⟨g', cap, cur, he, h1, h2, rest⟩
  · exact .inl hn
  · have : g' = g := by injection he with he; injection he with he; injection he with he; exact he.symm
    subst this
    exact .inr ⟨g', cap, cur, he, h1, hb.trans h2, rest⟩
/-- What leaves' loop keeps between two rounds. -/
def LvI (J : List Leaf → Bls → World → Prop) (w0 wC : World) (n₀ : Nat) (D0 : Bls) (d : Bool) (i j : Nat) (R : List Leaf) (gk : Nat) (s : Value) (wr : World) : Prop :=
  ∃ (pre : List Leaf) (D : Bls) (stk : List Ent) (a : Option Addr) (c : Nat), s = .slice a stk.length c ∧ gk = sumM stk ∧ gk ≤ 1000000 ∧ J pre D wr ∧ Have D wr ∧ (∀ k, D0 k → D k) ∧ Same D0 wC wr ∧ Below n₀ wC wr ∧ wC.heap.size ≤ wr.heap.size ∧
    wr.ownsRow wC.heap.size 123 2 (.slice a stk.length c) stk.length (spQ stk) ∧ (∀ q, a = some q → D q.block) ∧ (∀ e ∈ stk, (∃ h, Node w0 118 h e) ∧ e.f + e.n ≤ 1000000) ∧ R = pre ++ remL d i j stk

theorem node_num {w : World} {T : TypeId} {h : Nat} {e : Ent} (H : Node w T h e) : w.cell? ⟨e.b, 2, none⟩ = some (.int .i64 (e.n : Int)) ∧ e.b < w.heap.size := by
  cases h with
  | zero =>
    obtain ⟨t, h1, h2, h3, _⟩ := H
    have := h1.num
    have e0 : (flatL 0 t).length = t.length := by rw [flatL_zero]
    rw [e0] at this
    rw [h3]
    exact ⟨this, h1.lt⟩
  | succ h =>
    obtain ⟨g, o, c, es, _, _, _, h1, _, _, h2, _⟩ := H
    exact ⟨h2, h1⟩
/-- Nothing of the stretch lies below it. -/
theorem skip_ok {w : World} {T : TypeId} {h i j : Nat} {e : Ent} (H : Node w T h e) (d : Bool) (hs : j ≤ e.f ∨ e.f + e.n ≤ i) : dirL d (e.ls.filter (inR i j)) = [] := by
  obtain ⟨h1, h2, _⟩ := node_run H
  rw [run_out h1 (by rw [h2]; exact hs)]
  exact dirL_nil d
/-- A leaf that has something of it. -/
theorem leaf_ok {i j : Nat} {e : Ent} {t : List Value} (hn : e.n = t.length) (hls : e.ls = [(e.b, e.f, t)]) (d : Bool) (h1 : e.f < j) (h2 : i < e.f + e.n) : dirL d (e.ls.filter (inR i j)) = [(e.b, e.f, t)] := by
  rw [hls]
  have : inR i j (e.b, e.f, t) = true := by
    unfold inR
    rw [decide_eq_true (show e.f < j from h1), decide_eq_true (show i < e.f + t.length by omega)]; rfl
  rw [List.filter_cons, this]
  exact dirL_one d _
theorem len_le_sumM {w : World} {T : TypeId} : ∀ {stk : List Ent}, (∀ e ∈ stk, ∃ h, Node w T h e) → stk.length ≤ sumM stk
  | [], _ => Nat.zero_le _
  | e :: stk, h => by
    obtain ⟨h', hn⟩ := h e (List.mem_cons_self ..)
    have := (node_run hn).2.2.2
    have := len_le_sumM (stk := stk) (fun x hx => h x (List.mem_cons_of_mem _ hx))
    show stk.length + 1 ≤ (e.m :: stk.map (·.m)).sum
    rw [List.sum_cons]
    unfold sumM at this
    omega

/-- Kids, in the order in which they are piled. -/
theorem pile_mem {d : Bool} {es : List Ent} {x : Ent} (h : x ∈ pile d es) : x ∈ es := by
  unfold pile dirL at h
  cases d <;> simpa using h
theorem pile_len (d : Bool) (es : List Ent) : (pile d es).length = es.length := dirL_len _ _
theorem pile_sumM (d : Bool) (es : List Ent) : sumM (pile d es) = sumM es := by
  unfold pile dirL
  cases d
  · rfl
  · exact sumM_rev es
/-- Behind an append: where the stack lies. -/
theorem lies_q {w : World} {B g n c : Nat} {T : TypeId} {v' : Value} {xs : List Value} (h : w.ownsRow B T 2 v' n xs) (hn : 0 < n) {H : Nat} (hat : v'.ownBlock = (Value.slice (some ⟨g, 0, none⟩) n c).ownBlock ∨ v'.ownBlock = some H) : ∃ g' c', v' = .slice (some ⟨g', 0, none⟩) n c' ∧ (g' = g ∨ g' = H) ∧ g' < w.heap.size := by
  obtain ⟨g', c', rfl, _, hlt⟩ := h.form hn
  refine ⟨g', c', rfl, ?_, hlt⟩
  simp only [Value.ownBlock, Option.some.injEq] at hat
  exact hat

/-- Whichever pile. -/
theorem pile_i (d : Bool) (hdk : dirOk d) {w : World} {g m c : Nat} {es : List Ent} (hg : w.heap[g]? = some (.cells (spQ es).toArray 123 (0, 0))) (hm : es.length = m) (hl : m ≤ 1000000) :
    Calls Try.prog (pkOf d) #[.slice (some ⟨g, 0, none⟩) m c] w fun e w' => (∃ v, e = .returned v) ∧ w'.heap[g]? = some (.cells (spQ (pile d es)).toArray 123 (0, 0)) ∧ Moves (fun k => k = g) w w' := by
  cases d
  · cases hdk
  · exact rev_i hg hm hl

end Go.Proofs.Ytkgakgceamafcaa
