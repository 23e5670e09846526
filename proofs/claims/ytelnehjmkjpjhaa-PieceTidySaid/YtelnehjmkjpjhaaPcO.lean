/-
  Texts of few spans, and the walk of the statement PieceBack; at this seat's numbers.
-/
import Derived.Test.YtelnehjmkjpjhaaPcN
import Derived.Test.YtelnehjmkjpjhaaPieE
import Derived.Test.YtelnehjmkjpjhaaLiftE
namespace Go.Proofs.Ytelnehjmkjpjhaa
open Go Go.RowKit
set_option linter.unusedVariables false

theorem exl_len : ∀ l : List Sp, (∀ s ∈ l, s.2 ≤ 60) → (ex l).length ≤ 60 * l.length
  | [], _ => by simp [ex_nil]
  | s :: l, h => by
    have := exl_len l (fun p hp => h p (by simp [hp]))
    have := h s (by simp)
    rw [show ex (s :: l) = ex1 s ++ ex l by unfold ex; simp, List.length_append, ex1_len, List.length_cons]
    omega
theorem mem_ex {l : List Sp} {x : Int} (h : x ∈ ex l) : ∃ s ∈ l, s.1 ≤ x ∧ x < s.1 + s.2 := by
  unfold ex at h
  rw [List.mem_flatMap] at h
  obtain ⟨s, hs, hx⟩ := h
  unfold ex1 at hx
  rw [List.mem_map] at hx
  obtain ⟨i, hi, rfl⟩ := hx
  rw [List.mem_range] at hi
  exact ⟨s, hs, by omega, by omega⟩
theorem fewK_mem {l : List Sp} {k : Nat} : ∀ s ∈ fewK l k, 0 ≤ s.1 ∧ s.1 < 1048576 ∧ s.2 ≤ 60 := by
  intro s hs
  unfold fewK at hs
  rw [List.mem_filter] at hs
  simpa using hs.2
theorem fewK_len (l : List Sp) (k : Nat) : (fewK l k).length ≤ 40 := by
  unfold fewK
  exact Nat.le_trans (List.length_filter_le _ _) (by simp; omega)
theorem sm_few (l : List Sp) (k : Nat) : Sm (ex (fewK l k)) ∧ (ex (fewK l k)).length ≤ 2400 := by
  have h1 := exl_len (fewK l k) (fun s hs => (fewK_mem s hs).2.2)
  have h2 := fewK_len l k
  refine ⟨⟨by omega, fun x hx => ?_⟩, by omega⟩
  obtain ⟨s, hs, h3, h4⟩ := mem_ex hx
  have := fewK_mem s hs
  omega
/-- Of at the spans that are few. -/
theorem of_few {w : World} {B c : Nat} {a : Option Addr} {l : List Sp} {k : Nat} (ho : w.ownsRow B 51 2 (.slice a (fewK l k).length c) (fewK l k).length (spC (fewK l k))) :
    Calls Try.prog 17 #[.slice a (fewK l k).length c] w fun e w' => ∃ a n c, e = .returned (.agg #[.slice a n c]) ∧ TxB w.heap.size w' (.slice a n c) (ex (fewK l k)) ∧ Below w.heap.size w w' := by
  refine (tof_of (c := c) (own_rd ho) (by have := fewK_len l k; omega) (fun s hs => ?_) (sm_few l k).1).mono ?_
  · have := fewK_mem s hs
    unfold In40; omega
  · rintro e w' ⟨v', rfl, hx, hb⟩
    have hx2 := hx
    obtain ⟨a, c', rfl, -, -, -, -⟩ := hx2
    exact ⟨a, _, c', rfl, hx, hb⟩

theorem insI_sm {t u : List Int} (i : Int) (h : Sm t) (k : Sm u) (hl : t.length + u.length ≤ 20000) : Sm (insI t i u) := by
  refine ⟨by rw [insI_len]; omega, fun q hq => ?_⟩
  unfold insI at hq
  simp only [List.mem_append] at hq
  rcases hq with (hq | hq) | hq
  · exact (h.slice 0 i).2 q hq
  · exact k.2 q hq
  · exact (h.slice i t.length).2 q hq

/-- Calls within a world that only grows. -/
theorem slice_ch {W w' : World} {v : Value} {t r : List Int} (i j : Int) (h : Tx w' v t) (hi : I64 i) (hj : I64 j) (hW : Below W.heap.size W w') (hr : slI t i j = r) :
    Calls Try.prog 24 #[.agg #[v], .int .i64 i, .int .i64 j] w' fun e w2 => ∃ a n c, e = .returned (.agg #[.slice a n c]) ∧ Tx w2 (.slice a n c) r ∧ Below W.heap.size W w2 ∧ Below w'.heap.size w' w2 := by
  subst hr
  refine (slice_of i j h hi hj).mono ?_
  rintro e w2 ⟨v', rfl, hx, hb2⟩
  have hx2 := hx
  obtain ⟨a, c, rfl, -, -, -, -⟩ := hx2
  exact ⟨a, _, c, rfl, hx.tx, hW.trans (hb2.mono hW.size), hb2⟩
theorem delete_ch {W w' : World} {v : Value} {t r : List Int} (i j : Int) (h : Tx w' v t) (hi : I64 i) (hj : I64 j) (hl : 2 * t.length ≤ 20000) (hW : Below W.heap.size W w') (hr : delI t i j = r) :
    Calls Try.prog 28 #[.agg #[v], .int .i64 i, .int .i64 j] w' fun e w2 => ∃ a n c, e = .returned (.agg #[.slice a n c]) ∧ Tx w2 (.slice a n c) r ∧ Below W.heap.size W w2 ∧ Below w'.heap.size w' w2 := by
  subst hr
  refine (delete_of i j h hi hj hl).mono ?_
  rintro e w2 ⟨v', rfl, hx, hb2⟩
  have hx2 := hx
  obtain ⟨a, c, rfl, -, -, -, -⟩ := hx2
  exact ⟨a, _, c, rfl, hx.tx, hW.trans (hb2.mono hW.size), hb2⟩
theorem insert_ch {W w' : World} {v x : Value} {t u r : List Int} (i : Int) (h : Tx w' v t) (hx : Tx w' x u) (hi : I64 i) (hl : t.length + u.length ≤ 20000) (hW : Below W.heap.size W w') (hr : insI t i u = r) :
    Calls Try.prog 26 #[.agg #[v], .int .i64 i, .agg #[x]] w' fun e w2 => ∃ a n c, e = .returned (.agg #[.slice a n c]) ∧ Tx w2 (.slice a n c) r ∧ Below W.heap.size W w2 ∧ Below w'.heap.size w' w2 := by
  subst hr
  refine (insert_of i h hx hi hl).mono ?_
  rintro e w2 ⟨v', rfl, hx, hb2⟩
  have hx2 := hx
  obtain ⟨a, c, rfl, -, -, -, -⟩ := hx2
  exact ⟨a, _, c, rfl, hx.tx, hW.trans (hb2.mono hW.size), hb2⟩
theorem same_ch {W w' : World} {v x : Value} {t : List Int} (h : Tx w' v t) (hx : Tx w' x t) (hW : Below W.heap.size W w') :
    Calls Try.prog 20 #[.agg #[v], .agg #[x]] w' fun e w2 => e = .returned (.bool true) ∧ Below W.heap.size W w2 := by
  refine (psame_of h hx).mono ?_
  rintro e w2 ⟨rfl, hb2⟩
  exact ⟨by simp, hW.trans (hb2.mono hW.size)⟩
theorem len_ch {W w' : World} {v : Value} {t : List Int} (h : Tx w' v t) (hW : Below W.heap.size W w') (n : Int) (hn : (t.length : Int) = n) :
    Calls Try.prog 36 #[.agg #[v]] w' fun e w2 => e = .returned (.int .i64 n) ∧ Below W.heap.size W w2 ∧ Below w'.heap.size w' w2 := by
  subst hn
  refine (tlen_of h).mono ?_
  rintro e w2 ⟨rfl, hb2⟩
  exact ⟨rfl, hW.trans (hb2.mono hW.size), hb2⟩
theorem concat_ch {W w : World} (vs : List TxV) (r : List Int) (hr : plsOf vs = r) (hs : Below W.heap.size W w) (hv : ∀ p ∈ vs, Tx w p.1 p.2) (hm : Sm r) (hn : vs.length ≤ 1000) (ty : TypeId) (c : Nat) (n : Nat) (hvn : vs.length = n) :
    Calls Try.prog 30 #[.slice (some ⟨w.heap.size, 0, none⟩) n c] (w.alloc (.cells (vs.map (·.1)).toArray ty)) fun e w2 => ∃ a n c, e = .returned (.agg #[.slice a n c]) ∧ Tx w2 (.slice a n c) r ∧ Below W.heap.size W w2 := by
  subst hvn hr
  have al := below_al w (.cells (vs.map (·.1)).toArray ty)
  refine (concat_of (c := c) ⟨by simp, fun hn => ⟨w.heap.size, 0, rfl, by simp, fun j u hj => ?_⟩⟩ (fun p hp => (hv p hp).below al) hm hn).mono ?_
  · rw [Nat.zero_add, cell_at (heap_alloc_new w _)]
    simpa using hj
  · rintro e w2 ⟨v', rfl, hx, hb2⟩
    have hx2 := hx
    obtain ⟨a, c, rfl, -, -, -, -⟩ := hx2
    exact ⟨a, _, c, rfl, hx.tx, (hs.trans (al.mono hs.size)).trans (hb2.mono (by have := hs.size; simp; omega))⟩

set_option maxRecDepth 100000 in
set_option maxHeartbeats 8000000 in
theorem pieceBack_walk (a1 : Option Addr) (c1 : Nat) (L1 : List (Int × Int)) (a2 : Option Addr) (c2 : Nat) (L2 : List (Int × Int)) (i : Int) (w : World) (h1 : SpArg w a1 c1 L1) (h2 : SpArg w a2 c2 L2) (hi0 : -9223372036854775808 ≤ i) (hi1 : i ≤ 9223372036854775807) :
    Calls Try.prog 6 #[.slice a1 L1.length c1, .slice a2 L2.length c2, .int .i64 i] w fun e w' => e = .returned (.bool true) ∧ Below w.heap.size w w' := by
  have HF1 := Lib.hid (few_of (c := c1) h1.rd h1.len)
  have HF2 := Lib.hid (fun w' (hb : Below w.heap.size w w') => few_of (c := c2) (h2.rd.below hb) h2.len)
  have hs1 := sm_few L1 L1.length
  have hs2 := sm_few L2 L2.length
  clear h1 h2
  go_enter Try.func6, Try.ntmps6
  go_wp2_with fail
  refine HF1.out.mono ?_; rintro e w1 ⟨v1, x1, rfl, ho1, -, hb1⟩
  obtain ⟨b1, d1, rfl⟩ := own_slice ho1
  have HO1 := Lib.hid ho1
  have HB1 := Lib.hid hb1
  clear ho1 hb1 HF1
  go_wp2_with fail
  refine (HF2.out _ HB1.out).mono ?_; rintro e w2 ⟨v2, x2, rfl, ho2, -, hb2⟩
  obtain ⟨b2, d2, rfl⟩ := own_slice ho2
  have HOF1 := Lib.hid (of_few (c := d1) (own_below HO1.out hb2))
  have HOF2 := Lib.hid (fun w' (hb : Below w2.heap.size w2 w') => of_few (c := d2) (own_below ho2 hb))
  have HB2 := Lib.hid (HB1.out.trans (hb2.mono HB1.out.size))
  clear ho2 hb2 HF2 HO1 HB1
  generalize (fewK L1 L1.length).length = m1 at *
  generalize (fewK L2 L2.length).length = m2 at *
  generalize ex (fewK L1 L1.length) = t at *
  generalize ex (fewK L2 L2.length) = u at *
  go_wp2_with fail
  refine HOF1.out.mono ?_; rintro e w3 ⟨a3, n3, c3, rfl, hx3, hb3⟩
  have HX3 := Lib.hid hx3.tx
  have HB3 := Lib.hid hb3
  clear hx3 hb3 HOF1
  go_wp2_with fail
  refine (HOF2.out _ HB3.out).mono ?_; rintro e w4 ⟨a4, n4, c4, rfl, hx4, hb4⟩
  have HX4 := Lib.hid hx4.tx
  have HX3b := Lib.hid (HX3.out.below hb4)
  have HB4 := Lib.hid (HB2.out.trans ((HB3.out.trans (hb4.mono HB3.out.size)).mono HB2.out.size))
  clear hx4 hb4 HOF2 HX3 HB3 HB2
  obtain ⟨w5, hw5⟩ : ∃ w5, w5 = allocs w4 [Obj.cells #[Value.slice a3 n3 c3] 27, Obj.cells #[Value.slice a4 n4 c4] 27] := ⟨_, rfl⟩
  have hz5 : w5.heap.size = w4.heap.size + 2 := by rw [hw5]; exact allocs_size _ w4
  have HB5 : Hid (Below w4.heap.size w4 w5) := by rw [hw5]; exact Lib.hid (allocs_below _ w4)
  have k0 : w5.cell? ⟨w4.heap.size, 0, none⟩ = some (.slice a3 n3 c3) := by rw [cell_at (show w5.heap[w4.heap.size]? = some (.cells #[Value.slice a3 n3 c3] 27 (0, 0)) by rw [hw5]; exact allocs_at _ w4 0 _ rfl)]; rfl
  have k1 : w5.cell? ⟨w4.heap.size + 1, 0, none⟩ = some (.slice a4 n4 c4) := by rw [cell_at (show w5.heap[w4.heap.size + 1]? = some (.cells #[Value.slice a4 n4 c4] 27 (0, 0)) by rw [hw5]; exact allocs_at _ w4 1 _ rfl)]; rfl
  go_upto_if 31 with fail
  rw [show (w4.alloc (Obj.cells #[Value.slice a3 n3 c3] 27)).alloc (Obj.cells #[Value.slice a4 n4 c4] 27) = w5 from hw5.symm]
  clear hw5
  have HXT := Lib.hid (HX3b.out.below HB5.out)
  have HXU := Lib.hid (HX4.out.below HB5.out)
  have HBW := Lib.hid (HB4.out.trans (HB5.out.mono HB4.out.size))
  clear HX3b HX4 HB4 HB5
  go_cut [13] (fun s13 wx => s13 = .int .i64 (max i 0) ∧ wx = w5)
  case first =>
    by_cases hlt : i < 0
    · have d : decide (i < 0) = true := decide_eq_true hlt
      go_wp2_with fail
      go_meet
      exact ⟨by rw [show max i 0 = 0 by omega], rfl⟩
    · have d : decide (i < 0) = false := decide_eq_false hlt
      go_wp2_with fail
      go_meet
      exact ⟨by rw [show max i 0 = i by omega], rfl⟩
  case rest =>
    obtain ⟨rfl, hwe⟩ := hcut
    rw [hwe]
    clear hwe wc
    have HL0 := Lib.hid (fun w' (hb : Below w5.heap.size w5 w') => len_ch (HXT.out.below hb) hb t.length rfl)
    have htl := hs1.2
    have hul := hs2.2
    go_upto_if 35 with (go_at_call 36; refine (HL0.out _ (Below.refl _ _)).mono ?_; rintro e w6 ⟨rfl, hb6, -⟩; have k06 := (hb6.cell (p := ⟨w4.heap.size, 0, none⟩) (by show w4.heap.size < _; omega)).trans k0)
    go_cut [13] (fun s13 wx => s13 = .int .i64 (plc t.length i) ∧ Below w5.heap.size w5 wx)
    case first =>
      by_cases hlt : (t.length : Int) < max i 0
      · have d : decide ((t.length : Int) < max i 0) = true := decide_eq_true hlt
        go_wp2_with (go_at_call 36; refine (HL0.out _ hb6).mono ?_; rintro e w7 ⟨rfl, hb7, -⟩)
        go_meet
        exact ⟨by rw [show plc t.length i = t.length by unfold plc; omega], hb7⟩
      · have d : decide ((t.length : Int) < max i 0) = false := decide_eq_false hlt
        go_wp2_with fail
        go_meet
        exact ⟨by rw [show plc t.length i = max i 0 by unfold plc; omega], hb6⟩
    case rest =>
      obtain ⟨rfl, hb7⟩ := hcut
      have hkk := plc_in t.length i
      have k07 := (hb7.cell (p := ⟨w4.heap.size, 0, none⟩) (by show w4.heap.size < _; omega)).trans k0
      have k17 := (hb7.cell (p := ⟨w4.heap.size + 1, 0, none⟩) (by show w4.heap.size + 1 < _; omega)).trans k1
      have HIns := Lib.hid (insert_ch (r := insI t i u) i (HXT.out.below hb7) (HXU.out.below hb7) ⟨hi0, hi1⟩ (by omega) hb7 rfl)
      clear hb6 k06 w6 k0 k1
      have hsz7 := hb7.size
      go_upto_region 10 with (go_at_call 26; refine HIns.out.mono ?_; rintro e w8 ⟨a8, n8, c8, rfl, hx8, hb8, hq8⟩)
      have k08 := (hq8.cell (p := ⟨w4.heap.size, 0, none⟩) (by show w4.heap.size < _; omega)).trans k07
      have k18 := (hq8.cell (p := ⟨w4.heap.size + 1, 0, none⟩) (by show w4.heap.size + 1 < _; omega)).trans k17
      have al := below_al w8 (Obj.cells #[Value.slice a8 n8 c8] 27)
      have hb9 := hb8.trans (al.mono hb8.size)
      have HXV := Lib.hid (hx8.below al)
      have k29 : (w8.alloc (Obj.cells #[Value.slice a8 n8 c8] 27)).cell? ⟨w8.heap.size, 0, none⟩ = some (.slice a8 n8 c8) := by rw [cell_at (heap_alloc_new w8 _)]; rfl
      have hsz8 := hb8.size
      have k09 := (al.cell (p := ⟨w4.heap.size, 0, none⟩) (by show w4.heap.size < _; omega)).trans k08
      have k19 := (al.cell (p := ⟨w4.heap.size + 1, 0, none⟩) (by show w4.heap.size + 1 < _; omega)).trans k18
      have hz9 : (w8.alloc (Obj.cells #[Value.slice a8 n8 c8] 27)).heap.size = w8.heap.size + 1 := by simp
      clear k08 k18 k07 k17 al hx8 HIns hq8
      generalize w8.alloc (Obj.cells #[Value.slice a8 n8 c8] 27) = w9 at *
      have HT := Lib.hid (fun w' (h : Below w9.heap.size w9 w') => HXT.out.below (hb9.trans (h.mono hb9.size)))
      have HU := Lib.hid (fun w' (h : Below w9.heap.size w9 w') => HXU.out.below (hb9.trans (h.mono hb9.size)))
      have HV := Lib.hid (fun w' (h : Below w9.heap.size w9 w') => HXV.out.below h)
      have HBF := Lib.hid (HBW.out.trans (hb9.mono HBW.out.size))
      have ld0 := fun w' (h : Below w9.heap.size w9 w') => (h.cell (p := ⟨w4.heap.size, 0, none⟩) (by show w4.heap.size < _; omega)).trans k09
      have ld1 := fun w' (h : Below w9.heap.size w9 w') => (h.cell (p := ⟨w4.heap.size + 1, 0, none⟩) (by show w4.heap.size + 1 < _; omega)).trans k19
      have ld2 := fun w' (h : Below w9.heap.size w9 w') => (h.cell (p := ⟨w8.heap.size, 0, none⟩) (by show w8.heap.size < _; omega)).trans k29
      have hil : ((insI t i u).length : Int) = (t.length : Int) + u.length := by rw [insI_len]; simp
      have hId := ins_del t i u _ rfl
      have hIs := ins_slice t i u _ rfl
      have hBo := slI_both t i
      have hsmT := hs1.1
      generalize insI t i u = v at *
      generalize plc t.length i = k at *
      have hvl : v.length ≤ 4800 := by omega
      have hb0 : Below w9.heap.size w9 w9.drew := (Below.refl _ _).drew
      have LV := Lib.hid (fun w' (h : Below w9.heap.size w9 w') => len_ch (HV.out w' h) h _ hil)
      have LT := Lib.hid (fun w' (h : Below w9.heap.size w9 w') => len_ch (HT.out w' h) h _ rfl)
      have LU := Lib.hid (fun w' (h : Below w9.heap.size w9 w') => len_ch (HU.out w' h) h _ rfl)
      have DV := Lib.hid (fun w' (h : Below w9.heap.size w9 w') => delete_ch k (k + u.length) (HV.out w' h) (by unfold I64; omega) (by unfold I64; omega) (by omega) h hId)
      have SV := Lib.hid (fun w' (h : Below w9.heap.size w9 w') => slice_ch k (k + u.length) (HV.out w' h) (by unfold I64; omega) (by unfold I64; omega) h hIs)
      have S1 := Lib.hid (fun w' (h : Below w9.heap.size w9 w') => slice_ch (r := slI t 0 i) 0 i (HT.out w' h) (by unfold I64; omega) ⟨hi0, hi1⟩ h rfl)
      have S2 := Lib.hid (fun w' (h : Below w9.heap.size w9 w') => slice_ch (r := slI t i t.length) i t.length (HT.out w' h) ⟨hi0, hi1⟩ (by unfold I64; omega) h rfl)
      have AW := Lib.hid (fun w' (h : Below w9.heap.size w9 w') => chain_of (awake4_of w') h)
      have CC := Lib.hid (fun (w' : World) (h : Below w9.heap.size w9 w') x y (hx : Tx w' x (slI t 0 i)) (hy : Tx w' y (slI t i t.length)) => concat_ch [(x, slI t 0 i), (y, slI t i t.length)] t (by unfold plsOf; simpa using hBo) h (by intro p hp; simp only [List.mem_cons, List.not_mem_nil, or_false] at hp; rcases hp with rfl | rfl; exact hx; exact hy) hsmT (by simp) 27 2 2 rfl)
      have e1 : IntKind.i64.wrap ((t.length : Int) + u.length) = (t.length : Int) + u.length := by rw [IntKind.wrap_i64]; omega
      have e2 : IntKind.i64.wrap (k + (u.length : Int)) = k + u.length := by rw [IntKind.wrap_i64]; omega
      clear hId hIs hBo hil HXT HXU HXV hb9 hb8 hb7 k09 k19 k29 HL0 HBW hz9 hz5 hsz7 hsz8
      go_region_held3 (fun w' => Below w9.heap.size w9 w')
        (first | assumption | exact Below.alloc (by assumption) (Below.size (by assumption)) _)
        ((first
      | (go_at_call 36; have y := mk8; clear y; refine (LT.out _ (by assumption)).mono ?_; rintro e wm ⟨rfl, hbm, hqm⟩; have hx9 := Lib.hid (hx8.out.below hqm); have mk9 := trivial)
      | (go_at_call 36; have y := mk5; clear y; refine (LU.out _ (by assumption)).mono ?_; rintro e wl ⟨rfl, hbl, hql⟩; have mk6 := trivial)
      | (go_at_call 36; have y := mk3; clear y; refine (LU.out _ (by assumption)).mono ?_; rintro e wl ⟨rfl, hbl, hql⟩; have mk4 := trivial)
      | (go_at_call 36; have y := mk2; clear y; refine (LU.out _ (by assumption)).mono ?_; rintro e wl ⟨rfl, hbl, hql⟩; have mk3 := trivial)
      | (go_at_call 36; have y := mk1; clear y; refine (LT.out _ (by assumption)).mono ?_; rintro e wl ⟨rfl, hbl, hql⟩; have mk2 := trivial)
      | (go_at_call 36; refine (LV.out _ (by assumption)).mono ?_; rintro e wl ⟨rfl, hbl, hql⟩; have mk1 := trivial)
      | (go_at_call 24; have y := mk9; clear y; refine (S2.out _ (by assumption)).mono ?_; rintro e wn ⟨a12, n12, c12, rfl, hx12, hb12, hq12⟩; have hx11 := Lib.hid (hx9.out.below hq12); have mk10 := trivial)
      | (go_at_call 24; have y := mk7; clear y; refine (S1.out _ (by assumption)).mono ?_; rintro e wo ⟨a10, n10, c10, rfl, hx8', hb10, hq10⟩; have hx8 := Lib.hid hx8'; clear hx8'; have mk8 := trivial)
      | (go_at_call 24; refine (SV.out _ (by assumption)).mono ?_; rintro e wp ⟨a7, n7, c7, rfl, hx7, hb77, hq7⟩; have mk7 := trivial)
      | (go_at_call 20; have y := mk13; clear y; refine (same_ch (W := w9) hx13 (HT.out _ (by assumption)) (by assumption)).mono ?_; rintro e wq ⟨rfl, hbq⟩)
      | (go_at_call 20; have y := mk7; clear y; refine (same_ch (W := w9) hx7 (HU.out _ (by assumption)) (by assumption)).mono ?_; rintro e wr ⟨rfl, hbr⟩)
      | (go_at_call 20; refine (same_ch (W := w9) hx5 (HT.out _ (by assumption)) (by assumption)).mono ?_; rintro e ws ⟨rfl, hbs⟩; have mk5 := trivial)
      | (go_at_call 28; refine (DV.out _ (by assumption)).mono ?_; rintro e wt ⟨a5, n5, c5, rfl, hx5, hb5, hq5⟩)
      | (go_at_call 30; refine (CC.out wn (by assumption) (.slice a10 n10 c10) (.slice a12 n12 c12) hx11.out hx12).mono ?_; rintro e wu ⟨a13, n13, c13, rfl, hx13, hb13⟩; have mk13 := trivial)
      | (go_at_call 23; refine (AW.out _ (by assumption)).mono ?_; rintro e wz ⟨rfl, hbz, -⟩)))
      go_wp2_with fail
      go_ret
      exact ⟨rfl, HBF.out.trans (hbz.mono HBF.out.size)⟩

end Go.Proofs.Ytelnehjmkjpjhaa
