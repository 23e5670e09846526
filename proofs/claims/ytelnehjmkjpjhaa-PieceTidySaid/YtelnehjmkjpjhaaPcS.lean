/-
  The contracts of the document's place, Slice and Concat (layer 4), at this seat's numbers.
-/
import Derived.Test.YtelnehjmkjpjhaaPcR
namespace Go.Proofs.Ytelnehjmkjpjhaa
open Go Go.RowKit
set_option linter.unusedVariables false

/-- A text of the document's in memory. -/
def Ix (w : World) (v : Value) (t : List Int) : Prop := ∃ a c, v = .slice a t.length c ∧ Rd w 1 a t.length (inC t) ∧ t.length ≤ c ∧ c ≤ maxLen ∧ (a = none → c = 0) ∧ (∀ d, a = some d → ∃ b off cs, d = ⟨b, off, none⟩ ∧ w.heap[b]? = some (.cells cs 3 (0, 0)))
theorem Ix.below {w w' : World} {v : Value} {t : List Int} (h : Ix w v t) (hb : Below w.heap.size w w') : Ix w' v t := by
  obtain ⟨a, c, h1, h2, h3, h4, h5, h6⟩ := h
  exact ⟨a, c, h1, h2.below hb, h3, h4, h5, fun d hd => by obtain ⟨b, off, cs, e, h7⟩ := h6 d hd; exact ⟨b, off, cs, e, (hb.block b (lt_of_heap h7)).trans h7⟩⟩
theorem ix_own {w : World} {B c : Nat} {a : Option Addr} {t : List Int} (h : w.ownsRow B 3 1 (.slice a t.length c) t.length (inC t)) : Ix w (.slice a t.length c) t := by
  refine ⟨a, c, rfl, own_rd h, ?_⟩
  rcases h.2 with ⟨h1, h2⟩ | ⟨g, cap, cur, h1, _, hg, h2, h3, _⟩
  · simp only [Value.slice.injEq] at h1
    obtain ⟨rfl, h4, rfl⟩ := h1
    exact ⟨by omega, Nat.zero_le _, fun _ => rfl, fun d h => by cases h⟩
  · simp only [Value.slice.injEq] at h1
    obtain ⟨rfl, _, rfl⟩ := h1
    exact ⟨h2, h3, fun h => (by cases h), fun d h => ⟨g, 0, cur, by simpa using h.symm, hg⟩⟩
theorem ix_nil (w : World) : Ix w (.slice none 0 0) [] := ⟨none, 0, rfl, ⟨rfl, fun h => by simp at h⟩, Nat.le_refl _, Nat.zero_le _, fun _ => rfl, fun d h => by cases h⟩
theorem Ix.turned {B : Nat} {w w' : World} {v : Value} {t : List Int} (h : Ix w v t) (ht : Turned B w w') : Ix w' v t := by
  obtain ⟨a, c, h1, h2, h3, h4, h5, h6⟩ := h
  refine ⟨a, c, h1, h2.turned ht (e := 3) (fun d hd => ?_) (by decide) (by decide), h3, h4, h5, fun d hd => ?_⟩
  · obtain ⟨b, off, cs, e, h7⟩ := h6 d hd
    subst e; exact ⟨cs, h7⟩
  · obtain ⟨b, off, cs, e, h7⟩ := h6 d hd
    exact ⟨b, off, cs, e, heap_turned h7 ht (by decide) (by decide)⟩
/-- A part of such a text. -/
theorem Ix.cut {w : World} {b off : Nat} {c : Nat} {t : List Int} (h : Ix w (.slice (some ⟨b, off, none⟩) t.length c) t) (i j : Nat) (hij : i ≤ j) (hj : j ≤ t.length) : Ix w (.slice (some ⟨b, off + i, none⟩) (j - i) (c - i)) ((t.take j).drop i) := by
  obtain ⟨a', c', h1, h2, h3, h4, h5, h6⟩ := h
  simp only [Value.slice.injEq] at h1
  obtain ⟨rfl, _, rfl⟩ := h1
  have hlen : ((t.take j).drop i).length = j - i := by rw [List.length_drop, List.length_take]; omega
  refine ⟨some ⟨b, off + i, none⟩, c - i, by rw [hlen], ⟨by rw [inC_len]; omega, fun hn => ⟨b, off + i, rfl, ?_, fun k u hu => ?_⟩⟩, by omega, by omega, fun h => (by cases h), fun d h => by obtain ⟨b2, off2, cs, e2, h7⟩ := h6 _ rfl; injection e2 with e2 e3; subst e2; exact ⟨b, off + i, cs, by simpa using h.symm, h7⟩⟩
  · obtain ⟨b', off', e, hlt, _⟩ := h2.2 (by omega)
    simp only [Option.some.injEq, Addr.mk.injEq] at e
    rw [e.1]; exact hlt
  · have hk : k < j - i := by
      have := (List.getElem?_eq_some_iff.1 hu).1
      rw [inC_len, hlen] at this; exact this
    obtain ⟨b', off', e, hlt, hc⟩ := h2.2 (by omega)
    simp only [Option.some.injEq, Addr.mk.injEq, and_true] at e
    obtain ⟨rfl, rfl⟩ := e
    rw [Nat.add_assoc]
    refine hc (i + k) u ?_
    unfold inC at hu ⊢
    rw [List.getElem?_map, List.getElem?_drop, List.getElem?_take, if_pos (by omega)] at hu
    rw [List.getElem?_map]; exact hu

theorem rplace_of {a : Option Addr} {n c : Nat} (i : Int) (hi : I64 i) (hn : n ≤ 1000000) (w : World) :
    Calls Try.prog 86 #[.slice a n c, .int .i64 i] w fun e w' => e = .returned (.int .i64 (plc n i)) ∧ w = w' := by
  obtain ⟨i1, i2⟩ := hi
  by_cases h0 : i < 0
  · have d : decide (i < 0) = true := decide_eq_true h0
    rw [show plc n i = 0 by unfold plc; omega]
    go_enter Try.func86, Try.ntmps86
    go_wp2_with fail
    go_ret
    exact ⟨rfl, rfl⟩
  · have d : decide (i < 0) = false := decide_eq_false h0
    by_cases h1 : (n : Int) < i
    · have d1 : decide ((n : Int) < i) = true := decide_eq_true h1
      rw [show plc n i = n by unfold plc; omega]
      go_enter Try.func86, Try.ntmps86
      go_wp2_with fail
      go_ret
      exact ⟨rfl, rfl⟩
    · have d1 : decide ((n : Int) < i) = false := decide_eq_false h1
      rw [show plc n i = i by unfold plc; omega]
      go_enter Try.func86, Try.ntmps86
      go_wp2_with fail
      go_ret
      exact ⟨rfl, rfl⟩

set_option maxRecDepth 100000 in
theorem rslice_of {w : World} {v : Value} {t : List Int} (i j : Int) (h : Ix w v t) (hi : I64 i) (hj : I64 j) (hl : t.length ≤ 20000) :
    Calls Try.prog 25 #[v, .int .i64 i, .int .i64 j] w fun e w' => ∃ v', e = .returned v' ∧ Ix w' v' (slI t i j) ∧ w = w' := by
  have HX := Lib.hid h
  obtain ⟨a, c, rfl, hr, hc, hcm, hz, -⟩ := h
  have HPi := Lib.hid (rplace_of (a := a) (n := t.length) (c := c) i hi (by omega) w)
  have HPj := Lib.hid (rplace_of (a := a) (n := t.length) (c := c) j hj (by omega) w)
  have hpi := plc_in t.length i
  have hpj := plc_in t.length j
  obtain ⟨p, hp⟩ : ∃ p : Nat, plc t.length i = p := ⟨(plc t.length i).toNat, by omega⟩
  obtain ⟨q, hq⟩ : ∃ q : Nat, plc t.length j = q := ⟨(plc t.length j).toNat, by omega⟩
  have hsl : slI t i j = (t.take q).drop p := by unfold slI; rw [hp, hq]; simp
  rw [hp] at HPi hpi
  rw [hq] at HPj hpj
  rw [hsl]
  clear hp hq hsl hi hj
  by_cases hqp : q ≤ p
  · have d : decide ((q : Int) ≤ (p : Int)) = true := decide_eq_true (by omega)
    have d' : decide (q ≤ p) = true := decide_eq_true hqp
    have he : (t.take q).drop p = [] := List.drop_eq_nil_of_le (by rw [List.length_take]; omega)
    rw [he]
    clear hr hz
    go_enter Try.func25, Try.ntmps25
    go_wp2_with fail
    refine HPi.out.mono ?_; rintro e w1 ⟨rfl, rfl⟩
    go_wp2_with fail
    refine HPj.out.mono ?_; rintro e w1 ⟨rfl, rfl⟩
    go_wp2_with fail
    go_ret
    exact ⟨_, rfl, ix_nil _, rfl⟩
  · have d : decide ((q : Int) ≤ (p : Int)) = false := decide_eq_false (by omega)
    have d' : decide (q ≤ p) = false := decide_eq_false hqp
    obtain ⟨b, off, rfl, _, _⟩ := hr.2 (by omega)
    have HC := Lib.hid (HX.out.cut p q (by omega) (by omega))
    have i1 : (0 : Int) ≤ (p : Int) := by omega
    have i2 : (p : Int) ≤ (q : Int) := by omega
    have i3 : (q : Int) ≤ (c : Int) := by omega
    clear hr hz
    go_enter Try.func25, Try.ntmps25
    go_wp2_with fail
    refine HPi.out.mono ?_; rintro e w1 ⟨rfl, rfl⟩
    go_wp2_with fail
    refine HPj.out.mono ?_; rintro e w1 ⟨rfl, rfl⟩
    go_wp2_with fail
    go_ret
    refine ⟨_, rfl, ?_, rfl⟩
    have hk := HC.out
    simpa using hk

set_option maxRecDepth 100000 in
set_option maxHeartbeats 4000000 in
theorem rconcat_of {w : World} {a : Option Addr} {c : Nat} {vs : List TxV} (hr : Rd w 1 a vs.length (vs.map (·.1))) (hv : ∀ p ∈ vs, Ix w p.1 p.2) (hs : (plsOf vs).length ≤ 20000) (hn : vs.length ≤ 1000) :
    Calls Try.prog 31 #[.slice a vs.length c] w fun e w' => ∃ v', e = .returned v' ∧ Ix w' v' (plsOf vs) ∧ Below w.heap.size w w' := by
  obtain ⟨i0, hi0, hz0, hz1, hz2⟩ := info_parts info_int
  have HR := Lib.hid hr
  have HV := Lib.hid hv
  have HXL := Lib.hid (fun k => Nat.le_trans (pls_take_len (vs := vs) k) hs)
  clear hr hv hs
  go_enter Try.func31, Try.ntmps31
  go_wp2_with fail
  go_loopw [3, 10] (fun v3 v10 wr => ∃ (k : Nat) (a3 : Option Addr) (c3 : Nat), k ≤ vs.length ∧ v10 = .int .i64 k ∧ v3 = .slice a3 (plsOf (vs.take k)).length c3 ∧ wr.ownsRow w.heap.size 3 1 (.slice a3 (plsOf (vs.take k)).length c3) (plsOf (vs.take k)).length (inC (plsOf (vs.take k))) ∧ Below w.heap.size w wr) (fun _ v10 _ => vs.length - (intOf v10).toNat)
  case atStart => exact ⟨0, none, 0, by omega, rfl, rfl, own_nil _ _ _ _, Below.refl _ _⟩
  case round =>
    obtain ⟨k, a3, c3, hk, rfl, rfl, ho, hb⟩ := hrel
    have HO := Lib.hid ho
    have HB := Lib.hid hb
    have hzr := hb.size
    clear ho hb
    by_cases hlt : k < vs.length
    · have dk : decide (k < vs.length) = true := decide_eq_true hlt
      obtain ⟨b, off, rfl, hbl, hcl⟩ := HR.out.2 (by omega)
      obtain ⟨ak, ck, hvk, hrk, _, _, _, _⟩ := HV.out vs[k] (List.getElem_mem hlt)
      have f1 : wr.cell? ⟨b, off + k, none⟩ = some (.slice ak (vs[k]).2.length ck) := (HB.out.cell (p := ⟨b, off + k, none⟩) hbl).trans (hcl k _ (by rw [List.getElem?_map, List.getElem?_eq_getElem hlt, ← hvk]; rfl))
      have HST : Hid (plsOf (vs.take (k + 1)) = plsOf (vs.take k) ++ (vs[k]).2) := by
        show _ = _
        unfold plsOf
        rw [List.take_succ_eq_append_getElem hlt, List.flatMap_append]; simp
      have hxl := HXL.out (k + 1)
      rw [HST.out, List.length_append] at hxl
      have HRK := Lib.hid hrk
      clear hbl hcl hrk hvk HR HV HXL
      generalize (vs[k]).2 = tk at *
      generalize plsOf (vs.take k) = p at *
      go_wp2_with fail
      clear f1
      go_loopw [3, 16] (fun v3 v16 wr => ∃ (j : Nat) (a4 : Option Addr) (c4 : Nat), j ≤ tk.length ∧ v16 = .int .i64 j ∧ v3 = .slice a4 (p ++ tk.take j).length c4 ∧ wr.ownsRow w.heap.size 3 1 (.slice a4 (p ++ tk.take j).length c4) (p ++ tk.take j).length (inC (p ++ tk.take j)) ∧ Below w.heap.size w wr) (fun _ v16 _ => tk.length - (intOf v16).toNat)
      case atStart => exact ⟨0, a3, c3, by omega, rfl, by simp, by simp; exact HO.out, HB.out⟩
      case round =>
        obtain ⟨j, a4, c4, hj, rfl, rfl, ho, hb⟩ := hrel
        have HO2 := Lib.hid ho
        have HB2 := Lib.hid hb
        have hzs := hb.size
        clear ho hb
        have hpn : (p ++ tk.take j).length ≤ 30000 := by rw [List.length_append, List.length_take]; omega
        by_cases hjl : j < tk.length
        · have dj : decide (j < tk.length) = true := decide_eq_true hjl
          obtain ⟨b2, off2, rfl, hbl2, hcl2⟩ := HRK.out.2 (by omega)
          have f2 : wr.cell? ⟨b2, off2 + j, none⟩ = some (.int .i64 tk[j]) := (HB2.out.cell (p := ⟨b2, off2 + j, none⟩) hbl2).trans (hcl2 j _ (by unfold inC; rw [List.getElem?_map, List.getElem?_eq_getElem hjl]; rfl))
          have HS := Lib.hid (show p ++ tk.take (j + 1) = (p ++ tk.take j) ++ [tk[j]] by rw [List.take_succ_eq_append_getElem hjl, List.append_assoc])
          clear hbl2 hcl2 HO HB
          generalize p ++ tk.take j = r at *
          generalize tk[j] = x at *
          go_wp2_with (first
            | (at_builtin; refine wpList_append_own _ rfl (.tmp 20) (.tmp 22) 31 rfl w.heap.size 3 i0 (.int .i64 0) 1 8 Try.underlying31 hi0 hz0 hz1 hz2 rfl (by decide) (.slice a4 r.length c4) r.length (inC r) rfl (HO2.out.alloc _) ⟨wr.heap.size, 0, none⟩ 1 1 [.int .i64 x] rfl rfl ?c1 ?c2 ?c3 ?c4 ?c5 ?_)
            | fail)
          case c1 =>
            intro q u hq
            rw [Addr.add_lit, Nat.zero_add]
            rw [cell_at (heap_alloc_new wr _)]
            simpa using hq
          case c2 =>
            intro u hu
            obtain rfl := List.mem_singleton.1 hu; rfl
          case c3 => unfold maxLen; omega
          case c4 => omega
          case c5 => simp only [World.size_alloc]; omega
          intro v7 wB ho7 hg7 _
          obtain ⟨a8, c8, rfl⟩ := own_slice ho7
          have HO7 := Lib.hid ho7
          have HBB := Lib.hid ((HB2.out.alloc hzs _).grown hg7 (by simp only [World.size_alloc]; omega) (fun q hq => (HO2.out.lt q hq).1))
          clear ho7 hg7
          go_wp2_with fail
          go_roundw
          case rel => exact ⟨j + 1, a8, c8, hjl, by go_num, by rw [HS.out, List.length_append]; rfl, by rw [HS.out, List.length_append, inC_snoc]; exact HO7.out, HBB.out⟩
          case measure => simp [intOf]; omega
        · have dj : decide (j < tk.length) = false := decide_eq_false hjl
          obtain rfl : j = tk.length := by omega
          have HE : Hid (p ++ tk.take tk.length = plsOf (vs.take (k + 1))) := by
            show _ = _
            rw [HST.out, List.take_length]
          go_wp2_with fail
          go_roundw
          case rel => exact ⟨k + 1, a4, c4, hlt, by go_num, HE.out ▸ rfl, HE.out ▸ HO2.out, HB2.out⟩
          case measure => simp [intOf]; omega
    · have dk : decide (k < vs.length) = false := decide_eq_false hlt
      obtain rfl : k = vs.length := by omega
      rw [List.take_length] at *
      go_wp2_with fail
      go_ret
      exact ⟨_, rfl, ix_own HO.out, HB.out⟩

end Go.Proofs.Ytelnehjmkjpjhaa
