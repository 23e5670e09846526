/-
  Texts of this seat, put together (a claim holds few texts): ScN, PcV, PcW, QuA.
-/
import Derived.Test.YtkgakgceamafcaaGreatMk10
import Derived.Deep.RegionHeld3
import Derived.Deep.QuietTactic
import Derived.BigQuiet
import Derived.Deep.DeepCutAuto
import Derived.Laws.AppendOwnNone

namespace Go.Proofs.YtkgakgceamafcaaGreat
open Go Go.RowKit
set_option linter.unusedVariables false

theorem lb_get {s : ByteArray} {l : List UInt8} (h : s.data.toList = l) {i : Nat} (hi : i < s.size) : ((s[i]'hi).toNat : Int) = lb l i := by
  subst h; exact bt_get s i hi
theorem sz_of {s : ByteArray} {l : List UInt8} (h : s.data.toList = l) : s.size = l.length := by subst h; rfl

theorem rquote_yes {s : ByteArray} {l : List UInt8} (hs : s.data.toList = l) (hl : l.length ≤ 1000000) (i : Nat) (h : quAt l i = true) (w : World) :
    Calls Tryz.prog 175 #[.string s, .int .i64 i] w fun e w' => e = .returned (.bool true) ∧ w = w' := by
  obtain ⟨hlt, hq⟩ := quAt_yes h
  have hsz := sz_of hs
  have hb := lb_get hs (i := i) (by omega)
  rw [hq] at hb
  have dk : decide (i < l.length) = true := decide_eq_true hlt
  clear hs h hq
  go_enter Tryz.func175, Tryz.ntmps175
  go_wp2_with fail
  go_ret
  exact ⟨rfl, rfl⟩
theorem rquote_no {s : ByteArray} {l : List UInt8} (hs : s.data.toList = l) (hl : l.length ≤ 1000000) (i : Nat) (h : quAt l i = false) (w : World) :
    Calls Tryz.prog 175 #[.string s, .int .i64 i] w fun e w' => e = .returned (.bool false) ∧ w = w' := by
  have hsz := sz_of hs
  by_cases hlt : i < l.length
  · rw [quAt_in hlt] at h
    simp only [decide_eq_false_iff_not] at h
    have hb := lb_get hs (i := i) (by omega)
    have d1 : (lb l i == 34) = false := by simpa using h
    have dk : decide (i < l.length) = true := decide_eq_true hlt
    clear hs h
    generalize lb l i = x at *
    go_enter Tryz.func175, Tryz.ntmps175
    go_wp2_with fail
    go_ret
    exact ⟨rfl, rfl⟩
  · have dk : decide (i < l.length) = false := decide_eq_false hlt
    clear hs h
    go_enter Tryz.func175, Tryz.ntmps175
    go_wp2_with fail
    go_ret
    exact ⟨rfl, rfl⟩
theorem rmarkAt_yes {s : ByteArray} {l : List UInt8} (hs : s.data.toList = l) (hl : l.length ≤ 1000000) (i : Nat) (h : mkAt l i = true) (w : World) :
    Calls Tryz.prog 199 #[.string s, .int .i64 i] w fun e w' => e = .returned (.bool true) ∧ w = w' := by
  have hsz := sz_of hs
  by_cases hlt : i < l.length
  · rw [mkAt_in hlt] at h
    unfold mkB at h
    simp only [decide_eq_true_eq] at h
    have hb := lb_get hs (i := i) (by omega)
    have dk : decide (l.length ≤ i) = false := decide_eq_false (by omega)
    clear hs
    generalize lb l i = x at *
    rcases h with rfl | rfl | rfl
    all_goals
      go_enter Tryz.func199, Tryz.ntmps199
      go_wp2_with fail
      go_ret
      exact ⟨rfl, rfl⟩
  · have dk : decide (l.length ≤ i) = true := decide_eq_true (by omega)
    clear hs h
    go_enter Tryz.func199, Tryz.ntmps199
    go_wp2_with fail
    go_ret
    exact ⟨rfl, rfl⟩
theorem rmarkAt_no {s : ByteArray} {l : List UInt8} (hs : s.data.toList = l) (hl : l.length ≤ 1000000) (i : Nat) (h : mkAt l i = false) (w : World) :
    Calls Tryz.prog 199 #[.string s, .int .i64 i] w fun e w' => e = .returned (.bool false) ∧ w = w' := by
  have hsz := sz_of hs
  obtain ⟨hlt, hm⟩ := mkAt_no h
  unfold mkB at hm
  simp only [decide_eq_false_iff_not, not_or] at hm
  have hb := lb_get hs (i := i) (by omega)
  have dk : decide (l.length ≤ i) = false := decide_eq_false (by omega)
  have d1 : (lb l i == 44) = false := by simpa using hm.1
  have d2 : (lb l i == 13) = false := by simpa using hm.2.1
  have d3 : (lb l i == 10) = false := by simpa using hm.2.2
  clear hs h hm
  generalize lb l i = x at *
  go_enter Tryz.func199, Tryz.ntmps199
  go_wp2_with fail
  go_ret
  exact ⟨rfl, rfl⟩

set_option maxHeartbeats 800000 in
theorem rtill_of {s : ByteArray} {l : List UInt8} (hs : s.data.toList = l) (hl : l.length ≤ 1000000) (i : Nat) (hi : i ≤ l.length) (w : World) :
    Calls Tryz.prog 176 #[.string s, .int .i64 i] w fun e w' => e = .returned (.int .i64 (till l i)) ∧ w = w' := by
  have HS := Lib.hid hs
  clear hs
  go_enter Tryz.func176, Tryz.ntmps176
  go_wp2_with fail
  go_loop [1] (fun v => ∃ k : Nat, k ≤ l.length ∧ v = .int .i64 k ∧ till l k = till l i) (fun v => l.length - (intOf v).toNat)
  case atStart => exact ⟨i, hi, rfl, rfl⟩
  case round =>
    obtain ⟨k, hk, rfl, ht⟩ := hrel
    have HT := Lib.hid ht
    clear ht
    by_cases hm : mkAt l k = true
    · have HM := Lib.hid (rmarkAt_yes HS.out hl k hm)
      have HE := Lib.hid (till_stop hm)
      clear hm
      go_wp2_with (go_at_call 199; refine (HM.out _).mono ?_; rintro e w' ⟨rfl, rfl⟩)
      go_ret
      exact ⟨by rw [← HT.out, HE.out] <;> rfl, rfl⟩
    · have hm := Bool.eq_false_iff.2 hm
      have hlt := (mkAt_no hm).1
      have HM := Lib.hid (rmarkAt_no HS.out hl k hm)
      have HE := Lib.hid (till_step hm)
      clear hm
      go_wp2_with (go_at_call 199; refine (HM.out _).mono ?_; rintro e w' ⟨rfl, rfl⟩)
      go_round
      case rel => exact ⟨k + 1, hlt, by go_num, by rw [← HT.out, HE.out]⟩
      case measure => simp [intOf]; omega

/-- The cells of numbers. -/
def inC (t : List Int) : List Value := t.map (Value.int .i64)
theorem inC_len (t : List Int) : (inC t).length = t.length := by simp [inC]
theorem inC_snoc (t : List Int) (x : Int) : inC (t ++ [x]) = inC t ++ [.int .i64 x] := by simp [inC]
theorem info_int : (Tryz.prog.info? 3).map (fun i => (i.zero, i.size, i.bytes)) = some (some (.int .i64 0), 1, 8) := by kernel_rfl

set_option maxRecDepth 100000 in
set_option maxHeartbeats 1600000 in
theorem places_of {w : World} {B c : Nat} {a : Option Addr} {t : List Int} (ho : w.ownsRow B 3 1 (.slice a t.length c) t.length (inC t)) (hB : B ≤ w.heap.size) (i j : Nat) (hij : i ≤ j) (hj : j ≤ 1000000) (htl : t.length ≤ 1000000) :
    Calls Tryz.prog 177 #[.slice a t.length c, .int .i64 i, .int .i64 j] w fun e w' => ∃ a' c', e = .returned (.slice a' (t ++ pls i j).length c') ∧ w'.ownsRow B 3 1 (.slice a' (t ++ pls i j).length c') (t ++ pls i j).length (inC (t ++ pls i j)) ∧ Below B w w' ∧ w.heap.size ≤ w'.heap.size := by
  obtain ⟨i0, hi0, hz0, hz1, hz2⟩ := info_parts info_int
  have HO0 := Lib.hid ho
  clear ho
  go_enter Tryz.func177, Tryz.ntmps177
  go_wp2_with fail
  go_loopw [0, 7] (fun v0 v7 wr => ∃ (k : Nat) (a0 : Option Addr) (c0 : Nat), i ≤ k ∧ k ≤ j ∧ v7 = .int .i64 k ∧ v0 = .slice a0 (t ++ pls i k).length c0 ∧ wr.ownsRow B 3 1 (.slice a0 (t ++ pls i k).length c0) (t ++ pls i k).length (inC (t ++ pls i k)) ∧ Below B w wr ∧ w.heap.size ≤ wr.heap.size) (fun _ v7 _ => j - (intOf v7).toNat)
  case atStart => exact ⟨i, a, c, Nat.le_refl _, hij, rfl, by rw [pls_nil, List.append_nil], by rw [pls_nil, List.append_nil]; exact HO0.out, Below.refl _ _, Nat.le_refl _⟩
  case round =>
    obtain ⟨k, a0, c0, hik, hkj, rfl, rfl, ho, hb, hz⟩ := hrel
    have HO := Lib.hid ho
    have HB := Lib.hid hb
    clear ho hb
    have hpn : (t ++ pls i k).length ≤ 2000000 := by rw [List.length_append, pls_len]; omega
    by_cases hlt : k < j
    · have dk : decide (k < j) = true := decide_eq_true hlt
      have dk' : decide ((k : Int) < (j : Int)) = true := decide_eq_true (by omega)
      have HS := Lib.hid (show t ++ pls i (k + 1) = (t ++ pls i k) ++ [(k : Int)] by rw [pls_snoc i k hik, List.append_assoc])
      generalize hp : t ++ pls i k = p at *
      have HP := Lib.hid hp
      clear hp
      go_wp2_with (first
        | (at_builtin; refine wpList_append_own _ rfl (.tmp 14) (.tmp 16) 157 rfl B 3 i0 (.int .i64 0) 1 8 Tryz.underlying157 hi0 hz0 hz1 hz2 rfl (by decide) (.slice a0 p.length c0) p.length (inC p) rfl (HO.out.alloc _) ⟨wr.heap.size, 0, none⟩ 1 1 [.int .i64 k] rfl rfl ?c1 ?c2 ?c3 ?c4 ?c5 ?_)
        | fail)
      case c1 =>
        intro q u hq
        rw [Addr.add_lit, Nat.zero_add]
        rw [cell_at (heap_alloc_new wr _)]
        simpa using hq
      case c2 =>
        intro u hu
        obtain rfl := List.mem_singleton.1 hu; rfl
      case c3 => unfold maxLen; omega
      case c4 => omega
      case c5 => simp only [World.size_alloc]; omega
      intro v7 wB ho7 hg7 _
      obtain ⟨a8, c8, rfl⟩ := own_slice ho7
      have HO7 := Lib.hid ho7
      have HG7 := Lib.hid hg7
      have HBB := Lib.hid ((HB.out.alloc (by omega) _).grown hg7 (by simp only [World.size_alloc]; omega) (fun q hq => (HO.out.lt q hq).1))
      clear ho7 hg7
      go_wp2_with fail
      go_roundw
      case rel => exact ⟨k + 1, a8, c8, by omega, hlt, by go_num, by rw [HS.out, List.length_append]; rfl, by rw [HS.out, List.length_append, inC_snoc]; exact HO7.out, HBB.out, by have := HG7.out.size; simp only [World.size_alloc] at this; omega⟩
      case measure => simp [intOf]; omega
    · have dk : decide (k < j) = false := decide_eq_false hlt
      have dk' : decide ((k : Int) < (j : Int)) = false := decide_eq_false (by omega)
      obtain rfl : k = j := by omega
      go_wp2_with fail
      go_ret
      exact ⟨a0, c0, rfl, HO.out, HB.out, hz⟩

/-- The bytes at places. -/
def atL (l : List UInt8) (t : List Int) : List UInt8 := t.map fun x => l.getD x.toNat 0
theorem atL_snoc (l : List UInt8) (t : List Int) (x : Int) : atL l (t ++ [x]) = atL l t ++ [l.getD x.toNat 0] := by simp [atL]
theorem ext_one {s : ByteArray} {l : List UInt8} (hs : s.data.toList = l) (i : Nat) (hi : i < l.length) : s.extract i (i + 1) = strOf [l.getD i 0] := by
  subst hs
  apply ByteArray.ext
  apply Array.ext'
  simp only [strOf, ByteArray.data_extract, Array.toList_extract, List.extract_eq_take_drop]
  rw [show i + 1 - i = 1 by omega, List.drop_eq_getElem_cons hi, List.getD_eq_getElem?_getD, List.getElem?_eq_getElem hi]
  rfl

set_option maxHeartbeats 1600000 in
theorem text_of {s : ByteArray} {l : List UInt8} (hs : s.data.toList = l) (hl : l.length ≤ 1000000) {w : World} {a : Option Addr} {c : Nat} {t : List Int} (hr : Rd w 1 a t.length (inC t)) (ht : ∀ x ∈ t, 0 ≤ x ∧ x < l.length) (htl : t.length ≤ 1000000) :
    Calls Tryz.prog 105 #[.string s, .slice a t.length c] w fun e w' => e = .returned (.string (strOf (atL l t))) ∧ w = w' := by
  have HS := Lib.hid hs
  have hsz := sz_of hs
  have HR := Lib.hid hr
  have HT := Lib.hid ht
  clear hs hr ht
  go_enter Tryz.func105, Tryz.ntmps105
  go_wp2_with fail
  go_loop [5, 10] (fun v5 v10 => ∃ k : Nat, k ≤ t.length ∧ v10 = .int .i64 k ∧ v5 = .string (strOf (atL l (t.take k)))) (fun _ v10 => t.length - (intOf v10).toNat)
  case atStart => exact ⟨0, by omega, rfl, rfl⟩
  case round =>
    obtain ⟨k, hk, rfl, rfl⟩ := hrel
    have hsk : (strOf (atL l (t.take k))).size ≤ 1000000 := by rw [strOf_size]; simp [atL]; omega
    by_cases hlt : k < t.length
    · have dk : decide (k < t.length) = true := decide_eq_true hlt
      obtain ⟨b, off, rfl, hb, hcl⟩ := HR.out.2 (by omega)
      have hx := HT.out t[k] (List.getElem_mem hlt)
      obtain ⟨x, hxe⟩ := Int.eq_ofNat_of_zero_le hx.1
      have hc := hcl k (.int .i64 t[k]) (by unfold inC; rw [List.getElem?_map, List.getElem?_eq_getElem hlt]; rfl)
      rw [hxe] at hc
      have hxl : x < l.length := by omega
      have HX := Lib.hid (ext_one HS.out x hxl)
      have HTK := Lib.hid (show atL l (t.take (k + 1)) = atL l (t.take k) ++ [l.getD x 0] by rw [List.take_succ_eq_append_getElem hlt, atL_snoc, hxe]; rfl)
      clear hcl hx hxe
      generalize atL l (t.take k) = A at *
      go_wp2_with fail
      go_round
      case rel => exact ⟨k + 1, hlt, by go_num, by rw [HTK.out, ← strOf_app, ← HX.out]⟩
      case measure => simp [intOf]; omega
    · have dk : decide (k < t.length) = false := decide_eq_false hlt
      obtain rfl : k = t.length := by omega
      rw [List.take_length]
      go_wp2_with fail
      go_ret
      exact ⟨rfl, rfl⟩

theorem subL_ex1 {l : List UInt8} {a n : Nat} (h : a + n ≤ l.length) : subL l a n = atL l (ex1 ((a : Int), (n : Int))) := by
  unfold subL
  rw [if_pos (by unfold rightB; simp only [decide_eq_true_eq]; omega)]
  simp only [Int.toNat_natCast]
  unfold atL
  rw [ex1_nat, List.map_map]
  apply List.ext_getElem?
  intro k
  rw [List.getElem?_take, List.getElem?_map]
  by_cases hk : k < n
  · rw [if_pos hk, List.getElem?_drop, List.getElem?_range hk]
    have e : ((a : Int) + (k : Int)).toNat = a + k := by omega
    simp only [Option.map_some, Function.comp, e]
    rw [List.getElem?_eq_getElem (by omega), List.getD_eq_getElem?_getD, List.getElem?_eq_getElem (by omega)]
    rfl
  · rw [if_neg hk, List.getElem?_eq_none (by simp; omega)]; rfl
theorem valL_ex (l : List UInt8) : ∀ ps : List (Int × Int), (∀ s ∈ ps, 0 ≤ s.1 ∧ 0 ≤ s.2 ∧ s.1 + s.2 ≤ l.length) → valL l ps = atL l (ex ps)
  | [], _ => rfl
  | s :: ps, h => by
    have hs := h s (by simp)
    have ih := valL_ex l ps (fun z hz => h z (by simp [hz]))
    have e1 : valL l (s :: ps) = subL l s.1 s.2 ++ valL l ps := by unfold valL; simp
    have e2 : ex (s :: ps) = ex1 s ++ ex ps := by unfold ex; simp
    obtain ⟨a, n⟩ := s
    simp only at hs
    obtain ⟨a, rfl⟩ := Int.eq_ofNat_of_zero_le hs.1
    obtain ⟨n, rfl⟩ := Int.eq_ofNat_of_zero_le hs.2.1
    rw [e1, e2, ih, subL_ex1 (by omega)]
    unfold atL
    simp
theorem valL_canon {l : List UInt8} {t : List Int} (ht : ∀ x ∈ t, 0 ≤ x ∧ x < l.length) : valL l (canon t) = atL l t := by
  rw [valL_ex l (canon t) (fun s hs => ?_), ex_canon]
  have hf := canon_full t s hs
  have hin : ∀ x ∈ ex1 s, x ∈ t := fun x hx => by rw [← ex_canon t]; unfold ex; exact List.mem_flatMap.2 ⟨s, hs, hx⟩
  have h1 := ht _ (hin s.1 (by unfold ex1; exact List.mem_map.2 ⟨0, List.mem_range.2 (by omega), by simp⟩))
  have h2 := ht _ (hin (s.1 + (s.2 - 1)) (by unfold ex1; exact List.mem_map.2 ⟨(s.2 - 1).toNat, List.mem_range.2 (by omega), by omega⟩))
  omega

end Go.Proofs.YtkgakgceamafcaaGreat

namespace Go.Proofs.YtkgakgceamafcaaGreat
open Go Go.RowKit
set_option linter.unusedVariables false

/-- All places of a text lie within. -/
def InL (l : List UInt8) (t : List Int) : Prop := ∀ x ∈ t, 0 ≤ x ∧ x < l.length
theorem atL_app (l : List UInt8) (a b : List Int) : atL l (a ++ b) = atL l a ++ atL l b := by unfold atL; rw [List.map_append]
theorem atL_len (l : List UInt8) (t : List Int) : (atL l t).length = t.length := by unfold atL; rw [List.length_map]
theorem atL_ex1 (l : List UInt8) (s : Sp) (h0 : 0 ≤ s.1) (h1 : 0 ≤ s.2) (h2 : s.1 + s.2 ≤ l.length) : atL l (ex1 s) = subL l s.1 s.2 := by
  obtain ⟨a, n⟩ := s
  simp only at h0 h1 h2
  obtain ⟨a, rfl⟩ := Int.eq_ofNat_of_zero_le h0
  obtain ⟨n, rfl⟩ := Int.eq_ofNat_of_zero_le h1
  unfold subL rightB
  rw [if_pos (by simp only [decide_eq_true_eq]; omega)]
  simp only [Int.toNat_natCast]
  apply List.ext_getElem?
  intro k
  unfold atL
  rw [ex1_nat, List.map_map, List.getElem?_map, List.getElem?_take, List.getElem?_drop]
  by_cases hk : k < n
  · rw [List.getElem?_range hk, if_pos hk, List.getElem?_eq_getElem (show a + k < l.length by omega)]
    simp only [Option.map_some, Function.comp_apply]
    rw [show ((a : Int) + (k : Int)).toNat = a + k by omega, List.getD_eq_getElem?_getD, List.getElem?_eq_getElem (show a + k < l.length by omega)]
    rfl
  · rw [if_neg hk, List.getElem?_eq_none (by simpa using hk)]; rfl
theorem canon_in {l : List UInt8} {t : List Int} (h : InL l t) : ∀ s ∈ canon t, 0 ≤ s.1 ∧ 1 ≤ s.2 ∧ s.1 + s.2 ≤ l.length := by
  intro s hs
  have hf := canon_full t s hs
  have hsub : ∀ x ∈ ex1 s, x ∈ t := by
    intro x hx
    rw [← ex_canon t]
    unfold ex
    exact List.mem_flatMap.2 ⟨s, hs, hx⟩
  have h1 := h s.1 (hsub _ (by unfold ex1; rw [List.mem_map]; exact ⟨0, by rw [List.mem_range]; omega, by simp⟩))
  have h2 := h (s.1 + s.2 - 1) (hsub _ (by unfold ex1; rw [List.mem_map]; exact ⟨(s.2 - 1).toNat, by rw [List.mem_range]; omega, by omega⟩))
  omega
theorem own_formD {w : World} {B sz n c : Nat} {e : TypeId} {a : Option Addr} {xs : List Value} (h : w.ownsRow B e sz (.slice a n c) n xs) : (a = none ∧ n = 0 ∧ c = 0) ∨ ∃ g, a = some ⟨g, 0, none⟩ ∧ ∀ j u, xs[j]? = some u → w.cell? ⟨g, j, none⟩ = some u := by
  rcases own_formC h with h0 | ⟨g, rfl, _⟩
  · exact .inl h0
  · refine .inr ⟨g, rfl, fun j u hj => ?_⟩
    have := h.cells (g := g) rfl j u hj
    rwa [Addr.add_lit, Nat.zero_add] at this

set_option maxRecDepth 100000 in
set_option maxHeartbeats 4000000 in
theorem pflat_of {w : World} {B p : Nat} {l : List UInt8} {v : Value} {t : List Int} (h : Ar w B p l) (hl : l.length ≤ 16384) (hx : Tx w v t) (hin : InL l t) :
    Calls Tryz.prog 125 #[.agg #[v], .pointer (some ⟨p, 0, none⟩)] w (BytesPost (atL l t) w) := by
  obtain ⟨i0, hi0, hz0, hz1, hz2⟩ := info_parts info_u8
  obtain ⟨a, c, rfl, hr, hs, -, -⟩ := hx
  have htl := hs.1
  have HA := Lib.hid h
  have HR := Lib.hid hr
  have HC := Lib.hid (canon_in hin)
  have HL : Hid (∀ k, (ex ((canon t).take k)).length ≤ 20000) := fun k => by
    obtain ⟨r, h⟩ := ex_take (canon t) k
    rw [ex_canon] at h
    have := congrArg List.length h
    rw [List.length_append] at this
    omega
  have hcl := canon_count t
  have HE : Hid (atL l (ex ((canon t).take (canon t).length)) = atL l t) := by show _ = _; rw [List.take_length, ex_canon]
  have al := below_al w (Obj.cells #[Value.slice a (canon t).length c] 57)
  have HB0 := Lib.hid al
  have c0 : (w.alloc (Obj.cells #[Value.slice a (canon t).length c] 57)).cell? ⟨w.heap.size, 0, none⟩ = some (.slice a (canon t).length c) := by rw [cell_at (heap_alloc_new w _)]; rfl
  clear h hr hs hin al
  go_enter Tryz.func125, Tryz.ntmps125
  go_wp2_with fail
  clear c0
  generalize w.alloc (Obj.cells #[Value.slice a (canon t).length c] 57) = w1 at *
  go_loopw [5, 11] (fun v5 v11 wr => ∃ (k n : Nat) (a5 : Option Addr) (c5 : Nat) (xs : List Value), k ≤ (canon t).length ∧ v11 = .int .i64 k ∧ v5 = .slice a5 n c5 ∧ n = (atL l (ex ((canon t).take k))).length ∧ xs = bc (atL l (ex ((canon t).take k))) ∧ wr.ownsRow w.heap.size 5 1 (.slice a5 n c5) n xs ∧ Below w.heap.size w wr) (fun _ v11 _ => (canon t).length - (intOf v11).toNat)
  case atStart => exact ⟨0, 0, none, 0, [], by omega, rfl, rfl, by simp [atL, ex_nil], by simp [atL, ex_nil, bc], own_nil _ _ _ _, HB0.out⟩
  case round =>
    obtain ⟨k, n, a5, c5, xs, hk, rfl, rfl, hn, hxs, ho, hb⟩ := hrel
    have HO := Lib.hid ho
    have HB := Lib.hid hb
    have HNN := Lib.hid hn
    have HXS := Lib.hid hxs
    have hn2 : n ≤ 20000 := by rw [hn, atL_len]; exact HL.out k
    have hzr := hb.size
    clear ho hb hn hxs
    by_cases hlt : k < (canon t).length
    · have dk : decide (k < (canon t).length) = true := decide_eq_true hlt
      obtain ⟨b, off, rfl, hbl, hcl2⟩ := HR.out.2 (by omega)
      have hsp := spC_at (canon t) k (canon t)[k] (List.getElem?_eq_getElem hlt)
      have f1 : wr.cell? ⟨b, off + k * 2, none⟩ = some (.int .i64 (canon t)[k].1) := (HB.out.cell (p := ⟨b, off + k * 2, none⟩) hbl).trans (hcl2 _ _ hsp.1)
      have f2 : wr.cell? ⟨b, off + k * 2 + 1, none⟩ = some (.int .i64 (canon t)[k].2) := (HB.out.cell (p := ⟨b, off + k * 2 + 1, none⟩) hbl).trans (hcl2 _ _ hsp.2)
      have hbd := HC.out (canon t)[k] (List.getElem_mem hlt)
      have hst : atL l (ex ((canon t).take (k + 1))) = atL l (ex ((canon t).take k)) ++ subL l (canon t)[k].1 (canon t)[k].2 := by
        rw [List.take_succ_eq_append_getElem hlt, ex_append, ex_one, atL_app, atL_ex1 l _ hbd.1 (by omega) hbd.2.2]
      have hln : n + (subL l (canon t)[k].1 (canon t)[k].2).length ≤ 20000 := by
        have h1 := HL.out (k + 1)
        have h2 := congrArg List.length hst
        rw [List.length_append, ← HNN.out, atL_len] at h2
        omega
      have HST := Lib.hid hst
      have al := below_al wr (Obj.cells #[Value.int .i64 (canon t)[k].1, Value.int .i64 (canon t)[k].2] 59)
      have HBy := Lib.hid (abytes_of (HA.out.below (HB.out.trans (al.mono hzr))) hl (canon t)[k].1 (canon t)[k].2)
      have HOa := Lib.hid (own_below HO.out al)
      have HBa := Lib.hid (HB.out.trans (al.mono hzr))
      clear hbl hcl2 hsp hst al HR HC HL HA HO HB
      generalize subL l (canon t)[k].1 (canon t)[k].2 = y at *
      generalize (canon t)[k].1 = x1 at *
      generalize (canon t)[k].2 = x2 at *
      go_wp2_with fail
      refine HBy.out.mono ?_; rintro e w2 ⟨a6, c6, rfl, ho6, hb6⟩
      have OO2 := Lib.hid (own_below HOa.out hb6)
      have BB2 := Lib.hid (HBa.out.trans (hb6.mono HBa.out.size))
      have HSN : Hid (n + y.length = (atL l (ex ((canon t).take (k + 1)))).length) := by show _ = _; rw [HST.out, List.length_append, HNN.out]
      have HSX : Hid (xs ++ bc y = bc (atL l (ex ((canon t).take (k + 1))))) := by show _ = _; rw [HST.out, HXS.out]; simp [bc]
      have C2 := Lib.hid (bc_one y)
      have HBL := Lib.hid (bc_len y)
      have hzw : w.heap.size ≤ w2.heap.size := BB2.out.size
      rcases own_formD ho6 with ⟨rfl, h0, rfl⟩ | ⟨g, rfl, hc6⟩
      · have HE2 : Hid (n = (atL l (ex ((canon t).take (k + 1)))).length) := by show _ = _; rw [← HSN.out]; omega
        have HX2 : Hid (xs = bc (atL l (ex ((canon t).take (k + 1))))) := by
          show _ = _
          rw [← HSX.out, show bc y = [] from List.length_eq_zero_iff.1 (by rw [bc_len]; exact h0), List.append_nil]
        clear HSN HSX HST HNN HXS ho6 hb6 HBL
        generalize y.length = m at *
        subst h0
        go_wp2_with (first
          | (at_builtin; refine wpList_append_own_none rfl (.tmp 15) (.tmp 18) 32 rfl w.heap.size 5 i0 1 Tryz.underlying32 hi0 (.slice a5 n c5) n xs rfl OO2.out rfl ?_)
          | fail)
        go_wp2_with fail
        go_roundw
        case rel => exact ⟨k + 1, n, a5, c5, xs, hlt, by go_num, rfl, HE2.out, HX2.out, OO2.out, BB2.out⟩
        case measure => simp [intOf]; omega
      · have C0 : Hid ((bc y).length = y.length * 1) := by show _ = _; rw [HBL.out]; omega
        have C1 : Hid (∀ j u, (bc y)[j]? = some u → w2.cell? (Addr.add ⟨g, 0, none⟩ j) = some u) := by
          intro j u hj
          rw [Addr.add_lit, Nat.zero_add]
          exact hc6 j u hj
        have C3 : Hid (n + y.length ≤ maxLen) := by show _ ≤ _; unfold maxLen; omega
        have C4 : Hid ((n + y.length) * 1 ≤ 140737488355328) := by show _ ≤ _; omega
        have C5 : Hid (w.heap.size ≤ w2.heap.size) := hzw
        clear hc6 ho6 hb6 HST HNN HXS HBL
        generalize bc y = ys at *
        generalize y.length = m at *
        go_wp2_with (first
          | (at_builtin; refine wpList_append_own _ rfl (.tmp 15) (.tmp 18) 32 rfl w.heap.size 5 i0 (.int .u8 0) 1 1 Tryz.underlying32 hi0 hz0 hz1 hz2 rfl (by decide) (.slice a5 n c5) n xs rfl OO2.out ⟨g, 0, none⟩ m c6 ys rfl C0.out C1.out C2.out C3.out C4.out C5.out ?_)
          | fail)
        intro v7 wB ho7 hg7 _
        obtain ⟨A9, C9, rfl⟩ := own_slice ho7
        have OF := Lib.hid ho7
        have BF := Lib.hid (BB2.out.grown hg7 hzw (fun q hq => (OO2.out.lt q hq).1))
        clear ho7 hg7 C0 C1 C2 C3 C4 C5
        go_wp2_with fail
        go_roundw
        case rel => exact ⟨k + 1, n + m, A9, C9, _, hlt, by go_num, rfl, HSN.out, HSX.out, OF.out, BF.out⟩
        case measure => simp [intOf]; omega
    · have dk : decide (k < (canon t).length) = false := decide_eq_false hlt
      obtain rfl : k = (canon t).length := by omega
      have h1 := HNN.out
      have h2 := HXS.out
      rw [HE.out] at h1 h2
      subst h1 h2
      go_wp2_with fail
      go_ret
      exact ⟨a5, c5, rfl, HO.out, HB.out⟩

theorem atL_span {l : List UInt8} {i n : Nat} (h : i + n ≤ l.length) : atL l (ex [((i : Int), (n : Int))]) = (l.drop i).take n := by
  rw [ex_one, atL_ex1 l _ (by simp) (by simp) (by simp only; omega)]
  unfold subL rightB
  rw [if_pos (by simp only [decide_eq_true_eq]; omega)]
  simp

end Go.Proofs.YtkgakgceamafcaaGreat

namespace Go.Proofs.YtkgakgceamafcaaGreat
open Go Go.RowKit
set_option linter.unusedVariables false

theorem keepR_err (l f : List UInt8) (h : (keepR l f).2.2 ≠ 0) : (keepR l f).2.2 = 6 ∧ keepL l f = l ∧ (16384 : Int) - l.length < f.length := by
  unfold keepR keepL at *
  split at h
  · rename_i hc
    rw [if_pos hc, if_pos hc]
    unfold addR addL at *
    split at h
    · rename_i h1
      rw [if_pos h1, if_pos h1]
      exact ⟨rfl, rfl, h1⟩
    · split at h <;> simp at h
  · simp at h
theorem keepR_ok (l f : List UInt8) (hl : l.length ≤ 16384) (h : (keepR l f).2.2 = 0) :
    ∃ i : Nat, (keepR l f).1 = (i : Int) ∧ (keepR l f).2.1 = (f.length : Int) ∧ i + f.length ≤ (keepL l f).length ∧ (keepL l f).length ≤ 16384 ∧ ((keepL l f).drop i).take f.length = f := by
  unfold keepR keepL at *
  by_cases hc : f.length = 0 ∨ Lib.index l f < 0
  · rw [if_pos hc] at h ⊢
    rw [if_pos hc]
    unfold addR addL at *
    by_cases h1 : (16384 : Int) - l.length < f.length
    · rw [if_pos h1] at h; simp at h
    · rw [if_neg h1]
      rw [if_neg h1]
      by_cases h2 : f.length = 0
      · rw [if_pos h2]
        obtain rfl := List.eq_nil_of_length_eq_zero h2
        exact ⟨0, rfl, by simp, by simp, by simp; omega, by simp⟩
      · rw [if_neg h2]
        exact ⟨l.length, rfl, rfl, by simp, by simp; omega, by simp⟩
  · rw [if_neg hc] at h ⊢
    rw [if_neg hc]
    rcases Lib.index_spec l f with ⟨h1, _⟩ | ⟨i, h1, h2, h3, _⟩
    · omega
    · have hr := Lib.index_room l f (by omega)
      rw [h1] at hr
      refine ⟨i, h1, rfl, by omega, hl, ?_⟩
      unfold Lib.occAt at h3
      have hp := List.isPrefixOf_iff_prefix.1 h3
      exact (List.prefix_iff_eq_take.1 hp).symm

/-- What Tidy tells of a text of many spans. -/
def TidyPost (l f : List UInt8) (B p : Nat) (w : World) (e : Ending) (w' : World) : Prop :=
  Ar w' B p (keepL l f) ∧ Turned B w w' ∧
  (((keepR l f).2.2 ≠ 0 ∧ e = .returned (.tuple #[.agg #[.slice none 0 0], .int .i64 (keepR l f).2.2])) ∨
   ((keepR l f).2.2 = 0 ∧ ∃ a n c, e = .returned (.tuple #[.agg #[.slice a n c], .int .i64 0]) ∧ TxB w.heap.size w' (.slice a n c) (ex [((keepR l f).1, (f.length : Int))])))
theorem sm_kept {i n : Nat} (h : i + n ≤ 16384) : Sm (ex [((i : Int), (n : Int))]) := by
  rw [ex_one, ex1_nat]
  refine ⟨by simp; omega, fun x hx => ?_⟩
  rw [List.mem_map] at hx
  obtain ⟨k, hk, rfl⟩ := hx
  rw [List.mem_range] at hk
  omega
theorem of_one {w : World} {b c : Nat} {fr : Nat × Nat} {ty : TypeId} {i n : Nat} (h : w.heap[b]? = some (.cells #[.int .i64 i, .int .i64 n] ty fr)) (hin : i + n ≤ 16384) :
    Calls Tryz.prog 146 #[.slice (some ⟨b, 0, none⟩) 1 c] w fun e w' => ∃ a m c', e = .returned (.agg #[.slice a m c']) ∧ TxB w.heap.size w' (.slice a m c') (ex [((i : Int), (n : Int))]) ∧ Below w.heap.size w w' := by
  have hr : Rd w 2 (some ⟨b, 0, none⟩) [((i : Int), (n : Int))].length (spC [((i : Int), (n : Int))]) := ⟨by simp [spC_len], fun _ => ⟨b, 0, rfl, lt_of_heap h, fun j u hj => by rw [Nat.zero_add, cell_at h]; simpa [spC] using hj⟩⟩
  refine (tof_of (c := c) hr (by simp) (by intro s hs; obtain rfl := List.mem_singleton.1 hs; unfold In40; simp only; omega) (sm_kept hin)).mono ?_
  rintro e w' ⟨v', rfl, hx, hb⟩
  have hx2 := hx
  obtain ⟨a, c', rfl, -, -, -, -⟩ := hx2
  exact ⟨a, _, c', rfl, hx, hb⟩

end Go.Proofs.YtkgakgceamafcaaGreat

namespace Go.Proofs.YtkgakgceamafcaaGreat
open Go Go.RowKit
set_option linter.unusedVariables false

/-- A text with this byte needs quotes. -/
def spB (c : Int) : Bool := decide (c = 44 ∨ c = 34 ∨ c = 13 ∨ c = 10)
def needsP (l : List UInt8) : Bool := decide (∃ k, k < l.length ∧ spB (lb l k) = true)
def dupB (c : UInt8) : List UInt8 := if (c.toNat : Int) = 34 then [c, c] else [c]
/-- A text as a field. -/
def putP (l : List UInt8) : List UInt8 := if needsP l = true then 34 :: (l.flatMap dupB ++ [34]) else l
def endedP (c : Int) : Int := if c = 44 then 0 else if c = 13 then 4 else 5
/-- To which place a byte leads. -/
def nextP (p c : Int) : Int :=
  if p = 2 then (if c = 34 then 3 else 2)
  else if p = 4 then (if c = 10 then 0 else 5)
  else if p = 0 then (if c = 34 then 2 else if spB c = true then endedP c else 1)
  else if p = 1 then (if spB c = true then endedP c else 1)
  else if p = 3 then (if c = 34 then 2 else endedP c)
  else 5
def runP (l : List UInt8) : Int := l.foldl (fun p c => nextP p (c.toNat : Int)) 0
/-- At which places a right file may end. -/
def mayP (p : Int) : Bool := decide (p = 0 ∨ p = 1 ∨ p = 3)
/-- Is a file right? -/
def rightP (l : List UInt8) : Bool := mayP (runP l)
theorem endedP_range (c : Int) : 0 ≤ endedP c ∧ endedP c ≤ 5 := by unfold endedP; split <;> (try split) <;> omega
theorem nextP_range (p c : Int) : 0 ≤ nextP p c ∧ nextP p c ≤ 5 := by
  have := endedP_range c
  unfold nextP
  repeat' split
  all_goals omega
theorem runP_range (l : List UInt8) : 0 ≤ runP l ∧ runP l ≤ 5 := by
  rcases List.eq_nil_or_concat l with rfl | ⟨l0, c, rfl⟩
  · exact ⟨by decide, by decide⟩
  · rw [List.concat_eq_append]
    unfold runP
    rw [List.foldl_append]
    exact nextP_range _ _
theorem runP_take {l : List UInt8} {k : Nat} (h : k < l.length) : runP (l.take (k + 1)) = nextP (runP (l.take k)) (lb l k) := by
  rw [List.take_succ_eq_append_getElem h]
  unfold runP
  rw [List.foldl_append]
  unfold lb
  rw [List.getD_eq_getElem?_getD, List.getElem?_eq_getElem h]
  rfl

theorem special_yes (x : Int) (h : spB x = true) (w : World) : Calls Tryz.prog 201 #[.int .u8 x] w fun e w' => e = .returned (.bool true) ∧ w = w' := by
  unfold spB at h
  simp only [decide_eq_true_eq] at h
  rcases h with rfl | rfl | rfl | rfl
  all_goals
    go_enter Tryz.func201, Tryz.ntmps201
    go_wp2_with fail
    go_ret
    exact ⟨rfl, rfl⟩
theorem special_no (x : Int) (h : spB x = false) (w : World) : Calls Tryz.prog 201 #[.int .u8 x] w fun e w' => e = .returned (.bool false) ∧ w = w' := by
  unfold spB at h
  simp only [decide_eq_false_iff_not, not_or] at h
  have d1 : (x == 44) = false := by simpa using h.1
  have d2 : (x == 34) = false := by simpa using h.2.1
  have d3 : (x == 13) = false := by simpa using h.2.2.1
  have d4 : (x == 10) = false := by simpa using h.2.2.2
  clear h
  go_enter Tryz.func201, Tryz.ntmps201
  go_wp2_with fail
  go_ret
  exact ⟨rfl, rfl⟩
/-- Some place. -/
theorem idxf_no {w : World} {a : Option Addr} {c : Nat} {l : List UInt8} (hr : Rd w 1 a l.length (bc l)) (hl : l.length ≤ 1000000) (h : ∀ k, k < l.length → spB (lb l k) = false) :
    Calls Tryz.prog 210 #[.slice a l.length c, .func (.func 201) #[] #[]] w fun e w' => e = .returned (.int .i64 (-1)) ∧ w = w' := by
  have HR := Lib.hid hr
  have HX := Lib.hid h
  clear hr h
  go_enter Tryz.func210, Tryz.ntmps210
  go_wp2_with fail
  go_loop [8] (fun v => ∃ k : Nat, k ≤ l.length ∧ v = .int .i64 k) (fun v => l.length - (intOf v).toNat)
  case atStart => exact ⟨0, by omega, rfl⟩
  case round =>
    obtain ⟨k, hk, rfl⟩ := hrel
    by_cases hlt : k < l.length
    · have dk : decide (k < l.length) = true := decide_eq_true hlt
      obtain ⟨b, off, rfl, hb, hc⟩ := rd_at HR.out hlt
      have HM := Lib.hid (special_no _ (HX.out k hlt))
      generalize lb l k = y at *
      go_wp2_with (go_at_call 201; refine (HM.out _).mono ?_; rintro e w' ⟨rfl, rfl⟩)
      go_round
      case rel => exact ⟨k + 1, hlt, by go_num⟩
      case measure => simp [intOf]; omega
    · have dk : decide (k < l.length) = false := decide_eq_false hlt
      go_wp2_with fail
      go_ret
      exact ⟨rfl, rfl⟩
theorem idxf_yes {w : World} {a : Option Addr} {c : Nat} {l : List UInt8} (hr : Rd w 1 a l.length (bc l)) (hl : l.length ≤ 1000000) (h : ∃ k, k < l.length ∧ spB (lb l k) = true) :
    Calls Tryz.prog 210 #[.slice a l.length c, .func (.func 201) #[] #[]] w (SomeIdx w) := by
  have HR := Lib.hid hr
  obtain ⟨q, hq, hqx⟩ := h
  have HQ := Lib.hid hqx
  clear hr hqx
  go_enter Tryz.func210, Tryz.ntmps210
  go_wp2_with fail
  go_loop [8] (fun v => ∃ k : Nat, k ≤ q ∧ v = .int .i64 k) (fun v => l.length - (intOf v).toNat)
  case atStart => exact ⟨0, by omega, rfl⟩
  case round =>
    obtain ⟨k, hk, rfl⟩ := hrel
    have hlt : k < l.length := by omega
    have dk : decide (k < l.length) = true := decide_eq_true hlt
    obtain ⟨b, off, rfl, hb, hc⟩ := rd_at HR.out hlt
    by_cases hm : spB (lb l k) = true
    · have HM := Lib.hid (special_yes _ hm)
      clear hm HQ
      generalize lb l k = y at *
      go_wp2_with (go_at_call 201; refine (HM.out _).mono ?_; rintro e w' ⟨rfl, rfl⟩)
      go_ret
      exact ⟨k, rfl, rfl⟩
    · have HM := Lib.hid (special_no _ (Bool.eq_false_iff.2 hm))
      have hkq : k < q := by
        have := HQ.out
        rcases Nat.lt_or_ge k q with h | h
        · exact h
        · obtain rfl : k = q := by omega
          exact absurd this hm
      clear hm HQ
      generalize lb l k = y at *
      go_wp2_with (go_at_call 201; refine (HM.out _).mono ?_; rintro e w' ⟨rfl, rfl⟩)
      go_round
      case rel => exact ⟨k + 1, hkq, by go_num⟩
      case measure => simp [intOf]; omega
theorem qneeds_of {w : World} {a : Option Addr} {c : Nat} {l : List UInt8} (hr : Rd w 1 a l.length (bc l)) (hl : l.length ≤ 1000000) :
    Calls Tryz.prog 178 #[.slice a l.length c] w fun e w' => e = .returned (.bool (needsP l)) ∧ w = w' := by
  have HCF : Hid (Calls Tryz.prog 200 #[.slice a l.length c, .func (.func 201) #[] #[]] w fun e w' => e = .returned (.bool (needsP l)) ∧ w = w') := by
    by_cases h : ∃ k, k < l.length ∧ spB (lb l k) = true
    · have e : needsP l = true := decide_eq_true h
      rw [e]
      have HC := Lib.hid (idxf_yes (c := c) hr hl h)
      clear hr h e
      show Calls _ _ _ _ _
      go_enter Tryz.func200, Tryz.ntmps200
      go_wp2_with (go_at_call 210; refine HC.out.mono ?_; rintro e w' ⟨r, rfl, rfl⟩; have hr0 : decide ((0 : Int) ≤ (r : Int)) = true := decide_eq_true (by omega))
      go_ret
      exact ⟨rfl, rfl⟩
    · have e : needsP l = false := decide_eq_false h
      rw [e]
      have HC := Lib.hid (idxf_no (c := c) hr hl (fun k hk => Bool.eq_false_iff.2 (fun hh => h ⟨k, hk, hh⟩)))
      clear hr h e
      show Calls _ _ _ _ _
      go_enter Tryz.func200, Tryz.ntmps200
      go_wp2_with (go_at_call 210; refine HC.out.mono ?_; rintro e w' ⟨rfl, rfl⟩)
      go_ret
      exact ⟨rfl, rfl⟩
  clear hr
  go_enter Tryz.func178, Tryz.ntmps178
  go_wp2_with (go_at_call 200; refine HCF.out.mono ?_; rintro e w' ⟨rfl, rfl⟩)
  go_ret
  exact ⟨rfl, rfl⟩

end Go.Proofs.YtkgakgceamafcaaGreat
