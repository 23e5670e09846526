/-
  The contracts of the document's own answer for layer 5: quote, mark, till, places, Text, at this seat's numbers.
-/
import Derived.Test.YtmdifcgnmkpecaaArI
import Derived.Test.YtmdifcgnmkpecaaScP
import Derived.Test.YtmdifcgnmkpecaaScF
namespace Go.Proofs.Ytmdifcgnmkpecaa
open Go Go.RowKit
set_option linter.unusedVariables false

theorem lb_get {s : ByteArray} {l : List UInt8} (h : s.data.toList = l) {i : Nat} (hi : i < s.size) : ((s[i]'hi).toNat : Int) = lb l i := by
  subst h; exact bt_get s i hi
theorem sz_of {s : ByteArray} {l : List UInt8} (h : s.data.toList = l) : s.size = l.length := by subst h; rfl

theorem rquote_yes {s : ByteArray} {l : List UInt8} (hs : s.data.toList = l) (hl : l.length ≤ 1000000) (i : Nat) (h : quAt l i = true) (w : World) :
    Calls Try.prog 92 #[.string s, .int .i64 i] w fun e w' => e = .returned (.bool true) ∧ w = w' := by
  obtain ⟨hlt, hq⟩ := quAt_yes h
  have hsz := sz_of hs
  have hb := lb_get hs (i := i) (by omega)
  rw [hq] at hb
  have dk : decide (i < l.length) = true := decide_eq_true hlt
  clear hs h hq
  go_enter Try.func92, Try.ntmps92
  go_wp2_with fail
  go_ret
  exact ⟨rfl, rfl⟩
theorem rquote_no {s : ByteArray} {l : List UInt8} (hs : s.data.toList = l) (hl : l.length ≤ 1000000) (i : Nat) (h : quAt l i = false) (w : World) :
    Calls Try.prog 92 #[.string s, .int .i64 i] w fun e w' => e = .returned (.bool false) ∧ w = w' := by
  have hsz := sz_of hs
  by_cases hlt : i < l.length
  · rw [quAt_in hlt] at h
    simp only [decide_eq_false_iff_not] at h
    have hb := lb_get hs (i := i) (by omega)
    have d1 : (lb l i == 34) = false := by simpa using h
    have dk : decide (i < l.length) = true := decide_eq_true hlt
    clear hs h
    generalize lb l i = x at *
    go_enter Try.func92, Try.ntmps92
    go_wp2_with fail
    go_ret
    exact ⟨rfl, rfl⟩
  · have dk : decide (i < l.length) = false := decide_eq_false hlt
    clear hs h
    go_enter Try.func92, Try.ntmps92
    go_wp2_with fail
    go_ret
    exact ⟨rfl, rfl⟩
theorem rmarkAt_yes {s : ByteArray} {l : List UInt8} (hs : s.data.toList = l) (hl : l.length ≤ 1000000) (i : Nat) (h : mkAt l i = true) (w : World) :
    Calls Try.prog 108 #[.string s, .int .i64 i] w fun e w' => e = .returned (.bool true) ∧ w = w' := by
  have hsz := sz_of hs
  by_cases hlt : i < l.length
  · rw [mkAt_in hlt] at h
    unfold mkB at h
    simp only [decide_eq_true_eq] at h
    have hb := lb_get hs (i := i) (by omega)
    have dk : decide (l.length ≤ i) = false := decide_eq_false (by omega)
    clear hs
    generalize lb l i = x at *
    rcases h with rfl | rfl | rfl
    all_goals
      go_enter Try.func108, Try.ntmps108
      go_wp2_with fail
      go_ret
      exact ⟨rfl, rfl⟩
  · have dk : decide (l.length ≤ i) = true := decide_eq_true (by omega)
    clear hs h
    go_enter Try.func108, Try.ntmps108
    go_wp2_with fail
    go_ret
    exact ⟨rfl, rfl⟩
theorem rmarkAt_no {s : ByteArray} {l : List UInt8} (hs : s.data.toList = l) (hl : l.length ≤ 1000000) (i : Nat) (h : mkAt l i = false) (w : World) :
    Calls Try.prog 108 #[.string s, .int .i64 i] w fun e w' => e = .returned (.bool false) ∧ w = w' := by
  have hsz := sz_of hs
  obtain ⟨hlt, hm⟩ := mkAt_no h
  unfold mkB at hm
  simp only [decide_eq_false_iff_not, not_or] at hm
  have hb := lb_get hs (i := i) (by omega)
  have dk : decide (l.length ≤ i) = false := decide_eq_false (by omega)
  have d1 : (lb l i == 44) = false := by simpa using hm.1
  have d2 : (lb l i == 13) = false := by simpa using hm.2.1
  have d3 : (lb l i == 10) = false := by simpa using hm.2.2
  clear hs h hm
  generalize lb l i = x at *
  go_enter Try.func108, Try.ntmps108
  go_wp2_with fail
  go_ret
  exact ⟨rfl, rfl⟩

set_option maxHeartbeats 800000 in
theorem rtill_of {s : ByteArray} {l : List UInt8} (hs : s.data.toList = l) (hl : l.length ≤ 1000000) (i : Nat) (hi : i ≤ l.length) (w : World) :
    Calls Try.prog 93 #[.string s, .int .i64 i] w fun e w' => e = .returned (.int .i64 (till l i)) ∧ w = w' := by
  have HS := Lib.hid hs
  clear hs
  go_enter Try.func93, Try.ntmps93
  go_wp2_with fail
  go_loop [1] (fun v => ∃ k : Nat, k ≤ l.length ∧ v = .int .i64 k ∧ till l k = till l i) (fun v => l.length - (intOf v).toNat)
  case atStart => exact ⟨i, hi, rfl, rfl⟩
  case round =>
    obtain ⟨k, hk, rfl, ht⟩ := hrel
    have HT := Lib.hid ht
    clear ht
    by_cases hm : mkAt l k = true
    · have HM := Lib.hid (rmarkAt_yes HS.out hl k hm)
      have HE := Lib.hid (till_stop hm)
      clear hm
      go_wp2_with (go_at_call 108; refine (HM.out _).mono ?_; rintro e w' ⟨rfl, rfl⟩)
      go_ret
      exact ⟨by rw [← HT.out, HE.out] <;> rfl, rfl⟩
    · have hm := Bool.eq_false_iff.2 hm
      have hlt := (mkAt_no hm).1
      have HM := Lib.hid (rmarkAt_no HS.out hl k hm)
      have HE := Lib.hid (till_step hm)
      clear hm
      go_wp2_with (go_at_call 108; refine (HM.out _).mono ?_; rintro e w' ⟨rfl, rfl⟩)
      go_round
      case rel => exact ⟨k + 1, hlt, by go_num, by rw [← HT.out, HE.out]⟩
      case measure => simp [intOf]; omega

/-- The cells of numbers. -/
def inC (t : List Int) : List Value := t.map (Value.int .i64)
theorem inC_len (t : List Int) : (inC t).length = t.length := by simp [inC]
theorem inC_snoc (t : List Int) (x : Int) : inC (t ++ [x]) = inC t ++ [.int .i64 x] := by simp [inC]
theorem info_int : (Try.prog.info? 3).map (fun i => (i.zero, i.size, i.bytes)) = some (some (.int .i64 0), 1, 8) := by kernel_rfl

set_option maxRecDepth 100000 in
set_option maxHeartbeats 1600000 in
theorem places_of {w : World} {B c : Nat} {a : Option Addr} {t : List Int} (ho : w.ownsRow B 3 1 (.slice a t.length c) t.length (inC t)) (hB : B ≤ w.heap.size) (i j : Nat) (hij : i ≤ j) (hj : j ≤ 1000000) (htl : t.length ≤ 1000000) :
    Calls Try.prog 94 #[.slice a t.length c, .int .i64 i, .int .i64 j] w fun e w' => ∃ a' c', e = .returned (.slice a' (t ++ pls i j).length c') ∧ w'.ownsRow B 3 1 (.slice a' (t ++ pls i j).length c') (t ++ pls i j).length (inC (t ++ pls i j)) ∧ Below B w w' ∧ w.heap.size ≤ w'.heap.size := by
  obtain ⟨i0, hi0, hz0, hz1, hz2⟩ := info_parts info_int
  have HO0 := Lib.hid ho
  clear ho
  go_enter Try.func94, Try.ntmps94
  go_wp2_with fail
  go_loopw [0, 7] (fun v0 v7 wr => ∃ (k : Nat) (a0 : Option Addr) (c0 : Nat), i ≤ k ∧ k ≤ j ∧ v7 = .int .i64 k ∧ v0 = .slice a0 (t ++ pls i k).length c0 ∧ wr.ownsRow B 3 1 (.slice a0 (t ++ pls i k).length c0) (t ++ pls i k).length (inC (t ++ pls i k)) ∧ Below B w wr ∧ w.heap.size ≤ wr.heap.size) (fun _ v7 _ => j - (intOf v7).toNat)
  case atStart => exact ⟨i, a, c, Nat.le_refl _, hij, rfl, by rw [pls_nil, List.append_nil], by rw [pls_nil, List.append_nil]; exact HO0.out, Below.refl _ _, Nat.le_refl _⟩
  case round =>
    obtain ⟨k, a0, c0, hik, hkj, rfl, rfl, ho, hb, hz⟩ := hrel
    have HO := Lib.hid ho
    have HB := Lib.hid hb
    clear ho hb
    have hpn : (t ++ pls i k).length ≤ 2000000 := by rw [List.length_append, pls_len]; omega
    by_cases hlt : k < j
    · have dk : decide (k < j) = true := decide_eq_true hlt
      have dk' : decide ((k : Int) < (j : Int)) = true := decide_eq_true (by omega)
      have HS := Lib.hid (show t ++ pls i (k + 1) = (t ++ pls i k) ++ [(k : Int)] by rw [pls_snoc i k hik, List.append_assoc])
      generalize hp : t ++ pls i k = p at *
      have HP := Lib.hid hp
      clear hp
      go_wp2_with (first
        | (at_builtin; refine wpList_append_own _ rfl (.tmp 14) (.tmp 16) 44 rfl B 3 i0 (.int .i64 0) 1 8 Try.underlying44 hi0 hz0 hz1 hz2 rfl (by decide) (.slice a0 p.length c0) p.length (inC p) rfl (HO.out.alloc _) ⟨wr.heap.size, 0, none⟩ 1 1 [.int .i64 k] rfl rfl ?c1 ?c2 ?c3 ?c4 ?c5 ?_)
        | fail)
      case c1 =>
        intro q u hq
        rw [Addr.add_lit, Nat.zero_add]
        rw [cell_at (heap_alloc_new wr _)]
        simpa using hq
      case c2 =>
        intro u hu
        obtain rfl := List.mem_singleton.1 hu; rfl
      case c3 => unfold maxLen; omega
      case c4 => omega
      case c5 => simp only [World.size_alloc]; omega
      intro v7 wB ho7 hg7 _
      obtain ⟨a8, c8, rfl⟩ := own_slice ho7
      have HO7 := Lib.hid ho7
      have HG7 := Lib.hid hg7
      have HBB := Lib.hid ((HB.out.alloc (by omega) _).grown hg7 (by simp only [World.size_alloc]; omega) (fun q hq => (HO.out.lt q hq).1))
      clear ho7 hg7
      go_wp2_with fail
      go_roundw
      case rel => exact ⟨k + 1, a8, c8, by omega, hlt, by go_num, by rw [HS.out, List.length_append]; rfl, by rw [HS.out, List.length_append, inC_snoc]; exact HO7.out, HBB.out, by have := HG7.out.size; simp only [World.size_alloc] at this; omega⟩
      case measure => simp [intOf]; omega
    · have dk : decide (k < j) = false := decide_eq_false hlt
      have dk' : decide ((k : Int) < (j : Int)) = false := decide_eq_false (by omega)
      obtain rfl : k = j := by omega
      go_wp2_with fail
      go_ret
      exact ⟨a0, c0, rfl, HO.out, HB.out, hz⟩

/-- The bytes at places. -/
def atL (l : List UInt8) (t : List Int) : List UInt8 := t.map fun x => l.getD x.toNat 0
theorem atL_snoc (l : List UInt8) (t : List Int) (x : Int) : atL l (t ++ [x]) = atL l t ++ [l.getD x.toNat 0] := by simp [atL]
theorem ext_one {s : ByteArray} {l : List UInt8} (hs : s.data.toList = l) (i : Nat) (hi : i < l.length) : s.extract i (i + 1) = strOf [l.getD i 0] := by
  subst hs
  apply ByteArray.ext
  apply Array.ext'
  simp only [strOf, ByteArray.data_extract, Array.toList_extract, List.extract_eq_take_drop]
  rw [show i + 1 - i = 1 by omega, List.drop_eq_getElem_cons hi, List.getD_eq_getElem?_getD, List.getElem?_eq_getElem hi]
  rfl

set_option maxHeartbeats 1600000 in
theorem text_of {s : ByteArray} {l : List UInt8} (hs : s.data.toList = l) (hl : l.length ≤ 1000000) {w : World} {a : Option Addr} {c : Nat} {t : List Int} (hr : Rd w 1 a t.length (inC t)) (ht : ∀ x ∈ t, 0 ≤ x ∧ x < l.length) (htl : t.length ≤ 1000000) :
    Calls Try.prog 16 #[.string s, .slice a t.length c] w fun e w' => e = .returned (.string (strOf (atL l t))) ∧ w = w' := by
  have HS := Lib.hid hs
  have hsz := sz_of hs
  have HR := Lib.hid hr
  have HT := Lib.hid ht
  clear hs hr ht
  go_enter Try.func16, Try.ntmps16
  go_wp2_with fail
  go_loop [5, 10] (fun v5 v10 => ∃ k : Nat, k ≤ t.length ∧ v10 = .int .i64 k ∧ v5 = .string (strOf (atL l (t.take k)))) (fun _ v10 => t.length - (intOf v10).toNat)
  case atStart => exact ⟨0, by omega, rfl, rfl⟩
  case round =>
    obtain ⟨k, hk, rfl, rfl⟩ := hrel
    have hsk : (strOf (atL l (t.take k))).size ≤ 1000000 := by rw [strOf_size]; simp [atL]; omega
    by_cases hlt : k < t.length
    · have dk : decide (k < t.length) = true := decide_eq_true hlt
      obtain ⟨b, off, rfl, hb, hcl⟩ := HR.out.2 (by omega)
      have hx := HT.out t[k] (List.getElem_mem hlt)
      obtain ⟨x, hxe⟩ := Int.eq_ofNat_of_zero_le hx.1
      have hc := hcl k (.int .i64 t[k]) (by unfold inC; rw [List.getElem?_map, List.getElem?_eq_getElem hlt]; rfl)
      rw [hxe] at hc
      have hxl : x < l.length := by omega
      have HX := Lib.hid (ext_one HS.out x hxl)
      have HTK := Lib.hid (show atL l (t.take (k + 1)) = atL l (t.take k) ++ [l.getD x 0] by rw [List.take_succ_eq_append_getElem hlt, atL_snoc, hxe]; rfl)
      clear hcl hx hxe
      generalize atL l (t.take k) = A at *
      go_wp2_with fail
      go_round
      case rel => exact ⟨k + 1, hlt, by go_num, by rw [HTK.out, ← strOf_app, ← HX.out]⟩
      case measure => simp [intOf]; omega
    · have dk : decide (k < t.length) = false := decide_eq_false hlt
      obtain rfl : k = t.length := by omega
      rw [List.take_length]
      go_wp2_with fail
      go_ret
      exact ⟨rfl, rfl⟩

theorem subL_ex1 {l : List UInt8} {a n : Nat} (h : a + n ≤ l.length) : subL l a n = atL l (ex1 ((a : Int), (n : Int))) := by
  unfold subL
  rw [if_pos (by unfold rightB; simp only [decide_eq_true_eq]; omega)]
  simp only [Int.toNat_natCast]
  unfold atL
  rw [ex1_nat, List.map_map]
  apply List.ext_getElem?
  intro k
  rw [List.getElem?_take, List.getElem?_map]
  by_cases hk : k < n
  · rw [if_pos hk, List.getElem?_drop, List.getElem?_range hk]
    have e : ((a : Int) + (k : Int)).toNat = a + k := by omega
    simp only [Option.map_some, Function.comp, e]
    rw [List.getElem?_eq_getElem (by omega), List.getD_eq_getElem?_getD, List.getElem?_eq_getElem (by omega)]
    rfl
  · rw [if_neg hk, List.getElem?_eq_none (by simp; omega)]; rfl
theorem valL_ex (l : List UInt8) : ∀ ps : List (Int × Int), (∀ s ∈ ps, 0 ≤ s.1 ∧ 0 ≤ s.2 ∧ s.1 + s.2 ≤ l.length) → valL l ps = atL l (ex ps)
  | [], _ => rfl
  | s :: ps, h => by
    have hs := h s (by simp)
    have ih := valL_ex l ps (fun z hz => h z (by simp [hz]))
    have e1 : valL l (s :: ps) = subL l s.1 s.2 ++ valL l ps := by unfold valL; simp
    have e2 : ex (s :: ps) = ex1 s ++ ex ps := by unfold ex; simp
    obtain ⟨a, n⟩ := s
    simp only at hs
    obtain ⟨a, rfl⟩ := Int.eq_ofNat_of_zero_le hs.1
    obtain ⟨n, rfl⟩ := Int.eq_ofNat_of_zero_le hs.2.1
    rw [e1, e2, ih, subL_ex1 (by omega)]
    unfold atL
    simp
theorem valL_canon {l : List UInt8} {t : List Int} (ht : ∀ x ∈ t, 0 ≤ x ∧ x < l.length) : valL l (canon t) = atL l t := by
  rw [valL_ex l (canon t) (fun s hs => ?_), ex_canon]
  have hf := canon_full t s hs
  have hin : ∀ x ∈ ex1 s, x ∈ t := fun x hx => by rw [← ex_canon t]; unfold ex; exact List.mem_flatMap.2 ⟨s, hs, hx⟩
  have h1 := ht _ (hin s.1 (by unfold ex1; exact List.mem_map.2 ⟨0, List.mem_range.2 (by omega), by simp⟩))
  have h2 := ht _ (hin (s.1 + (s.2 - 1)) (by unfold ex1; exact List.mem_map.2 ⟨(s.2 - 1).toNat, List.mem_range.2 (by omega), by omega⟩))
  omega

end Go.Proofs.Ytmdifcgnmkpecaa
