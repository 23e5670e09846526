/-
  The contracts of the document's Flat and of the statement's within (layer 4), at this seat's numbers.
-/
import Derived.Test.YtelnehjmkjpjhaaPcW
import Derived.Test.YtelnehjmkjpjhaaPcU
namespace Go.Proofs.Ytelnehjmkjpjhaa
open Go Go.RowKit
set_option linter.unusedVariables false

set_option maxHeartbeats 1600000 in
theorem rflat_of {s : ByteArray} {l : List UInt8} (hs : s.data.toList = l) (hl : l.length ≤ 1000000) {w : World} {a : Option Addr} {c : Nat} {t : List Int} (hr : Rd w 1 a t.length (inC t)) (ht : InL l t) (htl : t.length ≤ 1000000) :
    Calls Try.prog 39 #[.slice a t.length c, .string s] w fun e w' => e = .returned (.string (strOf (atL l t))) ∧ w = w' := by
  have HS := Lib.hid hs
  have hsz := sz_of hs
  have HR := Lib.hid hr
  have HT := Lib.hid ht
  clear hs hr ht
  go_enter Try.func39, Try.ntmps39
  go_wp2_with fail
  go_loop [5, 10] (fun v5 v10 => ∃ k : Nat, k ≤ t.length ∧ v10 = .int .i64 k ∧ v5 = .string (strOf (atL l (t.take k)))) (fun _ v10 => t.length - (intOf v10).toNat)
  case atStart => exact ⟨0, by omega, rfl, rfl⟩
  case round =>
    obtain ⟨k, hk, rfl, rfl⟩ := hrel
    have hsk : (strOf (atL l (t.take k))).size ≤ 1000000 := by rw [strOf_size]; simp [atL]; omega
    by_cases hlt : k < t.length
    · have dk : decide (k < t.length) = true := decide_eq_true hlt
      obtain ⟨b, off, rfl, hb, hcl⟩ := HR.out.2 (by omega)
      have hx := HT.out t[k] (List.getElem_mem hlt)
      obtain ⟨x, hxe⟩ := Int.eq_ofNat_of_zero_le hx.1
      have hc := hcl k (.int .i64 t[k]) (by unfold inC; rw [List.getElem?_map, List.getElem?_eq_getElem hlt]; rfl)
      rw [hxe] at hc
      have hxl : x < l.length := by omega
      have d1 : decide ((x : Int) < (l.length : Int)) = true := decide_eq_true (by omega)
      have d2 : decide (x < l.length) = true := decide_eq_true hxl
      have d3 : decide ((0 : Int) ≤ (x : Int)) = true := decide_eq_true (by omega)
      have HX := Lib.hid (ext_one HS.out x hxl)
      have HTK := Lib.hid (show atL l (t.take (k + 1)) = atL l (t.take k) ++ [l.getD x 0] by rw [List.take_succ_eq_append_getElem hlt, atL_snoc, hxe]; rfl)
      clear hcl hx hxe
      generalize atL l (t.take k) = A at *
      go_wp2_with fail
      go_round
      case rel => exact ⟨k + 1, hlt, by go_num, by rw [HTK.out, ← strOf_app, ← HX.out]⟩
      case measure => simp [intOf]; omega
    · have dk : decide (k < t.length) = false := decide_eq_false hlt
      obtain rfl : k = t.length := by omega
      rw [List.take_length]
      go_wp2_with fail
      go_ret
      exact ⟨rfl, rfl⟩

/-- The spans that fit. -/
def fitK (n : Nat) (L : List Sp) (k : Nat) : List Sp := (L.take k).filter fun s => decide (s.1 ≤ n ∧ s.2 ≤ n - s.1)
theorem fitK_step {n : Nat} {L : List Sp} {k : Nat} (h : k < L.length) : fitK n L (k + 1) = if L[k].1 ≤ n ∧ L[k].2 ≤ n - L[k].1 then fitK n L k ++ [(L[k].1, L[k].2)] else fitK n L k := by
  unfold fitK
  rw [List.take_succ_eq_append_getElem h, List.filter_append]
  by_cases hp : L[k].1 ≤ n ∧ L[k].2 ≤ n - L[k].1
  · rw [if_pos hp]; simp [hp]
  · rw [if_neg hp, List.filter_cons_of_neg (by simpa using hp)]; simp
theorem fitK_mem {n : Nat} {L : List Sp} {k : Nat} {s : Sp} (h : s ∈ fitK n L k) : s ∈ L ∧ s.1 ≤ n ∧ s.2 ≤ n - s.1 := by
  unfold fitK at h
  rw [List.mem_filter] at h
  exact ⟨List.mem_of_mem_take h.1, by simpa using h.2⟩
theorem fitK_len (n : Nat) (L : List Sp) (k : Nat) : (fitK n L k).length ≤ L.length := by
  unfold fitK
  exact Nat.le_trans (List.length_filter_le _ _) (by simp; omega)
/-- What fits is few. -/
theorem few_fit (n : Nat) (L : List Sp) (q k : Nat) : fewK (fitK n (fewK L q) k) (fitK n (fewK L q) k).length = fitK n (fewK L q) k := by
  have h1 : (fitK n (fewK L q) k).length ≤ 40 := Nat.le_trans (fitK_len _ _ _) (fewK_len L q)
  have h2 : ∀ s ∈ fitK n (fewK L q) k, 0 ≤ s.1 ∧ s.1 < 1048576 ∧ s.2 ≤ 60 := fun s hs => fewK_mem s (fitK_mem hs).1
  generalize fitK n (fewK L q) k = F at *
  unfold fewK
  rw [List.take_length, List.take_of_length_le h1, List.filter_eq_self]
  intro s hs
  simpa using h2 s hs
theorem fit_in {l : List UInt8} {L : List Sp} {q k : Nat} : InL l (ex (fitK l.length (fewK L q) k)) := by
  intro x hx
  obtain ⟨s, hs, h3, h4⟩ := mem_ex hx
  obtain ⟨h5, h6, h7⟩ := fitK_mem hs
  have := fewK_mem s h5
  omega
theorem fit_sm (n : Nat) (L : List Sp) (q k : Nat) : Sm (ex (fitK n (fewK L q) k)) ∧ (ex (fitK n (fewK L q) k)).length ≤ 2400 := by
  have := sm_few (fitK n (fewK L q) k) (fitK n (fewK L q) k).length
  rwa [few_fit] at this

/-- What a drawn region keeps that ends in a store into one variable, and loads another. -/
def SxW (T b0 b1 : Nat) (v : Value) (w1 w : World) : Prop := SxB T b0 w1 w ∧ w.heap[b1]? = some (.cells #[v] T (0, 0))
theorem SxW.under {T b0 b1 : Nat} {v : Value} {w1 w w' : World} (h : SxW T b0 b1 v w1 w) (hb : Below w.heap.size w w') : SxW T b0 b1 v w1 w' := ⟨h.1.under hb, (hb.block b1 (lt_of_heap h.2)).trans h.2⟩
theorem SxW.set {T b0 b1 : Nat} {v u : Value} {w1 w : World} (h : SxW T b0 b1 v w1 w) (hn : b1 ≠ b0) : SxW T b0 b1 v w1 (w.setCell ⟨b0, 0, none⟩ u) := ⟨h.1.set, (heap_set_other hn).trans h.2⟩
theorem SxW.load {T b0 b1 : Nat} {v : Value} {w1 w : World} (h : SxW T b0 b1 v w1 w) : w.cell? ⟨b1, 0, none⟩ = some v := by rw [cell_at h.2]; rfl

theorem Ar.low {w : World} {B B' p : Nat} {l : List UInt8} (h : Ar w B' p l) (hB : B ≤ B') : Ar w B p l := by
  obtain ⟨a, c, h1, h2, h3, h4⟩ := h
  exact ⟨a, c, Nat.le_trans hB h1, h2, own_mono h3 hB, h4⟩
/-- What within tells. -/
def WithinPost (l : List UInt8) (T : List Int) (w : World) (e : Ending) (w' : World) : Prop :=
  ∃ p a n c a2 c2, e = .returned (.tuple #[.pointer (some ⟨p, 0, none⟩), .agg #[.slice a n c], .slice a2 T.length c2]) ∧ Ar w' w.heap.size p l ∧ Tx w' (.slice a n c) T ∧ Ix w' (.slice a2 T.length c2) T ∧ Below w.heap.size w w'

set_option maxRecDepth 100000 in
set_option maxHeartbeats 4000000 in
theorem within_of {w : World} {s : ByteArray} {a : Option Addr} {c : Nat} {L : List (Int × Int)} (hs : s.size ≤ maxLen) (hL : SpArg w a c L) :
    Calls Try.prog 32 #[.string s, .slice a L.length c] w
      (WithinPost (cutS s 200).data.toList (ex (fitK (cutS s 200).size (fewK L L.length) (fewK L L.length).length)) w) := by
  obtain ⟨i0, hi0, hz0, hz1, hz2⟩ := info_parts info_span
  unfold maxLen at hs
  have HF := Lib.hid (fun w' (hb : Below w.heap.size w w') => few_of (c := c) (hL.rd.below hb) hL.len)
  have hsm := Lib.hid (fit_sm (cutS s 200).size L L.length (fewK L L.length).length)
  have hff := Lib.hid (few_fit (cutS s 200).size L L.length (fewK L L.length).length)
  have hFm := Lib.hid (fun x hx => fewK_mem (l := L) (k := L.length) x hx)
  have hF40 := fewK_len L L.length
  have hcl := cutS_le s 200
  obtain ⟨w1, hw1⟩ : ∃ w1, w1 = allocs w [Obj.cells #[Value.slice none 0 0] 27] := ⟨_, rfl⟩
  have HB1 : Hid (Below w.heap.size w w1) := by rw [hw1]; exact Lib.hid (allocs_below _ w)
  have HH1 : Hid (w1.heap[w.heap.size]? = some (.cells #[Value.slice none 0 0] 27 (0, 0))) := by rw [hw1]; exact Lib.hid (allocs_at _ w 0 _ rfl)
  have hzw1 : w1.heap.size > w.heap.size := by rw [hw1, allocs_size]; simp
  clear hL
  have hcs : (200 < s.size ∧ cutS s 200 = s.extract 0 200) ∨ (¬ 200 < s.size ∧ cutS s 200 = s) := by
    unfold cutS
    by_cases h : 200 < s.size
    · exact .inl ⟨h, by rw [if_pos h]⟩
    · exact .inr ⟨h, by rw [if_neg h]⟩
  generalize hcu : cutS s 200 = u at *
  clear hcu
  have hus := Lib.hid (sz_of (s := u) rfl)
  generalize hF : fewK L L.length = F at *
  clear hF
  go_enter Try.func32, Try.ntmps32
  go_upto_if 19 with fail
  rw [show w.alloc (Obj.cells #[Value.slice none 0 0] 27) = w1 from hw1.symm]
  clear hw1
  go_cut [0] (fun s0 wx => s0 = .string u ∧ wx = w1)
  case first =>
    rcases hcs with ⟨h1, h2⟩ | ⟨h1, h2⟩
    · have d : decide ((200 : Int) < (s.size : Int)) = true := decide_eq_true (by omega)
      have d' : decide (200 < s.size) = true := decide_eq_true h1
      go_wp2_with fail
      go_meet
      exact ⟨by rw [h2], rfl⟩
    · have d : decide ((200 : Int) < (s.size : Int)) = false := decide_eq_false (by omega)
      have d' : decide (200 < s.size) = false := decide_eq_false h1
      go_wp2_with fail
      go_meet
      exact ⟨by rw [h2], rfl⟩
  case rest =>
    obtain ⟨rfl, hwe⟩ := hcut
    rw [hwe]
    clear hwe wc hcs hs
    obtain ⟨l, hl⟩ : ∃ l, u.data.toList = l := ⟨_, rfl⟩
    obtain ⟨cap, W2, hcv, hH, hb2⟩ := held_of u w1 (by unfold maxLen; omega)
    have hrd : Rd W2 1 (some ⟨w1.heap.size, 0, none⟩) l.length (bc l) := by have := rd_held hH; rw [hl] at this; exact this
    have HN := Lib.hid (new_of (c := cap) (some ⟨w1.heap.size, 0, none⟩) hrd (by have := hus.out; rw [hl] at this; omega))
    have HUS : Hid (u.size = l.length) := by show _ = _; rw [hus.out, hl]
    rw [HUS.out] at hcv
    have HLu := Lib.hid hl
    clear hus hH hrd hl
    go_wp2_with fail
    refine HN.out.mono ?_; rintro e w3 ⟨p, rfl, hA3, hb3⟩
    have HA3 := Lib.hid hA3
    have HB3 := Lib.hid (HB1.out.trans ((hb2.trans (hb3.mono hb2.size)).mono (by omega)))
    have HH3 := Lib.hid (((hb2.trans (hb3.mono hb2.size)).block w.heap.size (by omega)).trans HH1.out)
    have hzW2 : w.heap.size ≤ W2.heap.size := by have := hb2.size; omega
    have hzw3 : w3.heap.size > w.heap.size := by have := hb2.size; have := hb3.size; omega
    clear hA3 hb3 hb2 hcv HN HB1 HH1 hzw1
    go_wp2_with fail
    refine (HF.out _ HB3.out).mono ?_; rintro e w4 ⟨v1, x1, rfl, ho1, -, hb4⟩
    obtain ⟨b1, d1, rfl⟩ := own_slice ho1
    have HO4 := Lib.hid ho1
    have HA4 := Lib.hid (HA3.out.below hb4)
    have HB4 := Lib.hid (HB3.out.trans (hb4.mono (by omega)))
    have HH4 := Lib.hid ((hb4.block w.heap.size (by omega)).trans HH3.out)
    have hzw4 : w4.heap.size > w.heap.size := by have := hb4.size; omega
    have hun : Hid (u.size = l.length) := HUS
    have hul : u.size ≤ 200 := hcl
    clear ho1 hb4 HA3 HB3 HH3 hzw3 HF
    have HFl : Hid (∀ k, (fitK u.size F k).length ≤ 40) := fun k => Nat.le_trans (fitK_len _ _ _) hF40
    go_wp2_with fail
    go_loopw [9, 35] (fun v9 v35 wr => ∃ (k n : Nat) (a9 : Option Addr) (c9 : Nat) (xs : List Value), k ≤ F.length ∧ v35 = .int .i64 k ∧ v9 = .slice a9 n c9 ∧ n = (fitK u.size F k).length ∧ xs = spC (fitK u.size F k) ∧ wr.ownsRow w4.heap.size 51 2 (.slice a9 n c9) n xs ∧ Below w4.heap.size w4 wr) (fun _ v35 _ => F.length - (intOf v35).toNat)
    case atStart => exact ⟨0, 0, none, 0, [], by omega, rfl, rfl, by simp [fitK], by simp [fitK, spC], own_nil _ _ _ _, Below.refl _ _⟩
    case round =>
      obtain ⟨k, n, a9, c9, xs, hk, rfl, rfl, hn, hxs, ho, hb⟩ := hrel
      have HO := Lib.hid ho
      have HB := Lib.hid hb
      have hzr := hb.size
      have hn40 : n ≤ 40 := by rw [hn]; exact HFl.out k
      have HNN := Lib.hid hn
      have HXS := Lib.hid hxs
      clear ho hb hn hxs
      by_cases hlt : k < F.length
      · have dk : decide (k < F.length) = true := decide_eq_true hlt
        have hrd := (own_rd HO4.out).below HB.out
        obtain ⟨b, off, rfl, hbl, hcl2⟩ := hrd.2 (by omega)
        have hsp := spC_at F k F[k] (List.getElem?_eq_getElem hlt)
        have f1 : wr.cell? ⟨b, off + k * 2, none⟩ = some (.int .i64 F[k].1) := hcl2 _ _ hsp.1
        have f2 : wr.cell? ⟨b, off + k * 2 + 1, none⟩ = some (.int .i64 F[k].2) := hcl2 _ _ hsp.2
        have hbd := hFm.out F[k] (List.getElem_mem hlt)
        have hst := fitK_step (n := u.size) hlt
        clear hbl hcl2 hsp hrd
        have al := below_al wr (Obj.cells #[Value.int .i64 F[k].1, Value.int .i64 F[k].2] 51)
        have g1 : (wr.alloc (Obj.cells #[Value.int .i64 F[k].1, Value.int .i64 F[k].2] 51)).cell? ⟨wr.heap.size, 0, none⟩ = some (.int .i64 F[k].1) := by rw [cell_at (heap_alloc_new wr _)]; rfl
        have g2 : (wr.alloc (Obj.cells #[Value.int .i64 F[k].1, Value.int .i64 F[k].2] 51)).cell? ⟨wr.heap.size, 1, none⟩ = some (.int .i64 F[k].2) := by rw [cell_at (heap_alloc_new wr _)]; rfl
        have HOa := Lib.hid (own_below HO.out al)
        have HBa := Lib.hid (HB.out.trans (al.mono hzr))
        have hzwa : (wr.alloc (Obj.cells #[Value.int .i64 F[k].1, Value.int .i64 F[k].2] 51)).heap.size > wr.heap.size := by simp
        have HST := Lib.hid hst
        clear al HO HB hst
        generalize F[k].1 = x at *
        generalize F[k].2 = y at *
        have hsub : IntKind.i64.wrap ((u.size : Int) - x) = u.size - x := by rw [IntKind.wrap_i64]; omega
        by_cases hp : x ≤ u.size ∧ y ≤ u.size - x
        · obtain ⟨hp1, hp2⟩ := hp
          have HSE : Hid (fitK u.size F (k + 1) = fitK u.size F k ++ [(x, y)]) := by show _ = _; rw [HST.out, if_pos ⟨hp1, hp2⟩]
          have d1 : decide (x ≤ (u.size : Int)) = true := decide_eq_true hp1
          have d2 : decide (y ≤ (u.size : Int) - x) = true := decide_eq_true hp2
          clear HST
          go_wp2_with (first
            | (at_builtin; refine wpList_append_own _ rfl (.tmp 54) (.tmp 56) 22 rfl w4.heap.size 51 i0 (.agg #[.int .i64 0, .int .i64 0]) 2 16 Try.underlying22 hi0 hz0 hz1 hz2 rfl (by decide) (.slice a9 n c9) n xs rfl (HOa.out.alloc _) ⟨wr.heap.size + 1, 0, none⟩ 1 1 [.int .i64 x, .int .i64 y] rfl rfl ?c1 ?c2 ?c3 ?c4 ?c5 ?_)
            | fail)
          case c1 =>
            intro j q hj
            rw [Addr.add_lit, Nat.zero_add]
            have hn := heap_alloc_new (wr.alloc (Obj.cells #[Value.int .i64 x, Value.int .i64 y] 51)) (Obj.cells #[Value.int .i64 x, Value.int .i64 y] 51)
            rw [World.size_alloc] at hn
            rw [cell_at hn]
            simpa using hj
          case c2 =>
            intro q hq
            simp only [List.mem_cons, List.not_mem_nil, or_false] at hq
            rcases hq with rfl | rfl <;> rfl
          case c3 => unfold maxLen; omega
          case c4 => omega
          case c5 => simp only [World.size_alloc]; omega
          intro v7 wB ho7 hg7 _
          obtain ⟨A9, C9, rfl⟩ := own_slice ho7
          have OF := Lib.hid ho7
          have BF := Lib.hid ((HBa.out.alloc HBa.out.size _).grown hg7 (by simp only [World.size_alloc]; omega) (fun q hq => (HOa.out.lt q hq).1))
          clear ho7 hg7
          go_wp2_with fail
          go_roundw
          case rel => exact ⟨k + 1, n + 1, A9, C9, _, hlt, by go_num, rfl, by rw [HSE.out, List.length_append, HNN.out]; rfl, by rw [HSE.out, spC_snoc, HXS.out], OF.out, BF.out⟩
          case measure => simp [intOf]; omega
        · have HSE : Hid (fitK u.size F (k + 1) = fitK u.size F k) := by show _ = _; rw [HST.out, if_neg hp]
          clear HST
          by_cases hp1 : x ≤ u.size
          · have d1 : decide (x ≤ (u.size : Int)) = true := decide_eq_true hp1
            have d2 : decide (y ≤ (u.size : Int) - x) = false := decide_eq_false (fun h => hp ⟨hp1, h⟩)
            clear hp
            go_wp2_with fail
            go_roundw
            case rel => exact ⟨k + 1, n, a9, c9, xs, hlt, by go_num, rfl, by rw [HSE.out, HNN.out], by rw [HSE.out, HXS.out], HOa.out, HBa.out⟩
            case measure => simp [intOf]; omega
          · have d1 : decide (x ≤ (u.size : Int)) = false := decide_eq_false hp1
            clear hp
            go_wp2_with fail
            go_roundw
            case rel => exact ⟨k + 1, n, a9, c9, xs, hlt, by go_num, rfl, by rw [HSE.out, HNN.out], by rw [HSE.out, HXS.out], HOa.out, HBa.out⟩
            case measure => simp [intOf]; omega
      · have dk : decide (k < F.length) = false := decide_eq_false hlt
        obtain rfl : k = F.length := by omega
        have h1 := HNN.out
        have h2 := HXS.out
        subst h1 h2
        have hf40 := HFl.out F.length
        generalize hFF : fitK u.size F F.length = F' at *
        have HFF := Lib.hid hFF
        clear hFF
        have HOf := Lib.hid (tof_of (c := c9) (own_rd HO.out) (by omega) (fun s hs => by
          rw [← HFF.out] at hs
          have := hFm.out s (fitK_mem hs).1
          unfold In40; omega) hsm.out.1)
        have HA5 := Lib.hid (HA4.out.below HB.out)
        have HH5 := Lib.hid ((HB.out.block w.heap.size (by omega)).trans HH4.out)
        have HB5 := Lib.hid (HB4.out.trans (HB.out.mono (by omega)))
        have hzw5 : wr.heap.size > w.heap.size := by omega
        have HR9 := Lib.hid (own_rd HO.out)
        clear HO HB HNN HXS HO4 HFl HA4 HH4 HB4
        go_wp2_with fail
        refine HOf.out.mono ?_; rintro e w5 ⟨v5, rfl, hx5, hb5⟩
        have hx5' := hx5
        obtain ⟨a5, c5, rfl, -, -, -, -⟩ := hx5'
        have al := below_al w5 (Obj.cells #[Value.slice a5 (canon (ex F')).length c5] 27)
        have hb6 := hb5.trans (al.mono hb5.size)
        have HX6 := Lib.hid (hx5.below al)
        have HA6 := Lib.hid (HA5.out.below hb6)
        have HH6 := Lib.hid ((hb6.block w.heap.size (by omega)).trans HH5.out)
        have HB6 := Lib.hid (HB5.out.trans (hb6.mono (by omega)))
        have HK6 := Lib.hid (heap_alloc_new w5 (Obj.cells #[Value.slice a5 (canon (ex F')).length c5] 27))
        have HFw := Lib.hid (few_of (c := c9) (HR9.out.below hb6) (by omega))
        rw [hff.out] at HFw
        have hz56 : (w5.alloc (Obj.cells #[Value.slice a5 (canon (ex F')).length c5] 27)).heap.size > w5.heap.size := by simp
        have hz5 := hb5.size
        clear hx5 hb5 al hb6 HOf HA5 HH5 HB5 HR9
        generalize (canon (ex F')).length = n5 at *
        go_wp2_with fail
        generalize w5.alloc (Obj.cells #[Value.slice a5 n5 c5] 27) = w6 at *
        refine HFw.out.mono ?_; rintro e w7 ⟨v7, x7, rfl, -, ho7, hb7⟩
        obtain ⟨b7, d7, rfl⟩ := own_slice ho7
        have HX7 := Lib.hid (HX6.out.below hb7)
        have HA7 := Lib.hid (HA6.out.below hb7)
        have hh7 := (hb7.block w.heap.size (by omega)).trans HH6.out
        have HB7 := Lib.hid (HB6.out.trans (hb7.mono (by omega)))
        have hk7 := (hb7.block w5.heap.size (by omega)).trans HK6.out
        have hz7 := hb7.size
        have HRO := Lib.hid (fun w' (hw : Below w7.heap.size w7 w') => rof_of (c := d7) ((own_rd ho7).below hw) (by omega) (fun s hs => by rw [← HFF.out] at hs; exact hFm.out s (fitK_mem hs).1) (by have := hsm.out.2; omega))
        have S0 : SxW 27 w.heap.size w5.heap.size (.slice a5 n5 c5) w7 w7.drew := ⟨⟨(Below.refl _ _).drew, _, hh7⟩, hk7⟩
        have ld := fun w' (h : SxW 27 w.heap.size w5.heap.size (.slice a5 n5 c5) w7 w') => h.load
        have hne : w5.heap.size ≠ w.heap.size := by omega
        clear hb7 ho7 HX6 HA6 HH6 HB6 HK6 HFw hh7 hk7
        go_upto_region 14 with fail
        go_region_held_law (fun w' => SxW 27 w.heap.size w5.heap.size (.slice a5 n5 c5) w7 w')
          (first | assumption | exact SxW.set (by assumption) hne)
          ((go_at_call 19; refine (HRO.out w7.drew ((Below.refl _ _).drew)).mono ?_; rintro e w8 ⟨a8, c8, rfl, ho8, hb8⟩; have hs8 := S0.under hb8; have HO8 := Lib.hid ho8; have z8 := hs8.1.unfr; obtain ⟨y8, l8⟩ := hs8.1.has; have HB8 := Lib.hid hb8; clear ho8 hb8))
        all_goals
          go_wp2_with fail
          have c9' : (w8.setCell ⟨w.heap.size, 0, none⟩ (.slice a5 n5 c5)).cell? ⟨w.heap.size, 0, none⟩ = some (.slice a5 n5 c5) := cell_set_same l8
          obtain ⟨_, x8, hh8⟩ := hs8.1
          refine bodyPost_ret (v := .tuple #[.pointer (some ⟨p, 0, none⟩), .agg #[.slice a5 n5 c5], .slice a8 (ex F').length c8]) (by simp [results, Try.results32, go_sem, c9']) rfl ⟨p, a5, n5, c5, a8, c8, rfl, ?_, ?_, ?_, ?_⟩
          · rw [HLu.out]
            exact Ar.low ((HA7.out.below ((Below.refl _ _).drew.trans HB8.out)).set hh8 (by decide) (by decide)) (by omega)
          · exact ((HX7.out.below ((Below.refl _ _).drew.trans HB8.out)).set hzw5).tx
          · exact ix_own (own_set HO8.out (fun hk => by have h9 : w7.heap.size ≤ w.heap.size := (HO8.out.lt _ hk).1; omega))
          · exact (HB7.out.trans (((Below.refl _ _).drew.trans HB8.out).mono (by show w.heap.size ≤ w7.heap.size; omega))).setCell (p := ⟨w.heap.size, 0, none⟩) (Nat.le_refl _) _


end Go.Proofs.Ytelnehjmkjpjhaa
