/-
  The contract of keys.Parse, at this seat's numbers.
-/
import Derived.Test.YtkendmlbmdhnaaaDoorKyE
namespace Go.Proofs.YtkendmlbmdhnaaaDoor
open Go Go.RowKit
set_option linter.unusedVariables false

theorem own_not_iter {w : World} {B e size n k : Nat} {v : Value} {xs : List Value} {s : ByteArray} {pos : Nat} (h : w.ownsRow B e size v n xs) (hk : w.heap[k]? = some (.stringIter s pos)) : v.ownBlock ≠ some k := by
  rcases h.2 with ⟨rfl, _⟩ | ⟨g, cap, cur, rfl, _, hg, _⟩
  · simp [Value.ownBlock]
  · intro he
    simp only [Value.ownBlock, Option.some.injEq] at he
    subst he
    rw [hk] at hg
    cases hg
theorem own_iterAt {w : World} {B e size n k : Nat} {v : Value} {xs : List Value} {s : ByteArray} {pos : Nat} (h : w.ownsRow B e size v n xs) (hk : w.heap[k]? = some (.stringIter s pos)) (pos' : Nat) : (w.iterAt k s pos').ownsRow B e size v n xs :=
  h.kept (row := some k) ⟨rfl, rfl, rfl, by rw [Lib.iterAt_size]; exact Nat.le_refl _, fun j hj hne => Lib.iterAt_other w k j s pos' (fun e => hne (by rw [e]))⟩ (Or.inr (own_not_iter h hk))

/-- What Parse answers. -/
def ParsePost (s : ByteArray) (w : World) (e : Ending) (w' : World) : Prop :=
  Below w.heap.size w w' ∧ match parse s with
    | none => e = .returned (.tuple #[.slice none 0 0, .int .i64 3])
    | some l => ∃ a c, e = .returned (.tuple #[.slice a l.length c, .int .i64 0]) ∧ Sl w' a c (nums l)

theorem sl_own {w : World} {B : Nat} {v : Value} {l : List Int} (h : w.ownsRow B 3 1 v l.length (nums l)) : ∃ a c, v = .slice a l.length c ∧ Sl w a c (nums l) := by
  rcases h.2 with ⟨rfl, h0⟩ | ⟨g, cap, cur, rfl, _⟩
  · have : l = [] := List.length_eq_zero_iff.1 h0
    subst this
    exact ⟨none, 0, rfl, Sl.none w⟩
  · refine ⟨_, _, rfl, Sl.own (B := B) (e := 3) ?_ (nums_one l)⟩
    rw [nums_len]
    exact h

/-- What Parse answers, with the row its own. -/
def ParseOwn (s : ByteArray) (w : World) (e : Ending) (w' : World) : Prop :=
  Below w.heap.size w w' ∧ match parse s with
    | none => e = .returned (.tuple #[.slice none 0 0, .int .i64 3])
    | some l => ∃ v, e = .returned (.tuple #[v, .int .i64 0]) ∧ w'.ownsRow w.heap.size 3 1 v l.length (nums l)
theorem own_base {w : World} {B B' e size n : Nat} {v : Value} {xs : List Value} (h : w.ownsRow B e size v n xs) (hB : B' ≤ B) : w.ownsRow B' e size v n xs := by
  refine ⟨h.1, ?_⟩
  rcases h.2 with h0 | ⟨g, cap, cur, h1, h2, h3⟩
  · exact Or.inl h0
  · exact Or.inr ⟨g, cap, cur, h1, Nat.le_trans hB h2, h3⟩

/-- The character at a place, for Parse: its number; nothing below the world's end is touched. -/
theorem rune_in {W : World} {b cap : Nat} {s : ByteArray} (h : At8 W b cap s) (i : Nat) (hi : i < s.size) (w : World) (hw : Below W.heap.size W w) :
    Calls Tryd.prog 24 #[.slice (some ⟨b, 0, none⟩) s.size cap, .int .i64 i] w fun e w' => e = .returned (.int .i64 (rn s i)) ∧ Below w.heap.size w w' := by
  have e : runeAt s i = rn s i := by unfold runeAt; rw [if_neg (by omega)]; rfl
  have := rune_at (W := w) ⟨h.held.below hw, h.tabs.below hw⟩ i w (Below.refl _ _)
  rwa [e] at this

set_option maxRecDepth 100000 in
set_option maxHeartbeats 4000000 in
theorem parse_own (s : ByteArray) (w : World) (hs : s.size ≤ 8000) (hn : NmT w) (hT : Tabs w) :
    Calls Tryd.prog 17 #[.string s] w (ParseOwn s w) := by
  obtain ⟨i0, hi, hz0, hz1, hz2⟩ := info_parts info_int
  obtain ⟨cap, W, hconv, hheld, hbW⟩ := held_of s w (by unfold maxLen; omega)
  have HN := Lib.hid (hn.below hbW)
  have H8 := Lib.hid (show At8 W w.heap.size cap s from ⟨hheld, hT.below hbW⟩)
  have HW := Lib.hid hbW
  clear hn hT hheld hbW
  go_enter Tryd.func17, Tryd.ntmps17
  go_wp2_with fail
  clear hconv
  go_loopw [4, 6] (fun v4 v6 wr => ∃ (pos p2 j m f : Nat) (acc : List Int), wr.heap[W.heap.size]? = some (.stringIter s pos) ∧ v6 = .int .i64 p2 ∧ wr.ownsRow W.heap.size 3 1 v4 acc.length (nums acc) ∧ Below W.heap.size W wr ∧
      bd s j = pos ∧ bd s (j + m) = p2 ∧ s.size ≤ p2 + f ∧ parse s = (pk s f p2).map (acc ++ ·) ∧ acc.length ≤ p2) (fun _ _ wr => s.size - wr.iterPos W.heap.size)
  case atStart =>
    refine ⟨0, 0, 0, 0, s.size, [], ?_, rfl, ⟨rfl, .inl ⟨rfl, rfl⟩⟩, (Below.refl _ W).alloc (Nat.le_refl _) _, rfl, rfl, by omega, ?_, Nat.le_refl _⟩
    · have := World.iter_heap W s 0
      exact this
    · show parse s = (pk s s.size 0).map fun x => [] ++ x
      unfold parse
      cases pk s s.size 0 <;> rfl
  case round =>
    obtain ⟨pos, p2, j, m, f, acc, hit, rfl, hown, hb, hj, hjm, hf, hpa, hacc⟩ := hrel
    have hp2 : p2 ≤ s.size := by rw [← hjm]; exact bd_le s _
    have hpp : pos ≤ p2 := by rw [← hj, ← hjm]; exact bd_mono s (by omega)
    by_cases hp : pos < s.size
    · have hnx : ∀ t, (Instr.next (.pointer (some ⟨W.heap.size, 0, none⟩)) true t).run Tryd.prog wr = .ok (.tuple #[.bool true, .int .i64 pos, .int .i32 (Utf8.decode s pos).1]) (wr.iterAt W.heap.size s (pos + wd s pos)) := fun t => Lib.run_next_any_at wr W.heap.size s pos t hit hp
      have hit2 := Lib.iterAt_heap wr W.heap.size s pos (pos + wd s pos) hit
      have hown2 := own_iterAt hown hit (pos + wd s pos)
      have hb2 := Lib.below_iterAt hb (Nat.le_refl W.heap.size) s (pos + wd s pos)
      have hwd := (wd_facts s pos hp).1
      have HIT0 := Lib.hid hit
      generalize (Utf8.decode s pos).1 = dr at hnx
      generalize hw2 : wr.iterAt W.heap.size s (pos + wd s pos) = w2 at *
      have HM : s.size - w2.iterPos W.heap.size < s.size - wr.iterPos W.heap.size := by
        simp only [World.iterPos, hit2, hit]
        omega
      have HMM := Lib.hid HM
      clear hit HM hw2 hown hb
      by_cases hlt : pos < p2
      · have hm : 0 < m := by
          rcases Nat.eq_zero_or_pos m with h | h
          · subst h; rw [Nat.add_zero, hj] at hjm; omega
          · exact h
        obtain ⟨m', rfl⟩ : ∃ m', m = m' + 1 := ⟨m - 1, by omega⟩
        have HIT2 := Lib.hid hit2
        have HO := Lib.hid hown2
        have HB := Lib.hid hb2
        have HR := Lib.hid (show bd s (j + 1) = pos + wd s pos ∧ bd s (j + 1 + m') = p2 ∧ s.size ≤ p2 + f ∧ parse s = (pk s f p2).map (acc ++ ·) from
          ⟨by rw [bd_succ s j (by rw [hj]; exact hp), hj], by rw [show j + 1 + m' = j + (m' + 1) from by omega]; exact hjm, hf, hpa⟩)
        clear hit2 hown2 hb2 hj hjm hf hpa
        go_wp2_with fail
        go_roundw
        case rel => exact ⟨_, p2, j + 1, m', f, acc, HIT2.out, rfl, HO.out, HB.out, HR.out.1, HR.out.2.1, HR.out.2.2.1, HR.out.2.2.2, hacc⟩
        case measure => exact HMM.out
      · have hpe : p2 = pos := by omega
        subst hpe
        have HIT2 := Lib.hid hit2
        have HO := Lib.hid hown2
        have HB := Lib.hid hb2
        have HPOS := Lib.hid hacc
        have hal : acc.length ≤ 8000 := by omega
        have HRU := Lib.hid (rune_in H8.out p2 hp w2 hb2)
        have h60 := rn60 s p2 hp
        have hka : keyAt s p2 = if rn s p2 = 60 then brL (s.data.toList.drop p2) else if ty (rn s p2) = true then rn s p2 else 0 := by
          unfold keyAt
          by_cases h : rn s p2 = 60
          · rw [if_pos (h60.1 h), if_pos h]
          · rw [if_neg (fun hh => h (h60.2 hh)), if_neg h]
        have hno : keyAt s p2 = 0 → parse s = none := fun h => by rw [hpa, pk_no s f p2 hp hf h]; rfl
        have hstep : keyAt s p2 ≠ 0 → ∃ m' f', bd s (j + 1) = p2 + wd s p2 ∧ bd s (j + 1 + m') = p2 + (tx (keyAt s p2)).length ∧ s.size ≤ p2 + (tx (keyAt s p2)).length + f' ∧ parse s = (pk s f' (p2 + (tx (keyAt s p2)).length)).map ((acc ++ [keyAt s p2]) ++ ·) ∧ 1 ≤ (tx (keyAt s p2)).length := fun h => by
          obtain ⟨m', hm'⟩ := key_bd s p2 j hp hj h
          have hl := List.length_pos_iff.2 (keyAt_pre s p2 hp h).1
          obtain ⟨f', rfl⟩ : ∃ f', f = f' + 1 := ⟨f - 1, by omega⟩
          refine ⟨m', f', by rw [bd_succ s j (by rw [hj]; exact hp), hj], by rw [show j + 1 + m' = j + m' + 1 from by omega]; exact hm', by omega, ?_, hl⟩
          rw [hpa, pk_step s f' p2 hp h, Option.map_map]
          congr 1
          funext x
          simp
        have HNO := Lib.hid hno
        have HST := Lib.hid hstep
        have HKA := Lib.hid hka
        have hbw := HB.out.size
        have hq := ext_list s p2
        have HQ := Lib.hid hq
        clear hit2 hown2 hb2 hj hjm hf hpa hno hstep hka h60 hq hacc
        obtain ⟨r, hr⟩ : ∃ r, rn s p2 = r := ⟨_, rfl⟩
        rw [hr] at HRU HKA
        clear hr
        by_cases hr60 : r = 60
        · subst hr60
          obtain ⟨q, hqq⟩ : ∃ q, s.extract p2 s.size = q := ⟨_, rfl⟩
          rw [hqq] at HQ
          have hkb : keyAt s p2 = brL q.data.toList := by rw [HKA.out, if_pos rfl, HQ.out]
          have HBK := Lib.hid fun (v : World) (hv : NmT v) => brk_of q v hv
          rw [← hkb] at HBK
          clear hkb HKA HQ
          have hk00 : keyAt s p2 = 0 ∨ keyAt s p2 ≠ 0 := Decidable.em _
          rcases hk00 with hk0 | hk0
          · rw [hk0] at HBK
            have HPN := Lib.hid (HNO.out hk0)
            clear hk0 HNO HST
            go_wp2_with fail
            refine HRU.out.mono ?_
            rintro e w3 ⟨rfl, hb3⟩
            have HB3 := Lib.hid hb3
            clear hb3
            go_wp2_with fail
            refine (HBK.out w3 (HN.out.below (HB.out.trans (HB3.out.mono hbw)))).mono ?_
            rintro e w4 ⟨rfl, hb4⟩
            have HB4 := Lib.hid hb4
            clear hb4
            go_wp2_with fail
            go_ret2
            refine ⟨?_, by rw [HPN.out]; rfl⟩
            have h34 := (HB.out.trans (HB3.out.mono hbw))
            exact HW.out.trans ((h34.trans (HB4.out.mono h34.size)).mono HW.out.size)
          · have d0 : (keyAt s p2 == 0) = false := beq_eq_false_iff_ne.2 hk0
            obtain ⟨m', f', st1, st2, st3, st4, st5⟩ := HST.out hk0
            have HBD := Lib.hid (show bd s (j + 1) = p2 + wd s p2 ∧ bd s (j + 1 + m') = p2 + (tx (keyAt s p2)).length ∧ s.size ≤ p2 + (tx (keyAt s p2)).length + f' from ⟨st1, st2, st3⟩)
            have HPA := Lib.hid st4
            have HPL := Lib.hid st5
            clear hk0 HNO HST st1 st2 st3 st4 st5
            generalize keyAt s p2 = kk at *
            go_wp2_with fail
            refine HRU.out.mono ?_
            rintro e w3 ⟨rfl, hb3⟩
            have HB3 := Lib.hid hb3
            clear hb3
            go_wp2_with fail
            refine (HBK.out w3 (HN.out.below (HB.out.trans (HB3.out.mono hbw)))).mono ?_
            rintro e w4 ⟨rfl, hb4⟩
            have HB1 := Lib.hid (show Below W.heap.size W w4 from (HB.out.trans (HB3.out.mono hbw)).trans (hb4.mono (HB.out.trans (HB3.out.mono hbw)).size))
            have HO1 := Lib.hid (own_below (own_below HO.out HB3.out) hb4)
            have HIT := Lib.hid (show w4.heap[W.heap.size]? = some (.stringIter s (p2 + wd s p2)) from by
              have h1 : w3.heap[W.heap.size]? = some (.stringIter s (p2 + wd s p2)) := by rw [HB3.out.block _ (Array.getElem?_eq_some_iff.1 HIT2.out).1]; exact HIT2.out
              rw [hb4.block _ (Array.getElem?_eq_some_iff.1 h1).1]; exact h1)
            clear hb4
            go_wp2_with (first
              | (at_builtin; refine wpList_append_own _ rfl _ _ 28 rfl W.heap.size 3 i0 (.int .i64 0) 1 8 Tryd.underlying28 hi hz0 hz1 hz2 rfl (by decide) _ _ _ rfl (HO1.out.alloc _) ⟨w4.heap.size, 0, none⟩ 1 1 [.int .i64 kk] rfl rfl ?c1 ?c2 ?c3 ?c4 ?c5 ?_)
              | fail)
            case c1 =>
              intro j u hj
              match j, hj with
              | 0, hj => simp at hj; subst hj; simp [Addr.add]
            case c2 => intro u hu; simp at hu; subst hu; rfl
            case c3 => unfold maxLen; omega
            case c4 => omega
            case c5 => have := HB1.out.size; simp; omega
            intro v' w5 hown' hgrow _
            have hit5 : w5.heap[W.heap.size]? = some (.stringIter s (p2 + wd s p2)) := by
              rw [hgrow.block _ (by have := (Array.getElem?_eq_some_iff.1 HIT.out).1; simp; omega) (fun e => own_not_iter HO1.out HIT.out e.symm)]
              rw [Lib.alloc_old w4 _ _ (Array.getElem?_eq_some_iff.1 HIT.out).1]
              exact HIT.out
            have hb5 : Below W.heap.size W w5 := (HB1.out.alloc HB1.out.size _).grown hgrow (by have := HB1.out.size; simp; omega) (fun j hj => (HO1.out.lt j hj).1)
            have HIT5 := Lib.hid hit5
            have HB5 := Lib.hid hb5
            have HO2 := Lib.hid hown'
            have HT := Lib.hid (text_of kk w5 (HN.out.below hb5))
            clear hown' hgrow hit5 hb5
            have htl := tx_len kk
            rw [← strOf_size] at htl
            have HL := Lib.hid (strOf_size (tx kk))
            generalize hTX : strOf (tx kk) = T at *
            clear hTX
            go_wp2_with fail
            refine HT.out.mono ?_
            rintro e w6 ⟨rfl, hb6⟩
            have HB6 := Lib.hid hb6
            clear hb6
            go_wp2_with fail
            go_roundw
            case rel =>
              refine ⟨_, p2 + (tx kk).length, j + 1, m', f', acc ++ [kk], by rw [HB6.out.block _ (Array.getElem?_eq_some_iff.1 HIT5.out).1]; exact HIT5.out, int_eq (by rw [HL.out]; omega), ?_, HB5.out.trans (HB6.out.mono HB5.out.size), ?_, ?_, ?_, ?_, ?_⟩
              · have := own_below HO2.out HB6.out
                rw [show nums acc ++ [Value.int .i64 kk] = nums (acc ++ [kk]) from by unfold nums; rw [List.map_append]; rfl] at this
                simpa using this
              · exact HBD.out.1
              · exact HBD.out.2.1
              · exact HBD.out.2.2
              · exact HPA.out
              · rw [List.length_append, List.length_singleton]; have := HPOS.out; have := HPL.out; omega
            case measure => simp only [World.iterPos, HB6.out.block _ (Array.getElem?_eq_some_iff.1 HIT5.out).1, HIT5.out, HIT0.out]; omega
        · have n60 : (r == 60) = false := beq_eq_false_iff_ne.2 hr60
          rw [if_neg hr60] at HKA
          have HTY := Lib.hid fun (v : World) => types_of r v
          obtain ⟨tb, htb⟩ : ∃ tb, ty r = tb := ⟨_, rfl⟩
          rw [htb] at HKA HTY
          have HTB := Lib.hid htb
          clear htb hr60
          cases tb with
          | false =>
            have hk0 : keyAt s p2 = 0 := by rw [HKA.out]; rfl
            have HPN := Lib.hid (HNO.out hk0)
            clear hk0 HNO HST HKA
            go_wp2_with fail
            refine HRU.out.mono ?_
            rintro e w3 ⟨rfl, hb3⟩
            have HB3 := Lib.hid hb3
            clear hb3
            go_wp2_with fail
            refine (HTY.out w3).mono ?_
            rintro e w4 ⟨rfl, hb4⟩
            have HB4 := Lib.hid hb4
            clear hb4
            go_wp2_with fail
            go_ret2
            refine ⟨?_, by rw [HPN.out]; rfl⟩
            have h34 := (HB.out.trans (HB3.out.mono hbw))
            exact HW.out.trans ((h34.trans (HB4.out.mono h34.size)).mono HW.out.size)
          | true =>
            have hkr : keyAt s p2 = r := by rw [HKA.out]; rfl
            have hk0 : keyAt s p2 ≠ 0 := by rw [hkr]; have := ((ty_iff r).1 HTB.out).1; omega
            rw [hkr] at hk0
            have d0 : (r == 0) = false := beq_eq_false_iff_ne.2 hk0
            obtain ⟨m', f', st1, st2, st3, st4, st5⟩ := HST.out (by rw [hkr]; exact hk0)
            rw [hkr] at st2 st3 st4 st5
            have HBD := Lib.hid (show bd s (j + 1) = p2 + wd s p2 ∧ bd s (j + 1 + m') = p2 + (tx r).length ∧ s.size ≤ p2 + (tx r).length + f' from ⟨st1, st2, st3⟩)
            have HPA := Lib.hid st4
            have HPL := Lib.hid st5
            clear hk0 HNO HST st1 st2 st3 st4 st5 hkr HKA
            generalize hrk : r = kk at *
            clear hrk
            go_wp2_with fail
            refine HRU.out.mono ?_
            rintro e w3 ⟨rfl, hb3⟩
            have HB3 := Lib.hid hb3
            clear hb3
            go_wp2_with fail
            refine (HTY.out w3).mono ?_
            rintro e w4 ⟨rfl, hb4⟩
            have HB1 := Lib.hid (show Below W.heap.size W w4 from (HB.out.trans (HB3.out.mono hbw)).trans (hb4.mono (HB.out.trans (HB3.out.mono hbw)).size))
            have HO1 := Lib.hid (own_below (own_below HO.out HB3.out) hb4)
            have HIT := Lib.hid (show w4.heap[W.heap.size]? = some (.stringIter s (p2 + wd s p2)) from by
              have h1 : w3.heap[W.heap.size]? = some (.stringIter s (p2 + wd s p2)) := by rw [HB3.out.block _ (Array.getElem?_eq_some_iff.1 HIT2.out).1]; exact HIT2.out
              rw [hb4.block _ (Array.getElem?_eq_some_iff.1 h1).1]; exact h1)
            clear hb4
            go_wp2_with (first
              | (at_builtin; refine wpList_append_own _ rfl _ _ 28 rfl W.heap.size 3 i0 (.int .i64 0) 1 8 Tryd.underlying28 hi hz0 hz1 hz2 rfl (by decide) _ _ _ rfl (HO1.out.alloc _) ⟨w4.heap.size, 0, none⟩ 1 1 [.int .i64 kk] rfl rfl ?c1 ?c2 ?c3 ?c4 ?c5 ?_)
              | fail)
            case c1 =>
              intro j u hj
              match j, hj with
              | 0, hj => simp at hj; subst hj; simp [Addr.add]
            case c2 => intro u hu; simp at hu; subst hu; rfl
            case c3 => unfold maxLen; omega
            case c4 => omega
            case c5 => have := HB1.out.size; simp; omega
            intro v' w5 hown' hgrow _
            have hit5 : w5.heap[W.heap.size]? = some (.stringIter s (p2 + wd s p2)) := by
              rw [hgrow.block _ (by have := (Array.getElem?_eq_some_iff.1 HIT.out).1; simp; omega) (fun e => own_not_iter HO1.out HIT.out e.symm)]
              rw [Lib.alloc_old w4 _ _ (Array.getElem?_eq_some_iff.1 HIT.out).1]
              exact HIT.out
            have hb5 : Below W.heap.size W w5 := (HB1.out.alloc HB1.out.size _).grown hgrow (by have := HB1.out.size; simp; omega) (fun j hj => (HO1.out.lt j hj).1)
            have HIT5 := Lib.hid hit5
            have HB5 := Lib.hid hb5
            have HO2 := Lib.hid hown'
            have HT := Lib.hid (text_of kk w5 (HN.out.below hb5))
            clear hown' hgrow hit5 hb5
            have htl := tx_len kk
            rw [← strOf_size] at htl
            have HL := Lib.hid (strOf_size (tx kk))
            generalize hTX : strOf (tx kk) = T at *
            clear hTX
            go_wp2_with fail
            refine HT.out.mono ?_
            rintro e w6 ⟨rfl, hb6⟩
            have HB6 := Lib.hid hb6
            clear hb6
            go_wp2_with fail
            go_roundw
            case rel =>
              refine ⟨_, p2 + (tx kk).length, j + 1, m', f', acc ++ [kk], by rw [HB6.out.block _ (Array.getElem?_eq_some_iff.1 HIT5.out).1]; exact HIT5.out, int_eq (by rw [HL.out]; omega), ?_, HB5.out.trans (HB6.out.mono HB5.out.size), ?_, ?_, ?_, ?_, ?_⟩
              · have := own_below HO2.out HB6.out
                rw [show nums acc ++ [Value.int .i64 kk] = nums (acc ++ [kk]) from by unfold nums; rw [List.map_append]; rfl] at this
                simpa using this
              · exact HBD.out.1
              · exact HBD.out.2.1
              · exact HBD.out.2.2
              · exact HPA.out
              · rw [List.length_append, List.length_singleton]; have := HPOS.out; have := HPL.out; omega
            case measure => simp only [World.iterPos, HB6.out.block _ (Array.getElem?_eq_some_iff.1 HIT5.out).1, HIT5.out, HIT0.out]; omega
    · have hpe : p2 = s.size := by omega
      have hnx : ∀ t, (Instr.next (.pointer (some ⟨W.heap.size, 0, none⟩)) true t).run Tryd.prog wr = .ok (.tuple #[.bool false]) wr := fun t => Lib.run_next_end_at wr W.heap.size s pos t hit hp
      have hpp : parse s = some acc := by
        rw [hpa, pk_end s f p2 (by omega)]
        simp
      have HP := Lib.hid hpp
      have HS := Lib.hid (own_base hown HW.out.size)
      have HB := Lib.hid hb
      clear hpp hb hpa hf hjm hj hown hit
      go_wp2_with fail
      go_ret2
      refine ⟨HW.out.trans (HB.out.mono HW.out.size), ?_⟩
      rw [HP.out]
      exact ⟨_, rfl, HS.out⟩

theorem parse_of (s : ByteArray) (w : World) (hs : s.size ≤ 8000) (hn : NmT w) (hT : Tabs w) :
    Calls Tryd.prog 17 #[.string s] w (ParsePost s w) := by
  refine (parse_own s w hs hn hT).mono ?_
  rintro e w' ⟨hb, he⟩
  refine ⟨hb, ?_⟩
  cases hp : parse s with
  | none => rw [hp] at he; exact he
  | some l =>
    rw [hp] at he
    obtain ⟨v, rfl, ho⟩ := he
    obtain ⟨a, c, rfl, hsl⟩ := sl_own ho
    exact ⟨a, c, rfl, hsl⟩

end Go.Proofs.YtkendmlbmdhnaaaDoor
