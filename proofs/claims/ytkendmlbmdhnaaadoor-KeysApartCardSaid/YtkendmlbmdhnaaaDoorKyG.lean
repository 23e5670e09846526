/-
  The contract of the document's own Parse of keys, at this seat's numbers.
-/
import Derived.Test.YtkendmlbmdhnaaaDoorKyF
namespace Go.Proofs.YtkendmlbmdhnaaaDoor
open Go Go.RowKit
set_option linter.unusedVariables false

theorem key_low (s : ByteArray) (i : Nat) (hi : i < s.size) (h : ∀ x : Int, -6 ≤ x → x < 128 → tx x ≠ [] → ¬ tx x <+: s.data.toList.drop i) : keyAt s i = if 127 < rn s i then rn s i else 0 := by
  by_cases hr : 127 < rn s i
  · rw [if_pos hr]
    obtain ⟨hg, hp, _⟩ := rn_enc s i hi (by omega)
    have ht : ty (rn s i) = true := (ty_iff _).2 ⟨by omega, by omega, hg⟩
    have hns : rn s i ∉ spl ++ ctl := fun hm => by have := (spl_range _ hm).2.1; omega
    have e := tx_not _ hns
    rw [if_pos ht] at e
    exact keyAt_is s i hi _ (by rw [e]; exact enc_ne _) (by rw [e]; exact hp)
  · rw [if_neg hr]
    rcases Decidable.em (keyAt s i = 0) with h0 | h0
    · exact h0
    · exfalso
      obtain ⟨hn, hp⟩ := keyAt_pre s i hi h0
      by_cases hm : keyAt s i ∈ spl ++ ctl
      · have := spl_range _ hm
        exact h _ this.1 (by omega) hn hp
      · have e := tx_not _ hm
        by_cases ht : ty (keyAt s i) = true
        · rw [if_pos ht] at e
          have hg := (ty_iff _).1 ht
          rw [e] at hp
          have hr2 := (enc_rn hg.2.2 hi hp).1
          rw [← e] at hp
          exact h _ (by omega) (by omega) hn hp
        · rw [if_neg ht] at e
          exact hn e

theorem cmp_pre (s : ByteArray) (i : Nat) (l : List UInt8) (h : i + l.length ≤ s.size) : ((s.extract i (i + l.length)).toList == (strOf l).toList) = l.isPrefixOf (s.data.toList.drop i) := by
  rw [Lib.toList_data, Lib.toList_data, ByteArray.data_extract, Array.toList_extract, Bool.eq_iff_iff, beq_iff_eq, List.isPrefixOf_iff_prefix]
  show (s.data.toList.drop i).take (i + l.length - i) = l ↔ _
  rw [Nat.add_sub_cancel_left]
  constructor
  · intro e; rw [← e]; exact List.take_prefix _ _
  · intro e; exact (List.prefix_iff_eq_take.1 e).symm

set_option maxRecDepth 100000 in
set_option maxHeartbeats 4000000 in
theorem rparse_of (s : ByteArray) (w : World) (hs : s.size ≤ 8000) :
    Calls Tryd.prog 18 #[.string s] w (ParsePost s w) := by
  obtain ⟨i0, hi, hz0, hz1, hz2⟩ := info_parts info_int
  go_enter Tryd.func18, Tryd.ntmps18
  go_wp2_with fail
  go_loopw [4, 5] (fun v4 v5 wr => ∃ (i f : Nat) (acc : List Int), v5 = .int .i64 i ∧ wr.ownsRow w.heap.size 3 1 v4 acc.length (nums acc) ∧ Below w.heap.size w wr ∧
      i ≤ s.size ∧ s.size ≤ i + f ∧ parse s = (pk s f i).map (acc ++ ·) ∧ acc.length ≤ i) (fun _ v5 _ => s.size - (intOf v5).toNat)
  case atStart =>
    refine ⟨0, s.size, [], rfl, ⟨rfl, .inl ⟨rfl, rfl⟩⟩, Below.refl _ w, by omega, by omega, ?_, Nat.le_refl _⟩
    show parse s = (pk s s.size 0).map fun x => [] ++ x
    unfold parse
    cases pk s s.size 0 <;> rfl
  case round =>
    obtain ⟨i, f, acc, rfl, hown, hb, his, hf, hpa, hacc⟩ := hrel
    by_cases hp : i < s.size
    · have HO := Lib.hid hown
      have HB := Lib.hid hb
      have HPOS := Lib.hid hacc
      have hal : acc.length ≤ 8000 := by omega
      have hno : keyAt s i = 0 → parse s = none := fun h => by rw [hpa, pk_no s f i hp hf h]; rfl
      have hstep : keyAt s i ≠ 0 → ∃ f', s.size ≤ i + (tx (keyAt s i)).length + f' ∧ parse s = (pk s f' (i + (tx (keyAt s i)).length)).map ((acc ++ [keyAt s i]) ++ ·) ∧ 1 ≤ (tx (keyAt s i)).length ∧ i + (tx (keyAt s i)).length ≤ s.size := fun h => by
        obtain ⟨hn, hpr⟩ := keyAt_pre s i hp h
        have hl := List.length_pos_iff.2 hn
        have hle := (pre_bt hpr (Nat.le_of_lt hp)).1
        obtain ⟨f', rfl⟩ : ∃ f', f = f' + 1 := ⟨f - 1, by omega⟩
        refine ⟨f', by omega, ?_, hl, hle⟩
        rw [hpa, pk_step s f' i hp h, Option.map_map]
        congr 1
        funext x
        simp
      have HNO := Lib.hid hno
      have HST := Lib.hid hstep
      clear hown hb hf hpa hacc hno hstep
      go_wp2_with fail
      go_loopw [6, 7] (fun v6 v7 ws => ∃ (k F : Int), v7 = .int .i64 k ∧ v6 = .int .i64 F ∧ -6 ≤ k ∧ k ≤ 128 ∧ Below w.heap.size w ws ∧ ws.ownsRow w.heap.size 3 1 u4 acc.length (nums acc) ∧
        ((F = 0 ∧ ∀ x : Int, -6 ≤ x → x < k → tx x ≠ [] → ¬ tx x <+: s.data.toList.drop i) ∨ (F ≠ 0 ∧ F = keyAt s i))) (fun _ v7 _ => (128 - intOf v7).toNat)
      case atStart => exact ⟨-6, 0, rfl, rfl, by omega, by omega, HB.out, HO.out, Or.inl ⟨rfl, fun x h1 h2 => absurd h1 (by omega)⟩⟩
      case round =>
        obtain ⟨k, F, rfl, rfl, hk0, hk1, hbx, hox, hF⟩ := hrel
        have HBX := Lib.hid hbx
        have HOX := Lib.hid hox
        clear HB HO hbx hox
        have HAT := Lib.hid fun (v : World) => at_of s i v (by unfold maxLen; omega) (by omega) (by omega)
        rw [show runeAt s i = rn s i from by unfold runeAt; rw [if_neg (by omega)]; rfl] at HAT
        generalize sizeAt s i = sz at HAT
        rcases hF with ⟨rfl, hF⟩ | ⟨hF0, rfl⟩
        · by_cases hk : k < 128
          · have HF := Lib.hid hF
            have HT := Lib.hid fun (v : World) => rtext_of k v
            have htl := tx_len k
            have HNX : ∀ pb : Bool, (tx k ≠ [] → ¬ tx k <+: s.data.toList.drop i) → ∀ x : Int, -6 ≤ x → x < k + 1 → tx x ≠ [] → ¬ tx x <+: s.data.toList.drop i := fun _ h x h1 h2 => by
              rcases Decidable.em (x = k) with e | e
              · subst e; exact h
              · exact HF.out x h1 (by omega)
            have HNX := Lib.hid HNX
            have he := strOf_empty (tx k)
            clear hF
            by_cases hE : tx k = []
            · rw [decide_eq_true hE] at he
              have HX := Lib.hid (HNX.out true (fun h => absurd hE h))
              clear hE HNX HF
              rw [← strOf_size] at htl
              generalize strOf (tx k) = T at *
              go_wp2_with fail
              refine (HT.out _).mono ?_
              rintro e w3 ⟨rfl, hb3⟩
              have HB3 := Lib.hid hb3
              clear hb3
              go_wp2_with fail
              go_roundw
              case rel => exact ⟨k + 1, 0, rfl, rfl, by omega, by omega, HBX.out.trans (HB3.out.mono HBX.out.size), own_below HOX.out HB3.out, Or.inl ⟨rfl, HX.out⟩⟩
              case measure => simp [intOf]; omega
            · rw [decide_eq_false hE] at he
              have HE := Lib.hid hE
              by_cases hle : i + (tx k).length ≤ s.size
              · have hc := cmp_pre s i (tx k) hle
                obtain ⟨pb, hpb⟩ : ∃ pb, (tx k).isPrefixOf (s.data.toList.drop i) = pb := ⟨_, rfl⟩
                rw [hpb] at hc
                have HPB := Lib.hid hpb
                clear hpb hE
                rw [← strOf_size] at htl hle hc
                generalize strOf (tx k) = T at *
                cases pb with
                | true =>
                  have hkk : keyAt s i = k := keyAt_is s i hp k HE.out (List.isPrefixOf_iff_prefix.1 HPB.out)
                  have HKK := Lib.hid hkk.symm
                  have hkn : k ≠ 0 := fun h => HE.out (by rw [h]; decide +kernel)
                  have HKN := Lib.hid hkn
                  clear hkk hkn HNX HF HPB HE
                  go_wp2_with fail
                  refine (HT.out _).mono ?_
                  rintro e w3 ⟨rfl, hb3⟩
                  have HB3 := Lib.hid hb3
                  clear hb3
                  go_wp2_with fail
                  go_roundw
                  case rel => exact ⟨k + 1, k, rfl, rfl, by omega, by omega, HBX.out.trans (HB3.out.mono HBX.out.size), own_below HOX.out HB3.out, Or.inr ⟨HKN.out, HKK.out⟩⟩
                  case measure => simp [intOf]; omega
                | false =>
                  have HX := Lib.hid (HNX.out true (fun _ h => by
                    have := List.isPrefixOf_iff_prefix.2 h
                    rw [HPB.out] at this
                    cases this))
                  clear HNX HF HPB HE
                  go_wp2_with fail
                  refine (HT.out _).mono ?_
                  rintro e w3 ⟨rfl, hb3⟩
                  have HB3 := Lib.hid hb3
                  clear hb3
                  go_wp2_with fail
                  go_roundw
                  case rel => exact ⟨k + 1, 0, rfl, rfl, by omega, by omega, HBX.out.trans (HB3.out.mono HBX.out.size), own_below HOX.out HB3.out, Or.inl ⟨rfl, HX.out⟩⟩
                  case measure => simp [intOf]; omega
              · have HX := Lib.hid (HNX.out true (fun _ h => hle (pre_bt h (Nat.le_of_lt hp)).1))
                clear HNX HF HE hE
                rw [← strOf_size] at htl hle
                generalize strOf (tx k) = T at *
                go_wp2_with fail
                refine (HT.out _).mono ?_
                rintro e w3 ⟨rfl, hb3⟩
                have HB3 := Lib.hid hb3
                clear hb3
                go_wp2_with fail
                go_roundw
                case rel => exact ⟨k + 1, 0, rfl, rfl, by omega, by omega, HBX.out.trans (HB3.out.mono HBX.out.size), own_below HOX.out HB3.out, Or.inl ⟨rfl, HX.out⟩⟩
                case measure => simp [intOf]; omega
          · have hk128 : k = 128 := by omega
            subst hk128
            have hkl := key_low s i hp hF
            clear hF
            obtain ⟨r, hr⟩ : ∃ r, rn s i = r := ⟨_, rfl⟩
            rw [hr] at hkl HAT
            clear hr
            by_cases hr : 127 < r
            · rw [if_pos hr] at hkl
              have hk0 : keyAt s i ≠ 0 := by rw [hkl]; omega
              obtain ⟨f', st3, st4, st5, st6⟩ := HST.out hk0
              have HBD := Lib.hid (show i + (tx (keyAt s i)).length ≤ s.size ∧ s.size ≤ i + (tx (keyAt s i)).length + f' ∧ 1 ≤ (tx (keyAt s i)).length from ⟨st6, st3, st5⟩)
              have HPA := Lib.hid st4
              have d0 : (keyAt s i == 0) = false := beq_eq_false_iff_ne.2 hk0
              clear st3 st4 st5 st6
              rw [hkl] at HBD HPA d0 hk0
              clear HNO HST hkl
              generalize hrk : r = kk at *
              clear hrk hk0
              go_wp2_with fail
              refine (HAT.out _).mono ?_
              rintro e w4 ⟨rfl, hb4⟩
              have HB1 := Lib.hid (show Below w.heap.size w w4 from HBX.out.trans (hb4.mono HBX.out.size))
              have HO1 := Lib.hid (own_below HOX.out hb4)
              clear hb4
              go_wp2_with (first
                | (at_builtin; refine wpList_append_own _ rfl _ _ 28 rfl w.heap.size 3 i0 (.int .i64 0) 1 8 Tryd.underlying28 hi hz0 hz1 hz2 rfl (by decide) _ _ _ rfl (HO1.out.alloc _) ⟨w4.heap.size, 0, none⟩ 1 1 [.int .i64 kk] rfl rfl ?c1 ?c2 ?c3 ?c4 ?c5 ?_)
                | fail)
              case c1 =>
                intro j u hj
                match j, hj with
                | 0, hj => simp at hj; subst hj; simp [Addr.add]
              case c2 => intro u hu; simp at hu; subst hu; rfl
              case c3 => unfold maxLen; omega
              case c4 => omega
              case c5 => have := HB1.out.size; simp; omega
              intro v' w5 hown' hgrow _
              have hb5 : Below w.heap.size w w5 := (HB1.out.alloc HB1.out.size _).grown hgrow (by have := HB1.out.size; simp; omega) (fun j hj => (HO1.out.lt j hj).1)
              have HB5 := Lib.hid hb5
              have HO2 := Lib.hid hown'
              have HT := Lib.hid (rtext_of kk w5)
              clear hown' hgrow hb5
              have htl := tx_len kk
              rw [← strOf_size] at htl
              have HL := Lib.hid (strOf_size (tx kk))
              generalize hTX : strOf (tx kk) = T at *
              clear hTX
              go_wp2_with fail
              refine HT.out.mono ?_
              rintro e w6 ⟨rfl, hb6⟩
              have HB6 := Lib.hid hb6
              clear hb6
              go_wp2_with fail
              go_roundw
              case rel =>
                refine ⟨i + (tx kk).length, f', acc ++ [kk], int_eq (by rw [HL.out]; omega), ?_, HB5.out.trans (HB6.out.mono HB5.out.size), HBD.out.1, HBD.out.2.1, HPA.out, ?_⟩
                · have := own_below HO2.out HB6.out
                  rw [show nums acc ++ [Value.int .i64 kk] = nums (acc ++ [kk]) from by unfold nums; rw [List.map_append]; rfl] at this
                  simpa using this
                · rw [List.length_append, List.length_singleton]; have := HPOS.out; have := HBD.out.2.2; omega
              case measure => have h1 := HBD.out.2.2; have h2 := HL.out; simp [intOf]; omega
            · rw [if_neg hr] at hkl
              have HPN := Lib.hid (HNO.out hkl)
              clear HNO HST hkl
              go_wp2_with fail
              refine (HAT.out _).mono ?_
              rintro e w4 ⟨rfl, hb4⟩
              have HB1 := Lib.hid (show Below w.heap.size w w4 from HBX.out.trans (hb4.mono HBX.out.size))
              have HO1 := Lib.hid (own_below HOX.out hb4)
              clear hb4
              go_wp2_with fail
              go_ret2
              exact ⟨HB1.out, by rw [HPN.out]; rfl⟩
        · have hk0 := hF0
          obtain ⟨f', st3, st4, st5, st6⟩ := HST.out hk0
          have HBD := Lib.hid (show i + (tx (keyAt s i)).length ≤ s.size ∧ s.size ≤ i + (tx (keyAt s i)).length + f' ∧ 1 ≤ (tx (keyAt s i)).length from ⟨st6, st3, st5⟩)
          have HPA := Lib.hid st4
          have d0 : (keyAt s i == 0) = false := beq_eq_false_iff_ne.2 hk0
          clear st3 st4 st5 st6
          clear HNO HST hF0 hk0
          generalize hrk : keyAt s i = kk at *
          clear hrk
          generalize rn s i = r at HAT
          by_cases hkx : k < 128
          · skip
            go_wp2_with fail
            refine (HAT.out _).mono ?_
            rintro e w4 ⟨rfl, hb4⟩
            have HB1 := Lib.hid (show Below w.heap.size w w4 from HBX.out.trans (hb4.mono HBX.out.size))
            have HO1 := Lib.hid (own_below HOX.out hb4)
            clear hb4
            go_wp2_with (first
              | (at_builtin; refine wpList_append_own _ rfl _ _ 28 rfl w.heap.size 3 i0 (.int .i64 0) 1 8 Tryd.underlying28 hi hz0 hz1 hz2 rfl (by decide) _ _ _ rfl (HO1.out.alloc _) ⟨w4.heap.size, 0, none⟩ 1 1 [.int .i64 kk] rfl rfl ?c1 ?c2 ?c3 ?c4 ?c5 ?_)
              | fail)
            case c1 =>
              intro j u hj
              match j, hj with
              | 0, hj => simp at hj; subst hj; simp [Addr.add]
            case c2 => intro u hu; simp at hu; subst hu; rfl
            case c3 => unfold maxLen; omega
            case c4 => omega
            case c5 => have := HB1.out.size; simp; omega
            intro v' w5 hown' hgrow _
            have hb5 : Below w.heap.size w w5 := (HB1.out.alloc HB1.out.size _).grown hgrow (by have := HB1.out.size; simp; omega) (fun j hj => (HO1.out.lt j hj).1)
            have HB5 := Lib.hid hb5
            have HO2 := Lib.hid hown'
            have HT := Lib.hid (rtext_of kk w5)
            clear hown' hgrow hb5
            have htl := tx_len kk
            rw [← strOf_size] at htl
            have HL := Lib.hid (strOf_size (tx kk))
            generalize hTX : strOf (tx kk) = T at *
            clear hTX
            go_wp2_with fail
            refine HT.out.mono ?_
            rintro e w6 ⟨rfl, hb6⟩
            have HB6 := Lib.hid hb6
            clear hb6
            go_wp2_with fail
            go_roundw
            case rel =>
              refine ⟨i + (tx kk).length, f', acc ++ [kk], int_eq (by rw [HL.out]; omega), ?_, HB5.out.trans (HB6.out.mono HB5.out.size), HBD.out.1, HBD.out.2.1, HPA.out, ?_⟩
              · have := own_below HO2.out HB6.out
                rw [show nums acc ++ [Value.int .i64 kk] = nums (acc ++ [kk]) from by unfold nums; rw [List.map_append]; rfl] at this
                simpa using this
              · rw [List.length_append, List.length_singleton]; have := HPOS.out; have := HBD.out.2.2; omega
            case measure => have h1 := HBD.out.2.2; have h2 := HL.out; simp [intOf]; omega
          · skip
            go_wp2_with fail
            refine (HAT.out _).mono ?_
            rintro e w4 ⟨rfl, hb4⟩
            have HB1 := Lib.hid (show Below w.heap.size w w4 from HBX.out.trans (hb4.mono HBX.out.size))
            have HO1 := Lib.hid (own_below HOX.out hb4)
            clear hb4
            go_wp2_with (first
              | (at_builtin; refine wpList_append_own _ rfl _ _ 28 rfl w.heap.size 3 i0 (.int .i64 0) 1 8 Tryd.underlying28 hi hz0 hz1 hz2 rfl (by decide) _ _ _ rfl (HO1.out.alloc _) ⟨w4.heap.size, 0, none⟩ 1 1 [.int .i64 kk] rfl rfl ?c1 ?c2 ?c3 ?c4 ?c5 ?_)
              | fail)
            case c1 =>
              intro j u hj
              match j, hj with
              | 0, hj => simp at hj; subst hj; simp [Addr.add]
            case c2 => intro u hu; simp at hu; subst hu; rfl
            case c3 => unfold maxLen; omega
            case c4 => omega
            case c5 => have := HB1.out.size; simp; omega
            intro v' w5 hown' hgrow _
            have hb5 : Below w.heap.size w w5 := (HB1.out.alloc HB1.out.size _).grown hgrow (by have := HB1.out.size; simp; omega) (fun j hj => (HO1.out.lt j hj).1)
            have HB5 := Lib.hid hb5
            have HO2 := Lib.hid hown'
            have HT := Lib.hid (rtext_of kk w5)
            clear hown' hgrow hb5
            have htl := tx_len kk
            rw [← strOf_size] at htl
            have HL := Lib.hid (strOf_size (tx kk))
            generalize hTX : strOf (tx kk) = T at *
            clear hTX
            go_wp2_with fail
            refine HT.out.mono ?_
            rintro e w6 ⟨rfl, hb6⟩
            have HB6 := Lib.hid hb6
            clear hb6
            go_wp2_with fail
            go_roundw
            case rel =>
              refine ⟨i + (tx kk).length, f', acc ++ [kk], int_eq (by rw [HL.out]; omega), ?_, HB5.out.trans (HB6.out.mono HB5.out.size), HBD.out.1, HBD.out.2.1, HPA.out, ?_⟩
              · have := own_below HO2.out HB6.out
                rw [show nums acc ++ [Value.int .i64 kk] = nums (acc ++ [kk]) from by unfold nums; rw [List.map_append]; rfl] at this
                simpa using this
              · rw [List.length_append, List.length_singleton]; have := HPOS.out; have := HBD.out.2.2; omega
            case measure => have h1 := HBD.out.2.2; have h2 := HL.out; simp [intOf]; omega
    · have hpp : parse s = some acc := by
        rw [hpa, pk_end s f i (by omega)]
        simp
      obtain ⟨a, c, hv, hsl⟩ := sl_own hown
      subst hv
      have HP := Lib.hid hpp
      have HS := Lib.hid hsl
      have HB := Lib.hid hb
      clear hpp hsl hb hpa hf hown
      go_wp2_with fail
      go_ret2
      refine ⟨HB.out, ?_⟩
      rw [HP.out]
      exact ⟨_, _, rfl, HS.out⟩

end Go.Proofs.YtkendmlbmdhnaaaDoor
