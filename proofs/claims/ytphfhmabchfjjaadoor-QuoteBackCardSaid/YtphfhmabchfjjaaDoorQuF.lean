/-
  The walk of QuoteBack, at this seat's numbers.
-/
import Derived.Test.YtphfhmabchfjjaaDoorQuD
import Derived.Test.YtphfhmabchfjjaaDoorQuE
import Derived.Test.YtphfhmabchfjjaaDoorScJ
namespace Go.Proofs.YtphfhmabchfjjaaDoor
open Go Go.RowKit
set_option linter.unusedVariables false

theorem own_caps {w : World} {B n c s : Nat} {e : TypeId} {a : Option Addr} {xs : List Value} (h : w.ownsRow B e s (.slice a n c) n xs) : n ≤ c ∧ c ≤ maxLen := by
  rcases h.2 with ⟨h', h0⟩ | ⟨g, cap, cur, h', _, _, h1, h2, _⟩
  · injection h' with _ _ h3
    subst h3; unfold maxLen; omega
  · injection h' with _ _ h3
    subst h3; exact ⟨h1, h2⟩
theorem putP_len (l : List UInt8) : (putP l).length ≤ 2 * l.length + 2 := by
  unfold putP
  split
  · have := dup_len l
    rw [List.length_cons, List.length_append]; simp only [List.length_cons, List.length_nil]; omega
  · omega
theorem put_field0 (l : List UInt8) : (fieldP (putP l) 0).kind = (if needsP l = true then 1 else 0) ∧ atL (putP l) (fieldP (putP l) 0).pl = l := by
  have h := put_field l [] (mkAt_out (Nat.le_refl _))
  rw [List.append_nil] at h
  exact ⟨h.1, h.2.1⟩
theorem more_data (p : List UInt8) (m : ByteArray) : (strOf p ++ ⟨#[44]⟩ ++ m).data.toList = p ++ (44 :: m.data.toList) := by
  simp [strOf, ByteArray.data_append]
theorem put_field1 (l : List UInt8) (m : List UInt8) : (fieldP (putP l ++ (44 :: m)) 0).kind = (if needsP l = true then 1 else 0) ∧ atL (putP l ++ (44 :: m)) (fieldP (putP l ++ (44 :: m)) 0).pl = l := by
  have h := put_field l (44 :: m) (by rw [mkAt_in (by simp), show lb (44 :: m) 0 = 44 from rfl]; rfl)
  exact ⟨h.1, h.2.1⟩

/-- A value that Read told, as a text, from here on; its kind. -/
def RdTold (t : ByteArray) (K : Int) (w : World) (e : Ending) (w' : World) : Prop := ∃ a n c, e = .returned (.tuple #[.slice a n c, .int .i64 K]) ∧ (∀ w3, Below w'.heap.size w' w3 → (convert 25 9 (.slice a n c)).run Tryd.prog w3 = .ok (.string t) w3) ∧ Below w.heap.size w w'
theorem rdTold_of {w : World} {a : Option Addr} {c : Nat} {L : List UInt8} (hr : Rd w 1 a L.length (bc L)) (hl : L.length ≤ 1000000) (hlc : L.length ≤ c) (hc : c ≤ maxLen) {t : ByteArray} {l : List UInt8} {K : Int} (ht : strOf l = t) (hk : (fieldP L 0).kind = K) (ha : atL L (fieldP L 0).pl = l) :
    Calls Tryd.prog 15 #[.slice a L.length c] w (RdTold t K w) := by
  refine (qread_of (c := c) hr hl hlc hc).mono ?_
  rintro e w' ⟨a', n, c', rfl, hn, ho, hb⟩
  rw [ha] at hn ho
  rw [hk]
  subst hn
  exact ⟨a', _, c', rfl, fun w3 h3 => by rw [← ht]; exact string_own (own_below ho h3), hb⟩

set_option maxRecDepth 100000 in
set_option maxHeartbeats 4000000 in
theorem quoteBack_walk (s more : ByteArray) (w : World) (hs : s.size ≤ maxLen) (hs2 : more.size ≤ maxLen) (hm : MayT w) :
    Calls Tryd.prog 6 #[.string s, .string more] w fun e w' => e = .returned (.bool true) ∧ Below w.heap.size w w' := by
  have HC := Lib.hid (fun w' => cut6_of s 400 w' hs (by decide))
  have HC2 := Lib.hid (fun w' => cut6_of more 100 w' hs2 (by decide))
  have hcl := cutS_le s 400
  have hcm := cutS_le more 100
  have HM := Lib.hid hm
  have h0 := hm.1
  clear hs hm hs2
  generalize cutS s 400 = t at *
  generalize cutS more 100 = m at *
  obtain ⟨l, hl⟩ : ∃ l, t.data.toList = l := ⟨_, rfl⟩
  have hsz := sz_of hl
  rw [hsz] at hcl
  have HL := Lib.hid hl
  have HT : Hid (strOf l = t) := by show _ = _; rw [← hl]; exact strOf_data t
  clear hl
  have hpl := putP_len l
  go_enter Tryd.func6, Tryd.ntmps6
  go_wp2_with fail
  refine (HC.out _).mono ?_; rintro e wx ⟨rfl, rfl⟩
  obtain ⟨cap, W1, hcv, hH, hb1⟩ := held_of t w (by rw [hsz]; unfold maxLen; omega)
  have hrd : Rd W1 1 (some ⟨w.heap.size, 0, none⟩) l.length (bc l) := by have := rd_held hH; rw [HL.out] at this; exact this
  have HPT := Lib.hid (qput_of (c := cap) hrd (by omega))
  have HB1 := Lib.hid hb1
  rw [hsz] at hcv
  clear hH hb1 HC hrd
  go_wp2_with fail
  refine HPT.out.mono ?_; rintro e w2 ⟨ap, cp, rfl, hop, hb2⟩
  have hcaps := own_caps hop
  have hf0 := put_field0 l
  generalize hKK : (if needsP l = true then (1 : Int) else 0) = K at *
  have HK := Lib.hid hKK
  have HR1 := Lib.hid (rdTold_of (c := cp) (rd_own hop) (by omega) hcaps.1 hcaps.2 HT.out hf0.1 hf0.2)
  have HOP := Lib.hid hop
  have HB2 := Lib.hid (HB1.out.trans (hb2.mono HB1.out.size))
  clear hop hb2 hcaps hf0 hKK HPT hcv
  go_wp2_with fail
  refine HR1.out.mono ?_; rintro e w3 ⟨a3, n3, c3, rfl, hst3, hb3⟩
  have HB3 := Lib.hid (HB2.out.trans (hb3.mono HB2.out.size))
  have HST3 := Lib.hid hst3
  have hstp := string_own (own_below HOP.out (hb3.trans (Below.refl _ w3).drew))
  have hA : (strOf (putP l)).size ≤ 1000 := by rw [strOf_size]; omega
  have hmd := more_data (putP l) m
  obtain ⟨t2, ht2⟩ : ∃ t2, strOf (putP l) ++ ⟨#[44]⟩ ++ m = t2 := ⟨_, rfl⟩
  rw [ht2] at hmd
  have hsz2 := sz_of hmd
  have hlen2 : (putP l ++ 44 :: m.data.toList).length ≤ 2000 := by
    have : m.data.toList.length = m.size := rfl
    simp only [List.length_append, List.length_cons]; omega
  obtain ⟨cap4, W4, hcv4, hH4, hb4⟩ := held_of t2 w3.drew (by rw [hsz2]; unfold maxLen; omega)
  have hrd4 : Rd W4 1 (some ⟨w3.heap.size, 0, none⟩) (putP l ++ 44 :: m.data.toList).length (bc (putP l ++ 44 :: m.data.toList)) := by have := rd_held hH4; rw [hmd] at this; exact this
  have hf1 := put_field1 l m.data.toList
  rw [HK.out] at hf1
  have HR2 := Lib.hid (rdTold_of (c := cap4) hrd4 (by omega) (by rw [← hsz2]; exact hH4.fits) hH4.cap HT.out hf1.1 hf1.2)
  have HB4 := Lib.hid ((Below.refl _ w3).drew.trans hb4)
  rw [hsz2] at hcv4
  clear hst3 hb3 HR1 hmd hH4 hb4 hrd4 hf1 hsz2 hlen2 HOP
  generalize (putP l ++ 44 :: m.data.toList).length = n2 at *
  generalize strOf (putP l) = A at *
  generalize (putP l).length = np at *
  go_wp2_with fail

  go_region_with ((first
    | (go_at_call 8; refine (HC2.out _).mono ?_; rintro e w' ⟨rfl, rfl⟩)
    | (go_at_call 15; refine HR2.out.mono ?_; rintro e w5 ⟨a5, n5, c5, rfl, hst5, hb5⟩; have HST5 := Lib.hid hst5; have HB5 := Lib.hid (HB4.out.trans (hb5.mono HB4.out.size)); clear hst5 hb5)))
  all_goals
    have c1 := HST3.out w5 HB5.out
    have c2 := HST5.out w5 (Below.refl _ _)
    have HBW := Lib.hid (HB3.out.trans (HB5.out.mono HB3.out.size))
    obtain ⟨cap6, W6, hcv6, hH6, hb6⟩ := held_of t w5 (by rw [hsz]; unfold maxLen; omega)
    have hrd6 : Rd W6 1 (some ⟨w5.heap.size, 0, none⟩) l.length (bc l) := by have := rd_held hH6; rw [HL.out] at this; exact this
    have HN6 := Lib.hid (qneeds_of (c := cap6) hrd6 (by omega))
    have HB6 := Lib.hid (HBW.out.trans (hb6.mono HBW.out.size))
    rw [hsz] at hcv6
    clear hcv4 hstp hH6 hb6 hrd6 HR2 HC2
    by_cases hnd : needsP l = true
    · rw [if_pos hnd] at HK
      have hK := HK.out
      subst hK
      have hf1 : fineB 1 = true := rfl
      rw [hnd] at HN6
      clear HK
      go_wp2_with fail
      refine (fine_of _ _).mono ?_; rintro e wf ⟨rfl, rfl⟩
      go_wp2_with fail
      refine HN6.out.mono ?_; rintro e wn ⟨rfl, rfl⟩
      go_wp2_with fail
      refine (awake6_of _ (HM.out.below HB6.out h0)).mono ?_; rintro e wz ⟨rfl, hbz⟩
      have HBZ := Lib.hid (HB6.out.trans (hbz.mono HB6.out.size))
      clear hbz
      go_wp2_with fail
      go_ret
      exact ⟨rfl, HBZ.out⟩
    · rw [if_neg hnd] at HK
      have hK := HK.out
      subst hK
      have hf1 : fineB 0 = true := rfl
      have hnd' : needsP l = false := by simpa using hnd
      rw [hnd'] at HN6
      clear HK hnd
      go_wp2_with fail
      refine (fine_of _ _).mono ?_; rintro e wf ⟨rfl, rfl⟩
      go_wp2_with fail
      refine HN6.out.mono ?_; rintro e wn ⟨rfl, rfl⟩
      go_wp2_with fail
      refine (awake6_of _ (HM.out.below HB6.out h0)).mono ?_; rintro e wz ⟨rfl, hbz⟩
      have HBZ := Lib.hid (HB6.out.trans (hbz.mono HB6.out.size))
      clear hbz
      go_wp2_with fail
      go_ret
      exact ⟨rfl, HBZ.out⟩

end Go.Proofs.YtphfhmabchfjjaaDoor
