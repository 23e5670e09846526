/-
  FeedPlays, at this seat's numbers.
-/
import Derived.Test.YtdkgnmomkimpoaaFeV
import Derived.Test.YtdkgnmomkimpoaaFeW
namespace Go.Proofs.Ytdkgnmomkimpoaa
open Go Go.RowKit
set_option linter.unusedVariables false

theorem step_of {w0 w : World} {f r room : Nat} (H : FRx w0 w f r room) (kd x : Int) {n : Int} (hn : -9223372036854775808 ≤ n ∧ n ≤ 9223372036854775807) {a : Option Addr} {k : Nat} {l : List Int} (hs : Sq w0 a k l) :
    Calls Try.prog 12 #[pbox f, pbox r, opV kd x n a k l.length] w fun e w' => e = .returned (.bool true) ∧ FRx w0 w' f r room := by
  obtain ⟨tv, pv, S, Q, H⟩ := H
  by_cases h0 : 0 ≤ kd ∧ kd ≤ 7
  · rcases (show kd = 0 ∨ kd = 1 ∨ kd = 2 ∨ (kd = 3 ∨ kd = 4 ∨ kd = 5 ∨ kd = 6) ∨ kd = 7 by omega) with h | h | h | h | h
    · exact step_type H x n a k _ (.inl h)
    · exact step_type H x n a k _ (.inr h)
    · subst h; exact step_push H x n hs
    · exact step_next H x hn.1 hn.2 a k _ h
    · subst h; exact step_drop H x n a k _
  · exact step_other H x n a k _ h0

set_option maxRecDepth 100000 in
set_option maxHeartbeats 64000000 in
theorem feedPlays_walk (rm : Int) (a : Option Addr) (k : Nat) (L : List OpF) (w : World) (hr1 : -9223372036854775808 ≤ rm) (hr2 : rm ≤ 9223372036854775807) (HO : OpsIn w a L ∧ k ≤ maxLen ∧ L.length ≤ k) :
    Calls Try.prog 3 #[.int .i64 rm, .slice a L.length k] w fun e w' => e = .returned (.bool true) ∧ Below w.heap.size w w' := by
  have HN := Lib.hid (fnew rm w)
  have HA := Lib.hid (fun w => awake23_of w)
  have HOps := Lib.hid HO.1
  have hLk := HO.2.2
  have hkm := HO.2.1
  obtain ⟨n, hn⟩ : ∃ n, n = L.length := ⟨_, rfl⟩
  rw [← hn] at hLk ⊢
  have HLn := Lib.hid hn
  clear HO hn
  go_enter Try.func3, Try.ntmps3
  go_wp2_with fail
  refine HN.out.mono ?_; rintro e w1 ⟨f, rfl, F1, b1⟩
  have HR1 := Lib.hid (rnew (w0 := w) rm w1)
  have HF1 := Lib.hid (And.intro F1 b1)
  clear F1 b1
  go_wp2_with fail
  refine HR1.out.mono ?_; rintro e w2 ⟨r, rfl, R2, b2⟩
  have hX : FRx w w2 f r (roomOf rm) := ⟨.slice none 0 0, .slice none 0 0, ⟨[], [], 200⟩, [], ⟨HF1.out.1.below b2, ⟨R2.box, .inl ⟨rfl, rfl⟩, t_nil _ _ _ _, rfl, fun q hq => (by cases hq), Nat.le_trans HF1.out.2.size R2.lo⟩, fun l hl => (by cases hl), ⟨Nat.zero_le _, (roomOf_le rm).2⟩, HF1.out.2.trans (b2.mono HF1.out.2.size)⟩⟩
  have HX0 := Lib.hid hX
  clear R2 b2 hX HF1
  generalize roomOf rm = room at *
  go_wp2_with fail
  go_loopw [15] (fun v15 wr => ∃ j : Nat, v15 = .int .i64 j ∧ j ≤ n ∧ j ≤ 40 ∧ FRx w wr f r room) (fun v15 _ => n - (intOf v15).toNat)
  case atStart => exact ⟨0, rfl, Nat.zero_le _, by omega, HX0.out⟩
  case round =>
    obtain ⟨wq, rfl⟩ : ∃ wq : World, wq = wr := ⟨_, rfl⟩
    obtain ⟨j, rfl, hj, hj40, hX⟩ := hrel
    obtain ⟨tv, pv, S, Q, H⟩ := hX
    have hB := H.low
    by_cases hlt : j < n
    · have dj : decide (j < n) = true := decide_eq_true hlt
      obtain ⟨⟨kd, x, nn, oa, oc, ol⟩, hox⟩ : ∃ o, L[j]? = some o := ⟨_, List.getElem?_eq_getElem (by rw [← HLn.out]; exact hlt)⟩
      have hq0 : Sq w oa oc ol ∧ (-9223372036854775808 ≤ nn ∧ nn ≤ 9223372036854775807) := by
        obtain ⟨_, _, _, _, _, _, _, _, h1, _, _, h2⟩ := HOps.out j _ hox
        exact ⟨h1, h2⟩
      obtain ⟨hsq0, hnn⟩ := hq0
      obtain ⟨g, o, rfl, hg, k0, k1, k2, k3, hsq, _⟩ := (HOps.out.below hB) j _ hox
      simp only at k0 k1 k2 k3 hsq hsq0 hnn
      have e0 : (0 : Int) ≤ (j : Int) := by omega
      have e1 : (j : Int) < (n : Int) := by omega
      have H2 := H.below (t_al wq (opB kd x nn oa oc ol.length))
      by_cases h40 : 40 ≤ j
      · have z1 : decide ((40 : Int) ≤ (j : Int)) = true := decide_eq_true (by omega)
        have HB2 := Lib.hid H2.low
        generalize ol.length = oln at *
        clear hB H H2 hsq hsq0
        go_wp2_with fail
        refine (HA.out _).mono ?_; rintro e w9 ⟨rfl, b9⟩
        have HB9 := Lib.hid (HB2.out.trans (b9.mono HB2.out.size))
        clear b9
        go_wp2_with fail
        go_ret
        exact ⟨rfl, HB9.out⟩
      · have z1 : decide ((40 : Int) ≤ (j : Int)) = false := decide_eq_false (by omega)
        have HS : Hid (Calls Try.prog 12 #[pbox f, pbox r, opV kd x nn oa oc ol.length] (wq.alloc (opB kd x nn oa oc ol.length)).drew fun e w' => e = .returned (.bool true) ∧ FRx w w' f r room) := Lib.hid (step_of ⟨_, _, _, _, H2.below (Below.refl _ _).drew⟩ kd x hnn hsq0)
        generalize ol.length = oln at *
        clear hB H H2 hsq hsq0
        go_wp2_with fail
        go_region_with (first
          | (go_at_call 12
             refine HS.out.mono ?_
             rintro e w3 ⟨rfl, tv3, pv3, S3, Q3, h3⟩
             obtain ⟨ta, tk, rfl⟩ := h3.rf.ot.form
             obtain ⟨pa, pk, rfl⟩ := h3.rf.pform
             have hW := fwaits h3.fd
             have hK := fpacks h3.fd
             have hU := ffuel h3.fd
             have eQ : S3.ps.length = Q3.length := by rw [← h3.rf.ps, List.length_map]
             rw [eQ] at hK
             obtain ⟨_, c1, c2, c3, _⟩ := h3.rf.cs
             have HW := Lib.hid hW
             have HK := Lib.hid hK
             have HU := Lib.hid hU
             have H3 : Hid (FRx w w3 f r room) := ⟨_, _, _, _, h3⟩
             clear h3 hW hK hU eQ)
          | (go_at_call 13
             refine HW.out.mono ?_
             rintro e w4 ⟨rfl, rfl⟩)
          | (go_at_call 14
             refine HK.out.mono ?_
             rintro e w5 ⟨rfl, rfl⟩)
          | (go_at_call 15
             refine HU.out.mono ?_
             rintro e w6 ⟨rfl, rfl⟩))
        all_goals
          go_wp2_with fail
          go_roundw
          case rel => exact ⟨j + 1, by go_num, by omega, by omega, H3.out⟩
          case measure => simp [intOf]; omega
    · have dj : decide (j < n) = false := decide_eq_false hlt
      have HB2 := Lib.hid H.low
      clear hB H
      go_wp2_with fail
      refine (HA.out _).mono ?_; rintro e w9 ⟨rfl, b9⟩
      have HB9 := Lib.hid (HB2.out.trans (b9.mono HB2.out.size))
      clear b9
      go_wp2_with fail
      go_ret
      exact ⟨rfl, HB9.out⟩
end Go.Proofs.Ytdkgnmomkimpoaa
