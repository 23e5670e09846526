/-
  The contract of the law's fits, at this seat's numbers.
-/
import Derived.Test.YtofncnommekbjaaTuA
namespace Go.Proofs.Ytofncnommekbjaa
open Go Go.RowKit
set_option linter.unusedVariables false

/-- The least that a node has. -/
def loOf (root : Bool) (h : Nat) : Nat := if root then rlo h else 3
/-- What fits tells. -/
def FtPost (W0 : World) (L : List Value) (w : World) (e : Ending) (w' : World) : Prop :=
  ∃ a c, e = .returned (.tuple #[.slice a L.length c, .bool true]) ∧ Sl w' a c L ∧ (∀ d, a = some d → d.block < W0.heap.size ∨ w.heap.size ≤ d.block) ∧ Below w.heap.size w w'

set_option maxRecDepth 100000 in
set_option maxHeartbeats 1600000 in
theorem fits0 (W0 : World) {w : World} {b : Nat} {L : List Value} (root : Bool) (H : In W0 95 0 (v0 L) b) (hb : Below W0.heap.size W0 w) (hok : Ok (loOf root 0) 0 (v0 L)) :
    Calls Try.prog 49 #[ptr b, .int .i64 1, .bool root] w (FtPost W0 L w) := by
  have H1 := H.below hb
  obtain ⟨a', c', k0', k1', hsl0⟩ := H1.items
  have hsl : Sl w a' c' L := hsl0
  have k0 : w.cell? ⟨b, 0, none⟩ = some (.slice none 0 0) := k0'
  have k1 : w.cell? ⟨b, 1, none⟩ = some (.slice a' L.length c') := k1'
  have hfl : (flatL 0 (v0 L)).length = L.length := congrArg List.length (flatL_zero L)
  have k2 : w.cell? ⟨b, 2, none⟩ = some (.int .i64 L.length) := by rw [H1.num, hfl]
  have h6 : loOf root 0 ≤ L.length ∧ L.length ≤ 6 := hok.len
  have hlt := H.lt
  have HA : Hid (∀ d, a' = some d → d.block < W0.heap.size) := by
    refine Lib.hid (fun d hd => ?_)
    obtain ⟨a2, c2, e0, e1, hs2⟩ := H.items
    have e2 := (hb.cell (p := ⟨b, 1, none⟩) hlt).trans e1
    rw [k1'] at e2
    injection e2 with e2
    injection e2 with e2
    subst e2
    subst hd
    have hp : 0 < L.length := by have : 1 ≤ loOf root 0 := by unfold loOf rlo; cases root <;> simp
                                 omega
    obtain ⟨g, o, e3, hg, _⟩ := hs2.rd.2 hp
    cases e3
    exact hg
  have HS := Lib.hid hsl
  unfold FtPost
  obtain ⟨n, hn⟩ : ∃ n, L.length = n := ⟨_, rfl⟩
  rw [hn] at k1 k2 h6 ⊢
  have d6 : decide ((6 : Int) < (n : Int)) = false := decide_eq_false (by omega)
  have d6n : decide (6 < n) = false := decide_eq_false (by omega)
  clear H H1 hsl0 hsl k0' k1' hok hfl hn hb hlt
  unfold ptr
  cases root with
  | true =>
    have hlo : loOf true 0 = 1 := rfl
    rw [hlo] at h6
    have dl : decide ((1 : Int) ≤ (n : Int)) = true := decide_eq_true (by omega)
    have dln : decide (1 ≤ n) = true := decide_eq_true (by omega)
    have hnn : ((n : Int) == (n : Int)) = true := by simp
    go_enter Try.func49, Try.ntmps49
    go_wp2_with fail
    go_region
    all_goals
      go_wp2_with fail
      go_ret2
      exact ⟨a', c', rfl, HS.out.drew, fun d hd => .inl (HA.out d hd), (Below.refl _ _).drew⟩
  | false =>
    have hlo : loOf false 0 = 3 := rfl
    rw [hlo] at h6
    have dl : decide ((3 : Int) ≤ (n : Int)) = true := decide_eq_true (by omega)
    have dln : decide (3 ≤ n) = true := decide_eq_true (by omega)
    have hnn : ((n : Int) == (n : Int)) = true := by simp
    go_enter Try.func49, Try.ntmps49
    go_wp2_with fail
    go_region
    all_goals
      go_wp2_with fail
      go_ret2
      exact ⟨a', c', rfl, HS.out.drew, fun d hd => .inl (HA.out d hd), (Below.refl _ _).drew⟩

/-- Values all of which are whole numbers. -/
def IsN (L : List Value) : Prop := ∀ v ∈ L, ∃ x : Int, v = .int .i64 x
theorem isN_nums (l : List Int) : IsN (nums l) := fun v hv => by
  unfold nums at hv
  obtain ⟨x, _, rfl⟩ := List.mem_map.1 hv
  exact ⟨x, rfl⟩
theorem isN_one {L : List Value} (h : IsN L) : ∀ u ∈ L, u.oneCell' = true := fun u hu => by
  obtain ⟨x, rfl⟩ := h u hu; rfl
theorem far_sl {w w4 : World} {a : Option Addr} {c : Nat} {xs : List Value} {row : Option Nat} (h : Sl w a c xs) (hg : w.grownBy w4 row) (hne : ∀ d, a = some d → row ≠ some d.block) : Sl w4 a c xs := by
  refine ⟨⟨h.rd.1, fun hn => ?_⟩, h.cap, h.capm, h.nil, h.form, h.one⟩
  obtain ⟨g, o, rfl, hlt, hc⟩ := h.rd.2 hn
  refine ⟨g, o, rfl, Nat.lt_of_lt_of_le hlt hg.size, fun j x hj => ?_⟩
  rw [hg.cell_far ⟨g, o + j, none⟩ hlt (fun hh => hne _ rfl hh.symm)]
  exact hc j x hj
theorem snoc_take {L : List Value} {A : List Value} {j : Nat} {v : Value} (h : L[j]? = some v) : A ++ (L.take j ++ [v]) = A ++ L.take (j + 1) := by
  rw [List.take_add_one, h]; rfl

set_option maxRecDepth 100000 in
set_option maxHeartbeats 4000000 in
theorem fitsS (W0 : World) (h : Nat) (IH : ∀ {w : World} {b : Nat} {t : List (El h)}, In W0 95 h t b → Below W0.heap.size W0 w → Ok 3 h t → IsN (flatL h t) → (flatL h t).length ≤ 100000 → Calls Try.prog 49 #[ptr b, .int .i64 ((h : Int) + 1), .bool false] w (FtPost W0 (flatL h t) w))
    {w : World} {b : Nat} {ts : List (El (h + 1))} (root : Bool) (H : In W0 95 (h + 1) ts b) (hb : Below W0.heap.size W0 w) (hok : Ok (loOf root (h + 1)) (h + 1) ts) (hN : IsN (flatL (h + 1) ts)) (hf : (flatL (h + 1) ts).length ≤ 100000) (hh : h ≤ 100000) :
    Calls Try.prog 49 #[ptr b, .int .i64 ((h : Int) + 1 + 1), .bool root] w (FtPost W0 (flatL (h + 1) ts) w) := by
  obtain ⟨i0, hi0, hz0, hz1, hz2⟩ := info_parts info_int
  have H1 := H.below hb
  have h6 := hok.len
  have hlo3 : 2 ≤ loOf root (h + 1) := by unfold loOf; cases root <;> simp [rlo_succ]
  obtain ⟨a, c, k0, k1, hes⟩ := H1.kids
  have k2 := H1.num
  obtain ⟨g, o, rfl, hg⟩ := hes.has (by omega)
  have hlt := H1.lt
  obtain ⟨ka, kc, q0, q1, hesW⟩ := H.kids
  have HKid : Hid (∀ k, k < ts.length → ∃ b', w.cell? ⟨g, o + k, none⟩ = some (ptr b') ∧ In W0 95 h (nth ts k) b') := by
    refine Lib.hid (fun k hk => ?_)
    have e0 := (hb.cell (p := ⟨b, 0, none⟩) H.lt).trans q0
    rw [k0] at e0
    injection e0 with e0
    injection e0 with e0 e1 e2
    subst e0
    obtain ⟨b', hc, hin⟩ := hesW.at (x := nth ts k) (nth_at hk)
    obtain ⟨g', o', e3, hg'⟩ := hesW.has (by omega)
    cases e3
    exact ⟨b', (hb.cell (p := ⟨g, o + k, none⟩) hg').trans hc, hin⟩
  have HFT := Lib.hid (fun k (hk : k < ts.length) => flat_split hk)
  have HFL := Lib.hid (fun k (x : List (El h)) (hx : ts[k]? = some x) => flat_take hx)
  have HOK := Lib.hid hok
  have HIS := Lib.hid hN
  obtain ⟨L, hL⟩ : ∃ L, flatL (h + 1) ts = L := ⟨_, rfl⟩
  have HL := Lib.hid hL
  unfold FtPost
  rw [hL] at k2 hf hN ⊢
  obtain ⟨N, hNN⟩ : ∃ N, L.length = N := ⟨_, rfl⟩
  rw [hNN] at k2 hf ⊢
  have HNN := Lib.hid hNN
  obtain ⟨n, hn⟩ : ∃ n, ts.length = n := ⟨_, rfl⟩
  have HTN := Lib.hid hn
  rw [hn] at k0 h6
  have HB0 := Lib.hid hb
  have d6 : decide ((6 : Int) < (n : Int)) = false := decide_eq_false (by omega)
  have d6n : decide (6 < n) = false := decide_eq_false (by omega)
  have dh1 : decide ((h : Int) + 1 + 1 < 1) = false := decide_eq_false (by omega)
  have dh2 : ((h : Int) + 1 + 1 == 1) = false := by simp; omega
  have hwh : IntKind.i64.wrap ((h : Int) + 1 + 1 - 1) = (h : Int) + 1 := by rw [IntKind.wrap_i64]; omega
  have hwn : IntKind.i64.wrap ((h : Int) + 1 + 1) = (h : Int) + 1 + 1 := by rw [IntKind.wrap_i64]; omega
  have hc0 := k0
  clear H H1 hes q0 q1 hesW hok hb hn hL hNN hN
  unfold ptr
  cases root
  · have hlo : loOf false (h + 1) = 3 := rfl
    rw [hlo] at h6 hlo3
    have dl : decide ((3 : Int) ≤ (n : Int)) = true := decide_eq_true (by omega)
    have dln : decide (3 ≤ n) = true := decide_eq_true (by omega)
    go_enter Try.func49, Try.ntmps49
    go_wp2_with fail
    go_loopw [10, 11, 95] (fun v10 v11 v95 wr => ∃ k : Nat, v95 = .int .i64 k ∧ k ≤ n ∧ v11 = .bool true ∧ wr.ownsRow w.heap.size 3 1 v10 (flatL (h + 1) (ts.take k)).length (flatL (h + 1) (ts.take k)) ∧ Below w.heap.size w wr) (fun _ _ v95 _ => n - (intOf v95).toNat)
    case atStart => exact ⟨0, rfl, by omega, rfl, t_nil _ _ _ _, Below.refl _ _⟩
    case round =>
      obtain ⟨k, rfl, hk, rfl, hown, hbw⟩ := hrel
      have HBW := Lib.hid hbw
      have HO := Lib.hid hown
      by_cases hlt2 : k < n
      · have dk : decide (k < n) = true := decide_eq_true hlt2
        obtain ⟨b', hcb, hin⟩ := HKid.out k (by rw [HTN.out]; exact hlt2)
        have hcb2 := (hbw.cell (p := ⟨g, o + k, none⟩) hg).trans hcb
        have hx := nth_at (ks := ts) (k := k) (by rw [HTN.out]; exact hlt2)
        have hfl1 := HFL.out k _ hx
        have hsp := HFT.out k (by rw [HTN.out]; exact hlt2)
        obtain ⟨A, hA⟩ : ∃ A, flatL (h + 1) (ts.take k) = A := ⟨_, rfl⟩
        obtain ⟨B, hB⟩ : ∃ B, flatL h (nth ts k) = B := ⟨_, rfl⟩
        have hA1 : flatL (h + 1) (ts.take (k + 1)) = A ++ B := by
          have hkk : k < ts.length := by rw [HTN.out]; exact hlt2
          have hx2 : ts[k] = mk1 (nth ts k) := (List.getElem?_eq_some_iff.1 hx).2
          rw [List.take_succ_eq_append_getElem hkk, flatL_app, hA, hx2, flatL_cons, flatL_nil, List.append_nil, ← hB]; rfl
        rw [hA, hB, HL.out] at hsp
        have hBN : IsN B := fun v hv => HIS.out v (by rw [HL.out, hsp]; simp [hv])
        have hABN : IsN A := fun v hv => HIS.out v (by rw [HL.out, hsp]; simp [hv])
        have hlen : A.length + B.length ≤ 100000 := by
          have := congrArg List.length hsp
          simp only [List.length_append] at this
          have := HNN.out
          omega
        have HI := Lib.hid (IH hin (HB0.out.trans (hbw.mono HB0.out.size)) (HOK.out.kid (by rw [HTN.out]; exact hlt2)) (by rw [hB]; exact hBN) (by rw [hB]; omega))
        unfold FtPost at HI
        rw [hB] at HI
        rw [hA] at HO hown
        have HA1 := Lib.hid hA1
        have e0 : (0 : Int) ≤ (k : Int) := by omega
        have e1 : (k : Int) < (n : Int) := by omega
        obtain ⟨m, hm⟩ : ∃ m, B.length = m := ⟨_, rfl⟩
        obtain ⟨p, hp⟩ : ∃ p, A.length = p := ⟨_, rfl⟩
        have HM := Lib.hid (And.intro hm hp)
        rw [hm, hp] at hlen
        rw [hm] at HI
        rw [hp] at HO hown
        have HBN := Lib.hid (And.intro hBN hABN)
        have hownlt := fun j hj => (hown.lt j hj)
        have HOL := Lib.hid hownlt
        clear hcb hin hx hfl1 hsp hA hB hA1 hBN hABN hown hbw hm hp hownlt
        unfold ptr at hcb2
        go_wp2_with fail
        refine HI.out.mono ?_; rintro e w2 ⟨a2, c2, rfl, hsl2, had2, hb2⟩
        have HB2 := Lib.hid (HBW.out.trans (hb2.mono HBW.out.size))
        have HO2 := Lib.hid (own_below HO.out hb2)
        have HS2 := Lib.hid hsl2
        have hne : Hid (∀ d, a2 = some d → u10.ownBlock ≠ some d.block) := by
          refine Lib.hid (fun d hd hh => ?_)
          have h1 := HOL.out d.block hh
          have h2 := HB0.out.size
          rcases had2 d hd with h3 | h3 <;> omega
        clear hsl2 had2 hb2 HI hcb2
        go_wp2_with fail
        go_loopw [10, 112] (fun v10 v112 wq => ∃ j : Nat, v112 = .int .i64 j ∧ j ≤ m ∧ wq.ownsRow w.heap.size 3 1 v10 (p + j) (A ++ B.take j) ∧ Below w.heap.size w wq ∧ Sl wq a2 c2 B ∧ (∀ d, a2 = some d → v10.ownBlock ≠ some d.block)) (fun _ v112 _ => m - (intOf v112).toNat)
        case atStart => exact ⟨0, rfl, by omega, by rw [List.take_zero, List.append_nil]; exact HO2.out, HB2.out, HS2.out, hne.out⟩
        case round =>
          obtain ⟨j, rfl, hj, hownq, hbq, hslq, hneq⟩ := hrel
          have HBQ := Lib.hid hbq
          have HOQ := Lib.hid hownq
          have HSQ := Lib.hid hslq
          have HNQ := Lib.hid hneq
          clear hbq hownq hneq
          by_cases hlt3 : j < m
          · have dj : decide (j < m) = true := decide_eq_true hlt3
            have hxj : B[j]? = some (B[j]'(by rw [HM.out.1]; exact hlt3)) := List.getElem?_eq_getElem _
            obtain ⟨x, hxx⟩ := HBN.out.1 _ (List.mem_of_getElem? hxj)
            rw [hxx] at hxj
            obtain ⟨g2, o2, rfl, hg2, hcc⟩ := hslq.rd.2 (by rw [HM.out.1]; omega)
            have c3 := hcc j _ hxj
            have HXJ := Lib.hid hxj
            have f0 : (0 : Int) ≤ (j : Int) := by omega
            have f1 : (j : Int) < (m : Int) := by omega
            clear hxx hslq hxj hcc
            go_wp2_with (first
              | (at_builtin; refine wpList_append_lies _ rfl _ _ 22 rfl w.heap.size 3 i0 (.int .i64 0) 1 8 Try.underlying22 hi0 hz0 hz1 hz2 rfl (by decide) _ _ _ rfl (HOQ.out.alloc _) ⟨wr.heap.size, 0, none⟩ 1 1 [.int .i64 x] rfl rfl ?c1 ?c2 (by decide) ?c3 ?c4 ?c5 _ rfl ?_)
              | fail)
            case c1 =>
              intro j u hj
              match j, hj with
              | 0, hj => simp at hj; subst hj; simp [Addr.add]
            case c2 => intro u hu; simp at hu; subst hu; rfl
            case c3 => unfold maxLen; omega
            case c4 => omega
            case c5 => have := HBQ.out.size; simp; omega
            intro g4 cap4 w4 hown4 hgrow4 hat4 hlt4
            have hS4 : Sl w4 (some ⟨g2, o2, none⟩) c2 B := far_sl (HSQ.out.below (t_al wr _)) hgrow4 (fun d hd => HNQ.out d hd)
            have HS4 := Lib.hid hS4
            have HN4 : Hid (∀ d, some (⟨g2, o2, none⟩ : Addr) = some d → (Value.slice (some ⟨g4, 0, none⟩) (p + j + 1) cap4).ownBlock ≠ some d.block) := by
              refine Lib.hid (fun d hd hh => ?_)
              cases hd
              have h4 : g4 = g2 := by simpa [Value.ownBlock] using hh
              subst h4
              rcases hat4 with h5 | h5
              · exact HNQ.out _ rfl h5
              · first | omega | (simp at h5; omega)
            have HB4 : Hid (Below w.heap.size w w4) := Lib.hid ((HBQ.out.alloc HBQ.out.size _).grown hgrow4 (by have := HBQ.out.size; simp; omega) (fun j hj => (HOQ.out.lt j hj).1))
            have HO4 : Hid (w4.ownsRow w.heap.size 3 1 (.slice (some ⟨g4, 0, none⟩) (p + j + 1) cap4) (p + (j + 1)) (A ++ B.take (j + 1))) := by
              rw [← snoc_take HXJ.out]; exact Lib.hid hown4
            clear hS4 hown4 hgrow4 hat4 hlt4
            go_wp2_with fail
            go_roundw
            case rel => exact ⟨j + 1, by go_num, by omega, HO4.out, HB4.out, HS4.out, HN4.out⟩
            case measure => simp [intOf]; omega
          · have dj : decide (j < m) = false := decide_eq_false hlt3
            have hjm : j = m := by omega
            subst hjm
            have htk : B.take j = B := List.take_of_length_le (by rw [HM.out.1]; omega)
            have HO5 : Hid (wr.ownsRow w.heap.size 3 1 u10 (flatL (h + 1) (ts.take (k + 1))).length (flatL (h + 1) (ts.take (k + 1)))) := by
              have h1 := HOQ.out
              rw [htk] at h1
              have h2 : (flatL (h + 1) (ts.take (k + 1))).length = p + j := by rw [HA1.out, List.length_append, HM.out.1, HM.out.2]
              rw [h2, HA1.out]
              exact Lib.hid h1
            clear htk hslq
            go_wp2_with fail
            go_roundw
            case rel => exact ⟨k + 1, by go_num, by omega, rfl, HO5.out, HBQ.out⟩
            case measure => simp [intOf]; omega
      · have dk : decide (k < n) = false := decide_eq_false hlt2
        have hkn : k = n := by omega
        subst hkn
        have htk : ts.take k = ts := by rw [← HTN.out]; exact List.take_length
        rw [htk, HL.out] at hown
        have k2' := (hbw.cell (p := ⟨b, 2, none⟩) hlt).trans k2
        obtain ⟨a', c', hv⟩ : ∃ a' c', u10 = .slice a' L.length c' := by
          rcases hown.2 with ⟨h1, h2⟩ | ⟨g, cap, cur, h1, _⟩
          · exact ⟨none, 0, by rw [h1, h2]⟩
          · exact ⟨_, _, h1⟩
        subst hv
        have hSl := Lib.hid (Sl.own hown (isN_one (by rw [← HL.out]; exact HIS.out)))
        have hAd : Hid (∀ d, a' = some d → w.heap.size ≤ d.block) := Lib.hid (fun d hd => by subst hd; exact (hown.lt d.block rfl).1)
        rw [HNN.out] at *
        clear hown htk hbw HO
        have hNq : ((N : Int) == (N : Int)) = true := by simp
        go_wp2_with fail
        go_region
        all_goals
          go_wp2_with fail
          go_ret2
          exact ⟨a', c', rfl, hSl.out.drew, fun d hd => .inr (hAd.out d hd), HBW.out.drew⟩
  · have hlo : loOf true (h + 1) = 2 := rfl
    rw [hlo] at h6 hlo3
    have dl : decide ((2 : Int) ≤ (n : Int)) = true := decide_eq_true (by omega)
    have dln : decide (2 ≤ n) = true := decide_eq_true (by omega)
    go_enter Try.func49, Try.ntmps49
    go_wp2_with fail
    go_loopw [10, 11, 95] (fun v10 v11 v95 wr => ∃ k : Nat, v95 = .int .i64 k ∧ k ≤ n ∧ v11 = .bool true ∧ wr.ownsRow w.heap.size 3 1 v10 (flatL (h + 1) (ts.take k)).length (flatL (h + 1) (ts.take k)) ∧ Below w.heap.size w wr) (fun _ _ v95 _ => n - (intOf v95).toNat)
    case atStart => exact ⟨0, rfl, by omega, rfl, t_nil _ _ _ _, Below.refl _ _⟩
    case round =>
      obtain ⟨k, rfl, hk, rfl, hown, hbw⟩ := hrel
      have HBW := Lib.hid hbw
      have HO := Lib.hid hown
      by_cases hlt2 : k < n
      · have dk : decide (k < n) = true := decide_eq_true hlt2
        obtain ⟨b', hcb, hin⟩ := HKid.out k (by rw [HTN.out]; exact hlt2)
        have hcb2 := (hbw.cell (p := ⟨g, o + k, none⟩) hg).trans hcb
        have hx := nth_at (ks := ts) (k := k) (by rw [HTN.out]; exact hlt2)
        have hfl1 := HFL.out k _ hx
        have hsp := HFT.out k (by rw [HTN.out]; exact hlt2)
        obtain ⟨A, hA⟩ : ∃ A, flatL (h + 1) (ts.take k) = A := ⟨_, rfl⟩
        obtain ⟨B, hB⟩ : ∃ B, flatL h (nth ts k) = B := ⟨_, rfl⟩
        have hA1 : flatL (h + 1) (ts.take (k + 1)) = A ++ B := by
          have hkk : k < ts.length := by rw [HTN.out]; exact hlt2
          have hx2 : ts[k] = mk1 (nth ts k) := (List.getElem?_eq_some_iff.1 hx).2
          rw [List.take_succ_eq_append_getElem hkk, flatL_app, hA, hx2, flatL_cons, flatL_nil, List.append_nil, ← hB]; rfl
        rw [hA, hB, HL.out] at hsp
        have hBN : IsN B := fun v hv => HIS.out v (by rw [HL.out, hsp]; simp [hv])
        have hABN : IsN A := fun v hv => HIS.out v (by rw [HL.out, hsp]; simp [hv])
        have hlen : A.length + B.length ≤ 100000 := by
          have := congrArg List.length hsp
          simp only [List.length_append] at this
          have := HNN.out
          omega
        have HI := Lib.hid (IH hin (HB0.out.trans (hbw.mono HB0.out.size)) (HOK.out.kid (by rw [HTN.out]; exact hlt2)) (by rw [hB]; exact hBN) (by rw [hB]; omega))
        unfold FtPost at HI
        rw [hB] at HI
        rw [hA] at HO hown
        have HA1 := Lib.hid hA1
        have e0 : (0 : Int) ≤ (k : Int) := by omega
        have e1 : (k : Int) < (n : Int) := by omega
        obtain ⟨m, hm⟩ : ∃ m, B.length = m := ⟨_, rfl⟩
        obtain ⟨p, hp⟩ : ∃ p, A.length = p := ⟨_, rfl⟩
        have HM := Lib.hid (And.intro hm hp)
        rw [hm, hp] at hlen
        rw [hm] at HI
        rw [hp] at HO hown
        have HBN := Lib.hid (And.intro hBN hABN)
        have hownlt := fun j hj => (hown.lt j hj)
        have HOL := Lib.hid hownlt
        clear hcb hin hx hfl1 hsp hA hB hA1 hBN hABN hown hbw hm hp hownlt
        unfold ptr at hcb2
        go_wp2_with fail
        refine HI.out.mono ?_; rintro e w2 ⟨a2, c2, rfl, hsl2, had2, hb2⟩
        have HB2 := Lib.hid (HBW.out.trans (hb2.mono HBW.out.size))
        have HO2 := Lib.hid (own_below HO.out hb2)
        have HS2 := Lib.hid hsl2
        have hne : Hid (∀ d, a2 = some d → u10.ownBlock ≠ some d.block) := by
          refine Lib.hid (fun d hd hh => ?_)
          have h1 := HOL.out d.block hh
          have h2 := HB0.out.size
          rcases had2 d hd with h3 | h3 <;> omega
        clear hsl2 had2 hb2 HI hcb2
        go_wp2_with fail
        go_loopw [10, 112] (fun v10 v112 wq => ∃ j : Nat, v112 = .int .i64 j ∧ j ≤ m ∧ wq.ownsRow w.heap.size 3 1 v10 (p + j) (A ++ B.take j) ∧ Below w.heap.size w wq ∧ Sl wq a2 c2 B ∧ (∀ d, a2 = some d → v10.ownBlock ≠ some d.block)) (fun _ v112 _ => m - (intOf v112).toNat)
        case atStart => exact ⟨0, rfl, by omega, by rw [List.take_zero, List.append_nil]; exact HO2.out, HB2.out, HS2.out, hne.out⟩
        case round =>
          obtain ⟨j, rfl, hj, hownq, hbq, hslq, hneq⟩ := hrel
          have HBQ := Lib.hid hbq
          have HOQ := Lib.hid hownq
          have HSQ := Lib.hid hslq
          have HNQ := Lib.hid hneq
          clear hbq hownq hneq
          by_cases hlt3 : j < m
          · have dj : decide (j < m) = true := decide_eq_true hlt3
            have hxj : B[j]? = some (B[j]'(by rw [HM.out.1]; exact hlt3)) := List.getElem?_eq_getElem _
            obtain ⟨x, hxx⟩ := HBN.out.1 _ (List.mem_of_getElem? hxj)
            rw [hxx] at hxj
            obtain ⟨g2, o2, rfl, hg2, hcc⟩ := hslq.rd.2 (by rw [HM.out.1]; omega)
            have c3 := hcc j _ hxj
            have HXJ := Lib.hid hxj
            have f0 : (0 : Int) ≤ (j : Int) := by omega
            have f1 : (j : Int) < (m : Int) := by omega
            clear hxx hslq hxj hcc
            go_wp2_with (first
              | (at_builtin; refine wpList_append_lies _ rfl _ _ 22 rfl w.heap.size 3 i0 (.int .i64 0) 1 8 Try.underlying22 hi0 hz0 hz1 hz2 rfl (by decide) _ _ _ rfl (HOQ.out.alloc _) ⟨wr.heap.size, 0, none⟩ 1 1 [.int .i64 x] rfl rfl ?c1 ?c2 (by decide) ?c3 ?c4 ?c5 _ rfl ?_)
              | fail)
            case c1 =>
              intro j u hj
              match j, hj with
              | 0, hj => simp at hj; subst hj; simp [Addr.add]
            case c2 => intro u hu; simp at hu; subst hu; rfl
            case c3 => unfold maxLen; omega
            case c4 => omega
            case c5 => have := HBQ.out.size; simp; omega
            intro g4 cap4 w4 hown4 hgrow4 hat4 hlt4
            have hS4 : Sl w4 (some ⟨g2, o2, none⟩) c2 B := far_sl (HSQ.out.below (t_al wr _)) hgrow4 (fun d hd => HNQ.out d hd)
            have HS4 := Lib.hid hS4
            have HN4 : Hid (∀ d, some (⟨g2, o2, none⟩ : Addr) = some d → (Value.slice (some ⟨g4, 0, none⟩) (p + j + 1) cap4).ownBlock ≠ some d.block) := by
              refine Lib.hid (fun d hd hh => ?_)
              cases hd
              have h4 : g4 = g2 := by simpa [Value.ownBlock] using hh
              subst h4
              rcases hat4 with h5 | h5
              · exact HNQ.out _ rfl h5
              · first | omega | (simp at h5; omega)
            have HB4 : Hid (Below w.heap.size w w4) := Lib.hid ((HBQ.out.alloc HBQ.out.size _).grown hgrow4 (by have := HBQ.out.size; simp; omega) (fun j hj => (HOQ.out.lt j hj).1))
            have HO4 : Hid (w4.ownsRow w.heap.size 3 1 (.slice (some ⟨g4, 0, none⟩) (p + j + 1) cap4) (p + (j + 1)) (A ++ B.take (j + 1))) := by
              rw [← snoc_take HXJ.out]; exact Lib.hid hown4
            clear hS4 hown4 hgrow4 hat4 hlt4
            go_wp2_with fail
            go_roundw
            case rel => exact ⟨j + 1, by go_num, by omega, HO4.out, HB4.out, HS4.out, HN4.out⟩
            case measure => simp [intOf]; omega
          · have dj : decide (j < m) = false := decide_eq_false hlt3
            have hjm : j = m := by omega
            subst hjm
            have htk : B.take j = B := List.take_of_length_le (by rw [HM.out.1]; omega)
            have HO5 : Hid (wr.ownsRow w.heap.size 3 1 u10 (flatL (h + 1) (ts.take (k + 1))).length (flatL (h + 1) (ts.take (k + 1)))) := by
              have h1 := HOQ.out
              rw [htk] at h1
              have h2 : (flatL (h + 1) (ts.take (k + 1))).length = p + j := by rw [HA1.out, List.length_append, HM.out.1, HM.out.2]
              rw [h2, HA1.out]
              exact Lib.hid h1
            clear htk hslq
            go_wp2_with fail
            go_roundw
            case rel => exact ⟨k + 1, by go_num, by omega, rfl, HO5.out, HBQ.out⟩
            case measure => simp [intOf]; omega
      · have dk : decide (k < n) = false := decide_eq_false hlt2
        have hkn : k = n := by omega
        subst hkn
        have htk : ts.take k = ts := by rw [← HTN.out]; exact List.take_length
        rw [htk, HL.out] at hown
        have k2' := (hbw.cell (p := ⟨b, 2, none⟩) hlt).trans k2
        obtain ⟨a', c', hv⟩ : ∃ a' c', u10 = .slice a' L.length c' := by
          rcases hown.2 with ⟨h1, h2⟩ | ⟨g, cap, cur, h1, _⟩
          · exact ⟨none, 0, by rw [h1, h2]⟩
          · exact ⟨_, _, h1⟩
        subst hv
        have hSl := Lib.hid (Sl.own hown (isN_one (by rw [← HL.out]; exact HIS.out)))
        have hAd : Hid (∀ d, a' = some d → w.heap.size ≤ d.block) := Lib.hid (fun d hd => by subst hd; exact (hown.lt d.block rfl).1)
        rw [HNN.out] at *
        clear hown htk hbw HO
        have hNq : ((N : Int) == (N : Int)) = true := by simp
        go_wp2_with fail
        go_region
        all_goals
          go_wp2_with fail
          go_ret2
          exact ⟨a', c', rfl, hSl.out.drew, fun d hd => .inr (hAd.out d hd), HBW.out.drew⟩

theorem fits_of (W0 : World) : ∀ (h : Nat) {w : World} {b : Nat} {t : List (El h)} (root : Bool), In W0 95 h t b → Below W0.heap.size W0 w → Ok (loOf root h) h t → IsN (flatL h t) → (flatL h t).length ≤ 100000 → h ≤ 100000 →
    Calls Try.prog 49 #[ptr b, .int .i64 ((h : Int) + 1), .bool root] w (FtPost W0 (flatL h t) w)
  | 0, w, b, t, root, H, hb, hok, hN, hf, _ => by
    have e : flatL 0 t = (t : List Value) := flatL_zero t
    rw [e]
    exact fits0 W0 (L := t) root H hb hok
  | h + 1, w, b, t, root, H, hb, hok, hN, hf, hh => by
    have e : (((h + 1 : Nat) : Int) + 1) = (h : Int) + 1 + 1 := by omega
    rw [e]
    exact fitsS W0 h (fun H' hb' hok' hN' hf' => fits_of W0 h false H' hb' hok' hN' hf' (by omega)) root H hb hok hN hf (by omega)

end Go.Proofs.Ytofncnommekbjaa
