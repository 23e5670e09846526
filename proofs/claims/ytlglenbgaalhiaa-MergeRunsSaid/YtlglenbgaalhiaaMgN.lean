/-
  The contracts of merge.Sort, Least and Perm, at this seat's numbers.
-/
import Derived.Test.YtlglenbgaalhiaaMgJ
import Derived.Lib.MinMax
namespace Go.Proofs.Ytlglenbgaalhiaa
open Go Go.RowKit
set_option linter.unusedVariables false

theorem flatR_map (T : List RowM) : flatR T = (T.map (fun p : RowM => p.2.2)).flatten := by unfold flatR; rw [List.flatMap_def]
theorem rws_of {w : World} {B a0 : Nat} {a : Option Addr} {T : List RowM} (ho : w.ownsRow B 22 1 (.slice a T.length a0) T.length (T.map rowV)) (ht : TOwn w B T) : Rws w a a0 T := ⟨own_sl ho (rowV_one T), ht.rd⟩

set_option maxRecDepth 100000 in
theorem msort_of {w : World} {fv : Value} {D : Int → Prop} {c : Int → Int → Int} {a : Option Addr} {ca : Nat} (l : List Int) (hC : Cv w fv D c) (hM : Cm c) (hT : Sl w a ca (nums l)) (hD : ∀ x ∈ l, D x) (hn : l.length ≤ 100000) :
    Calls Try.prog 12 #[.slice a l.length ca, fv] w (NPost (sortL c l) w) := by
  have HR := Lib.hid (runs_of l hC hT hD hn)
  have HC := Lib.hid hC
  have HCM := Lib.hid hM
  have HD := Lib.hid hD
  have HN := Lib.hid hn
  have HFl : Hid ((runsI c l l.length).flatten = l) := Lib.hid (by rw [runsI_flat c l l.length (Nat.le_refl _), List.take_length])
  have HSr := Lib.hid (runsI_srt hM l l.length)
  have HLn := Lib.hid (runsI_len c l l.length)
  obtain ⟨n, hnn⟩ : ∃ n, l.length = n := ⟨_, rfl⟩
  rw [hnn] at HR HLn HFl HSr ⊢
  have HNN := Lib.hid hnn
  obtain ⟨kf, capf, rfl, hcf, hcall⟩ := HC.out
  clear hC hM hT hD hn hnn hcall
  go_enter Try.func12, Try.ntmps12
  go_wp2_with fail
  refine HR.out.mono ?_; rintro e w1 ⟨a1, c1, T, hTm, rfl, ho, ht, hb⟩
  have hfl : flatR T = l := by rw [flatR_map, hTm]; exact HFl.out
  have hmem : ∀ p ∈ T, p.2.2 ∈ runsI c l n := fun p hp => by rw [← hTm]; exact List.mem_map_of_mem hp
  have hTl : T.length ≤ 100000 := by
    have h1 := congrArg List.length hTm
    rw [List.length_map] at h1
    have h2 := HLn.out
    have h3 := HN.out
    rw [HNN.out] at h3
    omega
  have HMe := Lib.hid (merge_of T (HC.out.below hb) HCM.out (rws_of ho ht) (fun p hp => HSr.out _ (hmem p hp)) (fun p hp x hx => HD.out x (by
    rw [← HFl.out]; exact List.mem_flatten.2 ⟨_, hmem p hp, hx⟩)) hTl (by rw [hfl]; have := HN.out; omega))
  rw [hfl] at HMe
  have HB := Lib.hid hb
  clear hTm ho ht hb hfl hmem hTl HR
  go_wp2_with fail
  refine HMe.out.mono ?_; rintro e w2 ⟨a2, c2, rfl, ho2, hb2⟩
  have HO2 := Lib.hid (own_mono ho2 HB.out.size)
  have HB2 := Lib.hid (HB.out.trans (hb2.mono HB.out.size))
  clear ho2 hb2 HMe
  go_wp2_with fail
  go_ret
  exact ⟨a2, c2, rfl, HO2.out, HB2.out⟩

theorem take_own {w : World} {B c n : Nat} {a : Option Addr} {L : List Int} (h : w.ownsRow B 3 1 (.slice a L.length c) L.length (nums L)) : Sl w a c (nums (L.take n)) := by
  rw [← nums_take]
  have h1 := own_sl h (nums_one _)
  exact h1.take n

set_option maxRecDepth 100000 in
/-- The first so many things of Sort: how many. -/
theorem least_of {w : World} {fv : Value} {D : Int → Prop} {c : Int → Int → Int} {a : Option Addr} {ca : Nat} (l : List Int) (m : Int) (hC : Cv w fv D c) (hM : Cm c) (hT : Sl w a ca (nums l)) (hD : ∀ x ∈ l, D x) (hn : l.length ≤ 100000) :
    Calls Try.prog 13 #[.slice a l.length ca, .int .i64 m, fv] w fun e w' => ∃ a' c', e = .returned (.slice a' ((sortL c l).take m.toNat).length c') ∧ Sl w' a' c' (nums ((sortL c l).take m.toNat)) ∧ Below w.heap.size w w' := by
  have HS := Lib.hid (msort_of l hC hM hT hD hn)
  obtain ⟨kf, capf, rfl, hcf, hcall⟩ := hC
  obtain ⟨L, hL⟩ : ∃ L, sortL c l = L := ⟨_, rfl⟩
  have hLl : L.length = l.length := by rw [← hL, sort_len]
  rw [hL] at HS ⊢
  rw [← hLl] at hn
  have HLL := Lib.hid hLl
  clear hM hT hD hcall hL hLl
  obtain ⟨q, hq⟩ : ∃ q, L.length = q := ⟨_, rfl⟩
  have HQ := Lib.hid hq
  have hk : ((L.take m.toNat).length : Int) = min (max m 0) (q : Int) := by rw [List.length_take, hq]; omega
  obtain ⟨k, hkk⟩ : ∃ k, (L.take m.toNat).length = k := ⟨_, rfl⟩
  rw [hkk] at hk ⊢
  have hmin : min (max m 0) (q : Int) = (k : Int) := hk.symm
  rw [hq] at hn
  have hkq : (k : Int) ≤ (q : Int) := by omega
  clear hk hq hkk
  go_enter Try.func13, Try.ntmps13
  go_wp2_with fail
  refine HS.out.mono ?_; rintro e w1 ⟨a1, c1, rfl, ho, hb⟩
  have HSl := Lib.hid (take_own (n := m.toNat) ho)
  rcases t_form ho with ⟨rfl, h1, rfl⟩ | ⟨g, rfl, _, hg, h2, h3⟩
  · have hq0 : q = 0 := by rw [← HQ.out]; exact h1
    have hk0 : k = 0 := by omega
    rw [HQ.out] at ho ⊢
    have HB := Lib.hid hb
    subst hq0
    subst hk0
    have hmz : min (max m 0) (0 : Int) = 0 := by omega
    clear ho hb h1 HS
    go_wp2_with fail
    go_ret
    exact ⟨none, 0, rfl, HSl.out, HB.out⟩
  · rw [HQ.out] at h2 ho ⊢
    have hkc : (k : Int) ≤ (c1 : Int) := by omega
    have HB := Lib.hid hb
    clear ho hb HS
    go_wp2_with fail
    go_ret
    exact ⟨some ⟨g, 0, none⟩, c1, rfl, HSl.out, HB.out⟩

/-- The closure of Perm: it compares the things at two places. -/
theorem pcmp_of {W w : World} {q r : Nat} {fv : Value} {D : Int → Prop} {c : Int → Int → Int} {a : Option Addr} {ca : Nat} (l : List Int) (hC : Cv W fv D c) (hb : Below W.heap.size W w) (hq : W.cell? ⟨q, 0, none⟩ = some fv) (hr : W.cell? ⟨r, 0, none⟩ = some (.slice a l.length ca)) (hql : q < W.heap.size) (hrl : r < W.heap.size) (hT : Sl W a ca (nums l)) (hD : ∀ x ∈ l, D x) (i j : Nat) (hi : i < l.length) (hj : j < l.length) :
    Calls Try.prog 21 #[.int .i64 i, .int .i64 j, .pointer (some ⟨q, 0, none⟩), .pointer (some ⟨r, 0, none⟩)] w fun e w' => e = .returned (.int .i64 (c (l.getD i 0) (l.getD j 0))) ∧ Below w.heap.size w w' := by
  obtain ⟨k, cap, rfl, hcf, hK⟩ := hC
  obtain ⟨g, o, rfl⟩ := hT.numsome (by omega)
  obtain ⟨x, hx⟩ : ∃ x, l[i]? = some x := ⟨_, List.getElem?_eq_getElem hi⟩
  obtain ⟨y, hy⟩ : ∃ y, l[j]? = some y := ⟨_, List.getElem?_eq_getElem hj⟩
  have hgx : l.getD i 0 = x := by rw [List.getD_eq_getElem?_getD, hx]; rfl
  have hgy : l.getD j 0 = y := by rw [List.getD_eq_getElem?_getD, hy]; rfl
  obtain ⟨vx, hgl⟩ := hT.num hx
  obtain ⟨vy, _⟩ := hT.num hy
  have hk' := fun w' (h : Below w.heap.size w w') => hK w' x y (hb.trans (h.mono hb.size)) (hD x (List.mem_of_getElem? hx)) (hD y (List.mem_of_getElem? hy))
  rw [hgx, hgy]
  obtain ⟨s, hs⟩ : ∃ s, c x y = s := ⟨_, rfl⟩
  simp only [hs] at hk'
  rw [hs]
  have HK := Lib.hid hk'
  have ld1 := fun w' (h : Below w.heap.size w w') => (h.cell (p := ⟨q, 0, none⟩) (Nat.lt_of_lt_of_le hql hb.size)).trans ((hb.cell (p := ⟨q, 0, none⟩) hql).trans hq)
  have ld2 := fun w' (h : Below w.heap.size w w') => (h.cell (p := ⟨r, 0, none⟩) (Nat.lt_of_lt_of_le hrl hb.size)).trans ((hb.cell (p := ⟨r, 0, none⟩) hrl).trans hr)
  have ld3 := fun w' (h : Below w.heap.size w w') => (h.cell (p := ⟨g, o + i, none⟩) (Nat.lt_of_lt_of_le hgl hb.size)).trans ((hb.cell (p := ⟨g, o + i, none⟩) hgl).trans vx)
  have ld4 := fun w' (h : Below w.heap.size w w') => (h.cell (p := ⟨g, o + j, none⟩) (Nat.lt_of_lt_of_le hgl hb.size)).trans ((hb.cell (p := ⟨g, o + j, none⟩) hgl).trans vy)
  have hsB0 : Below w.heap.size w w.drew := (Below.refl _ _).drew
  have B0 := Lib.hid hsB0
  generalize l.length = n at *
  have e0 : (0 : Int) ≤ (i : Int) := by omega
  have e1 : (i : Int) < (n : Int) := by omega
  have e2 : (0 : Int) ≤ (j : Int) := by omega
  have e3 : (j : Int) < (n : Int) := by omega
  clear hx hy hgx hgy vx vy hk' hs hq hr hK hT
  go_enter Try.func21, Try.ntmps21
  go_wp2_with fail
  go_region_held3 (fun w' => Below w.heap.size w w') (first | assumption)
    ((refine (HK.out _ B0.out).mono ?_; rintro e w2 ⟨rfl, hb2⟩; have hsB2 := B0.out.trans (hb2.mono B0.out.size); have B2 := Lib.hid hsB2; clear hb2))
  all_goals
    clear ld1 ld2 ld3 ld4
    go_wp2_with fail
    go_ret
    exact ⟨rfl, B2.out⟩

/-- The places 0, 1, .. -/
def upTo (n : Nat) : List Int := (List.range n).map fun (i : Nat) => (i : Int)
theorem upTo_len (n : Nat) : (upTo n).length = n := by simp [upTo]
theorem upTo_mem {n : Nat} {x : Int} (h : x ∈ upTo n) : ∃ i : Nat, x = i ∧ i < n := by
  obtain ⟨i, hi, rfl⟩ := List.mem_map.1 h
  exact ⟨i, rfl, List.mem_range.1 hi⟩
/-- The comparison of places. -/
def cmpAt (c : Int → Int → Int) (l : List Int) (i j : Int) : Int := c (l.getD i.toNat 0) (l.getD j.toNat 0)
theorem cmpAt_cm {c : Int → Int → Int} (H : Cm c) (l : List Int) : Cm (cmpAt c l) := ⟨fun a b => H.anti _ _, fun a b d => H.trans _ _ _⟩

end Go.Proofs.Ytlglenbgaalhiaa
