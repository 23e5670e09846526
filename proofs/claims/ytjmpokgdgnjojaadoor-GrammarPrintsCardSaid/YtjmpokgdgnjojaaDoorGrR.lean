/-
  The document's count, for any keys, at this seat's numbers.
-/
import Derived.Test.YtjmpokgdgnjojaaDoorGrM
import Derived.IntWalk
namespace Go.Proofs.YtjmpokgdgnjojaaDoor
open Go Go.RowKit
set_option linter.unusedVariables false

/-- Digits, if some stand there; ct is the count ahead of them. -/
def cntGo (ct : Int) : Int → List Int → Bool × Int × List Int
  | n, [] => (true, n, [])
  | n, x :: t => if 48 ≤ x ∧ x ≤ 57 ∧ (0 < n ∨ 48 < x) then
      (if 9999 < (if 0 < ct then (n * 10 + x - 48) * ct else n * 10 + x - 48) then (false, n, t) else cntGo ct (n * 10 + x - 48) t) else (true, n, x :: t)
theorem cntGo_cons (ct n x : Int) (t : List Int) : cntGo ct n (x :: t) = if 48 ≤ x ∧ x ≤ 57 ∧ (0 < n ∨ 48 < x) then
      (if 9999 < (if 0 < ct then (n * 10 + x - 48) * ct else n * 10 + x - 48) then (false, n, t) else cntGo ct (n * 10 + x - 48) t) else (true, n, x :: t) := by rw [cntGo]
/-- What count comes to: the count, what is left. -/
def cntR (ct : Int) (l : List Int) : Bool × Int × List Int :=
  let y := cntGo ct 0 l
  if y.1 = true then (true, (if 0 < y.2.1 ∧ y.2.2 ≠ [] then (if 0 < ct then y.2.1 * ct else y.2.1) else ct), y.2.2) else (false, ct, y.2.2)
def CtPost (w0 : World) (q : Nat) (a : Option Addr) (k : Nat) (l : List Int) (c : Cm) (wh er : Int) (R : Bool × Int × List Int) (e : Ending) (w' : World) : Prop :=
  e = .returned (.bool R.1) ∧ RgIn w0 w' q a k l (l.length - R.2.2.length) { c with ct := R.2.1 } (if R.1 = true then wh else 2) (if R.1 = true then er else 5)
section
variable {w0 w : World} {q : Nat} {a : Option Addr} {k : Nat} {l : List Int} {at_ : Nat} {c : Cm} {wh er : Int}
theorem RgIn.setCt (H : RgIn w0 w q a k l at_ c wh er) (v : Int) : RgIn w0 (w.setCell ⟨q, 4, none⟩ (.int .i64 v)) q a k l at_ { c with ct := v } wh er := ⟨heap_set_at H.box, H.sq, H.low.setCell (p := ⟨q, 4, none⟩) H.lo _, H.lo⟩
theorem drop_at {i : Nat} {x : Int} (hx : l[i]? = some x) : l.drop i = x :: l.drop (i + 1) := by
  obtain ⟨h, rfl⟩ := List.getElem?_eq_some_iff.1 hx
  exact List.drop_eq_getElem_cons h
/-- The place as it lies. -/
def atOf (w : World) (q : Nat) : Nat := match w.cell? ⟨q, 1, none⟩ with
  | some (.int _ z) => z.toNat
  | _ => 0
theorem RgIn.atOf (H : RgIn w0 w q a k l at_ c wh er) : Go.Proofs.YtjmpokgdgnjojaaDoor.atOf w q = at_ := by
  unfold Go.Proofs.YtjmpokgdgnjojaaDoor.atOf; rw [H.cs.2.1]; simp
theorem CtPost.go {wr : World} {n : Int} {i : Nat} {r : List Int} (hgo : cntGo c.ct 0 (l.drop at_) = (true, n, r)) (hi : i = l.length - r.length) {ct' : Int} (hct : ct' = if 0 < n ∧ r ≠ [] then (if 0 < c.ct then n * c.ct else n) else c.ct) (h : RgIn w0 wr q a k l i { c with ct := ct' } wh er) : CtPost w0 q a k l c wh er (cntR c.ct (l.drop at_)) (.returned (.bool true)) wr := by
  unfold CtPost cntR
  rw [hgo]
  simp only [if_true]
  rw [← hct, ← hi]
  exact ⟨trivial, h⟩
theorem CtPost.no {wr : World} {n : Int} {i : Nat} {r : List Int} (hgo : cntGo c.ct 0 (l.drop at_) = (false, n, r)) (hi : i = l.length - r.length) (h : RgIn w0 wr q a k l i c 2 5) : CtPost w0 q a k l c wh er (cntR c.ct (l.drop at_)) (.returned (.bool false)) wr := by
  unfold CtPost cntR
  rw [hgo]
  simp only [Bool.false_eq_true, if_false]
  rw [← hi]
  exact ⟨trivial, h⟩
set_option maxRecDepth 100000 in
set_option maxHeartbeats 32000000 in
theorem count_all (H : RgIn w0 w q a k l at_ c wh er) (hat : at_ ≤ l.length) (hc : 0 ≤ c.ct ∧ c.ct ≤ 9999) : Calls Tryd.prog 36 #[pbox q] w (CtPost w0 q a k l c wh er (cntR c.ct (l.drop at_))) := by
  have HH := Lib.hid H
  have HC := Lib.hid hc
  have HCap : Hid (l.length ≤ maxLen) := Nat.le_trans H.sq.cap H.sq.capm
  have HSq := Lib.hid H.sq
  obtain ⟨ln, hln⟩ : ∃ ln, l.length = ln := ⟨_, rfl⟩
  have HLn := Lib.hid hln
  have HAt := Lib.hid hat
  obtain ⟨Q, hQ⟩ : ∃ Q, Q = CtPost w0 q a k l c wh er (cntR c.ct (l.drop at_)) := ⟨_, rfl⟩
  rw [← hQ]
  have HQ := Lib.hid hQ
  clear hQ H hln hat hc
  go_enter Tryd.func36, Tryd.ntmps36
  go_wp2_with fail
  go_loopw [3, 4] (fun v3 _ wr => ∃ (i : Nat) (n : Int), v3 = .int .i64 n ∧ i ≤ ln ∧ 0 ≤ n ∧ n ≤ 9999 ∧ cntGo c.ct 0 (l.drop at_) = cntGo c.ct n (l.drop i) ∧ RgIn w0 wr q a k l i c wh er) (fun _ _ wr => ln - atOf wr q)
  case atStart => exact ⟨at_, 0, rfl, by rw [← HLn.out]; exact HAt.out, by omega, by omega, rfl, HH.out⟩
  case round =>
    obtain ⟨i, n, rfl, hi, hn0, hn9, hgo, hr⟩ := hrel
    have HI := Lib.hid hr
    have HG := Lib.hid hgo
    obtain ⟨c0, c1, c2, c3, c4, c5, c6, c7, c8⟩ := hr.cs
    rw [HLn.out] at c0
    have f1 := hr.fr 1
    have f4 := hr.fr 4
    have f7 := hr.fr 7
    have f8 := hr.fr 8
    have hcap : ln ≤ maxLen := by rw [← HLn.out]; exact HCap.out
    unfold maxLen at hcap
    have i0 : (0 : Int) ≤ (i : Int) := by omega
    by_cases hlt : i < ln
    · obtain ⟨x, hx⟩ : ∃ x, l[i]? = some x := ⟨_, List.getElem?_eq_getElem (by rw [HLn.out]; exact hlt)⟩
      have hd := drop_at hx
      rw [hd, cntGo_cons] at hgo
      have HG2 := Lib.hid hgo
      have hLr : Hid (i = l.length - (x :: l.drop (i + 1)).length ∧ i + 1 = l.length - (l.drop (i + 1)).length) := by
        refine ⟨?_, ?_⟩ <;> simp <;> rw [HLn.out] <;> omega
      obtain ⟨d, rfl, hcell, hdb⟩ := HSq.out.at_ _ _ hx
      have hxr := (hr.low.cell hdb).trans hcell
      have i1 : (i : Int) < (ln : Int) := by omega
      have dn : decide ((i : Int) < (ln : Int)) = true := decide_eq_true i1
      clear hr hgo hd hx hcell hdb HH
      by_cases hdig : 48 ≤ x ∧ x ≤ 57 ∧ (0 < n ∨ 48 < x)
      · have d1 : decide ((48 : Int) ≤ x) = true := decide_eq_true hdig.1
        have d2 : decide (x ≤ (57 : Int)) = true := decide_eq_true hdig.2.1
        obtain ⟨m, hm⟩ : ∃ m, m = n * 10 + x - 48 := ⟨_, rfl⟩
        have hm0 : 0 ≤ m := by omega
        have hm9 : m ≤ 99999 := by omega
        have hs1 : IntKind.i64.wrap (n * 10) = n * 10 := IntWalk.i64_in _ (by omega)
        have hs2 : IntKind.i64.wrap (n * 10 + x) = n * 10 + x := IntWalk.i64_in _ (by omega)
        have hs3 : IntKind.i64.wrap (n * 10 + x - 48) = m := by rw [← hm]; exact IntWalk.i64_in _ (by omega)
        have HGo := HG2.out
        rw [if_pos hdig, ← hm] at HGo
        have HS : Hid (∀ wr', RgIn w0 wr' q (some d) k l i c wh er → RgIn w0 (wr'.setCell ⟨q, 1, none⟩ (.int .i64 ((i : Int) + 1))) q (some d) k l (i + 1) c wh er) := fun wr' h => by
          have := h.setAt (i + 1)
          rwa [show ((i + 1 : Nat) : Int) = (i : Int) + 1 by omega] at this
        have HMe : Hid (∀ wr', ln - atOf (wr'.setCell ⟨q, 1, none⟩ (.int .i64 ((i : Int) + 1))) q < ln - atOf wr q ∨ ¬ RgIn w0 wr' q (some d) k l i c wh er) := fun wr' => by
          by_cases h : RgIn w0 wr' q (some d) k l i c wh er
          · left; rw [(HS.out _ h).atOf, HI.out.atOf]; omega
          · exact .inr h
        clear hm
        have hz : 0 < n ∨ (n = 0 ∧ 48 < x) := by omega
        by_cases hct : 0 < c.ct
        · have dct : decide (0 < c.ct) = true := decide_eq_true hct
          have hmle : m ≤ m * c.ct := by
            have := Int.mul_le_mul_of_nonneg_left (show 1 ≤ c.ct by omega) hm0
            rwa [Int.mul_one] at this
          have hmge : m * c.ct ≤ 99999 * 9999 := Int.mul_le_mul hm9 HC.out.2 HC.out.1 (by omega)
          have hs4 : IntKind.i64.wrap (m * c.ct) = m * c.ct := IntWalk.i64_in _ (by omega)
          by_cases hov : 9999 < m * c.ct
          · have HGn : Hid (cntGo c.ct 0 (l.drop at_) = (false, n, l.drop (i + 1))) := by show _ = _; rw [HGo, if_pos (show 9999 < (if 0 < c.ct then m * c.ct else m) by rw [if_pos hct]; exact hov)]
            clear HGo
            have dov : decide ((9999 : Int) < m * c.ct) = true := decide_eq_true hov
            have HF : Hid (∀ j, Q (.returned (.bool false)) (((((wr.drewN j).setCell ⟨q, 1, none⟩ (.int .i64 ((i : Int) + 1))).setCell ⟨q, 7, none⟩ (.int .i64 2)).setCell ⟨q, 8, none⟩ (.int .i64 5)))) := fun j => by
              rw [HQ.out]; exact CtPost.no HGn.out hLr.out.2 ((((HS.out _ (HI.out.drewN j))).setWh 2).setEr 5)
            rcases hz with hz | ⟨rfl, hz⟩
            · have dz : decide ((0 : Int) < n) = true := decide_eq_true hz
              clear hz hov
              go_wp2_with fail
              go_quiet (fail)
              go_wp2_with fail
              go_quiet (fail)
              go_wp2_with fail
              first | exact HF.out _ | exact HF.out _ _ | (go_ret; exact HF.out _)
            · have dz : decide ((48 : Int) < x) = true := decide_eq_true hz
              simp only [Int.zero_mul, Int.zero_add] at hs1 hs2 hs3
              clear hz hov
              go_wp2_with fail
              go_quiet (fail)
              go_wp2_with fail
              go_quiet (fail)
              go_wp2_with fail
              first | exact HF.out _ | exact HF.out _ _ | (go_ret; exact HF.out _)
          · have HGn : Hid (cntGo c.ct 0 (l.drop at_) = cntGo c.ct m (l.drop (i + 1))) := by show _ = _; rw [HGo, if_neg (show ¬ 9999 < (if 0 < c.ct then m * c.ct else m) by rw [if_pos hct]; exact hov)]
            clear HGo
            have hm99 : m ≤ 9999 := by have := hmle; omega
            have dov : decide ((9999 : Int) < m * c.ct) = false := decide_eq_false hov
            have dov2 : decide ((9999 : Int) < m) = false := decide_eq_false (by omega)
            rcases hz with hz | ⟨rfl, hz⟩
            · have dz : decide ((0 : Int) < n) = true := decide_eq_true hz
              clear hz hov
              go_wp2_with fail
              go_quiet (fail)
              go_wp2_with fail
              go_quiet (fail)
              go_wp2_with fail
              go_roundw
              case rel => exact ⟨i + 1, m, rfl, by omega, hm0, hm99, HGn.out, HS.out _ (HI.out.drewN _)⟩
              case measure => exact (HMe.out _).resolve_right (fun h => h (HI.out.drewN _))
            · have dz : decide ((48 : Int) < x) = true := decide_eq_true hz
              simp only [Int.zero_mul, Int.zero_add] at hs1 hs2 hs3
              clear hz hov
              go_wp2_with fail
              go_quiet (fail)
              go_wp2_with fail
              go_quiet (fail)
              go_wp2_with fail
              go_roundw
              case rel => exact ⟨i + 1, m, rfl, by omega, hm0, hm99, HGn.out, HS.out _ (HI.out.drewN _)⟩
              case measure => exact (HMe.out _).resolve_right (fun h => h (HI.out.drewN _))
        · have dct : decide (0 < c.ct) = false := decide_eq_false hct
          by_cases hov : 9999 < m
          · have HGn : Hid (cntGo c.ct 0 (l.drop at_) = (false, n, l.drop (i + 1))) := by show _ = _; rw [HGo, if_pos (show 9999 < (if 0 < c.ct then m * c.ct else m) by rw [if_neg hct]; exact hov)]
            clear HGo
            have dov : decide ((9999 : Int) < m) = true := decide_eq_true hov
            have HF : Hid (∀ j, Q (.returned (.bool false)) (((((wr.drewN j).setCell ⟨q, 1, none⟩ (.int .i64 ((i : Int) + 1))).setCell ⟨q, 7, none⟩ (.int .i64 2)).setCell ⟨q, 8, none⟩ (.int .i64 5)))) := fun j => by
              rw [HQ.out]; exact CtPost.no HGn.out hLr.out.2 ((((HS.out _ (HI.out.drewN j))).setWh 2).setEr 5)
            rcases hz with hz | ⟨rfl, hz⟩
            · have dz : decide ((0 : Int) < n) = true := decide_eq_true hz
              clear hz hov
              go_wp2_with fail
              go_quiet (fail)
              go_wp2_with fail
              go_quiet (fail)
              go_wp2_with fail
              first | exact HF.out _ | exact HF.out _ _ | (go_ret; exact HF.out _)
            · have dz : decide ((48 : Int) < x) = true := decide_eq_true hz
              simp only [Int.zero_mul, Int.zero_add] at hs1 hs2 hs3
              clear hz hov
              go_wp2_with fail
              go_quiet (fail)
              go_wp2_with fail
              go_quiet (fail)
              go_wp2_with fail
              first | exact HF.out _ | exact HF.out _ _ | (go_ret; exact HF.out _)
          · have HGn : Hid (cntGo c.ct 0 (l.drop at_) = cntGo c.ct m (l.drop (i + 1))) := by show _ = _; rw [HGo, if_neg (show ¬ 9999 < (if 0 < c.ct then m * c.ct else m) by rw [if_neg hct]; exact hov)]
            clear HGo
            have hm99 : m ≤ 9999 := by omega
            have dov : decide ((9999 : Int) < m) = false := decide_eq_false hov
            have dov2 : decide ((9999 : Int) < m) = false := decide_eq_false (by omega)
            rcases hz with hz | ⟨rfl, hz⟩
            · have dz : decide ((0 : Int) < n) = true := decide_eq_true hz
              clear hz hov
              go_wp2_with fail
              go_quiet (fail)
              go_wp2_with fail
              go_quiet (fail)
              go_wp2_with fail
              go_roundw
              case rel => exact ⟨i + 1, m, rfl, by omega, hm0, hm99, HGn.out, HS.out _ (HI.out.drewN _)⟩
              case measure => exact (HMe.out _).resolve_right (fun h => h (HI.out.drewN _))
            · have dz : decide ((48 : Int) < x) = true := decide_eq_true hz
              simp only [Int.zero_mul, Int.zero_add] at hs1 hs2 hs3
              clear hz hov
              go_wp2_with fail
              go_quiet (fail)
              go_wp2_with fail
              go_quiet (fail)
              go_wp2_with fail
              go_roundw
              case rel => exact ⟨i + 1, m, rfl, by omega, hm0, hm99, HGn.out, HS.out _ (HI.out.drewN _)⟩
              case measure => exact (HMe.out _).resolve_right (fun h => h (HI.out.drewN _))
      · have HGo := HG2.out
        rw [if_neg hdig] at HGo
        have HE : Hid (0 < n → Hid (∀ j, Q (.returned (.bool true)) ((wr.drewN j).setCell ⟨q, 4, none⟩ (.int .i64 (if 0 < c.ct then n * c.ct else n))))) := fun hn => Lib.hid fun j => by
          rw [HQ.out]; exact CtPost.go HGo hLr.out.1 (if_pos ⟨hn, by simp⟩).symm ((HI.out.drewN j).setCt _)
        have HZ : Hid (n = 0 → Hid (∀ j j2, Q (.returned (.bool true)) ((wr.drewN j).drewN j2))) := fun hn => Lib.hid fun j j2 => by
          rw [HQ.out]; exact CtPost.go HGo hLr.out.1 (ct' := c.ct) (by rw [if_neg (by omega)]) ((HI.out.drewN j).drewN j2)
        clear HGo HG HG2
        have hz : n = 0 ∨ (0 < n ∧ (x < 48 ∨ 57 < x)) := by omega
        rcases hz with rfl | ⟨hn, hxx⟩
        · have HF := Lib.hid (HZ.out rfl)
          have hxx : x < 48 ∨ 57 < x ∨ x = 48 := by omega
          clear HZ HE hdig
          rcases hxx with hxx | hxx | rfl
          · have d1 : decide ((48 : Int) ≤ x) = false := decide_eq_false (by omega)
            go_wp2_with fail
            go_quiet (fail)
            go_wp2_with fail
            go_quiet (fail)
            go_wp2_with fail
            first | exact HF.out _ | exact HF.out _ _ | (go_ret; exact HF.out _)
          · have d1 : decide ((48 : Int) ≤ x) = true := decide_eq_true (by omega)
            have d2 : decide (x ≤ (57 : Int)) = false := decide_eq_false (by omega)
            go_wp2_with fail
            go_quiet (fail)
            go_wp2_with fail
            go_quiet (fail)
            go_wp2_with fail
            first | exact HF.out _ | exact HF.out _ _ | (go_ret; exact HF.out _)
          · go_wp2_with fail
            go_quiet (fail)
            go_wp2_with fail
            go_quiet (fail)
            go_wp2_with fail
            first | exact HF.out _ | exact HF.out _ _ | (go_ret; exact HF.out _)
        · have HF := Lib.hid (HE.out hn).out
          have dz : decide ((0 : Int) < n) = true := decide_eq_true hn
          clear HZ HE hdig
          by_cases hct : 0 < c.ct
          · have dct : decide (0 < c.ct) = true := decide_eq_true hct
            have hmge : n * c.ct ≤ 9999 * 9999 := Int.mul_le_mul hn9 HC.out.2 HC.out.1 (by omega)
            have hm00 : 0 ≤ n * c.ct := Int.mul_nonneg hn0 HC.out.1
            have hs4 : IntKind.i64.wrap (n * c.ct) = n * c.ct := IntWalk.i64_in _ (by omega)
            rw [if_pos hct] at HF
            clear hmge hm00 hn0 hn9 hct hn
            rcases hxx with hxx | hxx
            · have d1 : decide ((48 : Int) ≤ x) = false := decide_eq_false (by omega)
              go_wp2_with fail
              go_quiet (fail)
              go_wp2_with fail
              go_quiet (fail)
              go_wp2_with fail
              first | exact HF.out _ | exact HF.out _ _ | (go_ret; exact HF.out _)
            · have d1 : decide ((48 : Int) ≤ x) = true := decide_eq_true (by omega)
              have d2 : decide (x ≤ (57 : Int)) = false := decide_eq_false (by omega)
              go_wp2_with fail
              go_quiet (fail)
              go_wp2_with fail
              go_quiet (fail)
              go_wp2_with fail
              first | exact HF.out _ | exact HF.out _ _ | (go_ret; exact HF.out _)
          · have dct : decide (0 < c.ct) = false := decide_eq_false hct
            rw [if_neg hct] at HF
            clear hn0 hn9 hct hn
            rcases hxx with hxx | hxx
            · have d1 : decide ((48 : Int) ≤ x) = false := decide_eq_false (by omega)
              go_wp2_with fail
              go_quiet (fail)
              go_wp2_with fail
              go_quiet (fail)
              go_wp2_with fail
              first | exact HF.out _ | exact HF.out _ _ | (go_ret; exact HF.out _)
            · have d1 : decide ((48 : Int) ≤ x) = true := decide_eq_true (by omega)
              have d2 : decide (x ≤ (57 : Int)) = false := decide_eq_false (by omega)
              go_wp2_with fail
              go_quiet (fail)
              go_wp2_with fail
              go_quiet (fail)
              go_wp2_with fail
              first | exact HF.out _ | exact HF.out _ _ | (go_ret; exact HF.out _)
    · obtain rfl : i = ln := by omega
      have HF : Hid (∀ j j2, Q (.returned (.bool true)) ((wr.drewN j).drewN j2)) := fun j j2 => by
        rw [HQ.out]
        have e0 : cntGo c.ct n [] = (true, n, []) := by rw [cntGo]
        rw [List.drop_eq_nil_of_le (show l.length ≤ i by rw [HLn.out]; exact Nat.le_refl _), e0] at hgo
        exact CtPost.go (ct' := c.ct) (r := []) (n := n) hgo (by rw [HLn.out]; simp) (by rw [if_neg (by simp)]) ((HI.out.drewN j).drewN j2)
      have dn : decide ((i : Int) < (i : Int)) = false := decide_eq_false (by omega)
      clear hr hgo HH
      have hz : n = 0 ∨ 0 < n := by omega
      rcases hz with rfl | hz
      · go_wp2_with fail
        go_quiet (fail)
        go_wp2_with fail
        go_quiet (fail)
        go_wp2_with fail
        first | exact HF.out _ | exact HF.out _ _ | (go_ret; exact HF.out _)
      · have dz : decide ((0 : Int) < n) = true := decide_eq_true hz
        clear hz
        go_wp2_with fail
        go_quiet (fail)
        go_wp2_with fail
        go_quiet (fail)
        go_wp2_with fail
        first | exact HF.out _ | exact HF.out _ _ | (go_ret; exact HF.out _)
end
end Go.Proofs.YtjmpokgdgnjojaaDoor
