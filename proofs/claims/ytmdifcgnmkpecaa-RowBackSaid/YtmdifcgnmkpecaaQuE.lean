/-
  Plain facts: what is put is read as it was, at this seat's numbers.
-/
import Derived.Test.YtmdifcgnmkpecaaQuC
namespace Go.Proofs.Ytmdifcgnmkpecaa
open Go Go.RowKit
set_option linter.unusedVariables false

theorem drop_cons {L : List UInt8} {p : Nat} {x : UInt8} {t : List UInt8} (h : L.drop p = x :: t) : p < L.length ∧ lb L p = x.toNat ∧ L.getD p 0 = x ∧ L.drop (p + 1) = t := by
  have hp : p < L.length := by
    rcases Nat.lt_or_ge p L.length with h1 | h1
    · exact h1
    · rw [List.drop_eq_nil_of_le h1] at h; cases h
  rw [List.drop_eq_getElem_cons hp] at h
  injection h with h1 h2
  have hg : L.getD p 0 = x := by rw [List.getD_eq_getElem?_getD, List.getElem?_eq_getElem hp]; simpa using h1
  exact ⟨hp, by unfold lb; rw [hg], hg, h2⟩
theorem qu_drop {L : List UInt8} {p : Nat} {x : UInt8} {t : List UInt8} (h : L.drop p = x :: t) : quAt L p = decide ((x.toNat : Int) = 34) := by
  obtain ⟨h1, h2, _⟩ := drop_cons h
  rw [quAt_in h1, h2]

/-- Within quotes: doubled quotes, to a lone one. -/
theorem inQ_dup (L r : List UInt8) (hr : ∀ t, r ≠ 34 :: t) : ∀ (l : List UInt8) (p : Nat), L.drop p = l.flatMap dupB ++ 34 :: r → ∃ ps, inQ L p = (ps, p + (l.flatMap dupB).length, true) ∧ atL L ps = l
  | [], p, h => by
    have h' : L.drop p = 34 :: r := h
    have hq : quAt L p = true := by rw [qu_drop h']; rfl
    have hq2 : quAt L (p + 1) = false := by
      have hd := (drop_cons h').2.2.2
      cases r with
      | nil =>
        refine quAt_out ?_
        have := congrArg List.length hd
        rw [List.length_drop, List.length_nil] at this
        omega
      | cons x t =>
        rw [qu_drop hd]
        simp only [decide_eq_false_iff_not]
        intro hx
        apply hr t
        have : x = 34 := by apply UInt8.toNat_inj.1; have h34 : (34 : UInt8).toNat = 34 := rfl; omega
        rw [this]
    exact ⟨[], by rw [inQ_stop hq hq2]; rfl, rfl⟩
  | c :: l, p, h => by
    by_cases hc : (c.toNat : Int) = 34
    · have hdup : dupB c = [c, c] := by unfold dupB; rw [if_pos hc]
      rw [List.flatMap_cons, hdup] at h
      have h1 : L.drop p = c :: c :: (l.flatMap dupB ++ 34 :: r) := by rw [h]; simp
      obtain ⟨_, _, hg, hd⟩ := drop_cons h1
      obtain ⟨_, _, _, hd2⟩ := drop_cons hd
      have hq : quAt L p = true := by rw [qu_drop h1]; simpa using hc
      have hq2 : quAt L (p + 1) = true := by rw [qu_drop hd]; simpa using hc
      obtain ⟨ps, e1, e2⟩ := inQ_dup L r hr l (p + 2) hd2
      refine ⟨(p : Int) :: ps, ?_, ?_⟩
      · rw [inQ_two hq hq2, e1, List.flatMap_cons, hdup]
        simp only [List.length_append, List.length_cons, List.length_nil]
        congr 2; omega
      · show L.getD ((p : Int)).toNat 0 :: atL L ps = _
        rw [Int.toNat_natCast, hg, e2]
    · have hdup : dupB c = [c] := by unfold dupB; rw [if_neg hc]
      rw [List.flatMap_cons, hdup] at h
      have h1 : L.drop p = c :: (l.flatMap dupB ++ 34 :: r) := by rw [h]; simp
      obtain ⟨hp, _, hg, hd⟩ := drop_cons h1
      have hq : quAt L p = false := by rw [qu_drop h1]; simpa using hc
      obtain ⟨ps, e1, e2⟩ := inQ_dup L r hr l (p + 1) hd
      refine ⟨(p : Int) :: ps, ?_, ?_⟩
      · rw [inQ_byte hp hq, e1, List.flatMap_cons, hdup]
        simp only [List.length_append, List.length_cons, List.length_nil]
        congr 2; omega
      · show L.getD ((p : Int)).toNat 0 :: atL L ps = _
        rw [Int.toNat_natCast, hg, e2]

theorem till_at (L : List UInt8) (n : Nat) (h : ∀ j, j < n → mkAt L j = false) (hn : mkAt L n = true) : ∀ m i, n - i = m → i ≤ n → till L i = n
  | 0, i, hm, hi => by obtain rfl : i = n := by omega
                       exact till_stop hn
  | m + 1, i, hm, hi => by rw [till_step (h i (by omega)), till_at L n h hn m (i + 1) (by omega) (by omega)]
theorem atL_front (l r : List UInt8) : atL (l ++ r) (pls 0 l.length) = l := by
  rw [pls_eq 0 l.length (by omega)]
  have h := subL_ex1 (l := l ++ r) (a := 0) (n := l.length) (by simp)
  rw [Nat.sub_zero]
  rw [← h]
  unfold subL
  rw [if_pos (by unfold rightB; simp; omega)]
  simp
theorem lb_front {l r : List UInt8} {k : Nat} (h : k < l.length) : lb (l ++ r) k = lb l k := by
  unfold lb
  rw [List.getD_eq_getElem?_getD, List.getElem?_append_left h, ← List.getD_eq_getElem?_getD]

/-- What is put, with nothing or a mark behind, is read as it was. -/
theorem put_field (l r : List UInt8) (hr : mkAt r 0 = true) : (fieldP (putP l ++ r) 0).kind = (if needsP l = true then 1 else 0) ∧ atL (putP l ++ r) (fieldP (putP l ++ r) 0).pl = l ∧ (fieldP (putP l ++ r) 0).to_ = (putP l).length := by
  have hr34 : ∀ t, r ≠ 34 :: t := by
    rintro t rfl
    exact absurd hr (by show ¬ mkAt (34 :: t) 0 = true; rw [mkAt_in (by simp), show lb (34 :: t) 0 = 34 from rfl]; decide)
  unfold putP
  by_cases hn : needsP l = true
  · rw [if_pos hn, if_pos hn]
    have hL : (34 :: (l.flatMap dupB ++ [34])) ++ r = 34 :: (l.flatMap dupB ++ 34 :: r) := by simp
    rw [hL]
    have hq : quAt (34 :: (l.flatMap dupB ++ 34 :: r)) 0 = true := by rw [quAt_in (by simp)]; rfl
    obtain ⟨ps, e1, e2⟩ := inQ_dup (34 :: (l.flatMap dupB ++ 34 :: r)) r hr34 l 1 rfl
    have ht : till (34 :: (l.flatMap dupB ++ 34 :: r)) (1 + (l.flatMap dupB).length + 1) = 1 + (l.flatMap dupB).length + 1 := by
      refine till_stop ?_
      have hd : (34 :: (l.flatMap dupB ++ 34 :: r)) = (34 :: (l.flatMap dupB ++ [34])) ++ r := hL.symm
      have hl : (34 :: (l.flatMap dupB ++ [34]) : List UInt8).length = 1 + (l.flatMap dupB).length + 1 := by simp; omega
      rw [hd]
      unfold mkAt at hr ⊢
      rw [← hl]
      have hlb : lb ((34 :: (l.flatMap dupB ++ [34])) ++ r) (34 :: (l.flatMap dupB ++ [34]) : List UInt8).length = lb r 0 := by
        unfold lb
        rw [List.getD_eq_getElem?_getD, List.getElem?_append_right (Nat.le_refl _), Nat.sub_self, ← List.getD_eq_getElem?_getD]
      rw [hlb, List.length_append]
      simp only [Bool.or_eq_true, decide_eq_true_eq] at hr ⊢
      rcases hr with h | h
      · left; omega
      · right; exact h
    have hf : fieldP (34 :: (l.flatMap dupB ++ 34 :: r)) 0 = ⟨0, 1 + (l.flatMap dupB).length + 1, 1, ps⟩ := by
      unfold fieldP
      rw [if_pos hq, e1]
      simp only [ht]
      rw [if_pos trivial, if_neg (by omega), pls_nil, List.append_nil]
    rw [hf]
    exact ⟨rfl, e2, by simp; omega⟩
  · rw [if_neg hn, if_neg hn]
    have hsp : ∀ k, k < l.length → spB (lb l k) = false := fun k hk => Bool.eq_false_iff.2 (fun h => hn (decide_eq_true ⟨k, hk, h⟩))
    have hm : ∀ j, j < l.length → mkAt (l ++ r) j = false := by
      intro j hj
      have h1 := hsp j hj
      unfold spB at h1
      simp only [decide_eq_false_iff_not, not_or] at h1
      rw [mkAt_in (by simp; omega), lb_front hj]
      unfold mkB
      simp only [decide_eq_false_iff_not, not_or]
      exact ⟨h1.1, h1.2.2.1, h1.2.2.2⟩
    have hq0 : ∀ j, j < l.length → quAt (l ++ r) j = false := by
      intro j hj
      have h1 := hsp j hj
      unfold spB at h1
      simp only [decide_eq_false_iff_not, not_or] at h1
      rw [quAt_in (by simp; omega), lb_front hj]
      simpa using h1.2.1
    have hlb : lb (l ++ r) l.length = lb r 0 := by
      unfold lb
      rw [List.getD_eq_getElem?_getD, List.getElem?_append_right (Nat.le_refl _), Nat.sub_self, ← List.getD_eq_getElem?_getD]
    have hmn : mkAt (l ++ r) l.length = true := by
      unfold mkAt at hr ⊢
      rw [hlb, List.length_append]
      simp only [Bool.or_eq_true, decide_eq_true_eq] at hr ⊢
      rcases hr with h | h
      · left; omega
      · right; exact h
    have hq : quAt (l ++ r) 0 = false := by
      rcases Nat.eq_zero_or_pos l.length with h0 | h0
      · obtain rfl := List.eq_nil_of_length_eq_zero h0
        rw [List.nil_append]
        cases r with
        | nil => rfl
        | cons x t =>
          rw [quAt_in (by simp)]
          simp only [decide_eq_false_iff_not]
          intro h
          apply hr34 t
          have : x = 34 := by
            apply UInt8.toNat_inj.1
            have h34 : (34 : UInt8).toNat = 34 := rfl
            have hx : lb (x :: t) 0 = (x.toNat : Int) := rfl
            omega
          rw [this]
      · exact hq0 0 h0
    have ht := till_at (l ++ r) l.length hm hmn l.length 0 (by omega) (by omega)
    obtain ⟨k2, k3, k4⟩ := plain_kind hq
    rw [ht] at k2 k3 k4
    have hh : hasQ (l ++ r) 0 l.length = false := by
      unfold hasQ
      simp only [decide_eq_false_iff_not]
      rintro ⟨k, a, _, b⟩
      rw [hq0 k a] at b; cases b
    rw [hh] at k3
    exact ⟨by rw [k3]; rfl, by rw [k4]; exact atL_front l r, k2⟩

theorem own_caps {w : World} {B n c s : Nat} {e : TypeId} {a : Option Addr} {xs : List Value} (h : w.ownsRow B e s (.slice a n c) n xs) : n ≤ c ∧ c ≤ maxLen := by
  rcases h.2 with ⟨h', h0⟩ | ⟨g, cap, cur, h', _, _, h1, h2, _⟩
  · injection h' with _ _ h3
    subst h3; unfold maxLen; omega
  · injection h' with _ _ h3
    subst h3; exact ⟨h1, h2⟩
theorem putP_len (l : List UInt8) : (putP l).length ≤ 2 * l.length + 2 := by
  unfold putP
  split
  · have := dup_len l
    rw [List.length_cons, List.length_append]; simp only [List.length_cons, List.length_nil]; omega
  · omega
theorem put_field0 (l : List UInt8) : (fieldP (putP l) 0).kind = (if needsP l = true then 1 else 0) ∧ atL (putP l) (fieldP (putP l) 0).pl = l := by
  have h := put_field l [] (mkAt_out (Nat.le_refl _))
  rw [List.append_nil] at h
  exact ⟨h.1, h.2.1⟩
/-- A value that Read told, as a text, from here on; its kind. -/
def RdTold (t : ByteArray) (K : Int) (w : World) (e : Ending) (w' : World) : Prop := ∃ a n c, e = .returned (.tuple #[.slice a n c, .int .i64 K]) ∧ (∀ w3, Below w'.heap.size w' w3 → (convert 27 9 (.slice a n c)).run Try.prog w3 = .ok (.string t) w3) ∧ Below w.heap.size w w'
end Go.Proofs.Ytmdifcgnmkpecaa
