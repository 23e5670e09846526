/-
  The walk of ScanWhole, at this seat's numbers.
-/
import Derived.Test.YtelnehjmkjpjhaaDoorScJ
namespace Go.Proofs.YtelnehjmkjpjhaaDoor
open Go Go.RowKit
set_option linter.unusedVariables false

theorem allP_len (l : List UInt8) : ∀ n k, l.length - k = n → (allP l k).length ≤ l.length - k
  | n, k, hn => by
    rcases Nat.lt_or_ge k l.length with h | h
    · have h2 := rowP_next h
      have := allP_len l (l.length - (rowP l k).next) (rowP l k).next rfl
      rw [allP_more h, List.length_cons]; omega
    · rw [allP_end h]; simp
termination_by n => n
decreasing_by omega
theorem mk_not {l : List UInt8} {q : Nat} (h : q ≤ l.length) : (l.take q).length = q := by simp; omega
theorem take_ext (l : List UInt8) (q n : Nat) : l.take q ++ (l.drop q).take n = l.take (q + n) := by rw [List.take_add]
theorem take_one (l : List UInt8) (q : Nat) (h : q < l.length) (x : UInt8) (hx : lb l q = x.toNat) : l.take q ++ [x] = l.take (q + 1) := by
  rw [List.take_succ_eq_append_getElem h]
  have : l[q] = x := by
    unfold lb at hx
    rw [List.getD_eq_getElem?_getD, List.getElem?_eq_getElem h] at hx
    have hx' : ((l[q].toNat : Nat) : Int) = x.toNat := by simpa using hx
    apply UInt8.toNat_inj.1
    omega
  rw [this]

/-- What the inner loop knows of how far it is. -/
def InAt (l : List UInt8) (k : Nat) (fs : List Fd) (j q : Nat) : Prop := (j = 0 ∧ q = k) ∨ (0 < j ∧ k ≤ q ∧ restP l q = (fs.drop j, (fieldsP l k).2))
theorem inAt_zero {l : List UInt8} {k q : Nat} {fs : List Fd} (hk : k ≤ l.length) (hfs : fs = (fieldsP l k).1) (h : InAt l k fs 0 q) : q = k ∧ fs[0]? = some (fieldP l k) ∧ InAt l k fs 1 (fieldP l k).to_ := by
  rcases h with ⟨_, rfl⟩ | ⟨h0, _⟩
  · have hr := fieldsP_rest hk
    refine ⟨rfl, by rw [hfs, hr]; rfl, .inr ⟨by omega, (fieldP_spec hk).1, ?_⟩⟩
    rw [hfs, hr]; rfl
  · omega
theorem inAt_more {l : List UInt8} {k q j : Nat} {fs : List Fd} (hj : 0 < j) (hjl : j < fs.length) (h : InAt l k fs j q) : q < l.length ∧ lb l q = 44 ∧ k ≤ q ∧ fs[j]? = some (fieldP l (q + 1)) ∧ InAt l k fs (j + 1) (fieldP l (q + 1)).to_ := by
  rcases h with ⟨h0, _⟩ | ⟨_, hkq, h⟩
  · omega
  · unfold restP at h
    by_cases hc : q < l.length ∧ lb l q = 44
    · rw [if_pos hc] at h
      have hr := fieldsP_rest (l := l) (i := q + 1) (by omega)
      rw [hr] at h
      have h1 := congrArg Prod.fst h
      have h2 := congrArg Prod.snd h
      simp only at h1 h2
      have hd : fs.drop j = fs[j] :: fs.drop (j + 1) := by rw [List.drop_eq_getElem_cons hjl]
      rw [hd] at h1
      injection h1 with h3 h4
      have hs := (fieldP_spec (l := l) (i := q + 1) (by omega)).1
      refine ⟨hc.1, hc.2, hkq, by rw [List.getElem?_eq_getElem hjl, h3], .inr ⟨by omega, by omega, ?_⟩⟩
      rw [← h4, ← h2]
    · rw [if_neg hc] at h
      have h1 := congrArg Prod.fst h
      simp only at h1
      have := congrArg List.length h1
      rw [List.length_drop, List.length_nil] at this
      omega
theorem inAt_end {l : List UInt8} {k q j : Nat} {fs : List Fd} (hk : k ≤ l.length) (hfs : fs = (fieldsP l k).1) (hjl : fs.length ≤ j) (h : InAt l k fs j q) : q = (fieldsP l k).2 ∧ k ≤ q := by
  have hne : 0 < fs.length := by rw [hfs, fieldsP_rest hk]; simp
  rcases h with ⟨h0, _⟩ | ⟨_, hkq, h⟩
  · omega
  · rw [List.drop_eq_nil_of_le hjl] at h
    unfold restP at h
    by_cases hc : q < l.length ∧ lb l q = 44
    · rw [if_pos hc, fieldsP_rest (l := l) (i := q + 1) (by omega)] at h
      have h1 := congrArg Prod.fst h
      simp at h1
    · rw [if_neg hc] at h
      have h2 := congrArg Prod.snd h
      exact ⟨h2, hkq⟩
/-- A line's end, in the bytes. -/
theorem mark_ext {l : List UInt8} {k : Nat} (hk : k < l.length) : strOf (l.take (fieldsP l k).2) ++ markS (rowP l k).fin = strOf (l.take (rowP l k).next) ∧ ((rowP l k).fin = 0 → (rowP l k).next = l.length ∧ (fieldsP l k).2 = l.length) := by
  obtain ⟨a, b, c, d, _⟩ := fieldsP_spec l _ k rfl (by omega)
  unfold rowP
  simp only
  generalize (fieldsP l k).2 = q at *
  rcases endP_spec c d b with ⟨e, f⟩ | ⟨e, f, g⟩ | ⟨e, f, g, h⟩ | ⟨e, f, g, h⟩ <;> rw [e]
  · refine ⟨?_, fun _ => ⟨?_, f.symm⟩⟩
    · show strOf (l.take q) ++ strOf [] = strOf (l.take (q + 0)); rw [strOf_app]; simp
    · show q + 0 = _; omega
  · refine ⟨?_, fun h => by cases h⟩
    show strOf (l.take q) ++ strOf [10] = strOf (l.take (q + 1)); rw [strOf_app, take_one l q f 10 g]
  · refine ⟨?_, fun h => by cases h⟩
    show strOf (l.take q) ++ strOf [13, 10] = strOf (l.take (q + 2))
    rw [strOf_app, show ([13, 10] : List UInt8) = [13] ++ [10] from rfl, ← List.append_assoc, take_one l q (by omega) 13 g, take_one l (q + 1) f 10 h]
  · refine ⟨?_, fun h => by cases h⟩
    show strOf (l.take q) ++ strOf [13] = strOf (l.take (q + 1)); rw [strOf_app, take_one l q f 13 g]

end Go.Proofs.YtelnehjmkjpjhaaDoor
