/-
  What the statement ArenaStays keeps in its loop, on plain lists; rows that the call owns, beside each other; cut, at this seat's numbers.
-/
import Derived.Test.YtmdifcgnmkpecaaArE
namespace Go.Proofs.Ytmdifcgnmkpecaa
open Go Go.RowKit
set_option linter.unusedVariables false

/-- At most so many bytes of a text. -/
def cutS (s : ByteArray) (n : Nat) : ByteArray := if n < s.size then s.extract 0 n else s
theorem cutS_le (s : ByteArray) (n : Nat) : (cutS s n).size ≤ n := by
  unfold cutS
  split
  · rw [ByteArray.size_extract]; omega
  · omega
/-- A text's bytes, in a slice of new memory. -/
theorem rd_held {w : World} {b cap : Nat} {s : ByteArray} (h : Held w b cap s) : Rd w 1 (some ⟨b, 0, none⟩) s.data.toList.length (bc s.data.toList) := by
  refine ⟨by rw [bc_len]; omega, fun hn => ⟨b, 0, rfl, h.lies, fun j u hu => ?_⟩⟩
  have hj : j < s.data.toList.length := by
    rcases Nat.lt_or_ge j s.data.toList.length with h' | h'
    · exact h'
    · rw [List.getElem?_eq_none (by rw [bc_len]; exact h')] at hu; cases hu
  have := h.bytes j hj
  rw [this]
  rw [nums_at hj] at hu
  injection hu with hu
  rw [← hu]
  unfold bt nums
  rw [List.getD_eq_getElem?_getD, List.getElem?_eq_getElem hj, List.getD_eq_getElem?_getD, List.getElem?_map, List.getElem?_eq_getElem hj]
  rfl

/-- The cells of spans, and of texts. -/
def spC (l : List (Int × Int)) : List Value := l.flatMap fun s => [.int .i64 s.1, .int .i64 s.2]
def txC (l : List (List UInt8)) : List Value := l.map fun t => .string (strOf t)
theorem spC_len (l : List (Int × Int)) : (spC l).length = l.length * 2 := by
  induction l with
  | nil => rfl
  | cons s l ih => simp only [spC, List.flatMap_cons, List.length_append, List.length_cons, List.length_nil] at *; omega
theorem spC_snoc (l : List (Int × Int)) (s : Int × Int) : spC (l ++ [s]) = spC l ++ [.int .i64 s.1, .int .i64 s.2] := by simp [spC]
theorem txC_snoc (l : List (List UInt8)) (t : List UInt8) : txC (l ++ [t]) = txC l ++ [.string (strOf t)] := by simp [txC]
theorem spC_at (l : List (Int × Int)) (k : Nat) (s : Int × Int) (h : l[k]? = some s) : (spC l)[k * 2]? = some (.int .i64 s.1) ∧ (spC l)[k * 2 + 1]? = some (.int .i64 s.2) := by
  induction l generalizing k with
  | nil => simp at h
  | cons a l ih =>
    cases k with
    | zero => simp at h; subst h; simp [spC]
    | succ k =>
      have := ih k (by simpa using h)
      have e : spC (a :: l) = .int .i64 a.1 :: .int .i64 a.2 :: spC l := by simp [spC]
      rw [e, show (k + 1) * 2 = (k * 2 + 1) + 1 by omega]
      simpa using this

/-- Each span tells its text. -/
def Told (l : List UInt8) (sp : List (Int × Int)) (tx : List (List UInt8)) : Prop :=
  sp.length = tx.length ∧ ∀ (i : Nat) (s : Int × Int) (t : List UInt8), sp[i]? = some s → tx[i]? = some t → rightB l.length s.1 s.2 = true ∧ subL l s.1 s.2 = t
theorem told_nil (l : List UInt8) : Told l [] [] := ⟨rfl, fun i s t h => by simp at h⟩
theorem right_more {n k : Nat} {x y : Int} (h : rightB n x y = true) : rightB (n + k) x y = true := by
  unfold rightB at *; simp only [decide_eq_true_eq] at *; omega
theorem sub_more {l c : List UInt8} {x y : Int} (h : rightB l.length x y = true) : subL (l ++ c) x y = subL l x y := by
  unfold subL
  rw [List.length_append, if_pos (right_more h), if_pos h]
  unfold rightB at h
  simp only [decide_eq_true_eq] at h
  rw [List.drop_append_of_le_length (by omega), List.take_append_of_le_length (by simp; omega)]
theorem told_more {l : List UInt8} {sp : List (Int × Int)} {tx : List (List UInt8)} (h : Told l sp tx) (c : List UInt8) : Told (l ++ c) sp tx :=
  ⟨h.1, fun i s t hs ht => by
    obtain ⟨h1, h2⟩ := h.2 i s t hs ht
    exact ⟨by rw [List.length_append]; exact right_more h1, by rw [sub_more h1]; exact h2⟩⟩
theorem subL_le (l : List UInt8) (x y : Int) : (subL l x y).length ≤ l.length := by
  unfold subL
  split
  · simp; omega
  · simp
theorem told_full {l c : List UInt8} (h : (addR l c).2.2 ≠ 0) : addL l c = l := by
  unfold addR at h
  unfold addL
  split at h
  · rename_i h1; rw [if_pos h1]
  · split at h <;> exact absurd rfl h
theorem told_add {l c : List UInt8} {sp : List (Int × Int)} {tx : List (List UInt8)} (h : Told l sp tx) (he : (addR l c).2.2 = 0) :
    Told (addL l c) (sp ++ [((addR l c).1, (addR l c).2.1)]) (tx ++ [c]) := by
  unfold addR at he ⊢
  unfold addL
  split at he
  · cases he
  · rename_i h1
    rw [if_neg h1, if_neg h1]
    have hm := told_more h c
    refine ⟨by simp [h.1], fun i s t hs ht => ?_⟩
    rcases Nat.lt_or_ge i sp.length with hi | hi
    · rw [List.getElem?_append_left hi] at hs
      rw [List.getElem?_append_left (by rw [← h.1]; exact hi)] at ht
      exact hm.2 i s t hs ht
    · rw [List.getElem?_append_right hi] at hs
      rw [List.getElem?_append_right (by rw [← h.1]; exact hi), ← h.1] at ht
      have hi0 : i - sp.length = 0 := by
        rcases Nat.eq_zero_or_pos (i - sp.length) with h0 | h0
        · exact h0
        · rw [List.getElem?_eq_none (by simp; omega)] at hs; cases hs
      rw [hi0] at hs ht
      simp only [List.getElem?_cons_zero, Option.some.injEq] at hs ht
      subst hs ht
      by_cases h2 : c.length = 0
      · rw [if_pos h2]
        obtain rfl := List.eq_nil_of_length_eq_zero h2
        refine ⟨by unfold rightB; simp, ?_⟩
        unfold subL rightB; simp
      · rw [if_neg h2]
        have hr : rightB (l ++ c).length (l.length : Int) (c.length : Int) = true := by unfold rightB; simp; omega
        refine ⟨hr, ?_⟩
        unfold subL
        rw [if_pos hr]
        simp

/-- Rows of unlike elements never share a block. -/
theorem own_own_ne {w : World} {B B' : Nat} {e e' : TypeId} {sz sz' n n' : Nat} {v v' : Value} {xs xs' : List Value} (h : w.ownsRow B e sz v n xs) (h' : w.ownsRow B' e' sz' v' n' xs') (hne : e ≠ e') : v.ownBlock = none ∨ v.ownBlock ≠ v'.ownBlock := by
  rcases h.2 with ⟨rfl, _⟩ | ⟨g, cap, cur, rfl, _, hh, _⟩
  · exact .inl rfl
  · right
    intro he
    exact own_ne h' hh (fun e => hne e.symm) he.symm
theorem own_grown {w w' : World} {B B' : Nat} {e e' : TypeId} {sz sz' n n' : Nat} {v v' : Value} {xs xs' : List Value} (h : w.ownsRow B e sz v n xs) (h' : w.ownsRow B' e' sz' v' n' xs') (hne : e ≠ e') (hg : w.grownBy w' v'.ownBlock) : w'.ownsRow B e sz v n xs :=
  h.kept hg (own_own_ne h h' hne)
theorem Ar.grown {w w' : World} {B B' p : Nat} {l : List UInt8} {e' : TypeId} {sz' n' : Nat} {v' : Value} {xs' : List Value} (h : Ar w B p l) (h' : w.ownsRow B' e' sz' v' n' xs') (h1 : e' ≠ 121) (h2 : e' ≠ 5) (hg : w.grownBy w' v'.ownBlock) : Ar w' B p l := by
  obtain ⟨a, c, e1, e2, e3, e4⟩ := h
  exact ⟨a, c, e1, (hg.block p (lt_of_heap e2) (fun e => own_ne h' e2 h1 e.symm)).trans e2, own_grown e3 h' (fun e => h2 e.symm) hg, e4⟩
theorem SpB.grown {w w' : World} {b B' : Nat} {x y : Int} {e' : TypeId} {sz' n' : Nat} {v' : Value} {xs' : List Value} (h : SpB w b x y) (hlt : b < B') (h' : w.ownsRow B' e' sz' v' n' xs') (hg : w.grownBy w' v'.ownBlock) : SpB w' b x y :=
  ⟨(hg.block b h.lt (fun e => by have := (h'.lt b e.symm).1; omega)).trans h.blk⟩
theorem own_nil (w : World) (B : Nat) (e : TypeId) (sz : Nat) : w.ownsRow B e sz (.slice none 0 0) 0 [] := ⟨by simp, .inl ⟨rfl, rfl⟩⟩

theorem info_span : (Try.prog.info? 39).map (fun i => (i.zero, i.size, i.bytes)) = some (some (.agg #[.int .i64 0, .int .i64 0]), 2, 16) := by kernel_rfl
theorem info_string : (Try.prog.info? 9).map (fun i => (i.zero, i.size, i.bytes)) = some (some (.string ⟨#[]⟩), 1, 16) := by kernel_rfl

end Go.Proofs.Ytmdifcgnmkpecaa
