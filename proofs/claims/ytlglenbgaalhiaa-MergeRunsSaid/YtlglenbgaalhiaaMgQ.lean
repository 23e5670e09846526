/-
  Plain lists for layer 15: the rows that wait, by what is left of each row; one step of merging.
-/
import Derived.Test.YtlglenbgaalhiaaMgA
namespace Go.Proofs.Ytlglenbgaalhiaa
open Go Go.RowKit
set_option linter.unusedVariables false

/-- A row of numbers in memory: where, its room, its numbers. -/
abbrev RowM := Option Addr × Nat × List Int
def rowV (p : RowM) : Value := .slice p.1 p.2.2.length p.2.1
def flatR (T : List RowM) : List Int := T.flatMap fun p => p.2.2
def ent1 (k : Nat) (p : RowM) : List Ent := if p.2.2 = [] then [] else [⟨p.1, p.2.1, p.2.2, k⟩]
def ents (k : Nat) : List RowM → List Ent
  | [] => []
  | p :: T => ent1 k p ++ ents (k + 1) T
theorem ents_app (k : Nat) (A B : List RowM) : ents k (A ++ B) = ents k A ++ ents (k + A.length) B := by
  induction A generalizing k with
  | nil => simp [ents]
  | cons p A ih => simp only [List.cons_append, ents, ih, List.append_assoc, List.length_cons, show k + 1 + A.length = k + (A.length + 1) by omega]
theorem ents_mem {k : Nat} {T : List RowM} {e : Ent} (h : e ∈ ents k T) : ∃ A p B, T = A ++ p :: B ∧ p.2.2 ≠ [] ∧ e = ⟨p.1, p.2.1, p.2.2, k + A.length⟩ := by
  induction T generalizing k with
  | nil => simp [ents] at h
  | cons q T ih =>
    unfold ents at h
    rcases List.mem_append.1 h with h | h
    · unfold ent1 at h
      split at h
      · simp at h
      · rename_i hq
        exact ⟨[], q, T, rfl, hq, by simpa using h⟩
    · obtain ⟨A, p, B, rfl, hp, he⟩ := ih h
      exact ⟨q :: A, p, B, rfl, hp, by rw [he, List.length_cons, show k + 1 + A.length = k + (A.length + 1) by omega]⟩
theorem ents_has {k : Nat} {T : List RowM} {q : RowM} (h : q ∈ T) (hq : q.2.2 ≠ []) : ∃ e ∈ ents k T, e.l = q.2.2 ∧ k ≤ e.num ∧ e.num < k + T.length := by
  obtain ⟨A, B, rfl⟩ := List.append_of_mem h
  refine ⟨⟨q.1, q.2.1, q.2.2, k + A.length⟩, ?_, rfl, by simp, by simp⟩
  rw [ents_app]
  refine List.mem_append_right _ ?_
  unfold ents ent1
  rw [if_neg hq]; simp
theorem ents_len (k : Nat) (T : List RowM) : (ents k T).length ≤ T.length := by
  induction T generalizing k with
  | nil => simp [ents]
  | cons q T ih =>
    have h := ih (k + 1)
    have h1 : (ent1 k q).length ≤ 1 := by unfold ent1; split <;> simp
    rw [ents, List.length_append, List.length_cons]; omega
theorem ents_nil {k : Nat} {T : List RowM} (h : ents k T = []) : T.flatMap (fun p => p.2.2) = [] := by
  induction T generalizing k with
  | nil => rfl
  | cons q T ih =>
    rw [ents] at h
    obtain ⟨h1, h2⟩ := List.append_eq_nil_iff.1 h
    rw [List.flatMap_cons, ih h2]
    unfold ent1 at h1
    split at h1
    · rename_i hq; rw [hq]; rfl
    · cases h1
theorem ents_ok {W : World} {D : Int → Prop} {k : Nat} {T : List RowM} (h1 : ∀ p ∈ T, Sl W p.1 p.2.1 (nums p.2.2)) (h2 : ∀ p ∈ T, ∀ x ∈ p.2.2, D x) : ∀ e ∈ ents k T, EntOk W D e := by
  intro e he
  obtain ⟨A, p, B, rfl, hp, rfl⟩ := ents_mem he
  exact ⟨h1 p (by simp), hp, h2 p (by simp)⟩
theorem ents_take {T : List RowM} {k : Nat} {p : RowM} (h : T[k]? = some p) : ents 0 (T.take (k + 1)) = ents 0 (T.take k) ++ ent1 k p := by
  have hl := (List.getElem?_eq_some_iff.1 h).1
  rw [List.take_add_one, h, ents_app, List.length_take, Nat.min_eq_left (by omega), Nat.zero_add]
  show _ ++ (ent1 k p ++ []) = _
  rw [List.append_nil]
theorem mem_flatR {T : List RowM} {x : Int} (h : x ∈ flatR T) : ∃ p ∈ T, x ∈ p.2.2 := List.mem_flatMap.1 h
theorem flatR_app (A B : List RowM) : flatR (A ++ B) = flatR A ++ flatR B := by unfold flatR; rw [List.flatMap_append]
theorem flatR_cons (p : RowM) (B : List RowM) : flatR (p :: B) = p.2.2 ++ flatR B := by unfold flatR; rw [List.flatMap_cons]
theorem srt_head {c : Int → Int → Int} (H : Cm c) {h y : Int} {l : List Int} (hs : Srt c l) (hh : l.headD 0 = h) (hy : y ∈ l) : c h y ≤ 0 := by
  cases l with
  | nil => simp at hy
  | cons z l =>
    simp only [List.headD_cons] at hh
    subst hh
    rcases List.mem_cons.1 hy with rfl | hy
    · exact H.refl _
    · exact (List.pairwise_cons.1 hs).1 y hy

theorem merge_step {c : Int → Int → Int} (H : Cm c) {A B : List RowM} {p p' : RowM} {x : Int} (hp : p.2.2 = x :: p'.2.2) (hs : ∀ q ∈ A ++ p :: B, Srt c q.2.2) (hm : ∀ f ∈ ents 0 (A ++ p :: B), Nl c f ⟨p.1, p.2.1, p.2.2, A.length⟩) :
    sortL c (flatR (A ++ p :: B)) = x :: sortL c (flatR (A ++ p' :: B)) := by
  rw [flatR_app, flatR_cons, hp, flatR_app, flatR_cons]
  refine sort_head (a := flatR A) (b := p'.2.2 ++ flatR B) (fun y hy => ?_) (fun y hy => ?_)
  · obtain ⟨q, hq, hyq⟩ := mem_flatR hy
    obtain ⟨f, hf, hfl, _, hfn⟩ := ents_has (k := 0) hq (List.ne_nil_of_mem hyq)
    have h1 := hm f (by rw [ents_app]; exact List.mem_append_left _ hf)
    rw [nl_iff] at h1
    have hh : (⟨p.1, p.2.1, p.2.2, A.length⟩ : Ent).hd = x := by show p.2.2.headD 0 = x; rw [hp]; rfl
    rw [hh] at h1
    have h2 : c f.hd y ≤ 0 := srt_head H (hs q (List.mem_append_left _ hq)) (by rw [← hfl]; rfl) hyq
    have h3 : c x f.hd < 0 := by
      have := H.anti x f.hd
      simp only [Nat.zero_add] at hfn
      have h4 : ¬ c f.hd x = 0 := fun h => h1.2 ⟨h, hfn⟩
      omega
    exact H.lt_le h3 h2
  · rcases List.mem_append.1 hy with hy | hy
    · have h1 := hs p (by simp)
      rw [hp] at h1
      exact H.ge ((List.pairwise_cons.1 h1).1 y hy)
    · obtain ⟨q, hq, hyq⟩ := mem_flatR hy
      obtain ⟨f, hf, hfl, _, _⟩ := ents_has (k := A.length + 1) hq (List.ne_nil_of_mem hyq)
      have h1 := hm f (by
        rw [ents_app]
        refine List.mem_append_right _ ?_
        rw [Nat.zero_add]
        exact List.mem_append_right _ hf)
      rw [nl_iff] at h1
      have hh : (⟨p.1, p.2.1, p.2.2, A.length⟩ : Ent).hd = x := by show p.2.2.headD 0 = x; rw [hp]; rfl
      rw [hh] at h1
      have h2 : c f.hd y ≤ 0 := srt_head H (hs q (by simp [hq])) (by rw [← hfl]; rfl) hyq
      exact H.ge (H.trans _ _ _ (H.le h1.1) h2)

/-- What waits behind a step. -/
theorem ents_step {A B : List RowM} {p p' : RowM} {R0 : List Ent} (hne : p.2.2 ≠ []) (h : ((⟨p.1, p.2.1, p.2.2, A.length⟩ : Ent) :: R0).Perm (ents 0 (A ++ p :: B))) : (ent1 A.length p' ++ R0).Perm (ents 0 (A ++ p' :: B)) := by
  rw [ents_app] at *
  simp only [ents, Nat.zero_add] at *
  have h1 : (ent1 A.length p) = [⟨p.1, p.2.1, p.2.2, A.length⟩] := by unfold ent1; rw [if_neg hne]
  rw [h1] at h
  have h2 : R0.Perm (ents 0 A ++ ents (A.length + 1) B) := List.Perm.cons_inv (h.trans List.perm_middle)
  have h3 : (ent1 A.length p' ++ (ents 0 A ++ ents (A.length + 1) B)).Perm (ents 0 A ++ (ent1 A.length p' ++ ents (A.length + 1) B)) := by
    rw [← List.append_assoc, ← List.append_assoc]
    exact List.Perm.append_right _ List.perm_append_comm
  exact (List.Perm.append_left _ h2).trans h3

theorem heap_top {c : Int → Int → Int} (H : Cm c) {e : Ent} {R0 : List Ent} (h : Heap c (e :: R0) (R0.length + 1)) : ∀ f ∈ e :: R0, Nl c f e := by
  intro f hf
  obtain ⟨k, hk, rfl⟩ := List.mem_iff_getElem.1 hf
  have h1 := heap_min H h k (by simpa using hk)
  have e1 : gE (e :: R0) k = (e :: R0)[k] := by unfold gE; rw [List.getD_eq_getElem?_getD, List.getElem?_eq_getElem hk]; rfl
  rw [e1] at h1
  exact h1
theorem dn_top {c : Int → Int → Int} {e e' : Ent} {R0 : List Ent} {n : Nat} (h : Heap c (e :: R0) n) : DnOk c (e' :: R0) n 0 := by
  refine ⟨fun k k0 kn kp => ?_, fun k _ _ _ h => absurd h (by omega)⟩
  have h1 := h k k0 kn
  obtain ⟨k', rfl⟩ : ∃ k', k = k' + 1 := ⟨k - 1, by omega⟩
  obtain ⟨q, hq⟩ : ∃ q, par (k' + 1) = q + 1 := ⟨par (k' + 1) - 1, by omega⟩
  rw [hq] at h1 ⊢
  exact h1

end Go.Proofs.Ytlglenbgaalhiaa
