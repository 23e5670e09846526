/-
  The contracts of layer 5's statements' own cut, Mark and example, at this seat's numbers.
-/
import Derived.Test.YtmdifcgnmkpecaaScH
import Derived.Test.YtmdifcgnmkpecaaArE
namespace Go.Proofs.Ytmdifcgnmkpecaa
open Go Go.RowKit
set_option linter.unusedVariables false

theorem rmark_of (x : Int) (w : World) : Calls Try.prog 37 #[.int .i64 x] w fun e w' => e = .returned (.string (markS x)) ∧ w = w' := by
  unfold markS
  by_cases h1 : x = 1
  · subst h1
    go_enter Try.func37, Try.ntmps37
    go_wp2_with fail
    go_ret
    exact ⟨rfl, rfl⟩
  · rw [if_neg h1]
    have d1 : (x == 1) = false := by simpa using h1
    by_cases h2 : x = 2
    · subst h2
      go_enter Try.func37, Try.ntmps37
      go_wp2_with fail
      go_ret
      exact ⟨rfl, rfl⟩
    · rw [if_neg h2]
      have d2 : (x == 2) = false := by simpa using h2
      by_cases h3 : x = 3
      · subst h3
        go_enter Try.func37, Try.ntmps37
        go_wp2_with fail
        go_ret
        exact ⟨rfl, rfl⟩
      · rw [if_neg h3]
        have d3 : (x == 3) = false := by simpa using h3
        clear h1 h2 h3
        go_enter Try.func37, Try.ntmps37
        go_wp2_with fail
        go_ret
        exact ⟨rfl, rfl⟩

/-- The example's bytes. -/
def exL : List UInt8 := [97, 44, 34, 98, 34, 34, 99, 34, 100]
def exF0 : Fd := ⟨0, 1, 0, [0]⟩
def exF1 : Fd := ⟨2, 9, 3, [3, 4, 6, 8]⟩
theorem exF0_eq : fieldP exL 0 = exF0 := by
  have t : till exL 0 = 1 := by rw [till_step (by decide), till_stop (by decide)]
  unfold fieldP
  rw [if_neg (by decide), t, if_neg (by decide)]
  rfl
theorem exF1_eq : fieldP exL 2 = exF1 := by
  have q : inQ exL 3 = ([3, 4, 6], 7, true) := by
    rw [inQ_byte (by decide) (by decide), inQ_two (by decide) (by decide), inQ_byte (by decide) (by decide), inQ_stop (by decide) (by decide)]; rfl
  have t : till exL 8 = 9 := by rw [till_step (by decide), till_stop (by decide)]
  unfold fieldP
  rw [if_pos (by decide), q]
  simp only [t]
  rfl
theorem exAll : allP exL 0 = [⟨[exF0, exF1], 0, 9⟩] := by
  have f : fieldsP exL 0 = ([exF0, exF1], 9) := by
    rw [fieldsP_more (by decide) (by rw [exF0_eq]; decide) (by rw [exF0_eq]; decide), exF0_eq]
    show (exF0 :: (fieldsP exL 2).1, (fieldsP exL 2).2) = _
    rw [fieldsP_last (by rw [exF1_eq]; decide), exF1_eq]; rfl
  have r : rowP exL 0 = ⟨[exF0, exF1], 0, 9⟩ := by unfold rowP; rw [f]; rfl
  rw [allP_more (by decide), r, allP_end (by decide)]

/-- What the example's call of All tells. -/
def ExAll (w : World) (e : Ending) (w' : World) : Prop := ∃ (g c g5 c5 : Nat) (a1 : Option Addr) (c1 : Nat), e = .returned (.slice (some ⟨g, 0, none⟩) 1 c) ∧ w'.cell? ⟨g, 0, none⟩ = some (.slice (some ⟨g5, 0, none⟩) 2 c5) ∧
  w'.cell? ⟨g5, 4, none⟩ = some (.int .i64 2) ∧ w'.cell? ⟨g5, 5, none⟩ = some (.int .i64 7) ∧ w'.cell? ⟨g5, 6, none⟩ = some (.int .i64 3) ∧ w'.cell? ⟨g5, 7, none⟩ = some (.slice a1 3 c1) ∧ Rd w' 2 a1 3 (spC [(3, 2), (6, 1), (8, 1)]) ∧ Below w.heap.size w w'
theorem rd_own {w : World} {B n c s : Nat} {e : TypeId} {a : Option Addr} {xs : List Value} (h : w.ownsRow B e s (.slice a n c) n xs) : Rd w s a n xs := by
  refine ⟨h.1, fun hn => ?_⟩
  rcases own_form h with ⟨_, h0⟩ | ⟨g, rfl, _, hlt⟩
  · omega
  · refine ⟨g, 0, rfl, hlt, fun j u hu => ?_⟩
    have := h.cells (g := g) rfl j u hu
    rwa [Addr.add_lit] at this
theorem own_cells {w : World} {B n c s g : Nat} {e : TypeId} {xs : List Value} (h : w.ownsRow B e s (.slice (some ⟨g, 0, none⟩) n c) n xs) {j : Nat} {u : Value} (hu : xs[j]? = some u) : w.cell? ⟨g, j, none⟩ = some u := by
  have := h.cells (g := g) rfl j u hu
  rwa [Addr.add_lit, Nat.zero_add] at this
theorem list_two {α : Type} : ∀ {l : List α}, l.length = 2 → ∃ a b, l = [a, b]
  | [a, b], _ => ⟨a, b, rfl⟩
theorem exAll_of {w : World} {g c : Nat} {fr : Nat × Nat} {ty : TypeId} (hc : 9 ≤ c) (hc2 : c ≤ maxLen) (h : w.heap[g]? = some (.cells #[.int .u8 97, .int .u8 44, .int .u8 34, .int .u8 98, .int .u8 34, .int .u8 34, .int .u8 99, .int .u8 34, .int .u8 100] ty fr)) :
    Calls Try.prog 13 #[.slice (some ⟨g, 0, none⟩) 9 c] w (ExAll w) := by
  have hr : Rd w 1 (some ⟨g, 0, none⟩) exL.length (bc exL) := rd_new (t := exL) h
  refine (all_of (l := exL) (c := c) hr (by decide) hc hc2).mono ?_
  rintro e w' ⟨rs, a, c', rfl, hm, ho, hi, hb⟩
  rw [exAll] at hm
  have hl1 : rs.length = 1 := by have := congrArg List.length hm; simpa using this
  obtain ⟨⟨R, ps, a5, c5⟩, rfl⟩ := List.length_eq_one_iff.1 hl1
  obtain rfl : R = ⟨[exF0, exF1], 0, 9⟩ := by simpa using hm
  obtain ⟨hfs, hoF, hpi⟩ := hi _ (by simp : (⟨⟨[exF0, exF1], 0, 9⟩, ps, a5, c5⟩ : RowM) ∈ [(⟨⟨[exF0, exF1], 0, 9⟩, ps, a5, c5⟩ : RowM)])
  simp only at hfs hoF hpi
  have hl2 : ps.length = 2 := by have := congrArg List.length hfs; simpa using this
  obtain ⟨⟨f0, b0, d0⟩, ⟨f1, a1, c1⟩, rfl⟩ := list_two hl2
  obtain ⟨rfl, rfl⟩ : f0 = exF0 ∧ f1 = exF1 := by simpa using hfs
  have hp1 := hpi (exF1, a1, c1) (by simp)
  rcases own_form ho with ⟨_, h0⟩ | ⟨g', rfl, _, _⟩
  · exact absurd h0 (by simp)
  rcases own_form hoF with ⟨_, h0⟩ | ⟨g5, rfl, _, _⟩
  · exact absurd h0 (by simp)
  exact ⟨g', c', g5, c5, a1, c1, rfl, own_cells ho rfl, own_cells hoF rfl, own_cells hoF rfl, own_cells hoF rfl, own_cells hoF rfl, rd_own hp1, hb⟩
theorem exVal : valL exL [(3, 2), (6, 1), (8, 1)] = [98, 34, 99, 100] := by decide
/-- What the example's call of Value tells. -/
def ExVal (w : World) (e : Ending) (w' : World) : Prop := ∃ a c, e = .returned (.slice a 4 c) ∧ (convert 27 9 (.slice a 4 c)).run Try.prog w' = .ok (.string ⟨#[98, 34, 99, 100]⟩) w' ∧ Below w.heap.size w w'
theorem strOf_data (s : ByteArray) : strOf s.data.toList = s := by
  apply ByteArray.ext; simp [strOf]

end Go.Proofs.Ytmdifcgnmkpecaa
