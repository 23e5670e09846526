/-
  Next, at this seat's numbers.
-/
import Derived.Test.YtjmpokgdgnjojaaDoorFeD
namespace Go.Proofs.YtjmpokgdgnjojaaDoor
open Go Go.RowKit
set_option linter.unusedVariables false

theorem own_last {w : World} {B : Nat} {e : TypeId} {a : Option Addr} {n c : Nat} {xs : List Value} {x : Value} (h : w.ownsRow B e 1 (.slice a (n + 1) c) (n + 1) (xs ++ [x])) (hn : xs.length = n) :
    w.ownsRow B e 1 (.slice a n c) n xs ∧ ∃ g, a = some ⟨g, 0, none⟩ ∧ w.cell? ⟨g, n, none⟩ = some x ∧ n + 1 ≤ c ∧ c ≤ maxLen := by
  have rd := t_rd h
  rcases t_form h with ⟨_, h1, _⟩ | ⟨g, rfl, _, _, h1, h2⟩
  · omega
  obtain ⟨_, hh⟩ := h
  refine ⟨?_, g, rfl, ?_, h1, h2⟩
  · rcases hh with ⟨h1, _⟩ | ⟨g', cap, cur, h1, hB, hgg, hnc, hcc, hsz, ht⟩
    · cases h1
    · cases h1
      refine ⟨by rw [hn, Nat.mul_one], .inr ⟨g, c, cur, rfl, hB, hgg, by omega, hcc, hsz, ?_⟩⟩
      have e1 : (xs ++ [x]).take (n * 1) = xs := by rw [Nat.mul_one, ← hn, List.take_left]
      rw [← e1, ← ht, List.take_take]
      congr 1
      simp
  · obtain ⟨g', o', e1, _, hc⟩ := rd.2 (by omega)
    cases e1
    have := hc n x (by rw [← hn]; simp)
    simpa using this

section
variable {w : World} {B f h c room fu : Nat} {v : Value} {ty : List Int} {L : List (Nat × List Int)}

/-- The packs when one has lost its first key. -/
def restL (L : List (Nat × List Int)) (b : Nat) (t : List Int) : List (Nat × List Int) := if t = [] then L else L ++ [(b, t)]

theorem len_chan' {w : World} {t n : Nat} {dir : ChanDir} {e : TypeId} (ht : Tryd.prog.underlying t = some (.chan dir e)) {b k s r : Nat} {cl : Bool} {l : List Int} (h : w.heap[b]? = some (.chan k (nums l).toArray cl s r false)) :
    (Builtin.len_ #[t] n #[.chan (some b)]).run Tryd.prog w = .ok (.int .i64 l.length) w := len_chan ht h

end
end Go.Proofs.YtjmpokgdgnjojaaDoor
