/-
  The contracts of quote's Read and of the document's own, at this seat's numbers.
-/
import Derived.Test.YtmdifcgnmkpecaaQuB
import Derived.Test.YtmdifcgnmkpecaaScN
import Derived.Test.YtmdifcgnmkpecaaScI
import Derived.Deep.RegionWith
namespace Go.Proofs.Ytmdifcgnmkpecaa
open Go Go.RowKit
set_option linter.unusedVariables false

theorem one_none (a : Option Addr) (c : Nat) (w : World) :
    Calls Try.prog 20 #[.slice a 0 c, .int .i64 0] w fun e w' => e = .returned (.tuple #[.agg #[.slice none 0 0, .int .i64 0], .int .i64 0]) ∧ Below w.heap.size w w' := by
  go_enter Try.func20, Try.ntmps20
  go_wp2_with fail
  refine bodyPost_ret (v := .tuple #[.agg #[.slice none 0 0, .int .i64 0], .int .i64 0]) (by simp [results, Try.results20, go_sem]) rfl ⟨rfl, ?_⟩
  exact (Below.refl _ _).alloc (Nat.le_refl _) _
theorem rone_none {s : ByteArray} (hs : s.size = 0) (w : World) :
    Calls Try.prog 35 #[.string s, .int .i64 0] w fun e w' => e = .returned (.tuple #[.agg #[.slice none 0 0, .int .i64 0], .int .i64 0]) ∧ Below w.heap.size w w' := by
  go_enter Try.func35, Try.ntmps35
  go_wp2_with fail
  refine bodyPost_ret (v := .tuple #[.agg #[.slice none 0 0, .int .i64 0], .int .i64 0]) (by simp [results, Try.results35, go_sem]) rfl ⟨rfl, ?_⟩
  exact ((Below.refl _ _).alloc (Nat.le_refl _) _).alloc (by simp) _

theorem fieldP_nil : (fieldP [] 0).kind = 0 ∧ (fieldP [] 0).pl = [] := by
  have hq : quAt [] 0 = false := by decide
  obtain ⟨_, k2, k3⟩ := plain_kind hq
  have ht : till [] 0 = 0 := till_stop (by decide)
  rw [ht] at k2 k3
  exact ⟨by rw [k2]; decide, by rw [k3, pls_nil]⟩
/-- What Read hands back. -/
def QrPost (l : List UInt8) (w : World) (e : Ending) (w' : World) : Prop := ∃ a n c, e = .returned (.tuple #[.slice a n c, .int .i64 (fieldP l 0).kind]) ∧ n = (atL l (fieldP l 0).pl).length ∧ w'.ownsRow w.heap.size 5 1 (.slice a n c) n (bc (atL l (fieldP l 0).pl)) ∧ Below w.heap.size w w'

theorem row_first {l : List UInt8} {ps : List FdM} (h : ps.map (·.1) = (rowP l 0).fs) : ∃ f a c rest, ps = (f, a, c) :: rest ∧ f = fieldP l 0 := by
  have hr := fieldsP_rest (l := l) (i := 0) (by omega)
  cases ps with
  | nil => unfold rowP at h; rw [hr] at h; cases h
  | cons p rest =>
    obtain ⟨f, a, c⟩ := p
    unfold rowP at h
    rw [hr] at h
    simp only [List.map_cons] at h
    injection h with h1 h2
    exact ⟨f, a, c, rest, rfl, h1⟩

/-- What the document's Read hands back. -/
def RrdPost (l : List UInt8) (w : World) (e : Ending) (w' : World) : Prop := e = .returned (.tuple #[.string (strOf (atL l (fieldP l 0).pl)), .int .i64 (fieldP l 0).kind]) ∧ Below w.heap.size w w'

end Go.Proofs.Ytmdifcgnmkpecaa
