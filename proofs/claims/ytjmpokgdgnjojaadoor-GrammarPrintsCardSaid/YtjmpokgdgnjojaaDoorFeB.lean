/-
  A feed in memory: New, Type, the small reads, at this seat's numbers.
-/
import Derived.Test.YtjmpokgdgnjojaaDoorFeA
namespace Go.Proofs.YtjmpokgdgnjojaaDoor
open Go Go.RowKit
set_option linter.unusedVariables false

theorem heap_setCh (w : World) (c cap : Nat) (buf : Array Value) (cl : Bool) (s r : Nat) (tm : Bool) {b : Nat} (h : b ≠ c) : (w.setChan c cap buf cl s r tm).heap[b]? = w.heap[b]? := by
  simp only [World.setChan]; rw [Array.getElem?_setIfInBounds_ne (by omega)]
theorem nums_push (l : List Int) (x : Int) : (nums l).toArray.push (.int .i64 x) = (nums (l ++ [x])).toArray := by simp [nums]
theorem nums_size (l : List Int) : (nums l).toArray.size = l.length := by simp [nums]

/-- A pack of keys: a closed channel. -/
def Pk (w : World) (b : Nat) (l : List Int) : Prop := ∃ k s r, w.heap[b]? = some (.chan k (nums l).toArray true s r false)
abbrev chV (x : Nat × List Int) : Value := .chan (some x.1)

theorem Pk.at {w w' : World} {b : Nat} {l : List Int} (h : Pk w b l) (e : w'.heap[b]? = w.heap[b]?) : Pk w' b l := by
  obtain ⟨k, s, r, hb⟩ := h
  exact ⟨k, s, r, e.trans hb⟩

section
variable {w w' : World} {B f h c room fu : Nat} {v : Value} {ty : List Int} {L : List (Nat × List Int)}

theorem len_chan {t n : Nat} {dir : ChanDir} {e : TypeId} (ht : Tryd.prog.underlying t = some (.chan dir e)) {b k s r : Nat} {cl : Bool} {l : List Int} (h : w.heap[b]? = some (.chan k (nums l).toArray cl s r false)) :
    (Builtin.len_ #[t] n #[.chan (some b)]).run Tryd.prog w = .ok (.int .i64 l.length) w := by
  have := run_getObj_chan Tryd.prog w h
  simp [Builtin.len_, run_underlying ht, this, goInt, nums]
theorem bytes_int : ∃ i, Tryd.prog.info? 3 = some i ∧ i.bytes = 8 := by
  have h : (Tryd.prog.info? 3).map (·.bytes) = some 8 := by kernel_rfl
  obtain ⟨i, hi, hb⟩ := Option.map_eq_some_iff.1 h
  exact ⟨i, hi, hb⟩
/-- The room that a feed is given. -/
def roomOf (x : Int) : Nat := (min (max x 1) 1000).toNat
theorem roomOf_eq (x : Int) : min (max x 1) 1000 = (roomOf x : Int) := by unfold roomOf; omega
theorem roomOf_le (x : Int) : 1 ≤ roomOf x ∧ roomOf x ≤ 1000 := by unfold roomOf; omega

end
end Go.Proofs.YtjmpokgdgnjojaaDoor
