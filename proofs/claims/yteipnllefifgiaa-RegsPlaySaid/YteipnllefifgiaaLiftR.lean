/-
  Arguments opened, for the lift of the walks of layer 28: a register's value; at this seat's numbers.
-/
import Derived.Test.YteipnllefifgiaaRgN
import Derived.Lib.SmallJoins
import Derived.Deep.Slices
import Derived.Carry
import Derived.OpenShut
import Derived.ShutString
import Derived.ProofKit
import Derived.Shelf.Vars
import Derived.ChangeSlices
import Derived.SliceStrings
namespace Go.Proofs.Yteipnllefifgiaa
open Go Go.RowKit Go.ChangeShapes Go.WideShapes Go.Joins
set_option linter.unusedVariables false
set_option maxRecDepth 100000

/-- A whole number of Go's int. -/
def I64 (x : Int) : Prop := -9223372036854775808 ≤ x ∧ x ≤ 9223372036854775807

section
variable {H : Type} {enc : TypeId × Value → H} {W : World}
theorem laidOut : laidOutB Try.prog = true := by kernel_rfl
theorem cells_int : Try.prog.cellsOf 3 = 1 := by kernel_rfl
theorem cells_txs : Try.prog.cellsOf 61 = 1 := by kernel_rfl
theorem cells_str : Try.prog.cellsOf 9 = 1 := by kernel_rfl
theorem text_core {n : Nat} {v : Value} {y : DataW H × List MemPlace} (h : DataW.trod enc Try.prog W 0 (fun _ => true) true n 61 [v] = some y) :
    ∃ p : TxM, v = txV p ∧ Rdt W p.1 p.2.2 ∧ p.2.2.length ≤ maxLen ∧ ∀ s ∈ p.2.2, s.size ≤ maxLen := by
  rcases open_strings Try.underlying61 Try.underlying9 cells_str h with ⟨hcs, _⟩ | ⟨a, len, cap, ss, hcs, _, hl, hm, hss, _, hcell, hsz⟩
  · refine ⟨(none, 0, []), by simpa [txV] using hcs, fun hn => absurd hn (by simp), Nat.zero_le _, by simp⟩
  · have e : v = .slice (some a) len cap := by simpa using hcs
    subst e
    simp only [if_true] at hss
    have hlen : (ss.take len).length = len := by rw [List.length_take]; omega
    refine ⟨(some a, cap, ss.take len), by unfold txV; rw [hlen], fun hn => ⟨a, rfl, ?_, fun k x hx => ?_⟩, by show (ss.take len).length ≤ _; rw [hlen]; omega, fun s hs => hsz s (List.mem_of_mem_take hs)⟩
    · have := World.block_lt_of_cell? _ _ (hcell 0 (by rw [hss]; have hn2 : 0 < (ss.take len).length := hn; rw [hlen] at hn2; omega))
      rwa [add_block] at this
    · have hx' : (ss.take len)[k]? = some x := hx
      rw [List.getElem?_take] at hx'
      split at hx'
      · rename_i hk
        rw [hcell k (by rw [hss]; omega), List.getD_eq_getElem?_getD, hx']; rfl
      · cases hx'
theorem texts_core {n : Nat} {v : Value} {y : DataW H × List MemPlace} (h : DataW.trod enc Try.prog W 0 (fun _ => true) true n 26 [v] = some y) :
    ∃ (a : Option Addr) (c : Nat) (T : List TxM), v = .slice a T.length c ∧ TxIn W a T := by
  rcases Go.Deep.open_slice1 Try.underlying26 cells_txs h with ⟨hcs, _⟩ | ⟨a, len, cap, m, n2, V, D, Pl, hcs, _, hl, hm, hmm, _, hx⟩
  · exact ⟨none, 0, [], by simpa using hcs, Nat.zero_le _, fun hn => absurd hn (by simp), fun p hp => by simp at hp⟩
  · have e : v = .slice (some a) len cap := by simpa using hcs
    subst e
    simp only [if_true] at hmm
    subst hmm
    obtain ⟨f, hf⟩ := Go.Deep.choose_lt (α := TxM) (n := len) (p := fun i p => V i = txV p ∧ Rdt W p.1 p.2.2 ∧ p.2.2.length ≤ maxLen ∧ ∀ s ∈ p.2.2, s.size ≤ maxLen) (fun i hi => text_core (hx i (by omega)).2)
    have hlen : ((List.range len).map f).length = len := by simp
    refine ⟨some a, _, (List.range len).map f, by rw [hlen], by rw [hlen]; omega, fun hn => ⟨a, rfl, ?_, fun k p hp => ?_⟩, fun p hp => ?_⟩
    · rw [hlen] at hn
      have := World.block_lt_of_cell? _ _ (hx 0 (by omega)).1
      rwa [add_block] at this
    · have hk := (List.getElem?_eq_some_iff.1 hp).1
      rw [hlen] at hk
      rw [List.getElem?_map, List.getElem?_range hk] at hp
      cases hp
      rw [(hx k (by omega)).1, (hf k hk).1]
    · obtain ⟨k, hk, rfl⟩ := List.mem_map.1 hp
      exact (hf k (List.mem_range.1 hk)).2
/-- A register's value that comes in. -/
theorem open_reg {v : Value} {d : DataW H} {p : List MemPlace} (hv : Value.okWide Try.prog W .any 0 28 v) (h : DataW.Trod enc Try.prog W 0 (fun _ => true) true 28 v d p) :
    ∃ (k : Int) (a : Option Addr) (c : Nat) (T : List TxM), v = rgV k a T.length c ∧ TxIn W a T := by
  obtain ⟨v0, v1, y0, y1, n, rfl, _, hp, h0, h1⟩ := open_agg2 Try.underlying28 (by kernel_rfl) (by kernel_rfl) hv h
  obtain ⟨k, e0, _, w0⟩ := DataW.trod_int Try.underlying3 h0
  injection e0 with e0
  subst e0
  obtain ⟨a, c, T, rfl, hT⟩ := texts_core h1
  exact ⟨k, a, c, T, rfl, hT⟩
end

end Go.Proofs.Yteipnllefifgiaa
