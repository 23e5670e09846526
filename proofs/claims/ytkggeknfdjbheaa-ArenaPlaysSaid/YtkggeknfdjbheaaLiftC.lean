/-
  More arguments opened: slices of what is put, at this seat's numbers.
-/
import Derived.Test.YtkggeknfdjbheaaLiftB
import Derived.Test.YtkggeknfdjbheaaArL
import Derived.Deep.SlicePairs
namespace Go.Proofs.Ytkggeknfdjbheaa
open Go Go.RowKit Go.ChangeShapes Go.WideShapes Go.Joins
set_option linter.unusedVariables false
set_option maxRecDepth 100000

def strv : Value → ByteArray
  | .string s => s
  | _ => ByteArray.empty
def boolv : Value → Bool
  | .bool b => b
  | _ => false
theorem putC_len (l : List (ByteArray × Bool)) : (putC l).length = l.length * 2 := by
  induction l with
  | nil => rfl
  | cons s l ih => simp only [putC, List.flatMap_cons, List.length_append, List.length_cons, List.length_nil] at *; omega
theorem putC_inv (l : List (ByteArray × Bool)) (j : Nat) (u : Value) (h : (putC l)[j]? = some u) : ∃ i s, l[i]? = some s ∧ ((j = i * 2 ∧ u = .string s.1) ∨ (j = i * 2 + 1 ∧ u = .bool s.2)) := by
  have hj : j < l.length * 2 := by
    rw [← putC_len]
    exact (List.getElem?_eq_some_iff.1 h).1
  have hi : j / 2 < l.length := by omega
  obtain ⟨h0, h1⟩ := putC_at l (j / 2) l[j / 2] (List.getElem?_eq_getElem hi)
  refine ⟨j / 2, l[j / 2], List.getElem?_eq_getElem hi, ?_⟩
  rcases Nat.mod_two_eq_zero_or_one j with hm | hm
  · left
    have e : j = j / 2 * 2 := by omega
    rw [← e, h] at h0
    injection h0 with h0
    exact ⟨e, h0⟩
  · right
    have e : j = j / 2 * 2 + 1 := by omega
    rw [← e, h] at h1
    injection h1 with h1
    exact ⟨e, h1⟩

section
variable {H : Type} {enc : TypeId × Value → H} {W : World}
theorem open_puts {v : Value} {d : DataW H} {p : List MemPlace} (hv : Value.okWide Try.prog W .any 0 22 v) (h : DataW.Trod enc Try.prog W 0 (fun _ => true) true 22 v d p) (hlt : ∀ x ∈ p, x.block < W.heap.size) :
    ∃ (a : Option Addr) (c : Nat) (L : List (ByteArray × Bool)), v = .slice a L.length c ∧ PutArg W a c L := by
  obtain ⟨a0, len0, cap0, rfl⟩ := okWide_slice Try.underlying22 hv
  obtain ⟨fuel, hf⟩ := h
  rcases Go.Deep.open_slice_pairs Try.underlying22 Try.underlying36 (by kernel_rfl) rfl rfl (by kernel_rfl) (by kernel_rfl) hf with ⟨hcs, _⟩ | ⟨a, len, cap, m, n, V0, V1, D0, D1, P0, P1, hcs, _, hl, hm, hz, _, hcell⟩
  · simp [Value.cells] at hcs
    obtain ⟨rfl, rfl, rfl⟩ := hcs
    exact ⟨none, 0, [], rfl, ⟨by simp [putC], fun h => absurd h (by simp)⟩, by simp, by unfold maxLen; omega, fun s hs => by simp at hs⟩
  · simp [Value.cells] at hcs
    obtain ⟨rfl, rfl, rfl⟩ := hcs
    simp only [if_true] at hz
    subst hz
    have hlen : ((List.range len0).map fun i => (strv (V0 i), boolv (V1 i))).length = len0 := by simp
    have each : ∀ i, i < len0 → W.cell? (a.add (i * 2)) = some (.string (strv (V0 i))) ∧ W.cell? (a.add (i * 2 + 1)) = some (.bool (boolv (V1 i))) ∧ (strv (V0 i)).size ≤ maxLen := by
      intro i hi
      obtain ⟨c0, c1, t0, t1⟩ := hcell i (by omega)
      obtain ⟨s, e0, _, w0⟩ := DataW.trod_string Try.underlying9 t0
      obtain ⟨b, e1, _⟩ := DataW.trod_bool Try.underlying4 t1
      injection e0 with e0
      injection e1 with e1
      rw [e0] at c0
      rw [e1] at c1
      rw [e0, e1]
      exact ⟨c0, c1, w0⟩
    refine ⟨some a, m, (List.range len0).map fun i => (strv (V0 i), boolv (V1 i)), by rw [hlen], ⟨by rw [putC_len], fun hn => ?_⟩, by omega, hm, fun s hs => ?_⟩
    · have hn' : 0 < len0 := by rw [hlen] at hn; omega
      have h0 := (each 0 hn').1
      have hb := World.block_lt_of_cell? _ _ h0
      have ha : a = ⟨a.block, a.off, none⟩ := Lib.plain_of_cell (by simpa [Addr.add] using h0)
      refine ⟨a.block, a.off, by rw [← ha], by simpa [Addr.add] using hb, fun j u hu => ?_⟩
      obtain ⟨i, s, hs, hj⟩ := putC_inv _ _ _ hu
      have hi : i < len0 := by
        have := (List.getElem?_eq_some_iff.1 hs).1
        rwa [hlen] at this
      rw [List.getElem?_map, List.getElem?_range hi] at hs
      simp at hs
      subst hs
      obtain ⟨c0, c1, _⟩ := each i hi
      rw [ha, Addr.add_lit] at c0 c1
      rcases hj with ⟨rfl, rfl⟩ | ⟨rfl, rfl⟩
      · exact c0
      · exact c1
    · obtain ⟨i, hi, rfl⟩ := List.mem_map.1 hs
      exact (each i (List.mem_range.1 hi)).2.2
end

end Go.Proofs.Ytkggeknfdjbheaa
