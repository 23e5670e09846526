/-
  The contracts of the arena's New, Add, first and Keep, at this seat's numbers.
-/
import Derived.Test.YtelnehjmkjpjhaaDoorArC
import Derived.Test.YtelnehjmkjpjhaaDoorShelf
import Derived.Lib.IndexMore
namespace Go.Proofs.YtelnehjmkjpjhaaDoor
open Go Go.RowKit
set_option linter.unusedVariables false

/-- What Add answers, and leaves. -/
def addR (l t : List UInt8) : Int × Int × Int := if 16384 - (l.length : Int) < t.length then (0, 0, 6) else if t.length = 0 then (0, 0, 0) else (l.length, t.length, 0)
def addL (l t : List UInt8) : List UInt8 := if 16384 - (l.length : Int) < t.length then l else l ++ t
def ret3 (r : Int × Int × Int) : Ending := .returned (.tuple #[.agg #[.int .i64 r.1, .int .i64 r.2.1], .int .i64 r.2.2])
/-- The bytes, as numbers. -/
def nums (l : List UInt8) : List Int := l.map fun b => (b.toNat : Int)
theorem nums_len (l : List UInt8) : (nums l).length = l.length := by simp [nums]
theorem nums_cells (l : List UInt8) : (nums l).map (Value.int .u8) = bc l := by simp [nums, bc, Function.comp_def]
theorem nums_lt (l : List UInt8) : ∀ x ∈ nums l, 0 ≤ x ∧ x < 256 := by
  intro x hx
  simp [nums] at hx
  obtain ⟨b, _, rfl⟩ := hx
  have := b.toNat_lt
  omega
theorem nums_bytes (l : List UInt8) : Lib.bytesOf (nums l) = l := by
  unfold nums Lib.bytesOf
  rw [List.map_map]
  conv => rhs; rw [← List.map_id l]
  apply List.map_congr_left
  intro b _
  simp
theorem nums_at {l : List UInt8} {i : Nat} (hi : i < l.length) : (bc l)[i]? = some (.int .u8 ((nums l).getD i 0)) := by
  unfold bc nums
  rw [List.getElem?_map, List.getElem?_eq_getElem hi, List.getD_eq_getElem?_getD, List.getElem?_map, List.getElem?_eq_getElem hi]
  rfl

theorem own_slice {w : World} {B : Nat} {e : TypeId} {v : Value} {n : Nat} {xs : List Value} {s : Nat} (h : w.ownsRow B e s v n xs) : ∃ a c, v = .slice a n c := by
  rcases h.2 with ⟨rfl, rfl⟩ | ⟨g, cap, cur, rfl, _⟩
  · exact ⟨none, 0, rfl⟩
  · exact ⟨_, cap, rfl⟩

theorem clone_rd {w : World} {t : List UInt8} (a : Option Addr) (c : Nat) (ht : Rd w 1 a t.length (bc t)) (hl : t.length ≤ 140737488355328) :
    Calls Tryd.prog 25 #[.slice a t.length c] w (BytesPost t w) := by
  cases a with
  | none =>
    have h0 : t.length = 0 := by
      rcases Nat.eq_zero_or_pos t.length with h | h
      · exact h
      · obtain ⟨b, off, e, _⟩ := ht.2 h; cases e
    refine (Tryd.bytes_Clone_nil t.length c w).mono ?_
    rintro e w' ⟨rfl, rfl⟩
    obtain rfl := List.eq_nil_of_length_eq_zero h0
    exact ⟨none, 0, rfl, ⟨by simp [bc], .inl ⟨rfl, rfl⟩⟩, Below.refl _ _⟩
  | some ad =>
    refine (Tryd.bytes_Clone_at ad t.length c (nums t) w (nums_len t) hl (fun i hi => ?_)).mono ?_
    · obtain ⟨b, off, e, _, hc⟩ := ht.2 (by omega)
      injection e with e
      subst e
      rw [Addr.add_lit]
      exact hc i _ (nums_at hi)
    · rintro e w' ⟨v', rfl, h2, h3, h4⟩
      rw [nums_cells] at h2
      obtain ⟨a', c', rfl⟩ := own_slice h2
      exact ⟨a', c', rfl, h2, h4⟩

/-- The first place at which bytes stand, as a span. -/
def firstR (l t : List UInt8) : Int × Int := if t.length = 0 ∨ Lib.index l t < 0 then (0, 0) else (Lib.index l t, t.length)
def ret2 (r : Int × Int) : Ending := .returned (.agg #[.int .i64 r.1, .int .i64 r.2])

/-- What Keep answers, and leaves. -/
def keepR (l t : List UInt8) : Int × Int × Int := if t.length = 0 ∨ Lib.index l t < 0 then addR l t else (Lib.index l t, t.length, 0)
def keepL (l t : List UInt8) : List UInt8 := if t.length = 0 ∨ Lib.index l t < 0 then addL l t else l

/-- A span's block, and what becomes of it. -/
structure SpB (w : World) (b : Nat) (x y : Int) : Prop where
  blk : w.heap[b]? = some (.cells #[.int .i64 x, .int .i64 y] 41 (0, 0))
theorem SpB.c0 {w : World} {b : Nat} {x y : Int} (h : SpB w b x y) : w.cell? ⟨b, 0, none⟩ = some (.int .i64 x) := by rw [cell_at h.blk]; rfl
theorem SpB.c1 {w : World} {b : Nat} {x y : Int} (h : SpB w b x y) : w.cell? ⟨b, 1, none⟩ = some (.int .i64 y) := by rw [cell_at h.blk]; rfl
theorem SpB.f {w : World} {b : Nat} {x y : Int} (h : SpB w b x y) (i : Nat) : w.frozen? ⟨b, i, none⟩ = false := unfrozen h.blk i
theorem SpB.lt {w : World} {b : Nat} {x y : Int} (h : SpB w b x y) : b < w.heap.size := lt_of_heap h.blk
theorem SpB.new (w : World) (x y : Int) : SpB (w.alloc (.cells #[.int .i64 x, .int .i64 y] 41)) w.heap.size x y := ⟨heap_alloc_new _ _⟩
theorem SpB.below {w w' : World} {b : Nat} {x y : Int} (h : SpB w b x y) (hb : Below w.heap.size w w') : SpB w' b x y := ⟨(hb.block b h.lt).trans h.blk⟩
theorem SpB.both {w : World} {b : Nat} {x' y' x y : Int} (h : SpB w b x' y') : SpB ((w.setCell ⟨b, 0, none⟩ (.int .i64 x)).setCell ⟨b, 1, none⟩ (.int .i64 y)) b x y :=
  ⟨by rw [heap_set_at (heap_set_at h.blk)]; rfl⟩
theorem below_two {w0 w : World} {b : Nat} (h : Below w0.heap.size w0 w) (hb : w0.heap.size ≤ b) (u v : Value) : Below w0.heap.size w0 ((w.setCell ⟨b, 0, none⟩ u).setCell ⟨b, 1, none⟩ v) :=
  (h.setCell (p := ⟨b, 0, none⟩) hb u).setCell (p := ⟨b, 1, none⟩) hb v
end Go.Proofs.YtelnehjmkjpjhaaDoor
