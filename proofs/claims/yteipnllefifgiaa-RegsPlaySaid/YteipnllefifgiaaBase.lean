/-
  Small things that every layer's contracts share: a text's bytes, blocks that hold them, conversions between texts and slices of bytes.
-/
import Derived.Test.YteipnllefifgiaaRows
import Derived.WalkKit
import Derived.WalkSpells
import Derived.OwnWalk
import Derived.Outline
import Derived.Below
import Derived.Lib.Hide
import Derived.WalkSmall
import Derived.WalkMore
import Derived.LoopTactic
import Derived.BigQuiet
import Derived.Deep.QuietTactic
import Derived.Lib.SlBytesConst
import Derived.Laws.IdiomStrings
import Derived.Laws.BytesArg
import Derived.Laws.AppendOwn
namespace Go.Proofs.Yteipnllefifgiaa
open Go Go.RowKit
set_option linter.unusedVariables false

/-- A byte of a text; beyond its end 0. -/
def bt (s : ByteArray) (i : Nat) : Int := ((s.data.toList.getD i 0).toNat : Int)
theorem bt_lo (s : ByteArray) (i : Nat) : 0 ≤ bt s i := by unfold bt; omega
theorem bt_hi (s : ByteArray) (i : Nat) : bt s i < 256 := by unfold bt; have := (s.data.toList.getD i 0).toNat_lt; omega
theorem bt_get (s : ByteArray) (i : Nat) (h : i < s.size) : ((s[i]'h).toNat : Int) = bt s i := by
  unfold bt
  have h' : i < s.data.toList.length := by simpa using h
  rw [List.getD_eq_getElem?_getD, List.getElem?_eq_getElem h']
  rfl

/-- The cells at place off of block b hold the text s. -/
def Bs (w : World) (b off : Nat) (s : ByteArray) : Prop := ∀ j, j < s.size → w.cell? ⟨b, off + j, none⟩ = some (.int .u8 (bt s j))
theorem Bs.drewN {w : World} {b off : Nat} {s : ByteArray} (h : Bs w b off s) (n : Nat) : Bs (w.drewN n) b off s := fun j hj => by simpa using h j hj

theorem Below.draws (w : World) (n : Nat) : Below w.heap.size w (w.drewN n) := ⟨rfl, rfl, rfl, Nat.le_refl _, fun _ _ => rfl⟩
theorem Bs.below {w w' : World} {b off : Nat} {s : ByteArray} (h : Bs w b off s) (hb : Below w.heap.size w w') (hl : b < w.heap.size) : Bs w' b off s := fun j hj => by
  rw [hb.cell (p := ⟨b, off + j, none⟩) hl]; exact h j hj
theorem Bs.alloc {w : World} {b off : Nat} {s : ByteArray} (h : Bs w b off s) (o : Obj) (hl : b < w.heap.size) : Bs (w.alloc o) b off s := fun j hj => by
  rw [World.cell?_alloc_lt w o ⟨b, off + j, none⟩ hl]; exact h j hj
/-- A new block of cells that hold a text. -/
theorem bs_new (w : World) (C : Array Value) (t : TypeId) (fr : Nat × Nat) (k : Nat) (hk : k = w.heap.size) (s : ByteArray) (h : ∀ j, j < s.size → C[j]? = some (.int .u8 (bt s j))) : Bs (w.alloc (.cells C t fr)) k 0 s := by
  intro j hj
  subst hk
  rw [Nat.zero_add, World.cell?_alloc_mark]
  exact h j hj

/-- The cells of a text. -/
def cellsOf (s : ByteArray) : Array Value := (s.data.toList.map fun b => Value.int .u8 (b.toNat : Int)).toArray
theorem cellsOf_get (s : ByteArray) (j : Nat) (hj : j < s.size) : (cellsOf s)[j]? = some (.int .u8 (bt s j)) := by
  have h' : j < s.data.toList.length := by simpa using hj
  unfold cellsOf bt
  rw [List.getElem?_toArray, List.getElem?_map, List.getD_eq_getElem?_getD, List.getElem?_eq_getElem h']
  rfl
theorem bs_lit (w : World) (C : Array Value) (t : TypeId) (fr : Nat × Nat) (k : Nat) (hk : k = w.heap.size) (s : ByteArray) (h : C = cellsOf s) : Bs (w.alloc (.cells C t fr)) k 0 s :=
  bs_new w C t fr k hk s (by subst h; exact cellsOf_get s)

theorem Tbound (s : ByteArray) : s.data.toList.length = s.size := rfl

theorem u8_of (x : Nat) (h : x < 256) : ((UInt8.ofNat x).toNat : Int) = x := by
  rw [UInt8.toNat_ofNat_of_lt' (by simpa using h)]

def strOf (l : List UInt8) : ByteArray := ⟨l.toArray⟩
theorem strOf_bt (c : UInt8) (l : List UInt8) : bt (strOf (c :: l)) 0 = c.toNat := rfl
theorem strOf_app (a b : List UInt8) : strOf a ++ strOf b = strOf (a ++ b) := by
  apply ByteArray.ext
  simp [strOf, ByteArray.data_append]
theorem strOf_size (l : List UInt8) : (strOf l).size = l.length := rfl

/-- A slice at place 0 of block b that holds a text, said once for a whole statement. -/
structure Held (w : World) (b cap : Nat) (s : ByteArray) : Prop where
  size : s.size ≤ maxLen
  fits : s.size ≤ cap
  cap : cap ≤ maxLen
  bytes : Bs w b 0 s
  lies : b < w.heap.size
theorem Held.below {w w' : World} {b cap : Nat} {s : ByteArray} (h : Held w b cap s) (hb : Below w.heap.size w w') : Held w' b cap s :=
  ⟨h.size, h.fits, h.cap, h.bytes.below hb h.lies, Nat.lt_of_lt_of_le h.lies hb.size⟩

theorem strOfNums_text (t : ByteArray) : strOfNums (t.data.toList.map fun x => (x.toNat : Int)) = t := by
  cases t with
  | mk d =>
    have h : ∀ l : List UInt8, l.map ((fun n : Int => UInt8.ofNat n.toNat) ∘ fun x : UInt8 => (x.toNat : Int)) = l := by
      intro l
      induction l with
      | nil => rfl
      | cons a l ih => simp only [List.map_cons, ih]; simp
    simp only [strOfNums, List.map_map, h]

theorem ret_two {a b c d : Int} (h : a = c) (h' : b = d) : Ending.returned (.tuple #[.int .i64 a, .int .i64 b]) = .returned (.tuple #[.int .i64 c, .int .i64 d]) := by rw [h, h']

theorem int_eq {a b : Int} (h : a = b) : Value.int .i64 a = .int .i64 b := by rw [h]

theorem ret_i {a b : Int} (h : b = a) : Ending.returned (.int .i64 a) = .returned (.int .i64 b) := by rw [h]


end Go.Proofs.Yteipnllefifgiaa
