/-
  Texts of this seat, put together (a claim holds few texts): Base, ArA.
-/
import Derived.Test.YtkgakgceamafcaaRows
import Derived.WalkKit
import Derived.WalkSpells
import Derived.OwnWalk
import Derived.Outline
import Derived.Below
import Derived.Lib.Hide
import Derived.WalkSmall
import Derived.WalkMore
import Derived.LoopTactic
import Derived.BigQuiet
import Derived.Deep.QuietTactic
import Derived.Lib.SlBytesConst
import Derived.Laws.IdiomStrings
import Derived.Laws.BytesArg
import Derived.Laws.AppendOwn
import Derived.Deep.RegionWith
import Derived.Deep.Draws
import Derived.Laws.OwnMore
import Derived.Deep.AppendLies
import Derived.Deep.Onto

namespace Go.Proofs.Ytkgakgceamafcaa
open Go Go.RowKit
set_option linter.unusedVariables false

/-- A byte of a text; beyond its end 0. -/
def bt (s : ByteArray) (i : Nat) : Int := ((s.data.toList.getD i 0).toNat : Int)
theorem bt_lo (s : ByteArray) (i : Nat) : 0 ≤ bt s i := by unfold bt; omega
theorem bt_hi (s : ByteArray) (i : Nat) : bt s i < 256 := by unfold bt; have := (s.data.toList.getD i 0).toNat_lt; omega
theorem bt_get (s : ByteArray) (i : Nat) (h : i < s.size) : ((s[i]'h).toNat : Int) = bt s i := by
  unfold bt
  have h' : i < s.data.toList.length := by simpa using h
  rw [List.getD_eq_getElem?_getD, List.getElem?_eq_getElem h']
  rfl

/-- The cells at place off of block b hold the text s. -/
def Bs (w : World) (b off : Nat) (s : ByteArray) : Prop := ∀ j, j < s.size → w.cell? ⟨b, off + j, none⟩ = some (.int .u8 (bt s j))
theorem Bs.drewN {w : World} {b off : Nat} {s : ByteArray} (h : Bs w b off s) (n : Nat) : Bs (w.drewN n) b off s := fun j hj => by simpa using h j hj

theorem Below.draws (w : World) (n : Nat) : Below w.heap.size w (w.drewN n) := ⟨rfl, rfl, rfl, Nat.le_refl _, fun _ _ => rfl⟩
theorem Bs.below {w w' : World} {b off : Nat} {s : ByteArray} (h : Bs w b off s) (hb : Below w.heap.size w w') (hl : b < w.heap.size) : Bs w' b off s := fun j hj => by
  rw [hb.cell (p := ⟨b, off + j, none⟩) hl]; exact h j hj
theorem Bs.alloc {w : World} {b off : Nat} {s : ByteArray} (h : Bs w b off s) (o : Obj) (hl : b < w.heap.size) : Bs (w.alloc o) b off s := fun j hj => by
  rw [World.cell?_alloc_lt w o ⟨b, off + j, none⟩ hl]; exact h j hj
theorem conv_at (w : World) (C : Array Value) (n c k : Nat) (hk : k = w.heap.size) :
    (convert 23 23 (.slice (some ⟨k, 0, none⟩) n c)).run Try.prog (w.alloc (.cells C 5)) = .ok (.slice (some ⟨k, 0, none⟩) n c) (w.alloc (.cells C 5 (C.size, C.size + 1))) := by
  subst hk
  exact Lib.run_convert_bytes_const w 23 5 C n c Try.underlying23 Try.underlying5

/-- A new block of cells that hold a text. -/
theorem bs_new (w : World) (C : Array Value) (t : TypeId) (fr : Nat × Nat) (k : Nat) (hk : k = w.heap.size) (s : ByteArray) (h : ∀ j, j < s.size → C[j]? = some (.int .u8 (bt s j))) : Bs (w.alloc (.cells C t fr)) k 0 s := by
  intro j hj
  subst hk
  rw [Nat.zero_add, World.cell?_alloc_mark]
  exact h j hj

/-- The cells of a text. -/
def cellsOf (s : ByteArray) : Array Value := (s.data.toList.map fun b => Value.int .u8 (b.toNat : Int)).toArray
theorem cellsOf_get (s : ByteArray) (j : Nat) (hj : j < s.size) : (cellsOf s)[j]? = some (.int .u8 (bt s j)) := by
  have h' : j < s.data.toList.length := by simpa using hj
  unfold cellsOf bt
  rw [List.getElem?_toArray, List.getElem?_map, List.getD_eq_getElem?_getD, List.getElem?_eq_getElem h']
  rfl
theorem bs_lit (w : World) (C : Array Value) (t : TypeId) (fr : Nat × Nat) (k : Nat) (hk : k = w.heap.size) (s : ByteArray) (h : C = cellsOf s) : Bs (w.alloc (.cells C t fr)) k 0 s :=
  bs_new w C t fr k hk s (by subst h; exact cellsOf_get s)

theorem Tbound (s : ByteArray) : s.data.toList.length = s.size := rfl

/-- '[]byte(s)': a slice of new memory, of whatever capacity, that holds s. -/
theorem bytes_of (s : ByteArray) (w : World) (hs : s.size ≤ maxLen) :
    ∃ cap W, (convert 9 23 (.string s)).run Try.prog w = .ok (.slice (some ⟨w.heap.size, 0, none⟩) s.size cap) W ∧ s.size ≤ cap ∧ cap ≤ maxLen ∧ Bs W w.heap.size 0 s ∧ Below w.heap.size w W ∧ w.heap.size < W.heap.size := by
  refine ⟨_, _, run_bytes_of_string w 9 23 5 s Try.underlying9 Try.underlying23 Try.underlying5, grownCap_ge _ _ _ _, grownCap_le_maxLen _ _ _ _ hs, ?_, ?_, ?_⟩
  · refine bs_new w.drew _ _ _ _ rfl s fun j hj => ?_
    rw [bytesRow_at s _ j hj]
    have h' : j < s.data.toList.length := by simpa using hj
    unfold bt
    rw [List.getD_eq_getElem?_getD, List.getElem?_eq_getElem h']
    rfl
  · exact (Below.refl _ w).drew.alloc (Nat.le_refl _) _
  · simp

theorem u8_of (x : Nat) (h : x < 256) : ((UInt8.ofNat x).toNat : Int) = x := by
  rw [UInt8.toNat_ofNat_of_lt' (by simpa using h)]

def strOf (l : List UInt8) : ByteArray := ⟨l.toArray⟩
theorem strOf_bt (c : UInt8) (l : List UInt8) : bt (strOf (c :: l)) 0 = c.toNat := rfl
theorem strOf_app (a b : List UInt8) : strOf a ++ strOf b = strOf (a ++ b) := by
  apply ByteArray.ext
  simp [strOf, ByteArray.data_append]
theorem strOf_size (l : List UInt8) : (strOf l).size = l.length := rfl

/-- A slice at place 0 of block b that holds a text, said once for a whole statement. -/
structure Held (w : World) (b cap : Nat) (s : ByteArray) : Prop where
  size : s.size ≤ maxLen
  fits : s.size ≤ cap
  cap : cap ≤ maxLen
  bytes : Bs w b 0 s
  lies : b < w.heap.size
theorem Held.below {w w' : World} {b cap : Nat} {s : ByteArray} (h : Held w b cap s) (hb : Below w.heap.size w w') : Held w' b cap s :=
  ⟨h.size, h.fits, h.cap, h.bytes.below hb h.lies, Nat.lt_of_lt_of_le h.lies hb.size⟩

/-- '[]byte(s)', once more: the slice is held. -/
theorem held_of (s : ByteArray) (w : World) (hs : s.size ≤ maxLen) :
    ∃ cap W, (convert 9 23 (.string s)).run Try.prog w = .ok (.slice (some ⟨w.heap.size, 0, none⟩) s.size cap) W ∧ Held W w.heap.size cap s ∧ Below w.heap.size w W := by
  obtain ⟨cap, W, h1, h2, h3, h4, h5, h6⟩ := bytes_of s w hs
  exact ⟨cap, W, h1, ⟨hs, h2, h3, h4, h6⟩, h5⟩

theorem strOfNums_text (t : ByteArray) : strOfNums (t.data.toList.map fun x => (x.toNat : Int)) = t := by
  cases t with
  | mk d =>
    have h : ∀ l : List UInt8, l.map ((fun n : Int => UInt8.ofNat n.toNat) ∘ fun x : UInt8 => (x.toNat : Int)) = l := by
      intro l
      induction l with
      | nil => rfl
      | cons a l ih => simp only [List.map_cons, ih]; simp
    simp only [strOfNums, List.map_map, h]

/-- 'string(b)' of cells that hold s. -/
theorem string_of (s : ByteArray) (w : World) (b off cap : Nat) (hb : Bs w b off s) :
    (convert 23 9 (.slice (some ⟨b, off, none⟩) s.size cap)).run Try.prog w = .ok (.string s) w := by
  have := run_convert_bytes_arg (P := Try.prog) w 23 5 Try.underlying23 Try.underlying5 b off s.size cap (s.data.toList.map fun x => (x.toNat : Int)) (by rw [List.length_map]; rfl)
    (fun i hi => by
      rw [hb i hi]
      unfold bt
      have h' : i < s.data.toList.length := by simpa using hi
      simp only [List.getD_eq_getElem?_getD, List.getElem?_map, List.getElem?_eq_getElem h', Option.map_some, Option.getD_some])
    9 Try.underlying9
  rwa [strOfNums_text] at this

theorem ret_two {a b c d : Int} (h : a = c) (h' : b = d) : Ending.returned (.tuple #[.int .i64 a, .int .i64 b]) = .returned (.tuple #[.int .i64 c, .int .i64 d]) := by rw [h, h']

theorem int_eq {a b : Int} (h : a = b) : Value.int .i64 a = .int .i64 b := by rw [h]

theorem ret_i {a b : Int} (h : b = a) : Ending.returned (.int .i64 a) = .returned (.int .i64 b) := by rw [h]


end Go.Proofs.Ytkgakgceamafcaa

namespace Go.Proofs.Ytkgakgceamafcaa
open Go Go.RowKit
set_option linter.unusedVariables false

/-- The cells of a row of bytes. -/
def bc (l : List UInt8) : List Value := l.map fun b => Value.int .u8 (b.toNat : Int)
theorem bc_len (l : List UInt8) : (bc l).length = l.length := by simp [bc]
theorem bc_one (l : List UInt8) : ∀ u ∈ bc l, u.oneCell' = true := by
  intro u hu; simp [bc] at hu; obtain ⟨b, _, rfl⟩ := hu; rfl

/-- A slice reads as a row of cells. -/
def Rd (w : World) (size : Nat) (a : Option Addr) (n : Nat) (xs : List Value) : Prop :=
  xs.length = n * size ∧ (0 < n → ∃ b off, a = some ⟨b, off, none⟩ ∧ b < w.heap.size ∧ ∀ j u, xs[j]? = some u → w.cell? ⟨b, off + j, none⟩ = some u)
theorem Rd.below {w w' : World} {size n : Nat} {a : Option Addr} {xs : List Value} (h : Rd w size a n xs) (hb : Below w.heap.size w w') : Rd w' size a n xs :=
  ⟨h.1, fun hn => by
    obtain ⟨b, off, e, hl, hc⟩ := h.2 hn
    exact ⟨b, off, e, Nat.lt_of_lt_of_le hl hb.size, fun j u hu => (hb.cell (p := ⟨b, off + j, none⟩) hl).trans (hc j u hu)⟩⟩

/-- What a call that makes memory, and turns arenas alone, leaves of older memory. -/
structure Turned (B : Nat) (w w' : World) : Prop where
  low : Below B w w'
  size : w.heap.size ≤ w'.heap.size
  rest : ∀ b, b < w.heap.size → (∀ cs, w.heap[b]? ≠ some (.cells cs 87 (0, 0))) → (∀ cs, w.heap[b]? ≠ some (.cells cs 5 (0, 0))) → w'.heap[b]? = w.heap[b]?
theorem Turned.of_below {B : Nat} {w w' : World} (h : Below w.heap.size w w') (hB : B ≤ w.heap.size) : Turned B w w' :=
  ⟨h.mono hB, h.size, fun b hb _ _ => h.block b hb⟩
theorem Turned.trans {B : Nat} {a b c : World} (h : Turned B a b) (k : Turned B b c) : Turned B a c :=
  ⟨h.low.trans k.low, Nat.le_trans h.size k.size, fun i hi h1 h2 => by
    have e := h.rest i hi h1 h2
    rw [← e]
    exact k.rest i (Nat.lt_of_lt_of_le hi h.size) (by rw [e]; exact h1) (by rw [e]; exact h2)⟩

/-- An arena's object at block p: the bytes l. -/
def Ar (w : World) (B p : Nat) (l : List UInt8) : Prop :=
  ∃ a c, B ≤ p ∧ w.heap[p]? = some (.cells #[.slice a l.length c] 87 (0, 0)) ∧ w.ownsRow B 5 1 (.slice a l.length c) l.length (bc l) ∧ l.length ≤ 16384

theorem cell_at {w : World} {p t : Nat} {cs : Array Value} {fr : Nat × Nat} (h : w.heap[p]? = some (.cells cs t fr)) (i : Nat) : w.cell? ⟨p, i, none⟩ = cs[i]? := cell_of_row w p i cs t fr h
theorem lt_of_heap {w : World} {p : Nat} {o : Obj} (h : w.heap[p]? = some o) : p < w.heap.size := by
  rcases Nat.lt_or_ge p w.heap.size with hlt | hge
  · exact hlt
  · rw [Array.getElem?_eq_none hge] at h; cases h
theorem unfrozen {w : World} {p : Nat} {t : TypeId} {cs : Array Value} (h : w.heap[p]? = some (.cells cs t (0, 0))) (i : Nat) : w.frozen? ⟨p, i, none⟩ = false := by
  simp [World.frozen?, h]

theorem Ar.below {w w' : World} {B p : Nat} {l : List UInt8} (h : Ar w B p l) (hb : Below w.heap.size w w') : Ar w' B p l := by
  obtain ⟨a, c, h1, h2, h3, h4⟩ := h
  refine ⟨a, c, h1, (hb.block p (lt_of_heap h2)).trans h2, ?_, h4⟩
  exact h3.kept (row := none) ⟨hb.os, hb.tape, hb.output, hb.size, fun k hk _ => hb.block k hk⟩ (by cases a <;> simp [Value.ownBlock])

/-- A contract of a call that reads an arena: what it is of, cell by cell. -/
theorem Ar.cell {w : World} {B p : Nat} {l : List UInt8} (h : Ar w B p l) : ∃ a c, w.cell? ⟨p, 0, none⟩ = some (.slice a l.length c) ∧ Rd w 1 a l.length (bc l) ∧ l.length ≤ c ∧ c ≤ maxLen ∧ p < w.heap.size := by
  obtain ⟨a, c, h1, h2, h3, h4⟩ := h
  have hp := lt_of_heap h2
  have hc : l.length ≤ c ∧ c ≤ maxLen := by
    rcases h3.2 with ⟨e, h0⟩ | ⟨g, cap, cur, e, _, _, h5, h6, _⟩
    · injection e with _ _ e2
      subst e2
      unfold maxLen
      omega
    · injection e with _ _ e2
      subst e2
      exact ⟨h5, h6⟩
  refine ⟨a, c, ?_, ⟨by rw [bc_len]; omega, fun hn => ?_⟩, hc.1, hc.2, hp⟩
  · rw [cell_at h2]; rfl
  · obtain ⟨g, cap, e, _, hlt⟩ := h3.form hn
    injection e with e1 _ e2
    subst e1
    refine ⟨g, 0, rfl, hlt, fun j u hu => ?_⟩
    have := h3.cells (g := g) rfl j u hu
    rwa [Addr.add_lit] at this

/-- Does a span lie within so many bytes? -/
def rightB (n : Nat) (at_ m : Int) : Bool := decide (0 ≤ at_ ∧ 0 ≤ m ∧ at_ ≤ n ∧ m ≤ n - at_)
theorem right_nil (at_ m : Int) (w : World) : Calls Try.prog 84 #[.pointer none, .agg #[.int .i64 at_, .int .i64 m]] w fun e w' => e = .returned (.bool false) ∧ Below w.heap.size w w' := by
  go_enter Try.func84, Try.ntmps84
  go_wp2_with fail
  go_ret
  exact ⟨rfl, (Below.refl _ _).alloc (Nat.le_refl _) _⟩

theorem below_draw1 {w w' : World} (h : Below w.heap.size w w') (n : Nat) : Below w.heap.size w (w'.drewN n) := ⟨h.os, h.tape, h.output, h.size, h.block⟩

set_option maxHeartbeats 800000 in
theorem right_of {w : World} {B p : Nat} {l : List UInt8} (h : Ar w B p l) (hl : l.length ≤ 16384) (at_ m : Int) : Calls Try.prog 84 #[.pointer (some ⟨p, 0, none⟩), .agg #[.int .i64 at_, .int .i64 m]] w fun e w' => e = .returned (.bool (rightB l.length at_ m)) ∧ Below w.heap.size w w' := by
  obtain ⟨a, c, hc, hr, h1, h2, hp⟩ := h.cell
  have HR := Lib.hid hr
  clear hr h
  have hk : (at_ < 0 ∧ rightB l.length at_ m = false) ∨ (0 ≤ at_ ∧ m < 0 ∧ rightB l.length at_ m = false) ∨ (0 ≤ at_ ∧ 0 ≤ m ∧ l.length < at_ ∧ rightB l.length at_ m = false) ∨ (0 ≤ at_ ∧ 0 ≤ m ∧ at_ ≤ l.length ∧ l.length - at_ < m ∧ rightB l.length at_ m = false) ∨ (0 ≤ at_ ∧ 0 ≤ m ∧ at_ ≤ l.length ∧ m ≤ l.length - at_ ∧ rightB l.length at_ m = true) := by
    unfold rightB; simp only [decide_eq_false_iff_not, decide_eq_true_eq]; omega
  have hcc : (w.alloc (.cells #[.int .i64 at_, .int .i64 m] 91)).cell? ⟨p, 0, none⟩ = some (.slice a l.length c) := by rw [World.cell?_alloc_lt _ _ _ hp]; exact hc
  rcases hk with ⟨k1, k⟩ | ⟨k1, k2, k⟩ | ⟨k1, k2, k3, k⟩ | ⟨k1, k2, k3, k4, k⟩ | ⟨k1, k2, k3, k4, k⟩
  · have HK := Lib.hid k
    clear k
    have d1 : decide (at_ < 0) = true := decide_eq_true k1
    go_enter Try.func84, Try.ntmps84
    go_wp2_with fail
    go_ret
    exact ⟨by rw [HK.out] <;> rfl, (Below.refl _ _).alloc (Nat.le_refl _) _⟩
  · have HK := Lib.hid k
    clear k
    have d1 : decide (at_ < 0) = false := decide_eq_false (by omega)
    have d2 : decide (m < 0) = true := decide_eq_true k2
    go_enter Try.func84, Try.ntmps84
    go_wp2_with fail
    go_ret
    exact ⟨by rw [HK.out] <;> rfl, (Below.refl _ _).alloc (Nat.le_refl _) _⟩
  · have HK := Lib.hid k
    clear k
    have d1 : decide (at_ < 0) = false := decide_eq_false (by omega)
    have d2 : decide (m < 0) = false := decide_eq_false (by omega)
    have d3 : decide (at_ ≤ (l.length : Int)) = false := decide_eq_false (by omega)
    go_enter Try.func84, Try.ntmps84
    go_wp2_with fail
    go_quiet (fail)
    go_wp2_with fail
    go_ret
    exact ⟨by rw [HK.out] <;> rfl, below_draw1 ((Below.refl _ _).alloc (Nat.le_refl _) _) _⟩
  · have HK := Lib.hid k
    clear k
    have d1 : decide (at_ < 0) = false := decide_eq_false (by omega)
    have d2 : decide (m < 0) = false := decide_eq_false (by omega)
    have d3 : decide (at_ ≤ (l.length : Int)) = true := decide_eq_true (by omega)
    have d4 : decide (m ≤ (l.length : Int) - at_) = false := decide_eq_false (by omega)
    go_enter Try.func84, Try.ntmps84
    go_wp2_with fail
    go_quiet (fail)
    go_wp2_with fail
    go_ret
    exact ⟨by rw [HK.out] <;> rfl, below_draw1 ((Below.refl _ _).alloc (Nat.le_refl _) _) _⟩
  · have HK := Lib.hid k
    clear k
    have d1 : decide (at_ < 0) = false := decide_eq_false (by omega)
    have d2 : decide (m < 0) = false := decide_eq_false (by omega)
    have d3 : decide (at_ ≤ (l.length : Int)) = true := decide_eq_true (by omega)
    have d4 : decide (m ≤ (l.length : Int) - at_) = true := decide_eq_true (by omega)
    go_enter Try.func84, Try.ntmps84
    go_wp2_with fail
    go_quiet (fail)
    go_wp2_with fail
    go_ret
    exact ⟨by rw [HK.out] <;> rfl, below_draw1 ((Below.refl _ _).alloc (Nat.le_refl _) _) _⟩

end Go.Proofs.Ytkgakgceamafcaa
