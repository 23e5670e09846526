/-
  Texts of this seat, put together (a claim holds few texts): Base, ArA, ArB, ArC.
-/
import Derived.Test.YtkgakgceamafcaaGreatRows
import Derived.WalkKit
import Derived.WalkSpells
import Derived.OwnWalk
import Derived.Outline
import Derived.Below
import Derived.Lib.Hide
import Derived.WalkSmall
import Derived.WalkMore
import Derived.LoopTactic
import Derived.BigQuiet
import Derived.Deep.QuietTactic
import Derived.Lib.SlBytesConst
import Derived.Laws.IdiomStrings
import Derived.Laws.BytesArg
import Derived.Laws.AppendOwn
import Derived.Deep.RegionWith
import Derived.Deep.Draws
import Derived.Laws.OwnMore
import Derived.Deep.AppendLies
import Derived.Deep.Onto
import Derived.Laws.CopyOwn
import Derived.Deep.RegionLaw

namespace Go.Proofs.YtkgakgceamafcaaGreat
open Go Go.RowKit
set_option linter.unusedVariables false

/-- A byte of a text; beyond its end 0. -/
def bt (s : ByteArray) (i : Nat) : Int := ((s.data.toList.getD i 0).toNat : Int)
theorem bt_lo (s : ByteArray) (i : Nat) : 0 ≤ bt s i := by unfold bt; omega
theorem bt_hi (s : ByteArray) (i : Nat) : bt s i < 256 := by unfold bt; have := (s.data.toList.getD i 0).toNat_lt; omega
theorem bt_get (s : ByteArray) (i : Nat) (h : i < s.size) : ((s[i]'h).toNat : Int) = bt s i := by
  unfold bt
  have h' : i < s.data.toList.length := by simpa using h
  rw [List.getD_eq_getElem?_getD, List.getElem?_eq_getElem h']
  rfl

/-- The cells at place off of block b hold the text s. -/
def Bs (w : World) (b off : Nat) (s : ByteArray) : Prop := ∀ j, j < s.size → w.cell? ⟨b, off + j, none⟩ = some (.int .u8 (bt s j))
theorem Bs.drewN {w : World} {b off : Nat} {s : ByteArray} (h : Bs w b off s) (n : Nat) : Bs (w.drewN n) b off s := fun j hj => by simpa using h j hj

theorem Below.draws (w : World) (n : Nat) : Below w.heap.size w (w.drewN n) := ⟨rfl, rfl, rfl, Nat.le_refl _, fun _ _ => rfl⟩
theorem Bs.below {w w' : World} {b off : Nat} {s : ByteArray} (h : Bs w b off s) (hb : Below w.heap.size w w') (hl : b < w.heap.size) : Bs w' b off s := fun j hj => by
  rw [hb.cell (p := ⟨b, off + j, none⟩) hl]; exact h j hj
theorem Bs.alloc {w : World} {b off : Nat} {s : ByteArray} (h : Bs w b off s) (o : Obj) (hl : b < w.heap.size) : Bs (w.alloc o) b off s := fun j hj => by
  rw [World.cell?_alloc_lt w o ⟨b, off + j, none⟩ hl]; exact h j hj
theorem conv_at (w : World) (C : Array Value) (n c k : Nat) (hk : k = w.heap.size) :
    (convert 32 32 (.slice (some ⟨k, 0, none⟩) n c)).run Tryz.prog (w.alloc (.cells C 5)) = .ok (.slice (some ⟨k, 0, none⟩) n c) (w.alloc (.cells C 5 (C.size, C.size + 1))) := by
  subst hk
  exact Lib.run_convert_bytes_const w 32 5 C n c Tryz.underlying32 Tryz.underlying5

/-- A new block of cells that hold a text. -/
theorem bs_new (w : World) (C : Array Value) (t : TypeId) (fr : Nat × Nat) (k : Nat) (hk : k = w.heap.size) (s : ByteArray) (h : ∀ j, j < s.size → C[j]? = some (.int .u8 (bt s j))) : Bs (w.alloc (.cells C t fr)) k 0 s := by
  intro j hj
  subst hk
  rw [Nat.zero_add, World.cell?_alloc_mark]
  exact h j hj

/-- The cells of a text. -/
def cellsOf (s : ByteArray) : Array Value := (s.data.toList.map fun b => Value.int .u8 (b.toNat : Int)).toArray
theorem cellsOf_get (s : ByteArray) (j : Nat) (hj : j < s.size) : (cellsOf s)[j]? = some (.int .u8 (bt s j)) := by
  have h' : j < s.data.toList.length := by simpa using hj
  unfold cellsOf bt
  rw [List.getElem?_toArray, List.getElem?_map, List.getD_eq_getElem?_getD, List.getElem?_eq_getElem h']
  rfl
theorem bs_lit (w : World) (C : Array Value) (t : TypeId) (fr : Nat × Nat) (k : Nat) (hk : k = w.heap.size) (s : ByteArray) (h : C = cellsOf s) : Bs (w.alloc (.cells C t fr)) k 0 s :=
  bs_new w C t fr k hk s (by subst h; exact cellsOf_get s)

theorem Tbound (s : ByteArray) : s.data.toList.length = s.size := rfl

/-- '[]byte(s)': a slice of new memory, of whatever capacity, that holds s. -/
theorem bytes_of (s : ByteArray) (w : World) (hs : s.size ≤ maxLen) :
    ∃ cap W, (convert 9 32 (.string s)).run Tryz.prog w = .ok (.slice (some ⟨w.heap.size, 0, none⟩) s.size cap) W ∧ s.size ≤ cap ∧ cap ≤ maxLen ∧ Bs W w.heap.size 0 s ∧ Below w.heap.size w W ∧ w.heap.size < W.heap.size := by
  refine ⟨_, _, run_bytes_of_string w 9 32 5 s Tryz.underlying9 Tryz.underlying32 Tryz.underlying5, grownCap_ge _ _ _ _, grownCap_le_maxLen _ _ _ _ hs, ?_, ?_, ?_⟩
  · refine bs_new w.drew _ _ _ _ rfl s fun j hj => ?_
    rw [bytesRow_at s _ j hj]
    have h' : j < s.data.toList.length := by simpa using hj
    unfold bt
    rw [List.getD_eq_getElem?_getD, List.getElem?_eq_getElem h']
    rfl
  · exact (Below.refl _ w).drew.alloc (Nat.le_refl _) _
  · simp

theorem u8_of (x : Nat) (h : x < 256) : ((UInt8.ofNat x).toNat : Int) = x := by
  rw [UInt8.toNat_ofNat_of_lt' (by simpa using h)]

def strOf (l : List UInt8) : ByteArray := ⟨l.toArray⟩
theorem strOf_bt (c : UInt8) (l : List UInt8) : bt (strOf (c :: l)) 0 = c.toNat := rfl
theorem strOf_app (a b : List UInt8) : strOf a ++ strOf b = strOf (a ++ b) := by
  apply ByteArray.ext
  simp [strOf, ByteArray.data_append]
theorem strOf_size (l : List UInt8) : (strOf l).size = l.length := rfl

/-- A slice at place 0 of block b that holds a text, said once for a whole statement. -/
structure Held (w : World) (b cap : Nat) (s : ByteArray) : Prop where
  size : s.size ≤ maxLen
  fits : s.size ≤ cap
  cap : cap ≤ maxLen
  bytes : Bs w b 0 s
  lies : b < w.heap.size
theorem Held.below {w w' : World} {b cap : Nat} {s : ByteArray} (h : Held w b cap s) (hb : Below w.heap.size w w') : Held w' b cap s :=
  ⟨h.size, h.fits, h.cap, h.bytes.below hb h.lies, Nat.lt_of_lt_of_le h.lies hb.size⟩

/-- '[]byte(s)', once more: the slice is held. -/
theorem held_of (s : ByteArray) (w : World) (hs : s.size ≤ maxLen) :
    ∃ cap W, (convert 9 32 (.string s)).run Tryz.prog w = .ok (.slice (some ⟨w.heap.size, 0, none⟩) s.size cap) W ∧ Held W w.heap.size cap s ∧ Below w.heap.size w W := by
  obtain ⟨cap, W, h1, h2, h3, h4, h5, h6⟩ := bytes_of s w hs
  exact ⟨cap, W, h1, ⟨hs, h2, h3, h4, h6⟩, h5⟩

theorem strOfNums_text (t : ByteArray) : strOfNums (t.data.toList.map fun x => (x.toNat : Int)) = t := by
  cases t with
  | mk d =>
    have h : ∀ l : List UInt8, l.map ((fun n : Int => UInt8.ofNat n.toNat) ∘ fun x : UInt8 => (x.toNat : Int)) = l := by
      intro l
      induction l with
      | nil => rfl
      | cons a l ih => simp only [List.map_cons, ih]; simp
    simp only [strOfNums, List.map_map, h]

/-- 'string(b)' of cells that hold s. -/
theorem string_of (s : ByteArray) (w : World) (b off cap : Nat) (hb : Bs w b off s) :
    (convert 32 9 (.slice (some ⟨b, off, none⟩) s.size cap)).run Tryz.prog w = .ok (.string s) w := by
  have := run_convert_bytes_arg (P := Tryz.prog) w 32 5 Tryz.underlying32 Tryz.underlying5 b off s.size cap (s.data.toList.map fun x => (x.toNat : Int)) (by rw [List.length_map]; rfl)
    (fun i hi => by
      rw [hb i hi]
      unfold bt
      have h' : i < s.data.toList.length := by simpa using hi
      simp only [List.getD_eq_getElem?_getD, List.getElem?_map, List.getElem?_eq_getElem h', Option.map_some, Option.getD_some])
    9 Tryz.underlying9
  rwa [strOfNums_text] at this

theorem ret_two {a b c d : Int} (h : a = c) (h' : b = d) : Ending.returned (.tuple #[.int .i64 a, .int .i64 b]) = .returned (.tuple #[.int .i64 c, .int .i64 d]) := by rw [h, h']

theorem int_eq {a b : Int} (h : a = b) : Value.int .i64 a = .int .i64 b := by rw [h]

theorem ret_i {a b : Int} (h : b = a) : Ending.returned (.int .i64 a) = .returned (.int .i64 b) := by rw [h]


end Go.Proofs.YtkgakgceamafcaaGreat

namespace Go.Proofs.YtkgakgceamafcaaGreat
open Go Go.RowKit
set_option linter.unusedVariables false

/-- The cells of a row of bytes. -/
def bc (l : List UInt8) : List Value := l.map fun b => Value.int .u8 (b.toNat : Int)
theorem bc_len (l : List UInt8) : (bc l).length = l.length := by simp [bc]
theorem bc_one (l : List UInt8) : ∀ u ∈ bc l, u.oneCell' = true := by
  intro u hu; simp [bc] at hu; obtain ⟨b, _, rfl⟩ := hu; rfl

/-- A slice reads as a row of cells. -/
def Rd (w : World) (size : Nat) (a : Option Addr) (n : Nat) (xs : List Value) : Prop :=
  xs.length = n * size ∧ (0 < n → ∃ b off, a = some ⟨b, off, none⟩ ∧ b < w.heap.size ∧ ∀ j u, xs[j]? = some u → w.cell? ⟨b, off + j, none⟩ = some u)
theorem Rd.below {w w' : World} {size n : Nat} {a : Option Addr} {xs : List Value} (h : Rd w size a n xs) (hb : Below w.heap.size w w') : Rd w' size a n xs :=
  ⟨h.1, fun hn => by
    obtain ⟨b, off, e, hl, hc⟩ := h.2 hn
    exact ⟨b, off, e, Nat.lt_of_lt_of_le hl hb.size, fun j u hu => (hb.cell (p := ⟨b, off + j, none⟩) hl).trans (hc j u hu)⟩⟩

/-- What a call that makes memory, and turns arenas alone, leaves of older memory. -/
structure Turned (B : Nat) (w w' : World) : Prop where
  low : Below B w w'
  size : w.heap.size ≤ w'.heap.size
  rest : ∀ b, b < w.heap.size → (∀ cs, w.heap[b]? ≠ some (.cells cs 124 (0, 0))) → (∀ cs, w.heap[b]? ≠ some (.cells cs 5 (0, 0))) → w'.heap[b]? = w.heap[b]?
theorem Turned.of_below {B : Nat} {w w' : World} (h : Below w.heap.size w w') (hB : B ≤ w.heap.size) : Turned B w w' :=
  ⟨h.mono hB, h.size, fun b hb _ _ => h.block b hb⟩
theorem Turned.trans {B : Nat} {a b c : World} (h : Turned B a b) (k : Turned B b c) : Turned B a c :=
  ⟨h.low.trans k.low, Nat.le_trans h.size k.size, fun i hi h1 h2 => by
    have e := h.rest i hi h1 h2
    rw [← e]
    exact k.rest i (Nat.lt_of_lt_of_le hi h.size) (by rw [e]; exact h1) (by rw [e]; exact h2)⟩

/-- An arena's object at block p: the bytes l. -/
def Ar (w : World) (B p : Nat) (l : List UInt8) : Prop :=
  ∃ a c, B ≤ p ∧ w.heap[p]? = some (.cells #[.slice a l.length c] 124 (0, 0)) ∧ w.ownsRow B 5 1 (.slice a l.length c) l.length (bc l) ∧ l.length ≤ 16384

theorem cell_at {w : World} {p t : Nat} {cs : Array Value} {fr : Nat × Nat} (h : w.heap[p]? = some (.cells cs t fr)) (i : Nat) : w.cell? ⟨p, i, none⟩ = cs[i]? := cell_of_row w p i cs t fr h
theorem lt_of_heap {w : World} {p : Nat} {o : Obj} (h : w.heap[p]? = some o) : p < w.heap.size := by
  rcases Nat.lt_or_ge p w.heap.size with hlt | hge
  · exact hlt
  · rw [Array.getElem?_eq_none hge] at h; cases h
theorem unfrozen {w : World} {p : Nat} {t : TypeId} {cs : Array Value} (h : w.heap[p]? = some (.cells cs t (0, 0))) (i : Nat) : w.frozen? ⟨p, i, none⟩ = false := by
  simp [World.frozen?, h]

theorem Ar.below {w w' : World} {B p : Nat} {l : List UInt8} (h : Ar w B p l) (hb : Below w.heap.size w w') : Ar w' B p l := by
  obtain ⟨a, c, h1, h2, h3, h4⟩ := h
  refine ⟨a, c, h1, (hb.block p (lt_of_heap h2)).trans h2, ?_, h4⟩
  exact h3.kept (row := none) ⟨hb.os, hb.tape, hb.output, hb.size, fun k hk _ => hb.block k hk⟩ (by cases a <;> simp [Value.ownBlock])

/-- A contract of a call that reads an arena: what it is of, cell by cell. -/
theorem Ar.cell {w : World} {B p : Nat} {l : List UInt8} (h : Ar w B p l) : ∃ a c, w.cell? ⟨p, 0, none⟩ = some (.slice a l.length c) ∧ Rd w 1 a l.length (bc l) ∧ l.length ≤ c ∧ c ≤ maxLen ∧ p < w.heap.size := by
  obtain ⟨a, c, h1, h2, h3, h4⟩ := h
  have hp := lt_of_heap h2
  have hc : l.length ≤ c ∧ c ≤ maxLen := by
    rcases h3.2 with ⟨e, h0⟩ | ⟨g, cap, cur, e, _, _, h5, h6, _⟩
    · injection e with _ _ e2
      subst e2
      unfold maxLen
      omega
    · injection e with _ _ e2
      subst e2
      exact ⟨h5, h6⟩
  refine ⟨a, c, ?_, ⟨by rw [bc_len]; omega, fun hn => ?_⟩, hc.1, hc.2, hp⟩
  · rw [cell_at h2]; rfl
  · obtain ⟨g, cap, e, _, hlt⟩ := h3.form hn
    injection e with e1 _ e2
    subst e1
    refine ⟨g, 0, rfl, hlt, fun j u hu => ?_⟩
    have := h3.cells (g := g) rfl j u hu
    rwa [Addr.add_lit] at this

theorem len_nil (w : World) : Calls Tryz.prog 14 #[.pointer none] w fun e w' => e = .returned (.int .i64 0) ∧ w = w' := by
  go_enter Tryz.func14, Tryz.ntmps14
  go_wp2_with fail
  go_ret
  exact ⟨rfl, rfl⟩
theorem len_of {w : World} {B p : Nat} {l : List UInt8} (h : Ar w B p l) : Calls Tryz.prog 14 #[.pointer (some ⟨p, 0, none⟩)] w fun e w' => e = .returned (.int .i64 l.length) ∧ w = w' := by
  obtain ⟨a, c, hc, hr, h1, h2, hp⟩ := h.cell
  have HR := Lib.hid hr
  clear hr h
  go_enter Tryz.func14, Tryz.ntmps14
  go_wp2_with fail
  go_ret
  exact ⟨rfl, rfl⟩
theorem room_nil (w : World) : Calls Tryz.prog 216 #[.pointer none] w fun e w' => e = .returned (.int .i64 0) ∧ w = w' := by
  go_enter Tryz.func216, Tryz.ntmps216
  go_wp2_with fail
  go_ret
  exact ⟨rfl, rfl⟩
theorem room_of {w : World} {B p : Nat} {l : List UInt8} (h : Ar w B p l) (hl : l.length ≤ 16384) : Calls Tryz.prog 216 #[.pointer (some ⟨p, 0, none⟩)] w fun e w' => e = .returned (.int .i64 (16384 - l.length)) ∧ w = w' := by
  obtain ⟨a, c, hc, hr, h1, h2, hp⟩ := h.cell
  have HR := Lib.hid hr
  clear hr h
  go_enter Tryz.func216, Tryz.ntmps216
  go_wp2_with fail
  go_ret
  exact ⟨rfl, rfl⟩

/-- Does a span lie within so many bytes? -/
def rightB (n : Nat) (at_ m : Int) : Bool := decide (0 ≤ at_ ∧ 0 ≤ m ∧ at_ ≤ n ∧ m ≤ n - at_)
theorem right_nil (at_ m : Int) (w : World) : Calls Tryz.prog 126 #[.pointer none, .agg #[.int .i64 at_, .int .i64 m]] w fun e w' => e = .returned (.bool false) ∧ Below w.heap.size w w' := by
  go_enter Tryz.func126, Tryz.ntmps126
  go_wp2_with fail
  go_ret
  exact ⟨rfl, (Below.refl _ _).alloc (Nat.le_refl _) _⟩

theorem below_draw1 {w w' : World} (h : Below w.heap.size w w') (n : Nat) : Below w.heap.size w (w'.drewN n) := ⟨h.os, h.tape, h.output, h.size, h.block⟩

set_option maxHeartbeats 800000 in
theorem right_of {w : World} {B p : Nat} {l : List UInt8} (h : Ar w B p l) (hl : l.length ≤ 16384) (at_ m : Int) : Calls Tryz.prog 126 #[.pointer (some ⟨p, 0, none⟩), .agg #[.int .i64 at_, .int .i64 m]] w fun e w' => e = .returned (.bool (rightB l.length at_ m)) ∧ Below w.heap.size w w' := by
  obtain ⟨a, c, hc, hr, h1, h2, hp⟩ := h.cell
  have HR := Lib.hid hr
  clear hr h
  have hk : (at_ < 0 ∧ rightB l.length at_ m = false) ∨ (0 ≤ at_ ∧ m < 0 ∧ rightB l.length at_ m = false) ∨ (0 ≤ at_ ∧ 0 ≤ m ∧ l.length < at_ ∧ rightB l.length at_ m = false) ∨ (0 ≤ at_ ∧ 0 ≤ m ∧ at_ ≤ l.length ∧ l.length - at_ < m ∧ rightB l.length at_ m = false) ∨ (0 ≤ at_ ∧ 0 ≤ m ∧ at_ ≤ l.length ∧ m ≤ l.length - at_ ∧ rightB l.length at_ m = true) := by
    unfold rightB; simp only [decide_eq_false_iff_not, decide_eq_true_eq]; omega
  have hcc : (w.alloc (.cells #[.int .i64 at_, .int .i64 m] 59)).cell? ⟨p, 0, none⟩ = some (.slice a l.length c) := by rw [World.cell?_alloc_lt _ _ _ hp]; exact hc
  rcases hk with ⟨k1, k⟩ | ⟨k1, k2, k⟩ | ⟨k1, k2, k3, k⟩ | ⟨k1, k2, k3, k4, k⟩ | ⟨k1, k2, k3, k4, k⟩
  · have HK := Lib.hid k
    clear k
    have d1 : decide (at_ < 0) = true := decide_eq_true k1
    go_enter Tryz.func126, Tryz.ntmps126
    go_wp2_with fail
    go_ret
    exact ⟨by rw [HK.out] <;> rfl, (Below.refl _ _).alloc (Nat.le_refl _) _⟩
  · have HK := Lib.hid k
    clear k
    have d1 : decide (at_ < 0) = false := decide_eq_false (by omega)
    have d2 : decide (m < 0) = true := decide_eq_true k2
    go_enter Tryz.func126, Tryz.ntmps126
    go_wp2_with fail
    go_ret
    exact ⟨by rw [HK.out] <;> rfl, (Below.refl _ _).alloc (Nat.le_refl _) _⟩
  · have HK := Lib.hid k
    clear k
    have d1 : decide (at_ < 0) = false := decide_eq_false (by omega)
    have d2 : decide (m < 0) = false := decide_eq_false (by omega)
    have d3 : decide (at_ ≤ (l.length : Int)) = false := decide_eq_false (by omega)
    go_enter Tryz.func126, Tryz.ntmps126
    go_wp2_with fail
    go_quiet (fail)
    go_wp2_with fail
    go_ret
    exact ⟨by rw [HK.out] <;> rfl, below_draw1 ((Below.refl _ _).alloc (Nat.le_refl _) _) _⟩
  · have HK := Lib.hid k
    clear k
    have d1 : decide (at_ < 0) = false := decide_eq_false (by omega)
    have d2 : decide (m < 0) = false := decide_eq_false (by omega)
    have d3 : decide (at_ ≤ (l.length : Int)) = true := decide_eq_true (by omega)
    have d4 : decide (m ≤ (l.length : Int) - at_) = false := decide_eq_false (by omega)
    go_enter Tryz.func126, Tryz.ntmps126
    go_wp2_with fail
    go_quiet (fail)
    go_wp2_with fail
    go_ret
    exact ⟨by rw [HK.out] <;> rfl, below_draw1 ((Below.refl _ _).alloc (Nat.le_refl _) _) _⟩
  · have HK := Lib.hid k
    clear k
    have d1 : decide (at_ < 0) = false := decide_eq_false (by omega)
    have d2 : decide (m < 0) = false := decide_eq_false (by omega)
    have d3 : decide (at_ ≤ (l.length : Int)) = true := decide_eq_true (by omega)
    have d4 : decide (m ≤ (l.length : Int) - at_) = true := decide_eq_true (by omega)
    go_enter Tryz.func126, Tryz.ntmps126
    go_wp2_with fail
    go_quiet (fail)
    go_wp2_with fail
    go_ret
    exact ⟨by rw [HK.out] <;> rfl, below_draw1 ((Below.refl _ _).alloc (Nat.le_refl _) _) _⟩

end Go.Proofs.YtkgakgceamafcaaGreat

namespace Go.Proofs.YtkgakgceamafcaaGreat
open Go Go.RowKit
set_option linter.unusedVariables false

theorem info_u8 : (Tryz.prog.info? 5).map (fun i => (i.zero, i.size, i.bytes)) = some (some (.int .u8 0), 1, 1) := by kernel_rfl

/-- The bytes of a span; none, if it does not lie within. -/
def subL (l : List UInt8) (at_ m : Int) : List UInt8 := if rightB l.length at_ m = true then (l.drop at_.toNat).take m.toNat else []
theorem subL_len (l : List UInt8) (i k : Nat) (h : i + k ≤ l.length) : (subL l i k).length = k := by
  unfold subL rightB
  rw [if_pos (by simp; omega)]; simp; omega

/-- What Bytes hands back. -/
def BytesPost (l : List UInt8) (w : World) (e : Ending) (w' : World) : Prop :=
  ∃ a c, e = .returned (.slice a l.length c) ∧ w'.ownsRow w.heap.size 5 1 (.slice a l.length c) l.length (bc l) ∧ Below w.heap.size w w'

theorem bytes_nil (at_ m : Int) (w : World) : Calls Tryz.prog 67 #[.pointer none, .agg #[.int .i64 at_, .int .i64 m]] w (BytesPost [] w) := by
  have HC := Lib.hid (fun w => right_nil at_ m w)
  go_enter Tryz.func67, Tryz.ntmps67
  go_wp2_with fail
  refine (HC.out _).mono ?_; rintro e w1 ⟨rfl, hb⟩
  have HB := Lib.hid hb
  clear hb HC
  go_wp2_with fail
  go_ret
  exact ⟨none, 0, rfl, ⟨by simp [bc], .inl ⟨rfl, rfl⟩⟩, ((Below.refl _ w).alloc (Nat.le_refl _) _).trans (HB.out.mono (by simp))⟩

set_option maxHeartbeats 800000 in
theorem bytes_no {w : World} {B p : Nat} {l : List UInt8} (h : Ar w B p l) (hl : l.length ≤ 16384) (at_ m : Int) (hn : rightB l.length at_ m = false) : Calls Tryz.prog 67 #[.pointer (some ⟨p, 0, none⟩), .agg #[.int .i64 at_, .int .i64 m]] w (BytesPost [] w) := by
  have h' : Ar (w.alloc (.cells #[.int .i64 at_, .int .i64 m] 59)) B p l := h.below ((Below.refl _ w).alloc (Nat.le_refl _) _)
  have hc := right_of h' hl at_ m
  rw [hn] at hc
  have HC := Lib.hid hc
  clear hc h' h hn
  go_enter Tryz.func67, Tryz.ntmps67
  go_wp2_with fail
  refine HC.out.mono ?_; rintro e w1 ⟨rfl, hb⟩
  have HB := Lib.hid hb
  clear hb HC
  go_wp2_with fail
  go_ret
  exact ⟨none, 0, rfl, ⟨by simp [bc], .inl ⟨rfl, rfl⟩⟩, ((Below.refl _ w).alloc (Nat.le_refl _) _).trans (HB.out.mono (by simp))⟩

theorem below_grown {w w1 w2 : World} {W : World} {row : Option Nat} (h : Below W.heap.size W w1) (g : w1.grownBy w2 none) : Below W.heap.size W w2 :=
  h.grown g h.size (by simp)

set_option maxHeartbeats 1600000 in
theorem bytes_yes {w : World} {B p : Nat} {l : List UInt8} (h : Ar w B p l) (hl : l.length ≤ 16384) (i k : Nat) (hik : i + k ≤ l.length) : Calls Tryz.prog 67 #[.pointer (some ⟨p, 0, none⟩), .agg #[.int .i64 i, .int .i64 k]] w (BytesPost ((l.drop i).take k) w) := by
  obtain ⟨i0, hi0, hz0, hz1, hz2⟩ := info_parts info_u8
  have h' : Ar (w.alloc (.cells #[.int .i64 i, .int .i64 k] 59)) B p l := h.below ((Below.refl _ w).alloc (Nat.le_refl _) _)
  have hc := right_of h' hl i k
  rw [show rightB l.length i k = true by unfold rightB; simp; omega] at hc
  have HC := Lib.hid hc
  clear hc
  obtain ⟨a, c, hc, hr, hl1, hl2, hp⟩ := h'.cell
  have hlen : ((l.drop i).take k).length = k := by simp; omega
  generalize hw0 : w.alloc (.cells #[.int .i64 i, .int .i64 k] 59) = w0 at *
  have hb0 : Below w.heap.size w w0 := by rw [← hw0]; exact (Below.refl _ w).alloc (Nat.le_refl _) _
  have hs0 : w.heap.size < w0.heap.size := by rw [← hw0]; simp
  have hsp0 : w0.cell? ⟨w.heap.size, 0, none⟩ = some (.int .i64 i) := by rw [← hw0]; simp
  have hsp1 : w0.cell? ⟨w.heap.size, 1, none⟩ = some (.int .i64 k) := by rw [← hw0]; simp
  have HW := Lib.hid hw0
  obtain ⟨sp, hsp⟩ : ∃ sp, (if c = i then a else a.map (·.add i)) = sp := ⟨_, rfl⟩
  have hspc : 0 < k → ∃ ad, sp = some ad ∧ ∀ j v, (bc ((l.drop i).take k))[j]? = some v → w0.cell? (ad.add j) = some v := by
    intro hk
    obtain ⟨b, off, rfl, hb, hcl⟩ := hr.2 (by omega)
    rw [if_neg (by unfold maxLen at hl2; omega)] at hsp
    refine ⟨⟨b, off + i, none⟩, by rw [← hsp]; simp [Addr.add_lit], fun j v hj => ?_⟩
    rw [Addr.add_lit, Nat.add_assoc]
    refine hcl (i + j) v ?_
    unfold bc at hj ⊢
    rw [List.getElem?_map, List.getElem?_take] at hj
    rw [List.getElem?_map]
    split at hj
    · rw [List.getElem?_drop] at hj; exact hj
    · simp at hj
  have HSP := Lib.hid hspc
  have HSE := Lib.hid hsp
  clear hspc h h' hr
  go_enter Tryz.func67, Tryz.ntmps67
  go_wp2_with fail
  clear hw0
  refine HC.out.mono ?_; rintro e w1 ⟨rfl, hb⟩
  have hsp01 : w1.cell? ⟨w.heap.size, 0, none⟩ = some (.int .i64 i) := by rw [hb.cell (p := ⟨w.heap.size, 0, none⟩) hs0]; exact hsp0
  have hsp11 : w1.cell? ⟨w.heap.size, 1, none⟩ = some (.int .i64 k) := by rw [hb.cell (p := ⟨w.heap.size, 1, none⟩) hs0]; exact hsp1
  have hc1 : w1.cell? ⟨p, 0, none⟩ = some (.slice a l.length c) := by rw [hb.cell (p := ⟨p, 0, none⟩) hp]; exact hc
  have hz1' := hb.size
  have HB1 := Lib.hid (hb0.trans (hb.mono hb0.size))
  have HBB := Lib.hid hb
  clear hb hc hsp0 hsp1
  go_wp2_with (at_make; refine wpList_make_full _ rfl _ _ 32 rfl w.heap.size 5 i0 (.int .u8 0) 1 Tryz.underlying32 hi0 hz0 hz1 .i64 .i64 _ _ k rfl rfl rfl rfl ?b2 ?b3 ?b4 ?_)
  case b2 => rw [hz2]; omega
  case b3 => unfold maxLen; omega
  case b4 => omega
  intro w2 hown hgrow
  have hb2 : Below w1.heap.size w1 w2 := (Below.refl _ _).grown hgrow (Nat.le_refl _) (by simp)
  have hg2 : w1.heap.size < w2.heap.size := (hown.lt _ rfl).2
  obtain ⟨cur, hcur, hcs⟩ : ∃ cur : Array Value, w2.heap[w1.heap.size]? = some (.cells cur 5 (0, 0)) ∧ cur.size = k := by
    rcases hown.2 with ⟨e, _⟩ | ⟨g, cap, cur, e, _, h3, _, _, h6, _⟩
    · cases e
    · injection e with e1 _ e2
      injection e1 with e1
      injection e1 with e1
      subst e1 e2
      exact ⟨cur, h3, by omega⟩
  have hsp02 : w2.cell? ⟨w.heap.size, 0, none⟩ = some (.int .i64 i) := by rw [hb2.cell (p := ⟨w.heap.size, 0, none⟩) (by simp; omega)]; exact hsp01
  have hc2 : w2.cell? ⟨p, 0, none⟩ = some (.slice a l.length c) := by rw [hb2.cell (p := ⟨p, 0, none⟩) (by simp; omega)]; exact hc1
  have HS2 : Hid (0 < ((bc ((l.drop i).take k)).length) → ∃ ad, sp = some ad ∧ ∀ j v, (bc ((l.drop i).take k))[j]? = some v → w2.drew.cell? (ad.add j) = some v) := by
    intro hk
    rw [bc_len, hlen] at hk
    obtain ⟨ad, e, hcl⟩ := HSP.out hk
    refine ⟨ad, e, fun j v hj => ?_⟩
    have h0 := hcl j v hj
    have hlt := World.block_lt_of_cell? w0 _ h0
    exact (hb2.cell (p := ad.add j) (by omega)).trans ((HBB.out.cell (p := ad.add j) hlt).trans h0)
  have HG2 : Hid (w2.drew.heap[w1.heap.size]? = some (.cells cur.toList.toArray 5 (0, 0))) := by show w2.heap[w1.heap.size]? = _; simpa using hcur
  have HB2 := Lib.hid ((HB1.out.trans (hb2.mono HB1.out.size)).drew)
  have HN : Hid ((bc ((l.drop i).take k)).length = Nat.min (l.length - i) k) := by
    show _ = min _ _
    rw [bc_len, hlen]; omega
  have HF : Hid (0 + (bc ((l.drop i).take k)).length ≤ cur.toList.length) := by
    show _ ≤ _
    rw [bc_len, hlen]; simp [hcs]
  have HO := Lib.hid (bc_one ((l.drop i).take k))
  have HC2 := Lib.hid hcs
  have HL := Lib.hid hlen
  have hu8 : (Tryz.prog.info? 5).map (·.size) = some 1 := by kernel_rfl
  have HBW := Lib.hid (show w.heap.size ≤ w1.heap.size by omega)
  have hi1 : (i : Int) ≤ l.length := by omega
  have hi2 : (0 : Int) ≤ i := by omega
  clear hcur hcs hgrow hown hlen hsp01 hsp11 hc1 HSP
  go_wp2_with fail
  go_region_law (refine step_copy_splice rfl (.tmp 13) (.tmp 20) 32 32 rfl 5 Tryz.underlying32 hu8 (some ⟨w1.heap.size, 0, none⟩) sp k k (l.length - i) (c - i) (by simp [Act.eval, Act.put]) (by simp [Act.eval, Act.put]) w1.heap.size 0 cur.toList 5 HG2.out (bc ((l.drop i).take k)) HN.out (fun hk => ⟨rfl, HS2.out hk⟩) HF.out HO.out w.heap.size w HB2.out HBW.out ?_; intro w3 hg3 hb3)
  all_goals
    go_wp2_with fail
    go_ret
    refine ⟨some ⟨w1.heap.size, 0, none⟩, k, by rw [HL.out] <;> rfl, ⟨by rw [bc_len]; omega, .inr ⟨w1.heap.size, k, _, by rw [HL.out], HBW.out, hg3.out, by rw [HL.out]; omega, by unfold maxLen; omega, ?_, ?_⟩⟩, hb3⟩
    · have := HN.out
      have e := HC2.out
      have e2 := HL.out
      simp only [splice, List.size_toArray, List.take_zero, List.nil_append, List.length_append, bc_len, List.length_drop, Array.length_toList]
      omega
    · have e := HC2.out
      have e2 := HL.out
      have e3 : cur.toList.drop (0 + (bc ((l.drop i).take k)).length) = [] := List.drop_eq_nil_of_le (by rw [bc_len, Array.length_toList]; omega)
      simp only [splice, List.take_zero, List.nil_append]
      rw [e3, List.append_nil]
      exact List.take_of_length_le (by rw [bc_len]; omega)

theorem abytes_of {w : World} {B p : Nat} {l : List UInt8} (h : Ar w B p l) (hl : l.length ≤ 16384) (at_ m : Int) : Calls Tryz.prog 67 #[.pointer (some ⟨p, 0, none⟩), .agg #[.int .i64 at_, .int .i64 m]] w (BytesPost (subL l at_ m) w) := by
  unfold subL
  by_cases hr : rightB l.length at_ m = true
  · rw [if_pos hr]
    have hr' := hr
    unfold rightB at hr'
    simp only [decide_eq_true_eq] at hr'
    obtain ⟨i, rfl⟩ := Int.eq_ofNat_of_zero_le hr'.1
    obtain ⟨k, rfl⟩ := Int.eq_ofNat_of_zero_le hr'.2.1
    exact bytes_yes h hl i k (by omega)
  · rw [if_neg hr]
    exact bytes_no h hl at_ m (by simpa using hr)

end Go.Proofs.YtkgakgceamafcaaGreat

namespace Go.Proofs.YtkgakgceamafcaaGreat
open Go Go.RowKit
set_option linter.unusedVariables false

theorem own_ne {w : World} {B : Nat} {e t : TypeId} {size n : Nat} {v : Value} {xs : List Value} {b : Nat} {cs : Array Value} {fr : Nat × Nat} (h : w.ownsRow B e size v n xs) (hb : w.heap[b]? = some (.cells cs t fr)) (hne : e ≠ t) : v.ownBlock ≠ some b := by
  rcases h.2 with ⟨rfl, _⟩ | ⟨g, cap, cur, rfl, _, hh, _⟩
  · simp [Value.ownBlock]
  · intro he
    have : g = b := by simpa [Value.ownBlock] using he
    subst this
    rw [hh] at hb
    injection hb with hb
    injection hb with _ ht
    exact hne ht

theorem heap_set_other {w : World} {p b o : Nat} {u : Value} (h : b ≠ p) : (w.setCell ⟨p, o, none⟩ u).heap[b]? = w.heap[b]? := Below.heap_setCell w ⟨p, o, none⟩ u b h
theorem heap_set_at {w : World} {p o : Nat} {u : Value} {cs : Array Value} {t : TypeId} {fr : Nat × Nat} (h : w.heap[p]? = some (.cells cs t fr)) : (w.setCell ⟨p, o, none⟩ u).heap[p]? = some (.cells (cs.setIfInBounds o u) t fr) := by
  simp [World.setCell, Array.getElem?_modify, h]
theorem heap_mid (w : World) (o o' : Obj) : ((w.alloc o).alloc o').heap[w.heap.size]? = some o :=
  ((Below.refl (w.heap.size + 1) (w.alloc o)).alloc (by simp) o').block w.heap.size (by omega) |>.trans (heap_alloc_new w o)
theorem size_set {w : World} {p o : Nat} {u : Value} : (w.setCell ⟨p, o, none⟩ u).heap.size = w.heap.size := by simp [World.setCell]

theorem own_set {w : World} {B : Nat} {e : TypeId} {size n : Nat} {v : Value} {xs : List Value} {b o : Nat} {u : Value} (h : w.ownsRow B e size v n xs) (hne : v.ownBlock ≠ some b) : (w.setCell ⟨b, o, none⟩ u).ownsRow B e size v n xs :=
  h.kept (row := some b) ⟨rfl, rfl, rfl, by rw [size_set]; exact Nat.le_refl _, fun k hk hn => heap_set_other (fun e => hn (by rw [e]))⟩ (.inr hne)
theorem own_below {w w' : World} {base size n : Nat} {e : TypeId} {v : Value} {xs : List Value} (h : w.ownsRow base e size v n xs) (hb : Below w.heap.size w w') : w'.ownsRow base e size v n xs :=
  h.kept (row := none) ⟨hb.os, hb.tape, hb.output, hb.size, fun k hk _ => hb.block k hk⟩ (by cases v.ownBlock <;> simp)
theorem own_turned {B : Nat} {w w' : World} {base size n : Nat} {e : TypeId} {v : Value} {xs : List Value} (h : w.ownsRow base e size v n xs) (ht : Turned B w w') (h1 : e ≠ 124) (h2 : e ≠ 5) : w'.ownsRow base e size v n xs := by
  refine ⟨h.1, ?_⟩
  rcases h.2 with h0 | ⟨g, cap, cur, e1, e2, e3, e4⟩
  · exact .inl h0
  · refine .inr ⟨g, cap, cur, e1, e2, (ht.rest g (lt_of_heap e3) (fun cs hc => ?_) (fun cs hc => ?_)).trans e3, e4⟩
    · rw [e3] at hc; injection hc with hc; injection hc with _ hc; exact h1 hc
    · rw [e3] at hc; injection hc with hc; injection hc with _ hc; exact h2 hc

theorem Ar.set {w : World} {B p : Nat} {l : List UInt8} {b o : Nat} {u : Value} {cs : Array Value} {t : TypeId} (h : Ar w B p l) (hb : w.heap[b]? = some (.cells cs t (0, 0))) (h1 : t ≠ 124) (h2 : t ≠ 5) : Ar (w.setCell ⟨b, o, none⟩ u) B p l := by
  obtain ⟨a, c, e1, e2, e3, e4⟩ := h
  refine ⟨a, c, e1, ?_, own_set e3 (own_ne e3 hb (fun e => h2 e.symm)), e4⟩
  rw [heap_set_other]
  · exact e2
  · rintro rfl
    rw [e2] at hb
    injection hb with hb
    injection hb with _ hb
    exact h1 hb.symm

section
variable {B : Nat} {w0 w w' : World}
theorem Turned.refl (w : World) : Turned B w w := ⟨Below.refl _ _, Nat.le_refl _, fun _ _ _ _ => rfl⟩
theorem Turned.then_below (h : Turned B w0 w) (hb : Below w.heap.size w w') (hB : B ≤ w.heap.size) : Turned B w0 w' := h.trans (Turned.of_below hb hB)
theorem Turned.grown {v : Value} {n : Nat} {xs : List Value} (h : Turned B w0 w) (hB : B ≤ w.heap.size) (ho : w.ownsRow B 5 1 v n xs) (hg : w.grownBy w' v.ownBlock) : Turned B w0 w' :=
  ⟨h.low.grown hg hB (fun k hk => (ho.lt k hk).1), Nat.le_trans h.size hg.size, fun b hb h1 h2 => by
    have e := h.rest b hb h1 h2
    rw [← e]
    refine hg.block b (Nat.lt_of_lt_of_le hb h.size) (fun eb => ?_)
    rcases ho.2 with ⟨rfl, _⟩ | ⟨g, cap, cur, rfl, _, hh, _⟩
    · simp [Value.ownBlock] at eb
    · have : b = g := by simpa [Value.ownBlock] using eb
      subst this
      exact h2 cur (by rw [← e]; exact hh)⟩
theorem Turned.set_new {b o : Nat} {u : Value} (h : Turned B w0 w) (hB : B ≤ w0.heap.size) (hb : w0.heap.size ≤ b) : Turned B w0 (w.setCell ⟨b, o, none⟩ u) :=
  ⟨h.low.setCell (p := ⟨b, o, none⟩) (Nat.le_trans hB hb) u, by rw [size_set]; exact h.size, fun i hi h1 h2 => by rw [heap_set_other (by omega)]; exact h.rest i hi h1 h2⟩
theorem Turned.set_arena {p o : Nat} {u : Value} {cs : Array Value} (h : Turned B w0 w) (hB : B ≤ p) (hp : w.heap[p]? = some (.cells cs 124 (0, 0))) : Turned B w0 (w.setCell ⟨p, o, none⟩ u) :=
  ⟨h.low.setCell (p := ⟨p, o, none⟩) hB u, by rw [size_set]; exact h.size, fun i hi h1 h2 => by
    have e := h.rest i hi h1 h2
    rw [heap_set_other]
    · exact e
    · rintro rfl
      exact h1 cs (by rw [← e]; exact hp)⟩
end

theorem add_nil (v : Value) (w : World) : Calls Tryz.prog 214 #[.pointer none, v] w fun e w' => e = .returned (.tuple #[.agg #[.int .i64 0, .int .i64 0], .int .i64 2]) ∧ Below w.heap.size w w' := by
  go_enter Tryz.func214, Tryz.ntmps214
  go_wp2_with fail
  refine bodyPost_ret (v := .tuple #[.agg #[.int .i64 0, .int .i64 0], .int .i64 2]) (by simp [results, Tryz.results214, go_sem]) rfl ⟨rfl, ?_⟩
  exact (Below.refl _ _).alloc (Nat.le_refl _) _

theorem add_full {w : World} {B p : Nat} {l : List UInt8} (h : Ar w B p l) (hl : l.length ≤ 16384) (a : Option Addr) (m c : Nat) (hm : m ≤ maxLen) (hf : 16384 - l.length < m) :
    Calls Tryz.prog 214 #[.pointer (some ⟨p, 0, none⟩), .slice a m c] w fun e w' => e = .returned (.tuple #[.agg #[.int .i64 0, .int .i64 0], .int .i64 6]) ∧ Below w.heap.size w w' := by
  have hc := room_of (h.below ((Below.refl _ w).alloc (Nat.le_refl _) (.cells #[.int .i64 0, .int .i64 0] 59))) hl
  have HC := Lib.hid hc
  clear hc h
  unfold maxLen at hm
  have d1 : decide (16384 - (l.length : Int) < (m : Int)) = true := decide_eq_true (by omega)
  go_enter Tryz.func214, Tryz.ntmps214
  go_wp2_with fail
  refine HC.out.mono ?_; rintro e w1 ⟨rfl, rfl⟩
  go_wp2_with fail
  refine bodyPost_ret (v := .tuple #[.agg #[.int .i64 0, .int .i64 0], .int .i64 6]) (by simp [results, Tryz.results214, go_sem]) rfl ⟨rfl, ?_⟩
  exact (Below.refl _ _).alloc (Nat.le_refl _) _

theorem add_none {w : World} {B p : Nat} {l : List UInt8} (h : Ar w B p l) (hl : l.length ≤ 16384) (a : Option Addr) (c : Nat) :
    Calls Tryz.prog 214 #[.pointer (some ⟨p, 0, none⟩), .slice a 0 c] w fun e w' => e = .returned (.tuple #[.agg #[.int .i64 0, .int .i64 0], .int .i64 0]) ∧ Below w.heap.size w w' := by
  have hc := room_of (h.below ((Below.refl _ w).alloc (Nat.le_refl _) (.cells #[.int .i64 0, .int .i64 0] 59))) hl
  have HC := Lib.hid hc
  clear hc h
  have d1 : decide (16384 - (l.length : Int) < 0) = false := decide_eq_false (by omega)
  go_enter Tryz.func214, Tryz.ntmps214
  go_wp2_with fail
  refine HC.out.mono ?_; rintro e w1 ⟨rfl, rfl⟩
  go_wp2_with fail
  refine bodyPost_ret (v := .tuple #[.agg #[.int .i64 0, .int .i64 0], .int .i64 0]) (by simp [results, Tryz.results214, go_sem]) rfl ⟨rfl, ?_⟩
  exact (Below.refl _ _).alloc (Nat.le_refl _) _

set_option maxHeartbeats 1600000 in
theorem add_yes {w : World} {B p : Nat} {l t : List UInt8} (h : Ar w B p l) (hl : l.length ≤ 16384) (b off c : Nat) (hB : B ≤ w.heap.size) (hb : b < w.heap.size) (ht : ∀ j u, (bc t)[j]? = some u → w.cell? ⟨b, off + j, none⟩ = some u) (hm : 0 < t.length) (hf : t.length ≤ 16384 - l.length) :
    Calls Tryz.prog 214 #[.pointer (some ⟨p, 0, none⟩), .slice (some ⟨b, off, none⟩) t.length c] w fun e w' => e = .returned (.tuple #[.agg #[.int .i64 l.length, .int .i64 t.length], .int .i64 0]) ∧ Ar w' B p (l ++ t) ∧ Turned B w w' := by
  obtain ⟨i0, hi0, hz0, hz1, hz2⟩ := info_parts info_u8
  have h0 := h
  obtain ⟨a, c0, hBp, hp0, hown, _⟩ := h
  have hpl := lt_of_heap hp0
  have hcp : w.cell? ⟨p, 0, none⟩ = some (.slice a l.length c0) := by rw [cell_at hp0]; rfl
  have hfz := unfrozen hp0 0
  have HT := Lib.hid ht
  have HH := Lib.hid h0
  have hc := room_of (h0.below ((Below.refl _ w).alloc (Nat.le_refl _) (.cells #[.int .i64 0, .int .i64 0] 59))) hl
  have HC := Lib.hid hc
  have HP := Lib.hid hp0
  have HOW := Lib.hid hown
  clear hc h0 ht hp0 hown
  have d1 : decide (16384 - (l.length : Int) < t.length) = false := decide_eq_false (by omega)
  have d2 : ((t.length : Int) == 0) = false := by rw [beq_eq_false_iff_ne]; omega
  go_enter Tryz.func214, Tryz.ntmps214
  go_wp2_with fail
  refine HC.out.mono ?_; rintro e w1 ⟨rfl, rfl⟩
  go_wp2_with (at_builtin; refine wpList_append_lies _ rfl (.tmp 35) (.tmp 36) 32 rfl B 5 i0 (.int .u8 0) 1 1 Tryz.underlying32 hi0 hz0 hz1 hz2 rfl (by decide) (.slice a l.length c0) l.length (bc l) rfl ((HOW.out.alloc _).alloc _) ⟨b, off, none⟩ t.length c (bc t) rfl ?c1 ?c2 (bc_one t) hm ?c3 ?c4 ?c5 _ rfl ?_)
  case c1 => rw [bc_len]; omega
  case c2 =>
    intro j u hj
    rw [Addr.add_lit]
    have e1 := (((Below.refl w.heap.size w).alloc (Nat.le_refl _) (.cells #[.int .i64 0, .int .i64 0] 59)).alloc (by simp) (.cells #[.int .i64 l.length, .int .i64 t.length] 59)).cell (p := ⟨b, off + j, none⟩) hb
    rw [e1]
    exact HT.out j u hj
  case c3 => unfold maxLen; omega
  case c4 => omega
  case c5 => simp; omega
  intro g cap w1 hown1 hgrow1 hat hlt
  generalize hwa : (w.alloc (.cells #[.int .i64 0, .int .i64 0] 59)).alloc (.cells #[.int .i64 l.length, .int .i64 t.length] 59) = wa at *
  have hba : Below w.heap.size w wa := by rw [← hwa]; exact ((Below.refl _ w).alloc (Nat.le_refl _) _).alloc (by simp) _
  have hsa : wa.heap.size = w.heap.size + 2 := by rw [← hwa]; simp
  have hA : wa.heap[w.heap.size]? = some (.cells #[.int .i64 0, .int .i64 0] 59 (0, 0)) := by rw [← hwa]; exact heap_mid _ _ _
  have hA2 : wa.heap[w.heap.size + 1]? = some (.cells #[.int .i64 l.length, .int .i64 t.length] 59 (0, 0)) := by
    rw [← hwa, show w.heap.size + 1 = (w.alloc (.cells #[.int .i64 0, .int .i64 0] 59)).heap.size by simp]
    exact heap_alloc_new _ _
  have hpa : wa.heap[p]? = some (.cells #[.slice a l.length c0] 124 (0, 0)) := (hba.block p hpl).trans HP.out
  have hoa := own_below HOW.out hba
  have hA1 : w1.heap[w.heap.size]? = some (.cells #[.int .i64 0, .int .i64 0] 59 (0, 0)) := (hgrow1.block _ (by omega) (fun e => own_ne hoa hA (by decide) e.symm)).trans hA
  have hA21 : w1.heap[w.heap.size + 1]? = some (.cells #[.int .i64 l.length, .int .i64 t.length] 59 (0, 0)) := (hgrow1.block _ (by omega) (fun e => own_ne hoa hA2 (by decide) e.symm)).trans hA2
  have hp1 : w1.heap[p]? = some (.cells #[.slice a l.length c0] 124 (0, 0)) := (hgrow1.block _ (by omega) (fun e => own_ne hoa hpa (by decide) e.symm)).trans hpa
  have T1 : Turned B w w1 := (Turned.of_below hba hB).grown (by omega) hoa hgrow1
  have T2 := Turned.set_arena (o := 0) (u := .slice (some ⟨g, 0, none⟩) (l.length + t.length) cap) T1 hBp hp1
  have hw2 : Ar (w1.setCell ⟨p, 0, none⟩ (.slice (some ⟨g, 0, none⟩) (l.length + t.length) cap)) B p (l ++ t) := by
    refine ⟨some ⟨g, 0, none⟩, cap, hBp, ?_, ?_, by rw [List.length_append]; omega⟩
    · rw [heap_set_at hp1, List.length_append]; rfl
    · rw [List.length_append, show bc (l ++ t) = bc l ++ bc t by unfold bc; simp]
      exact own_set hown1 (own_ne hown1 hp1 (by decide))
  have hA12 : (w1.setCell ⟨p, 0, none⟩ (.slice (some ⟨g, 0, none⟩) (l.length + t.length) cap)).heap[w.heap.size]? = some (.cells #[.int .i64 0, .int .i64 0] 59 (0, 0)) := by rw [heap_set_other (by omega)]; exact hA1
  have hA22 : (w1.setCell ⟨p, 0, none⟩ (.slice (some ⟨g, 0, none⟩) (l.length + t.length) cap)).heap[w.heap.size + 1]? = some (.cells #[.int .i64 l.length, .int .i64 t.length] 59 (0, 0)) := by rw [heap_set_other (by omega)]; exact hA21
  have x1 : w1.cell? ⟨p, 0, none⟩ = some (.slice a l.length c0) := by rw [cell_at hp1]; rfl
  have x2 := unfrozen hp1 0
  generalize hw2e : w1.setCell ⟨p, 0, none⟩ (.slice (some ⟨g, 0, none⟩) (l.length + t.length) cap) = w2 at *
  have y0 : w2.cell? ⟨w.heap.size, 0, none⟩ = some (.int .i64 0) := by rw [cell_at hA12]; rfl
  have y1 : w2.cell? ⟨w.heap.size, 1, none⟩ = some (.int .i64 0) := by rw [cell_at hA12]; rfl
  have y2 := unfrozen hA12 0
  have y3 := unfrozen hA12 1
  have z0 : w2.cell? ⟨w.heap.size + 1, 0, none⟩ = some (.int .i64 l.length) := by rw [cell_at hA22]; rfl
  have z1 : w2.cell? ⟨w.heap.size + 1, 1, none⟩ = some (.int .i64 t.length) := by rw [cell_at hA22]; rfl
  have HW2 := Lib.hid hw2
  have HT2 := Lib.hid T2
  have HA := Lib.hid hA12
  clear hwa hba hsa hA hA2 hpa hoa hA1 hA21 hp1 T1 T2 hw2 hA12 hA22 hown1 hgrow1 hat hcp hfz
  go_wp2_with fail
  refine bodyPost_ret (v := .tuple #[.agg #[.int .i64 l.length, .int .i64 t.length], .int .i64 0]) (by simp [results, Tryz.results214, go_sem, y0, y1]) rfl ⟨rfl, ?_, ?_⟩
  · exact (HW2.out.set HA.out (by decide) (by decide)).set (heap_set_at HA.out) (by decide) (by decide)
  · exact (HT2.out.set_new hB (Nat.le_refl _)).set_new hB (Nat.le_refl _)

end Go.Proofs.YtkgakgceamafcaaGreat
