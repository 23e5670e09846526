/-
  Texts of this seat, put together (a claim holds few texts): WgC, Shelf, ArD, ArE, ArH, ArI, ArF, ArG.
-/
import Derived.Test.YtkgakgceamafcaaGreatMk6
import Derived.Sort.BigQuietIn
import Derived.Shelf.Strings.Search1
import Derived.Ground.SlbCloneProg
import Derived.Shelf.Bytes.SlClone
import Derived.Test.YtkgakgceamafcaaGreatProg
import Derived.Lib.Bytes
import Derived.Lib.IndexMore
import Derived.Deep.RegionHeld3
import Derived.Deep.DeepCutAuto
import Derived.WalkLawsBesides

namespace Go.Proofs.YtkgakgceamafcaaGreat
open Go Go.RowKit Go.Shelf
set_option linter.unusedVariables false
attribute [local go_sem] Oper.semAt_some

/-- A row of cells, as it lies in memory. -/
structure R3 where
  a : Option Addr
  n : Nat
  c : Nat
  e : Int
  b : Bool
def r3V (r : R3) : Value := .agg #[.slice r.a r.n r.c, .int .i64 r.e, .bool r.b]
def rws (l : List R3) : List Value := l.map r3V
theorem rws_len (l : List R3) : (rws l).length = l.length := by simp [rws]
theorem rws_app (a b : List R3) : rws (a ++ b) = rws a ++ rws b := by simp [rws]
theorem rws_is (l : List R3) : ∀ u ∈ rws l, Is3 u := by
  intro u hu
  obtain ⟨r, _, rfl⟩ := List.mem_map.1 hu
  exact ⟨_, _, _, _, _, rfl⟩
theorem rws_gd (l : List R3) : Gd (rws l) := gd_is3 (rws_is l)
theorem S3.atR {w : World} {a : Option Addr} {c k : Nat} {xs : List R3} {r : R3} (h : S3 w a c (rws xs)) (hr : xs[k]? = some r) :
    ∃ g o, a = some ⟨g, o, Option.none⟩ ∧ g < w.heap.size ∧ w.cell? ⟨g, o + k * 3, Option.none⟩ = some (.slice r.a r.n r.c) ∧ w.cell? ⟨g, o + k * 3 + 1, Option.none⟩ = some (.int .i64 r.e) ∧ w.cell? ⟨g, o + k * 3 + 2, Option.none⟩ = some (.bool r.b) := by
  have hv : (rws xs)[k]? = some (r3V r) := by unfold rws; rw [List.getElem?_map, hr]; rfl
  obtain ⟨g, o, a', n', c', e, b, h1, h2, h3, h4, h5, h6⟩ := h.at hv
  unfold r3V row3 at h3
  injection h3 with h3
  simp at h3
  obtain ⟨⟨rfl, rfl, rfl⟩, rfl, rfl⟩ := h3
  exact ⟨g, o, h1, h2, h4, h5, h6⟩

def pairs (xs : List R3) : List (Nat × R3) := (List.range xs.length).map fun k => (k, xs.getD k ⟨none, 0, 0, 0, false⟩)
theorem pairs_len (xs : List R3) : (pairs xs).length = xs.length := by simp [pairs]
theorem pairs_at {xs : List R3} {k : Nat} {x : R3} (h : xs[k]? = some x) : (pairs xs)[k]? = some (k, x) := by
  have hk := (List.getElem?_eq_some_iff.1 h).1
  unfold pairs
  rw [List.getElem?_map, List.getElem?_range hk]
  simp [List.getD, h]
theorem take_snoc {α : Type} {l : List α} {k : Nat} {x : α} (h : l[k]? = some x) : l.take k ++ [x] = l.take (k + 1) := by rw [List.take_add_one, h]; rfl
def encP (x : Nat × R3) : Array Value := #[.int .i64 (x.1 : Int), r3V x.2]

def spotV (b : Nat) (f : Nat) : Value := .agg #[.pointer (some ⟨b, 0, none⟩), .int .i64 (f : Int)]

abbrev pbox (b : Nat) : Value := .pointer (some ⟨b, 0, none⟩)
abbrev fnv (k : Nat) : Value := .func (.func k) #[] #[]

theorem allocs_w : ∀ (os : List Obj) (w : World), Below w.heap.size w (os.foldl World.alloc w) ∧ (os.foldl World.alloc w).heap.size = w.heap.size + os.length ∧ ∀ i, i < os.length → (os.foldl World.alloc w).heap[w.heap.size + i]? = os[i]?
  | [], w => ⟨Below.refl _ _, rfl, fun i h => by simp at h⟩
  | o :: os, w => by
    obtain ⟨h1, h2, h3⟩ := allocs_w os (w.alloc o)
    rw [World.size_alloc] at h1 h2 h3
    have hb := t_al w o
    refine ⟨hb.trans (h1.mono (by omega)), by rw [List.foldl_cons, h2, List.length_cons]; omega, fun i hi => ?_⟩
    rw [List.foldl_cons]
    match i with
    | 0 => exact (h1.block _ (by omega)).trans (World.alloc_heap_new w o)
    | i + 1 =>
      rw [show w.heap.size + (i + 1) = w.heap.size + 1 + i by omega]
      exact h3 i (by simp at hi; omega)

theorem Same.lt {D : Bls} {w W : World} (h : Same D w W) (hD : Have D w) {k : Nat} (hk : D k) : k < W.heap.size := by
  have h1 := h k hk
  rw [Array.getElem?_eq_getElem (hD k hk)] at h1
  exact lt_of_at h1
/-- What a loop over an iterator within an iterator keeps, beside its own word: the blocks of D1, and what lies below n₀. -/
def Keep {α β : Type} (J : β → Bls → World → Prop) (f : α → β) (D1 : Bls) (w2 : World) (n₀ : Nat) : α → Bls → World → Prop :=
  fun s E W => (∀ k, E k → n₀ ≤ k ∧ ¬ D1 k) ∧ Below n₀ w2 W ∧ Same D1 w2 W ∧ J (f s) (fun k => E k ∨ D1 k) W
theorem Keep.firm {α β : Type} {J : β → Bls → World → Prop} (hJ : Firm J) (f : α → β) {D1 : Bls} {w2 : World} {n₀ : Nat} (hn : n₀ ≤ w2.heap.size) (hD : Have D1 w2) : Firm (Keep J f D1 w2 n₀) := by
  rintro s D D' W W' ⟨h1, h2, h3, h4⟩ hm hd
  have hsz := h2.size
  refine ⟨fun k hk => (hd k hk).elim (h1 k) (fun h => ⟨by omega, fun h' => by have := hD k h'; omega⟩), ⟨hm.os.trans h2.os, hm.tape.trans h2.tape, hm.output.trans h2.output, Nat.le_trans h2.size hm.size, fun k hk => (hm.block k (by omega) (fun h => by have := (h1 k h).1; omega)).trans (h2.block k hk)⟩, fun k hk => (hm.block k (h3.lt hD hk) (fun h => (h1 k h).2 hk)).trans (h3 k hk), hJ _ _ _ _ _ h4 (hm.mono fun _ h => .inl h) (fun k hk => hk.elim (fun h => (hd k h).elim (fun h => .inl (.inl h)) .inr) (fun h => .inl (.inr h)))⟩
def KeepX {α γ : Type} (Jx : List γ → Bls → World → Prop) (Sp : α → List γ → Prop) (D1 : Bls) (w2 : World) : Code → α → Bls → World → Prop :=
  fun c s E W => c = .ret ∧ (∀ k, D1 k → ¬ E k) ∧ Same D1 w2 W ∧ ∃ q, Sp s q ∧ Jx q (fun k => E k ∨ D1 k) W
theorem KeepX.firm {α γ : Type} {Jx : List γ → Bls → World → Prop} (hJ : Firm Jx) (Sp : α → List γ → Prop) {D1 : Bls} {w2 : World} (hD : Have D1 w2) (c : Code) : Firm (KeepX (α := α) Jx Sp D1 w2 c) := by
  rintro s D D' W W' ⟨h0, h1, h3, q, hq, h4⟩ hm hd
  refine ⟨h0, fun k hk h => (hd k h).elim (h1 k hk) (fun h => by have := h3.lt hD hk; omega), fun k hk => (hm.block k (h3.lt hD hk) (h1 k hk)).trans (h3 k hk), q, hq, hJ _ _ _ _ _ h4 (hm.mono fun _ h => .inl h) (fun k hk => hk.elim (fun h => (hd k h).elim (fun h => .inl (.inl h)) .inr) (fun h => .inl (.inr h)))⟩
theorem pairs_inv {xs : List R3} {j k : Nat} {x : R3} (h : (pairs xs)[j]? = some (k, x)) : k = j ∧ xs[j]? = some x := by
  have hj := (List.getElem?_eq_some_iff.1 h).1
  rw [pairs_len] at hj
  have h2 : xs[j]? = some xs[j] := List.getElem?_eq_getElem hj
  have h3 := pairs_at h2
  rw [h3] at h
  injection h with h
  injection h with h4 h5
  exact ⟨h4.symm, by rw [h2, h5]⟩
theorem cell_put {V : World} {l b o : Nat} {r : Loop} {x : Obj} {v : Value} (h : V.cell? ⟨b, o, none⟩ = some v) (hl : V.heap[l]? = some (.loop r)) : (V.putObj l x).cell? ⟨b, o, none⟩ = some v :=
  cell_kept h (grownBy_putObj' V l x) (fun r' e => by cases e; exact ⟨_, hl, rfl⟩)

end Go.Proofs.YtkgakgceamafcaaGreat

namespace Go.Proofs
open Go.Shelf
def Tryz.laysSlK4_ren : Go.Shelf.Ren := ⟨fun | 4 => 97 | n => n, fun | 22 => 32 | 4 => 4 | 5 => 5 | n => n, fun | n => n⟩
theorem Tryz.laysSlK4 : Go.Proofs.SlLaysK.n4 Tryz.prog Tryz.laysSlK4_ren := {
  mixed := by kernel_rfl
  f4 := Tryz.func97.trans (congrArg some (by kernel_rfl))
  t4 := Tryz.underlying4
  a4 := Tryz.isAgg4
  z4 := Tryz.sizeOf4
  v4 := Tryz.zeroValue4
  t22 := Tryz.underlying32
  a22 := Tryz.isAgg32
  z22 := Tryz.sizeOf32
  v22 := Tryz.zeroValue32
  t5 := Tryz.underlying5
  i5 := by kernel_rfl }
open Go.RowKit Go.Lib in
/-- bytes.Clone: "Clone returns a copy of b[:len(b)]. The result may have additional unused capacity.": OF A SLICE THAT IS NOT nil IT RETURNS A SLICE THAT IS NOT nil, OF THE SAME BYTES, IN MEMORY OF THE CALL's OWN: in the how-to's words (6f): 'w'.ownsRow B e 1 v' n cells' · 'Below B w w'', B the heap's size at the call. b AT WHATEVER ADDRESS, its cells as 'open_ints' hands them ('a.add i'; the numbers 'xs'). No byte: no cell is asked for. (LAID: no walk: one application.) -/
theorem Tryz.bytes_Clone_at (a : Addr) (n c : Nat) (xs : List Int) (w : World) (hx : xs.length = n) (hbig : n ≤ 140737488355328) (hc : ∀ i, i < n → w.cell? (a.add i) = some (.int .u8 (xs.getD i 0))) :
    Calls Tryz.prog 97 #[.slice (some a) n c] w fun e w' => ∃ v', e = .returned v' ∧ w'.ownsRow w.heap.size 5 1 v' n (xs.map (Value.int .u8)) ∧ v' ≠ .slice none 0 0 ∧ Below w.heap.size w w' := Any.bytes_Clone_at Tryz.laysSlK4 a n c xs w hx hbig hc
open Go.RowKit Go.Lib in
/-- "Clone(nil) returns nil.": the world is as it was. (LAID: no walk: one application.) -/
theorem Tryz.bytes_Clone_nil (n c : Nat) (w : World) :
    Calls Tryz.prog 97 #[.slice none n c] w fun e w' => e = .returned (.slice none 0 0) ∧ w' = w := Any.bytes_Clone_nil Tryz.laysSlK4 n c w
end Go.Proofs

namespace Go.Proofs.YtkgakgceamafcaaGreat
open Go Go.RowKit
set_option linter.unusedVariables false

/-- What Add answers, and leaves. -/
def addR (l t : List UInt8) : Int × Int × Int := if 16384 - (l.length : Int) < t.length then (0, 0, 6) else if t.length = 0 then (0, 0, 0) else (l.length, t.length, 0)
def addL (l t : List UInt8) : List UInt8 := if 16384 - (l.length : Int) < t.length then l else l ++ t
def ret3 (r : Int × Int × Int) : Ending := .returned (.tuple #[.agg #[.int .i64 r.1, .int .i64 r.2.1], .int .i64 r.2.2])
/-- What a call that may turn the arena at p leaves. -/
def ArPost (r : Int × Int × Int) (l' : List UInt8) (B p : Nat) (w : World) (e : Ending) (w' : World) : Prop := e = ret3 r ∧ Ar w' B p l' ∧ Turned B w w'

theorem add_of {w : World} {B p : Nat} {l t : List UInt8} (h : Ar w B p l) (hl : l.length ≤ 16384) (a : Option Addr) (c : Nat) (hB : B ≤ w.heap.size) (ht : Rd w 1 a t.length (bc t)) (htl : t.length ≤ maxLen) :
    Calls Tryz.prog 214 #[.pointer (some ⟨p, 0, none⟩), .slice a t.length c] w (ArPost (addR l t) (addL l t) B p w) := by
  by_cases h1 : 16384 - (l.length : Int) < t.length
  · refine (add_full h hl a t.length c htl (by omega)).mono ?_
    rintro e w' ⟨rfl, hb⟩
    refine ⟨by unfold addR; rw [if_pos h1]; rfl, ?_, Turned.of_below hb hB⟩
    unfold addL; rw [if_pos h1]; exact h.below hb
  · by_cases h2 : t.length = 0
    · have h3 := add_none h hl a c
      rw [h2]
      refine h3.mono ?_
      rintro e w' ⟨rfl, hb⟩
      refine ⟨by unfold addR; rw [if_neg h1, if_pos h2]; rfl, ?_, Turned.of_below hb hB⟩
      unfold addL; rw [if_neg h1, List.eq_nil_of_length_eq_zero h2, List.append_nil]; exact h.below hb
    · obtain ⟨b, off, rfl, hb, hc⟩ := ht.2 (by omega)
      refine (add_yes h hl b off c hB hb hc (by omega) (by omega)).mono ?_
      rintro e w' ⟨rfl, hA, hT⟩
      refine ⟨by unfold addR; rw [if_neg h1, if_neg h2]; rfl, ?_, hT⟩
      unfold addL; rw [if_neg h1]; exact hA

/-- The bytes, as numbers. -/
def nums (l : List UInt8) : List Int := l.map fun b => (b.toNat : Int)
theorem nums_len (l : List UInt8) : (nums l).length = l.length := by simp [nums]
theorem nums_cells (l : List UInt8) : (nums l).map (Value.int .u8) = bc l := by simp [nums, bc, Function.comp_def]
theorem nums_lt (l : List UInt8) : ∀ x ∈ nums l, 0 ≤ x ∧ x < 256 := by
  intro x hx
  simp [nums] at hx
  obtain ⟨b, _, rfl⟩ := hx
  have := b.toNat_lt
  omega
theorem nums_bytes (l : List UInt8) : Lib.bytesOf (nums l) = l := by
  unfold nums Lib.bytesOf
  rw [List.map_map]
  conv => rhs; rw [← List.map_id l]
  apply List.map_congr_left
  intro b _
  simp
theorem nums_at {l : List UInt8} {i : Nat} (hi : i < l.length) : (bc l)[i]? = some (.int .u8 ((nums l).getD i 0)) := by
  unfold bc nums
  rw [List.getElem?_map, List.getElem?_eq_getElem hi, List.getD_eq_getElem?_getD, List.getElem?_map, List.getElem?_eq_getElem hi]
  rfl

theorem own_slice {w : World} {B : Nat} {e : TypeId} {v : Value} {n : Nat} {xs : List Value} {s : Nat} (h : w.ownsRow B e s v n xs) : ∃ a c, v = .slice a n c := by
  rcases h.2 with ⟨rfl, rfl⟩ | ⟨g, cap, cur, rfl, _⟩
  · exact ⟨none, 0, rfl⟩
  · exact ⟨_, cap, rfl⟩

theorem clone_rd {w : World} {t : List UInt8} (a : Option Addr) (c : Nat) (ht : Rd w 1 a t.length (bc t)) (hl : t.length ≤ 140737488355328) :
    Calls Tryz.prog 97 #[.slice a t.length c] w (BytesPost t w) := by
  cases a with
  | none =>
    have h0 : t.length = 0 := by
      rcases Nat.eq_zero_or_pos t.length with h | h
      · exact h
      · obtain ⟨b, off, e, _⟩ := ht.2 h; cases e
    refine (Tryz.bytes_Clone_nil t.length c w).mono ?_
    rintro e w' ⟨rfl, rfl⟩
    obtain rfl := List.eq_nil_of_length_eq_zero h0
    exact ⟨none, 0, rfl, ⟨by simp [bc], .inl ⟨rfl, rfl⟩⟩, Below.refl _ _⟩
  | some ad =>
    refine (Tryz.bytes_Clone_at ad t.length c (nums t) w (nums_len t) hl (fun i hi => ?_)).mono ?_
    · obtain ⟨b, off, e, _, hc⟩ := ht.2 (by omega)
      injection e with e
      subst e
      rw [Addr.add_lit]
      exact hc i _ (nums_at hi)
    · rintro e w' ⟨v', rfl, h2, h3, h4⟩
      rw [nums_cells] at h2
      obtain ⟨a', c', rfl⟩ := own_slice h2
      exact ⟨a', c', rfl, h2, h4⟩

theorem new_big (v : Option Addr) (m c : Nat) (w : World) (hm : m ≤ maxLen) (h : 4096 < m) :
    Calls Tryz.prog 42 #[.slice v m c] w fun e w' => e = .returned (.tuple #[.pointer none, .int .i64 8]) ∧ w = w' := by
  unfold maxLen at hm
  go_enter Tryz.func42, Tryz.ntmps42
  go_wp2_with fail
  go_ret2
  exact ⟨rfl, rfl⟩
theorem new_of {w : World} {t : List UInt8} (a : Option Addr) (c : Nat) (ht : Rd w 1 a t.length (bc t)) (hl : t.length ≤ 4096) :
    Calls Tryz.prog 42 #[.slice a t.length c] w fun e w' => ∃ p, e = .returned (.tuple #[.pointer (some ⟨p, 0, none⟩), .int .i64 0]) ∧ Ar w' w.heap.size p t ∧ Below w.heap.size w w' := by
  have HC := Lib.hid (clone_rd a c ht (by omega))
  clear ht
  go_enter Tryz.func42, Tryz.ntmps42
  go_wp2_with fail
  refine HC.out.mono ?_
  rintro e w1 ⟨a', c', rfl, hown, hb⟩
  have HO := Lib.hid hown
  have HB := Lib.hid hb
  clear hown hb HC
  go_wp2_with fail
  go_ret2
  have hs := HB.out.size
  exact ⟨w1.heap.size, rfl, ⟨a', c', hs, heap_alloc_new _ _, HO.out.alloc _, by omega⟩, HB.out.alloc hs _⟩

/-- The first place at which bytes stand, as a span. -/
def firstR (l t : List UInt8) : Int × Int := if t.length = 0 ∨ Lib.index l t < 0 then (0, 0) else (Lib.index l t, t.length)
def ret2 (r : Int × Int) : Ending := .returned (.agg #[.int .i64 r.1, .int .i64 r.2])

theorem first_nil (v : Value) (w : World) : Calls Tryz.prog 213 #[.pointer none, v] w fun e w' => e = ret2 (0, 0) ∧ Below w.heap.size w w' := by
  go_enter Tryz.func213, Tryz.ntmps213
  go_wp2_with fail
  refine bodyPost_ret (v := .agg #[.int .i64 0, .int .i64 0]) (by simp [results, Tryz.results213, go_sem]) rfl ⟨rfl, ?_⟩
  exact (Below.refl _ _).alloc (Nat.le_refl _) _

theorem Ar.cell0 {w : World} {B p : Nat} {l : List UInt8} (h : Ar w B p l) : ∃ a c, w.cell? ⟨p, 0, none⟩ = some (.slice a l.length c) ∧ Rd w 1 a l.length (bc l) ∧ l.length ≤ c ∧ c ≤ maxLen ∧ p < w.heap.size ∧ (a = none → c = 0) := by
  obtain ⟨a, c, h1, h2, h3, h4⟩ := h
  obtain ⟨a', c', h5, h6, h7, h8, h9⟩ := Ar.cell ⟨a, c, h1, h2, h3, h4⟩
  refine ⟨a', c', h5, h6, h7, h8, h9, fun hn => ?_⟩
  rw [cell_at h2] at h5
  injection h5 with h5
  injection h5 with e1 _ e2
  subst e1 e2
  rcases h3.2 with ⟨e, _⟩ | ⟨g, cap, cur, e, _⟩
  · injection e
  · rw [hn] at e; injection e with e; cases e

/-- What Keep answers, and leaves. -/
def keepR (l t : List UInt8) : Int × Int × Int := if t.length = 0 ∨ Lib.index l t < 0 then addR l t else (Lib.index l t, t.length, 0)
def keepL (l t : List UInt8) : List UInt8 := if t.length = 0 ∨ Lib.index l t < 0 then addL l t else l

/-- A span's block, and what becomes of it. -/
structure SpB (w : World) (b : Nat) (x y : Int) : Prop where
  blk : w.heap[b]? = some (.cells #[.int .i64 x, .int .i64 y] 59 (0, 0))
theorem SpB.c0 {w : World} {b : Nat} {x y : Int} (h : SpB w b x y) : w.cell? ⟨b, 0, none⟩ = some (.int .i64 x) := by rw [cell_at h.blk]; rfl
theorem SpB.c1 {w : World} {b : Nat} {x y : Int} (h : SpB w b x y) : w.cell? ⟨b, 1, none⟩ = some (.int .i64 y) := by rw [cell_at h.blk]; rfl
theorem SpB.f {w : World} {b : Nat} {x y : Int} (h : SpB w b x y) (i : Nat) : w.frozen? ⟨b, i, none⟩ = false := unfrozen h.blk i
theorem SpB.lt {w : World} {b : Nat} {x y : Int} (h : SpB w b x y) : b < w.heap.size := lt_of_heap h.blk
theorem SpB.new (w : World) (x y : Int) : SpB (w.alloc (.cells #[.int .i64 x, .int .i64 y] 59)) w.heap.size x y := ⟨heap_alloc_new _ _⟩
theorem SpB.below {w w' : World} {b : Nat} {x y : Int} (h : SpB w b x y) (hb : Below w.heap.size w w') : SpB w' b x y := ⟨(hb.block b h.lt).trans h.blk⟩
theorem SpB.turned {B : Nat} {w w' : World} {b : Nat} {x y : Int} (h : SpB w b x y) (ht : Turned B w w') : SpB w' b x y :=
  ⟨(ht.rest b h.lt (fun cs hc => by rw [h.blk] at hc; injection hc with hc; injection hc with _ hc; exact absurd hc (by decide)) (fun cs hc => by rw [h.blk] at hc; injection hc with hc; injection hc with _ hc; exact absurd hc (by decide))).trans h.blk⟩
theorem SpB.both {w : World} {b : Nat} {x' y' x y : Int} (h : SpB w b x' y') : SpB ((w.setCell ⟨b, 0, none⟩ (.int .i64 x)).setCell ⟨b, 1, none⟩ (.int .i64 y)) b x y :=
  ⟨by rw [heap_set_at (heap_set_at h.blk)]; rfl⟩
theorem below_two {w0 w : World} {b : Nat} (h : Below w0.heap.size w0 w) (hb : w0.heap.size ≤ b) (u v : Value) : Below w0.heap.size w0 ((w.setCell ⟨b, 0, none⟩ u).setCell ⟨b, 1, none⟩ v) :=
  (h.setCell (p := ⟨b, 0, none⟩) hb u).setCell (p := ⟨b, 1, none⟩) hb v
theorem turned_two {B : Nat} {w0 w : World} {b : Nat} (h : Turned B w0 w) (hB : B ≤ w0.heap.size) (hb : w0.heap.size ≤ b) (u v : Value) : Turned B w0 ((w.setCell ⟨b, 0, none⟩ u).setCell ⟨b, 1, none⟩ v) :=
  (h.set_new hB hb).set_new hB hb

set_option maxHeartbeats 800000 in
theorem keep_nil (v : Value) (w : World) : Calls Tryz.prog 205 #[.pointer none, v] w fun e w' => e = .returned (.tuple #[.agg #[.int .i64 0, .int .i64 0], .int .i64 2]) ∧ Below w.heap.size w w' := by
  have HC := Lib.hid (fun w => first_nil v w)
  have HD := Lib.hid (fun w => add_nil v w)
  unfold ret2 at HC
  go_enter Tryz.func205, Tryz.ntmps205
  go_wp2_with fail
  refine (HC.out _).mono ?_; rintro e w1 ⟨rfl, hb⟩
  have S1 := (SpB.new w 0 0).below hb
  have HB := Lib.hid (((Below.refl _ w).alloc (Nat.le_refl _) _).trans (hb.mono (by simp)))
  have hs1 : w.heap.size < w1.heap.size := S1.lt
  clear hb HC
  go_wp2_with fail
  refine (HD.out _).mono ?_; rintro e w2 ⟨rfl, hb⟩
  have HB2 := Lib.hid ((HB.out.alloc HB.out.size _).trans (hb.mono (by simp; omega)))
  have S2 := (S1.below ((Below.refl _ w1).alloc (Nat.le_refl _) (.cells #[.int .i64 0, .int .i64 0] 59))).below hb
  have y0 := S2.c0
  have y1 := S2.c1
  have y2 := S2.f 0
  have y3 := S2.f 1
  clear hb S2
  go_wp2_with fail
  refine bodyPost_ret (v := .tuple #[.agg #[.int .i64 0, .int .i64 0], .int .i64 2]) (by simp [results, Tryz.results205, go_sem, y0, y1]) rfl ⟨rfl, ?_⟩
  exact below_two HB2.out (Nat.le_refl _) _ _

end Go.Proofs.YtkgakgceamafcaaGreat

namespace Go.Proofs.YtkgakgceamafcaaGreat
open Go Go.RowKit
set_option linter.unusedVariables false

/-- What the library's search reads: one of its variables, whatever it holds. -/
def ML (w : World) : Prop := 0 < w.heap.size ∧ ∃ m, w.cell? ⟨0, 0, none⟩ = some (.int .i64 m)
theorem ML.below {B : Nat} {w w' : World} (h : ML w) (hb : Below B w w') (hB : 0 < B) : ML w' := by
  obtain ⟨h1, m, h2⟩ := h
  exact ⟨Nat.lt_of_lt_of_le h1 hb.size, m, (hb.cell (p := ⟨0, 0, none⟩) hB).trans h2⟩

/-- A block of bytes that stands in memory reads as these. -/
theorem rd_new {w : World} {b : Nat} {t : List UInt8} {fr : Nat × Nat} {ty : TypeId} (h : w.heap[b]? = some (.cells (bc t).toArray ty fr)) : Rd w 1 (some ⟨b, 0, none⟩) t.length (bc t) :=
  ⟨by rw [bc_len]; omega, fun hn => ⟨b, 0, rfl, lt_of_heap h, fun j u hu => by rw [Nat.zero_add, cell_at h]; simpa using hu⟩⟩

theorem ex_new {w : World} {b c : Nat} {fr : Nat × Nat} {ty : TypeId} (h : w.heap[b]? = some (.cells #[.int .u8 120] ty fr)) :
    Calls Tryz.prog 42 #[.slice (some ⟨b, 0, none⟩) 1 c] w fun e w' => ∃ p, e = .returned (.tuple #[.pointer (some ⟨p, 0, none⟩), .int .i64 0]) ∧ Ar w' w.heap.size p [120] ∧ Below w.heap.size w w' :=
  new_of (t := [120]) _ c (rd_new (t := [120]) h) (by decide)
theorem ex_add {w : World} {B p b c : Nat} {fr : Nat × Nat} {ty : TypeId} (hA : Ar w B p [120]) (hB : B ≤ w.heap.size) (h : w.heap[b]? = some (.cells #[.int .u8 97, .int .u8 98] ty fr)) :
    Calls Tryz.prog 214 #[.pointer (some ⟨p, 0, none⟩), .slice (some ⟨b, 0, none⟩) 2 c] w fun e w' => e = .returned (.tuple #[.agg #[.int .i64 1, .int .i64 2], .int .i64 0]) ∧ Ar w' B p [120, 97, 98] ∧ Turned B w w' :=
  add_of (t := [97, 98]) hA (by decide) _ c hB (rd_new (t := [97, 98]) h) (by decide)
theorem ex_len {w : World} {B p : Nat} (hA : Ar w B p [120, 97, 98]) :
    Calls Tryz.prog 14 #[.pointer (some ⟨p, 0, none⟩)] w fun e w' => e = .returned (.int .i64 3) ∧ w = w' := len_of hA
theorem own_form {w : World} {B sz n c : Nat} {e : TypeId} {a : Option Addr} {xs : List Value} (h : w.ownsRow B e sz (.slice a n c) n xs) : (a = none ∧ n = 0) ∨ ∃ g, a = some ⟨g, 0, none⟩ ∧ B ≤ g ∧ g < w.heap.size := by
  rcases h.2 with ⟨e, h0⟩ | ⟨g, cap, cur, e, h1, h2, _⟩
  · injection e with e1
    exact .inl ⟨e1, h0⟩
  · injection e with e1
    exact .inr ⟨g, e1, h1, lt_of_heap h2⟩
theorem string_own {w : World} {B : Nat} {a : Option Addr} {c : Nat} {l : List UInt8} (h : w.ownsRow B 5 1 (.slice a l.length c) l.length (bc l)) :
    (convert 32 9 (.slice a l.length c)).run Tryz.prog w = .ok (.string (strOf l)) w := by
  rcases own_form h with ⟨rfl, h0⟩ | ⟨g, rfl, _, hlt⟩
  · obtain rfl := List.eq_nil_of_length_eq_zero h0
    exact run_convert_bytes_nil w 32 5 Tryz.underlying32 Tryz.underlying5 0 c 9 Tryz.underlying9
  · refine string_of (strOf l) w g 0 c (fun j hj => ?_)
    have hj' : j < l.length := hj
    have := h.cells (g := g) rfl j _ (nums_at hj')
    rw [Addr.add_lit] at this
    rw [this]
    unfold bt strOf nums
    simp [List.getD_eq_getElem?_getD, List.getElem?_map, List.getElem?_eq_getElem hj']
theorem ex_bytes {w : World} {B p : Nat} (hA : Ar w B p [120, 97, 98]) :
    Calls Tryz.prog 67 #[.pointer (some ⟨p, 0, none⟩), .agg #[.int .i64 1, .int .i64 2]] w fun e w' => ∃ a c, e = .returned (.slice a 2 c) ∧ (convert 32 9 (.slice a 2 c)).run Tryz.prog w' = .ok (.string ⟨#[97, 98]⟩) w' ∧ Below w.heap.size w w' := by
  refine (abytes_of hA (by decide) 1 2).mono ?_
  rintro e w' ⟨a, c, rfl, ho, hb⟩
  exact ⟨a, c, rfl, string_own (l := [97, 98]) ho, hb⟩

end Go.Proofs.YtkgakgceamafcaaGreat

namespace Go.Proofs.YtkgakgceamafcaaGreat
open Go Go.RowKit
set_option linter.unusedVariables false

/-- At most so many bytes of a text. -/
def cutS (s : ByteArray) (n : Nat) : ByteArray := if n < s.size then s.extract 0 n else s
theorem cutS_le (s : ByteArray) (n : Nat) : (cutS s n).size ≤ n := by
  unfold cutS
  split
  · rw [ByteArray.size_extract]; omega
  · omega
/-- A text's bytes, in a slice of new memory. -/
theorem rd_held {w : World} {b cap : Nat} {s : ByteArray} (h : Held w b cap s) : Rd w 1 (some ⟨b, 0, none⟩) s.data.toList.length (bc s.data.toList) := by
  refine ⟨by rw [bc_len]; omega, fun hn => ⟨b, 0, rfl, h.lies, fun j u hu => ?_⟩⟩
  have hj : j < s.data.toList.length := by
    rcases Nat.lt_or_ge j s.data.toList.length with h' | h'
    · exact h'
    · rw [List.getElem?_eq_none (by rw [bc_len]; exact h')] at hu; cases hu
  have := h.bytes j hj
  rw [this]
  rw [nums_at hj] at hu
  injection hu with hu
  rw [← hu]
  unfold bt nums
  rw [List.getD_eq_getElem?_getD, List.getElem?_eq_getElem hj, List.getD_eq_getElem?_getD, List.getElem?_map, List.getElem?_eq_getElem hj]
  rfl

/-- The cells of spans, and of texts. -/
def spC (l : List (Int × Int)) : List Value := l.flatMap fun s => [.int .i64 s.1, .int .i64 s.2]
def txC (l : List (List UInt8)) : List Value := l.map fun t => .string (strOf t)
theorem spC_len (l : List (Int × Int)) : (spC l).length = l.length * 2 := by
  induction l with
  | nil => rfl
  | cons s l ih => simp only [spC, List.flatMap_cons, List.length_append, List.length_cons, List.length_nil] at *; omega
theorem spC_snoc (l : List (Int × Int)) (s : Int × Int) : spC (l ++ [s]) = spC l ++ [.int .i64 s.1, .int .i64 s.2] := by simp [spC]
theorem txC_snoc (l : List (List UInt8)) (t : List UInt8) : txC (l ++ [t]) = txC l ++ [.string (strOf t)] := by simp [txC]
theorem spC_at (l : List (Int × Int)) (k : Nat) (s : Int × Int) (h : l[k]? = some s) : (spC l)[k * 2]? = some (.int .i64 s.1) ∧ (spC l)[k * 2 + 1]? = some (.int .i64 s.2) := by
  induction l generalizing k with
  | nil => simp at h
  | cons a l ih =>
    cases k with
    | zero => simp at h; subst h; simp [spC]
    | succ k =>
      have := ih k (by simpa using h)
      have e : spC (a :: l) = .int .i64 a.1 :: .int .i64 a.2 :: spC l := by simp [spC]
      rw [e, show (k + 1) * 2 = (k * 2 + 1) + 1 by omega]
      simpa using this

/-- Each span tells its text. -/
def Told (l : List UInt8) (sp : List (Int × Int)) (tx : List (List UInt8)) : Prop :=
  sp.length = tx.length ∧ ∀ (i : Nat) (s : Int × Int) (t : List UInt8), sp[i]? = some s → tx[i]? = some t → rightB l.length s.1 s.2 = true ∧ subL l s.1 s.2 = t
theorem told_nil (l : List UInt8) : Told l [] [] := ⟨rfl, fun i s t h => by simp at h⟩
theorem right_more {n k : Nat} {x y : Int} (h : rightB n x y = true) : rightB (n + k) x y = true := by
  unfold rightB at *; simp only [decide_eq_true_eq] at *; omega
theorem sub_more {l c : List UInt8} {x y : Int} (h : rightB l.length x y = true) : subL (l ++ c) x y = subL l x y := by
  unfold subL
  rw [List.length_append, if_pos (right_more h), if_pos h]
  unfold rightB at h
  simp only [decide_eq_true_eq] at h
  rw [List.drop_append_of_le_length (by omega), List.take_append_of_le_length (by simp; omega)]
theorem told_more {l : List UInt8} {sp : List (Int × Int)} {tx : List (List UInt8)} (h : Told l sp tx) (c : List UInt8) : Told (l ++ c) sp tx :=
  ⟨h.1, fun i s t hs ht => by
    obtain ⟨h1, h2⟩ := h.2 i s t hs ht
    exact ⟨by rw [List.length_append]; exact right_more h1, by rw [sub_more h1]; exact h2⟩⟩
theorem subL_le (l : List UInt8) (x y : Int) : (subL l x y).length ≤ l.length := by
  unfold subL
  split
  · simp; omega
  · simp
theorem told_full {l c : List UInt8} (h : (addR l c).2.2 ≠ 0) : addL l c = l := by
  unfold addR at h
  unfold addL
  split at h
  · rename_i h1; rw [if_pos h1]
  · split at h <;> exact absurd rfl h
theorem told_add {l c : List UInt8} {sp : List (Int × Int)} {tx : List (List UInt8)} (h : Told l sp tx) (he : (addR l c).2.2 = 0) :
    Told (addL l c) (sp ++ [((addR l c).1, (addR l c).2.1)]) (tx ++ [c]) := by
  unfold addR at he ⊢
  unfold addL
  split at he
  · cases he
  · rename_i h1
    rw [if_neg h1, if_neg h1]
    have hm := told_more h c
    refine ⟨by simp [h.1], fun i s t hs ht => ?_⟩
    rcases Nat.lt_or_ge i sp.length with hi | hi
    · rw [List.getElem?_append_left hi] at hs
      rw [List.getElem?_append_left (by rw [← h.1]; exact hi)] at ht
      exact hm.2 i s t hs ht
    · rw [List.getElem?_append_right hi] at hs
      rw [List.getElem?_append_right (by rw [← h.1]; exact hi), ← h.1] at ht
      have hi0 : i - sp.length = 0 := by
        rcases Nat.eq_zero_or_pos (i - sp.length) with h0 | h0
        · exact h0
        · rw [List.getElem?_eq_none (by simp; omega)] at hs; cases hs
      rw [hi0] at hs ht
      simp only [List.getElem?_cons_zero, Option.some.injEq] at hs ht
      subst hs ht
      by_cases h2 : c.length = 0
      · rw [if_pos h2]
        obtain rfl := List.eq_nil_of_length_eq_zero h2
        refine ⟨by unfold rightB; simp, ?_⟩
        unfold subL rightB; simp
      · rw [if_neg h2]
        have hr : rightB (l ++ c).length (l.length : Int) (c.length : Int) = true := by unfold rightB; simp; omega
        refine ⟨hr, ?_⟩
        unfold subL
        rw [if_pos hr]
        simp

/-- Rows of unlike elements never share a block. -/
theorem own_own_ne {w : World} {B B' : Nat} {e e' : TypeId} {sz sz' n n' : Nat} {v v' : Value} {xs xs' : List Value} (h : w.ownsRow B e sz v n xs) (h' : w.ownsRow B' e' sz' v' n' xs') (hne : e ≠ e') : v.ownBlock = none ∨ v.ownBlock ≠ v'.ownBlock := by
  rcases h.2 with ⟨rfl, _⟩ | ⟨g, cap, cur, rfl, _, hh, _⟩
  · exact .inl rfl
  · right
    intro he
    exact own_ne h' hh (fun e => hne e.symm) he.symm
theorem own_grown {w w' : World} {B B' : Nat} {e e' : TypeId} {sz sz' n n' : Nat} {v v' : Value} {xs xs' : List Value} (h : w.ownsRow B e sz v n xs) (h' : w.ownsRow B' e' sz' v' n' xs') (hne : e ≠ e') (hg : w.grownBy w' v'.ownBlock) : w'.ownsRow B e sz v n xs :=
  h.kept hg (own_own_ne h h' hne)
theorem Ar.grown {w w' : World} {B B' p : Nat} {l : List UInt8} {e' : TypeId} {sz' n' : Nat} {v' : Value} {xs' : List Value} (h : Ar w B p l) (h' : w.ownsRow B' e' sz' v' n' xs') (h1 : e' ≠ 124) (h2 : e' ≠ 5) (hg : w.grownBy w' v'.ownBlock) : Ar w' B p l := by
  obtain ⟨a, c, e1, e2, e3, e4⟩ := h
  exact ⟨a, c, e1, (hg.block p (lt_of_heap e2) (fun e => own_ne h' e2 h1 e.symm)).trans e2, own_grown e3 h' (fun e => h2 e.symm) hg, e4⟩
theorem SpB.grown {w w' : World} {b B' : Nat} {x y : Int} {e' : TypeId} {sz' n' : Nat} {v' : Value} {xs' : List Value} (h : SpB w b x y) (hlt : b < B') (h' : w.ownsRow B' e' sz' v' n' xs') (hg : w.grownBy w' v'.ownBlock) : SpB w' b x y :=
  ⟨(hg.block b h.lt (fun e => by have := (h'.lt b e.symm).1; omega)).trans h.blk⟩
theorem own_nil (w : World) (B : Nat) (e : TypeId) (sz : Nat) : w.ownsRow B e sz (.slice none 0 0) 0 [] := ⟨by simp, .inl ⟨rfl, rfl⟩⟩

theorem info_span : (Tryz.prog.info? 59).map (fun i => (i.zero, i.size, i.bytes)) = some (some (.agg #[.int .i64 0, .int .i64 0]), 2, 16) := by kernel_rfl
theorem info_string : (Tryz.prog.info? 9).map (fun i => (i.zero, i.size, i.bytes)) = some (some (.string ⟨#[]⟩), 1, 16) := by kernel_rfl

end Go.Proofs.YtkgakgceamafcaaGreat

namespace Go.Proofs.YtkgakgceamafcaaGreat
open Go Go.RowKit
set_option linter.unusedVariables false

/-- An argument that is a slice of texts. -/
structure StrArg (w : World) (a : Option Addr) (c : Nat) (L : List ByteArray) : Prop where
  rd : Rd w 1 a L.length (L.map Value.string)
  fits : L.length ≤ c
  cap : c ≤ maxLen
  size : ∀ s ∈ L, s.size ≤ maxLen

/-- Bytes, and what becomes of them as a text. -/
theorem bytes_str {W w : World} {B p : Nat} {l : List UInt8} (h : Ar w B p l) (hl : l.length ≤ 16384) (x y : Int) (t : List UInt8) (ht : subL l x y = t) (hw : Below W.heap.size W w) :
    Calls Tryz.prog 67 #[.pointer (some ⟨p, 0, none⟩), .agg #[.int .i64 x, .int .i64 y]] w fun e w' => ∃ a n c, e = .returned (.slice a n c) ∧ (convert 32 9 (.slice a n c)).run Tryz.prog w' = .ok (.string (strOf t)) w' ∧ Below W.heap.size W w' := by
  refine (abytes_of h hl x y).mono ?_
  rintro e w' ⟨a, c, rfl, ho, hb⟩
  rw [ht] at ho ⊢
  exact ⟨a, _, c, rfl, string_own ho, hw.trans (hb.mono hw.size)⟩

/-- New memory's Span, 'alloc'. -/
theorem below_al (w : World) (o : Obj) : Below w.heap.size w (w.alloc o) := (Below.refl _ w).alloc (Nat.le_refl _) o

end Go.Proofs.YtkgakgceamafcaaGreat

namespace Go.Proofs.YtkgakgceamafcaaGreat
open Go Go.RowKit
set_option linter.unusedVariables false

/-- A part of a span. -/
def subR (x y i j : Int) : Int × Int := if y < 0 then (0, 0) else (x + min (max i 0) y, min (max j (min (max i 0) y)) y - min (max i 0) y)
/-- Two spans as one. -/
def joinB (x y u v : Int) : Bool := decide (0 ≤ y ∧ 0 ≤ v ∧ u = x + y)
def joinR (x y u v : Int) : Int × Int := if joinB x y u v = true then (x, y + v) else (0, 0)

theorem agg_eq {a b c d : Int} (h1 : a = c) (h2 : b = d) : Ending.returned (.agg #[.int .i64 a, .int .i64 b]) = .returned (.agg #[.int .i64 c, .int .i64 d]) := by rw [h1, h2]

/-- The premise on a span's numbers. -/
def In40 (x : Int) : Prop := -1099511627776 ≤ x ∧ x ≤ 1099511627776
def retJ (r : Int × Int) (b : Bool) : Ending := .returned (.tuple #[.agg #[.int .i64 r.1, .int .i64 r.2], .bool b])
theorem join_ways (x y u v : Int) : (y < 0 ∧ joinB x y u v = false) ∨ (0 ≤ y ∧ v < 0 ∧ joinB x y u v = false) ∨ (0 ≤ y ∧ 0 ≤ v ∧ u ≠ x + y ∧ joinB x y u v = false) ∨ (0 ≤ y ∧ 0 ≤ v ∧ u = x + y ∧ joinB x y u v = true) := by
  unfold joinB; simp only [decide_eq_false_iff_not, decide_eq_true_eq]; omega

set_option maxHeartbeats 1600000 in
theorem join_of (x y u v : Int) (w : World) (hx : In40 x) (hy : In40 y) (hu : In40 u) (hv : In40 v) :
    Calls Tryz.prog 198 #[.agg #[.int .i64 x, .int .i64 y], .agg #[.int .i64 u, .int .i64 v]] w fun e w' => e = retJ (joinR x y u v) (joinB x y u v) ∧ Below w.heap.size w w' := by
  obtain ⟨x0, x1⟩ := hx
  obtain ⟨y0, y1⟩ := hy
  obtain ⟨v0, v1⟩ := hv
  clear hu
  unfold joinR
  rcases join_ways x y u v with ⟨h1, h⟩ | ⟨h1, h2, h⟩ | ⟨h1, h2, h3, h⟩ | ⟨h1, h2, h3, h⟩
  · rw [h, if_neg (by simp)]
    have d1 : decide (y < 0) = true := decide_eq_true h1
    clear h
    go_enter Tryz.func198, Tryz.ntmps198
    go_wp2_with fail
    refine bodyPost_ret (v := .tuple #[.agg #[.int .i64 0, .int .i64 0], .bool false]) (by simp [results, Tryz.results198, go_sem]) rfl ⟨rfl, ?_⟩
    exact (((Below.refl _ _).alloc (Nat.le_refl _) _).alloc (by simp) _).alloc (by simp; omega) _
  · rw [h, if_neg (by simp)]
    have d1 : decide (y < 0) = false := decide_eq_false (by omega)
    have d2 : decide (v < 0) = true := decide_eq_true h2
    clear h
    go_enter Tryz.func198, Tryz.ntmps198
    go_wp2_with fail
    refine bodyPost_ret (v := .tuple #[.agg #[.int .i64 0, .int .i64 0], .bool false]) (by simp [results, Tryz.results198, go_sem]) rfl ⟨rfl, ?_⟩
    exact (((Below.refl _ _).alloc (Nat.le_refl _) _).alloc (by simp) _).alloc (by simp; omega) _
  · rw [h, if_neg (by simp)]
    have d1 : decide (y < 0) = false := decide_eq_false (by omega)
    have d2 : decide (v < 0) = false := decide_eq_false (by omega)
    have d3 : (u == x + y) = false := by rw [beq_eq_false_iff_ne]; exact h3
    have d4 : (u != x + y) = true := by rw [bne_iff_ne]; exact h3
    clear h h3
    go_enter Tryz.func198, Tryz.ntmps198
    go_wp2_with fail
    refine bodyPost_ret (v := .tuple #[.agg #[.int .i64 0, .int .i64 0], .bool false]) (by simp [results, Tryz.results198, go_sem]) rfl ⟨rfl, ?_⟩
    exact (((Below.refl _ _).alloc (Nat.le_refl _) _).alloc (by simp) _).alloc (by simp; omega) _
  · rw [h, if_pos rfl]
    have d1 : decide (y < 0) = false := decide_eq_false (by omega)
    have d2 : decide (v < 0) = false := decide_eq_false (by omega)
    have d3 : (u == x + y) = true := by rw [beq_iff_eq]; exact h3
    have d4 : (u != x + y) = false := by rw [bne_eq_false_iff_eq]; exact h3
    clear h h3
    go_enter Tryz.func198, Tryz.ntmps198
    go_wp2_with fail
    refine bodyPost_ret (v := .tuple #[.agg #[.int .i64 x, .int .i64 (y + v)], .bool true]) (by simp [results, Tryz.results198, go_sem]) rfl ⟨rfl, ?_⟩
    exact (((Below.refl _ _).alloc (Nat.le_refl _) _).alloc (by simp) _).alloc (by simp; omega) _

end Go.Proofs.YtkgakgceamafcaaGreat

namespace Go.Proofs.YtkgakgceamafcaaGreat
open Go Go.RowKit
set_option linter.unusedVariables false

def I64 (x : Int) : Prop := -9223372036854775808 ≤ x ∧ x ≤ 9223372036854775807
/-- One of four numbers. -/
def l4 (x y u v : Int) : Nat → Int
  | 0 => x
  | 1 => y
  | 2 => u
  | _ => v

theorem SpB.draw {w : World} {b : Nat} {x y : Int} (h : SpB w b x y) (n : Nat) : SpB (w.drewN n) b x y := ⟨h.blk⟩
theorem bcell {W w1 : World} (hb : Below W.heap.size W w1) : (∀ b o, b < W.heap.size → w1.cell? ⟨b, o, none⟩ = W.cell? ⟨b, o, none⟩) ∧ (∀ b o, b < W.heap.size → w1.frozen? ⟨b, o, none⟩ = W.frozen? ⟨b, o, none⟩) :=
  ⟨fun b o h => hb.cell (p := ⟨b, o, none⟩) h, fun b o h => hb.frozen (p := ⟨b, o, none⟩) h⟩
/-- A contract, said from an older world on. -/
theorem chain_of {W w : World} {f : FuncId} {args : Array Value} {e0 : Ending} (h : Calls Tryz.prog f args w fun e w' => e = e0 ∧ Below w.heap.size w w') (hw : Below W.heap.size W w) :
    Calls Tryz.prog f args w fun e w' => e = e0 ∧ Below W.heap.size W w' ∧ Below w.heap.size w w' :=
  h.mono fun _ _ ⟨he, hb⟩ => ⟨he, hw.trans (hb.mono hw.size), hb⟩
theorem cell_set_same {w : World} {p : Addr} {a u : Value} (h : w.cell? p = some a) : (w.setCell p u).cell? p = some u := World.cell?_setCell_same _ _ _ h
theorem two_c0 {w : World} {b : Nat} {a : Value} (h : w.cell? ⟨b, 0, none⟩ = some a) (u v : Value) : ((w.setCell ⟨b, 0, none⟩ u).setCell ⟨b, 1, none⟩ v).cell? ⟨b, 0, none⟩ = some u := by
  rw [World.cell?_setCell_other _ _ _ _ (by simp)]
  exact cell_set_same h
theorem two_c1 {w : World} {b : Nat} {a : Value} (h : w.cell? ⟨b, 1, none⟩ = some a) (u v : Value) : ((w.setCell ⟨b, 0, none⟩ u).setCell ⟨b, 1, none⟩ v).cell? ⟨b, 1, none⟩ = some v := by
  refine cell_set_same (a := a) ?_
  rw [World.cell?_setCell_other _ _ _ _ (by simp)]
  exact h
theorem boxes (w : World) (x y u v : Int) (o3 o4 : Obj) (n : Nat) :
    let W := ((((w.alloc (Obj.cells #[Value.int IntKind.i64 x, Value.int IntKind.i64 y] 59)).alloc (Obj.cells #[Value.int IntKind.i64 u, Value.int IntKind.i64 v] 59)).alloc o3).drewN n).alloc o4
    Below w.heap.size w W ∧ SpB W w.heap.size x y ∧ SpB W (w.heap.size + 1) u v ∧ W.heap[w.heap.size + 3]? = some o4 ∧ W.heap.size = w.heap.size + 4 := by
  have al : ∀ (w : World) o, Below w.heap.size w (w.alloc o) := fun w o => (Below.refl _ w).alloc (Nat.le_refl _) o
  have e := SpB.new (w.alloc (Obj.cells #[Value.int IntKind.i64 x, Value.int IntKind.i64 y] 59)) u v
  rw [World.size_alloc] at e
  refine ⟨(below_draw1 (((al w _).alloc (by simp) _).alloc (by simp; omega) _) n).alloc (by simp; omega) _, ((((SpB.new w x y).below (al _ _)).below (al _ _)).draw n).below (al _ _), ((e.below (al _ _)).draw n).below (al _ _), ?_, by simp⟩
  have := heap_alloc_new ((((w.alloc (Obj.cells #[Value.int IntKind.i64 x, Value.int IntKind.i64 y] 59)).alloc (Obj.cells #[Value.int IntKind.i64 u, Value.int IntKind.i64 v] 59)).alloc o3).drewN n) o4
  simpa using this

end Go.Proofs.YtkgakgceamafcaaGreat
