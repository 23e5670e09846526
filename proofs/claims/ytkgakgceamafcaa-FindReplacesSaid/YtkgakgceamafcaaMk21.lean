/-
  Texts of this seat, put together (a claim holds few texts): ArH, ArI, ArF, ArG.
-/
import Derived.Test.YtkgakgceamafcaaMk20
import Derived.Deep.RegionHeld3
import Derived.Deep.DeepCutAuto
import Derived.WalkLawsBesides

namespace Go.Proofs.Ytkgakgceamafcaa
open Go Go.RowKit
set_option linter.unusedVariables false

/-- At most so many bytes of a text. -/
def cutS (s : ByteArray) (n : Nat) : ByteArray := if n < s.size then s.extract 0 n else s
theorem cutS_le (s : ByteArray) (n : Nat) : (cutS s n).size ≤ n := by
  unfold cutS
  split
  · rw [ByteArray.size_extract]; omega
  · omega
/-- A text's bytes, in a slice of new memory. -/
theorem rd_held {w : World} {b cap : Nat} {s : ByteArray} (h : Held w b cap s) : Rd w 1 (some ⟨b, 0, none⟩) s.data.toList.length (bc s.data.toList) := by
  refine ⟨by rw [bc_len]; omega, fun hn => ⟨b, 0, rfl, h.lies, fun j u hu => ?_⟩⟩
  have hj : j < s.data.toList.length := by
    rcases Nat.lt_or_ge j s.data.toList.length with h' | h'
    · exact h'
    · rw [List.getElem?_eq_none (by rw [bc_len]; exact h')] at hu; cases hu
  have := h.bytes j hj
  rw [this]
  rw [nums_at hj] at hu
  injection hu with hu
  rw [← hu]
  unfold bt nums
  rw [List.getD_eq_getElem?_getD, List.getElem?_eq_getElem hj, List.getD_eq_getElem?_getD, List.getElem?_map, List.getElem?_eq_getElem hj]
  rfl

/-- The cells of spans, and of texts. -/
def spC (l : List (Int × Int)) : List Value := l.flatMap fun s => [.int .i64 s.1, .int .i64 s.2]
def txC (l : List (List UInt8)) : List Value := l.map fun t => .string (strOf t)
theorem spC_len (l : List (Int × Int)) : (spC l).length = l.length * 2 := by
  induction l with
  | nil => rfl
  | cons s l ih => simp only [spC, List.flatMap_cons, List.length_append, List.length_cons, List.length_nil] at *; omega
theorem spC_snoc (l : List (Int × Int)) (s : Int × Int) : spC (l ++ [s]) = spC l ++ [.int .i64 s.1, .int .i64 s.2] := by simp [spC]
theorem txC_snoc (l : List (List UInt8)) (t : List UInt8) : txC (l ++ [t]) = txC l ++ [.string (strOf t)] := by simp [txC]
theorem spC_at (l : List (Int × Int)) (k : Nat) (s : Int × Int) (h : l[k]? = some s) : (spC l)[k * 2]? = some (.int .i64 s.1) ∧ (spC l)[k * 2 + 1]? = some (.int .i64 s.2) := by
  induction l generalizing k with
  | nil => simp at h
  | cons a l ih =>
    cases k with
    | zero => simp at h; subst h; simp [spC]
    | succ k =>
      have := ih k (by simpa using h)
      have e : spC (a :: l) = .int .i64 a.1 :: .int .i64 a.2 :: spC l := by simp [spC]
      rw [e, show (k + 1) * 2 = (k * 2 + 1) + 1 by omega]
      simpa using this

/-- Each span tells its text. -/
def Told (l : List UInt8) (sp : List (Int × Int)) (tx : List (List UInt8)) : Prop :=
  sp.length = tx.length ∧ ∀ (i : Nat) (s : Int × Int) (t : List UInt8), sp[i]? = some s → tx[i]? = some t → rightB l.length s.1 s.2 = true ∧ subL l s.1 s.2 = t
theorem told_nil (l : List UInt8) : Told l [] [] := ⟨rfl, fun i s t h => by simp at h⟩
theorem right_more {n k : Nat} {x y : Int} (h : rightB n x y = true) : rightB (n + k) x y = true := by
  unfold rightB at *; simp only [decide_eq_true_eq] at *; omega
theorem sub_more {l c : List UInt8} {x y : Int} (h : rightB l.length x y = true) : subL (l ++ c) x y = subL l x y := by
  unfold subL
  rw [List.length_append, if_pos (right_more h), if_pos h]
  unfold rightB at h
  simp only [decide_eq_true_eq] at h
  rw [List.drop_append_of_le_length (by omega), List.take_append_of_le_length (by simp; omega)]
theorem told_more {l : List UInt8} {sp : List (Int × Int)} {tx : List (List UInt8)} (h : Told l sp tx) (c : List UInt8) : Told (l ++ c) sp tx :=
  ⟨h.1, fun i s t hs ht => by
    obtain ⟨h1, h2⟩ := h.2 i s t hs ht
    exact ⟨by rw [List.length_append]; exact right_more h1, by rw [sub_more h1]; exact h2⟩⟩
theorem subL_le (l : List UInt8) (x y : Int) : (subL l x y).length ≤ l.length := by
  unfold subL
  split
  · simp; omega
  · simp
theorem told_full {l c : List UInt8} (h : (addR l c).2.2 ≠ 0) : addL l c = l := by
  unfold addR at h
  unfold addL
  split at h
  · rename_i h1; rw [if_pos h1]
  · split at h <;> exact absurd rfl h
theorem told_add {l c : List UInt8} {sp : List (Int × Int)} {tx : List (List UInt8)} (h : Told l sp tx) (he : (addR l c).2.2 = 0) :
    Told (addL l c) (sp ++ [((addR l c).1, (addR l c).2.1)]) (tx ++ [c]) := by
  unfold addR at he ⊢
  unfold addL
  split at he
  · cases he
  · rename_i h1
    rw [if_neg h1, if_neg h1]
    have hm := told_more h c
    refine ⟨by simp [h.1], fun i s t hs ht => ?_⟩
    rcases Nat.lt_or_ge i sp.length with hi | hi
    · rw [List.getElem?_append_left hi] at hs
      rw [List.getElem?_append_left (by rw [← h.1]; exact hi)] at ht
      exact hm.2 i s t hs ht
    · rw [List.getElem?_append_right hi] at hs
      rw [List.getElem?_append_right (by rw [← h.1]; exact hi), ← h.1] at ht
      have hi0 : i - sp.length = 0 := by
        rcases Nat.eq_zero_or_pos (i - sp.length) with h0 | h0
        · exact h0
        · rw [List.getElem?_eq_none (by simp; omega)] at hs; cases hs
      rw [hi0] at hs ht
      simp only [List.getElem?_cons_zero, Option.some.injEq] at hs ht
      subst hs ht
      by_cases h2 : c.length = 0
      · rw [if_pos h2]
        obtain rfl := List.eq_nil_of_length_eq_zero h2
        refine ⟨by unfold rightB; simp, ?_⟩
        unfold subL rightB; simp
      · rw [if_neg h2]
        have hr : rightB (l ++ c).length (l.length : Int) (c.length : Int) = true := by unfold rightB; simp; omega
        refine ⟨hr, ?_⟩
        unfold subL
        rw [if_pos hr]
        simp

/-- Rows of unlike elements never share a block. -/
theorem own_own_ne {w : World} {B B' : Nat} {e e' : TypeId} {sz sz' n n' : Nat} {v v' : Value} {xs xs' : List Value} (h : w.ownsRow B e sz v n xs) (h' : w.ownsRow B' e' sz' v' n' xs') (hne : e ≠ e') : v.ownBlock = none ∨ v.ownBlock ≠ v'.ownBlock := by
  rcases h.2 with ⟨rfl, _⟩ | ⟨g, cap, cur, rfl, _, hh, _⟩
  · exact .inl rfl
  · right
    intro he
    exact own_ne h' hh (fun e => hne e.symm) he.symm
theorem own_grown {w w' : World} {B B' : Nat} {e e' : TypeId} {sz sz' n n' : Nat} {v v' : Value} {xs xs' : List Value} (h : w.ownsRow B e sz v n xs) (h' : w.ownsRow B' e' sz' v' n' xs') (hne : e ≠ e') (hg : w.grownBy w' v'.ownBlock) : w'.ownsRow B e sz v n xs :=
  h.kept hg (own_own_ne h h' hne)
theorem Ar.grown {w w' : World} {B B' p : Nat} {l : List UInt8} {e' : TypeId} {sz' n' : Nat} {v' : Value} {xs' : List Value} (h : Ar w B p l) (h' : w.ownsRow B' e' sz' v' n' xs') (h1 : e' ≠ 87) (h2 : e' ≠ 5) (hg : w.grownBy w' v'.ownBlock) : Ar w' B p l := by
  obtain ⟨a, c, e1, e2, e3, e4⟩ := h
  exact ⟨a, c, e1, (hg.block p (lt_of_heap e2) (fun e => own_ne h' e2 h1 e.symm)).trans e2, own_grown e3 h' (fun e => h2 e.symm) hg, e4⟩
theorem SpB.grown {w w' : World} {b B' : Nat} {x y : Int} {e' : TypeId} {sz' n' : Nat} {v' : Value} {xs' : List Value} (h : SpB w b x y) (hlt : b < B') (h' : w.ownsRow B' e' sz' v' n' xs') (hg : w.grownBy w' v'.ownBlock) : SpB w' b x y :=
  ⟨(hg.block b h.lt (fun e => by have := (h'.lt b e.symm).1; omega)).trans h.blk⟩
theorem own_nil (w : World) (B : Nat) (e : TypeId) (sz : Nat) : w.ownsRow B e sz (.slice none 0 0) 0 [] := ⟨by simp, .inl ⟨rfl, rfl⟩⟩

theorem info_span : (Try.prog.info? 91).map (fun i => (i.zero, i.size, i.bytes)) = some (some (.agg #[.int .i64 0, .int .i64 0]), 2, 16) := by kernel_rfl
theorem info_string : (Try.prog.info? 9).map (fun i => (i.zero, i.size, i.bytes)) = some (some (.string ⟨#[]⟩), 1, 16) := by kernel_rfl

end Go.Proofs.Ytkgakgceamafcaa

namespace Go.Proofs.Ytkgakgceamafcaa
open Go Go.RowKit
set_option linter.unusedVariables false

/-- An argument that is a slice of texts. -/
structure StrArg (w : World) (a : Option Addr) (c : Nat) (L : List ByteArray) : Prop where
  rd : Rd w 1 a L.length (L.map Value.string)
  fits : L.length ≤ c
  cap : c ≤ maxLen
  size : ∀ s ∈ L, s.size ≤ maxLen

/-- Bytes, and what becomes of them as a text. -/
theorem bytes_str {W w : World} {B p : Nat} {l : List UInt8} (h : Ar w B p l) (hl : l.length ≤ 16384) (x y : Int) (t : List UInt8) (ht : subL l x y = t) (hw : Below W.heap.size W w) :
    Calls Try.prog 82 #[.pointer (some ⟨p, 0, none⟩), .agg #[.int .i64 x, .int .i64 y]] w fun e w' => ∃ a n c, e = .returned (.slice a n c) ∧ (convert 23 9 (.slice a n c)).run Try.prog w' = .ok (.string (strOf t)) w' ∧ Below W.heap.size W w' := by
  refine (abytes_of h hl x y).mono ?_
  rintro e w' ⟨a, c, rfl, ho, hb⟩
  rw [ht] at ho ⊢
  exact ⟨a, _, c, rfl, string_own ho, hw.trans (hb.mono hw.size)⟩

/-- New memory's Span, 'alloc'. -/
theorem below_al (w : World) (o : Obj) : Below w.heap.size w (w.alloc o) := (Below.refl _ w).alloc (Nat.le_refl _) o

end Go.Proofs.Ytkgakgceamafcaa

namespace Go.Proofs.Ytkgakgceamafcaa
open Go Go.RowKit
set_option linter.unusedVariables false

/-- A part of a span. -/
def subR (x y i j : Int) : Int × Int := if y < 0 then (0, 0) else (x + min (max i 0) y, min (max j (min (max i 0) y)) y - min (max i 0) y)
/-- Two spans as one. -/
def joinB (x y u v : Int) : Bool := decide (0 ≤ y ∧ 0 ≤ v ∧ u = x + y)
def joinR (x y u v : Int) : Int × Int := if joinB x y u v = true then (x, y + v) else (0, 0)

theorem agg_eq {a b c d : Int} (h1 : a = c) (h2 : b = d) : Ending.returned (.agg #[.int .i64 a, .int .i64 b]) = .returned (.agg #[.int .i64 c, .int .i64 d]) := by rw [h1, h2]

/-- The premise on a span's numbers. -/
def In40 (x : Int) : Prop := -1099511627776 ≤ x ∧ x ≤ 1099511627776
def retJ (r : Int × Int) (b : Bool) : Ending := .returned (.tuple #[.agg #[.int .i64 r.1, .int .i64 r.2], .bool b])
theorem join_ways (x y u v : Int) : (y < 0 ∧ joinB x y u v = false) ∨ (0 ≤ y ∧ v < 0 ∧ joinB x y u v = false) ∨ (0 ≤ y ∧ 0 ≤ v ∧ u ≠ x + y ∧ joinB x y u v = false) ∨ (0 ≤ y ∧ 0 ≤ v ∧ u = x + y ∧ joinB x y u v = true) := by
  unfold joinB; simp only [decide_eq_false_iff_not, decide_eq_true_eq]; omega

set_option maxHeartbeats 1600000 in
theorem join_of (x y u v : Int) (w : World) (hx : In40 x) (hy : In40 y) (hu : In40 u) (hv : In40 v) :
    Calls Try.prog 78 #[.agg #[.int .i64 x, .int .i64 y], .agg #[.int .i64 u, .int .i64 v]] w fun e w' => e = retJ (joinR x y u v) (joinB x y u v) ∧ Below w.heap.size w w' := by
  obtain ⟨x0, x1⟩ := hx
  obtain ⟨y0, y1⟩ := hy
  obtain ⟨v0, v1⟩ := hv
  clear hu
  unfold joinR
  rcases join_ways x y u v with ⟨h1, h⟩ | ⟨h1, h2, h⟩ | ⟨h1, h2, h3, h⟩ | ⟨h1, h2, h3, h⟩
  · rw [h, if_neg (by simp)]
    have d1 : decide (y < 0) = true := decide_eq_true h1
    clear h
    go_enter Try.func78, Try.ntmps78
    go_wp2_with fail
    refine bodyPost_ret (v := .tuple #[.agg #[.int .i64 0, .int .i64 0], .bool false]) (by simp [results, Try.results78, go_sem]) rfl ⟨rfl, ?_⟩
    exact (((Below.refl _ _).alloc (Nat.le_refl _) _).alloc (by simp) _).alloc (by simp; omega) _
  · rw [h, if_neg (by simp)]
    have d1 : decide (y < 0) = false := decide_eq_false (by omega)
    have d2 : decide (v < 0) = true := decide_eq_true h2
    clear h
    go_enter Try.func78, Try.ntmps78
    go_wp2_with fail
    refine bodyPost_ret (v := .tuple #[.agg #[.int .i64 0, .int .i64 0], .bool false]) (by simp [results, Try.results78, go_sem]) rfl ⟨rfl, ?_⟩
    exact (((Below.refl _ _).alloc (Nat.le_refl _) _).alloc (by simp) _).alloc (by simp; omega) _
  · rw [h, if_neg (by simp)]
    have d1 : decide (y < 0) = false := decide_eq_false (by omega)
    have d2 : decide (v < 0) = false := decide_eq_false (by omega)
    have d3 : (u == x + y) = false := by rw [beq_eq_false_iff_ne]; exact h3
    have d4 : (u != x + y) = true := by rw [bne_iff_ne]; exact h3
    clear h h3
    go_enter Try.func78, Try.ntmps78
    go_wp2_with fail
    refine bodyPost_ret (v := .tuple #[.agg #[.int .i64 0, .int .i64 0], .bool false]) (by simp [results, Try.results78, go_sem]) rfl ⟨rfl, ?_⟩
    exact (((Below.refl _ _).alloc (Nat.le_refl _) _).alloc (by simp) _).alloc (by simp; omega) _
  · rw [h, if_pos rfl]
    have d1 : decide (y < 0) = false := decide_eq_false (by omega)
    have d2 : decide (v < 0) = false := decide_eq_false (by omega)
    have d3 : (u == x + y) = true := by rw [beq_iff_eq]; exact h3
    have d4 : (u != x + y) = false := by rw [bne_eq_false_iff_eq]; exact h3
    clear h h3
    go_enter Try.func78, Try.ntmps78
    go_wp2_with fail
    refine bodyPost_ret (v := .tuple #[.agg #[.int .i64 x, .int .i64 (y + v)], .bool true]) (by simp [results, Try.results78, go_sem]) rfl ⟨rfl, ?_⟩
    exact (((Below.refl _ _).alloc (Nat.le_refl _) _).alloc (by simp) _).alloc (by simp; omega) _

end Go.Proofs.Ytkgakgceamafcaa

namespace Go.Proofs.Ytkgakgceamafcaa
open Go Go.RowKit
set_option linter.unusedVariables false

def I64 (x : Int) : Prop := -9223372036854775808 ≤ x ∧ x ≤ 9223372036854775807
/-- One of four numbers. -/
def l4 (x y u v : Int) : Nat → Int
  | 0 => x
  | 1 => y
  | 2 => u
  | _ => v

theorem SpB.draw {w : World} {b : Nat} {x y : Int} (h : SpB w b x y) (n : Nat) : SpB (w.drewN n) b x y := ⟨h.blk⟩
theorem bcell {W w1 : World} (hb : Below W.heap.size W w1) : (∀ b o, b < W.heap.size → w1.cell? ⟨b, o, none⟩ = W.cell? ⟨b, o, none⟩) ∧ (∀ b o, b < W.heap.size → w1.frozen? ⟨b, o, none⟩ = W.frozen? ⟨b, o, none⟩) :=
  ⟨fun b o h => hb.cell (p := ⟨b, o, none⟩) h, fun b o h => hb.frozen (p := ⟨b, o, none⟩) h⟩
/-- A contract, said from an older world on. -/
theorem chain_of {W w : World} {f : FuncId} {args : Array Value} {e0 : Ending} (h : Calls Try.prog f args w fun e w' => e = e0 ∧ Below w.heap.size w w') (hw : Below W.heap.size W w) :
    Calls Try.prog f args w fun e w' => e = e0 ∧ Below W.heap.size W w' ∧ Below w.heap.size w w' :=
  h.mono fun _ _ ⟨he, hb⟩ => ⟨he, hw.trans (hb.mono hw.size), hb⟩
theorem cell_set_same {w : World} {p : Addr} {a u : Value} (h : w.cell? p = some a) : (w.setCell p u).cell? p = some u := World.cell?_setCell_same _ _ _ h
theorem two_c0 {w : World} {b : Nat} {a : Value} (h : w.cell? ⟨b, 0, none⟩ = some a) (u v : Value) : ((w.setCell ⟨b, 0, none⟩ u).setCell ⟨b, 1, none⟩ v).cell? ⟨b, 0, none⟩ = some u := by
  rw [World.cell?_setCell_other _ _ _ _ (by simp)]
  exact cell_set_same h
theorem two_c1 {w : World} {b : Nat} {a : Value} (h : w.cell? ⟨b, 1, none⟩ = some a) (u v : Value) : ((w.setCell ⟨b, 0, none⟩ u).setCell ⟨b, 1, none⟩ v).cell? ⟨b, 1, none⟩ = some v := by
  refine cell_set_same (a := a) ?_
  rw [World.cell?_setCell_other _ _ _ _ (by simp)]
  exact h
theorem boxes (w : World) (x y u v : Int) (o3 o4 : Obj) (n : Nat) :
    let W := ((((w.alloc (Obj.cells #[Value.int IntKind.i64 x, Value.int IntKind.i64 y] 91)).alloc (Obj.cells #[Value.int IntKind.i64 u, Value.int IntKind.i64 v] 91)).alloc o3).drewN n).alloc o4
    Below w.heap.size w W ∧ SpB W w.heap.size x y ∧ SpB W (w.heap.size + 1) u v ∧ W.heap[w.heap.size + 3]? = some o4 ∧ W.heap.size = w.heap.size + 4 := by
  have al : ∀ (w : World) o, Below w.heap.size w (w.alloc o) := fun w o => (Below.refl _ w).alloc (Nat.le_refl _) o
  have e := SpB.new (w.alloc (Obj.cells #[Value.int IntKind.i64 x, Value.int IntKind.i64 y] 91)) u v
  rw [World.size_alloc] at e
  refine ⟨(below_draw1 (((al w _).alloc (by simp) _).alloc (by simp; omega) _) n).alloc (by simp; omega) _, ((((SpB.new w x y).below (al _ _)).below (al _ _)).draw n).below (al _ _), ((e.below (al _ _)).draw n).below (al _ _), ?_, by simp⟩
  have := heap_alloc_new ((((w.alloc (Obj.cells #[Value.int IntKind.i64 x, Value.int IntKind.i64 y] 91)).alloc (Obj.cells #[Value.int IntKind.i64 u, Value.int IntKind.i64 v] 91)).alloc o3).drewN n) o4
  simpa using this

end Go.Proofs.Ytkgakgceamafcaa
