/-
  Texts in rows, as they lie (layer 28), at this seat's numbers.
-/
import Derived.Test.YteipnllefifgiaaTrA
import Derived.Test.YteipnllefifgiaaArC
namespace Go.Proofs.Yteipnllefifgiaa
open Go Go.RowKit
set_option linter.unusedVariables false

def strs (l : List ByteArray) : List Value := l.map Value.string
theorem strs_len (l : List ByteArray) : (strs l).length = l.length := by unfold strs; simp
theorem strs_one (l : List ByteArray) : ∀ u ∈ strs l, u.oneCell' = true := fun v hv => by
  obtain ⟨x, _, rfl⟩ := List.mem_map.1 hv; rfl
theorem strs_at {l : List ByteArray} {k : Nat} {x : ByteArray} (h : l[k]? = some x) : (strs l)[k]? = some (.string x) := by unfold strs; rw [List.getElem?_map, h]; rfl
theorem strs_app (l m : List ByteArray) : strs l ++ strs m = strs (l ++ m) := by unfold strs; rw [List.map_append]
theorem strs_set (l : List ByteArray) (i : Nat) (x : ByteArray) : (strs l).set i (.string x) = strs (l.set i x) := by unfold strs; rw [List.map_set]

/-- A row of texts as it lies: where, its room, its texts. -/
abbrev TxM := Option Addr × Nat × List ByteArray
def txV (p : TxM) : Value := .slice p.1 p.2.2.length p.2.1
def txL (T : List TxM) : List (List ByteArray) := T.map fun p => p.2.2
theorem txV_one (T : List TxM) : ∀ u ∈ T.map txV, u.oneCell' = true := fun u hu => by
  obtain ⟨p, _, rfl⟩ := List.mem_map.1 hu; rfl
def Bt (lo hi : Nat) (a : Option Addr) : Prop := ∀ d, a = some d → lo ≤ d.block ∧ d.block < hi
theorem Bt.none (lo hi : Nat) : Bt lo hi Option.none := fun d h => by cases h
theorem Bt.mono {lo hi lo' hi' : Nat} {a : Option Addr} (h : Bt lo hi a) (h1 : lo' ≤ lo) (h2 : hi ≤ hi') : Bt lo' hi' a := fun d hd => ⟨Nat.le_trans h1 (h d hd).1, Nat.lt_of_lt_of_le (h d hd).2 h2⟩

/-- What lies in the blocks from lo on, ahead of hi, is as it was. -/
structure Keep (lo hi : Nat) (w w' : World) : Prop where
  size : w.heap.size ≤ w'.heap.size
  block : ∀ b, lo ≤ b → b < hi → b < w.heap.size → w'.heap[b]? = w.heap[b]?
theorem Keep.of_below {lo hi : Nat} {w w' : World} (h : Below w.heap.size w w') : Keep lo hi w w' := ⟨h.size, fun b _ _ hb => h.block b hb⟩
theorem Keep.trans {lo hi : Nat} {a b c : World} (h : Keep lo hi a b) (k : Keep lo hi b c) : Keep lo hi a c :=
  ⟨Nat.le_trans h.size k.size, fun i h1 h2 h3 => (k.block i h1 h2 (Nat.lt_of_lt_of_le h3 h.size)).trans (h.block i h1 h2 h3)⟩
theorem Keep.mono {lo hi lo' hi' : Nat} {w w' : World} (h : Keep lo hi w w') (h1 : lo ≤ lo') (h2 : hi' ≤ hi) : Keep lo' hi' w w' :=
  ⟨h.size, fun b hb1 hb2 => h.block b (Nat.le_trans h1 hb1) (Nat.lt_of_lt_of_le hb2 h2)⟩
theorem Keep.set {lo hi b o : Nat} {w : World} {u : Value} (h : b < lo ∨ hi ≤ b) : Keep lo hi w (w.setCell ⟨b, o, none⟩ u) :=
  ⟨by rw [show (w.setCell ⟨b, o, none⟩ u).heap.size = w.heap.size by simp [World.setCell]]; exact Nat.le_refl _, fun i h1 h2 _ => Below.heap_setCell w ⟨b, o, none⟩ u i (show i ≠ b by omega)⟩
theorem cell_same {w w' : World} {b o : Nat} (h : w'.heap[b]? = w.heap[b]?) : w'.cell? ⟨b, o, none⟩ = w.cell? ⟨b, o, none⟩ := by
  unfold World.cell?
  rw [show w'.heap[(⟨b, o, none⟩ : Addr).block]? = w.heap[(⟨b, o, none⟩ : Addr).block]? from h]

/-- A slice that lies between lo and hi stays. -/
theorem Sl.keep {lo hi : Nat} {w w' : World} {a : Option Addr} {c : Nat} {xs : List Value} (h : Sl w a c xs) (hb : Bt lo hi a) (k : Keep lo hi w w') : Sl w' a c xs := by
  refine ⟨⟨h.rd.1, fun hn => ?_⟩, h.cap, h.capm, h.nil, h.form, h.one⟩
  obtain ⟨b, off, e, hl, hc⟩ := h.rd.2 hn
  refine ⟨b, off, e, Nat.lt_of_lt_of_le hl k.size, fun j u hu => ?_⟩
  obtain ⟨h1, h2⟩ := hb _ e
  rw [cell_same (k.block b h1 h2 hl)]
  exact hc j u hu

/-- Rows of texts in memory, all between lo and hi. -/
structure Mx (w : World) (lo hi : Nat) (a : Option Addr) (c : Nat) (T : List TxM) : Prop where
  sl : Sl w a c (T.map txV)
  bt : Bt lo hi a
  rd : ∀ p ∈ T, Sl w p.1 p.2.1 (strs p.2.2) ∧ Bt lo hi p.1
theorem Mx.keep {lo hi : Nat} {w w' : World} {a : Option Addr} {c : Nat} {T : List TxM} (h : Mx w lo hi a c T) (k : Keep lo hi w w') : Mx w' lo hi a c T :=
  ⟨h.sl.keep h.bt k, h.bt, fun p hp => ⟨(h.rd p hp).1.keep (h.rd p hp).2 k, (h.rd p hp).2⟩⟩
theorem Mx.below {lo hi : Nat} {w w' : World} {a : Option Addr} {c : Nat} {T : List TxM} (h : Mx w lo hi a c T) (k : Below w.heap.size w w') : Mx w' lo hi a c T := h.keep (Keep.of_below k)
theorem Mx.mono {lo hi lo' hi' : Nat} {w : World} {a : Option Addr} {c : Nat} {T : List TxM} (h : Mx w lo hi a c T) (h1 : lo' ≤ lo) (h2 : hi ≤ hi') : Mx w lo' hi' a c T :=
  ⟨h.sl, h.bt.mono h1 h2, fun p hp => ⟨(h.rd p hp).1, (h.rd p hp).2.mono h1 h2⟩⟩
theorem Mx.nil (w : World) (lo hi : Nat) : Mx w lo hi none 0 [] := ⟨Sl.none w, Bt.none _ _, fun p hp => by simp at hp⟩
/-- The k-th row. -/
theorem Mx.row {lo hi : Nat} {w : World} {a : Option Addr} {c : Nat} {T : List TxM} (h : Mx w lo hi a c T) {k : Nat} {p : TxM} (hk : T[k]? = some p) :
    ∃ g o, a = some ⟨g, o, none⟩ ∧ g < w.heap.size ∧ w.cell? ⟨g, o + k, none⟩ = some (txV p) ∧ Sl w p.1 p.2.1 (strs p.2.2) ∧ Bt lo hi p.1 := by
  have hl := (List.getElem?_eq_some_iff.1 hk).1
  obtain ⟨g, o, e, hg, hc⟩ := h.sl.rd.2 (by rw [List.length_map]; omega)
  exact ⟨g, o, e, hg, hc k _ (by rw [List.getElem?_map, hk]; rfl), h.rd p (List.mem_of_getElem? hk)⟩
theorem Sl.text {w : World} {a : Option Addr} {c : Nat} {l : List ByteArray} (H : Sl w a c (strs l)) {k : Nat} {x : ByteArray} (h : l[k]? = some x) : ∃ g o, a = some ⟨g, o, Option.none⟩ ∧ g < w.heap.size ∧ w.cell? ⟨g, o + k, Option.none⟩ = some (.string x) := by
  have hl := (List.getElem?_eq_some_iff.1 h).1
  obtain ⟨g, o, e, hg, hc⟩ := H.rd.2 (by rw [strs_len]; omega)
  exact ⟨g, o, e, hg, hc k _ (strs_at h)⟩

/-- The type of the block in which a slice lies, which is not frozen. -/
def Ty1 (w : World) (t : TypeId) (a : Option Addr) : Prop := ∀ d, a = some d → ∃ cs, w.heap[d.block]? = some (.cells cs t (0, 0))
theorem own_ty {w : World} {B n c s : Nat} {e : TypeId} {a : Option Addr} {xs : List Value} (h : w.ownsRow B e s (.slice a n c) n xs) : Ty1 w e a := fun d hd => by
  rcases h.2 with ⟨h1, _⟩ | ⟨g, cap, cur, h1, _, hg, _⟩
  · simp only [Value.slice.injEq] at h1
    rw [h1.1] at hd; cases hd
  · simp only [Value.slice.injEq] at h1
    rw [h1.1] at hd; cases hd
    exact ⟨cur, hg⟩
theorem Ty1.same {w w' : World} {t : TypeId} {a : Option Addr} (h : Ty1 w t a) (e : ∀ d, a = some d → w'.heap[d.block]? = w.heap[d.block]?) : Ty1 w' t a := fun d hd => by
  obtain ⟨cs, hc⟩ := h d hd
  exact ⟨cs, (e d hd).trans hc⟩
theorem Ty1.below {w w' : World} {t : TypeId} {a : Option Addr} (h : Ty1 w t a) (hb : Below w.heap.size w w') : Ty1 w' t a := fun d hd => by
  obtain ⟨cs, hc⟩ := h d hd
  exact ⟨cs, (hb.block _ (lt_of_heap hc)).trans hc⟩
/-- Any cell may change but the block's type. -/
theorem Ty1.set {w : World} {t : TypeId} {a : Option Addr} {b o : Nat} {u : Value} (h : Ty1 w t a) : Ty1 (w.setCell ⟨b, o, none⟩ u) t a := fun d hd => by
  obtain ⟨cs, hc⟩ := h d hd
  by_cases e : d.block = b
  · rw [e] at hc ⊢; exact ⟨_, heap_set_at hc⟩
  · exact ⟨cs, (heap_set_other e).trans hc⟩
/-- Rows of texts that can be written to. -/
structure Wr (w : World) (a : Option Addr) (T : List TxM) : Prop where
  out : Ty1 w 61 a
  inn : ∀ p ∈ T, Ty1 w 9 p.1
theorem Wr.below {w w' : World} {a : Option Addr} {T : List TxM} (h : Wr w a T) (hb : Below w.heap.size w w') : Wr w' a T := ⟨h.out.below hb, fun p hp => (h.inn p hp).below hb⟩
theorem Wr.set {w : World} {a : Option Addr} {T : List TxM} {b o : Nat} {u : Value} (h : Wr w a T) : Wr (w.setCell ⟨b, o, none⟩ u) a T := ⟨h.out.set, fun p hp => (h.inn p hp).set⟩

/-- How much texts are. -/
def szL (l : List ByteArray) : Nat := (l.map fun s => s.size + 1).sum
def szM (M : List (List ByteArray)) : Nat := (M.map szL).sum
theorem szL_take {l : List ByteArray} {k : Nat} {x : ByteArray} (h : l[k]? = some x) : szL (l.take (k + 1)) = szL (l.take k) + (x.size + 1) := by
  unfold szL; rw [List.take_add_one, h]; simp
theorem szM_take {M : List (List ByteArray)} {k : Nat} {x : List ByteArray} (h : M[k]? = some x) : szM (M.take (k + 1)) = szM (M.take k) + szL x := by
  unfold szM; rw [List.take_add_one, h]; simp
theorem szL_le {l : List ByteArray} (k : Nat) : szL (l.take k) ≤ szL l := by
  have e := congrArg szL (List.take_append_drop k l)
  unfold szL at *
  rw [← e, List.map_append, List.sum_append]; omega
theorem szM_le {M : List (List ByteArray)} (k : Nat) : szM (M.take k) ≤ szM M := by
  have e := congrArg szM (List.take_append_drop k M)
  unfold szM at *
  rw [← e, List.map_append, List.sum_append]; omega
theorem szM_app (M L : List (List ByteArray)) : szM (M ++ L) = szM M + szM L := by unfold szM; rw [List.map_append, List.sum_append]
theorem szL_len (l : List ByteArray) : l.length ≤ szL l := by
  induction l with
  | nil => simp
  | cons x l ih => unfold szL at *; simp; omega
/-- A register's value. -/
def rgV (k : Int) (a : Option Addr) (n c : Nat) : Value := .agg #[.int .i64 k, .slice a n c]

end Go.Proofs.Yteipnllefifgiaa
