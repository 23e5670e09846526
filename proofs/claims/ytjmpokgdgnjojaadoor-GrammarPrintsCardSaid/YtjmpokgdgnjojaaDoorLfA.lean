/-
  A queue of numbers in memory: its numbers, and the map of their places, at this seat's numbers.
-/
import Derived.Test.YtjmpokgdgnjojaaDoorLfP
import Derived.BigRegion
import Derived.Maps.OwnSet
import Derived.Maps.OwnOps
import Derived.Maps.Views
namespace Go.Proofs.YtjmpokgdgnjojaaDoor
open Go Go.RowKit
set_option linter.unusedVariables false

def nums (l : List Int) : List Value := l.map (Value.int .i64)
theorem nums_len (l : List Int) : (nums l).length = l.length := by unfold nums; simp
theorem nums_one (l : List Int) : ∀ u ∈ nums l, u.oneCell' = true := fun v hv => by
  unfold nums at hv
  obtain ⟨x, _, rfl⟩ := List.mem_map.1 hv
  rfl
theorem nums_at {l : List Int} {k : Nat} {x : Int} (h : l[k]? = some x) : (nums l)[k]? = some (.int .i64 x) := by unfold nums; rw [List.getElem?_map, h]; rfl
theorem nums_take (l : List Int) (n : Nat) : (nums l).take n = nums (l.take n) := by unfold nums; rw [List.map_take]
theorem nums_drop (l : List Int) (n : Nat) : (nums l).drop n = nums (l.drop n) := by unfold nums; rw [List.map_drop]
theorem nums_app (l m : List Int) : nums l ++ nums m = nums (l ++ m) := by unfold nums; rw [List.map_append]
theorem nums_set (l : List Int) (i : Nat) (x : Int) : (nums l).set i (.int .i64 x) = nums (l.set i x) := by unfold nums; rw [List.map_set]
theorem nums_inj {l m : List Int} (h : nums l = nums m) : l = m := by
  unfold nums at h
  exact (List.map_inj_right (fun a b hab => by injection hab)).1 h
theorem Sl.num {w : World} {g o c : Nat} {l : List Int} (H : Sl w (some ⟨g, o, Option.none⟩) c (nums l)) {k : Nat} {x : Int} (h : l[k]? = some x) : w.cell? ⟨g, o + k, Option.none⟩ = some (.int .i64 x) ∧ g < w.heap.size := by
  have hk := (List.getElem?_eq_some_iff.1 h).1
  obtain ⟨g', o', e, hg, hc⟩ := H.rd.2 (by rw [nums_len]; omega)
  cases e
  exact ⟨hc k _ (nums_at h), hg⟩
theorem Sl.numsome {w : World} {a : Option Addr} {c : Nat} {l : List Int} (H : Sl w a c (nums l)) (h : 0 < l.length) : ∃ g o, a = Option.some ⟨g, o, Option.none⟩ := by
  obtain ⟨g', o', e, hg, hc⟩ := H.rd.2 (by rw [nums_len]; omega)
  exact ⟨g', o', e⟩

/-- A number as a key, and as an element; a map of numbers. -/
def kI (x : Int) : Lit := .int .i64 x
def dI (x : Int) : DataW Unit := .lit (.int .i64 x)
def Wf (x : Int) : Prop := (Lit.int .i64 x).wf = true
def Mp (w : World) (m n : Nat) (D : DataW Unit) : Prop := w.ownsMap Tryd.prog 3 (plainElem Tryd.prog 3) m n D
theorem lawI : Go.Maps.Keyed Tryd.prog 3 := Go.Maps.int_keyed Tryd.underlying3
theorem zeroI (w : World) : (zeroValue 3).run Tryd.prog w = .ok (.int .i64 0) w := by kernel_rfl
theorem keyI {x : Int} (h : Wf x) : keyOf Tryd.prog 3 (.int .i64 x) = some (kI x) := Go.Maps.keyOf_int_mk Tryd.underlying3 h
theorem isKey (x : Int) : WideAt.IsKeyLit (kI x) := by unfold kI; trivial
theorem key_ne {x y : Int} (h : x ≠ y) : kI x ≠ kI y := fun e => by unfold kI at e; injection e; contradiction
theorem wf_small {n : Nat} (h : n ≤ 1000000) : Wf (n : Int) := WalkArith.wf_i64 (by omega)
theorem plI {x : Int} (h : Wf x) : plainElem (H := Unit) Tryd.prog 3 (.int .i64 x) = some (dI x, []) := Go.plainElem_int Tryd.underlying3 h

theorem Mp.same {w w' : World} {m n : Nat} {D : DataW Unit} (h : Mp w m n D) (e : w'.heap[m]? = w.heap[m]?) : Mp w' m n D := by
  obtain ⟨es, clock, hb, F, hs, hD⟩ := h
  exact ⟨es, clock, e.trans hb, F, hs, hD⟩
theorem Mp.tight {w : World} {m n : Nat} {D : DataW Unit} (h : Mp w m n D) {k : Nat} (e : Maps.size D ≤ k) : Mp w m k D := by
  obtain ⟨es, clock, hb, F, hs, hD⟩ := h
  refine ⟨es, clock, hb, F, ?_, hD⟩
  rw [hD, Maps.size_eq, Go.length_read] at e
  exact e
theorem Mp.obj {w : World} {m n : Nat} {D : DataW Unit} (h : Mp w m n D) : ∃ es clock, w.heap[m]? = some (.map es clock) := by
  obtain ⟨es, clock, hb, _⟩ := h
  exact ⟨es, clock, hb⟩

/-- The map tells where each number stands. -/
structure Ix (D : DataW Unit) (R : List Int) : Prop where
  has : ∀ k, k < R.length → Maps.has D (kI (gN R k)) = true ∧ D.atKey (kI (gN R k)) (dI 0) = dI k
  no : ∀ x, x ∉ R → Maps.has D (kI x) = false
  tidy : Maps.Tidy D
  size : Maps.size D = R.length
theorem Ix.nil : Ix (.map [] : DataW Unit) [] := ⟨fun k h => absurd h (by simp), fun x _ => rfl, Maps.tidy_empty, rfl⟩
theorem gN_app {R : List Int} {x : Int} {k : Nat} (h : k < R.length) : gN (R ++ [x]) k = gN R k := by
  unfold gN; rw [List.getD_eq_getElem?_getD, List.getElem?_append_left h, List.getD_eq_getElem?_getD]
theorem gN_last (R : List Int) (x : Int) : gN (R ++ [x]) R.length = x := by
  unfold gN; rw [List.getD_eq_getElem?_getD, List.getElem?_append_right (Nat.le_refl _), Nat.sub_self]; rfl
theorem gN_mem {R : List Int} {k : Nat} (h : k < R.length) : gN R k ∈ R := List.mem_of_getElem? (gN_at h)
theorem gN_inj {R : List Int} (hN : R.Nodup) {i j : Nat} (hi : i < R.length) (hj : j < R.length) (e : gN R i = gN R j) : i = j := by
  have h1 := gN_at hi
  have h2 := gN_at hj
  rw [e] at h1
  have := (List.getElem?_inj hi hN).1 (h1.trans h2.symm)
  exact this
theorem mem_gN {R : List Int} {x : Int} (h : x ∈ R) : ∃ k, k < R.length ∧ gN R k = x := by
  obtain ⟨k, hk⟩ := List.mem_iff_getElem?.1 h
  have hl := (List.getElem?_eq_some_iff.1 hk).1
  refine ⟨k, hl, ?_⟩
  have := gN_at hl
  rw [hk] at this
  exact (Option.some.inj this).symm
theorem Ix.is {D : DataW Unit} {R : List Int} (h : Ix D R) (x : Int) : Maps.has D (kI x) = decide (x ∈ R) := by
  by_cases hx : x ∈ R
  · obtain ⟨k, hk, rfl⟩ := mem_gN hx
    rw [(h.has k hk).1]; simp [hx]
  · rw [h.no x hx]; simp [hx]
theorem Ix.push {D : DataW Unit} {R : List Int} (h : Ix D R) {x : Int} (hx : x ∉ R) : Ix (D.put (kI x) (dI R.length)) (R ++ [x]) := by
  refine ⟨fun k hk => ?_, fun y hy => ?_, h.tidy.put (isKey x) _, ?_⟩
  · rcases Nat.lt_or_ge k R.length with hl | hl
    · rw [gN_app hl]
      have hne : gN R k ≠ x := fun e => hx (e ▸ gN_mem hl)
      rw [Maps.has_put_other (key_ne hne), Maps.atKey_put_other (key_ne hne)]
      exact h.has k hl
    · have : k = R.length := by simp at hk; omega
      subst this
      rw [gN_last, Maps.has_put_same h.tidy.isMap (isKey x), Maps.atKey_put_same h.tidy.isMap (isKey x)]
      exact ⟨rfl, rfl⟩
  · have h1 : y ∉ R := fun e => hy (by simp [e])
    have h2 : y ≠ x := fun e => hy (by simp [e])
    rw [Maps.has_put_other (key_ne h2)]; exact h.no y h1
  · rw [Maps.size_put h.tidy, h.no x hx, h.size]; simp
theorem Ix.pop {D : DataW Unit} {R : List Int} {x : Int} (h : Ix D (R ++ [x])) (hN : (R ++ [x]).Nodup) : Ix (D.del (kI x)) R := by
  have hx : x ∉ R := fun e => by
    have := List.nodup_append.1 hN
    exact this.2.2 x e x (by simp) rfl
  have hh := h.has R.length (by simp)
  rw [gN_last] at hh
  refine ⟨fun k hk => ?_, fun y hy => ?_, h.tidy.del _, ?_⟩
  · have hne : gN R k ≠ x := fun e => hx (e ▸ gN_mem hk)
    rw [Maps.has_del_other (key_ne hne), Maps.atKey_del_other (key_ne hne)]
    have := h.has k (by simp; omega)
    rwa [gN_app hk] at this
  · by_cases e : y = x
    · subst e; exact Maps.has_del_same
    · rw [Maps.has_del_other (key_ne e)]
      exact h.no y (by simp [hy, e])
  · have h1 := Maps.size_del (k := kI x) h.tidy
    rw [hh.1, h.size] at h1
    simp at h1
    exact h1
theorem Ix.swap {D : DataW Unit} {R : List Int} (h : Ix D R) (hN : R.Nodup) {i j : Nat} (hi : i < R.length) (hj : j < R.length) : Ix ((D.put (kI (gN R j)) (dI i)).put (kI (gN R i)) (dI j)) (swapE R i j) := by
  have hij : i = j ∨ gN R i ≠ gN R j := by
    by_cases e : i = j
    · exact .inl e
    · exact .inr (fun e' => e (gN_inj hN hi hj e'))
  have t1 : Maps.Tidy (D.put (kI (gN R j)) (dI i)) := h.tidy.put (isKey _) _
  refine ⟨fun k hk => ?_, fun y hy => ?_, t1.put (isKey _) _, ?_⟩
  · rw [swap_len] at hk
    rw [gN_swap hi hj]
    by_cases e1 : k = j
    · subst e1
      rw [if_pos rfl, Maps.has_put_same t1.isMap (isKey _), Maps.atKey_put_same t1.isMap (isKey _)]
      exact ⟨rfl, rfl⟩
    · rw [if_neg e1]
      by_cases e2 : k = i
      · subst e2
        rw [if_pos rfl]
        rcases hij with e | e
        · exact absurd e e1
        · rw [Maps.has_put_other (key_ne e.symm), Maps.atKey_put_other (key_ne e.symm), Maps.has_put_same h.tidy.isMap (isKey _), Maps.atKey_put_same h.tidy.isMap (isKey _)]
          exact ⟨rfl, rfl⟩
      · rw [if_neg e2]
        have n1 : gN R k ≠ gN R i := fun e => e2 (gN_inj hN hk hi e)
        have n2 : gN R k ≠ gN R j := fun e => e1 (gN_inj hN hk hj e)
        rw [Maps.has_put_other (key_ne n1), Maps.atKey_put_other (key_ne n1), Maps.has_put_other (key_ne n2), Maps.atKey_put_other (key_ne n2)]
        exact h.has k hk
  · have hy' : y ∉ R := fun e => hy ((by
      rcases Nat.lt_or_ge i j with hl | hl
      · exact (swap_perm hl hj).mem_iff.2 e
      · rcases Nat.lt_or_ge j i with hl' | hl'
        · have : swapE R i j = swapE R j i := by
            unfold swapE
            rw [List.set_comm _ _ (by omega)]
          rw [this]
          exact (swap_perm hl' hi).mem_iff.2 e
        · have : i = j := by omega
          rw [this, swap_self]; exact e))
    have n1 : y ≠ gN R i := fun e => hy' (e ▸ gN_mem hi)
    have n2 : y ≠ gN R j := fun e => hy' (e ▸ gN_mem hj)
    rw [Maps.has_put_other (key_ne n1), Maps.has_put_other (key_ne n2)]
    exact h.no y hy'
  · have a1 := (h.has j hj).1
    have a2 := (h.has i hi).1
    have s1 : Maps.size (D.put (kI (gN R j)) (dI i)) = Maps.size D := by rw [Maps.size_put h.tidy, a1]; simp
    have a3 : Maps.has (D.put (kI (gN R j)) (dI i)) (kI (gN R i)) = true := by
      rcases hij with e | e
      · subst e; exact Maps.has_put_same h.tidy.isMap (isKey _) _
      · rw [Maps.has_put_other (key_ne e)]; exact a2
    rw [Maps.size_put t1, a3, s1, h.size, swap_len]; simp

/-- An address of a row's block. -/
def adr (g : Option Nat) : Option Addr := g.map fun b => ⟨b, 0, none⟩
theorem own_same {w w' : World} {B e size n : Nat} {v : Value} {xs : List Value} (h : w.ownsRow B e size v n xs) (hb : ∀ b, v.ownBlock = some b → w'.heap[b]? = w.heap[b]?) : w'.ownsRow B e size v n xs := by
  refine ⟨h.1, ?_⟩
  rcases h.2 with hn | ⟨g, cap, cur, rfl, hg, hgg, rest⟩
  · exact .inl hn
  · exact .inr ⟨g, cap, cur, rfl, hg, (hb g rfl).trans hgg, rest⟩
theorem adr_own (g : Option Nat) (n c : Nat) : (Value.slice (adr g) n c).ownBlock = g := by cases g <;> rfl

/-- What calls leave that turn one queue's memory alone. -/
structure Mv (p m : Nat) (g g' : Option Nat) (w w' : World) : Prop where
  low : Below 0 w w'
  rest : ∀ b, b < w.heap.size → b ≠ p → b ≠ m → g ≠ some b → w'.heap[b]? = w.heap[b]?
  new : ∀ b, g' = some b → g = some b ∨ w.heap.size ≤ b
theorem Mv.refl (p m : Nat) (g : Option Nat) (w : World) : Mv p m g g w w := ⟨Below.refl _ _, fun _ _ _ _ _ => rfl, fun b e => .inl e⟩
theorem Mv.of_below {p m : Nat} {g : Option Nat} {w w' : World} (h : Below w.heap.size w w') : Mv p m g g w w' := ⟨h.mono (Nat.zero_le _), fun b hb _ _ _ => h.block b hb, fun b e => .inl e⟩
theorem Mv.trans {p m : Nat} {g g1 g2 : Option Nat} {a b c : World} (h : Mv p m g g1 a b) (k : Mv p m g1 g2 b c) : Mv p m g g2 a c := by
  refine ⟨h.low.trans k.low, fun i hi h1 h2 h3 => ?_, fun i e => ?_⟩
  · rw [← h.rest i hi h1 h2 h3]
    refine k.rest i (Nat.lt_of_lt_of_le hi h.low.size) h1 h2 (fun e => ?_)
    rcases h.new i e with e' | e'
    · exact h3 e'
    · omega
  · rcases k.new i e with e' | e'
    · exact h.new i e'
    · exact .inr (Nat.le_trans h.low.size e')
end Go.Proofs.YtjmpokgdgnjojaaDoor
