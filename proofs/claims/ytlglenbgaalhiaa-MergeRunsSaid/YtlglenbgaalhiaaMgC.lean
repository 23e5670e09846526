/-
  What changes where rows wait; the contract of Swap, at this seat's numbers.
-/
import Derived.Test.YtlglenbgaalhiaaMgA
namespace Go.Proofs.Ytlglenbgaalhiaa
open Go Go.RowKit
set_option linter.unusedVariables false

/-- What calls leave that turn waiting rows alone. -/
structure Tn (B : Nat) (w w' : World) : Prop where
  low : Below B w w'
  rest : ∀ b, b < w.heap.size → (∀ cs fr, w.heap[b]? ≠ some (.cells cs 44 fr)) → (∀ cs fr, w.heap[b]? ≠ some (.cells cs 47 fr)) → w'.heap[b]? = w.heap[b]?
theorem Tn.of_below {B : Nat} {w w' : World} (h : Below w.heap.size w w') (hB : B ≤ w.heap.size) : Tn B w w' := ⟨h.mono hB, fun b hb _ _ => h.block b hb⟩
theorem Tn.refl (B : Nat) (w : World) : Tn B w w := ⟨Below.refl _ _, fun _ _ _ _ => rfl⟩
theorem Tn.trans {B : Nat} {a b c : World} (h : Tn B a b) (k : Tn B b c) : Tn B a c :=
  ⟨h.low.trans k.low, fun i hi h1 h2 => by
    have e := h.rest i hi h1 h2
    rw [← e]
    exact k.rest i (Nat.lt_of_lt_of_le hi h.low.size) (by rw [e]; exact h1) (by rw [e]; exact h2)⟩
theorem Tn.set_rest {B : Nat} {w : World} {b o : Nat} {u : Value} {cs : Array Value} {fr : Nat × Nat} (hB : B ≤ b) (h : w.heap[b]? = some (.cells cs 47 fr)) : Tn B w (w.setCell ⟨b, o, none⟩ u) :=
  ⟨(Below.refl B w).setCell (p := ⟨b, o, none⟩) hB u, fun i hi h1 h2 => by
    rw [heap_set_other]
    rintro rfl
    exact h2 _ _ h⟩
theorem Tn.set_wait {B : Nat} {w : World} {b o : Nat} {u : Value} {cs : Array Value} {fr : Nat × Nat} (hB : B ≤ b) (h : w.heap[b]? = some (.cells cs 44 fr)) : Tn B w (w.setCell ⟨b, o, none⟩ u) :=
  ⟨(Below.refl B w).setCell (p := ⟨b, o, none⟩) hB u, fun i hi h1 h2 => by
    rw [heap_set_other]
    rintro rfl
    exact h1 _ _ h⟩
theorem Tn.grown {B : Nat} {w w' : World} {v : Value} {n : Nat} {xs : List Value} (ho : w.ownsRow B 47 2 v n xs) (hg : w.grownBy w' v.ownBlock) (hB : B ≤ w.heap.size) : Tn B w w' :=
  ⟨(Below.refl B w).grown hg hB (fun k hk => (ho.lt k hk).1), fun b hb h1 h2 => by
    refine hg.block b hb (fun eb => ?_)
    rcases ho.2 with ⟨rfl, _⟩ | ⟨g, cap, cur, rfl, _, hh, _⟩
    · simp [Value.ownBlock] at eb
    · have : b = g := by simpa [Value.ownBlock] using eb
      subst this
      exact h2 _ _ hh⟩

/-- Rows that wait, by the block and the room of the rows. -/
structure HpAt (w : World) (B p : Nat) (fv : Value) (R : List Ent) (g c : Nat) : Prop where
  box : w.heap[p]? = some (.cells #[.slice (some ⟨g, 0, none⟩) R.length c, fv] 44 (0, 0))
  own : w.ownsRow B 47 2 (.slice (some ⟨g, 0, none⟩) R.length c) R.length (entC R)
  lo : B ≤ p
theorem HpAt.hp {w : World} {B p : Nat} {fv : Value} {R : List Ent} {g c : Nat} (h : HpAt w B p fv R g c) : Hp w B p fv R := ⟨⟨_, _, h.box, h.own⟩, h.lo⟩
theorem Hp.atG {w : World} {B p : Nat} {fv : Value} {R : List Ent} (h : Hp w B p fv R) (hne : 0 < R.length) : ∃ g c, HpAt w B p fv R g c := by
  obtain ⟨g, c, _, _, _, _, _, _, _, _, _, _, h2, h1⟩ := h.cells hne
  exact ⟨g, c, h1, h2, h.lo⟩
theorem HpAt.ne {w : World} {B p : Nat} {fv : Value} {R : List Ent} {g c : Nat} (h : HpAt w B p fv R g c) : g ≠ p := by
  intro e
  exact own_ne h.own h.box (by decide) (by rw [← e]; rfl)
theorem HpAt.blk {w : World} {B p : Nat} {fv : Value} {R : List Ent} {g c : Nat} (h : HpAt w B p fv R g c) : B ≤ g ∧ R.length ≤ c ∧ c ≤ maxLen ∧ ∃ cur, w.heap[g]? = some (.cells cur 47 (0, 0)) ∧ cur.size = c * 2 ∧ cur.toList.take (R.length * 2) = entC R := by
  rcases h.own.2 with ⟨h1, _⟩ | ⟨g', cap, cur, h1, hB, hg, hnc, hcm, hsz, ht⟩
  · cases h1
  · simp only [Value.slice.injEq, Option.some.injEq, Addr.mk.injEq, and_true, true_and] at h1
    obtain ⟨rfl, rfl⟩ := h1
    exact ⟨hB, hnc, hcm, cur, hg, hsz, ht⟩

/-- One row more of two cells. -/
def setR (w : World) (g i : Nat) (e : Ent) : World := (w.setCell ⟨g, i * 2, none⟩ (.slice e.a e.l.length e.c)).setCell ⟨g, i * 2 + 1, none⟩ (.int .i64 e.num)
theorem entC_set (R : List Ent) (i : Nat) (e : Ent) : entC (R.set i e) = ((entC R).set (i * 2) (.slice e.a e.l.length e.c)).set (i * 2 + 1) (.int .i64 e.num) := by
  induction R generalizing i with
  | nil => simp [entC]
  | cons f R ih =>
    cases i with
    | zero => rfl
    | succ i =>
      have h := ih i
      simp only [entC] at h
      simp only [entC, List.set_cons_succ, List.flatMap_cons, h, show (i + 1) * 2 = i * 2 + 1 + 1 by omega, List.cons_append, List.nil_append]
theorem HpAt.setE {w : World} {B p : Nat} {fv : Value} {R : List Ent} {g c : Nat} (h : HpAt w B p fv R g c) (i : Nat) (e : Ent) : HpAt (setR w g i e) B p fv (R.set i e) g c := by
  have hne := h.ne
  have s1 := h.own.stored (i * 2) (.slice e.a e.l.length e.c)
  have s2 := s1.1.stored (i * 2 + 1) (.int .i64 e.num)
  refine ⟨?_, ?_, h.lo⟩
  · unfold setR
    rw [heap_set_other (by omega), heap_set_other (by omega), List.length_set]; exact h.box
  · rw [List.length_set, entC_set]; exact s2.1
theorem Tn.setR {w : World} {B p : Nat} {fv : Value} {R : List Ent} {g c : Nat} (h : HpAt w B p fv R g c) (i : Nat) (e : Ent) : Tn B w (setR w g i e) := by
  obtain ⟨hB, _, _, cur, hg, _⟩ := h.blk
  exact (Tn.set_rest hB hg).trans (Tn.set_rest hB (heap_set_at hg))
theorem swap_self (R : List Ent) (i : Nat) : swapE R i i = R := by
  unfold swapE
  rw [List.set_set]
  unfold gE
  by_cases h : i < R.length
  · rw [List.getD_eq_getElem?_getD, List.getElem?_eq_getElem h]
    exact List.set_getElem_self h
  · exact List.set_eq_of_length_le (by omega)

set_option maxRecDepth 100000 in
set_option maxHeartbeats 8000000 in
theorem swap_ne {w : World} {B p : Nat} {fv : Value} {R : List Ent} (h : Hp w B p fv R) (i j : Nat) (hi : i < R.length) (hj : j < R.length) (hij : i ≠ j) :
    Calls Try.prog 55 #[.pointer (some ⟨p, 0, none⟩), .int .i64 i, .int .i64 j] w fun e w' => e = .returned (.tuple #[]) ∧ Hp w' B p fv (swapE R i j) ∧ Tn B w w' := by
  obtain ⟨g, cc, H⟩ := h.atG (by omega)
  obtain ⟨g', cc', c0, c1, hc, hcm, hp, hg, hne, hB, hfz, hes, hown, hh⟩ := h.cells (by omega)
  obtain ⟨rfl, rfl⟩ : g' = g ∧ cc' = cc := by
    have := H.box.symm.trans hh
    simp at this
    exact ⟨this.1.symm, this.2.symm⟩
  obtain ⟨x0, x1⟩ := hes i hi
  obtain ⟨y0, y1⟩ := hes j hj
  have K1 := H.setE i (gE R j)
  have K2 := K1.setE j (gE R i)
  have T2 := (Tn.setR H i (gE R j)).trans (Tn.setR K1 j (gE R i))
  have F0 := H.own.frozenAt (i * 2)
  have F1 := H.own.frozenAt (i * 2 + 1)
  have F2 := H.own.frozenAt (j * 2)
  have F3 := H.own.frozenAt (j * 2 + 1)
  unfold setR at K2 T2
  have KK := Lib.hid (And.intro K2.hp T2)
  have hswap : swapE R i j = (R.set i (gE R j)).set j (gE R i) := rfl
  rw [hswap]
  generalize (gE R i).num = nx at *
  generalize (gE R j).num = ny at *
  generalize (gE R i).l.length = lx at *
  generalize (gE R j).l.length = ly at *
  generalize (gE R i).c = cx at *
  generalize (gE R j).c = cy at *
  generalize (gE R i).a = ax at *
  generalize (gE R j).a = ay at *
  have e0 : (0 : Int) ≤ (i : Int) := by omega
  have e1 : (i : Int) < (R.length : Int) := by omega
  have e2 : (0 : Int) ≤ (j : Int) := by omega
  have e3 : (j : Int) < (R.length : Int) := by omega
  have n0 : ¬ j * 2 = i * 2 := by omega
  have n1 : ¬ j * 2 = i * 2 + 1 := by omega
  have n2 : ¬ j * 2 + 1 = i * 2 := by omega
  have n3 : ¬ j * 2 + 1 = i * 2 + 1 := by omega
  have m0 : ¬ i * 2 = j * 2 := by omega
  have m1 : ¬ i * 2 = j * 2 + 1 := by omega
  have m2 : ¬ i * 2 + 1 = j * 2 := by omega
  have m3 : ¬ i * 2 + 1 = j * 2 + 1 := by omega
  generalize hS : (R.set i (gE R j)).set j (gE R i) = S at *
  have hSl : S.length = R.length := by rw [← hS]; simp
  generalize R.length = n at *
  clear hes hswap K1 K2 T2 H hown hh h hS hSl c1
  go_enter Try.func55, Try.ntmps55
  go_wp2_with fail
  go_region
  all_goals
    go_wp2_with fail
    go_end0
    exact ⟨rfl, KK.out.1.below (Below.refl _ _).drew, KK.out.2.trans (Tn.of_below (Below.refl _ _).drew (Nat.le_of_lt (Nat.lt_of_le_of_lt hB (by simpa using hg))))⟩

set_option maxRecDepth 100000 in
set_option maxHeartbeats 8000000 in
theorem swap_eq {w : World} {B p : Nat} {fv : Value} {R : List Ent} (h : Hp w B p fv R) (i : Nat) (hi : i < R.length) :
    Calls Try.prog 55 #[.pointer (some ⟨p, 0, none⟩), .int .i64 i, .int .i64 i] w fun e w' => e = .returned (.tuple #[]) ∧ Hp w' B p fv R ∧ Tn B w w' := by
  obtain ⟨g, cc, H⟩ := h.atG (by omega)
  obtain ⟨g', cc', c0, c1, hc, hcm, hp, hg, hne, hB, hfz, hes, hown, hh⟩ := h.cells (by omega)
  obtain ⟨rfl, rfl⟩ : g' = g ∧ cc' = cc := by
    have := H.box.symm.trans hh
    simp at this
    exact ⟨this.1.symm, this.2.symm⟩
  obtain ⟨x0, x1⟩ := hes i hi
  have K1 := H.setE i (gE R i)
  have K2 := K1.setE i (gE R i)
  have T2 := (Tn.setR H i (gE R i)).trans (Tn.setR K1 i (gE R i))
  rw [show (R.set i (gE R i)).set i (gE R i) = R from swap_self R i] at K2
  have F0 := H.own.frozenAt (i * 2)
  have F1 := H.own.frozenAt (i * 2 + 1)
  unfold setR at K2 T2
  have KK := Lib.hid (And.intro K2.hp T2)
  generalize (gE R i).num = nx at *
  generalize (gE R i).l.length = lx at *
  generalize (gE R i).c = cx at *
  generalize (gE R i).a = ax at *
  have e0 : (0 : Int) ≤ (i : Int) := by omega
  have e1 : (i : Int) < (R.length : Int) := by omega
  generalize hn : R.length = n at *
  clear hn
  clear hes K1 K2 T2 H hown hh h c1
  go_enter Try.func55, Try.ntmps55
  go_wp2_with fail
  go_region
  all_goals
    go_wp2_with fail
    go_end0
    exact ⟨rfl, KK.out.1.below (Below.refl _ _).drew, KK.out.2.trans (Tn.of_below (Below.refl _ _).drew (Nat.le_of_lt (Nat.lt_of_le_of_lt hB (by simpa using hg))))⟩

/-- Two rows change places. -/
theorem hswap_of {w : World} {B p : Nat} {fv : Value} {R : List Ent} (h : Hp w B p fv R) (i j : Nat) (hi : i < R.length) (hj : j < R.length) :
    Calls Try.prog 55 #[.pointer (some ⟨p, 0, none⟩), .int .i64 i, .int .i64 j] w fun e w' => e = .returned (.tuple #[]) ∧ Hp w' B p fv (swapE R i j) ∧ Tn B w w' := by
  by_cases hij : i = j
  · subst hij
    rw [swap_self]
    exact swap_eq h i hi
  · exact swap_ne h i j hi hj hij

end Go.Proofs.Ytlglenbgaalhiaa
