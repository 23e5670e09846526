/-
  Texts of this seat, put together (a claim holds few texts): ScI, CeC, QuC, QuE, CeD, CeE, CeG.
-/
import Derived.Test.YtkgakgceamafcaaGreatMk14
import Derived.Deep.RegionWith
import Derived.Deep.RegionHeldLaw
import Derived.Deep.RegionHeld3
import Derived.Deep.QuietTactic
import Derived.BigQuiet

namespace Go.Proofs.YtkgakgceamafcaaGreat
open Go Go.RowKit
set_option linter.unusedVariables false

/-- The example's bytes. -/
def exL : List UInt8 := [97, 44, 34, 98, 34, 34, 99, 34, 100]
def exF0 : Fd := ⟨0, 1, 0, [0]⟩
def exF1 : Fd := ⟨2, 9, 3, [3, 4, 6, 8]⟩
theorem exF0_eq : fieldP exL 0 = exF0 := by
  have t : till exL 0 = 1 := by rw [till_step (by decide), till_stop (by decide)]
  unfold fieldP
  rw [if_neg (by decide), t, if_neg (by decide)]
  rfl
theorem exF1_eq : fieldP exL 2 = exF1 := by
  have q : inQ exL 3 = ([3, 4, 6], 7, true) := by
    rw [inQ_byte (by decide) (by decide), inQ_two (by decide) (by decide), inQ_byte (by decide) (by decide), inQ_stop (by decide) (by decide)]; rfl
  have t : till exL 8 = 9 := by rw [till_step (by decide), till_stop (by decide)]
  unfold fieldP
  rw [if_pos (by decide), q]
  simp only [t]
  rfl
theorem exAll : allP exL 0 = [⟨[exF0, exF1], 0, 9⟩] := by
  have f : fieldsP exL 0 = ([exF0, exF1], 9) := by
    rw [fieldsP_more (by decide) (by rw [exF0_eq]; decide) (by rw [exF0_eq]; decide), exF0_eq]
    show (exF0 :: (fieldsP exL 2).1, (fieldsP exL 2).2) = _
    rw [fieldsP_last (by rw [exF1_eq]; decide), exF1_eq]; rfl
  have r : rowP exL 0 = ⟨[exF0, exF1], 0, 9⟩ := by unfold rowP; rw [f]; rfl
  rw [allP_more (by decide), r, allP_end (by decide)]

/-- What the example's call of All tells. -/
def ExAll (w : World) (e : Ending) (w' : World) : Prop := ∃ (g c g5 c5 : Nat) (a1 : Option Addr) (c1 : Nat), e = .returned (.slice (some ⟨g, 0, none⟩) 1 c) ∧ w'.cell? ⟨g, 0, none⟩ = some (.slice (some ⟨g5, 0, none⟩) 2 c5) ∧
  w'.cell? ⟨g5, 4, none⟩ = some (.int .i64 2) ∧ w'.cell? ⟨g5, 5, none⟩ = some (.int .i64 7) ∧ w'.cell? ⟨g5, 6, none⟩ = some (.int .i64 3) ∧ w'.cell? ⟨g5, 7, none⟩ = some (.slice a1 3 c1) ∧ Rd w' 2 a1 3 (spC [(3, 2), (6, 1), (8, 1)]) ∧ Below w.heap.size w w'
theorem rd_own {w : World} {B n c s : Nat} {e : TypeId} {a : Option Addr} {xs : List Value} (h : w.ownsRow B e s (.slice a n c) n xs) : Rd w s a n xs := by
  refine ⟨h.1, fun hn => ?_⟩
  rcases own_form h with ⟨_, h0⟩ | ⟨g, rfl, _, hlt⟩
  · omega
  · refine ⟨g, 0, rfl, hlt, fun j u hu => ?_⟩
    have := h.cells (g := g) rfl j u hu
    rwa [Addr.add_lit] at this
theorem own_cells {w : World} {B n c s g : Nat} {e : TypeId} {xs : List Value} (h : w.ownsRow B e s (.slice (some ⟨g, 0, none⟩) n c) n xs) {j : Nat} {u : Value} (hu : xs[j]? = some u) : w.cell? ⟨g, j, none⟩ = some u := by
  have := h.cells (g := g) rfl j u hu
  rwa [Addr.add_lit, Nat.zero_add] at this
theorem list_two {α : Type} : ∀ {l : List α}, l.length = 2 → ∃ a b, l = [a, b]
  | [a, b], _ => ⟨a, b, rfl⟩
theorem exAll_of {w : World} {g c : Nat} {fr : Nat × Nat} {ty : TypeId} (hc : 9 ≤ c) (hc2 : c ≤ maxLen) (h : w.heap[g]? = some (.cells #[.int .u8 97, .int .u8 44, .int .u8 34, .int .u8 98, .int .u8 34, .int .u8 34, .int .u8 99, .int .u8 34, .int .u8 100] ty fr)) :
    Calls Tryz.prog 44 #[.slice (some ⟨g, 0, none⟩) 9 c] w (ExAll w) := by
  have hr : Rd w 1 (some ⟨g, 0, none⟩) exL.length (bc exL) := rd_new (t := exL) h
  refine (all_of (l := exL) (c := c) hr (by decide) hc hc2).mono ?_
  rintro e w' ⟨rs, a, c', rfl, hm, ho, hi, hb⟩
  rw [exAll] at hm
  have hl1 : rs.length = 1 := by have := congrArg List.length hm; simpa using this
  obtain ⟨⟨R, ps, a5, c5⟩, rfl⟩ := List.length_eq_one_iff.1 hl1
  obtain rfl : R = ⟨[exF0, exF1], 0, 9⟩ := by simpa using hm
  obtain ⟨hfs, hoF, hpi⟩ := hi _ (by simp : (⟨⟨[exF0, exF1], 0, 9⟩, ps, a5, c5⟩ : RowM) ∈ [(⟨⟨[exF0, exF1], 0, 9⟩, ps, a5, c5⟩ : RowM)])
  simp only at hfs hoF hpi
  have hl2 : ps.length = 2 := by have := congrArg List.length hfs; simpa using this
  obtain ⟨⟨f0, b0, d0⟩, ⟨f1, a1, c1⟩, rfl⟩ := list_two hl2
  obtain ⟨rfl, rfl⟩ : f0 = exF0 ∧ f1 = exF1 := by simpa using hfs
  have hp1 := hpi (exF1, a1, c1) (by simp)
  rcases own_form ho with ⟨_, h0⟩ | ⟨g', rfl, _, _⟩
  · exact absurd h0 (by simp)
  rcases own_form hoF with ⟨_, h0⟩ | ⟨g5, rfl, _, _⟩
  · exact absurd h0 (by simp)
  exact ⟨g', c', g5, c5, a1, c1, rfl, own_cells ho rfl, own_cells hoF rfl, own_cells hoF rfl, own_cells hoF rfl, own_cells hoF rfl, rd_own hp1, hb⟩
theorem exVal : valL exL [(3, 2), (6, 1), (8, 1)] = [98, 34, 99, 100] := by decide
/-- What the example's call of Value tells. -/
def ExVal (w : World) (e : Ending) (w' : World) : Prop := ∃ a c, e = .returned (.slice a 4 c) ∧ (convert 32 9 (.slice a 4 c)).run Tryz.prog w' = .ok (.string ⟨#[98, 34, 99, 100]⟩) w' ∧ Below w.heap.size w w'
theorem strOf_data (s : ByteArray) : strOf s.data.toList = s := by
  apply ByteArray.ext; simp [strOf]

end Go.Proofs.YtkgakgceamafcaaGreat

namespace Go.Proofs.YtkgakgceamafcaaGreat
open Go Go.RowKit
set_option linter.unusedVariables false

/-- The example's bytes: a letter within quotes. -/
def exC : List UInt8 := [34, 97, 34]
def exCF : Fd := ⟨0, 3, 1, [1]⟩
theorem exCF_eq : fieldP exC 0 = exCF := by
  have q : inQ exC 1 = ([1], 2, true) := by
    rw [inQ_byte (by decide) (by decide), inQ_stop (by decide) (by decide)]; rfl
  have t : till exC 3 = 3 := by rw [till_stop (by decide)]
  unfold fieldP
  rw [if_pos (by decide), q]
  simp only [t]
  rfl
theorem exCR : (rowP exC 0).fs = [exCF] := by
  have f : fieldsP exC 0 = ([exCF], 3) := by rw [fieldsP_last (by rw [exCF_eq]; decide), exCF_eq]; rfl
  unfold rowP; rw [f]
/-- What One tells of the example. -/
theorem exCOne_of {w : World} {g c : Nat} {fr : Nat × Nat} {ty : TypeId} (hc : 3 ≤ c) (hc2 : c ≤ maxLen) (h : w.heap[g]? = some (.cells #[.int .u8 34, .int .u8 97, .int .u8 34] ty fr)) :
    Calls Tryz.prog 98 #[.slice (some ⟨g, 0, none⟩) 3 c, .int .i64 0] w fun e w' => ∃ (g5 c5 : Nat) (a1 : Option Addr) (c1 : Nat) (f m : Int), e = .returned (.tuple #[.agg #[.slice (some ⟨g5, 0, none⟩) 1 c5, .int .i64 f], .int .i64 m]) ∧
      w'.cell? ⟨g5, 0, none⟩ = some (.int .i64 0) ∧ w'.cell? ⟨g5, 1, none⟩ = some (.int .i64 3) ∧ w'.cell? ⟨g5, 2, none⟩ = some (.int .i64 1) ∧ w'.cell? ⟨g5, 3, none⟩ = some (.slice a1 1 c1) ∧ Rd w' 2 a1 1 (spC [(1, 1)]) ∧ Below w.heap.size w w' := by
  have hr : Rd w 1 (some ⟨g, 0, none⟩) exC.length (bc exC) := rd_new (t := exC) h
  refine (one_of (l := exC) (c := c) hr (lt_of_heap h) (by decide) hc hc2 0 (by decide)).mono ?_
  rintro e w' ⟨ps, a, c', rfl, hm, ho, hi, hb⟩
  rw [exCR] at hm
  have hl1 : ps.length = 1 := by have := congrArg List.length hm; simpa using this
  obtain ⟨⟨F, pa, pc⟩, rfl⟩ := List.length_eq_one_iff.1 hl1
  obtain rfl : F = exCF := by simpa using hm
  have hp1 := hi (exCF, pa, pc) (by simp)
  rcases own_form ho with ⟨_, h0⟩ | ⟨g', rfl, _, _⟩
  · exact absurd h0 (by simp)
  exact ⟨g', c', pa, pc, _, _, rfl, own_cells ho rfl, own_cells ho rfl, own_cells ho rfl, own_cells ho rfl, own_rd hp1, hb⟩

theorem sm_one : Sm (ex [((1 : Int), (1 : Int))]) := sm_kept (i := 1) (n := 1) (by decide)
theorem in_one : InL exC (ex [((1 : Int), (1 : Int))]) := by
  intro x hx
  have : x = 1 := by simpa [ex, ex1] using hx
  subst this
  decide
theorem exC_text : atL exC (ex [((1 : Int), (1 : Int))]) = [97] := by decide
theorem exC_raw : subL exC 0 3 = exC := by decide
theorem putP_a : putP [97] = [97] := by decide

theorem new_exC {w : World} {g c : Nat} {fr : Nat × Nat} {ty : TypeId} (h : w.heap[g]? = some (.cells #[.int .u8 34, .int .u8 97, .int .u8 34] ty fr)) :
    Calls Tryz.prog 42 #[.slice (some ⟨g, 0, none⟩) 3 c] w fun e w' => ∃ p, e = .returned (.tuple #[.pointer (some ⟨p, 0, none⟩), .int .i64 0]) ∧ Ar w' w.heap.size p exC ∧ Below w.heap.size w w' := by
  have hr : Rd w 1 (some ⟨g, 0, none⟩) exC.length (bc exC) := rd_new (t := exC) h
  exact new_of (t := exC) (some ⟨g, 0, none⟩) c hr (by decide)

theorem ex7_kept {w : World} {B p : Nat} {a : Option Addr} {n c : Nat} (h : Ar w B p exC) :
    Calls Tryz.prog 108 #[cellV a n c 0 3 true, .pointer (some ⟨p, 0, none⟩)] w fun e w' => ∃ a c, e = .returned (.slice a 3 c) ∧ (convert 32 9 (.slice a 3 c)).run Tryz.prog w' = .ok (.string ⟨#[34, 97, 34]⟩) w' ∧ Below w.heap.size w w' := by
  refine (cprint_kept 0 3 h (by decide)).mono ?_
  rintro e w' ⟨a, c, rfl, ho, hb⟩
  rw [exC_raw] at ho ⊢
  exact ⟨a, c, rfl, string_own (l := exC) ho, hb⟩
theorem ex7_text {w : World} {B p : Nat} {a : Option Addr} {n c : Nat} (h : Ar w B p exC) (hx : Tx w (.slice a n c) (ex [((1 : Int), (1 : Int))])) :
    Calls Tryz.prog 108 #[cellV a n c 0 0 false, .pointer (some ⟨p, 0, none⟩)] w fun e w' => ∃ a c, e = .returned (.slice a 1 c) ∧ (convert 32 9 (.slice a 1 c)).run Tryz.prog w' = .ok (.string ⟨#[97]⟩) w' ∧ Below w.heap.size w w' := by
  refine (cprint_text 0 0 h (by decide) hx in_one).mono ?_
  rintro e w' ⟨a, c, rfl, ho, hb⟩
  rw [exC_text, putP_a] at ho ⊢
  exact ⟨a, c, rfl, string_own (l := [97]) ho, hb⟩
theorem ex7_bytes {w : World} {B p : Nat} {a : Option Addr} {n c : Nat} (h : Ar w B p exC) (hx : Tx w (.slice a n c) (ex [((1 : Int), (1 : Int))])) :
    Calls Tryz.prog 66 #[cellV a n c 0 3 true, .pointer (some ⟨p, 0, none⟩)] w fun e w' => ∃ a c, e = .returned (.slice a 1 c) ∧ (convert 32 9 (.slice a 1 c)).run Tryz.prog w' = .ok (.string ⟨#[97]⟩) w' ∧ Below w.heap.size w w' := by
  refine (cbytes_of 0 3 true h (by decide) hx in_one).mono ?_
  rintro e w' ⟨a, c, rfl, ho, hb⟩
  rw [exC_text] at ho ⊢
  exact ⟨a, c, rfl, string_own (l := [97]) ho, hb⟩

end Go.Proofs.YtkgakgceamafcaaGreat

namespace Go.Proofs.YtkgakgceamafcaaGreat
open Go Go.RowKit
set_option linter.unusedVariables false

theorem one_none (a : Option Addr) (c : Nat) (w : World) :
    Calls Tryz.prog 98 #[.slice a 0 c, .int .i64 0] w fun e w' => e = .returned (.tuple #[.agg #[.slice none 0 0, .int .i64 0], .int .i64 0]) ∧ Below w.heap.size w w' := by
  go_enter Tryz.func98, Tryz.ntmps98
  go_wp2_with fail
  refine bodyPost_ret (v := .tuple #[.agg #[.slice none 0 0, .int .i64 0], .int .i64 0]) (by simp [results, Tryz.results98, go_sem]) rfl ⟨rfl, ?_⟩
  exact (Below.refl _ _).alloc (Nat.le_refl _) _
theorem rone_none {s : ByteArray} (hs : s.size = 0) (w : World) :
    Calls Tryz.prog 104 #[.string s, .int .i64 0] w fun e w' => e = .returned (.tuple #[.agg #[.slice none 0 0, .int .i64 0], .int .i64 0]) ∧ Below w.heap.size w w' := by
  go_enter Tryz.func104, Tryz.ntmps104
  go_wp2_with fail
  refine bodyPost_ret (v := .tuple #[.agg #[.slice none 0 0, .int .i64 0], .int .i64 0]) (by simp [results, Tryz.results104, go_sem]) rfl ⟨rfl, ?_⟩
  exact ((Below.refl _ _).alloc (Nat.le_refl _) _).alloc (by simp) _

theorem fieldP_nil : (fieldP [] 0).kind = 0 ∧ (fieldP [] 0).pl = [] := by
  have hq : quAt [] 0 = false := by decide
  obtain ⟨_, k2, k3⟩ := plain_kind hq
  have ht : till [] 0 = 0 := till_stop (by decide)
  rw [ht] at k2 k3
  exact ⟨by rw [k2]; decide, by rw [k3, pls_nil]⟩
/-- What Read hands back. -/
def QrPost (l : List UInt8) (w : World) (e : Ending) (w' : World) : Prop := ∃ a n c, e = .returned (.tuple #[.slice a n c, .int .i64 (fieldP l 0).kind]) ∧ n = (atL l (fieldP l 0).pl).length ∧ w'.ownsRow w.heap.size 5 1 (.slice a n c) n (bc (atL l (fieldP l 0).pl)) ∧ Below w.heap.size w w'

theorem row_first {l : List UInt8} {ps : List FdM} (h : ps.map (·.1) = (rowP l 0).fs) : ∃ f a c rest, ps = (f, a, c) :: rest ∧ f = fieldP l 0 := by
  have hr := fieldsP_rest (l := l) (i := 0) (by omega)
  cases ps with
  | nil => unfold rowP at h; rw [hr] at h; cases h
  | cons p rest =>
    obtain ⟨f, a, c⟩ := p
    unfold rowP at h
    rw [hr] at h
    simp only [List.map_cons] at h
    injection h with h1 h2
    exact ⟨f, a, c, rest, rfl, h1⟩

/-- What the document's Read hands back. -/
def RrdPost (l : List UInt8) (w : World) (e : Ending) (w' : World) : Prop := e = .returned (.tuple #[.string (strOf (atL l (fieldP l 0).pl)), .int .i64 (fieldP l 0).kind]) ∧ Below w.heap.size w w'

end Go.Proofs.YtkgakgceamafcaaGreat

namespace Go.Proofs.YtkgakgceamafcaaGreat
open Go Go.RowKit
set_option linter.unusedVariables false

theorem drop_cons {L : List UInt8} {p : Nat} {x : UInt8} {t : List UInt8} (h : L.drop p = x :: t) : p < L.length ∧ lb L p = x.toNat ∧ L.getD p 0 = x ∧ L.drop (p + 1) = t := by
  have hp : p < L.length := by
    rcases Nat.lt_or_ge p L.length with h1 | h1
    · exact h1
    · rw [List.drop_eq_nil_of_le h1] at h; cases h
  rw [List.drop_eq_getElem_cons hp] at h
  injection h with h1 h2
  have hg : L.getD p 0 = x := by rw [List.getD_eq_getElem?_getD, List.getElem?_eq_getElem hp]; simpa using h1
  exact ⟨hp, by unfold lb; rw [hg], hg, h2⟩
theorem qu_drop {L : List UInt8} {p : Nat} {x : UInt8} {t : List UInt8} (h : L.drop p = x :: t) : quAt L p = decide ((x.toNat : Int) = 34) := by
  obtain ⟨h1, h2, _⟩ := drop_cons h
  rw [quAt_in h1, h2]

/-- Within quotes: doubled quotes, to a lone one. -/
theorem inQ_dup (L r : List UInt8) (hr : ∀ t, r ≠ 34 :: t) : ∀ (l : List UInt8) (p : Nat), L.drop p = l.flatMap dupB ++ 34 :: r → ∃ ps, inQ L p = (ps, p + (l.flatMap dupB).length, true) ∧ atL L ps = l
  | [], p, h => by
    have h' : L.drop p = 34 :: r := h
    have hq : quAt L p = true := by rw [qu_drop h']; rfl
    have hq2 : quAt L (p + 1) = false := by
      have hd := (drop_cons h').2.2.2
      cases r with
      | nil =>
        refine quAt_out ?_
        have := congrArg List.length hd
        rw [List.length_drop, List.length_nil] at this
        omega
      | cons x t =>
        rw [qu_drop hd]
        simp only [decide_eq_false_iff_not]
        intro hx
        apply hr t
        have : x = 34 := by apply UInt8.toNat_inj.1; have h34 : (34 : UInt8).toNat = 34 := rfl; omega
        rw [this]
    exact ⟨[], by rw [inQ_stop hq hq2]; rfl, rfl⟩
  | c :: l, p, h => by
    by_cases hc : (c.toNat : Int) = 34
    · have hdup : dupB c = [c, c] := by unfold dupB; rw [if_pos hc]
      rw [List.flatMap_cons, hdup] at h
      have h1 : L.drop p = c :: c :: (l.flatMap dupB ++ 34 :: r) := by rw [h]; simp
      obtain ⟨_, _, hg, hd⟩ := drop_cons h1
      obtain ⟨_, _, _, hd2⟩ := drop_cons hd
      have hq : quAt L p = true := by rw [qu_drop h1]; simpa using hc
      have hq2 : quAt L (p + 1) = true := by rw [qu_drop hd]; simpa using hc
      obtain ⟨ps, e1, e2⟩ := inQ_dup L r hr l (p + 2) hd2
      refine ⟨(p : Int) :: ps, ?_, ?_⟩
      · rw [inQ_two hq hq2, e1, List.flatMap_cons, hdup]
        simp only [List.length_append, List.length_cons, List.length_nil]
        congr 2; omega
      · show L.getD ((p : Int)).toNat 0 :: atL L ps = _
        rw [Int.toNat_natCast, hg, e2]
    · have hdup : dupB c = [c] := by unfold dupB; rw [if_neg hc]
      rw [List.flatMap_cons, hdup] at h
      have h1 : L.drop p = c :: (l.flatMap dupB ++ 34 :: r) := by rw [h]; simp
      obtain ⟨hp, _, hg, hd⟩ := drop_cons h1
      have hq : quAt L p = false := by rw [qu_drop h1]; simpa using hc
      obtain ⟨ps, e1, e2⟩ := inQ_dup L r hr l (p + 1) hd
      refine ⟨(p : Int) :: ps, ?_, ?_⟩
      · rw [inQ_byte hp hq, e1, List.flatMap_cons, hdup]
        simp only [List.length_append, List.length_cons, List.length_nil]
        congr 2; omega
      · show L.getD ((p : Int)).toNat 0 :: atL L ps = _
        rw [Int.toNat_natCast, hg, e2]

theorem till_at (L : List UInt8) (n : Nat) (h : ∀ j, j < n → mkAt L j = false) (hn : mkAt L n = true) : ∀ m i, n - i = m → i ≤ n → till L i = n
  | 0, i, hm, hi => by obtain rfl : i = n := by omega
                       exact till_stop hn
  | m + 1, i, hm, hi => by rw [till_step (h i (by omega)), till_at L n h hn m (i + 1) (by omega) (by omega)]
theorem atL_front (l r : List UInt8) : atL (l ++ r) (pls 0 l.length) = l := by
  rw [pls_eq 0 l.length (by omega)]
  have h := subL_ex1 (l := l ++ r) (a := 0) (n := l.length) (by simp)
  rw [Nat.sub_zero]
  rw [← h]
  unfold subL
  rw [if_pos (by unfold rightB; simp; omega)]
  simp
theorem lb_front {l r : List UInt8} {k : Nat} (h : k < l.length) : lb (l ++ r) k = lb l k := by
  unfold lb
  rw [List.getD_eq_getElem?_getD, List.getElem?_append_left h, ← List.getD_eq_getElem?_getD]

/-- What is put, with nothing or a mark behind, is read as it was. -/
theorem put_field (l r : List UInt8) (hr : mkAt r 0 = true) : (fieldP (putP l ++ r) 0).kind = (if needsP l = true then 1 else 0) ∧ atL (putP l ++ r) (fieldP (putP l ++ r) 0).pl = l ∧ (fieldP (putP l ++ r) 0).to_ = (putP l).length := by
  have hr34 : ∀ t, r ≠ 34 :: t := by
    rintro t rfl
    exact absurd hr (by show ¬ mkAt (34 :: t) 0 = true; rw [mkAt_in (by simp), show lb (34 :: t) 0 = 34 from rfl]; decide)
  unfold putP
  by_cases hn : needsP l = true
  · rw [if_pos hn, if_pos hn]
    have hL : (34 :: (l.flatMap dupB ++ [34])) ++ r = 34 :: (l.flatMap dupB ++ 34 :: r) := by simp
    rw [hL]
    have hq : quAt (34 :: (l.flatMap dupB ++ 34 :: r)) 0 = true := by rw [quAt_in (by simp)]; rfl
    obtain ⟨ps, e1, e2⟩ := inQ_dup (34 :: (l.flatMap dupB ++ 34 :: r)) r hr34 l 1 rfl
    have ht : till (34 :: (l.flatMap dupB ++ 34 :: r)) (1 + (l.flatMap dupB).length + 1) = 1 + (l.flatMap dupB).length + 1 := by
      refine till_stop ?_
      have hd : (34 :: (l.flatMap dupB ++ 34 :: r)) = (34 :: (l.flatMap dupB ++ [34])) ++ r := hL.symm
      have hl : (34 :: (l.flatMap dupB ++ [34]) : List UInt8).length = 1 + (l.flatMap dupB).length + 1 := by simp; omega
      rw [hd]
      unfold mkAt at hr ⊢
      rw [← hl]
      have hlb : lb ((34 :: (l.flatMap dupB ++ [34])) ++ r) (34 :: (l.flatMap dupB ++ [34]) : List UInt8).length = lb r 0 := by
        unfold lb
        rw [List.getD_eq_getElem?_getD, List.getElem?_append_right (Nat.le_refl _), Nat.sub_self, ← List.getD_eq_getElem?_getD]
      rw [hlb, List.length_append]
      simp only [Bool.or_eq_true, decide_eq_true_eq] at hr ⊢
      rcases hr with h | h
      · left; omega
      · right; exact h
    have hf : fieldP (34 :: (l.flatMap dupB ++ 34 :: r)) 0 = ⟨0, 1 + (l.flatMap dupB).length + 1, 1, ps⟩ := by
      unfold fieldP
      rw [if_pos hq, e1]
      simp only [ht]
      rw [if_pos trivial, if_neg (by omega), pls_nil, List.append_nil]
    rw [hf]
    exact ⟨rfl, e2, by simp; omega⟩
  · rw [if_neg hn, if_neg hn]
    have hsp : ∀ k, k < l.length → spB (lb l k) = false := fun k hk => Bool.eq_false_iff.2 (fun h => hn (decide_eq_true ⟨k, hk, h⟩))
    have hm : ∀ j, j < l.length → mkAt (l ++ r) j = false := by
      intro j hj
      have h1 := hsp j hj
      unfold spB at h1
      simp only [decide_eq_false_iff_not, not_or] at h1
      rw [mkAt_in (by simp; omega), lb_front hj]
      unfold mkB
      simp only [decide_eq_false_iff_not, not_or]
      exact ⟨h1.1, h1.2.2.1, h1.2.2.2⟩
    have hq0 : ∀ j, j < l.length → quAt (l ++ r) j = false := by
      intro j hj
      have h1 := hsp j hj
      unfold spB at h1
      simp only [decide_eq_false_iff_not, not_or] at h1
      rw [quAt_in (by simp; omega), lb_front hj]
      simpa using h1.2.1
    have hlb : lb (l ++ r) l.length = lb r 0 := by
      unfold lb
      rw [List.getD_eq_getElem?_getD, List.getElem?_append_right (Nat.le_refl _), Nat.sub_self, ← List.getD_eq_getElem?_getD]
    have hmn : mkAt (l ++ r) l.length = true := by
      unfold mkAt at hr ⊢
      rw [hlb, List.length_append]
      simp only [Bool.or_eq_true, decide_eq_true_eq] at hr ⊢
      rcases hr with h | h
      · left; omega
      · right; exact h
    have hq : quAt (l ++ r) 0 = false := by
      rcases Nat.eq_zero_or_pos l.length with h0 | h0
      · obtain rfl := List.eq_nil_of_length_eq_zero h0
        rw [List.nil_append]
        cases r with
        | nil => rfl
        | cons x t =>
          rw [quAt_in (by simp)]
          simp only [decide_eq_false_iff_not]
          intro h
          apply hr34 t
          have : x = 34 := by
            apply UInt8.toNat_inj.1
            have h34 : (34 : UInt8).toNat = 34 := rfl
            have hx : lb (x :: t) 0 = (x.toNat : Int) := rfl
            omega
          rw [this]
      · exact hq0 0 h0
    have ht := till_at (l ++ r) l.length hm hmn l.length 0 (by omega) (by omega)
    obtain ⟨k2, k3, k4⟩ := plain_kind hq
    rw [ht] at k2 k3 k4
    have hh : hasQ (l ++ r) 0 l.length = false := by
      unfold hasQ
      simp only [decide_eq_false_iff_not]
      rintro ⟨k, a, _, b⟩
      rw [hq0 k a] at b; cases b
    rw [hh] at k3
    exact ⟨by rw [k3]; rfl, by rw [k4]; exact atL_front l r, k2⟩

theorem own_caps {w : World} {B n c s : Nat} {e : TypeId} {a : Option Addr} {xs : List Value} (h : w.ownsRow B e s (.slice a n c) n xs) : n ≤ c ∧ c ≤ maxLen := by
  rcases h.2 with ⟨h', h0⟩ | ⟨g, cap, cur, h', _, _, h1, h2, _⟩
  · injection h' with _ _ h3
    subst h3; unfold maxLen; omega
  · injection h' with _ _ h3
    subst h3; exact ⟨h1, h2⟩
theorem putP_len (l : List UInt8) : (putP l).length ≤ 2 * l.length + 2 := by
  unfold putP
  split
  · have := dup_len l
    rw [List.length_cons, List.length_append]; simp only [List.length_cons, List.length_nil]; omega
  · omega
theorem put_field0 (l : List UInt8) : (fieldP (putP l) 0).kind = (if needsP l = true then 1 else 0) ∧ atL (putP l) (fieldP (putP l) 0).pl = l := by
  have h := put_field l [] (mkAt_out (Nat.le_refl _))
  rw [List.append_nil] at h
  exact ⟨h.1, h.2.1⟩
/-- A value that Read told, as a text, from here on; its kind. -/
def RdTold (t : ByteArray) (K : Int) (w : World) (e : Ending) (w' : World) : Prop := ∃ a n c, e = .returned (.tuple #[.slice a n c, .int .i64 K]) ∧ (∀ w3, Below w'.heap.size w' w3 → (convert 32 9 (.slice a n c)).run Tryz.prog w3 = .ok (.string t) w3) ∧ Below w.heap.size w w'
end Go.Proofs.YtkgakgceamafcaaGreat

namespace Go.Proofs.YtkgakgceamafcaaGreat
open Go Go.RowKit
set_option linter.unusedVariables false

/-- What Put tells of bytes that are not too many. -/
def CPutPost (l f : List UInt8) (B p : Nat) (w : World) (e : Ending) (w' : World) : Prop :=
  Ar w' B p (keepL l f) ∧ Turned B w w' ∧
  (((keepR l f).2.2 ≠ 0 ∧ e = .returned (.tuple #[cellV none 0 0 0 0 false, .int .i64 (keepR l f).2.2])) ∨
   ((keepR l f).2.2 = 0 ∧ ∃ a n c, e = .returned (.tuple #[cellV a n c 0 0 false, .int .i64 0]) ∧ TxB w.heap.size w' (.slice a n c) (ex [((keepR l f).1, (f.length : Int))])))

theorem keep_empty (f : List UInt8) (hf : f.length ≤ 400) : (keepR [] f).2.2 = 0 := by
  by_cases h : (keepR [] f).2.2 = 0
  · exact h
  · have := (keepR_err [] f h).2.2
    simp at this; omega
theorem new_nil (w : World) :
    Calls Tryz.prog 42 #[.slice none 0 0] w fun e w' => ∃ p, e = .returned (.tuple #[.pointer (some ⟨p, 0, none⟩), .int .i64 0]) ∧ Ar w' w.heap.size p [] ∧ Below w.heap.size w w' :=
  new_of (t := []) none 0 ⟨rfl, fun hn => absurd hn (by simp)⟩ (by simp)

end Go.Proofs.YtkgakgceamafcaaGreat

namespace Go.Proofs.YtkgakgceamafcaaGreat
open Go Go.RowKit
set_option linter.unusedVariables false

/-- A block of three cells that are written. -/
def set3 (w : World) (b : Nat) (u0 u1 u2 : Value) : World := ((w.setCell ⟨b, 0, none⟩ u0).setCell ⟨b, 1, none⟩ u1).setCell ⟨b, 2, none⟩ u2
theorem set3_at {w : World} {b T : Nat} {a0 a1 a2 : Value} (h : w.heap[b]? = some (.cells #[a0, a1, a2] T (0, 0))) (u0 u1 u2 : Value) : (set3 w b u0 u1 u2).heap[b]? = some (.cells #[u0, u1, u2] T (0, 0)) := by
  unfold set3
  rw [heap_set_at (heap_set_at (heap_set_at h))]; rfl
theorem set3_below {B b : Nat} {a w : World} (h : Below B a w) (hb : B ≤ b) (u0 u1 u2 : Value) : Below B a (((w.setCell ⟨b, 0, none⟩ u0).setCell ⟨b, 1, none⟩ u1).setCell ⟨b, 2, none⟩ u2) :=
  ((h.setCell (p := ⟨b, 0, none⟩) hb _).setCell (p := ⟨b, 1, none⟩) hb _).setCell (p := ⟨b, 2, none⟩) hb _

set_option maxRecDepth 100000 in
set_option maxHeartbeats 2000000 in
theorem cplain_text {w : World} {B p : Nat} {l : List UInt8} {a : Option Addr} {n c : Nat} {t : List Int} (x y : Int) (h : Ar w B p l) (hl : l.length ≤ 16384) (hx : Tx w (.slice a n c) t) (hin : InL l t) :
    Calls Tryz.prog 22 #[.pointer (some ⟨p, 0, none⟩), cellV a n c x y false] w fun e w' => e = .returned (.agg #[.string (strOf (atL l t)), .string ⟨#[]⟩, .bool false]) ∧ Below w.heap.size w w' := by
  obtain ⟨w1, hw1⟩ : ∃ w1, w1 = allocs w [Obj.cells #[Value.slice a n c, Value.int .i64 x, Value.int .i64 y, Value.bool false] 61, Obj.cells #[Value.string ⟨#[]⟩, Value.string ⟨#[]⟩, Value.bool false] 51] := ⟨_, rfl⟩
  have HB1 : Hid (Below w.heap.size w w1) := by rw [hw1]; exact Lib.hid (allocs_below _ w)
  have hzw : w1.heap.size > w.heap.size + 1 := by rw [hw1, allocs_size]; simp
  have h0 : w1.heap[w.heap.size]? = some (.cells #[Value.slice a n c, Value.int .i64 x, Value.int .i64 y, Value.bool false] 61 (0, 0)) := by rw [hw1]; exact allocs_at _ w 0 _ rfl
  have H1 : Hid (w1.heap[w.heap.size + 1]? = some (.cells #[Value.string ⟨#[]⟩, Value.string ⟨#[]⟩, Value.bool false] 51 (0, 0))) := by rw [hw1]; exact Lib.hid (allocs_at _ w 1 _ rfl)
  have k0 : w1.cell? ⟨w.heap.size, 0, none⟩ = some (.slice a n c) := by rw [cell_at h0]; rfl
  have k1 : w1.cell? ⟨w.heap.size, 1, none⟩ = some (.int .i64 x) := by rw [cell_at h0]; rfl
  have k2 : w1.cell? ⟨w.heap.size, 2, none⟩ = some (.int .i64 y) := by rw [cell_at h0]; rfl
  have k3 : w1.cell? ⟨w.heap.size, 3, none⟩ = some (.bool false) := by rw [cell_at h0]; rfl
  have ld0 := fun w' (h : Below w1.heap.size w1 w') => (h.cell (p := ⟨w.heap.size, 0, none⟩) (by simp only; omega)).trans k0
  have ld1 := fun w' (h : Below w1.heap.size w1 w') => (h.cell (p := ⟨w.heap.size, 1, none⟩) (by simp only; omega)).trans k1
  have ld2 := fun w' (h : Below w1.heap.size w1 w') => (h.cell (p := ⟨w.heap.size, 2, none⟩) (by simp only; omega)).trans k2
  have ld3 := fun w' (h : Below w1.heap.size w1 w') => (h.cell (p := ⟨w.heap.size, 3, none⟩) (by simp only; omega)).trans k3
  have hb0 : Below w1.heap.size w1 w1.drew := (Below.refl _ _).drew
  have hbB : Below w1.heap.size w1 (w1.alloc (Obj.cells #[Value.string ⟨#[]⟩, Value.string ⟨#[]⟩, Value.bool false] 51)).drew := ((Below.refl _ w1).alloc (Nat.le_refl _) _).drew
  have HF := Lib.hid (fun w' (hb : Below w1.heap.size w1 w') => cbytes_of x y false (h.below (HB1.out.trans (hb.mono (by omega)))) hl (hx.below (HB1.out.trans (hb.mono (by omega)))) hin)
  generalize atL l t = f at *
  clear h hx h0 k0 k1 k2 k3
  go_enter Tryz.func22, Tryz.ntmps22
  go_upto_region 1 with fail
  rw [show (w.alloc (Obj.cells #[Value.slice a n c, Value.int .i64 x, Value.int .i64 y, Value.bool false] 61)).alloc (Obj.cells #[Value.string ⟨#[]⟩, Value.string ⟨#[]⟩, Value.bool false] 51) = w1 from hw1.symm]
  clear hw1
  go_cut [5] (fun s5 wx => ∃ b : Nat, s5 = .pointer (some ⟨b, 0, none⟩) ∧ w1.heap.size ≤ b ∧ wx.heap[b]? = some (.cells #[.string (strOf f), .string ⟨#[]⟩, .bool false] 51 (0, 0)) ∧ Below w1.heap.size w1 wx)
  case first =>
    go_region_held_law (fun w' => Below w1.heap.size w1 w')
      (first | assumption | exact Below.alloc (by assumption) (Below.size (by assumption)) _ | exact set3_below (by assumption) (Nat.le_refl _) _ _ _ | exact set3_below (Below.alloc (by assumption) (Below.size (by assumption)) _) (Below.size (by assumption)) _ _ _)
      ((first
        | (go_at_call 66; refine (HF.out _ hb0).mono ?_; rintro e w2 ⟨a2, c2, rfl, ho2, hb2⟩; have hst0 := string_own ho2; have hst := string_own (own_below ho2 (below_al w2 (Obj.cells #[Value.string ⟨#[]⟩, Value.string ⟨#[]⟩, Value.bool false] 51))); have hh2 := heap_alloc_new w2 (Obj.cells #[Value.string ⟨#[]⟩, Value.string ⟨#[]⟩, Value.bool false] 51); have z2 := (fun i => unfrozen hh2 i); have p0 : (w2.alloc (Obj.cells #[Value.string ⟨#[]⟩, Value.string ⟨#[]⟩, Value.bool false] 51)).cell? ⟨w2.heap.size, 0, none⟩ = some (.string ⟨#[]⟩) := (by rw [cell_at hh2]; rfl); have p1 : (w2.alloc (Obj.cells #[Value.string ⟨#[]⟩, Value.string ⟨#[]⟩, Value.bool false] 51)).cell? ⟨w2.heap.size, 1, none⟩ = some (.string ⟨#[]⟩) := (by rw [cell_at hh2]; rfl); have p2 : (w2.alloc (Obj.cells #[Value.string ⟨#[]⟩, Value.string ⟨#[]⟩, Value.bool false] 51)).cell? ⟨w2.heap.size, 2, none⟩ = some (.bool false) := (by rw [cell_at hh2]; rfl); have HH2 := Lib.hid hh2; have hs2 := hb0.trans (hb2.mono hb0.size); clear ho2 hb2 hh2)
        | (go_at_call 66; refine (HF.out _ hbB).mono ?_; rintro e w2 ⟨a2, c2, rfl, ho2, hb2⟩; have hst := string_own ho2; have hh2 := (hb2.block w1.heap.size (by simp)).trans (heap_alloc_new w1 (Obj.cells #[Value.string ⟨#[]⟩, Value.string ⟨#[]⟩, Value.bool false] 51)); have z2 := (fun i => unfrozen hh2 i); have p0 : w2.cell? ⟨w1.heap.size, 0, none⟩ = some (.string ⟨#[]⟩) := (by rw [cell_at hh2]; rfl); have p1 : w2.cell? ⟨w1.heap.size, 1, none⟩ = some (.string ⟨#[]⟩) := (by rw [cell_at hh2]; rfl); have p2 : w2.cell? ⟨w1.heap.size, 2, none⟩ = some (.bool false) := (by rw [cell_at hh2]; rfl); have HH2 := Lib.hid hh2; have hs2 := hbB.trans (hb2.mono hbB.size); clear ho2 hb2 hh2)))
    all_goals
      go_wp2_with fail
      go_meet
      first
      | exact ⟨_, rfl, hs2.size, heap_alloc_new _ _, hs2.alloc hs2.size _⟩
      | exact ⟨_, rfl, Nat.le_refl _, set3_at HH2.out _ _ _, set3_below hs2 (Nat.le_refl _) _ _ _⟩
  case rest =>
    obtain ⟨b, rfl, hb, hh, hbx⟩ := hcut
    have k3 := ld3 _ hbx
    have c0 : wc.cell? ⟨b, 0, none⟩ = some (.string (strOf f)) := by rw [cell_at hh]; rfl
    have c1 : wc.cell? ⟨b, 1, none⟩ = some (.string ⟨#[]⟩) := by rw [cell_at hh]; rfl
    have c2 : wc.cell? ⟨b, 2, none⟩ = some (.bool false) := by rw [cell_at hh]; rfl
    have hr1 := (hbx.block (w.heap.size + 1) (by omega)).trans H1.out
    have z2 := fun i => unfrozen hr1 i
    have r0 : wc.cell? ⟨w.heap.size + 1, 0, none⟩ = some (.string ⟨#[]⟩) := by rw [cell_at hr1]; rfl
    have r1 : wc.cell? ⟨w.heap.size + 1, 1, none⟩ = some (.string ⟨#[]⟩) := by rw [cell_at hr1]; rfl
    have r2 : wc.cell? ⟨w.heap.size + 1, 2, none⟩ = some (.bool false) := by rw [cell_at hr1]; rfl
    have hs := set3_at hr1 (.string (strOf f)) (.string ⟨#[]⟩) (.bool false)
    have HS := Lib.hid hs
    have HBX := Lib.hid (set3_below (HB1.out.trans (hbx.mono (by omega))) (show w.heap.size ≤ w.heap.size + 1 by omega) (.string (strOf f)) (.string ⟨#[]⟩) (.bool false))
    clear hh hr1 ld0 ld1 ld2 ld3 hbB hb0 HF hbx hs
    go_wp2_with fail
    have q0 : (set3 wc (w.heap.size + 1) (.string (strOf f)) (.string ⟨#[]⟩) (.bool false)).cell? ⟨w.heap.size + 1, 0, none⟩ = some (.string (strOf f)) := by rw [cell_at HS.out]; rfl
    have q1 : (set3 wc (w.heap.size + 1) (.string (strOf f)) (.string ⟨#[]⟩) (.bool false)).cell? ⟨w.heap.size + 1, 1, none⟩ = some (.string ⟨#[]⟩) := by rw [cell_at HS.out]; rfl
    have q2 : (set3 wc (w.heap.size + 1) (.string (strOf f)) (.string ⟨#[]⟩) (.bool false)).cell? ⟨w.heap.size + 1, 2, none⟩ = some (.bool false) := by rw [cell_at HS.out]; rfl
    unfold set3 at q0 q1 q2
    exact bodyPost_ret (v := .agg #[.string (strOf f), .string ⟨#[]⟩, .bool false]) (by simp [results, Tryz.results22, go_sem, q0, q1, q2]) rfl ⟨rfl, HBX.out⟩

end Go.Proofs.YtkgakgceamafcaaGreat

namespace Go.Proofs.YtkgakgceamafcaaGreat
open Go Go.RowKit
set_option linter.unusedVariables false

theorem strOf_beq (l m : List UInt8) : ((strOf l).toList == (strOf m).toList) = decide (l = m) := by
  have e : ∀ l, (strOf l).toList = l := fun l => by rw [ByteArray.toList_eq]; rfl
  rw [e, e]
  by_cases h : l = m
  · subst h; simp
  · rw [decide_eq_false h]; simpa using h

set_option maxRecDepth 100000 in
theorem bequal_of {w : World} {B1 B2 : Nat} {a1 a2 : Option Addr} {c1 c2 : Nat} {l m : List UInt8} (h1 : w.ownsRow B1 5 1 (.slice a1 l.length c1) l.length (bc l)) (h2 : w.ownsRow B2 5 1 (.slice a2 m.length c2) m.length (bc m)) :
    Calls Tryz.prog 218 #[.slice a1 l.length c1, .slice a2 m.length c2] w fun e w' => e = .returned (.bool (decide (l = m))) ∧ w = w' := by
  have s1 := string_own h1
  have s2 := string_own h2
  have HQ := Lib.hid (strOf_beq l m)
  clear h1 h2
  generalize strOf l = x at *
  generalize strOf m = y at *
  generalize decide (l = m) = r at *
  generalize l.length = n1 at *
  generalize m.length = n2 at *
  go_enter Tryz.func218, Tryz.ntmps218
  go_wp2_with fail
  go_ret
  exact ⟨by rw [HQ.out] <;> rfl, rfl⟩

end Go.Proofs.YtkgakgceamafcaaGreat
