/-
  Texts of this seat, put together (a claim holds few texts): FdP, FdA.
-/
import Derived.Test.YtkgakgceamafcaaGreatMk34

namespace Go.Proofs.YtkgakgceamafcaaGreat
open Go Go.RowKit
set_option linter.unusedVariables false

/-- So many of the first bytes of p end s. -/
def Bor (p s : List UInt8) (n : Nat) : Prop := n ≤ p.length ∧ p.take n <:+ s
/-- As many as can be. -/
def Lg (p s : List UInt8) (n : Nat) : Prop := Bor p s n ∧ ∀ k, Bor p s k → k ≤ n
theorem bor_zero (p s : List UInt8) : Bor p s 0 := ⟨Nat.zero_le _, by simp⟩
theorem lg_nil (p : List UInt8) : Lg p [] 0 := by
  refine ⟨bor_zero p [], fun k hk => ?_⟩
  have h1 := hk.2.length_le
  rw [List.length_take, Nat.min_eq_left hk.1] at h1
  exact h1
theorem Lg.le {p s : List UInt8} {n : Nat} (h : Lg p s n) : n ≤ p.length := h.1.1
theorem Bor.len {p s : List UInt8} {n : Nat} (h : Bor p s n) : n ≤ s.length := by
  have h1 := h.2.length_le
  rw [List.length_take, Nat.min_eq_left h.1] at h1
  exact h1
/-- The last byte of such an end. -/
theorem bor_snoc {p s : List UInt8} {c : UInt8} {k : Nat} : Bor p (s ++ [c]) (k + 1) ↔ Bor p s k ∧ p[k]? = some c := by
  constructor
  · rintro ⟨h1, h2⟩
    have hk : k < p.length := by omega
    rw [List.take_add_one, List.getElem?_eq_getElem hk] at h2
    simp only [Option.toList_some] at h2
    obtain ⟨u, hu⟩ := h2
    rw [← List.append_assoc] at hu
    have h3 := List.append_inj' hu rfl
    refine ⟨⟨by omega, ⟨u, h3.1⟩⟩, ?_⟩
    have h4 := h3.2
    rw [List.getElem?_eq_getElem hk]
    simpa using h4
  · rintro ⟨⟨h1, u, hu⟩, h2⟩
    have hk := (List.getElem?_eq_some_iff.1 h2).1
    refine ⟨by omega, u, ?_⟩
    rw [List.take_add_one, h2, ← List.append_assoc, hu]; rfl
/-- The bytes behind the first one, of the first so many ones: what the table speaks of. -/
def tl (p : List UInt8) (j : Nat) : List UInt8 := (p.take j).drop 1
theorem tl_snoc {p : List UInt8} {j : Nat} {c : UInt8} (hj : 0 < j) (h : p[j]? = some c) : tl p (j + 1) = tl p j ++ [c] := by
  have hl := (List.getElem?_eq_some_iff.1 h).1
  unfold tl
  rw [List.take_add_one, h, List.drop_append_of_le_length (by rw [List.length_take]; omega)]; rfl
theorem tl_one (p : List UInt8) : tl p 1 = [] := by unfold tl; cases p <;> simp
/-- The table, up to a number. -/
def Tab (p : List UInt8) (bs : List Nat) : Prop := ∀ j b, bs[j]? = some b → Lg p (tl p (j + 1)) b
theorem suf_lt {p s : List UInt8} {n k : Nat} (hn : Bor p s n) (hk : Bor p s k) (h : k < n) : Bor p (tl p n) k := by
  refine ⟨hk.1, ?_⟩
  have h1 : p.take k <:+ p.take n := List.suffix_of_suffix_length_le hk.2 hn.2 (by rw [List.length_take, List.length_take]; have := hn.1; omega)
  have h2 : tl p n <:+ p.take n := List.drop_suffix _ _
  refine List.suffix_of_suffix_length_le h1 h2 ?_
  unfold tl
  rw [List.length_drop, List.length_take, List.length_take]
  have := hn.1; omega
/-- What further's loop keeps. -/
def Fr (p s : List UInt8) (c : UInt8) (n : Nat) : Prop := Bor p s n ∧ ∀ k, Bor p (s ++ [c]) (k + 1) → k ≤ n
theorem fr_start {p s : List UInt8} {c : UInt8} {n : Nat} (h : Lg p s n) : Fr p s c n := ⟨h.1, fun k hk => h.2 k (bor_snoc.1 hk).1⟩
theorem fr_step {p s : List UInt8} {c : UInt8} {n b : Nat} (h : Fr p s c n) (hc : p[n]? ≠ some c) (hb : Lg p (tl p n) b) : Fr p s c b := by
  refine ⟨⟨hb.1.1, (hb.1.2.trans (List.drop_suffix _ _)).trans h.1.2⟩, fun k hk => ?_⟩
  have h1 := h.2 k hk
  have h2 := bor_snoc.1 hk
  rcases Nat.lt_or_ge k n with hlt | hge
  · exact hb.2 k (suf_lt h.1 h2.1 hlt)
  · have : k = n := by omega
    subst this
    exact absurd h2.2 hc
theorem fr_yes {p s : List UInt8} {c : UInt8} {n : Nat} (h : Fr p s c n) (hc : p[n]? = some c) : Lg p (s ++ [c]) (n + 1) := by
  refine ⟨bor_snoc.2 ⟨h.1, hc⟩, fun k hk => ?_⟩
  cases k with
  | zero => omega
  | succ k => have := h.2 k hk; omega
theorem fr_no {p s : List UInt8} {c : UInt8} (h : Fr p s c 0) (hc : p[0]? ≠ some c) : Lg p (s ++ [c]) 0 := by
  refine ⟨bor_zero _ _, fun k hk => ?_⟩
  cases k with
  | zero => omega
  | succ k =>
    have h1 := h.2 k hk
    have h2 := (bor_snoc.1 hk).2
    have : k = 0 := by omega
    subst this
    exact absurd h2 hc
/-- Does p stand at a place of b? -/
def occ (p b : List UInt8) (x : Nat) : Bool := decide ((b.drop x).take p.length = p)
/-- The places that end at the k-th byte at the latest, rising. -/
def upTo (p b : List UInt8) (k : Nat) : List Nat := (List.range (k + 1 - p.length)).filter (occ p b)
def allOf (p b : List UInt8) : List Nat := if p = [] then [] else upTo p b b.length
theorem occ_bor {p b : List UInt8} {k n : Nat} (hk : k < b.length) (h : Lg p (b.take (k + 1)) n) : n = p.length ↔ p.length ≤ k + 1 ∧ occ p b (k + 1 - p.length) = true := by
  have key : Bor p (b.take (k + 1)) p.length ↔ p.length ≤ k + 1 ∧ occ p b (k + 1 - p.length) = true := by
    unfold Bor occ
    rw [List.take_length, decide_eq_true_eq]
    constructor
    · rintro ⟨_, h2⟩
      have h3 := h2.length_le
      rw [List.length_take] at h3
      refine ⟨by omega, ?_⟩
      have h4 := List.suffix_iff_eq_drop.1 h2
      rw [List.length_take, Nat.min_eq_left (by omega), List.drop_take, show k + 1 - (k + 1 - p.length) = p.length by omega] at h4
      exact h4.symm
    · rintro ⟨h1, h2⟩
      refine ⟨Nat.le_refl _, List.suffix_iff_eq_drop.2 ?_⟩
      rw [List.length_take, Nat.min_eq_left (by omega), List.drop_take, show k + 1 - (k + 1 - p.length) = p.length by omega]
      exact h2.symm
  rw [← key]
  constructor
  · rintro rfl; exact h.1
  · intro hb
    have h1 := h.2 _ hb
    have h2 := h.le
    omega
theorem upTo_yes {p b : List UInt8} {k : Nat} (h1 : p.length ≤ k + 1) (h2 : occ p b (k + 1 - p.length) = true) : upTo p b (k + 1) = upTo p b k ++ [k + 1 - p.length] := by
  unfold upTo
  rw [show k + 1 + 1 - p.length = (k + 1 - p.length) + 1 by omega, List.range_succ, List.filter_append]
  congr 1
  rw [List.filter_cons, h2]; rfl
theorem upTo_no {p b : List UInt8} {k : Nat} (h : ¬ (p.length ≤ k + 1 ∧ occ p b (k + 1 - p.length) = true)) : upTo p b (k + 1) = upTo p b k := by
  unfold upTo
  by_cases h1 : p.length ≤ k + 1
  · have h2 : occ p b (k + 1 - p.length) = false := by
      cases e : occ p b (k + 1 - p.length)
      · rfl
      · exact absurd ⟨h1, e⟩ h
    rw [show k + 1 + 1 - p.length = (k + 1 - p.length) + 1 by omega, List.range_succ, List.filter_append]
    rw [List.filter_cons, h2]; simp
  · rw [show k + 1 + 1 - p.length = 0 by omega, show k + 1 - p.length = 0 by omega]
theorem upTo_zero {p b : List UInt8} (h : p ≠ []) : upTo p b 0 = [] := by
  unfold upTo
  have : 0 < p.length := List.length_pos_iff.2 h
  rw [show 0 + 1 - p.length = 0 by omega]; rfl
theorem upTo_lt {p b : List UInt8} {k x : Nat} (h : x ∈ upTo p b k) : x + p.length ≤ k := by
  unfold upTo at h
  have := List.mem_range.1 (List.mem_filter.1 h).1
  omega
theorem upTo_occ {p b : List UInt8} {k x : Nat} (h : x ∈ upTo p b k) : occ p b x = true := (List.mem_filter.1 h).2
/-- Where p stands in b, at a number of b's bytes, as the document has it. -/
def atP (p b : List UInt8) (x : Nat) : Bool := !p.isEmpty && decide (x + p.length ≤ b.length) && occ p b x
theorem all_eq (p b : List UInt8) : allOf p b = (List.range b.length).filter (atP p b) := by
  unfold allOf
  by_cases hp : p = []
  · rw [if_pos hp, hp]
    symm
    rw [List.filter_eq_nil_iff]
    intro x _
    simp [atP]
  · have hpos : 0 < p.length := List.length_pos_iff.2 hp
    rw [if_neg hp]
    unfold upTo
    have e : List.range b.length = List.range (b.length + 1 - p.length) ++ (List.range (b.length - (b.length + 1 - p.length))).map (b.length + 1 - p.length + ·) := by
      rw [← List.range_add]; congr 1; omega
    rw [e, List.filter_append]
    have h1 : ((List.range (b.length - (b.length + 1 - p.length))).map (b.length + 1 - p.length + ·)).filter (atP p b) = [] := by
      rw [List.filter_eq_nil_iff]
      intro x hx
      obtain ⟨y, hy, rfl⟩ := List.mem_map.1 hx
      have : ¬ (b.length + 1 - p.length + y + p.length ≤ b.length) := by omega
      simp [atP, this]
    rw [h1, List.append_nil]
    apply List.filter_congr
    intro x hx
    have hx := List.mem_range.1 hx
    unfold atP
    rw [decide_eq_true (show x + p.length ≤ b.length by omega)]
    have : p.isEmpty = false := by cases p <;> simp_all
    rw [this]; simp
/-- The places that are apart, from a number on. -/
def apart (m : Nat) : Nat → List Nat → List Nat
  | _, [] => []
  | e, x :: l => if x < e then apart m e l else x :: apart m (x + m) l
theorem apart_snoc (m : Nat) : ∀ (l : List Nat) (e x : Nat), apart m e (l ++ [x]) = apart m e l ++ (if x < (apart m e l).foldl (fun _ y => y + m) e then [] else [x])
  | [], e, x => by
    show (if x < e then apart m e [] else x :: apart m (x + m) []) = [] ++ (if x < e then [] else [x])
    rw [List.nil_append]; split <;> rfl
  | y :: l, e, x => by
    show (if y < e then apart m e (l ++ [x]) else y :: apart m (y + m) (l ++ [x])) = _
    by_cases h : y < e
    · rw [if_pos h, apart_snoc m l e x]
      have h2 : apart m e (y :: l) = apart m e l := by show (if y < e then _ else _) = _; rw [if_pos h]
      rw [h2]
    · rw [if_neg h, apart_snoc m l (y + m) x]
      have h2 : apart m e (y :: l) = y :: apart m (y + m) l := by show (if y < e then _ else _) = _; rw [if_neg h]
      rw [h2]; rfl
/-- Where the last one ended. -/
def endOf (m : Nat) (e : Nat) (l : List Nat) : Nat := l.foldl (fun _ y => y + m) e
/-- The places from a number on. -/
def from_ (p b : List UInt8) (i : Nat) : List Nat := (List.range' i (b.length - i)).filter (atP p b)
theorem from_zero (p b : List UInt8) : from_ p b 0 = allOf p b := by
  unfold from_
  rw [all_eq, Nat.sub_zero, List.range_eq_range']
theorem from_end {p b : List UInt8} {i : Nat} (h : b.length ≤ i) : from_ p b i = [] := by
  unfold from_
  rw [show b.length - i = 0 by omega]; rfl
theorem from_yes {p b : List UInt8} {i : Nat} (hi : i < b.length) (h : atP p b i = true) : from_ p b i = i :: from_ p b (i + 1) := by
  unfold from_
  rw [show b.length - i = (b.length - (i + 1)) + 1 by omega, List.range'_succ, List.filter_cons, h]; rfl
theorem from_no {p b : List UInt8} {i : Nat} (hi : i < b.length) (h : atP p b i = false) : from_ p b i = from_ p b (i + 1) := by
  unfold from_
  rw [show b.length - i = (b.length - (i + 1)) + 1 by omega, List.range'_succ, List.filter_cons, h]; simp
theorem from_ge {p b : List UInt8} {i x : Nat} (h : x ∈ from_ p b i) : i ≤ x ∧ x < b.length ∧ atP p b x = true := by
  unfold from_ at h
  obtain ⟨h1, h2⟩ := List.mem_filter.1 h
  have := List.mem_range'_1.1 h1
  exact ⟨this.1, by omega, h2⟩
theorem at_fits {p b : List UInt8} {x : Nat} (h : atP p b x = true) : x + p.length ≤ b.length ∧ 0 < p.length := by
  unfold atP at h
  simp only [Bool.and_eq_true, decide_eq_true_eq, Bool.not_eq_true'] at h
  refine ⟨h.1.2, ?_⟩
  have := h.1.1
  cases p <;> simp_all
/-- Those below a number fall out. -/
theorem apart_le {m e f : Nat} : ∀ {l : List Nat}, (∀ x ∈ l, e ≤ x ∧ f ≤ x) → apart m e l = apart m f l
  | [], _ => rfl
  | x :: l, h => by
    have hx := h x List.mem_cons_self
    show (if x < e then _ else _) = (if x < f then _ else _)
    rw [if_neg (by omega), if_neg (by omega)]
theorem apart_drop {p b : List UInt8} {m e : Nat} : ∀ (k i : Nat), i + k = e → apart m e (from_ p b i) = apart m e (from_ p b e)
  | 0, i, h => by rw [show i = e by omega]
  | k + 1, i, h => by
    by_cases hi : i < b.length
    · cases hat : atP p b i
      · rw [from_no hi hat]; exact apart_drop k (i + 1) (by omega)
      · rw [from_yes hi hat]
        show (if i < e then apart m e (from_ p b (i + 1)) else _) = _
        rw [if_pos (by omega)]
        exact apart_drop k (i + 1) (by omega)
    · rw [from_end (by omega), from_end (by omega)]
/-- The apart places that are still to come. -/
def apf (p b : List UInt8) (i : Nat) : List Nat := apart p.length i (from_ p b i)
theorem apf_zero (p b : List UInt8) : apf p b 0 = apart p.length 0 (allOf p b) := by unfold apf; rw [from_zero]
theorem apf_end {p b : List UInt8} {i : Nat} (h : b.length ≤ i) : apf p b i = [] := by unfold apf; rw [from_end h]; rfl
theorem apf_yes {p b : List UInt8} {i : Nat} (hi : i < b.length) (h : atP p b i = true) : apf p b i = i :: apf p b (i + p.length) := by
  have hm := (at_fits h).2
  unfold apf
  rw [from_yes hi h]
  show (if i < i then _ else i :: apart p.length (i + p.length) (from_ p b (i + 1))) = _
  rw [if_neg (by omega), apart_drop (p.length - 1) (i + 1) (by omega)]
theorem apf_no {p b : List UInt8} {i : Nat} (hi : i < b.length) (h : atP p b i = false) : apf p b i = apf p b (i + 1) := by
  unfold apf
  rw [from_no hi h]
  exact apart_le (fun x hx => by have := from_ge hx; omega)
theorem apf_ge {p b : List UInt8} : ∀ (k i x : Nat), b.length ≤ i + k → x ∈ apf p b i → i ≤ x ∧ x + p.length ≤ b.length
  | 0, i, x, h, hx => by rw [apf_end (by omega)] at hx; simp at hx
  | k + 1, i, x, h, hx => by
    by_cases hi : i < b.length
    · cases hat : atP p b i
      · rw [apf_no hi hat] at hx
        have := apf_ge k (i + 1) x (by omega) hx
        omega
      · rw [apf_yes hi hat] at hx
        have hm := at_fits hat
        rcases List.mem_cons.1 hx with rfl | hx
        · omega
        · have := apf_ge k (i + p.length) x (by omega) hx
          omega
    · rw [apf_end (by omega)] at hx; simp at hx
/-- b from a number on, with another text at some places of so many bytes. -/
def repl (b o : List UInt8) (m : Nat) : Nat → List Nat → List UInt8
  | f, [] => b.drop f
  | f, x :: l => (b.drop f).take (x - f) ++ o ++ repl b o m (x + m) l
theorem repl_skip {b o : List UInt8} {m i : Nat} {l : List Nat} {c : UInt8} (hc : b[i]? = some c) (h : ∀ x ∈ l, i + 1 ≤ x) : repl b o m i l = c :: repl b o m (i + 1) l := by
  have hi := (List.getElem?_eq_some_iff.1 hc)
  have hd : b.drop i = c :: b.drop (i + 1) := by rw [List.drop_eq_getElem_cons hi.1, hi.2]
  cases l with
  | nil => exact hd
  | cons x l =>
    have hx := h x List.mem_cons_self
    show (b.drop i).take (x - i) ++ o ++ _ = c :: ((b.drop (i + 1)).take (x - (i + 1)) ++ o ++ _)
    rw [hd, show x - i = (x - (i + 1)) + 1 by omega, List.take_succ_cons]; rfl
theorem repl_at (b o : List UInt8) (m i : Nat) (l : List Nat) : repl b o m i (i :: l) = o ++ repl b o m (i + m) l := by
  show (b.drop i).take (i - i) ++ o ++ _ = _
  rw [Nat.sub_self, List.take_zero, List.nil_append]
theorem occ_take {p b : List UInt8} {x : Nat} (h : occ p b x = true) : (b.drop x).take p.length = p := by
  unfold occ at h
  exact of_decide_eq_true h
/-- By itself: as it was. -/
theorem repl_self {p b : List UInt8} : ∀ (l : List Nat) (f : Nat), (∀ x ∈ l, occ p b x = true) → (l.Pairwise fun x y => x + p.length ≤ y) → (∀ x ∈ l, f ≤ x) → repl b p p.length f l = b.drop f
  | [], f, _, _, _ => rfl
  | x :: l, f, h1, h2, h3 => by
    have hx := h3 x List.mem_cons_self
    rw [List.pairwise_cons] at h2
    have ih := repl_self l (x + p.length) (fun y hy => h1 y (List.mem_cons_of_mem _ hy)) h2.2 h2.1
    show (b.drop f).take (x - f) ++ p ++ repl b p p.length (x + p.length) l = _
    rw [ih]
    have e1 := occ_take (h1 x List.mem_cons_self)
    have e2 : b.drop x = p ++ b.drop (x + p.length) := by
      rw [← List.drop_drop]
      conv => lhs; rw [← List.take_append_drop p.length (b.drop x), e1]
    have e3 : b.drop f = (b.drop f).take (x - f) ++ b.drop x := by
      have : b.drop x = (b.drop f).drop (x - f) := by rw [List.drop_drop]; congr 1; omega
      rw [this, List.take_append_drop]
    rw [List.append_assoc, ← e2]
    exact e3.symm
theorem apart_pair {m : Nat} : ∀ (l : List Nat) (e : Nat), (∀ x ∈ apart m e l, e ≤ x) ∧ ((apart m e l).Pairwise fun x y => x + m ≤ y) ∧ ∀ x ∈ apart m e l, x ∈ l
  | [], e => ⟨fun x hx => by simp [apart] at hx, List.Pairwise.nil, fun x hx => by simp [apart] at hx⟩
  | y :: l, e => by
    by_cases h : y < e
    · have h2 : apart m e (y :: l) = apart m e l := by show (if y < e then _ else _) = _; rw [if_pos h]
      rw [h2]
      obtain ⟨a, b, c⟩ := apart_pair l e
      exact ⟨a, b, fun x hx => List.mem_cons_of_mem _ (c x hx)⟩
    · have h2 : apart m e (y :: l) = y :: apart m (y + m) l := by show (if y < e then _ else _) = _; rw [if_neg h]
      rw [h2]
      obtain ⟨a, b, c⟩ := apart_pair l (y + m)
      refine ⟨fun x hx => ?_, List.pairwise_cons.2 ⟨a, b⟩, fun x hx => ?_⟩
      · rcases List.mem_cons.1 hx with rfl | hx
        · omega
        · have := a x hx; omega
      · rcases List.mem_cons.1 hx with rfl | hx
        · exact List.mem_cons_self
        · exact List.mem_cons_of_mem _ (c x hx)
/-- Which places are replaced: all that are apart, or the first one. -/
def chosen (all : Bool) (l : List Nat) : List Nat := if all then l else l.take 1
theorem upTo_pre {p b : List UInt8} {k k' : Nat} (h : k ≤ k') : upTo p b k <+: upTo p b k' := by
  unfold upTo
  rw [show k' + 1 - p.length = (k + 1 - p.length) + (k' + 1 - p.length - (k + 1 - p.length)) by omega, List.range_add, List.filter_append]
  exact List.prefix_append _ _
theorem pre_at {l m : List Nat} {x : Nat} (h : l ++ [x] <+: m) : m[l.length]? = some x := by
  obtain ⟨u, rfl⟩ := h
  rw [List.append_assoc, List.getElem?_append_right (Nat.le_refl _), Nat.sub_self]; rfl
theorem apart_pre (m : Nat) : ∀ (l r : List Nat) (e : Nat), apart m e l <+: apart m e (l ++ r)
  | [], r, e => List.nil_prefix
  | x :: l, r, e => by
    show (if x < e then apart m e l else x :: apart m (x + m) l) <+: (if x < e then apart m e (l ++ r) else x :: apart m (x + m) (l ++ r))
    by_cases h : x < e
    · rw [if_pos h, if_pos h]; exact apart_pre m l r e
    · rw [if_neg h, if_neg h]; exact (List.cons_prefix_cons).2 ⟨rfl, apart_pre m l r (x + m)⟩
theorem endOf_snoc (m e : Nat) (l : List Nat) (x : Nat) : endOf m e (l ++ [x]) = x + m := by unfold endOf; rw [List.foldl_append]; rfl
theorem apart_skip {m e x : Nat} {l : List Nat} (h : x < endOf m e (apart m e l)) : apart m e (l ++ [x]) = apart m e l := by
  rw [apart_snoc]
  unfold endOf at h
  rw [if_pos h, List.append_nil]
theorem apart_take {m e x : Nat} {l : List Nat} (h : ¬ x < endOf m e (apart m e l)) : apart m e (l ++ [x]) = apart m e l ++ [x] := by
  rw [apart_snoc]
  unfold endOf at h
  rw [if_neg h]
theorem all_lt {p b : List UInt8} {x : Nat} (h : x ∈ allOf p b) : x + p.length ≤ b.length ∧ 0 < p.length ∧ occ p b x = true := by
  unfold allOf at h
  split at h
  · simp at h
  · rename_i hp
    exact ⟨upTo_lt h, List.length_pos_iff.2 hp, upTo_occ h⟩
end Go.Proofs.YtkgakgceamafcaaGreat

namespace Go.Proofs.YtkgakgceamafcaaGreat
open Go Go.RowKit
set_option linter.unusedVariables false

/-- Numbers as cells. -/
def ib (bs : List Nat) : List Value := bs.map fun (b : Nat) => Value.int .i64 (b : Int)
theorem ib_len (bs : List Nat) : (ib bs).length = bs.length := by simp [ib]
theorem ib_app (a b : List Nat) : ib (a ++ b) = ib a ++ ib b := by simp [ib]
theorem rd_ib {w : World} {a : Option Addr} {bs : List Nat} (h : Rd w 1 a bs.length (ib bs)) {i b : Nat} (hb : bs[i]? = some b) : ∃ g off, a = some ⟨g, off, none⟩ ∧ g < w.heap.size ∧ w.cell? ⟨g, off + i, none⟩ = some (.int .i64 (b : Int)) := by
  have hi := (List.getElem?_eq_some_iff.1 hb).1
  obtain ⟨g, off, rfl, hg, hc⟩ := h.2 (by omega)
  refine ⟨g, off, rfl, hg, hc i _ ?_⟩
  unfold ib
  rw [List.getElem?_map, hb]; rfl
theorem lb_some {l : List UInt8} {i : Nat} {c : UInt8} (h : l[i]? = some c) : lb l i = (c.toNat : Int) := by
  unfold lb
  rw [List.getD_eq_getElem?_getD, h]; rfl
theorem lb_eq {l : List UInt8} {i : Nat} {c : UInt8} (hi : i < l.length) : lb l i = (c.toNat : Int) ↔ l[i]? = some c := by
  constructor
  · intro h
    rw [List.getElem?_eq_getElem hi]
    have h2 : lb l i = (l[i].toNat : Int) := lb_some (List.getElem?_eq_getElem hi)
    rw [h2] at h
    congr 1
    apply UInt8.toNat_inj.1
    omega
  · exact lb_some

set_option maxRecDepth 100000 in
set_option maxHeartbeats 4000000 in
theorem further_of {w : World} {ta ba : Option Addr} {tc bc' m J n : Nat} {p s : List UInt8} {bs : List Nat} {c : UInt8} {x : Int} (hp : Rd w 1 ta p.length (bc p)) (hb : Rd w 1 ba bs.length (ib bs)) (hm : p.length = m) (hJ : bs.length = J) (hx : (c.toNat : Int) = x) (h0 : 0 < m) (hml : m ≤ 1000000) (hJm : J ≤ m) (hT : Tab p bs) (hn : n ≤ J) (hL : Lg p s n) :
    Calls Tryz.prog 138 #[.agg #[.slice ta m tc, .slice ba J bc'], .int .i64 n, .int .u8 x] w fun e w' => ∃ n' : Nat, e = .returned (.int .i64 (n' : Int)) ∧ Lg p (s ++ [c]) n' ∧ Below w.heap.size w w' := by
  have hh := heap_alloc_new w (Obj.cells #[.slice ta m tc, .slice ba J bc'] 163)
  have al := t_al w (Obj.cells #[.slice ta m tc, .slice ba J bc'] 163)
  have hz : (w.alloc (Obj.cells #[.slice ta m tc, .slice ba J bc'] 163)).heap.size = w.heap.size + 1 := by simp
  obtain ⟨w1, hw1⟩ : ∃ w1, w.alloc (Obj.cells #[.slice ta m tc, .slice ba J bc'] 163) = w1 := ⟨_, rfl⟩
  rw [hw1] at hh al hz
  have c0 : w1.cell? ⟨w.heap.size, 0, none⟩ = some (.slice ta m tc) := (cell_at hh 0).trans rfl
  have c1 : w1.cell? ⟨w.heap.size, 1, none⟩ = some (.slice ba J bc') := (cell_at hh 1).trans rfl
  have HP := Lib.hid (hp.below al)
  have HB := Lib.hid (hb.below al)
  have HM := Lib.hid hm
  have HJ := Lib.hid hJ
  have HX := Lib.hid hx
  have HT := Lib.hid hT
  have AL := Lib.hid al
  have HF := Lib.hid (fr_start (c := c) hL)
  have hs1 : w.heap.size < w1.heap.size := by omega
  clear hh hp hb hm hJ hx hT al hz hL
  go_enter Tryz.func138, Tryz.ntmps138
  go_wp2_with fail
  go_loopw [1] (fun v wr => ∃ k : Nat, v = .int .i64 k ∧ k ≤ J ∧ Fr p s c k ∧ Below w1.heap.size w1 wr) (fun v _ => (intOf v).toNat)
  case atStart => exact ⟨n, rfl, hn, HF.out, Below.refl _ _⟩
  case round =>
    obtain ⟨k, rfl, hk, hf, hb⟩ := hrel
    have HFk := Lib.hid hf
    have HBr := Lib.hid hb
    have r0 := (hb.cell (p := ⟨w.heap.size, 0, none⟩) hs1).trans c0
    have r1 := (hb.cell (p := ⟨w.heap.size, 1, none⟩) hs1).trans c1
    have hkm : k ≤ m := by omega
    by_cases hpos : 0 < k
    · have d0 : decide ((0 : Int) < (k : Int)) = true := decide_eq_true (by omega)
      have d0' : decide (0 < k) = true := decide_eq_true hpos
      -- where one goes back
      have hkb : k - 1 < bs.length := by rw [HJ.out]; omega
      obtain ⟨b, hbk⟩ : ∃ b, bs[k - 1]? = some b := ⟨_, List.getElem?_eq_getElem hkb⟩
      have hLb := HT.out (k - 1) b hbk
      rw [show k - 1 + 1 = k by omega] at hLb
      have hbl : b ≤ k - 1 := by
        have h1 := hLb.1.len
        have h2 := HM.out
        unfold tl at h1
        rw [List.length_drop, List.length_take] at h1
        omega
      obtain ⟨g, off, rfl, hg, hcb⟩ := rd_ib HB.out hbk
      have hcb' := (hb.cell (p := ⟨g, off + (k - 1), none⟩) hg).trans hcb
      obtain ⟨q, hq⟩ : ∃ q, k - 1 = q := ⟨_, rfl⟩
      have hqi : (k : Int) - 1 = (q : Int) := by omega
      have hwq : IntKind.i64.wrap ((k : Int) - 1) = (q : Int) := by rw [IntKind.wrap_i64]; omega
      rw [hq] at hcb'
      have i0 : (0 : Int) ≤ (q : Int) := by omega
      have i1 : (q : Int) < (J : Int) := by omega
      have HLB := Lib.hid hLb
      have HBL := Lib.hid hbl
      by_cases hkm' : k = m
      · have de : (k == m) = true := by simpa using hkm'
        have de' : ((k : Int) == (m : Int)) = true := by simp; omega
        have hne : p[k]? ≠ some c := by
          rw [List.getElem?_eq_none (by rw [HM.out]; omega)]; simp
        have HR := Lib.hid (fr_step HFk.out hne HLB.out)
        have HKM := Lib.hid hkm'
        clear hf hb hbk hcb hLb hbl hne hkm' hq hwq
        go_wp2_with fail
        go_roundw
        case rel => exact ⟨b, rfl, by have := HBL.out; omega, HR.out, HBr.out⟩
        case measure => have := HBL.out; simp [intOf]; omega
      · have de : (k == m) = false := by simpa using hkm'
        have de' : ((k : Int) == (m : Int)) = false := by simp; omega
        have hkp : k < p.length := by rw [HM.out]; omega
        obtain ⟨tg, toff, rfl, htg, htc⟩ := rd_at HP.out hkp
        have htc' := (hb.cell (p := ⟨tg, toff + k, none⟩) htg).trans htc
        have j0 : (0 : Int) ≤ (k : Int) := by omega
        have j1 : (k : Int) < (m : Int) := by omega
        by_cases hc : p[k]? = some c
        · have hv : lb p k = x := by rw [← HX.out]; exact lb_some hc
          have HY := Lib.hid (fr_yes HFk.out hc)
          rw [hv] at htc'
          have dx : (x != x) = false := by simp
          have dx' : (x == x) = true := by simp
          clear hf hb hbk hcb hLb hbl hkm' hq hwq htc hc hv hkp htg hg HLB
          go_wp2_with fail
          go_ret
          exact ⟨k + 1, by first | rfl | simp, HY.out, AL.out.trans (HBr.out.mono AL.out.size)⟩
        · have hne : ¬ lb p k = x := fun h => hc ((lb_eq hkp).1 (by rw [HX.out]; exact h))
          have HR := Lib.hid (fr_step HFk.out hc HLB.out)
          obtain ⟨y, hy⟩ : ∃ y, lb p k = y := ⟨_, rfl⟩
          rw [hy] at htc' hne
          have dx : (y != x) = true := by simpa using hne
          have dx' : (y == x) = false := by simpa using hne
          clear hf hb hbk hcb hLb hbl hkm' hq hwq htc hc hkp htg hg HLB hy hne
          go_wp2_with fail
          go_roundw
          case rel => exact ⟨b, rfl, by have := HBL.out; omega, HR.out, HBr.out⟩
          case measure => have := HBL.out; simp [intOf]; omega
    · have hk0 : k = 0 := by omega
      have d0 : decide ((0 : Int) < (k : Int)) = false := decide_eq_false (by omega)
      have d0' : decide (0 < k) = false := decide_eq_false hpos
      have hkp : k < p.length := by rw [HM.out]; omega
      obtain ⟨tg, toff, rfl, htg, htc⟩ := rd_at HP.out hkp
      have htc' := (hb.cell (p := ⟨tg, toff + k, none⟩) htg).trans htc
      have j0 : (0 : Int) ≤ (k : Int) := by omega
      have j1 : (k : Int) < (m : Int) := by omega
      by_cases hc : p[k]? = some c
      · have hv : lb p k = x := by rw [← HX.out]; exact lb_some hc
        have HY := Lib.hid (fr_yes HFk.out hc)
        rw [hv] at htc'
        have dx' : (x == x) = true := by simp
        clear hf hb htc hc hv hkp htg hk0
        go_wp2_with fail
        go_ret
        exact ⟨k + 1, by first | rfl | simp, HY.out, AL.out.trans (HBr.out.mono AL.out.size)⟩
      · have hne : ¬ lb p k = x := fun h => hc ((lb_eq hkp).1 (by rw [HX.out]; exact h))
        have HY := Lib.hid (show Lg p (s ++ [c]) k by rw [hk0] at hc ⊢; have h2 := HFk.out; rw [hk0] at h2; exact fr_no h2 hc)
        obtain ⟨y, hy⟩ : ∃ y, lb p k = y := ⟨_, rfl⟩
        rw [hy] at htc' hne
        have dx' : (y == x) = false := by simpa using hne
        clear hf hb htc hc hkp htg hk0 hy hne
        go_wp2_with fail
        go_ret
        exact ⟨k, rfl, HY.out, AL.out.trans (HBr.out.mono AL.out.size)⟩

end Go.Proofs.YtkgakgceamafcaaGreat
