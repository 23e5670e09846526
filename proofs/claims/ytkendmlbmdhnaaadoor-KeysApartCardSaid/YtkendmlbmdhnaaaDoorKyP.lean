/-
  Plain facts on keys: a key's text, the key with which a text begins, and the keys of a text. No Go in sight.
-/
import Derived.Test.YtkendmlbmdhnaaaDoorUtfK
import Derived.Test.YtkendmlbmdhnaaaDoorUtfF
namespace Go.Proofs.YtkendmlbmdhnaaaDoor
open Go Go.RowKit
set_option linter.unusedVariables false

/-- Is it a character's key? -/
def ty (k : Int) : Bool := decide (32 ≤ k ∧ k ≠ 127 ∧ good k)

/-- The text of a key that stands for no character, and of <; else nothing. -/
def nm (k : Int) : List UInt8 :=
  if k = 60 then [60, 108, 116, 62]
  else if k = 9 then [60, 84, 97, 98, 62]
  else if k = 13 then [60, 67, 82, 62]
  else if k = 8 then [60, 66, 83, 62]
  else if k = 27 then [60, 69, 115, 99, 62]
  else if k = 127 then [60, 68, 101, 108, 62]
  else if k = -1 then [60, 76, 101, 102, 116, 62]
  else if k = -2 then [60, 82, 105, 103, 104, 116, 62]
  else if k = -3 then [60, 85, 112, 62]
  else if k = -4 then [60, 68, 111, 119, 110, 62]
  else if k = -5 then [60, 72, 111, 109, 101, 62]
  else if k = -6 then [60, 69, 110, 100, 62]
  else if 1 ≤ k ∧ k ≤ 26 then [60, 67, 45, UInt8.ofNat (96 + k.toNat), 62]
  else []

/-- A key's text. -/
def tx (k : Int) : List UInt8 := if nm k = [] then (if ty k = true then Lib.encodeRune k else []) else nm k
def isK (k : Int) : Bool := decide (tx k ≠ [])

/-- The keys whose texts begin with <, in the order of the program's table and letters. -/
def spl : List Int := [60, 9, 13, 8, 27, 127, -1, -2, -3, -4, -5, -6]
def ctl : List Int := (List.range 26).map fun (n : Nat) => (n : Int) + 1
def brL (t : List UInt8) : Int := ((spl ++ ctl).find? fun k => (tx k).isPrefixOf t).getD 0

theorem nm_in (k : Int) (h : nm k ≠ []) : k ∈ spl ++ ctl := by
  by_cases h1 : -6 ≤ k ∧ k ≤ 127
  · obtain ⟨n, hn⟩ : ∃ n : Nat, k = (n : Int) - 6 := ⟨(k + 6).toNat, by omega⟩
    have hl : n < 134 := by omega
    subst hn
    have key : ∀ n : Nat, n < 134 → nm ((n : Int) - 6) ≠ [] → ((n : Int) - 6) ∈ spl ++ ctl := by decide +kernel
    exact key n hl h
  · exfalso
    apply h
    unfold nm
    repeat rw [if_neg (by omega)]
theorem nm_some : ∀ k ∈ spl ++ ctl, nm k ≠ [] := by decide +kernel
theorem nm_head : ∀ k ∈ spl ++ ctl, (nm k).head? = some 60 := by decide +kernel
theorem nm_apart : ∀ k ∈ spl ++ ctl, ∀ j ∈ spl ++ ctl, (nm j).isPrefixOf (nm k) = true → j = k := by decide +kernel
theorem nm_low : ∀ k ∈ spl ++ ctl, ∀ b ∈ nm k, b.toNat < 128 := by decide +kernel
theorem spl_range : ∀ k ∈ spl ++ ctl, -6 ≤ k ∧ k ≤ 127 ∧ k ≠ 0 := by decide +kernel
theorem tx_nm (k : Int) (h : k ∈ spl ++ ctl) : tx k = nm k := by unfold tx; rw [if_neg (nm_some k h)]
theorem tx_not (k : Int) (h : k ∉ spl ++ ctl) : tx k = if ty k = true then Lib.encodeRune k else [] := by
  unfold tx; rw [if_pos]
  rcases Decidable.em (nm k = []) with h1 | h1
  · exact h1
  · exact absurd (nm_in k h1) h

theorem enc_ne (r : Int) : Lib.encodeRune r ≠ [] := by
  intro h
  have := (Lib.encodeRuneZ_length r).1
  have e : (Lib.encodeRune r).length = (Lib.encodeRuneZ r).length := by unfold Lib.encodeRune; rw [List.length_map]
  rw [h] at e
  simp only [List.length_nil] at e
  omega
theorem enc_length (r : Int) : (Lib.encodeRune r).length = (Lib.encodeRuneZ r).length := by unfold Lib.encodeRune; rw [List.length_map]

theorem isK_iff (k : Int) : isK k = true ↔ (-6 ≤ k ∧ k ≤ 27 ∧ k ≠ 0) ∨ k = 127 ∨ ty k = true := by
  unfold isK
  rw [decide_eq_true_iff]
  by_cases h : k ∈ spl ++ ctl
  · rw [tx_nm k h]
    refine ⟨fun _ => ?_, fun _ => nm_some k h⟩
    have key : ∀ k ∈ spl ++ ctl, (-6 ≤ k ∧ k ≤ 27 ∧ k ≠ 0) ∨ k = 127 ∨ ty k = true := by decide +kernel
    exact key k h
  · rw [tx_not k h]
    constructor
    · intro hn
      by_cases ht : ty k = true
      · exact Or.inr (Or.inr ht)
      · rw [if_neg ht] at hn; exact absurd rfl hn
    · intro hn
      by_cases ht : ty k = true
      · rw [if_pos ht]; exact enc_ne k
      · exfalso
        rcases hn with ⟨a, b, c⟩ | rfl | d
        · obtain ⟨n, hn⟩ : ∃ n : Nat, k = (n : Int) - 6 := ⟨(k + 6).toNat, by omega⟩
          have hl : n < 34 := by omega
          subst hn
          have key : ∀ n : Nat, n < 34 → (n : Int) - 6 ≠ 0 → ((n : Int) - 6) ∈ spl ++ ctl := by decide +kernel
          exact h (key n hl c)
        · exact h (by decide)
        · exact ht d

/-- A good number whose bytes stand at a place is the character there. -/
theorem pre_bt {s : ByteArray} {i : Nat} {l : List UInt8} (h : l <+: s.data.toList.drop i) : i ≤ s.size → i + l.length ≤ s.size ∧ ∀ j, j < l.length → bt s (i + j) = ((l.getD j 0).toNat : Int) := by
  intro hi
  obtain ⟨z, hz⟩ := h
  have hl := congrArg List.length hz
  rw [List.length_append, List.length_drop] at hl
  have e : s.data.toList.length = s.size := rfl
  refine ⟨by omega, fun j hj => ?_⟩
  unfold bt
  have : s.data.toList.getD (i + j) 0 = l.getD j 0 := by
    rw [List.getD_eq_getElem?_getD, List.getD_eq_getElem?_getD, ← List.getElem?_drop, ← hz, List.getElem?_append_left hj]
  rw [this]
theorem pre_of_bt {s : ByteArray} {i : Nat} {l : List UInt8} (hs : i + l.length ≤ s.size) (hb : ∀ j, j < l.length → bt s (i + j) = ((l.getD j 0).toNat : Int)) : l <+: s.data.toList.drop i := by
  refine ⟨s.data.toList.drop (i + l.length), ?_⟩
  have e : s.data.toList.length = s.size := rfl
  apply List.ext_getElem?
  intro j
  by_cases hj : j < l.length
  · rw [List.getElem?_append_left hj, List.getElem?_drop]
    have h1 := hb j hj
    unfold bt at h1
    have h2 : i + j < s.data.toList.length := by omega
    rw [List.getD_eq_getElem?_getD, List.getD_eq_getElem?_getD, List.getElem?_eq_getElem h2, List.getElem?_eq_getElem hj] at h1
    rw [List.getElem?_eq_getElem h2, List.getElem?_eq_getElem hj]
    simp only [Option.getD_some] at h1
    exact congrArg some (UInt8.toNat_inj.1 (by omega)).symm
  · rw [List.getElem?_append_right (by omega), List.getElem?_drop, List.getElem?_drop]
    congr 1
    omega
theorem enc_getD (r : Int) (j : Nat) (hj : j < (Lib.encodeRuneZ r).length) : (((Lib.encodeRune r).getD j 0).toNat : Int) = (Lib.encodeRuneZ r)[j] := by
  rw [← enc_bt r j hj]; rfl
theorem enc_rn {s : ByteArray} {i : Nat} {r : Int} (hg : good r) (hi : i < s.size) (h : Lib.encodeRune r <+: s.data.toList.drop i) : rn s i = r ∧ wd s i = (Lib.encodeRune r).length := by
  obtain ⟨h1, h2⟩ := pre_bt h (Nat.le_of_lt hi)
  rw [enc_length] at h1 h2
  have hd := dec_enc s i r hg h1 fun j hj => by rw [h2 j hj, enc_getD r j hj]
  refine ⟨?_, by unfold wd; rw [hd, enc_length]⟩
  unfold rn
  rw [hd]
  have := hg.1
  rw [if_neg]
  · simp only []; omega
  · simp only []
    rintro ⟨a, b⟩
    have e : r = 65533 := by omega
    rw [e] at b
    exact absurd b (by decide +kernel)

theorem dN_enc (n b0 b1 b2 b3 : Nat) (h0 : b0 < 256) (h1 : b1 < 256) (h2 : b2 < 256) (h3 : b3 < 256) (hn : 1 ≤ n) (hno : ¬ ((Lib.decodeN n b0 b1 b2 b3).1 = 65533 ∧ (Lib.decodeN n b0 b1 b2 b3).2 = 1)) :
    good ((Lib.decodeN n b0 b1 b2 b3).1 : Int) ∧ (Lib.decodeN n b0 b1 b2 b3).2 = (Lib.encodeRuneZ ((Lib.decodeN n b0 b1 b2 b3).1 : Int)).length ∧
      ∀ j, j < (Lib.decodeN n b0 b1 b2 b3).2 → ((([b0, b1, b2, b3] : List Nat).getD j 0 : Nat) : Int) = (Lib.encodeRuneZ ((Lib.decodeN n b0 b1 b2 b3).1 : Int)).getD j 0 := by
  revert hno
  unfold Lib.decodeN
  repeat' split
  all_goals (intro hno; first | (exfalso; exact hno ⟨rfl, rfl⟩) | skip)
  all_goals (refine ⟨by unfold good; simp only []; omega, ?_⟩)
  all_goals (simp only [])
  all_goals first
    | (rw [Lib.encodeRuneZ_one (by omega) (by omega)]; refine ⟨rfl, fun j hj => ?_⟩)
    | (rw [Lib.encodeRuneZ_two (by omega) (by omega)]; refine ⟨rfl, fun j hj => ?_⟩)
    | (rw [Lib.encodeRuneZ_three (by omega)]; refine ⟨rfl, fun j hj => ?_⟩)
    | (rw [Lib.encodeRuneZ_four (by omega) (by omega)]; refine ⟨rfl, fun j hj => ?_⟩)
  all_goals
    (match j, hj with
    | 0, _ => (simp only [List.getD_cons_zero]; try omega)
    | 1, _ => simp only [List.getD_cons_zero, List.getD_cons_succ] at *; omega
    | 2, _ => simp only [List.getD_cons_zero, List.getD_cons_succ] at *; omega
    | 3, _ => simp only [List.getD_cons_zero, List.getD_cons_succ] at *; omega
    | j + 4, hj => exfalso; omega)

theorem rn_enc (s : ByteArray) (i : Nat) (hi : i < s.size) (h : rn s i ≠ -1) : good (rn s i) ∧ Lib.encodeRune (rn s i) <+: s.data.toList.drop i ∧ wd s i = (Lib.encodeRune (rn s i)).length := by
  have hw := wd_facts s i hi
  have hdec := Lib.decode_at s i
  have lt : ∀ j, (s.get! j).toNat < 256 := fun j => (s.get! j).toNat_lt
  have hno : ¬ ((Utf8.decode s i).1 = 65533 ∧ (Utf8.decode s i).2 = 1) := by
    intro hc
    apply h
    unfold rn
    rw [if_pos hc]
  have hr : rn s i = ((Utf8.decode s i).1 : Int) := by unfold rn; rw [if_neg hno]
  have hwd : wd s i = (Utf8.decode s i).2 := rfl
  rw [hdec] at hno hr hwd
  obtain ⟨g, l, b⟩ := dN_enc (s.size - i) _ _ _ _ (lt _) (lt _) (lt _) (lt _) (by omega) hno
  rw [← hr] at g l b
  rw [← hwd] at l b
  refine ⟨g, ?_, by rw [enc_length]; exact l⟩
  apply pre_of_bt
  · rw [enc_length, ← l]; exact hw.2.2.1
  · intro j hj
    rw [enc_length] at hj
    rw [enc_getD _ _ hj]
    have hb := b j (by omega)
    have h4 := hw.2.1
    rw [List.getD_eq_getElem?_getD (l := Lib.encodeRuneZ _), List.getElem?_eq_getElem hj, Option.getD_some] at hb
    rw [← hb, bt_get!]
    match j, hj with
    | 0, _ => rfl
    | 1, _ => rfl
    | 2, _ => rfl
    | 3, _ => rfl
    | j + 4, hj => exfalso; omega

/-- The key with which a text begins at a place; 0: none. -/
def keyAt (s : ByteArray) (i : Nat) : Int := if bt s i = 60 then brL (s.data.toList.drop i) else if ty (rn s i) = true then rn s i else 0

theorem ascii_rn (s : ByteArray) (i : Nat) (hi : i < s.size) (h : bt s i < 128) : rn s i = bt s i ∧ wd s i = 1 := by
  have e : bt s i = ((s.get! i).toNat : Int) := bt_get! s i
  have hd : Utf8.decode s i = ((s.get! i).toNat, 1) := by rw [Lib.decode_at]; exact dec1 _ _ _ _ _ (by omega)
  unfold rn wd
  rw [hd]
  refine ⟨?_, rfl⟩
  rw [if_neg (by simp only []; omega)]
  simp only []
  exact e.symm

theorem keyAt_is (s : ByteArray) (i : Nat) (hi : i < s.size) (k : Int) (hk : tx k ≠ []) (hp : tx k <+: s.data.toList.drop i) : keyAt s i = k := by
  obtain ⟨hsz, hb⟩ := pre_bt hp (Nat.le_of_lt hi)
  by_cases h : k ∈ spl ++ ctl
  · have e := tx_nm k h
    have h60 : bt s i = 60 := by
      have := hb 0 (List.length_pos_iff.2 hk)
      rw [Nat.add_zero, e] at this
      have hh := nm_head k h
      rw [this]
      cases hq : nm k with
      | nil => rw [hq] at hh; cases hh
      | cons a l => rw [hq] at hh; cases hh; rfl
    unfold keyAt
    rw [if_pos h60]
    unfold brL
    cases hf : (spl ++ ctl).find? fun k => (tx k).isPrefixOf (s.data.toList.drop i) with
    | none =>
      have := List.find?_eq_none.1 hf k h
      exact absurd (List.isPrefixOf_iff_prefix.2 hp) this
    | some j =>
      have hj := List.mem_of_find?_eq_some hf
      have hjp := List.isPrefixOf_iff_prefix.1 (List.find?_some (p := fun k => (tx k).isPrefixOf (s.data.toList.drop i)) hf)
      rw [tx_nm j hj] at hjp
      rw [e] at hp
      show j = k
      rcases List.prefix_or_prefix_of_prefix hjp hp with a | a
      · exact nm_apart k h j hj (List.isPrefixOf_iff_prefix.2 a)
      · exact (nm_apart j hj k h (List.isPrefixOf_iff_prefix.2 a)).symm
  · have e := tx_not k h
    by_cases ht : ty k = true
    · rw [if_pos ht] at e
      rw [e] at hp
      have hg : good k := by unfold ty at ht; exact (of_decide_eq_true ht).2.2
      have hr := (enc_rn hg hi hp).1
      unfold keyAt
      by_cases h60 : bt s i = 60
      · have := (ascii_rn s i hi (by omega)).1
        rw [hr, h60] at this
        exact absurd (by rw [this]; decide) h
      · rw [if_neg h60, hr, if_pos ht]
    · rw [if_neg ht] at e
      exact absurd e hk

theorem keyAt_pre (s : ByteArray) (i : Nat) (hi : i < s.size) (h0 : keyAt s i ≠ 0) : tx (keyAt s i) ≠ [] ∧ tx (keyAt s i) <+: s.data.toList.drop i := by
  unfold keyAt at h0 ⊢
  by_cases h60 : bt s i = 60
  · rw [if_pos h60] at h0 ⊢
    unfold brL at h0 ⊢
    cases hf : (spl ++ ctl).find? fun k => (tx k).isPrefixOf (s.data.toList.drop i) with
    | none => rw [hf] at h0; exact absurd rfl h0
    | some j =>
      have hj := List.mem_of_find?_eq_some hf
      show tx j ≠ [] ∧ _
      exact ⟨by rw [tx_nm j hj]; exact nm_some j hj, List.isPrefixOf_iff_prefix.1 (List.find?_some (p := fun k => (tx k).isPrefixOf (s.data.toList.drop i)) hf)⟩
  · rw [if_neg h60] at h0 ⊢
    by_cases ht : ty (rn s i) = true
    · rw [if_pos ht]
      have hg : good (rn s i) := by unfold ty at ht; exact (of_decide_eq_true ht).2.2
      have hne : rn s i ≠ -1 := by have := hg.1; omega
      obtain ⟨_, hp, _⟩ := rn_enc s i hi hne
      have hns : rn s i ∉ spl ++ ctl := by
        intro hm
        have h32 : 32 ≤ rn s i ∧ rn s i ≠ 127 := by unfold ty at ht; have := of_decide_eq_true ht; omega
        have key : ∀ k ∈ spl ++ ctl, 32 ≤ k → k ≠ 127 → k = 60 := by decide +kernel
        have e60 := key _ hm h32.1 h32.2
        rw [e60] at hp
        have := (pre_bt hp (Nat.le_of_lt hi)).2 0 (by decide)
        rw [Nat.add_zero] at this
        exact h60 (by rw [this]; decide)
      have e := tx_not _ hns
      rw [if_pos ht] at e
      rw [e]
      exact ⟨enc_ne _, hp⟩
    · rw [if_neg ht] at h0; exact absurd rfl h0

/-- The keys of a text from a place on; none: there are none. -/
def pk (s : ByteArray) : Nat → Nat → Option (List Int)
  | 0, _ => some []
  | f + 1, i => if i < s.size then (if keyAt s i = 0 then none else (pk s f (i + (tx (keyAt s i)).length)).map (keyAt s i :: ·)) else some []
def parse (s : ByteArray) : Option (List Int) := pk s s.size 0
def prt (l : List Int) : List UInt8 := l.flatMap tx

theorem pk_end (s : ByteArray) (f i : Nat) (h : s.size ≤ i) : pk s f i = some [] := by
  cases f with
  | zero => rfl
  | succ f => show (if _ then _ else _) = _; rw [if_neg (by omega)]
theorem pk_no (s : ByteArray) (f i : Nat) (h : i < s.size) (hf : s.size ≤ i + f) (h0 : keyAt s i = 0) : pk s f i = none := by
  cases f with
  | zero => omega
  | succ f => show (if _ then _ else _) = _; rw [if_pos h, if_pos h0]
theorem pk_step (s : ByteArray) (f i : Nat) (h : i < s.size) (h0 : keyAt s i ≠ 0) : pk s (f + 1) i = (pk s f (i + (tx (keyAt s i)).length)).map (keyAt s i :: ·) := by
  show (if _ then _ else _) = _; rw [if_pos h, if_neg h0]

theorem pk_prt (s : ByteArray) : ∀ f i l, i ≤ s.size → s.size ≤ i + f → pk s f i = some l → prt l = s.data.toList.drop i := by
  intro f
  induction f with
  | zero =>
    intro i l h1 h2 h3
    have e : s.data.toList.length = s.size := rfl
    cases h3
    rw [List.drop_eq_nil_of_le (by omega)]
    rfl
  | succ f ih =>
    intro i l h1 h2 h3
    have e : s.data.toList.length = s.size := rfl
    by_cases hi : i < s.size
    · by_cases h0 : keyAt s i = 0
      · rw [pk_no s _ i hi h2 h0] at h3; cases h3
      · rw [pk_step s f i hi h0] at h3
        obtain ⟨hn, hp⟩ := keyAt_pre s i hi h0
        have hl := List.length_pos_iff.2 hn
        have hb := (pre_bt hp (Nat.le_of_lt hi)).1
        cases hq : pk s f (i + (tx (keyAt s i)).length) with
        | none => rw [hq] at h3; cases h3
        | some l' =>
          rw [hq] at h3
          cases h3
          have := ih _ l' hb (by omega) hq
          show tx (keyAt s i) ++ prt l' = _
          rw [this]
          obtain ⟨z, hz⟩ := hp
          rw [← List.drop_drop, ← hz, List.drop_left]
    · rw [pk_end s _ i (by omega)] at h3
      cases h3
      rw [List.drop_eq_nil_of_le (by omega)]
      rfl

theorem pk_back (s : ByteArray) : ∀ (l : List Int) f i, i ≤ s.size → s.size ≤ i + f → s.data.toList.drop i = prt l → pk s f i = some (l.filter isK) := by
  intro l
  induction l with
  | nil =>
    intro f i h1 h2 h3
    have e : s.data.toList.length = s.size := rfl
    have hl := congrArg List.length h3
    rw [List.length_drop] at hl
    rw [pk_end s f i (by have : (prt []).length = 0 := rfl; omega)]
    rfl
  | cons k l ih =>
    intro f i h1 h2 h3
    have e : s.data.toList.length = s.size := rfl
    have h3' : s.data.toList.drop i = tx k ++ prt l := h3
    by_cases hk : tx k = []
    · rw [hk, List.nil_append] at h3'
      have : isK k = false := by unfold isK; rw [hk]; rfl
      rw [List.filter_cons_of_neg (by rw [this]; decide)]
      exact ih f i h1 h2 h3'
    · have hkk : isK k = true := by unfold isK; rw [decide_eq_true_iff]; exact hk
      rw [List.filter_cons_of_pos hkk]
      have hl := congrArg List.length h3'
      rw [List.length_drop, List.length_append] at hl
      have hpos := List.length_pos_iff.2 hk
      have hi : i < s.size := by omega
      have hka := keyAt_is s i hi k hk ⟨_, h3'.symm⟩
      have hk0 : keyAt s i ≠ 0 := by
        rw [hka]
        intro hz
        rw [hz] at hk
        exact hk (by decide +kernel)
      obtain ⟨g, rfl⟩ : ∃ g, f = g + 1 := ⟨f - 1, by omega⟩
      rw [pk_step s g i hi hk0, hka, ih g (i + (tx k).length) (by omega) (by omega) (by rw [← List.drop_drop, h3', List.drop_left])]
      rfl

theorem parse_prt (s : ByteArray) (l : List Int) (h : parse s = some l) : strOf (prt l) = s := by
  have := pk_prt s s.size 0 l (by omega) (by omega) h
  rw [this]
  rfl
theorem prt_parse (l : List Int) : parse (strOf (prt l)) = some (l.filter isK) :=
  pk_back _ l _ 0 (by omega) (by omega) rfl
theorem prt_app (l m : List Int) : prt (l ++ m) = prt l ++ prt m := List.flatMap_append

theorem tx_len (k : Int) : (tx k).length ≤ 7 := by
  by_cases h : k ∈ spl ++ ctl
  · rw [tx_nm k h]
    have key : ∀ k ∈ spl ++ ctl, (nm k).length ≤ 7 := by decide +kernel
    exact key k h
  · rw [tx_not k h]
    split
    · rw [enc_length]; have := (Lib.encodeRuneZ_length k).2; omega
    · simp
theorem prt_len (l : List Int) : (prt l).length ≤ 7 * l.length := by
  induction l with
  | nil => simp [prt]
  | cons k l ih =>
    have := tx_len k
    have e : (prt (k :: l)).length = (tx k).length + (prt l).length := by show (tx k ++ prt l).length = _; rw [List.length_append]
    rw [e, List.length_cons]
    omega

end Go.Proofs.YtkendmlbmdhnaaaDoor
