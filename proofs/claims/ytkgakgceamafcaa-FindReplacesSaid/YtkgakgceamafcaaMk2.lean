/-
  Texts of this seat, put together (a claim holds few texts): PieP.
-/
import Derived.Test.YtkgakgceamafcaaMk1

/-
  Plain lists for the texts of layer 4: spans, the places of their bytes, and the fewest spans that have them.
-/
set_option linter.unusedVariables false
namespace Go.Proofs.Ytkgakgceamafcaa

/-- A span: where, and how many. -/
abbrev Sp := Int × Int

/-- The places of a span's bytes. -/
def ex1 (s : Sp) : List Int := (List.range s.2.toNat).map fun i : Nat => s.1 + (i : Int)
/-- The places of all spans' bytes. -/
def ex (l : List Sp) : List Int := l.flatMap ex1

/-- A span behind others. -/
def glue (out : List Sp) (s : Sp) : List Sp :=
  match out.getLast? with
  | none => [s]
  | some q => if s.1 = q.1 + q.2 then out.dropLast ++ [(q.1, q.2 + s.2)] else out ++ [s]
/-- A span behind others, unless it is empty. -/
def joinS (out : List Sp) (s : Sp) : List Sp := if s.2 < 1 then out else glue out s
/-- The spans of places. -/
def canon (t : List Int) : List Sp := t.foldl (fun out x => glue out (x, 1)) []
/-- The spans of spans. -/
def ofS (l : List Sp) : List Sp := l.foldl joinS []

theorem glue_nil (s : Sp) : glue [] s = [s] := rfl
theorem glue_snoc (l : List Sp) (q s : Sp) : glue (l ++ [q]) s = if s.1 = q.1 + q.2 then l ++ [(q.1, q.2 + s.2)] else l ++ [q] ++ [s] := by
  unfold glue
  simp
theorem glue_cases (out : List Sp) (s : Sp) : (out = [] ∧ glue out s = [s]) ∨ ∃ l q, out = l ++ [q] ∧ glue out s = if s.1 = q.1 + q.2 then l ++ [(q.1, q.2 + s.2)] else l ++ [q] ++ [s] := by
  rcases List.eq_nil_or_concat out with rfl | ⟨l, q, rfl⟩
  · exact .inl ⟨rfl, rfl⟩
  · rw [List.concat_eq_append]; exact .inr ⟨l, q, rfl, glue_snoc l q s⟩

theorem ex1_zero (a n : Int) (h : n ≤ 0) : ex1 (a, n) = [] := by
  unfold ex1; rw [show (a, n).2.toNat = 0 by simp; omega]; rfl
theorem ex1_nat (a : Int) (n : Nat) : ex1 (a, n) = (List.range n).map fun i : Nat => a + (i : Int) := by
  unfold ex1; simp
theorem ex1_succ (a : Int) (n : Nat) : ex1 (a, ((n + 1 : Nat) : Int)) = ex1 (a, n) ++ [a + n] := by
  rw [ex1_nat, ex1_nat, List.range_succ, List.map_append]; rfl
theorem ex1_one (a : Int) : ex1 (a, 1) = [a] := by
  unfold ex1; simp
theorem ex1_len (s : Sp) : (ex1 s).length = s.2.toNat := by unfold ex1; simp
theorem ex1_add (a : Int) (m : Nat) : ∀ n : Nat, ex1 (a, (m : Int) + n) = ex1 (a, m) ++ ex1 (a + m, n)
  | 0 => by rw [ex1_zero (a + m) _ (by simp)]; simp
  | n + 1 => by
    have h := ex1_add a m n
    have e : (m : Int) + ((n + 1 : Nat) : Int) = ((m + n + 1 : Nat) : Int) := by omega
    rw [e, ex1_succ, ex1_succ, show ((m + n : Nat) : Int) = (m : Int) + n by omega, h, List.append_assoc]
    congr 2
    simp; omega
theorem ex_nil : ex [] = [] := rfl
theorem ex_append (a b : List Sp) : ex (a ++ b) = ex a ++ ex b := by unfold ex; simp
theorem ex_one (s : Sp) : ex [s] = ex1 s := by unfold ex; simp

/-- No span is empty. -/
def Full (l : List Sp) : Prop := ∀ q ∈ l, 1 ≤ q.2

theorem glue_full (out : List Sp) (s : Sp) (h : Full out) (hs : 1 ≤ s.2) : Full (glue out s) := by
  rcases glue_cases out s with ⟨rfl, e⟩ | ⟨l, q, rfl, e⟩
  · rw [e]; intro q hq; simp at hq; subst hq; exact hs
  · have hq := h q (by simp)
    rw [e]
    split
    · intro p hp
      rcases List.mem_append.1 hp with hp | hp
      · exact h p (by simp [hp])
      · simp at hp; subst hp; simp; omega
    · intro p hp
      rcases List.mem_append.1 hp with hp | hp
      · exact h p hp
      · simp at hp; subst hp; exact hs

theorem glue_ex (out : List Sp) (s : Sp) (h : Full out) (hs : 1 ≤ s.2) : ex (glue out s) = ex out ++ ex1 s := by
  rcases glue_cases out s with ⟨rfl, e⟩ | ⟨l, q, rfl, e⟩
  · rw [e, ex_one]; rfl
  · have hq := h q (by simp)
    rw [e]
    split
    · rename_i hj
      rw [ex_append, ex_append, ex_one, ex_one, List.append_assoc]
      congr 1
      obtain ⟨a, n⟩ := q
      obtain ⟨b, m⟩ := s
      simp only at hj hq hs ⊢
      obtain ⟨n', rfl⟩ := Int.eq_ofNat_of_zero_le (show 0 ≤ n by omega)
      obtain ⟨m', rfl⟩ := Int.eq_ofNat_of_zero_le (show 0 ≤ m by omega)
      rw [ex1_add, hj]
    · rw [ex_append, ex_one]

theorem foldl_full : ∀ (t : List Int) (out : List Sp), Full out → Full (t.foldl (fun out x => glue out (x, 1)) out)
  | [], out, h => h
  | x :: t, out, h => foldl_full t _ (glue_full out _ h (by simp))
theorem canon_full (t : List Int) : Full (canon t) := foldl_full t [] (fun q hq => by simp at hq)
theorem foldl_ex : ∀ (t : List Int) (out : List Sp), Full out → ex (t.foldl (fun out x => glue out (x, 1)) out) = ex out ++ t
  | [], out, h => by simp
  | x :: t, out, h => by
    rw [List.foldl_cons, foldl_ex t _ (glue_full out _ h (by simp)), glue_ex out _ h (by simp), ex1_one, List.append_assoc]; rfl
/-- The spans of places have just these. -/
theorem ex_canon (t : List Int) : ex (canon t) = t := by
  have := foldl_ex t [] (fun q hq => by simp at hq)
  rw [ex_nil, List.nil_append] at this
  exact this

theorem canon_snoc (t : List Int) (x : Int) : canon (t ++ [x]) = glue (canon t) (x, 1) := by
  unfold canon; rw [List.foldl_append]; rfl

theorem glue_more (out : List Sp) (a : Int) (n : Int) (hn : 1 ≤ n) : glue (glue out (a, n)) (a + n, 1) = glue out (a, n + 1) := by
  rcases glue_cases out (a, n) with ⟨rfl, e⟩ | ⟨l, q, rfl, e⟩
  · rw [e, show [(a, n)] = [] ++ [(a, n)] from rfl, glue_snoc, if_pos rfl]; rfl
  · rw [e]
    by_cases hj : a = q.1 + q.2
    · rw [if_pos hj, glue_snoc, glue_snoc, if_pos (by simp; omega), if_pos (by simpa using hj)]
      simp; omega
    · rw [if_neg hj, glue_snoc, glue_snoc, if_pos (by simp), if_neg (by simpa using hj)]

theorem fold_ex1 (out : List Sp) (a : Int) : ∀ n : Nat, (ex1 (a, ((n + 1 : Nat) : Int))).foldl (fun out x => glue out (x, 1)) out = glue out (a, ((n + 1 : Nat) : Int))
  | 0 => by
    have : ((0 + 1 : Nat) : Int) = 1 := rfl
    rw [this, ex1_one]; rfl
  | n + 1 => by
    rw [ex1_succ, List.foldl_append, fold_ex1 out a n]
    show glue (glue out (a, ((n + 1 : Nat) : Int))) (a + ((n + 1 : Nat) : Int), 1) = _
    rw [glue_more out a _ (by omega)]
    rfl
theorem fold_span (out : List Sp) (s : Sp) : (ex1 s).foldl (fun out x => glue out (x, 1)) out = joinS out s := by
  obtain ⟨a, n⟩ := s
  unfold joinS
  by_cases h : n < 1
  · rw [if_pos h, ex1_zero a n (by omega)]; rfl
  · rw [if_neg h]
    obtain ⟨m, rfl⟩ := Int.eq_ofNat_of_zero_le (show 0 ≤ n by omega)
    obtain ⟨k, rfl⟩ : ∃ k, m = k + 1 := ⟨m - 1, by omega⟩
    exact fold_ex1 out a k
/-- The fewest spans, made span by span, are those made place by place. -/
theorem ofS_canon (l : List Sp) : ofS l = canon (ex l) := by
  have h : ∀ (l : List Sp) (out : List Sp), l.foldl joinS out = (ex l).foldl (fun out x => glue out (x, 1)) out := by
    intro l
    induction l with
    | nil => intro out; rfl
    | cons s l ih =>
      intro out
      rw [show ex (s :: l) = ex1 s ++ ex l by unfold ex; simp, List.foldl_append, fold_span, List.foldl_cons, ih]
  exact h l []
theorem canon_inj {t u : List Int} (h : canon t = canon u) : t = u := by
  rw [← ex_canon t, h, ex_canon]

theorem ofS_snoc (l : List Sp) (s : Sp) : ofS (l ++ [s]) = joinS (ofS l) s := by
  unfold ofS; rw [List.foldl_append]; rfl

/-- How many bytes. -/
def lenS (l : List Sp) : Int := (l.map (·.2)).sum
theorem lenS_nil : lenS [] = 0 := rfl
theorem lenS_append (a b : List Sp) : lenS (a ++ b) = lenS a + lenS b := by unfold lenS; simp
theorem lenS_one (s : Sp) : lenS [s] = s.2 := by unfold lenS; simp
theorem lenS_cons (s : Sp) (l : List Sp) : lenS (s :: l) = s.2 + lenS l := by unfold lenS; simp
theorem lenS_full : ∀ (l : List Sp), Full l → lenS l = ((ex l).length : Int)
  | [], _ => rfl
  | s :: l, h => by
    have h1 := h s (by simp)
    rw [lenS_cons, lenS_full l (fun q hq => h q (by simp [hq])), show ex (s :: l) = ex1 s ++ ex l by unfold ex; simp, List.length_append, ex1_len]
    omega
theorem lenS_canon (t : List Int) : lenS (canon t) = (t.length : Int) := by rw [lenS_full _ (canon_full t), ex_canon]
theorem full_count : ∀ (l : List Sp), Full l → (l.length : Int) ≤ lenS l
  | [], _ => by simp [lenS_nil]
  | s :: l, h => by
    have h1 := h s (by simp)
    have := full_count l (fun q hq => h q (by simp [hq]))
    rw [lenS_cons, List.length_cons]; omega
theorem canon_count (t : List Int) : (canon t).length ≤ t.length := by
  have h := full_count _ (canon_full t)
  rw [lenS_canon] at h
  omega

/-- A part of a span. -/
def subS (s : Sp) (i j : Int) : Sp := (s.1 + min (max i 0) s.2, min (max j (min (max i 0) s.2)) s.2 - min (max i 0) s.2)
theorem ex1_sub (s : Sp) (h : 0 ≤ s.2) (i j : Int) : ex1 (subS s i j) = ((ex1 s).take j.toNat).drop i.toNat := by
  obtain ⟨a, n⟩ := s
  obtain ⟨n, rfl⟩ := Int.eq_ofNat_of_zero_le (show 0 ≤ n by simpa using h)
  apply List.ext_getElem?
  intro k
  unfold subS
  simp only
  have hl : ∀ (b m : Int) (k : Nat), (ex1 (b, m))[k]? = if (k : Int) < m then some (b + k) else none := by
    intro b m k
    unfold ex1
    rw [List.getElem?_map]
    by_cases hk : (k : Int) < m
    · rw [if_pos hk, List.getElem?_range (by simp; omega)]; rfl
    · rw [if_neg hk, List.getElem?_eq_none (by simp; omega)]; rfl
  rw [hl, List.getElem?_drop, List.getElem?_take, hl]
  by_cases hk : (k : Int) < min (max j (min (max i 0) n)) n - min (max i 0) n
  · rw [if_pos hk, if_pos (by omega), if_pos (by omega)]
    congr 1; omega
  · rw [if_neg hk]
    split
    · rw [if_neg (by omega)]
    · rfl

/-- The parts of all spans, from the place f on. -/
def parts : List Sp → Int → Int → Int → List Sp
  | [], _, _, _ => []
  | s :: l, f, i, j => subS s (i - f) (j - f) :: parts l (f + s.2) i j
theorem parts_append : ∀ (a b : List Sp) (f i j : Int), parts (a ++ b) f i j = parts a f i j ++ parts b (f + lenS a) i j
  | [], b, f, i, j => by simp [parts, lenS_nil]
  | s :: a, b, f, i, j => by
    rw [List.cons_append, parts, parts_append a b, parts, lenS_cons]
    simp [Int.add_assoc]
theorem parts_len (l : List Sp) : ∀ (f i j : Int), (parts l f i j).length = l.length := by
  induction l with
  | nil => intro f i j; rfl
  | cons s l ih => intro f i j; simp [parts, ih]
theorem ex_parts : ∀ (l : List Sp), Full l → ∀ (f i j : Int), 0 ≤ f → ex (parts l f i j) = ((ex l).take (j - f).toNat).drop (i - f).toNat
  | [], _, f, i, j, _ => by simp [parts, ex_nil]
  | s :: l, h, f, i, j, hf => by
    have h1 := h s (by simp)
    have ih := ex_parts l (fun q hq => h q (by simp [hq])) (f + s.2) i j (by omega)
    rw [show ex (s :: l) = ex1 s ++ ex l by unfold ex; simp, parts, show ∀ (p : Sp) r, ex (p :: r) = ex1 p ++ ex r from fun p r => by unfold ex; simp, ih, ex1_sub s (by omega)]
    rw [List.take_append, List.drop_append, ex1_len, List.length_take, ex1_len]
    congr 1
    have e1 : (j - f).toNat - s.2.toNat = (j - (f + s.2)).toNat := by omega
    rw [e1]
    by_cases hij : s.2.toNat ≤ (j - f).toNat
    · rw [Nat.min_eq_right hij, show (i - f).toNat - s.2.toNat = (i - (f + s.2)).toNat by omega]
    · rw [show (j - (f + s.2)).toNat = 0 by omega]; simp

/-- A number as a place. -/
def plc (n : Nat) (i : Int) : Int := min (max i 0) n
/-- The places from one to another. -/
def slI (t : List Int) (i j : Int) : List Int := (t.take (plc t.length j).toNat).drop (plc t.length i).toNat
theorem slI_parts (t : List Int) (i j : Int) : ex (parts (canon t) 0 (plc t.length i) (plc t.length j)) = slI t i j := by
  rw [ex_parts _ (canon_full t) _ _ _ (Int.le_refl _), ex_canon]
  unfold slI
  simp
def insI (t : List Int) (at_ : Int) (x : List Int) : List Int := slI t 0 at_ ++ x ++ slI t at_ t.length
def delI (t : List Int) (i j : Int) : List Int := slI t 0 i ++ slI t (max i j) t.length

theorem slI_front (t : List Int) (j : Int) : slI t 0 j = t.take (plc t.length j).toNat := by
  unfold slI; rw [show (plc t.length 0).toNat = 0 by unfold plc; omega, List.drop_zero]
theorem slI_back (t : List Int) (i : Int) : slI t i t.length = t.drop (plc t.length i).toNat := by
  unfold slI
  rw [show (plc t.length t.length).toNat = t.length by unfold plc; omega, List.take_length]
theorem slI_both (t : List Int) (i : Int) : slI t 0 i ++ slI t i t.length = t := by
  rw [slI_front, slI_back, List.take_append_drop]
theorem insI_eq (t : List Int) (i : Int) (x : List Int) : insI t i x = t.take (plc t.length i).toNat ++ x ++ t.drop (plc t.length i).toNat := by
  unfold insI; rw [slI_front, slI_back]
theorem delI_eq (t : List Int) (i j : Int) : delI t i j = t.take (plc t.length i).toNat ++ t.drop (plc t.length (max i j)).toNat := by
  unfold delI; rw [slI_front, slI_back]
theorem insI_len (t : List Int) (i : Int) (x : List Int) : (insI t i x).length = t.length + x.length := by
  rw [insI_eq]; simp only [List.length_append, List.length_take, List.length_drop]; unfold plc; omega
theorem ins_del (t : List Int) (i : Int) (x : List Int) (k : Int) (hk : k = plc t.length i) : delI (insI t i x) k (k + x.length) = t := by
  subst hk
  have hp : (plc t.length i).toNat ≤ t.length := by unfold plc; omega
  have hp0 : 0 ≤ plc t.length i := by unfold plc; omega
  have hp1 : plc t.length i ≤ t.length := by unfold plc; omega
  rw [delI_eq, insI_len]
  have e1 : (plc (t.length + x.length : Nat) (plc t.length i)).toNat = (plc t.length i).toNat := by unfold plc; omega
  have e2 : (plc (t.length + x.length : Nat) (max (plc t.length i) (plc t.length i + x.length))).toNat = (plc t.length i).toNat + x.length := by
    generalize plc t.length i = p at *; unfold plc; omega
  rw [e1, e2, insI_eq]
  generalize (plc t.length i).toNat = p at *
  have hl : (t.take p ++ x).length = p + x.length := by simp; omega
  rw [List.append_assoc, List.take_append_of_le_length (by simp; omega), List.take_take, Nat.min_self, ← List.append_assoc, List.drop_append_of_le_length (by omega), ← hl, List.drop_length, List.nil_append, List.take_append_drop]
theorem ins_slice (t : List Int) (i : Int) (x : List Int) (k : Int) (hk : k = plc t.length i) : slI (insI t i x) k (k + x.length) = x := by
  subst hk
  have hp : (plc t.length i).toNat ≤ t.length := by unfold plc; omega
  have hp0 : 0 ≤ plc t.length i := by unfold plc; omega
  have hp1 : plc t.length i ≤ t.length := by unfold plc; omega
  unfold slI
  rw [insI_len]
  have e1 : (plc (t.length + x.length : Nat) (plc t.length i)).toNat = (plc t.length i).toNat := by unfold plc; omega
  have e2 : (plc (t.length + x.length : Nat) (plc t.length i + x.length)).toNat = (plc t.length i).toNat + x.length := by
    generalize plc t.length i = p at *; unfold plc; omega
  rw [e1, e2, insI_eq]
  generalize (plc t.length i).toNat = p at *
  have hl : (t.take p ++ x).length = p + x.length := by simp; omega
  have hl2 : (t.take p).length = p := by simp; omega
  rw [List.take_append_of_le_length (by omega), ← hl, List.take_length, List.drop_append_of_le_length (by omega), List.drop_eq_nil_of_le (by omega), List.nil_append]

end Go.Proofs.Ytkgakgceamafcaa
