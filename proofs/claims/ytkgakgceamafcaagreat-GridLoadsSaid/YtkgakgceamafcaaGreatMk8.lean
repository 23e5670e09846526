/-
  Texts of this seat, put together (a claim holds few texts): PieP, PieA, PieB.
-/
import Derived.Test.YtkgakgceamafcaaGreatMk7
import Derived.Laws.OwnMore

/-
  Plain lists for the texts of layer 4: spans, the places of their bytes, and the fewest spans that have them.
-/
set_option linter.unusedVariables false
namespace Go.Proofs.YtkgakgceamafcaaGreat

/-- A span: where, and how many. -/
abbrev Sp := Int × Int

/-- The places of a span's bytes. -/
def ex1 (s : Sp) : List Int := (List.range s.2.toNat).map fun i : Nat => s.1 + (i : Int)
/-- The places of all spans' bytes. -/
def ex (l : List Sp) : List Int := l.flatMap ex1

/-- A span behind others. -/
def glue (out : List Sp) (s : Sp) : List Sp :=
  match out.getLast? with
  | none => [s]
  | some q => if s.1 = q.1 + q.2 then out.dropLast ++ [(q.1, q.2 + s.2)] else out ++ [s]
/-- A span behind others, unless it is empty. -/
def joinS (out : List Sp) (s : Sp) : List Sp := if s.2 < 1 then out else glue out s
/-- The spans of places. -/
def canon (t : List Int) : List Sp := t.foldl (fun out x => glue out (x, 1)) []
/-- The spans of spans. -/
def ofS (l : List Sp) : List Sp := l.foldl joinS []

theorem glue_nil (s : Sp) : glue [] s = [s] := rfl
theorem glue_snoc (l : List Sp) (q s : Sp) : glue (l ++ [q]) s = if s.1 = q.1 + q.2 then l ++ [(q.1, q.2 + s.2)] else l ++ [q] ++ [s] := by
  unfold glue
  simp
theorem glue_cases (out : List Sp) (s : Sp) : (out = [] ∧ glue out s = [s]) ∨ ∃ l q, out = l ++ [q] ∧ glue out s = if s.1 = q.1 + q.2 then l ++ [(q.1, q.2 + s.2)] else l ++ [q] ++ [s] := by
  rcases List.eq_nil_or_concat out with rfl | ⟨l, q, rfl⟩
  · exact .inl ⟨rfl, rfl⟩
  · rw [List.concat_eq_append]; exact .inr ⟨l, q, rfl, glue_snoc l q s⟩

theorem ex1_zero (a n : Int) (h : n ≤ 0) : ex1 (a, n) = [] := by
  unfold ex1; rw [show (a, n).2.toNat = 0 by simp; omega]; rfl
theorem ex1_nat (a : Int) (n : Nat) : ex1 (a, n) = (List.range n).map fun i : Nat => a + (i : Int) := by
  unfold ex1; simp
theorem ex1_succ (a : Int) (n : Nat) : ex1 (a, ((n + 1 : Nat) : Int)) = ex1 (a, n) ++ [a + n] := by
  rw [ex1_nat, ex1_nat, List.range_succ, List.map_append]; rfl
theorem ex1_one (a : Int) : ex1 (a, 1) = [a] := by
  unfold ex1; simp
theorem ex1_len (s : Sp) : (ex1 s).length = s.2.toNat := by unfold ex1; simp
theorem ex1_add (a : Int) (m : Nat) : ∀ n : Nat, ex1 (a, (m : Int) + n) = ex1 (a, m) ++ ex1 (a + m, n)
  | 0 => by rw [ex1_zero (a + m) _ (by simp)]; simp
  | n + 1 => by
    have h := ex1_add a m n
    have e : (m : Int) + ((n + 1 : Nat) : Int) = ((m + n + 1 : Nat) : Int) := by omega
    rw [e, ex1_succ, ex1_succ, show ((m + n : Nat) : Int) = (m : Int) + n by omega, h, List.append_assoc]
    congr 2
    simp; omega
theorem ex_nil : ex [] = [] := rfl
theorem ex_append (a b : List Sp) : ex (a ++ b) = ex a ++ ex b := by unfold ex; simp
theorem ex_one (s : Sp) : ex [s] = ex1 s := by unfold ex; simp

/-- No span is empty. -/
def Full (l : List Sp) : Prop := ∀ q ∈ l, 1 ≤ q.2

theorem glue_full (out : List Sp) (s : Sp) (h : Full out) (hs : 1 ≤ s.2) : Full (glue out s) := by
  rcases glue_cases out s with ⟨rfl, e⟩ | ⟨l, q, rfl, e⟩
  · rw [e]; intro q hq; simp at hq; subst hq; exact hs
  · have hq := h q (by simp)
    rw [e]
    split
    · intro p hp
      rcases List.mem_append.1 hp with hp | hp
      · exact h p (by simp [hp])
      · simp at hp; subst hp; simp; omega
    · intro p hp
      rcases List.mem_append.1 hp with hp | hp
      · exact h p hp
      · simp at hp; subst hp; exact hs

theorem glue_ex (out : List Sp) (s : Sp) (h : Full out) (hs : 1 ≤ s.2) : ex (glue out s) = ex out ++ ex1 s := by
  rcases glue_cases out s with ⟨rfl, e⟩ | ⟨l, q, rfl, e⟩
  · rw [e, ex_one]; rfl
  · have hq := h q (by simp)
    rw [e]
    split
    · rename_i hj
      rw [ex_append, ex_append, ex_one, ex_one, List.append_assoc]
      congr 1
      obtain ⟨a, n⟩ := q
      obtain ⟨b, m⟩ := s
      simp only at hj hq hs ⊢
      obtain ⟨n', rfl⟩ := Int.eq_ofNat_of_zero_le (show 0 ≤ n by omega)
      obtain ⟨m', rfl⟩ := Int.eq_ofNat_of_zero_le (show 0 ≤ m by omega)
      rw [ex1_add, hj]
    · rw [ex_append, ex_one]

theorem foldl_full : ∀ (t : List Int) (out : List Sp), Full out → Full (t.foldl (fun out x => glue out (x, 1)) out)
  | [], out, h => h
  | x :: t, out, h => foldl_full t _ (glue_full out _ h (by simp))
theorem canon_full (t : List Int) : Full (canon t) := foldl_full t [] (fun q hq => by simp at hq)
theorem foldl_ex : ∀ (t : List Int) (out : List Sp), Full out → ex (t.foldl (fun out x => glue out (x, 1)) out) = ex out ++ t
  | [], out, h => by simp
  | x :: t, out, h => by
    rw [List.foldl_cons, foldl_ex t _ (glue_full out _ h (by simp)), glue_ex out _ h (by simp), ex1_one, List.append_assoc]; rfl
/-- The spans of places have just these. -/
theorem ex_canon (t : List Int) : ex (canon t) = t := by
  have := foldl_ex t [] (fun q hq => by simp at hq)
  rw [ex_nil, List.nil_append] at this
  exact this

theorem canon_snoc (t : List Int) (x : Int) : canon (t ++ [x]) = glue (canon t) (x, 1) := by
  unfold canon; rw [List.foldl_append]; rfl

theorem glue_more (out : List Sp) (a : Int) (n : Int) (hn : 1 ≤ n) : glue (glue out (a, n)) (a + n, 1) = glue out (a, n + 1) := by
  rcases glue_cases out (a, n) with ⟨rfl, e⟩ | ⟨l, q, rfl, e⟩
  · rw [e, show [(a, n)] = [] ++ [(a, n)] from rfl, glue_snoc, if_pos rfl]; rfl
  · rw [e]
    by_cases hj : a = q.1 + q.2
    · rw [if_pos hj, glue_snoc, glue_snoc, if_pos (by simp; omega), if_pos (by simpa using hj)]
      simp; omega
    · rw [if_neg hj, glue_snoc, glue_snoc, if_pos (by simp), if_neg (by simpa using hj)]

theorem fold_ex1 (out : List Sp) (a : Int) : ∀ n : Nat, (ex1 (a, ((n + 1 : Nat) : Int))).foldl (fun out x => glue out (x, 1)) out = glue out (a, ((n + 1 : Nat) : Int))
  | 0 => by
    have : ((0 + 1 : Nat) : Int) = 1 := rfl
    rw [this, ex1_one]; rfl
  | n + 1 => by
    rw [ex1_succ, List.foldl_append, fold_ex1 out a n]
    show glue (glue out (a, ((n + 1 : Nat) : Int))) (a + ((n + 1 : Nat) : Int), 1) = _
    rw [glue_more out a _ (by omega)]
    rfl
theorem fold_span (out : List Sp) (s : Sp) : (ex1 s).foldl (fun out x => glue out (x, 1)) out = joinS out s := by
  obtain ⟨a, n⟩ := s
  unfold joinS
  by_cases h : n < 1
  · rw [if_pos h, ex1_zero a n (by omega)]; rfl
  · rw [if_neg h]
    obtain ⟨m, rfl⟩ := Int.eq_ofNat_of_zero_le (show 0 ≤ n by omega)
    obtain ⟨k, rfl⟩ : ∃ k, m = k + 1 := ⟨m - 1, by omega⟩
    exact fold_ex1 out a k
/-- The fewest spans, made span by span, are those made place by place. -/
theorem ofS_canon (l : List Sp) : ofS l = canon (ex l) := by
  have h : ∀ (l : List Sp) (out : List Sp), l.foldl joinS out = (ex l).foldl (fun out x => glue out (x, 1)) out := by
    intro l
    induction l with
    | nil => intro out; rfl
    | cons s l ih =>
      intro out
      rw [show ex (s :: l) = ex1 s ++ ex l by unfold ex; simp, List.foldl_append, fold_span, List.foldl_cons, ih]
  exact h l []
theorem canon_inj {t u : List Int} (h : canon t = canon u) : t = u := by
  rw [← ex_canon t, h, ex_canon]

theorem ofS_snoc (l : List Sp) (s : Sp) : ofS (l ++ [s]) = joinS (ofS l) s := by
  unfold ofS; rw [List.foldl_append]; rfl

/-- How many bytes. -/
def lenS (l : List Sp) : Int := (l.map (·.2)).sum
theorem lenS_nil : lenS [] = 0 := rfl
theorem lenS_append (a b : List Sp) : lenS (a ++ b) = lenS a + lenS b := by unfold lenS; simp
theorem lenS_one (s : Sp) : lenS [s] = s.2 := by unfold lenS; simp
theorem lenS_cons (s : Sp) (l : List Sp) : lenS (s :: l) = s.2 + lenS l := by unfold lenS; simp
theorem lenS_full : ∀ (l : List Sp), Full l → lenS l = ((ex l).length : Int)
  | [], _ => rfl
  | s :: l, h => by
    have h1 := h s (by simp)
    rw [lenS_cons, lenS_full l (fun q hq => h q (by simp [hq])), show ex (s :: l) = ex1 s ++ ex l by unfold ex; simp, List.length_append, ex1_len]
    omega
theorem lenS_canon (t : List Int) : lenS (canon t) = (t.length : Int) := by rw [lenS_full _ (canon_full t), ex_canon]
theorem full_count : ∀ (l : List Sp), Full l → (l.length : Int) ≤ lenS l
  | [], _ => by simp [lenS_nil]
  | s :: l, h => by
    have h1 := h s (by simp)
    have := full_count l (fun q hq => h q (by simp [hq]))
    rw [lenS_cons, List.length_cons]; omega
theorem canon_count (t : List Int) : (canon t).length ≤ t.length := by
  have h := full_count _ (canon_full t)
  rw [lenS_canon] at h
  omega

/-- A part of a span. -/
def subS (s : Sp) (i j : Int) : Sp := (s.1 + min (max i 0) s.2, min (max j (min (max i 0) s.2)) s.2 - min (max i 0) s.2)
theorem ex1_sub (s : Sp) (h : 0 ≤ s.2) (i j : Int) : ex1 (subS s i j) = ((ex1 s).take j.toNat).drop i.toNat := by
  obtain ⟨a, n⟩ := s
  obtain ⟨n, rfl⟩ := Int.eq_ofNat_of_zero_le (show 0 ≤ n by simpa using h)
  apply List.ext_getElem?
  intro k
  unfold subS
  simp only
  have hl : ∀ (b m : Int) (k : Nat), (ex1 (b, m))[k]? = if (k : Int) < m then some (b + k) else none := by
    intro b m k
    unfold ex1
    rw [List.getElem?_map]
    by_cases hk : (k : Int) < m
    · rw [if_pos hk, List.getElem?_range (by simp; omega)]; rfl
    · rw [if_neg hk, List.getElem?_eq_none (by simp; omega)]; rfl
  rw [hl, List.getElem?_drop, List.getElem?_take, hl]
  by_cases hk : (k : Int) < min (max j (min (max i 0) n)) n - min (max i 0) n
  · rw [if_pos hk, if_pos (by omega), if_pos (by omega)]
    congr 1; omega
  · rw [if_neg hk]
    split
    · rw [if_neg (by omega)]
    · rfl

/-- The parts of all spans, from the place f on. -/
def parts : List Sp → Int → Int → Int → List Sp
  | [], _, _, _ => []
  | s :: l, f, i, j => subS s (i - f) (j - f) :: parts l (f + s.2) i j
theorem parts_append : ∀ (a b : List Sp) (f i j : Int), parts (a ++ b) f i j = parts a f i j ++ parts b (f + lenS a) i j
  | [], b, f, i, j => by simp [parts, lenS_nil]
  | s :: a, b, f, i, j => by
    rw [List.cons_append, parts, parts_append a b, parts, lenS_cons]
    simp [Int.add_assoc]
theorem parts_len (l : List Sp) : ∀ (f i j : Int), (parts l f i j).length = l.length := by
  induction l with
  | nil => intro f i j; rfl
  | cons s l ih => intro f i j; simp [parts, ih]
theorem ex_parts : ∀ (l : List Sp), Full l → ∀ (f i j : Int), 0 ≤ f → ex (parts l f i j) = ((ex l).take (j - f).toNat).drop (i - f).toNat
  | [], _, f, i, j, _ => by simp [parts, ex_nil]
  | s :: l, h, f, i, j, hf => by
    have h1 := h s (by simp)
    have ih := ex_parts l (fun q hq => h q (by simp [hq])) (f + s.2) i j (by omega)
    rw [show ex (s :: l) = ex1 s ++ ex l by unfold ex; simp, parts, show ∀ (p : Sp) r, ex (p :: r) = ex1 p ++ ex r from fun p r => by unfold ex; simp, ih, ex1_sub s (by omega)]
    rw [List.take_append, List.drop_append, ex1_len, List.length_take, ex1_len]
    congr 1
    have e1 : (j - f).toNat - s.2.toNat = (j - (f + s.2)).toNat := by omega
    rw [e1]
    by_cases hij : s.2.toNat ≤ (j - f).toNat
    · rw [Nat.min_eq_right hij, show (i - f).toNat - s.2.toNat = (i - (f + s.2)).toNat by omega]
    · rw [show (j - (f + s.2)).toNat = 0 by omega]; simp

/-- A number as a place. -/
def plc (n : Nat) (i : Int) : Int := min (max i 0) n
/-- The places from one to another. -/
def slI (t : List Int) (i j : Int) : List Int := (t.take (plc t.length j).toNat).drop (plc t.length i).toNat
theorem slI_parts (t : List Int) (i j : Int) : ex (parts (canon t) 0 (plc t.length i) (plc t.length j)) = slI t i j := by
  rw [ex_parts _ (canon_full t) _ _ _ (Int.le_refl _), ex_canon]
  unfold slI
  simp
def insI (t : List Int) (at_ : Int) (x : List Int) : List Int := slI t 0 at_ ++ x ++ slI t at_ t.length
def delI (t : List Int) (i j : Int) : List Int := slI t 0 i ++ slI t (max i j) t.length

theorem slI_front (t : List Int) (j : Int) : slI t 0 j = t.take (plc t.length j).toNat := by
  unfold slI; rw [show (plc t.length 0).toNat = 0 by unfold plc; omega, List.drop_zero]
theorem slI_back (t : List Int) (i : Int) : slI t i t.length = t.drop (plc t.length i).toNat := by
  unfold slI
  rw [show (plc t.length t.length).toNat = t.length by unfold plc; omega, List.take_length]
theorem slI_both (t : List Int) (i : Int) : slI t 0 i ++ slI t i t.length = t := by
  rw [slI_front, slI_back, List.take_append_drop]
theorem insI_eq (t : List Int) (i : Int) (x : List Int) : insI t i x = t.take (plc t.length i).toNat ++ x ++ t.drop (plc t.length i).toNat := by
  unfold insI; rw [slI_front, slI_back]
theorem delI_eq (t : List Int) (i j : Int) : delI t i j = t.take (plc t.length i).toNat ++ t.drop (plc t.length (max i j)).toNat := by
  unfold delI; rw [slI_front, slI_back]
theorem insI_len (t : List Int) (i : Int) (x : List Int) : (insI t i x).length = t.length + x.length := by
  rw [insI_eq]; simp only [List.length_append, List.length_take, List.length_drop]; unfold plc; omega
theorem ins_del (t : List Int) (i : Int) (x : List Int) (k : Int) (hk : k = plc t.length i) : delI (insI t i x) k (k + x.length) = t := by
  subst hk
  have hp : (plc t.length i).toNat ≤ t.length := by unfold plc; omega
  have hp0 : 0 ≤ plc t.length i := by unfold plc; omega
  have hp1 : plc t.length i ≤ t.length := by unfold plc; omega
  rw [delI_eq, insI_len]
  have e1 : (plc (t.length + x.length : Nat) (plc t.length i)).toNat = (plc t.length i).toNat := by unfold plc; omega
  have e2 : (plc (t.length + x.length : Nat) (max (plc t.length i) (plc t.length i + x.length))).toNat = (plc t.length i).toNat + x.length := by
    generalize plc t.length i = p at *; unfold plc; omega
  rw [e1, e2, insI_eq]
  generalize (plc t.length i).toNat = p at *
  have hl : (t.take p ++ x).length = p + x.length := by simp; omega
  rw [List.append_assoc, List.take_append_of_le_length (by simp; omega), List.take_take, Nat.min_self, ← List.append_assoc, List.drop_append_of_le_length (by omega), ← hl, List.drop_length, List.nil_append, List.take_append_drop]
theorem ins_slice (t : List Int) (i : Int) (x : List Int) (k : Int) (hk : k = plc t.length i) : slI (insI t i x) k (k + x.length) = x := by
  subst hk
  have hp : (plc t.length i).toNat ≤ t.length := by unfold plc; omega
  have hp0 : 0 ≤ plc t.length i := by unfold plc; omega
  have hp1 : plc t.length i ≤ t.length := by unfold plc; omega
  unfold slI
  rw [insI_len]
  have e1 : (plc (t.length + x.length : Nat) (plc t.length i)).toNat = (plc t.length i).toNat := by unfold plc; omega
  have e2 : (plc (t.length + x.length : Nat) (plc t.length i + x.length)).toNat = (plc t.length i).toNat + x.length := by
    generalize plc t.length i = p at *; unfold plc; omega
  rw [e1, e2, insI_eq]
  generalize (plc t.length i).toNat = p at *
  have hl : (t.take p ++ x).length = p + x.length := by simp; omega
  have hl2 : (t.take p).length = p := by simp; omega
  rw [List.take_append_of_le_length (by omega), ← hl, List.take_length, List.drop_append_of_le_length (by omega), List.drop_eq_nil_of_le (by omega), List.nil_append]

end Go.Proofs.YtkgakgceamafcaaGreat

namespace Go.Proofs.YtkgakgceamafcaaGreat
open Go Go.RowKit
set_option linter.unusedVariables false

theorem own_unfrozen {w : World} {B n c g s : Nat} {e : TypeId} {xs : List Value} (h : w.ownsRow B e s (.slice (some ⟨g, 0, none⟩) n c) n xs) (o : Nat) : w.frozen? ⟨g, o, none⟩ = false := by
  rcases h.2 with ⟨h', _⟩ | ⟨g', cap', cur, h', hb, hg, _⟩
  · simp at h'
  · simp only [Value.slice.injEq, Option.some.injEq, Addr.mk.injEq, and_true, true_and] at h'
    obtain ⟨rfl, rfl⟩ := h'
    exact unfrozen hg o
/-- The last span of a row grows. -/
theorem own_last {w : World} {B c g : Nat} (l : List (Int × Int)) (q : Int × Int) (a b : Int) (h : w.ownsRow B 59 2 (.slice (some ⟨g, 0, none⟩) (l.length + 1) c) (l.length + 1) (spC (l ++ [q]))) :
    ((w.setCell ⟨g, l.length * 2, none⟩ (.int .i64 a)).setCell ⟨g, l.length * 2 + 1, none⟩ (.int .i64 b)).ownsRow B 59 2 (.slice (some ⟨g, 0, none⟩) (l.length + 1) c) (l.length + 1) (spC (l ++ [(a, b)])) := by
  have h2 := ((h.stored (l.length * 2) (.int .i64 a)).1.stored (l.length * 2 + 1) (.int .i64 b)).1
  have e : ((spC (l ++ [q])).set (l.length * 2) (.int .i64 a)).set (l.length * 2 + 1) (.int .i64 b) = spC (l ++ [(a, b)]) := by
    rw [spC_snoc, spC_snoc, ← spC_len l, List.set_append_right _ _ (Nat.le_refl _), List.set_append_right _ _ (by omega)]
    simp
  rwa [e] at h2

theorem pjoin_skip {w : World} {a : Option Addr} {n c : Nat} (x y : Int) (hy : y < 1) :
    Calls Tryz.prog 173 #[.slice a n c, .agg #[.int .i64 x, .int .i64 y]] w fun e w' => e = .returned (.slice a n c) ∧ Below w.heap.size w w' := by
  have d1 : decide (y < 1) = true := decide_eq_true hy
  have HB := Lib.hid (below_al w (Obj.cells #[Value.int IntKind.i64 x, Value.int IntKind.i64 y] 59))
  go_enter Tryz.func173, Tryz.ntmps173
  go_wp2_with fail
  go_ret
  exact ⟨rfl, HB.out⟩

set_option maxRecDepth 100000 in
set_option maxHeartbeats 4000000 in
theorem pjoin_first {w : World} {B c : Nat} {a : Option Addr} (ho : w.ownsRow B 59 2 (.slice a 0 c) 0 (spC [])) (hB : B ≤ w.heap.size) (x y : Int) (hy : 1 ≤ y) :
    Calls Tryz.prog 173 #[.slice a 0 c, .agg #[.int .i64 x, .int .i64 y]] w fun e w' => ∃ v', e = .returned v' ∧ w'.ownsRow B 59 2 v' 1 (spC [(x, y)]) ∧ Below B w w' ∧ w.heap.size ≤ w'.heap.size := by
  have d1 : decide (y < 1) = false := decide_eq_false (by omega)
  obtain ⟨i0, hi0, hz0, hz1, hz2⟩ := info_parts info_span
  have HO := Lib.hid ho
  have HBB := Lib.hid hB
  clear ho hy
  have S0 := SpB.new w x y
  have s0 := S0.c0
  have s1 := S0.c1
  go_enter Tryz.func173, Tryz.ntmps173
  go_wp2_with (first
    | (at_builtin; refine wpList_append_own _ rfl (.tmp 32) (.tmp 34) 55 rfl B 59 i0 (.agg #[.int .i64 0, .int .i64 0]) 2 16 Tryz.underlying55 hi0 hz0 hz1 hz2 rfl (by decide) (.slice a 0 c) 0 (spC []) rfl ((HO.out.alloc _).alloc _) ⟨w.heap.size + 1, 0, none⟩ 1 1 [.int .i64 x, .int .i64 y] rfl rfl ?c1 ?c2 ?c3 ?c4 ?c5 ?_)
    | fail)
  case c1 =>
    intro j u hj
    rw [Addr.add_lit, Nat.zero_add]
    have hn := heap_alloc_new (w.alloc (Obj.cells #[Value.int IntKind.i64 x, Value.int IntKind.i64 y] 59)) (Obj.cells #[Value.int IntKind.i64 x, Value.int IntKind.i64 y] 59)
    rw [World.size_alloc] at hn
    rw [cell_at hn]
    simpa using hj
  case c2 =>
    intro u hu
    simp only [List.mem_cons, List.not_mem_nil, or_false] at hu
    rcases hu with rfl | rfl <;> rfl
  case c3 => unfold maxLen; omega
  case c4 => omega
  case c5 => have := HBB.out; simp only [World.size_alloc]; omega
  intro v7 wB ho7 hg7 _
  have HO7 := Lib.hid ho7
  have HG7 := Lib.hid hg7
  have HBelow : Hid (Below B w wB) := ((((Below.refl B w).alloc HBB.out _).alloc (by have := HBB.out; simp; omega) _).grown hg7 (by have := HBB.out; simp; omega) (fun q hq => (HO.out.lt q hq).1))
  clear ho7 hg7
  go_wp2_with fail
  go_ret
  exact ⟨v7, rfl, HO7.out, HBelow.out, by have := HG7.out.size; simp at this; omega⟩

set_option maxRecDepth 100000 in
set_option maxHeartbeats 4000000 in
theorem pjoin_more {w : World} {B c : Nat} {a : Option Addr} (l : List (Int × Int)) (q : Int × Int) (ho : w.ownsRow B 59 2 (.slice a (l.length + 1) c) (l.length + 1) (spC (l ++ [q]))) (hB : B ≤ w.heap.size) (x y : Int) (hy : 1 ≤ y)
    (hq1 : In40 q.1) (hq2 : In40 q.2) (hx : In40 x) (hy4 : In40 y) (hl : l.length ≤ 1000000) (hno : joinB q.1 q.2 x y = false) :
    Calls Tryz.prog 173 #[.slice a (l.length + 1) c, .agg #[.int .i64 x, .int .i64 y]] w fun e w' => ∃ v', e = .returned v' ∧ w'.ownsRow B 59 2 v' (l.length + 1 + 1) (spC (l ++ [q]) ++ [.int .i64 x, .int .i64 y]) ∧ Below B w w' ∧ w.heap.size ≤ w'.heap.size := by
  have d1 : decide (y < 1) = false := decide_eq_false (by omega)
  obtain ⟨i0, hi0, hz0, hz1, hz2⟩ := info_parts info_span
  rcases own_form ho with ⟨_, h00⟩ | ⟨g, rfl, hBg, hg⟩
  · omega
  have hsp := spC_at (l ++ [q]) l.length q (by simp)
  have f1 := ho.cells (g := g) rfl _ _ hsp.1
  have f2 := ho.cells (g := g) rfl _ _ hsp.2
  rw [Addr.add_lit] at f1 f2
  simp only [Nat.zero_add] at f1 f2
  have HO := Lib.hid ho
  have HBB := Lib.hid hB
  have HJ := Lib.hid (fun (W w' : World) (hw : Below W.heap.size W w') => chain_of (join_of q.1 q.2 x y w' hq1 hq2 hx hy4) hw)
  unfold joinR retJ at HJ
  rw [hno, if_neg (by simp)] at HJ
  generalize q.1 = q1 at *
  generalize q.2 = q2 at *
  generalize spC (l ++ [q]) = sl at *
  generalize l.length = n at *
  clear ho hy hsp hq1 hq2 hx hy4 hno hB
  have d2 : decide ((0 : Int) ≤ (n : Int)) = true := decide_eq_true (by omega)
  have S0 := SpB.new w x y
  have hwg : g < w.heap.size := hg
  go_enter Tryz.func173, Tryz.ntmps173
  go_upto_region 5 with fail
  have HB1 := Lib.hid (below_al w (Obj.cells #[Value.int IntKind.i64 x, Value.int IntKind.i64 y] 59))
  have HO1 := Lib.hid (HO.out.alloc (Obj.cells #[Value.int IntKind.i64 x, Value.int IntKind.i64 y] 59))
  have f1' := (HB1.out.cell (p := ⟨g, n * 2, none⟩) hwg).trans f1
  have f2' := (HB1.out.cell (p := ⟨g, n * 2 + 1, none⟩) hwg).trans f2
  have hgw : g < (w.alloc (Obj.cells #[Value.int IntKind.i64 x, Value.int IntKind.i64 y] 59)).heap.size := by simp only [World.size_alloc]; omega
  have hzw : w.heap.size < (w.alloc (Obj.cells #[Value.int IntKind.i64 x, Value.int IntKind.i64 y] 59)).heap.size := by simp
  clear f1 f2
  generalize w.alloc (Obj.cells #[Value.int IntKind.i64 x, Value.int IntKind.i64 y] 59) = wn at *
  go_cut [6, 7] (fun s6 s7 wx => ∃ gb : Nat, s6 = .pointer (some ⟨gb, 0, none⟩) ∧ s7 = .bool false ∧ Below wn.heap.size wn wx)
  case first =>
    have ld1 := fun w' (hb : Below wn.heap.size wn w') => (S0.below (w' := w') hb).c0
    have ld2 := fun w' (hb : Below wn.heap.size wn w') => (S0.below (w' := w') hb).c1
    have ld3 := fun w' (hb : Below wn.heap.size wn w') => (hb.cell (p := ⟨g, n * 2, none⟩) hgw).trans f1'
    have ld4 := fun w' (hb : Below wn.heap.size wn w') => (hb.cell (p := ⟨g, n * 2 + 1, none⟩) hgw).trans f2'
    have hb0 : Below wn.heap.size wn wn.drew := (Below.refl _ wn).drew
    clear f1' f2' HO1 HB1 HBB HO S0
    have hq0 : (0 : Int) ≤ (n : Int) := by omega
    have hq1 : (n : Int) < (n : Int) + 1 := by omega
    go_region_held3 (fun w' => Below wn.heap.size wn w')
      (first | assumption | exact Below.alloc (by assumption) (Below.size (by assumption)) _ | exact below_two (by assumption) (by first | assumption | omega) _ _)
      ((go_at_call 198; refine (HJ.out wn _ (by first | assumption | exact Below.alloc (by assumption) (Below.size (by assumption)) _)).mono ?_; rintro e w' ⟨rfl, hB, hb⟩; have hup := hB.size; have hul := (fun (b : Nat) h => Nat.lt_of_lt_of_le (n := b) h hb.size); (try have hal : wn.heap.size < w'.heap.size := by (have hzs := hb.size; simp only [World.size_drew, World.size_alloc] at hzs; omega)); (try have hal : wn.heap.size < w'.heap.size := by (have hzs := hb.size; omega)); obtain ⟨hcc, hff⟩ := bcell hb; clear hb))
    all_goals go_wp2_with fail
    all_goals go_meet
    all_goals (refine ⟨_, rfl, rfl, ?_⟩ <;> first | assumption | (go_simp; done) | (simp; done))
  case rest =>
    obtain ⟨gb, rfl, rfl, hbw⟩ := hcut
    have HOc := Lib.hid (own_below HO1.out hbw)
    have HBc := Lib.hid (HB1.out.trans (hbw.mono HB1.out.size))
    have Sc := S0.below hbw
    have s0 := Sc.c0
    have s1 := Sc.c1
    have hzc := HBc.out.size
    have hBw := HBB.out
    clear f1' f2' HO1 HB1 HBB HO S0 hbw Sc HJ hgw hzw
    go_wp2_with (first
      | (at_builtin; refine wpList_append_own _ rfl (.tmp 32) (.tmp 34) 55 rfl B 59 i0 (.agg #[.int .i64 0, .int .i64 0]) 2 16 Tryz.underlying55 hi0 hz0 hz1 hz2 rfl (by decide) (.slice (some ⟨g, 0, none⟩) (n + 1) c) (n + 1) sl rfl (HOc.out.alloc _) ⟨wc.heap.size, 0, none⟩ 1 1 [.int .i64 x, .int .i64 y] rfl rfl ?c1 ?c2 ?c3 ?c4 ?c5 ?_)
      | fail)
    case c1 =>
      intro j u hj
      rw [Addr.add_lit, Nat.zero_add]
      rw [cell_at (heap_alloc_new wc _)]
      simpa using hj
    case c2 =>
      intro u hu
      simp only [List.mem_cons, List.not_mem_nil, or_false] at hu
      rcases hu with rfl | rfl <;> rfl
    case c3 => unfold maxLen; omega
    case c4 => omega
    case c5 => simp only [World.size_alloc]; omega
    intro v7 wB ho7 hg7 _
    have HO7 := Lib.hid ho7
    have HG7 := Lib.hid hg7
    have HBelow : Hid (Below B w wB) := (((HBc.out.mono (by omega : B ≤ w.heap.size)).alloc (by omega) _).grown hg7 (by simp only [World.size_alloc]; omega) (fun q hq => (HOc.out.lt q hq).1))
    clear ho7 hg7
    go_wp2_with fail
    go_ret
    exact ⟨v7, rfl, HO7.out, HBelow.out, by have := HG7.out.size; simp only [World.size_alloc] at this; omega⟩

set_option maxRecDepth 100000 in
set_option maxHeartbeats 4000000 in
theorem pjoin_glue {w : World} {B c : Nat} {a : Option Addr} (l : List (Int × Int)) (q : Int × Int) (ho : w.ownsRow B 59 2 (.slice a (l.length + 1) c) (l.length + 1) (spC (l ++ [q]))) (hB : B ≤ w.heap.size) (x y : Int) (hy : 1 ≤ y)
    (hq1 : In40 q.1) (hq2 : In40 q.2) (hx : In40 x) (hy4 : In40 y) (hl : l.length ≤ 1000000) (hno : joinB q.1 q.2 x y = true) :
    Calls Tryz.prog 173 #[.slice a (l.length + 1) c, .agg #[.int .i64 x, .int .i64 y]] w fun e w' => ∃ v', e = .returned v' ∧ w'.ownsRow B 59 2 v' (l.length + 1) (spC (l ++ [(q.1, q.2 + y)])) ∧ Below B w w' ∧ w.heap.size ≤ w'.heap.size := by
  have d1 : decide (y < 1) = false := decide_eq_false (by omega)
  obtain ⟨i0, hi0, hz0, hz1, hz2⟩ := info_parts info_span
  rcases own_form ho with ⟨_, h00⟩ | ⟨g, rfl, hBg, hg⟩
  · omega
  have hsp := spC_at (l ++ [q]) l.length q (by simp)
  have f1 := ho.cells (g := g) rfl _ _ hsp.1
  have f2 := ho.cells (g := g) rfl _ _ hsp.2
  rw [Addr.add_lit] at f1 f2
  simp only [Nat.zero_add] at f1 f2
  have HO := Lib.hid ho
  have HBB := Lib.hid hB
  have HJ := Lib.hid (fun (W w' : World) (hw : Below W.heap.size W w') => chain_of (join_of q.1 q.2 x y w' hq1 hq2 hx hy4) hw)
  unfold joinR retJ at HJ
  rw [hno, if_pos rfl] at HJ
  have HLast := Lib.hid (fun (w : World) h => own_last (w := w) (B := B) (c := c) (g := g) l q q.1 (q.2 + y) h)
  generalize spC (l ++ [q]) = sl at *
  generalize spC (l ++ [(q.1, q.2 + y)]) = sm at *
  generalize l.length = n at *
  generalize q.1 = q1 at *
  generalize q.2 = q2 at *
  clear ho hy hsp hq1 hq2 hx hy4 hno hB
  have d2 : decide ((0 : Int) ≤ (n : Int)) = true := decide_eq_true (by omega)
  have S0 := SpB.new w x y
  have hwg : g < w.heap.size := hg
  go_enter Tryz.func173, Tryz.ntmps173
  go_upto_region 5 with fail
  have HB1 := Lib.hid (below_al w (Obj.cells #[Value.int IntKind.i64 x, Value.int IntKind.i64 y] 59))
  have HO1 := Lib.hid (HO.out.alloc (Obj.cells #[Value.int IntKind.i64 x, Value.int IntKind.i64 y] 59))
  have f1' := (HB1.out.cell (p := ⟨g, n * 2, none⟩) hwg).trans f1
  have f2' := (HB1.out.cell (p := ⟨g, n * 2 + 1, none⟩) hwg).trans f2
  have hgw : g < (w.alloc (Obj.cells #[Value.int IntKind.i64 x, Value.int IntKind.i64 y] 59)).heap.size := by simp only [World.size_alloc]; omega
  have hzw : w.heap.size < (w.alloc (Obj.cells #[Value.int IntKind.i64 x, Value.int IntKind.i64 y] 59)).heap.size := by simp
  clear f1 f2
  generalize w.alloc (Obj.cells #[Value.int IntKind.i64 x, Value.int IntKind.i64 y] 59) = wn at *
  go_cut [6, 7] (fun s6 s7 wx => ∃ gb : Nat, s6 = .pointer (some ⟨gb, 0, none⟩) ∧ s7 = .bool true ∧ Below wn.heap.size wn wx ∧ wx.cell? ⟨gb, 0, none⟩ = some (.int .i64 q1) ∧ wx.cell? ⟨gb, 1, none⟩ = some (.int .i64 (q2 + y)))
  case first =>
    have ld1 := fun w' (hb : Below wn.heap.size wn w') => (S0.below (w' := w') hb).c0
    have ld2 := fun w' (hb : Below wn.heap.size wn w') => (S0.below (w' := w') hb).c1
    have ld3 := fun w' (hb : Below wn.heap.size wn w') => (hb.cell (p := ⟨g, n * 2, none⟩) hgw).trans f1'
    have ld4 := fun w' (hb : Below wn.heap.size wn w') => (hb.cell (p := ⟨g, n * 2 + 1, none⟩) hgw).trans f2'
    have hb0 : Below wn.heap.size wn wn.drew := (Below.refl _ wn).drew
    clear f1' f2' HO1 HB1 HBB HO S0
    have hq0 : (0 : Int) ≤ (n : Int) := by omega
    have hq1 : (n : Int) < (n : Int) + 1 := by omega
    go_region_held3 (fun w' => Below wn.heap.size wn w')
      (first | assumption | exact Below.alloc (by assumption) (Below.size (by assumption)) _ | exact below_two (by assumption) (by first | assumption | omega) _ _)
      ((go_at_call 198; refine (HJ.out wn _ (by first | assumption | exact Below.alloc (by assumption) (Below.size (by assumption)) _)).mono ?_; rintro e w' ⟨rfl, hB, hb⟩; have hup := hB.size; have hul := (fun (b : Nat) h => Nat.lt_of_lt_of_le (n := b) h hb.size); (try have hal : wn.heap.size < w'.heap.size := by (have hzs := hb.size; simp only [World.size_drew, World.size_alloc] at hzs; omega)); (try have hal : wn.heap.size < w'.heap.size := by (have hzs := hb.size; omega)); obtain ⟨hcc, hff⟩ := bcell hb; clear hb))
    all_goals go_wp2_with fail
    all_goals go_meet
    all_goals (refine ⟨_, rfl, rfl, ?_, ?_, ?_⟩ <;> first | assumption | (go_simp; done) | (simp; done) | exact two_c0 (a := .int .i64 0) (by go_simp) _ _ | exact two_c1 (a := .int .i64 0) (by go_simp) _ _)
  case rest =>
    obtain ⟨gb, rfl, rfl, hbw, k1, k2⟩ := hcut
    have HOc := Lib.hid (own_below HO1.out hbw)
    have HBc := Lib.hid (HB1.out.trans (hbw.mono HB1.out.size))
    have hgc : g < wc.heap.size := Nat.lt_of_lt_of_le hgw hbw.size
    have e1 := (hbw.cell (p := ⟨g, n * 2, none⟩) hgw).trans f1'
    have e2 := (hbw.cell (p := ⟨g, n * 2 + 1, none⟩) hgw).trans f2'
    have hq0 : (0 : Int) ≤ (n : Int) := by omega
    have hq1 : (n : Int) < (n : Int) + 1 := by omega
    have hzc := HBc.out.size
    have hBw := HBB.out
    clear f1' f2' HO1 HB1 HBB HO S0 hbw HJ
    have z1 := own_unfrozen HOc.out (n * 2)
    have z2 := own_unfrozen HOc.out (n * 2 + 1)
    go_wp2_with fail
    go_ret
    exact ⟨_, rfl, HLast.out _ HOc.out, ((HBc.out.mono hBw).setCell (p := ⟨g, n * 2, none⟩) hBg _).setCell (p := ⟨g, n * 2 + 1, none⟩) hBg _, by simp only [size_set]; omega⟩

end Go.Proofs.YtkgakgceamafcaaGreat

namespace Go.Proofs.YtkgakgceamafcaaGreat
open Go Go.RowKit
set_option linter.unusedVariables false

/-- A span of few bytes, not empty. -/
def Ok1 (q : Int × Int) : Prop := In40 q.1 ∧ In40 q.2 ∧ 1 ≤ q.2

theorem pjoin_of {w : World} {B c : Nat} {a : Option Addr} {l : List (Int × Int)} (ho : w.ownsRow B 59 2 (.slice a l.length c) l.length (spC l)) (hB : B ≤ w.heap.size) (x y : Int)
    (hok : ∀ q ∈ l, Ok1 q) (hx : In40 x) (hy : 1 ≤ y → In40 y) (hl : l.length ≤ 1000000) :
    Calls Tryz.prog 173 #[.slice a l.length c, .agg #[.int .i64 x, .int .i64 y]] w fun e w' => ∃ v', e = .returned v' ∧ w'.ownsRow B 59 2 v' (joinS l (x, y)).length (spC (joinS l (x, y))) ∧ Below B w w' ∧ w.heap.size ≤ w'.heap.size := by
  unfold joinS
  by_cases h : y < 1
  · rw [if_pos (show (x, y).2 < 1 from h)]
    refine (pjoin_skip x y h).mono ?_
    rintro e w' ⟨rfl, hb⟩
    exact ⟨_, rfl, own_below ho hb, hb.mono hB, hb.size⟩
  · rw [if_neg (show ¬ (x, y).2 < 1 from h)]
    rcases List.eq_nil_or_concat l with rfl | ⟨l0, q, rfl⟩
    · exact pjoin_first ho hB x y (by omega)
    · rw [List.concat_eq_append] at *
      have hq : Ok1 q := hok q (by simp)
      obtain ⟨q1, q2, q3⟩ := hq
      rw [List.length_append] at ho hl ⊢
      rw [glue_snoc]
      by_cases hg : x = q.1 + q.2
      · rw [if_pos (show (x, y).1 = q.1 + q.2 from hg), List.length_append]
        exact pjoin_glue l0 q ho hB x y (by omega) q1 q2 hx (hy (by omega)) (by simp at hl; omega) (by unfold joinB; simp only [decide_eq_true_eq]; omega)
      · rw [if_neg (show ¬ (x, y).1 = q.1 + q.2 from hg), List.length_append, List.length_append, spC_snoc (l0 ++ [q])]
        exact pjoin_more l0 q ho hB x y (by omega) q1 q2 hx (hy (by omega)) (by simp at hl; omega) (by unfold joinB; simp only [decide_eq_false_iff_not]; omega)

theorem joinS_len (l : List (Int × Int)) (s : Int × Int) : (joinS l s).length ≤ l.length + 1 := by
  unfold joinS
  split
  · omega
  · rcases glue_cases l s with ⟨rfl, h⟩ | ⟨l0, q, rfl, h⟩
    · rw [h]; simp
    · rw [h]; split <;> simp

theorem own_mono {w : World} {B B' n s : Nat} {e : TypeId} {v : Value} {xs : List Value} (h : w.ownsRow B' e s v n xs) (hB : B ≤ B') : w.ownsRow B e s v n xs :=
  ⟨h.1, h.2.imp id fun ⟨g, cap, cur, e1, e2, r⟩ => ⟨g, cap, cur, e1, Nat.le_trans hB e2, r⟩⟩
theorem ofS_take {l : List (Int × Int)} {k : Nat} (h : k < l.length) : ofS (l.take (k + 1)) = joinS (ofS (l.take k)) (l[k].1, l[k].2) := by
  rw [List.take_succ_eq_append_getElem h, ofS_snoc]

set_option maxRecDepth 100000 in
set_option maxHeartbeats 4000000 in
theorem pof_of {w : World} {a : Option Addr} {c : Nat} {l : List (Int × Int)} (hr : Rd w 2 a l.length (spC l)) (hl : l.length ≤ 100000)
    (h40 : ∀ s ∈ l, In40 s.1 ∧ (1 ≤ s.2 → In40 s.2)) (hok : ∀ k, ∀ q ∈ ofS (l.take k), Ok1 q) :
    Calls Tryz.prog 146 #[.slice a l.length c] w fun e w' => ∃ v', e = .returned (.agg #[v']) ∧ w'.ownsRow w.heap.size 59 2 v' (ofS l).length (spC (ofS l)) ∧ Below w.heap.size w w' := by
  have al := below_al w (Obj.cells #[Value.slice none 0 0] 57)
  have HR := Lib.hid (hr.below al)
  have H4 := Lib.hid h40
  have HK := Lib.hid hok
  have HL := Lib.hid hl
  have HB0 := Lib.hid al
  have H69 := Lib.hid (heap_alloc_new w (Obj.cells #[Value.slice none 0 0] 57))
  have hz1 : (w.alloc (Obj.cells #[Value.slice none 0 0] 57)).heap.size = w.heap.size + 1 := by simp
  clear hr h40 hok hl al
  go_enter Tryz.func146, Tryz.ntmps146
  go_wp2_with fail
  generalize w.alloc (Obj.cells #[Value.slice none 0 0] 57) = w1 at *
  have HZ := Lib.hid hz1
  clear hz1
  go_loopw [3, 8] (fun v3 i wr => ∃ k : Nat, k ≤ l.length ∧ i = .int .i64 k ∧ wr.ownsRow (w.heap.size + 1) 59 2 v3 (ofS (l.take k)).length (spC (ofS (l.take k))) ∧ (ofS (l.take k)).length ≤ k ∧ Below (w.heap.size + 1) w1 wr ∧ w.heap.size + 1 ≤ wr.heap.size) (fun _ i _ => l.length - (intOf i).toNat)
  case atStart => exact ⟨0, by omega, rfl, own_nil _ _ _ _, by simp [ofS], Below.refl _ _, by rw [HZ.out]; omega⟩
  case round =>
    obtain ⟨k, hk, rfl, ho, hlk, hb, hzr⟩ := hrel
    have HB := Lib.hid hb
    have HO := Lib.hid ho
    obtain ⟨a3, c3, rfl⟩ := own_slice ho
    clear hb ho
    have hk1 : (ofS (l.take (k + 1))).length ≤ (ofS (l.take k)).length + 1 := by
      by_cases h : k < l.length
      · rw [ofS_take h]; exact joinS_len _ _
      · rw [List.take_of_length_le (by omega), List.take_of_length_le (by omega)]; omega
    by_cases hlt : k < l.length
    · have dk : decide (k < l.length) = true := decide_eq_true hlt
      have hln := HL.out
      obtain ⟨b, off, rfl, hbl, hcl⟩ := HR.out.2 (by omega)
      have hsp := spC_at l k l[k] (List.getElem?_eq_getElem hlt)
      have hb1 : b < w.heap.size + 1 := by rw [← HZ.out]; exact hbl
      have f1 : wr.cell? ⟨b, off + k * 2, none⟩ = some (.int .i64 l[k].1) := (HB.out.cell (p := ⟨b, off + k * 2, none⟩) hb1).trans (hcl _ _ hsp.1)
      have f2 : wr.cell? ⟨b, off + k * 2 + 1, none⟩ = some (.int .i64 l[k].2) := (HB.out.cell (p := ⟨b, off + k * 2 + 1, none⟩) hb1).trans (hcl _ _ hsp.2)
      have hin := H4.out l[k] (List.getElem_mem hlt)
      have ht := ofS_take hlt
      have HJ := Lib.hid (pjoin_of (HO.out.alloc (Obj.cells #[Value.int IntKind.i64 l[k].1, Value.int IntKind.i64 l[k].2] 59)) (by simp only [World.size_alloc]; omega) l[k].1 l[k].2 (HK.out k) hin.1 hin.2 (by have := HL.out; omega))
      rw [← ht] at HJ
      clear hbl hcl hsp hin ht HR H4
      generalize l[k].1 = x at *
      generalize l[k].2 = y at *
      generalize (ofS (l.take k)).length = n3 at *
      go_wp2_with fail
      refine HJ.out.mono ?_; rintro e w2 ⟨v', rfl, ho2, hb2, hz2⟩
      have HO2 := Lib.hid ho2
      have HB2 := Lib.hid ((HB.out.alloc hzr (Obj.cells #[Value.int IntKind.i64 x, Value.int IntKind.i64 y] 59)).trans hb2)
      simp only [World.size_alloc] at hz2
      clear ho2 hb2 HJ
      go_wp2_with fail
      go_roundw
      case rel => exact ⟨k + 1, hlt, by go_num, HO2.out, by omega, HB2.out, by omega⟩
      case measure => simp [intOf]; omega
    · have dk : decide (k < l.length) = false := decide_eq_false hlt
      obtain rfl : k = l.length := by omega
      rw [List.take_length] at HO
      have h69 := (HB.out.block w.heap.size (by omega)).trans H69.out
      have c69 : wr.cell? ⟨w.heap.size, 0, none⟩ = some (.slice none 0 0) := by rw [cell_at h69]; rfl
      have z69 := unfrozen h69 0
      clear h69 HR H4 HK
      go_wp2_with fail
      rw [List.take_length] at *
      have hs69 := HO.out.kept (w' := wr.setCell ⟨w.heap.size, 0, none⟩ (.slice a3 (ofS l).length c3)) (row := some w.heap.size) ⟨rfl, rfl, rfl, by rw [size_set]; omega, fun i hi hn => heap_set_other (fun e => hn (by rw [e]))⟩ (.inr (fun e => by have := (HO.out.lt _ e).1; omega))
      have c70 : (wr.setCell ⟨w.heap.size, 0, none⟩ (.slice a3 (ofS l).length c3)).cell? ⟨w.heap.size, 0, none⟩ = some (.slice a3 (ofS l).length c3) := cell_set_same c69
      refine bodyPost_ret (v := .agg #[.slice a3 (ofS l).length c3]) (by simp [results, Tryz.results146, go_sem, c70]) rfl ⟨_, rfl, own_mono hs69 (by omega), ?_⟩
      exact (HB0.out.trans (HB.out.mono (by omega))).setCell (p := ⟨w.heap.size, 0, none⟩) (Nat.le_refl _) _

theorem lenS_take {l : List (Int × Int)} {k : Nat} (h : k < l.length) : lenS (l.take (k + 1)) = lenS (l.take k) + l[k].2 := by
  rw [List.take_succ_eq_append_getElem h, lenS_append, lenS_one]

set_option maxRecDepth 100000 in
set_option maxHeartbeats 4000000 in
theorem plen_of {w : World} {a : Option Addr} {c : Nat} {l : List (Int × Int)} (hr : Rd w 2 a l.length (spC l)) (hl : l.length ≤ 1000000)
    (hs : ∀ k, 0 ≤ lenS (l.take k) ∧ lenS (l.take k) ≤ 1099511627776) :
    Calls Tryz.prog 100 #[.agg #[.slice a l.length c]] w fun e w' => e = .returned (.int .i64 (lenS l)) ∧ Below w.heap.size w w' := by
  have al := below_al w (Obj.cells #[Value.slice a l.length c] 57)
  have HR := Lib.hid (hr.below al)
  have HS := Lib.hid hs
  have HL := Lib.hid hl
  have HB0 := Lib.hid al
  have hz0 := al.size
  have c0 : (w.alloc (Obj.cells #[Value.slice a l.length c] 57)).cell? ⟨w.heap.size, 0, none⟩ = some (.slice a l.length c) := by rw [cell_at (heap_alloc_new w _)]; rfl
  clear hr hs hl al
  go_enter Tryz.func100, Tryz.ntmps100
  go_wp2_with fail
  clear c0
  generalize w.alloc (Obj.cells #[Value.slice a l.length c] 57) = w1 at *
  go_loopw [3, 9] (fun v3 i wr => ∃ k : Nat, k ≤ l.length ∧ i = .int .i64 k ∧ v3 = .int .i64 (lenS (l.take k)) ∧ Below w1.heap.size w1 wr) (fun _ i _ => l.length - (intOf i).toNat)
  case atStart => exact ⟨0, by omega, rfl, by simp [lenS_nil], Below.refl _ _⟩
  case round =>
    obtain ⟨k, hk, rfl, rfl, hb⟩ := hrel
    have HB := Lib.hid hb
    clear hb
    by_cases hlt : k < l.length
    · have dk : decide (k < l.length) = true := decide_eq_true hlt
      have hln := HL.out
      obtain ⟨b, off, rfl, hbl, hcl⟩ := HR.out.2 (by omega)
      have hsp := spC_at l k l[k] (List.getElem?_eq_getElem hlt)
      have f1 : wr.cell? ⟨b, off + k * 2, none⟩ = some (.int .i64 l[k].1) := (HB.out.cell (p := ⟨b, off + k * 2, none⟩) hbl).trans (hcl _ _ hsp.1)
      have f2 : wr.cell? ⟨b, off + k * 2 + 1, none⟩ = some (.int .i64 l[k].2) := (HB.out.cell (p := ⟨b, off + k * 2 + 1, none⟩) hbl).trans (hcl _ _ hsp.2)
      have ht := lenS_take hlt
      have s1 := (HS.out k)
      have s2 := (HS.out (k + 1))
      rw [ht] at s2
      obtain ⟨s10, s11⟩ := s1
      obtain ⟨s20, s21⟩ := s2
      have HT := Lib.hid ht
      have HBo := Lib.hid (HB.out.alloc HB.out.size (Obj.cells #[Value.int IntKind.i64 l[k].1, Value.int IntKind.i64 l[k].2] 59))
      clear hbl hcl hsp ht HR HS HB
      generalize l[k].1 = x at *
      generalize l[k].2 = y at *
      generalize lenS (l.take k) = sk at *
      go_wp2_with fail
      go_roundw
      case rel => exact ⟨k + 1, hlt, by go_num, by rw [HT.out] <;> rfl, HBo.out⟩
      case measure => simp [intOf]; omega
    · have dk : decide (k < l.length) = false := decide_eq_false hlt
      obtain rfl : k = l.length := by omega
      have hB : Hid (Below w.heap.size w wr) := HB0.out.trans (HB.out.mono hz0)
      rw [List.take_length]
      clear HR HS
      go_wp2_with fail
      go_ret
      exact ⟨rfl, hB.out⟩

end Go.Proofs.YtkgakgceamafcaaGreat
