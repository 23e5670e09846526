/-
  Grammar's small functions: which keys are among some characters, at this seat's numbers.
-/
import Derived.Test.YtjmpokgdgnjojaaDoorFeA
import Derived.Test.YtjmpokgdgnjojaaDoorShelf
import Derived.Laws.RangeString
namespace Go.Proofs.YtjmpokgdgnjojaaDoor
open Go Go.RowKit
set_option linter.unusedVariables false

/-- Is there a character of which p holds? -/
def anyB (p : Nat → Bool) (s : ByteArray) : Bool := s.data.toList.any fun b => p b.toNat
theorem idx_from (p : Nat → Bool) (s : ByteArray) (hs : ∀ b ∈ s.data.toList, b.toNat < 128) : ∀ f pos, s.size ≤ pos + f → decide ((0 : Int) ≤ Lib.idxFuncFrom p true s f pos) = (s.data.toList.drop pos).any fun b => p b.toNat := by
  intro f
  induction f with
  | zero =>
    intro pos h
    have : s.data.toList.drop pos = [] := List.drop_eq_nil_of_le (by simpa using h)
    rw [this]; rfl
  | succ f ih =>
    intro pos h
    unfold Lib.idxFuncFrom
    by_cases hp : pos < s.size
    · rw [if_pos hp]
      have hl : pos < s.data.toList.length := by simpa using hp
      have hb : (s[pos]'hp).toNat < 128 := hs _ (by rw [show s[pos]'hp = s.data.toList[pos]'hl from rfl]; exact List.getElem_mem hl)
      rw [decode_ascii s pos hp hb, List.drop_eq_getElem_cons hl]
      simp only [List.any_cons]
      have e : (s.data.toList[pos]'hl) = s[pos]'hp := rfl
      rw [e]
      by_cases hq : p (s[pos]'hp).toNat = true
      · rw [if_pos hq, hq]; simp
      · rw [if_neg hq, ih (pos + 1) (by omega)]
        have : p (s[pos]'hp).toNat = false := by simpa using hq
        rw [this]; simp
    · rw [if_neg hp]
      have : s.data.toList.drop pos = [] := List.drop_eq_nil_of_le (by simp; omega)
      rw [this]; rfl
theorem idx_any (p : Nat → Bool) (s : ByteArray) (hs : ∀ b ∈ s.data.toList, b.toNat < 128) : decide ((0 : Int) ≤ Lib.idxFunc p true s) = anyB p s := by
  unfold Lib.idxFunc anyB
  rw [idx_from p s hs s.size 0 (by omega), List.drop_zero]

theorem within_of (k a b : Int) (w : World) : Calls Tryd.prog 28 #[.int .i64 k, .int .i64 a, .int .i64 b] w fun e w' => e = .returned (.bool (decide (a ≤ k ∧ k ≤ b))) ∧ w = w' := by
  by_cases h : a ≤ k
  · have d : decide (a ≤ k) = true := decide_eq_true h
    by_cases h2 : k ≤ b
    · have d2 : decide (k ≤ b) = true := decide_eq_true h2
      rw [decide_eq_true (And.intro h h2)]
      go_enter Tryd.func28, Tryd.ntmps28
      go_wp2_with fail
      go_ret
      exact ⟨rfl, rfl⟩
    · have d2 : decide (k ≤ b) = false := decide_eq_false h2
      rw [decide_eq_false (fun hh => h2 hh.2)]
      go_enter Tryd.func28, Tryd.ntmps28
      go_wp2_with fail
      go_ret
      exact ⟨rfl, rfl⟩
  · have d : decide (a ≤ k) = false := decide_eq_false h
    rw [decide_eq_false (fun hh => h hh.1)]
    go_enter Tryd.func28, Tryd.ntmps28
    go_wp2_with fail
    go_ret
    exact ⟨rfl, rfl⟩
theorem wrong_of (w : World) : Calls Tryd.prog 39 #[] w fun e w' => e = .returned (.tuple #[.nilFunc, .int .i64 10]) ∧ w = w' := by
  go_enter Tryd.func39, Tryd.ntmps39
  go_wp2_with fail
  go_ret2
  exact ⟨rfl, rfl⟩
theorem pair_of (a b : Int) (w : World) (ha : 0 ≤ a ∧ a ≤ 1000) (hb : -1000 ≤ b ∧ b ≤ 1000) : Calls Tryd.prog 33 #[.int .i64 a, .int .i64 b] w fun e w' => e = .returned (.int .i64 (256 * a + b)) ∧ w = w' := by
  obtain ⟨h1, h2⟩ := ha
  obtain ⟨h3, h4⟩ := hb
  go_enter Tryd.func33, Tryd.ntmps33
  go_wp2_with fail
  go_ret
  exact ⟨rfl, rfl⟩
/-- The character whose motion a key is. -/
def mvN (k : Int) : Int := if k = -1 then 104 else if k = -2 then 108 else if k = -3 then 107 else if k = -4 then 106 else if k = -5 then 48 else if k = -6 then 36 else k
set_option maxRecDepth 100000 in
theorem moving_of (k : Int) (w : World) : Calls Tryd.prog 51 #[.int .i64 k] w fun e w' => e = .returned (.int .i64 (mvN k)) ∧ w = w' := by
  by_cases h : -6 ≤ k ∧ k ≤ -1
  · rcases (show k = -1 ∨ k = -2 ∨ k = -3 ∨ k = -4 ∨ k = -5 ∨ k = -6 by omega) with h | h | h | h | h | h <;> subst h
    all_goals
      go_enter Tryd.func51, Tryd.ntmps51
      go_wp2_with fail
      go_ret
      exact ⟨rfl, rfl⟩
  · have e : mvN k = k := by unfold mvN; split <;> first | omega | (split <;> first | omega | (split <;> first | omega | (split <;> first | omega | (split <;> first | omega | (split <;> first | omega | rfl)))))
    rw [e]
    have z1 : (k == -1) = false := beq_eq_false_iff_ne.2 (by omega)
    have z2 : (k == -2) = false := beq_eq_false_iff_ne.2 (by omega)
    have z3 : (k == -3) = false := beq_eq_false_iff_ne.2 (by omega)
    have z4 : (k == -4) = false := beq_eq_false_iff_ne.2 (by omega)
    have z5 : (k == -5) = false := beq_eq_false_iff_ne.2 (by omega)
    have z6 : (k == -6) = false := beq_eq_false_iff_ne.2 (by omega)
    clear e h
    go_enter Tryd.func51, Tryd.ntmps51
    go_wp2_with fail
    go_ret
    exact ⟨rfl, rfl⟩

/-- Is a key one of some characters? -/
def inS (s : ByteArray) (k : Int) : Bool := s.data.toList.any fun b => decide ((b.toNat : Int) = k)
theorem anyB_congr {s : ByteArray} {p : Nat → Bool} {q : UInt8 → Bool} (h : ∀ b ∈ s.data.toList, p b.toNat = q b) : anyB p s = s.data.toList.any q := by
  unfold anyB
  generalize s.data.toList = l at *
  induction l with
  | nil => rfl
  | cons b l ih => rw [List.any_cons, List.any_cons, h b (by simp), ih (fun c hc => h c (by simp [hc]))]
theorem among_fn {w : World} {b : Nat} {k : Int} (h : w.cell? ⟨b, 0, none⟩ = some (.int .i64 k)) (hb : b < w.heap.size) : PredAt Tryd.prog 47 #[pbox b] encR (fun x => wrap64 (x : Int) == k) w := by
  intro W x hw
  have c0 := (hw.cell (p := ⟨b, 0, none⟩) hb).trans h
  clear hw h hb
  show Calls Tryd.prog 47 #[.int .i32 (x : Int), pbox b] W _
  go_enter Tryd.func47, Tryd.ntmps47
  go_wp2_with fail
  go_ret
  exact ⟨rfl, 0, rfl⟩
/-- The key of Ctrl and a letter. -/
def ctrlN (b : Int) : Int := if 97 ≤ b ∧ b ≤ 122 then b - 96 else 0
theorem ctrl_of (b : Int) (h0 : 0 ≤ b) (h1 : b < 256) (w : World) : Calls Tryd.prog 50 #[.int .u8 b] w fun e w' => e = .returned (.int .i64 (ctrlN b)) ∧ ∃ q, w' = w.drewN q := by
  unfold ctrlN
  by_cases h : 97 ≤ b
  · have d : decide (b < 97) = false := decide_eq_false (by omega)
    by_cases h2 : b ≤ 122
    · have d2 : decide (122 < b) = false := decide_eq_false (by omega)
      rw [if_pos ⟨h, h2⟩]
      go_enter Tryd.func50, Tryd.ntmps50
      go_wp2_with fail
      go_ret
      refine ⟨?_, 0, rfl⟩
      show Ending.returned (Value.int .i64 _) = _
      congr 2
      omega
    · have d2 : decide (122 < b) = true := decide_eq_true (by omega)
      rw [if_neg (fun hh => h2 hh.2)]
      go_enter Tryd.func50, Tryd.ntmps50
      go_wp2_with fail
      go_ret
      exact ⟨rfl, 0, rfl⟩
  · have d : decide (b < 97) = true := decide_eq_true (by omega)
    rw [if_neg (fun hh => h hh.1)]
    go_enter Tryd.func50, Tryd.ntmps50
    go_wp2_with fail
    go_ret
    exact ⟨rfl, 0, rfl⟩
set_option maxRecDepth 100000 in
theorem amongCtrl_fn {w : World} {b : Nat} {k : Int} (h : w.cell? ⟨b, 0, none⟩ = some (.int .i64 k)) (hb : b < w.heap.size) : PredAt Tryd.prog 49 #[pbox b] encR (fun x => ctrlN (IntKind.u8.wrap (x : Int)) == k) w := by
  intro W x hw
  have c0 := (hw.cell (p := ⟨b, 0, none⟩) hb).trans h
  have hwr : 0 ≤ IntKind.u8.wrap (x : Int) ∧ IntKind.u8.wrap (x : Int) < 256 := by
    unfold IntKind.wrap
    simp [IntKind.signed, IntKind.bits]
    omega
  have HC := Lib.hid (ctrl_of (IntKind.u8.wrap (x : Int)) hwr.1 hwr.2 W.drew)
  have c0' : W.drew.cell? ⟨b, 0, none⟩ = some (.int .i64 k) := c0
  clear hw h hb
  show Calls Tryd.prog 49 #[.int .i32 (x : Int), pbox b] W _
  go_enter Tryd.func49, Tryd.ntmps49
  go_wp2_with fail
  go_region_with (first
    | (go_at_call 50
       refine HC.out.mono ?_
       rintro e w2 ⟨rfl, q, rfl⟩))
  all_goals
    go_wp2_with fail
    go_ret
    exact ⟨rfl, _, rfl⟩

/-- ContainsFunc. -/
theorem contains_of {g b : Nat} (eg : ∀ args w, (callFunc g args).run Tryd.prog w = .ok (.enter g args) w) {p : Nat → Bool} {s : ByteArray} {w : World} (hp : PredAt Tryd.prog g #[pbox b] encR p w) (hs : ∀ c ∈ s.data.toList, c.toNat < 128) :
    Calls Tryd.prog 46 #[.string s, .func (.func g) #[] #[pbox b]] w fun e w' => e = .returned (.bool (anyB p s)) ∧ Below w.heap.size w w' := by
  have HS := Lib.hid (Tryd.strings_indexFunc g #[pbox b] eg p true s w hp)
  have HI : Hid (Calls Tryd.prog 54 #[.string s, .func (.func g) #[] #[pbox b]] w fun e w' => e = .returned (.int .i64 (Lib.idxFunc p true s)) ∧ Below w.heap.size w w') := by
    show Calls _ _ _ _ _
    clear hp eg
    go_enter Tryd.func54, Tryd.ntmps54
    go_wp2_with fail
    refine HS.out.mono ?_; rintro e w1 ⟨rfl, b1⟩
    have b1 := Lib.hid b1
    go_wp2_with fail
    go_ret
    exact ⟨rfl, b1.out⟩
  rw [← idx_any p s hs]
  clear HS hp eg hs
  go_enter Tryd.func46, Tryd.ntmps46
  go_wp2_with fail
  refine HI.out.mono ?_; rintro e w1 ⟨rfl, b1⟩
  have b1 := Lib.hid b1
  go_wp2_with fail
  go_ret
  exact ⟨rfl, b1.out⟩

theorem amongB {s : ByteArray} {k : Int} {b : Bool} (hs : (s.data.toList.all fun c => decide (c.toNat < 128)) = true) (h : inS s k = b) (w : World) :
    Calls Tryd.prog 32 #[.string s, .int .i64 k] w fun e w' => e = .returned (.bool b) ∧ Below w.heap.size w w' := by
  have al := t_al w (.cells #[.int .i64 k] 3)
  have hc : (w.alloc (.cells #[.int .i64 k] 3)).cell? ⟨w.heap.size, 0, none⟩ = some (.int .i64 k) := by rw [cell_at (heap_alloc_new w _)]; rfl
  have hs' : ∀ c ∈ s.data.toList, c.toNat < 128 := fun c hc => by simpa using List.all_eq_true.1 hs c hc
  have HC := contains_of (enters_of Tryd.func47 rfl rfl) (among_fn hc (by simp)) hs'
  have e : anyB (fun x => wrap64 (x : Int) == k) s = b := by
    rw [← h]
    refine anyB_congr fun c hc => ?_
    have := hs' c hc
    have e : wrap64 (c.toNat : Int) = (c.toNat : Int) := by unfold wrap64; omega
    simp only [e]
    rfl
  rw [e] at HC
  have HC := Lib.hid HC
  have HB := Lib.hid al
  clear hs hs' h e al hc
  go_enter Tryd.func32, Tryd.ntmps32
  go_wp2_with fail
  refine HC.out.mono ?_; rintro e w1 ⟨rfl, b1⟩
  have b1 := Lib.hid (HB.out.trans (b1.mono HB.out.size))
  go_wp2_with fail
  go_ret
  exact ⟨rfl, b1.out⟩

/-- Is a key that of Ctrl and one of some letters? -/
def inC (s : ByteArray) (k : Int) : Bool := s.data.toList.any fun b => decide (ctrlN (b.toNat : Int) = k)
theorem amongC {s : ByteArray} {k : Int} {b : Bool} (hs : (s.data.toList.all fun c => decide (c.toNat < 128)) = true) (h : inC s k = b) (w : World) :
    Calls Tryd.prog 41 #[.string s, .int .i64 k] w fun e w' => e = .returned (.bool b) ∧ Below w.heap.size w w' := by
  have al := t_al w (.cells #[.int .i64 k] 3)
  have hc : (w.alloc (.cells #[.int .i64 k] 3)).cell? ⟨w.heap.size, 0, none⟩ = some (.int .i64 k) := by rw [cell_at (heap_alloc_new w _)]; rfl
  have hs' : ∀ c ∈ s.data.toList, c.toNat < 128 := fun c hc => by simpa using List.all_eq_true.1 hs c hc
  have HC := contains_of (enters_of Tryd.func49 rfl rfl) (amongCtrl_fn hc (by simp)) hs'
  have e : anyB (fun x => ctrlN (IntKind.u8.wrap (x : Int)) == k) s = b := by
    rw [← h]
    refine anyB_congr fun c hc => ?_
    have := hs' c hc
    have e : IntKind.u8.wrap (c.toNat : Int) = (c.toNat : Int) := by
      unfold IntKind.wrap
      simp [IntKind.signed, IntKind.bits]
      omega
    simp only [e]
    rfl
  rw [e] at HC
  have HC := Lib.hid HC
  have HB := Lib.hid al
  clear hs hs' h e al hc
  go_enter Tryd.func41, Tryd.ntmps41
  go_wp2_with fail
  refine HC.out.mono ?_; rintro e w1 ⟨rfl, b1⟩
  have b1 := Lib.hid (HB.out.trans (b1.mono HB.out.size))
  go_wp2_with fail
  go_ret
  exact ⟨rfl, b1.out⟩
end Go.Proofs.YtjmpokgdgnjojaaDoor
