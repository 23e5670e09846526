/-
  Same; Pop and New of a queue; like: does a queue have a row's numbers, at this seat's numbers.
-/
import Derived.Test.YtmjlmciocockpaaLfG
import Derived.Test.YtmjlmciocockpaaLfN
namespace Go.Proofs.Ytmjlmciocockpaa
open Go Go.RowKit
set_option linter.unusedVariables false

theorem take_more {l m : List Int} {k : Nat} {x : Int} (h1 : l[k]? = some x) (h2 : m[k]? = some x) (h : l.take k = m.take k) : l.take (k + 1) = m.take (k + 1) := by
  rw [List.take_add_one, List.take_add_one, h1, h2, h]
theorem pop_none {w : World} {v : Value} (h : Qv w v []) : Calls Try.prog 92 #[v] w fun e w' => e = .returned (.tuple #[.int .i64 0, .bool false]) ∧ Below w.heap.size w w' := by
  have HT := top_of h (by simp)
  have e0 : gN [] 0 = 0 := rfl
  rw [e0] at HT
  have HT := Lib.hid HT
  clear h
  go_enter Try.func92, Try.ntmps92
  go_wp2_with fail
  refine HT.out.mono ?_; rintro e w1 ⟨rfl, hb⟩
  have HB := Lib.hid hb
  clear hb HT
  go_wp2_with fail
  refine bodyPost_ret (v := .tuple #[.int .i64 0, .bool false]) (by simp [results, Try.results92, go_sem]) rfl ⟨rfl, HB.out⟩
set_option maxHeartbeats 4000000 in
theorem pop_some {w : World} {q : Nat} {t : Qt} {R : List Int} (h : QIn w q t R) (hR : R.length ≤ 1000000) (h0 : 0 < R.length) :
    Calls Try.prog 92 #[pbox q] w fun e w' => e = .returned (.tuple #[.int .i64 (gN R 0), .bool true]) ∧ ∃ t' R', QIn w' q t' R' ∧ (gN R 0 :: R').Perm R ∧ Mq q t t' w w' := by
  have HT := top_of (v := pbox q) (.inr ⟨q, t, rfl, h⟩) hR
  rw [decide_eq_true h0] at HT
  have HT := Lib.hid HT
  have HQ := Lib.hid h
  have HM := Lib.hid (gN_mem h0)
  generalize gN R 0 = x at *
  clear h
  go_enter Try.func92, Try.ntmps92
  go_wp2_with fail
  refine HT.out.mono ?_; rintro e w1 ⟨rfl, hb⟩
  have HD := Lib.hid (drop_yes (HQ.out.below hb) hR HM.out)
  have HB := Lib.hid hb
  clear hb HT
  go_wp2_with fail
  refine HD.out.mono ?_; rintro e w2 ⟨rfl, t', R', h1, h2, h3⟩
  have HF := Lib.hid (And.intro h1 (And.intro h2 ((Mq.of_below HB.out).trans h3)))
  clear h1 h2 h3 HD
  go_wp2_with fail
  refine bodyPost_ret (v := .tuple #[.int .i64 x, .bool true]) (by simp [results, Try.results92, go_sem]) rfl ⟨rfl, t', R', HF.out⟩

def setL (l : List Int) : List Int := l.foldl putS []
theorem setL_snoc (l : List Int) (x : Int) : setL (l ++ [x]) = putS (setL l) x := by unfold setL; rw [List.foldl_append]; rfl
theorem setL_rise (l : List Int) : Rise (setL l) := by
  unfold setL
  suffices ∀ (l s : List Int), Rise s → Rise (l.foldl putS s) from this l [] List.Pairwise.nil
  intro l
  induction l with
  | nil => exact fun s h => h
  | cons x l ih => exact fun s h => ih _ (put_rise h)
theorem setL_len (l : List Int) : (setL l).length ≤ l.length := by
  unfold setL
  suffices ∀ (l s : List Int), (l.foldl putS s).length ≤ s.length + l.length by have := this l []; simpa using this
  intro l
  induction l with
  | nil => exact fun s => Nat.le_refl _
  | cons x l ih => intro s; have h1 := ih (putS s x); have h2 := put_len s x; simp only [List.foldl_cons, List.length_cons]; omega
theorem setL_mem {l : List Int} {x : Int} : x ∈ setL l ↔ x ∈ l := by
  unfold setL
  suffices ∀ (l s : List Int), x ∈ l.foldl putS s ↔ x ∈ s ∨ x ∈ l by have := this l []; simpa using this
  intro l
  induction l with
  | nil => intro s; simp
  | cons y l ih =>
    intro s
    rw [List.foldl_cons, ih, (put_perm s y).mem_iff]
    split
    · rename_i hy
      constructor
      · rintro (h | h)
        · exact .inl h
        · exact .inr (by simp [h])
      · rintro (h | h)
        · exact .inl h
        · rcases List.mem_cons.1 h with rfl | h
          · exact .inl hy
          · exact .inr h
    · simp only [List.mem_cons]
      constructor
      · rintro ((h | h) | h)
        · exact .inr (.inl h)
        · exact .inl h
        · exact .inr (.inr h)
      · rintro (h | h | h)
        · exact .inl (.inr h)
        · exact .inl (.inl h)
        · exact .inr h

theorem perm_put {R L R' : List Int} {x : Int} (hp : R.Perm L) (h : R'.Perm (if x ∈ R then R else x :: R)) : R'.Perm (putS L x) := by
  refine h.trans (List.Perm.trans ?_ (put_perm L x).symm)
  by_cases hx : x ∈ R
  · rw [if_pos hx, if_pos (hp.mem_iff.1 hx)]; exact hp
  · rw [if_neg hx, if_neg (fun e => hx (hp.mem_iff.2 e))]; exact hp.cons x

theorem inq_none {q : Nat} : ∀ b, inQ q none b → q ≤ b := fun b hb => by
  rcases hb with rfl | ⟨p, m, g, e, _⟩
  · exact Nat.le_refl _
  · cases e
set_option maxRecDepth 100000 in
set_option maxHeartbeats 4000000 in
theorem new_of {w : World} {a : Option Addr} {c : Nat} {l : List Int} (H : Sl w a c (nums l)) (hn : l.length ≤ 1000) (hw : ∀ x ∈ l, Wf x) :
    Calls Try.prog 42 #[.slice a l.length c] w fun e w' => ∃ q t R, e = .returned (pbox q) ∧ QIn w' q t R ∧ R.Perm (setL l) ∧ (∀ b, inQ q t b → w.heap.size ≤ b) ∧ Below w.heap.size w w' := by
  obtain ⟨n, hnn⟩ : ∃ n, l.length = n := ⟨_, rfl⟩
  have HN := Lib.hid hnn
  have HS := Lib.hid H
  have HW := Lib.hid hw
  rw [hnn] at hn ⊢
  clear hnn H hw
  have h0 : QIn (w.alloc (.cells #[.pointer none] 75)) w.heap.size none [] := ⟨heap_alloc_new _ _, rfl⟩
  have b0 : Below w.heap.size w (w.alloc (.cells #[.pointer none] 75)) := t_al _ _
  have H0 := Lib.hid (And.intro h0 b0)
  clear h0 b0
  go_enter Try.func42, Try.ntmps42
  go_wp2_with fail
  go_loopw [10] (fun v10 wr => ∃ (k : Nat) (t : Qt) (R : List Int), v10 = .int .i64 k ∧ k ≤ n ∧ QIn wr w.heap.size t R ∧ R.Perm (setL (l.take k)) ∧ (∀ b, inQ w.heap.size t b → w.heap.size ≤ b) ∧ Below w.heap.size w wr) (fun v10 _ => n - (intOf v10).toNat)
  case atStart => exact ⟨0, none, [], rfl, by omega, H0.out.1, by simp [setL], inq_none, H0.out.2⟩
  case round =>
    obtain ⟨wq, rfl⟩ : ∃ wq : World, wq = wr := ⟨_, rfl⟩
    obtain ⟨k, t, R, rfl, hk, hqi, hp, hba, hb⟩ := hrel
    have HB := Lib.hid hb
    have HA := Lib.hid (And.intro hqi (And.intro hp hba))
    by_cases hlt : k < n
    · have dk : decide (k < n) = true := decide_eq_true hlt
      obtain ⟨g, o, rfl⟩ := HS.out.numsome (by rw [HN.out]; omega)
      obtain ⟨y, hy⟩ : ∃ y, l[k]? = some y := ⟨_, List.getElem?_eq_getElem (by rw [HN.out]; exact hlt)⟩
      have c0 := ((HS.out.below HB.out).num hy).1
      have e0 : (0 : Int) ≤ (k : Int) := by omega
      have e1 : (k : Int) < (n : Int) := by omega
      have hRl : R.length < 1000000 := by
        rw [hp.length_eq]
        have := setL_len (l.take k)
        rw [List.length_take] at this; omega
      have HP := Lib.hid (put_of hqi hRl (HW.out y (List.mem_of_getElem? hy)))
      have HY : Hid (setL (l.take (k + 1)) = putS (setL (l.take k)) y) := Lib.hid (by rw [← take_snoc hy, setL_snoc])
      generalize (!decide (y ∈ R)) = bb at HP
      clear hy hqi hp hba hb hRl
      go_wp2_with fail
      refine HP.out.mono ?_; rintro e w1 ⟨rfl, t', R', h1, h2, h3⟩
      have HF : Hid (QIn w1 w.heap.size t' R' ∧ R'.Perm (setL (l.take (k + 1))) ∧ (∀ b, inQ w.heap.size t' b → w.heap.size ≤ b) ∧ Below w.heap.size w w1) := Lib.hid ⟨h1, by rw [HY.out]; exact perm_put HA.out.2.1 h2, h3.base HA.out.2.2 HB.out.size, HB.out.trans (h3.below HA.out.2.2 HB.out.size)⟩
      clear h1 h2 h3 HP
      go_wp2_with fail
      go_roundw
      case rel => exact ⟨k + 1, t', R', by go_num, by omega, HF.out⟩
      case measure => simp [intOf]; omega
    · obtain rfl : k = n := by omega
      have dk : decide (k < k) = false := by simp
      have HT : Hid (l.take k = l) := Lib.hid (List.take_of_length_le (by rw [HN.out]; exact Nat.le_refl _))
      clear hqi hp hba hb
      go_wp2_with fail
      go_ret
      exact ⟨_, t, R, rfl, HA.out.1, by have := HA.out.2.1; rwa [HT.out] at this, HA.out.2.2, HB.out⟩
end Go.Proofs.Ytmjlmciocockpaa
