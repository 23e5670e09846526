/-
  The contract of merge.Turn, at this seat's numbers.
-/
import Derived.Test.YtlglenbgaalhiaaMgL
namespace Go.Proofs.Ytlglenbgaalhiaa
open Go Go.RowKit
set_option linter.unusedVariables false

theorem count_turn (P : List Int) (v : Nat) (x y : Int) (hv : v < P.length) (h : P.getD v 0 = y) (hx : x ≠ y) : (P.set v x).count y + 1 = P.count y := by
  induction P generalizing v with
  | nil => simp at hv
  | cons z P ih =>
    cases v with
    | zero =>
      simp only [List.getD_cons_zero] at h
      subst h
      simp [hx]
    | succ v =>
      simp only [List.getD_cons_succ] at h
      have h1 := ih v (by simpa using hv) h
      simp only [List.set_cons_succ, List.count_cons]
      omega

/-- Each number from 0 to ahead of how many there are stands there once. -/
def GoodP (l : List Int) : Prop := (∀ k, k < l.length → ∃ v : Nat, v < l.length ∧ l.getD k 0 = (v : Int)) ∧ (∀ j k, j < l.length → k < l.length → l.getD j 0 = l.getD k 0 → j = k)
def TPost (l : List Int) (w : World) (e : Ending) (w' : World) : Prop :=
  (∃ a c P, e = .returned (.tuple #[.slice a P.length c, .bool true]) ∧ P.length = l.length ∧ Sl w' a c (nums P) ∧ Below w.heap.size w w' ∧ GoodP l ∧ ∀ i, i < l.length → ∃ j : Nat, j < l.length ∧ P.getD i 0 = (j : Int) ∧ l.getD j 0 = (i : Int)) ∨
  (e = .returned (.tuple #[.slice none 0 0, .bool false]) ∧ ¬ GoodP l ∧ Below w.heap.size w w')

/-- Where Turn stands. -/
structure Tu (l P : List Int) (n k : Nat) : Prop where
  len : P.length = n
  was : ∀ j, j < k → ∃ v : Nat, v < n ∧ l.getD j 0 = (v : Int) ∧ P.getD v 0 = (j : Int)
  is : ∀ v, v < n → P.getD v 0 = -1 ∨ ∃ j : Nat, j < k ∧ P.getD v 0 = (j : Int) ∧ l.getD j 0 = (v : Int)
  left : P.count (-1) = n - k
theorem getD_set (P : List Int) (v i : Nat) (x : Int) (hv : v < P.length) : (P.set v x).getD i 0 = if i = v then x else P.getD i 0 := by
  rw [List.getD_eq_getElem?_getD, List.getElem?_set]
  by_cases h : v = i
  · subst h; simp [hv]
  · rw [if_neg h, if_neg (fun e => h e.symm), List.getD_eq_getElem?_getD]
theorem Tu.start (l : List Int) (n : Nat) : Tu l (List.replicate n (-1)) n 0 := by
  refine ⟨by simp, fun j hj => absurd hj (by omega), fun v hv => .inl ?_, by simp⟩
  rw [List.getD_eq_getElem?_getD, List.getElem?_replicate, if_pos hv]; rfl
theorem Tu.step {l P : List Int} {n k v : Nat} (h : Tu l P n k) (hk : k < n) (hv : v < n) (hl : l.getD k 0 = (v : Int)) (hp : P.getD v 0 = -1) : Tu l (P.set v (k : Int)) n (k + 1) := by
  have hvP : v < P.length := by rw [h.len]; exact hv
  refine ⟨by rw [List.length_set]; exact h.len, fun j hj => ?_, fun i hi => ?_, ?_⟩
  · rcases Nat.lt_or_ge j k with hjk | hjk
    · obtain ⟨u, h1, h2, h3⟩ := h.was j hjk
      refine ⟨u, h1, h2, ?_⟩
      rw [getD_set _ _ _ _ hvP, if_neg (fun e => by subst e; rw [hp] at h3; omega)]; exact h3
    · have : j = k := by omega
      subst this
      exact ⟨v, hv, hl, by rw [getD_set _ _ _ _ hvP, if_pos rfl]⟩
  · rw [getD_set _ _ _ _ hvP]
    by_cases e : i = v
    · subst e; rw [if_pos rfl]; exact .inr ⟨k, by omega, rfl, hl⟩
    · rw [if_neg e]
      rcases h.is i hi with h1 | ⟨j, h1, h2⟩
      · exact .inl h1
      · exact .inr ⟨j, by omega, h2⟩
  · have h1 := count_turn P v (k : Int) (-1) hvP hp (by omega)
    rw [h.left] at h1
    omega
theorem Tu.done {l P : List Int} {n : Nat} (h : Tu l P n n) (hn : l.length = n) : GoodP l ∧ ∀ i, i < l.length → ∃ j : Nat, j < l.length ∧ P.getD i 0 = (j : Int) ∧ l.getD j 0 = (i : Int) := by
  subst hn
  refine ⟨⟨fun k hk => ?_, fun j k hj hk he => ?_⟩, fun i hi => ?_⟩
  · obtain ⟨v, h1, h2, _⟩ := h.was k hk
    exact ⟨v, h1, h2⟩
  · obtain ⟨v, _, h2, h3⟩ := h.was j hj
    obtain ⟨u, _, k2, k3⟩ := h.was k hk
    rw [h2, k2] at he
    have : v = u := by omega
    subst this
    omega
  · rcases h.is i hi with h1 | ⟨j, h1, h2, h3⟩
    · have h2 := h.left
      rw [Nat.sub_self] at h2
      have h3 := List.count_eq_zero.1 h2
      refine absurd ?_ h3
      rw [← h1, List.getD_eq_getElem?_getD, List.getElem?_eq_getElem (by rw [h.len]; exact hi)]
      exact List.getElem_mem _
    · exact ⟨j, h1, h2, h3⟩

set_option maxRecDepth 100000 in
set_option maxHeartbeats 4000000 in
theorem turn_of {w : World} {a : Option Addr} {c : Nat} (l : List Int) (H : Sl w a c (nums l)) (hn : l.length ≤ 1000000) :
    Calls Try.prog 14 #[.slice a l.length c] w (TPost l w) := by
  have al := t_al w (.cells #[.int .i64 (-1)] 3)
  have HR := Lib.hid (repeat_of (-1) l.length (heap_alloc_new w (.cells #[.int .i64 (-1)] 3)) hn)
  have HAL := Lib.hid al
  obtain ⟨n, hnn⟩ : ∃ n, l.length = n := ⟨_, rfl⟩
  have HN := Lib.hid hnn
  have HS := Lib.hid H
  rw [hnn] at hn HR ⊢
  clear hnn H al
  go_enter Try.func14, Try.ntmps14
  go_wp2_with fail
  refine HR.out.mono ?_; rintro e w1 ⟨a1, c1, rfl, ho, hb⟩
  rw [List.length_replicate] at ho ⊢
  have HO1 := Lib.hid (own_mono ho HAL.out.size)
  have HB1 := Lib.hid (HAL.out.trans (hb.mono HAL.out.size))
  clear ho hb HR
  go_wp2_with fail
  go_loopw [13] (fun v13 wr => ∃ (k : Nat) (P : List Int), v13 = .int .i64 k ∧ k ≤ n ∧ Tu l P n k ∧ wr.ownsRow w.heap.size 3 1 (.slice a1 n c1) n (nums P) ∧ Below w.heap.size w wr) (fun v13 _ => n - (intOf v13).toNat)
  case atStart => exact ⟨0, List.replicate n (-1), rfl, by omega, Tu.start l n, HO1.out, HB1.out⟩
  case round =>
    obtain ⟨wq, rfl⟩ : ∃ wq : World, wq = wr := ⟨_, rfl⟩
    obtain ⟨k, P, rfl, hk, ht, ho, hb⟩ := hrel
    have HT := Lib.hid ht
    have HO := Lib.hid ho
    have HB := Lib.hid hb
    clear ht ho hb
    by_cases hlt : k < n
    · have dk : decide (k < n) = true := decide_eq_true hlt
      obtain ⟨g, o, rfl⟩ := HS.out.numsome (by rw [HN.out]; omega)
      obtain ⟨x, hx⟩ : ∃ x, l[k]? = some x := ⟨_, List.getElem?_eq_getElem (by rw [HN.out]; exact hlt)⟩
      have c0 := ((HS.out.below HB.out).num hx).1
      have hgd : l.getD k 0 = x := by rw [List.getD_eq_getElem?_getD, hx]; rfl
      have e0 : (0 : Int) ≤ (k : Int) := by omega
      have e1 : (k : Int) < (n : Int) := by omega
      have HGD := Lib.hid hgd
      clear hx hgd
      by_cases q1 : x < 0
      · have d1 : decide (x < 0) = true := decide_eq_true q1
        have HBad : Hid (¬ GoodP l) := Lib.hid (fun h => by
          obtain ⟨v, _, h2⟩ := h.1 k (by rw [HN.out]; exact hlt)
          rw [HGD.out] at h2; omega)
        go_wp2_with fail
        go_ret2
        exact .inr ⟨rfl, HBad.out, HB.out⟩
      · have d1 : decide (x < 0) = false := decide_eq_false q1
        by_cases q2 : (n : Int) ≤ x
        · have d2 : decide ((n : Int) ≤ x) = true := decide_eq_true q2
          have HBad : Hid (¬ GoodP l) := Lib.hid (fun h => by
            obtain ⟨v, h1, h2⟩ := h.1 k (by rw [HN.out]; exact hlt)
            rw [HN.out] at h1
            rw [HGD.out] at h2; omega)
          go_wp2_with fail
          go_ret2
          exact .inr ⟨rfl, HBad.out, HB.out⟩
        · obtain ⟨v, rfl⟩ : ∃ v : Nat, x = v := ⟨x.toNat, by omega⟩
          have hv : v < n := by omega
          have d2 : decide ((n : Int) ≤ (v : Int)) = false := decide_eq_false (by omega)
          have d2' : decide (n ≤ v) = false := decide_eq_false (by omega)
          rcases t_form HO.out with ⟨_, h0, _⟩ | ⟨G, rfl, hGB, hGl, _, _⟩
          · omega
          · have hcv := HO.out.cellAt v (by omega)
            have hfv := HO.out.frozenAt v
            have hPv : (nums P)[v]? = some (.int .i64 (P.getD v 0)) := by
              refine nums_at ?_
              rw [List.getD_eq_getElem?_getD, List.getElem?_eq_getElem (by rw [HT.out.len]; exact hv)]; rfl
            rw [hPv] at hcv
            have f0 : (0 : Int) ≤ (v : Int) := by omega
            have f1 : (v : Int) < (n : Int) := by omega
            by_cases q3 : P.getD v 0 = -1
            · have HP := Lib.hid q3
              rw [q3] at hcv
              have q4 : ((-1 : Int) == -1) = true := by decide
              have HT2 := Lib.hid (HT.out.step hlt hv HGD.out q3)
              have HO2 := Lib.hid (HO.out.stored v (.int .i64 (k : Int))).1
              have HO3 : Hid ((wq.setCell ⟨G, v, none⟩ (.int .i64 (k : Int))).ownsRow w.heap.size 3 1 (.slice (some ⟨G, 0, none⟩) n c1) n (nums (P.set v (k : Int)))) := Lib.hid (by
                have h := HO2.out
                unfold nums at h ⊢
                rw [List.map_set]; exact h)
              have HB3 : Hid (Below w.heap.size w (wq.setCell ⟨G, v, none⟩ (.int .i64 (k : Int)))) := Lib.hid (HB.out.setCell (p := ⟨G, v, none⟩) hGB _)
              clear q3 hPv
              go_wp2_with fail
              go_roundw
              case rel => exact ⟨k + 1, P.set v (k : Int), by go_num, by omega, HT2.out, HO3.out, HB3.out⟩
              case measure => simp [intOf]; omega
            · have q4 : (P.getD v 0 == -1) = false := by rw [beq_eq_false_iff_ne]; exact q3
              have HBad : Hid (¬ GoodP l) := Lib.hid (fun h => by
                rcases HT.out.is v hv with h1 | ⟨j, h1, h2, h3⟩
                · exact q3 h1
                · have h4 := h.2 j k (by rw [HN.out]; omega) (by rw [HN.out]; exact hlt) (by rw [h3, HGD.out])
                  omega)
              generalize P.getD v 0 = y at *
              clear q3 hPv
              go_wp2_with fail
              go_ret2
              exact .inr ⟨rfl, HBad.out, HB.out⟩
    · have dk : decide (k < n) = false := decide_eq_false hlt
      have hkn : k = n := by omega
      subst hkn
      have HDn := Lib.hid (HT.out.done HN.out)
      have HLn : Hid (P.length = k) := Lib.hid HT.out.len
      go_wp2_with fail
      go_ret2
      exact .inl ⟨a1, c1, P, by rw [HLn.out] <;> rfl, by rw [HLn.out, HN.out], own_sl HO.out (nums_one _), HB.out, HDn.out.1, HDn.out.2⟩

end Go.Proofs.Ytlglenbgaalhiaa
