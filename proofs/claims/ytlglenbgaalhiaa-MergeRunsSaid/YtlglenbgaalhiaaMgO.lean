/-
  The contract of merge.Perm, at this seat's numbers.
-/
import Derived.Test.YtlglenbgaalhiaaMgN
import Derived.Test.YtlglenbgaalhiaaMgL
namespace Go.Proofs.Ytlglenbgaalhiaa
open Go Go.RowKit
set_option linter.unusedVariables false

/-- The places up to k, then noughts. -/
def upC (n k : Nat) : List Value := nums (upTo k) ++ List.replicate (n - k) (.int .i64 0)
theorem upC_len {n k : Nat} (h : k ≤ n) : (upC n k).length = n := by unfold upC; rw [List.length_append, nums_len, upTo_len, List.length_replicate]; omega
theorem upC_set {n k : Nat} (h : k < n) : (upC n k).set k (.int .i64 (k : Int)) = upC n (k + 1) := by
  unfold upC
  rw [show n - k = n - (k + 1) + 1 by omega, List.replicate_succ, List.set_append_right _ _ (by rw [nums_len, upTo_len]; exact Nat.le_refl _), nums_len, upTo_len, Nat.sub_self, List.set_cons_zero]
  have : upTo (k + 1) = upTo k ++ [(k : Int)] := by unfold upTo; rw [List.range_succ, List.map_append]; rfl
  rw [this, ← nums_app]
  simp [nums]
theorem upC_at {n k : Nat} (h : k < n) : (upC n k)[k]? = some (.int .i64 0) := by
  unfold upC
  rw [List.getElem?_append_right (by rw [nums_len, upTo_len]; exact Nat.le_refl _), nums_len, upTo_len, Nat.sub_self, List.getElem?_replicate, if_pos (by omega)]

/-- The closure as a comparison of places. -/
theorem cv_perm {W : World} {q r : Nat} {fv : Value} {D : Int → Prop} {c : Int → Int → Int} {a : Option Addr} {ca : Nat} (l : List Int) (hC : Cv W fv D c) (hq : W.cell? ⟨q, 0, none⟩ = some fv) (hr : W.cell? ⟨r, 0, none⟩ = some (.slice a l.length ca)) (hql : q < W.heap.size) (hrl : r < W.heap.size) (hT : Sl W a ca (nums l)) (hD : ∀ x ∈ l, D x) :
    Cv W (.func (.func 21) #[] #[.pointer (some ⟨q, 0, none⟩), .pointer (some ⟨r, 0, none⟩)]) (fun x => ∃ i : Nat, x = i ∧ i < l.length) (cmpAt c l) := by
  refine ⟨21, _, rfl, callf_of (f := Try.f21) (by kernel_rfl) (of_decide_eq_true (by kernel_rfl)) (by intro h; cases h), fun w x y hb hx hy => ?_⟩
  obtain ⟨i, rfl, hi⟩ := hx
  obtain ⟨j, rfl, hj⟩ := hy
  exact pcmp_of l hC hb hq hr hql hrl hT hD i j hi hj

set_option maxRecDepth 100000 in
set_option maxHeartbeats 4000000 in
theorem perm_of {w : World} {fv : Value} {D : Int → Prop} {c : Int → Int → Int} {a : Option Addr} {ca : Nat} (l : List Int) (hC : Cv w fv D c) (hM : Cm c) (hT : Sl w a ca (nums l)) (hD : ∀ x ∈ l, D x) (hn : l.length ≤ 100000) :
    Calls Try.prog 9 #[.slice a l.length ca, fv] w (NPost (sortL (cmpAt c l) (upTo l.length)) w) := by
  obtain ⟨i0, hi0, hz0, hz1, hz2⟩ := info_parts info_int
  obtain ⟨n, hnn⟩ : ∃ n, l.length = n := ⟨_, rfl⟩
  have HC := Lib.hid hC
  have HCM := Lib.hid hM
  have HT := Lib.hid hT
  have HD := Lib.hid hD
  have HN := Lib.hid hnn
  rw [hnn] at hn ⊢
  have hmf : ∀ (fn : Fn) (first cap : Array Value) (w : World), (Instr.makeFunc fn first cap).run Try.prog w = .ok (.func fn first cap) w := fun _ _ _ _ => rfl
  obtain ⟨kf, capf, rfl, hcf, hcall⟩ := HC.out
  obtain ⟨w1, hw1, hb1, hz1', hA1, hB1⟩ := two_new w (.cells #[.slice a n ca] 22) (.cells #[.func (.func kf) #[] capf] 25)
  have c0 : w1.cell? ⟨w.heap.size, 0, none⟩ = some (.slice a n ca) := by rw [cell_at hA1]; rfl
  have c1 : w1.cell? ⟨w.heap.size + 1, 0, none⟩ = some (.func (.func kf) #[] capf) := by rw [cell_at hB1]; rfl
  have hl0 : w.heap.size < w1.heap.size := by omega
  have hl1 : w.heap.size + 1 < w1.heap.size := by omega
  have HB1 := Lib.hid hb1
  clear hC hM hT hD hnn hcf hcall hb1 hA1 hB1 hz1'
  go_enter Try.func9, Try.ntmps9
  go_wp2_with (at_make; refine wpList_make_full _ rfl _ _ 22 rfl w.heap.size 3 i0 (.int .i64 0) 1 Try.underlying22 hi0 hz0 hz1 .i64 .i64 _ _ n rfl rfl rfl rfl ?b2 ?b3 ?b4 ?_)
  case b2 => rw [hz2]; omega
  case b3 => unfold maxLen; omega
  case b4 => first | omega | (rw [hw1]; omega) | exact HB1.out.size | (simp; done)
  intro w2 ho2 hg2
  try rw [hw1] at ho2 hg2 ⊢
  obtain ⟨G, hG⟩ : ∃ G, w1.heap.size = G := ⟨_, rfl⟩
  rw [hG] at ho2 ⊢
  have hcur : w2.heap[G]? = some (.cells (upC n 0).toArray 3 (0, 0)) := by
    rcases ho2.2 with ⟨h1, _⟩ | ⟨g', cap, cur, h1, _, h3, h4, _, h6, h7⟩
    · cases h1
    · simp only [Value.slice.injEq, Option.some.injEq, Addr.mk.injEq, and_true, true_and] at h1
      obtain ⟨rfl, rfl⟩ := h1
      rw [h3]
      have : cur.toList = upC n 0 := by
        rw [zeros_eq, List.take_of_length_le (by rw [Array.length_toList, h6]; exact Nat.le_refl _)] at h7
        rw [h7]; unfold upC; simp [upTo, nums]
      rw [← this]
  have hb2 : Below w1.heap.size w1 w2 := (Below.refl _ _).grown hg2 (Nat.le_refl _) (fun q hq => by cases hq)
  have HCur := Lib.hid hcur
  have HB2 := Lib.hid hb2
  have HG := Lib.hid hG
  clear ho2 hg2 hcur hb2
  go_wp2_with fail
  go_loopw [12] (fun v12 wr => ∃ k : Nat, v12 = .int .i64 k ∧ k ≤ n ∧ wr.heap[G]? = some (.cells (upC n k).toArray 3 (0, 0)) ∧ Below w1.heap.size w1 wr) (fun v12 _ => n - (intOf v12).toNat)
  case atStart => exact ⟨0, rfl, by omega, HCur.out, HB2.out⟩
  case round =>
    obtain ⟨wq, rfl⟩ : ∃ wq : World, wq = wr := ⟨_, rfl⟩
    obtain ⟨k, rfl, hk, hh, hb⟩ := hrel
    have HH := Lib.hid hh
    have HB := Lib.hid hb
    clear hh hb
    by_cases hlt : k < n
    · have dk : decide (k < n) = true := decide_eq_true hlt
      have cG : wq.cell? ⟨G, k, none⟩ = some (.int .i64 0) := by rw [cell_at HH.out, List.getElem?_toArray]; exact upC_at hlt
      have fG := unfrozen HH.out k
      have e0 : (0 : Int) ≤ (k : Int) := by omega
      have e1 : (k : Int) < (n : Int) := by omega
      have HH2 : Hid ((wq.setCell ⟨G, k, none⟩ (.int .i64 (k : Int))).heap[G]? = some (.cells (upC n (k + 1)).toArray 3 (0, 0))) := Lib.hid (by
        rw [heap_set_at HH.out, List.setIfInBounds_toArray, upC_set hlt])
      have HB3 : Hid (Below w1.heap.size w1 (wq.setCell ⟨G, k, none⟩ (.int .i64 (k : Int)))) := Lib.hid (HB.out.setCell (p := ⟨G, k, none⟩) (by rw [HG.out]; exact Nat.le_refl _) _)
      go_wp2_with fail
      go_roundw
      case rel => exact ⟨k + 1, by go_num, by omega, HH2.out, HB3.out⟩
      case measure => simp [intOf]; omega
    · have dk : decide (k < n) = false := decide_eq_false hlt
      have hkn : k = n := by omega
      subst hkn
      have hup : upC k k = nums (upTo k) := by unfold upC; rw [Nat.sub_self, List.replicate_zero, List.append_nil]
      have hHH := HH.out
      rw [hup] at hHH
      have hbw : Below w.heap.size w wq := HB1.out.trans (HB.out.mono HB1.out.size)
      have hSl := Sl.new hHH (by rw [nums_len, upTo_len]; unfold maxLen; omega) (nums_one _)
      rw [nums_len, upTo_len] at hSl
      have hcv := cv_perm (W := wq) (q := w.heap.size + 1) (r := w.heap.size) (a := a) (ca := ca) l (HC.out.below hbw) ((HB.out.cell (p := ⟨w.heap.size + 1, 0, none⟩) hl1).trans c1) (by rw [HN.out]; exact (HB.out.cell (p := ⟨w.heap.size, 0, none⟩) hl0).trans c0) (Nat.lt_of_lt_of_le hl1 HB.out.size) (Nat.lt_of_lt_of_le hl0 HB.out.size) (HT.out.below hbw) HD.out
      have hS := msort_of (upTo k) hcv (cmpAt_cm HCM.out l) hSl (fun x hx => by
        obtain ⟨i, h1, h2⟩ := upTo_mem hx
        exact ⟨i, h1, by rw [HN.out]; exact h2⟩) (by rw [upTo_len]; exact hn)
      rw [upTo_len] at hS
      have HS := Lib.hid hS
      have HBW := Lib.hid hbw
      clear hup hHH hbw hSl hcv hS
      go_wp2_with fail
      refine HS.out.mono ?_; rintro e w4 ⟨a4, c4, rfl, ho4, hb4⟩
      have HO4 := Lib.hid (own_mono ho4 HBW.out.size)
      have HB4 := Lib.hid (HBW.out.trans (hb4.mono HBW.out.size))
      clear ho4 hb4 HS
      go_wp2_with fail
      go_ret
      exact ⟨a4, c4, rfl, HO4.out, HB4.out⟩

end Go.Proofs.Ytlglenbgaalhiaa
