/-
  The contracts of the document's Runs and Merge of layer 15, at this seat's numbers.
-/
import Derived.Test.YtlglenbgaalhiaaMgI
namespace Go.Proofs.Ytlglenbgaalhiaa
open Go Go.RowKit
set_option linter.unusedVariables false

theorem flatR_take {T : List RowM} {k : Nat} {p : RowM} (h : T[k]? = some p) : flatR (T.take (k + 1)) = flatR (T.take k) ++ p.2.2 := by
  rw [List.take_add_one, h, flatR_app]
  show _ ++ flatR [p] = _
  rw [flatR_cons]; simp [flatR]
theorem flatR_le {T : List RowM} {k : Nat} {p : RowM} (h : T[k]? = some p) : (flatR (T.take k)).length + p.2.2.length ≤ (flatR T).length := by
  have h1 : flatR T = flatR (T.take (k + 1)) ++ flatR (T.drop (k + 1)) := by rw [← flatR_app, List.take_append_drop]
  rw [h1, flatR_take h, List.length_append, List.length_append]; omega

set_option maxRecDepth 100000 in
set_option maxHeartbeats 4000000 in
theorem rmerge_of {w : World} {a : Option Addr} {ca : Nat} (T : List RowM) (hT : Rws w a ca T) (hD : ∀ p ∈ T, ∀ x ∈ p.2.2, Dm x) (hn : T.length ≤ 100000) (hf : (flatR T).length ≤ 900000) :
    Calls Try.prog 19 #[.slice a T.length ca] w (NPost (sortL cmpT (flatR T)) w) := by
  obtain ⟨i0, hi0, hz0, hz1, hz2⟩ := info_parts info_int
  obtain ⟨n, hnn⟩ : ∃ n, T.length = n := ⟨_, rfl⟩
  have HT := Lib.hid hT
  have HD := Lib.hid hD
  have HN := Lib.hid hnn
  have HF := Lib.hid hf
  rw [hnn] at hn ⊢
  clear hT hD hnn hf
  go_enter Try.func19, Try.ntmps19
  go_wp2_with fail
  go_loopw [3, 10] (fun v3 v10 wr => ∃ (k m : Nat) (a3 : Option Addr) (c3 : Nat), v3 = .slice a3 m c3 ∧ v10 = .int .i64 k ∧ k ≤ n ∧ m = (flatR (T.take k)).length ∧ wr.ownsRow w.heap.size 3 1 (.slice a3 m c3) m (nums (flatR (T.take k))) ∧ Below w.heap.size w wr) (fun _ v10 _ => n - (intOf v10).toNat)
  case atStart => exact ⟨0, 0, none, 0, rfl, rfl, by omega, by simp [flatR], t_nil _ _ _ _, Below.refl _ _⟩
  case round =>
    obtain ⟨wq, rfl⟩ : ∃ wq : World, wq = wr := ⟨_, rfl⟩
    obtain ⟨k, m, a3, c3, rfl, rfl, hk, hm, ho, hb⟩ := hrel
    have HO := Lib.hid ho
    have HB := Lib.hid hb
    have HM := Lib.hid hm
    clear ho hb hm
    by_cases hlt : k < n
    · have dk : decide (k < n) = true := decide_eq_true hlt
      obtain ⟨⟨pa, pc, pl⟩, hpk⟩ : ∃ p, T[k]? = some p := ⟨_, List.getElem?_eq_getElem (by rw [HN.out]; exact hlt)⟩
      obtain ⟨g, o, rfl, hgl, c0, hsl⟩ := (HT.out.below HB.out).at hpk
      have c0' : wq.cell? ⟨g, o + k, none⟩ = some (.slice pa pl.length pc) := c0
      have e0 : (0 : Int) ≤ (k : Int) := by omega
      have e1 : (k : Int) < (n : Int) := by omega
      have HFt := Lib.hid (flatR_take hpk)
      have hfl := flatR_le hpk
      have hml : m + pl.length ≤ 900000 := by rw [HM.out]; have := HF.out; exact Nat.le_trans hfl this
      have HSP := Lib.hid (HT.out.rd _ (List.mem_of_getElem? hpk))
      obtain ⟨F, hF⟩ : ∃ F, flatR (T.take k) = F := ⟨_, rfl⟩
      rw [hF] at HO HM HFt
      obtain ⟨q, hq⟩ : ∃ q, pl.length = q := ⟨_, rfl⟩
      have HQ := Lib.hid hq
      rw [hq] at c0' hml
      clear c0 hpk hsl hfl hF hq
      go_wp2_with fail
      go_loopw [3, 16] (fun v3 v16 wr => ∃ (j r : Nat) (a3 : Option Addr) (c3 : Nat), v3 = .slice a3 r c3 ∧ v16 = .int .i64 j ∧ j ≤ q ∧ r = m + j ∧ wr.ownsRow w.heap.size 3 1 (.slice a3 r c3) r (nums (F ++ pl.take j)) ∧ Below w.heap.size w wr) (fun _ v16 _ => q - (intOf v16).toNat)
      case atStart => exact ⟨0, m, a3, c3, rfl, rfl, by omega, by omega, by simpa using HO.out, HB.out⟩
      case round =>
        obtain ⟨wp, rfl⟩ : ∃ wp : World, wp = wr := ⟨_, rfl⟩
        obtain ⟨j, r, a4, c4, rfl, rfl, hj, hr, ho, hb⟩ := hrel
        have HO2 := Lib.hid ho
        have HB2 := Lib.hid hb
        clear ho hb
        by_cases hjt : j < q
        · have dj : decide (j < q) = true := decide_eq_true hjt
          obtain ⟨gp, op, rfl⟩ := HSP.out.numsome (by rw [HQ.out]; omega)
          obtain ⟨y, hy⟩ : ∃ y, pl[j]? = some y := ⟨_, List.getElem?_eq_getElem (by rw [HQ.out]; exact hjt)⟩
          have c5 := ((HSP.out.below HB2.out).num hy).1
          have f0 : (0 : Int) ≤ (j : Int) := by omega
          have f1 : (j : Int) < (q : Int) := by omega
          have HTk : Hid (F ++ pl.take (j + 1) = F ++ pl.take j ++ [y]) := Lib.hid (by rw [List.take_add_one, hy]; simp)
          have hr2 : r ≤ 900000 := by omega
          have HR := Lib.hid hr
          clear hy hr
          have C3 : Hid (r + 1 ≤ maxLen) := by show _ ≤ _; unfold maxLen; omega
          have C4 : Hid ((r + 1) * 8 ≤ 140737488355328) := by show _ ≤ _; omega
          have C5 : Hid (w.heap.size ≤ (wp.alloc (Obj.cells #[.int .i64 y] 3)).heap.size) := by show _ ≤ _; have := HB2.out.size; simp only [World.size_alloc]; omega
          go_wp2_with (first
            | (at_builtin; refine wpList_append_own _ rfl (.tmp 20) (.tmp 22) 22 rfl w.heap.size 3 i0 (.int .i64 0) 1 8 Try.underlying22 hi0 hz0 hz1 hz2 rfl (by decide) (.slice a4 r c4) (r) (nums (F ++ pl.take j)) rfl (HO2.out.alloc _) ⟨wp.heap.size, 0, none⟩ 1 1 [.int .i64 y] rfl rfl (c1_one wp _ _) (c2_one _ rfl) C3.out C4.out C5.out ?_)
            | fail)
          intro vN wB hoN hgN _
          obtain ⟨aN, cN, rfl⟩ := own_slice hoN
          have HOB := Lib.hid hoN
          have HBB := Lib.hid (app_below HB2.out HO2.out hgN)
          clear hoN hgN C3 C4 C5
          go_wp2_with fail
          go_roundw
          case rel =>
            refine ⟨j + 1, r + 1, aN, cN, by go_num, by go_num, by omega, by have := HR.out; omega, ?_, HBB.out⟩
            rw [HTk.out, ← nums_app]; exact HOB.out
          case measure => simp [intOf]; omega
        · have dj : decide (j < q) = false := decide_eq_false hjt
          have hjq : j = q := by omega
          subst hjq
          have HTk : Hid (F ++ pl.take j = flatR (T.take (k + 1))) := Lib.hid (by rw [HFt.out, List.take_of_length_le (by rw [HQ.out]; exact Nat.le_refl _)])
          have HO3 : Hid (wp.ownsRow w.heap.size 3 1 (.slice a4 r c4) r (nums (flatR (T.take (k + 1))))) := Lib.hid (by rw [← HTk.out]; exact HO2.out)
          have HR : Hid (r = (flatR (T.take (k + 1))).length) := Lib.hid (by rw [HFt.out, List.length_append, HQ.out, hr, HM.out])
          clear hr
          go_wp2_with fail
          go_roundw
          case rel => exact ⟨k + 1, r, a4, c4, rfl, by go_num, by omega, HR.out, HO3.out, HB2.out⟩
          case measure => simp [intOf]; omega
    · have dk : decide (k < n) = false := decide_eq_false hlt
      have hkn : k = n := by omega
      subst hkn
      have htk : T.take k = T := List.take_of_length_le (by rw [HN.out]; exact Nat.le_refl _)
      have hO := HO.out
      have hM := HM.out
      rw [htk] at hO hM
      have hS := rsort_of (flatR T) (own_sl hO (nums_one _)) (fun y hy => by
        obtain ⟨p, hp, hyp⟩ := mem_flatR hy
        exact HD.out p hp y hyp) (by have := HF.out; omega)
      rw [← hM] at hS
      have HS := Lib.hid hS
      clear hS hO hM htk
      go_wp2_with fail
      refine HS.out.mono ?_; rintro e w1 ⟨a1, c1, rfl, ho1, hb1⟩
      have HO1 := Lib.hid (own_mono ho1 HB.out.size)
      have HB1 := Lib.hid (HB.out.trans (hb1.mono HB.out.size))
      clear ho1 hb1 HS
      go_wp2_with fail
      go_ret
      exact ⟨a1, c1, rfl, HO1.out, HB1.out⟩

end Go.Proofs.Ytlglenbgaalhiaa
