/-
  The contract of the document's own Bounds, at this seat's numbers.
-/
import Derived.Test.YtbankegfmamoiaaDoorUtfK
namespace Go.Proofs.YtbankegfmamoiaaDoor
open Go Go.RowKit
set_option linter.unusedVariables false

set_option maxHeartbeats 1600000 in
set_option maxRecDepth 1000000 in
theorem bounds_of (s : ByteArray) (w : World) (hs : s.size ≤ 4096) :
    Calls Tryd.prog 45 #[.string s] w fun e w' => ∃ v, e = .returned v ∧ BdRow w.heap.size s v w' ∧ Below w.heap.size w w' := by
  obtain ⟨i0, hi, hz0, hz1, hz2⟩ := info_parts info_int
  go_enter Tryd.func45, Tryd.ntmps45
  go_wp2_with fail
  go_loopw [3, 4] (fun v p wr => ∃ k : Nat, (∀ i, i < k → bd s i < s.size) ∧ p = .int .i64 (bd s k) ∧ wr.ownsRow w.heap.size 3 1 v (k + 1) (bdl s k) ∧ Below w.heap.size w wr) (fun _ p _ => s.size - (intOf p).toNat)
  case atStart =>
    exact ⟨0, fun i hi => absurd hi (Nat.not_lt_zero _), rfl, ⟨rfl, .inr ⟨w.heap.size, 1, #[.int .i64 0], rfl, Nat.le_refl _, heap_alloc_new w _, Nat.le_refl _, by decide, rfl, rfl⟩⟩, (Below.refl _ w).alloc (Nat.le_refl _) _⟩
  case round =>
    obtain ⟨k, hk, rfl, hown, hb⟩ := hrel
    have HB := Lib.hid hb
    have HK := Lib.hid hk
    have HO := Lib.hid hown
    clear hb hk hown
    have hle := bd_le s k
    by_cases hl : bd s k < s.size
    · have hf := wd_facts s (bd s k) hl
      have hf1 := hf.1
      have hf2 := hf.2.2.1
      clear hf
      have hkb := bd_count_le s k HK.out
      have HA := Lib.hid (at_in s (bd s k) wr (by unfold maxLen; omega) hl)
      go_wp2_with fail
      refine HA.out.mono ?_; rintro e w1 ⟨rfl, hb1⟩
      have HO1 := Lib.hid (own_below HO.out hb1)
      have HB1 := Lib.hid (HB.out.trans (hb1.mono HB.out.size))
      clear hb1 HA
      go_wp2_with (first
        | (at_builtin; refine wpList_append_own _ rfl _ _ 49 rfl w.heap.size 3 i0 (.int .i64 0) 1 8 Tryd.underlying49 hi hz0 hz1 hz2 rfl (by decide) _ _ _ rfl (HO1.out.alloc _) ⟨w1.heap.size, 0, none⟩ 1 1 [.int .i64 (bd s k + wd s (bd s k))] rfl rfl ?c1 ?c2 ?c3 ?c4 ?c5 ?_)
        | fail)
      case c1 =>
        intro j u hj
        match j, hj with
        | 0, hj => simp at hj; subst hj; simp [Addr.add]
      case c2 => intro u hu; simp at hu; subst hu; rfl
      case c3 => unfold maxLen; omega
      case c4 => omega
      case c5 => have := HB1.out.size; simp; omega
      intro v' w2 hown' hgrow _
      have HO2 := Lib.hid hown'
      have HG := Lib.hid hgrow
      clear hown' hgrow
      go_wp2_with fail
      go_roundw
      case rel =>
        refine ⟨k + 1, fun i hi => ?_, int_eq (by rw [bd_succ s k hl]; omega), ?_, ?_⟩
        · rcases Nat.lt_or_ge i k with h | h
          · exact HK.out i h
          · have : i = k := by omega
            rw [this]; exact hl
        · have := HO2.out
          rw [bdl_succ, bd_succ s k hl]
          simpa using this
        · exact (HB1.out.alloc (HB1.out.size) _).grown HG.out (by have := HB1.out.size; simp; omega) (fun j hj => (HO1.out.lt j hj).1)
      case measure => simp [intOf]; omega
    · have e : Lib.runeCount s = k := count_is s k (by omega) HK.out
      have HR := Lib.hid (bdRow_of (by rw [e]; exact HO.out))
      clear e
      go_wp2_with fail
      go_ret
      exact ⟨_, rfl, HR.out, HB.out⟩

end Go.Proofs.YtbankegfmamoiaaDoor
