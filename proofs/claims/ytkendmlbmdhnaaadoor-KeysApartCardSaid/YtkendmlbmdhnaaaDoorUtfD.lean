/-
  The contract of the document's own Put and Class, and the walk of the statement UtfPuts, at this seat's numbers.
-/
import Derived.Test.YtkendmlbmdhnaaaDoorUtfC
namespace Go.Proofs.YtkendmlbmdhnaaaDoor
open Go Go.RowKit
set_option linter.unusedVariables false

/-- What the document's Put answers. -/
def putS (r : Int) : ByteArray := if good r then strOf (Lib.encodeRune r) else ⟨#[]⟩

theorem rput_bad (r : Int) (w : World) (h : ¬ good r) : Calls Tryd.prog 23 #[.int .i64 r] w fun e w' => e = .returned (.string ⟨#[]⟩) ∧ Below w.heap.size w w' := by
  unfold good at h
  by_cases h1 : r < 0
  · go_enter Tryd.func23, Tryd.ntmps23
    go_wp2_with fail
    go_ret
    exact ⟨rfl, Below.refl _ _⟩
  · by_cases h2 : 1114111 < r
    · go_enter Tryd.func23, Tryd.ntmps23
      go_wp2_with fail
      go_ret
      exact ⟨rfl, Below.refl _ _⟩
    · have h3 : 55296 ≤ r := by omega
      have h4 : r ≤ 57343 := by omega
      go_enter Tryd.func23, Tryd.ntmps23
      go_wp2_with fail
      go_ret
      exact ⟨rfl, Below.refl _ _⟩

theorem conv_enc (w : World) (r : Int) : (convert 36 9 (.slice (some ⟨w.heap.size, 0, none⟩) (Lib.encodeRuneZ r).length (Lib.encodeRuneZ r).length)).run Tryd.prog (w.alloc (.cells (Lib.runeCells r).toArray 5)) = .ok (.string (strOf (Lib.encodeRune r))) (w.alloc (.cells (Lib.runeCells r).toArray 5)) := by
  have h := string_of (strOf (Lib.encodeRune r)) (w.alloc (.cells (Lib.runeCells r).toArray 5)) w.heap.size 0 (Lib.encodeRuneZ r).length (bs_new w _ _ _ _ rfl _ fun j hj => by
    rw [enc_len] at hj
    rw [enc_bt r j hj, List.getElem?_toArray]
    unfold Lib.runeCells
    rw [List.getElem?_map, List.getElem?_eq_getElem hj]
    rfl)
  rw [enc_len] at h
  exact h

set_option maxHeartbeats 1000000 in
theorem rput_good (r : Int) (w : World) (h : good r) : Calls Tryd.prog 23 #[.int .i64 r] w fun e w' => e = .returned (.string (strOf (Lib.encodeRune r))) ∧ Below w.heap.size w w' := by
  obtain ⟨h0, h1, h2⟩ := h
  by_cases k1 : r < 128
  · have hc : (convert 36 9 (.slice (some ⟨w.heap.size, 0, none⟩) 1 1)).run Tryd.prog (w.alloc (.cells #[.int .u8 r] 5)) = .ok (.string (strOf (Lib.encodeRune r))) (w.alloc (.cells #[.int .u8 r] 5)) := by
      have := conv_enc w r
      unfold Lib.runeCells at this
      rw [Lib.encodeRuneZ_one (by omega) (by omega)] at this
      exact this
    generalize strOf (Lib.encodeRune r) = q at *
    go_enter Tryd.func23, Tryd.ntmps23
    go_wp2_with fail
    go_ret
    exact ⟨rfl, (Below.refl _ w).alloc (Nat.le_refl _) _⟩
  · by_cases k2 : r < 2048
    · have hc : (convert 36 9 (.slice (some ⟨w.heap.size, 0, none⟩) 2 2)).run Tryd.prog (w.alloc (.cells #[.int .u8 (192 + r / 64), .int .u8 (128 + r % 64)] 5)) = .ok (.string (strOf (Lib.encodeRune r))) (w.alloc (.cells #[.int .u8 (192 + r / 64), .int .u8 (128 + r % 64)] 5)) := by
        have := conv_enc w r
        unfold Lib.runeCells at this
        rw [Lib.encodeRuneZ_two (by omega) (by omega)] at this
        exact this
      generalize strOf (Lib.encodeRune r) = q at *
      go_enter Tryd.func23, Tryd.ntmps23
      go_wp2_with fail
      go_ret
      exact ⟨rfl, (Below.refl _ w).alloc (Nat.le_refl _) _⟩
    · by_cases k3 : r < 65536
      · by_cases k4 : r < 55296
        · have hc : (convert 36 9 (.slice (some ⟨w.heap.size, 0, none⟩) 3 3)).run Tryd.prog (w.alloc (.cells #[.int .u8 (224 + r / 4096), .int .u8 (128 + r / 64 % 64), .int .u8 (128 + r % 64)] 5)) = .ok (.string (strOf (Lib.encodeRune r))) (w.alloc (.cells #[.int .u8 (224 + r / 4096), .int .u8 (128 + r / 64 % 64), .int .u8 (128 + r % 64)] 5)) := by
            have := conv_enc w r
            unfold Lib.runeCells at this
            rw [Lib.encodeRuneZ_three (by omega)] at this
            exact this
          generalize strOf (Lib.encodeRune r) = q at *
          go_enter Tryd.func23, Tryd.ntmps23
          go_wp2_with fail
          go_ret
          exact ⟨rfl, (Below.refl _ w).alloc (Nat.le_refl _) _⟩
        · have k4' : 57343 < r := by omega
          have hc : (convert 36 9 (.slice (some ⟨w.heap.size, 0, none⟩) 3 3)).run Tryd.prog (w.alloc (.cells #[.int .u8 (224 + r / 4096), .int .u8 (128 + r / 64 % 64), .int .u8 (128 + r % 64)] 5)) = .ok (.string (strOf (Lib.encodeRune r))) (w.alloc (.cells #[.int .u8 (224 + r / 4096), .int .u8 (128 + r / 64 % 64), .int .u8 (128 + r % 64)] 5)) := by
            have := conv_enc w r
            unfold Lib.runeCells at this
            rw [Lib.encodeRuneZ_three (by omega)] at this
            exact this
          generalize strOf (Lib.encodeRune r) = q at *
          go_enter Tryd.func23, Tryd.ntmps23
          go_wp2_with fail
          go_ret
          exact ⟨rfl, (Below.refl _ w).alloc (Nat.le_refl _) _⟩
      · have hc : (convert 36 9 (.slice (some ⟨w.heap.size, 0, none⟩) 4 4)).run Tryd.prog (w.alloc (.cells #[.int .u8 (240 + r / 262144), .int .u8 (128 + r / 4096 % 64), .int .u8 (128 + r / 64 % 64), .int .u8 (128 + r % 64)] 5)) = .ok (.string (strOf (Lib.encodeRune r))) (w.alloc (.cells #[.int .u8 (240 + r / 262144), .int .u8 (128 + r / 4096 % 64), .int .u8 (128 + r / 64 % 64), .int .u8 (128 + r % 64)] 5)) := by
          have := conv_enc w r
          unfold Lib.runeCells at this
          rw [Lib.encodeRuneZ_four (by omega) (by omega)] at this
          exact this
        generalize strOf (Lib.encodeRune r) = q at *
        go_enter Tryd.func23, Tryd.ntmps23
        go_wp2_with fail
        go_ret
        exact ⟨rfl, (Below.refl _ w).alloc (Nat.le_refl _) _⟩

end Go.Proofs.YtkendmlbmdhnaaaDoor
