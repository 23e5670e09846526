/-
  One call of both feeds: Next, so many times, at this seat's numbers.
-/
import Derived.Test.YtdkgnmomkimpoaaFeU
namespace Go.Proofs.Ytdkgnmomkimpoaa
open Go Go.RowKit
set_option linter.unusedVariables false

theorem next_ty {S : Fs} (hne : ∀ p ∈ S.ps, p ≠ []) : (nextF S).2.ty.length ≤ S.ty.length := by
  rcases next_cases hne with ⟨h1, h2, h3⟩ | ⟨x, t, h1, h2, h3⟩ | ⟨h1, h3⟩ | ⟨x, P, t, h1, h3⟩
  · rw [h3]; exact Nat.le_refl _
  · rw [h3, h2]; simp
  · rw [h3]; exact Nat.le_refl _
  · rw [h3]; exact Nat.le_refl _

theorem wrap300 (n : Int) : wrap64 ((IntKind.u64.wrap n).tmod 300) < 300 := by
  have h0 : 0 ≤ IntKind.u64.wrap n := by
    unfold IntKind.wrap
    simp [IntKind.signed, IntKind.bits]
    omega
  generalize IntKind.u64.wrap n = u at *
  have h1 : u.tmod 300 = u % 300 := Int.tmod_eq_emod_of_nonneg h0
  rw [h1]
  unfold wrap64
  omega

section
variable {w0 w : World} {f r room : Nat} {tv pv : Value} {S : Fs} {Q : List RwF}
/-- Next of both. -/
theorem FR.both (H : FR w0 w f r room tv pv S Q) :
    Calls Try.prog 18 #[pbox f] w (fun e w' => e = .returned (triV (nextF S).1) ∧ FdS w' w0.heap.size f room (nextF S).2 ∧ FMv w0.heap.size w w') ∧
    ∀ w3, FdS w3 w0.heap.size f room (nextF S).2 → FMv w0.heap.size w w3 → Calls Try.prog 33 #[pbox r] w3 fun e w' => e = .returned (triV (nextF S).1) ∧ ∃ tv' pv' Q', FR w0 w' f r room tv' pv' (nextF S).2 Q' ∧ RMv w0.heap.size w3 w' := by
  refine ⟨fnext H.fd, fun w3 F3 m3 => ?_⟩
  refine (rnext (H.rf.fmv m3) H.few.1 H.few.2 (Nat.le_refl _) (H.low.trans m3.low) (Nat.le_trans H.low.size m3.low.size)).mono ?_
  rintro e w4 ⟨rfl, tv', pv', Q', R4, m4⟩
  exact ⟨rfl, _, _, _, H.next F3 m3 R4 m4 (next_small H.fd.ne0 H.sm) (Nat.le_trans (next_ty H.fd.ne0) H.ty.1), m4⟩

set_option maxRecDepth 100000 in
set_option maxHeartbeats 16000000 in
theorem step_next (H : FR w0 w f r room tv pv S Q) (x : Int) {n : Int} (hn0 : -9223372036854775808 ≤ n) (hn1 : n ≤ 9223372036854775807) (a : Option Addr) (k m : Nat) {kd : Int} (hk : kd = 3 ∨ kd = 4 ∨ kd = 5 ∨ kd = 6) :
    Calls Try.prog 12 #[pbox f, pbox r, opV kd x n a k m] w fun e w' => e = .returned (.bool true) ∧ FRx w0 w' f r room := by
  have hd := heap_alloc_new w (opB kd x n a k m)
  have HF := Lib.hid (H.below (t_al w (opB kd x n a k m)))
  have HD : Hid ((w.alloc (opB kd x n a k m)).heap[w.heap.size]? = some (opB kd x n a k m)) := hd
  clear H hd
  generalize hb : w.heap.size = b at *
  rcases hk with rfl | rfl | rfl | rfl
  all_goals
    go_enter Try.func12, Try.ntmps12
    go_wp2_with fail
    go_loopw [7] (fun v7 wr => ∃ (j : Nat) (tv pv : Value) (S : Fs) (Q : List RwF), v7 = .int .i64 j ∧ j ≤ 300 ∧ FR w0 wr f r room tv pv S Q ∧ (∃ kd' : Int, wr.heap[b]? = some (opB kd' x n a k m))) (fun v7 _ => 301 - (intOf v7).toNat)
    case atStart => exact ⟨0, _, _, _, _, rfl, by omega, HF.out, _, HD.out⟩
    case round =>
      obtain ⟨j, tv1, pv1, S1, Q1, rfl, hj, hF, kd', hD⟩ := hrel
      obtain ⟨hN, hR⟩ := hF.both
      have HN := Lib.hid hN
      have HR := Lib.hid hR
      have HX : Hid (FRx w0 wr f r room) := ⟨_, _, _, _, hF⟩
      have HD1 := Lib.hid hD
      have c2 : wr.cell? ⟨b, 2, none⟩ = some (.int .i64 n) := by rw [cell_at hD]; rfl
      clear hF hN hR hD
      unfold triV at HN HR
      go_wp2_with fail
      · have h300 := wrap300 n
        refine HN.out.mono ?_; rintro e w3 ⟨rfl, F3, m3⟩
        have hd3 := (m3.oth _ _ _ _ HD1.out (by decide) (by decide) (by decide)).trans HD1.out
        have HD3 := Lib.hid hd3
        have HR3 := Lib.hid (HR.out w3 F3 m3)
        clear F3 m3 hd3
        go_wp2_with fail
        refine HR3.out.mono ?_; rintro e w4 ⟨rfl, tv4, pv4, Q4, F4, m4⟩
        have HF4 := Lib.hid (And.intro F4 (m4.oth _ _ HD3.out (fun cs t fr e => by cases e; exact ⟨by decide, by decide, by decide⟩)))
        clear F4 m4
        go_wp2_with fail
        go_roundw
        case rel => exact ⟨j + 1, _, _, _, _, by go_num, by omega, HF4.out.1, kd', HF4.out.2⟩
        case measure => simp [intOf]; omega
      · go_ret
        exact ⟨rfl, HX.out⟩
end
end Go.Proofs.Ytdkgnmomkimpoaa
