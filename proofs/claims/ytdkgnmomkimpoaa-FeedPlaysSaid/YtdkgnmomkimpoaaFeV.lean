/-
  One call of both feeds: Push, Next, Drop, any other one, at this seat's numbers.
-/
import Derived.Test.YtdkgnmomkimpoaaFeU
namespace Go.Proofs.Ytdkgnmomkimpoaa
open Go Go.RowKit
set_option linter.unusedVariables false

section
variable {w0 w : World} {f r room : Nat} {tv pv : Value} {S : Fs} {Q : List RwF}
/-- Push of both, in any world that lies behind. -/
theorem FR.push (H : FR w0 w f r room tv pv S Q) {a : Option Addr} {k : Nat} {l : List Int} (hs : Sq w0 a k l) (hl : l.length ≤ 1000000) :
    Calls Try.prog 19 #[pbox f, .slice a l.length k] w (fun e w' => e = .returned (.int .i64 (pushE l S.ps.length)) ∧ FdS w' w0.heap.size f room ⟨S.ty, pushP S.ps l, S.fu⟩ ∧ FMv w0.heap.size w w') ∧
    ∀ w3, FdS w3 w0.heap.size f room ⟨S.ty, pushP S.ps l, S.fu⟩ → FMv w0.heap.size w w3 → Calls Try.prog 32 #[pbox r, .slice a l.length k] w3 fun e w' => e = .returned (.int .i64 (pushE l S.ps.length)) ∧ FRx w0 w' f r room := by
  refine ⟨fpush H.fd (hs.below H.low) hl H.low.size, fun w3 F3 m3 => ?_⟩
  refine (rpush (H.rf.fmv m3) (Nat.le_trans H.low.size m3.low.size) hs H.few.1).mono ?_
  rintro e w4 ⟨rfl, pv', Q', R4, m4⟩
  exact ⟨rfl, _, _, _, _, H.next F3 m3 R4 m4 (pushP_small H.sm l) H.ty.1⟩

set_option maxRecDepth 100000 in
set_option maxHeartbeats 8000000 in
theorem step_push (H : FR w0 w f r room tv pv S Q) (x n : Int) {a : Option Addr} {k : Nat} {l : List Int} (hs : Sq w0 a k l) :
    Calls Try.prog 12 #[pbox f, pbox r, opV 2 x n a k l.length] w fun e w' => e = .returned (.bool true) ∧ FRx w0 w' f r room := by
  have al := t_al w (opB 2 x n a k l.length)
  have H1 := H.below al
  have hcap := hs.cap
  have hcapm := hs.capm
  by_cases h120 : l.length ≤ 120
  · have hd : (w.alloc (opB 2 x n a k l.length)).drew.heap[w.heap.size]? = some (opB 2 x n a k l.length) := heap_alloc_new w _
    have H2 : FR w0 (w.alloc (opB 2 x n a k l.length)).drew f r room tv pv S Q := H1.below (Below.refl _ _).drew
    obtain ⟨hp, hr⟩ := H2.push hs (by omega)
    have HP := Lib.hid hp
    have HR : Hid (∀ w3, FdS w3 w0.heap.size f room ⟨S.ty, pushP S.ps l, S.fu⟩ → FMv w0.heap.size (w.alloc (opB 2 x n a k l.length)).drew w3 → w3.cell? ⟨w.heap.size, 3, none⟩ = some (.slice a l.length k) ∧ Calls Try.prog 32 #[pbox r, .slice a l.length k] w3 fun e w' => e = .returned (.int .i64 (pushE l S.ps.length)) ∧ FRx w0 w' f r room) :=
      Lib.hid fun w3 F3 m3 => ⟨by rw [cell_at ((m3.oth _ _ _ _ hd (by decide) (by decide) (by decide)).trans hd)]; rfl, hr w3 F3 m3⟩
    have d : decide ((120 : Int) < (l.length : Int)) = false := decide_eq_false (by omega)
    generalize l.length = ln at *
    generalize pushE l S.ps.length = pe at *
    clear H H1 H2 hd al hp hr hs
    go_enter Try.func12, Try.ntmps12
    go_wp2_with fail
    go_region_with (first
      | (go_at_call 19
         refine HP.out.mono ?_
         rintro e w3 ⟨rfl, F3, m3⟩
         obtain ⟨c3, HR3⟩ := HR.out w3 F3 m3
         have HR3 := Lib.hid HR3
         clear F3 m3)
      | (go_at_call 32
         refine HR3.out.mono ?_
         rintro e w4 ⟨rfl, h4⟩
         have HF4 := Lib.hid h4
         clear h4))
    all_goals
      go_wp2_with fail
      go_ret
      exact ⟨rfl, HF4.out⟩
  · have e120 : (l.take 120).length = 120 := by rw [List.length_take]; omega
    have hd : (w.alloc (opB 2 x n a k 120)).drew.heap[w.heap.size]? = some (opB 2 x n a k 120) := heap_alloc_new w _
    have H2 : FR w0 (w.alloc (opB 2 x n a k 120)).drew f r room tv pv S Q := (H.below (t_al w _)).below (Below.refl _ _).drew
    have hp0 : 0 < l.length := by omega
    obtain ⟨y0, hy0⟩ : ∃ y, l[0]? = some y := ⟨_, List.getElem?_eq_getElem hp0⟩
    obtain ⟨d0, hd0, _⟩ := hs.at_ 0 _ hy0
    subst hd0
    clear hy0
    obtain ⟨hp, hr⟩ := H2.push (hs.take 120) (by omega)
    rw [e120] at hp hr
    have HP := Lib.hid hp
    have HR : Hid (∀ w3, FdS w3 w0.heap.size f room ⟨S.ty, pushP S.ps (l.take 120), S.fu⟩ → FMv w0.heap.size (w.alloc (opB 2 x n (some d0) k 120)).drew w3 → w3.cell? ⟨w.heap.size, 3, none⟩ = some (.slice (some d0) 120 k) ∧ Calls Try.prog 32 #[pbox r, .slice (some d0) 120 k] w3 fun e w' => e = .returned (.int .i64 (pushE (l.take 120) S.ps.length)) ∧ FRx w0 w' f r room) :=
      Lib.hid fun w3 F3 m3 => ⟨by rw [cell_at ((m3.oth _ _ _ _ hd (by decide) (by decide) (by decide)).trans hd)]; rfl, hr w3 F3 m3⟩
    have d : decide ((120 : Int) < (l.length : Int)) = true := decide_eq_true (by omega)
    have hk120 : (120 : Int) ≤ (k : Int) := by omega
    clear H H1 H2 hd al hp hr hs e120 hp0
    generalize l.length = ln at *
    generalize pushE (l.take 120) S.ps.length = pe at *
    go_enter Try.func12, Try.ntmps12
    go_wp2_with fail
    go_region_with (first
      | (go_at_call 19
         refine HP.out.mono ?_
         rintro e w3 ⟨rfl, F3, m3⟩
         obtain ⟨c3, HR3⟩ := HR.out w3 F3 m3
         have HR3 := Lib.hid HR3
         clear F3 m3)
      | (go_at_call 32
         refine HR3.out.mono ?_
         rintro e w4 ⟨rfl, h4⟩
         have HF4 := Lib.hid h4
         clear h4))
    all_goals
      go_wp2_with fail
      go_ret
      exact ⟨rfl, HF4.out⟩

/-- Drop of both. -/
theorem step_drop (H : FR w0 w f r room tv pv S Q) (x n : Int) (a : Option Addr) (k m : Nat) :
    Calls Try.prog 12 #[pbox f, pbox r, opV 7 x n a k m] w fun e w' => e = .returned (.bool true) ∧ FRx w0 w' f r room := by
  have H1 := H.below (t_al w (opB 7 x n a k m))
  have HD := Lib.hid (fdrop H1.fd H1.sm)
  have HR : Hid (∀ w3, FdS w3 w0.heap.size f room ⟨S.ty, [], S.fu⟩ → FMv w0.heap.size (w.alloc (opB 7 x n a k m)) w3 → Calls Try.prog 34 #[pbox r] w3 fun e w' => e = .returned (.int .i64 (sumL S.ps)) ∧ FRx w0 w' f r room) := Lib.hid fun w3 F3 m3 => by
    refine (rdrop (H1.rf.fmv m3) H1.few.1 H1.sm).mono ?_
    rintro e w4 ⟨rfl, R4, m4⟩
    exact ⟨rfl, _, _, _, _, H1.next F3 m3 R4 m4 (fun l hl => (by cases hl)) H1.ty.1⟩
  generalize sumL S.ps = sm at *
  clear H H1
  go_enter Try.func12, Try.ntmps12
  go_wp2_with fail
  refine HD.out.mono ?_; rintro e w3 ⟨rfl, F3, m3⟩
  have HR3 := Lib.hid (HR.out w3 F3 m3)
  clear F3 m3
  go_wp2_with fail
  refine HR3.out.mono ?_; rintro e w4 ⟨rfl, h4⟩
  have HF4 := Lib.hid h4
  clear h4
  go_wp2_with fail
  go_ret
  exact ⟨rfl, HF4.out⟩

theorem step_other (H : FR w0 w f r room tv pv S Q) (x n : Int) (a : Option Addr) (k m : Nat) {kd : Int} (h0 : ¬ (0 ≤ kd ∧ kd ≤ 7)) :
    Calls Try.prog 12 #[pbox f, pbox r, opV kd x n a k m] w fun e w' => e = .returned (.bool true) ∧ FRx w0 w' f r room := by
  have HF : Hid (FRx w0 (w.alloc (opB kd x n a k m)) f r room) := ⟨_, _, _, _, H.below (t_al w (opB kd x n a k m))⟩
  have z0 : (kd == 0) = false := beq_eq_false_iff_ne.2 (by omega)
  have z1 : (kd == 1) = false := beq_eq_false_iff_ne.2 (by omega)
  have z2 : (kd == 2) = false := beq_eq_false_iff_ne.2 (by omega)
  have z3 : (kd == 3) = false := beq_eq_false_iff_ne.2 (by omega)
  have z4 : (kd == 4) = false := beq_eq_false_iff_ne.2 (by omega)
  have z5 : (kd == 5) = false := beq_eq_false_iff_ne.2 (by omega)
  have z6 : (kd == 6) = false := beq_eq_false_iff_ne.2 (by omega)
  have z7 : (kd == 7) = false := beq_eq_false_iff_ne.2 (by omega)
  clear H h0
  go_enter Try.func12, Try.ntmps12
  go_wp2_with fail
  go_ret
  exact ⟨rfl, HF.out⟩
end
end Go.Proofs.Ytdkgnmomkimpoaa
