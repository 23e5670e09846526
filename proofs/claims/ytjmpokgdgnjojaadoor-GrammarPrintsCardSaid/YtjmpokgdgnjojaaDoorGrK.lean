/-
  The document's reading of one key: count, at this seat's numbers.
-/
import Derived.Test.YtjmpokgdgnjojaaDoorGrJ
import Derived.Deep.QuietTactic
import Derived.BigQuiet
namespace Go.Proofs.YtjmpokgdgnjojaaDoor
open Go Go.RowKit
set_option linter.unusedVariables false

section
variable {w0 w : World} {q : Nat} {a : Option Addr} {k : Nat} {l : List Int} {at_ : Nat} {c : Cm} {wh er : Int}
theorem RgIn.drewN (H : RgIn w0 w q a k l at_ c wh er) (n : Nat) : RgIn w0 (w.drewN n) q a k l at_ c wh er := ⟨H.box, H.sq, ⟨H.low.os, H.low.tape, H.low.output, H.low.size, H.low.block⟩, H.lo⟩
set_option maxRecDepth 100000 in
set_option maxHeartbeats 4000000 in
theorem count_end (H : RgIn w0 w q a k l l.length c wh er) : Calls Tryd.prog 36 #[pbox q] w fun e w' => e = .returned (.bool true) ∧ RgIn w0 w' q a k l l.length c wh er := by
  have HH := Lib.hid H
  obtain ⟨c0, c1, _⟩ := H.cs
  clear H
  generalize l.length = n at *
  have dn : decide ((n : Int) < (n : Int)) = false := decide_eq_false (by omega)
  go_enter Tryd.func36, Tryd.ntmps36
  go_wp2_with fail
  go_loopw [3, 4] (fun v3 _ wr => v3 = .int .i64 0 ∧ w = wr) (fun _ _ _ => 0)
  case atStart => exact ⟨rfl, rfl⟩
  case round =>
    obtain ⟨rfl, rfl⟩ := hrel
    go_wp2_with fail
    go_quiet (fail)
    go_wp2_with fail
    go_quiet (fail)
    go_wp2_with fail
    go_ret
    first | exact ⟨rfl, (HH.out.drewN _).drewN _⟩ | exact ⟨rfl, HH.out.drewN _⟩
set_option maxRecDepth 100000 in
set_option maxHeartbeats 4000000 in
theorem count_stop (H : RgIn w0 w q a k l at_ c wh er) {x : Int} (hx : l[at_]? = some x) (hno : ¬ (49 ≤ x ∧ x ≤ 57)) : Calls Tryd.prog 36 #[pbox q] w fun e w' => e = .returned (.bool true) ∧ RgIn w0 w' q a k l at_ c wh er := by
  have hlt := (List.getElem?_eq_some_iff.1 hx).1
  obtain ⟨d, rfl, hcell, hdb⟩ := H.sq.at_ _ _ hx
  have hcap := H.sq.cap
  have hcapm := H.sq.capm
  have HH := Lib.hid H
  obtain ⟨c0, c1, _⟩ := H.cs
  have hx3 := (H.low.cell hdb).trans hcell
  have i0 : (0 : Int) ≤ (at_ : Int) := by omega
  have i1 : (at_ : Int) < (l.length : Int) := by omega
  have dn : decide ((at_ : Int) < (l.length : Int)) = true := decide_eq_true i1
  generalize l.length = n at *
  clear H hx
  have hc : x < 48 ∨ 57 < x ∨ x = 48 := by omega
  rcases hc with hc | hc | rfl
  · have d1 : decide ((48 : Int) ≤ x) = false := decide_eq_false (by omega)
    go_enter Tryd.func36, Tryd.ntmps36
    go_wp2_with fail
    go_loopw [3, 4] (fun v3 _ wr => v3 = .int .i64 0 ∧ w = wr) (fun _ _ _ => 0)
    case atStart => exact ⟨rfl, rfl⟩
    case round =>
      obtain ⟨rfl, rfl⟩ := hrel
      go_wp2_with fail
      go_quiet (fail)
      go_wp2_with fail
      go_quiet (fail)
      go_wp2_with fail
      go_ret
      first | exact ⟨rfl, (HH.out.drewN _).drewN _⟩ | exact ⟨rfl, HH.out.drewN _⟩
  · have d1 : decide ((48 : Int) ≤ x) = true := decide_eq_true (by omega)
    have d2 : decide (x ≤ (57 : Int)) = false := decide_eq_false (by omega)
    go_enter Tryd.func36, Tryd.ntmps36
    go_wp2_with fail
    go_loopw [3, 4] (fun v3 _ wr => v3 = .int .i64 0 ∧ w = wr) (fun _ _ _ => 0)
    case atStart => exact ⟨rfl, rfl⟩
    case round =>
      obtain ⟨rfl, rfl⟩ := hrel
      go_wp2_with fail
      go_quiet (fail)
      go_wp2_with fail
      go_quiet (fail)
      go_wp2_with fail
      go_ret
      first | exact ⟨rfl, (HH.out.drewN _).drewN _⟩ | exact ⟨rfl, HH.out.drewN _⟩
  · go_enter Tryd.func36, Tryd.ntmps36
    go_wp2_with fail
    go_loopw [3, 4] (fun v3 _ wr => v3 = .int .i64 0 ∧ w = wr) (fun _ _ _ => 0)
    case atStart => exact ⟨rfl, rfl⟩
    case round =>
      obtain ⟨rfl, rfl⟩ := hrel
      go_wp2_with fail
      go_quiet (fail)
      go_wp2_with fail
      go_quiet (fail)
      go_wp2_with fail
      go_ret
      first | exact ⟨rfl, (HH.out.drewN _).drewN _⟩ | exact ⟨rfl, HH.out.drewN _⟩
set_option maxRecDepth 100000 in
set_option maxHeartbeats 8000000 in
/-- One digit, and no more keys. -/
theorem count_one (H : RgIn w0 w q a k l at_ c wh er) {x : Int} (hx : l[at_]? = some x) (hl : l.length = at_ + 1) (hc0 : c.ct = 0) (h1 : 49 ≤ x) (h2 : x ≤ 57) : Calls Tryd.prog 36 #[pbox q] w fun e w' => e = .returned (.bool true) ∧ RgIn w0 w' q a k l l.length c wh er := by
  obtain ⟨d, rfl, hcell, hdb⟩ := H.sq.at_ _ _ hx
  have hcap := H.sq.cap
  have hcapm := H.sq.capm
  unfold maxLen at hcapm
  have HH := Lib.hid H
  have HD : Hid (∀ wr, Below w0.heap.size w0 wr → wr.cell? (d.add at_) = some (.int .i64 x)) := fun wr hb => (hb.cell hdb).trans hcell
  have HS : Hid (∀ wr, RgIn w0 wr q (some d) k l at_ c wh er → RgIn w0 (wr.setCell ⟨q, 1, none⟩ (.int .i64 ((at_ : Int) + 1))) q (some d) k l l.length c wh er) := fun wr h => by
    have := h.setAt (at_ + 1)
    have e : ((at_ + 1 : Nat) : Int) = (at_ : Int) + 1 := by omega
    rw [e] at this
    rw [hl]; exact this
  have i0 : (0 : Int) ≤ (at_ : Int) := by omega
  have i1 : (at_ : Int) < (l.length : Int) := by omega
  have dn : decide ((at_ : Int) < (l.length : Int)) = true := decide_eq_true i1
  have dz : decide ((l.length : Int) < (l.length : Int)) = false := decide_eq_false (by omega)
  have d1 : decide ((48 : Int) ≤ x) = true := decide_eq_true (by omega)
  have d2 : decide (x ≤ (57 : Int)) = true := decide_eq_true (by omega)
  have d3 : decide ((48 : Int) < x) = true := decide_eq_true (by omega)
  have d4 : decide ((0 : Int) < x - 48) = true := decide_eq_true (by omega)
  have d5 : decide ((9999 : Int) < x - 48) = false := decide_eq_false (by omega)
  have hln : (l.length : Int) = (at_ : Int) + 1 := by omega
  clear H hx
  go_enter Tryd.func36, Tryd.ntmps36
  go_wp2_with fail
  go_loopw [3, 4] (fun v3 _ wr => (v3 = .int .i64 0 ∧ RgIn w0 wr q (some d) k l at_ c wh er) ∨ (v3 = .int .i64 (x - 48) ∧ RgIn w0 wr q (some d) k l l.length c wh er)) (fun v3 _ _ => if intOf v3 = 0 then 1 else 0)
  case atStart => exact .inl ⟨rfl, HH.out⟩
  case round =>
    rcases hrel with ⟨rfl, hr⟩ | ⟨rfl, hr⟩
    · obtain ⟨c0, c1, c2, c3, c4, c5, c6, c7, c8⟩ := hr.cs
      have f1 := hr.fr 1
      have hxr := HD.out _ hr.low
      have HR := Lib.hid hr
      have h4 := (HS.out _ hr).cs.2.2.2.2.1
      rw [hc0] at c4 h4
      have HQ := Lib.hid (fun m => HS.out _ (hr.drewN m))
      clear hr hln hl
      generalize l.length = n at *
      go_wp2_with fail
      go_quiet (fail)
      go_wp2_with fail
      go_quiet (fail)
      go_wp2_with fail
      go_roundw
      case rel => exact .inr ⟨rfl, HQ.out _⟩
      case measure => have h9 : ¬ (x - 48 = 0) := by omega
                      simp [intOf, h9]
    · obtain ⟨c0, c1, c2, c3, c4, c5, c6, c7, c8⟩ := hr.cs
      have HR := Lib.hid hr
      clear hr hln hl i0 i1 dn HS HD hdb hcell hcap hcapm
      obtain ⟨n, hn⟩ : ∃ n, l.length = n := ⟨_, rfl⟩
      rw [hn] at c0 c1 dz
      clear hn
      go_wp2_with fail
      go_quiet (fail)
      go_wp2_with fail
      go_quiet (fail)
      go_wp2_with fail
      go_ret
      first | exact ⟨rfl, (HR.out.drewN _).drewN _⟩ | exact ⟨rfl, HR.out.drewN _⟩
end
end Go.Proofs.YtjmpokgdgnjojaaDoor
