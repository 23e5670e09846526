/-
  Drop of both, at this seat's numbers.
-/
import Derived.Test.YtdkgnmomkimpoaaFeM
import Derived.Test.YtdkgnmomkimpoaaFeS
namespace Go.Proofs.Ytdkgnmomkimpoaa
open Go Go.RowKit
set_option linter.unusedVariables false

theorem sumL_take {P : List (List Int)} {j : Nat} {l : List Int} (h : P[j]? = some l) : sumL (P.take (j + 1)) = sumL (P.take j) + l.length := by
  rw [List.take_add_one, h, sumL_app]; simp [sumL]
theorem sumL_small {P : List (List Int)} (hn : P.length ≤ 8) (h : ∀ l ∈ P, l.length ≤ 100) (j : Nat) : sumL (P.take j) ≤ 800 := by
  have := sumL_le (P := P.take j) (fun l hl => h l (List.mem_of_mem_take hl))
  rw [List.length_take] at this
  omega

set_option maxRecDepth 100000 in
set_option maxHeartbeats 4000000 in
theorem fdrop {w : World} {B f room : Nat} {S : Fs} (H : FdS w B f room S) (hs : ∀ l ∈ S.ps, l.length ≤ 100) :
    Calls Try.prog 22 #[pbox f] w fun e w' => e = .returned (.int .i64 (sumL S.ps)) ∧ FdS w' B f room ⟨S.ty, [], S.fu⟩ ∧ FMv B w w' := by
  have h8 := H.few
  obtain ⟨h, c, v, L, HF, h1, h2, h3⟩ := H
  obtain ⟨a, k, rfl⟩ := HF.form
  obtain ⟨c0, c1, c2, c3, f2, f3⟩ := HF.cells
  obtain ⟨q1, q2, q3, q4⟩ := HF.ne
  obtain ⟨s, r, hty⟩ := HF.typ
  have HH := Lib.hid (has_of HF)
  have hF2 : Hid (FdS (w.setCell ⟨h, 1, none⟩ (.slice none 0 0)) B f room ⟨S.ty, [], S.fu⟩ ∧ FMv B w (w.setCell ⟨h, 1, none⟩ (.slice none 0 0))) :=
    Lib.hid ⟨⟨h, c, _, [], ⟨(heap_set_other q1).trans HF.box, heap_set_at HF.wat, ⟨s, r, (heap_set_other (Ne.symm q3)).trans hty⟩, t_nil _ _ _ _, fun x hx => (by cases hx), List.nodup_nil, ⟨HF.lo.1, HF.lo.2.1, HF.lo.2.2.1, fun x hx => (by cases hx)⟩⟩, rfl, Nat.zero_le _, h3⟩, FMv.set HF.wat (.inr (.inl rfl)) HF.lo.2.1⟩
  have hrd := t_rd HF.own
  have HL : Hid (∀ j, j < L.length → ∃ g b l, a = some ⟨g, 0, none⟩ ∧ w.cell? ⟨g, j, none⟩ = some (.chan (some b)) ∧ S.ps[j]? = some l ∧ (Builtin.len_ #[73] 3 #[.chan (some b)]).run Try.prog w = .ok (.int .i64 l.length) w) := Lib.hid fun j hj => by
    obtain ⟨g, o, e1, _, hc⟩ := hrd.2 (by omega)
    have hx := List.getElem?_eq_getElem hj
    obtain ⟨⟨kk, ss, rr, hb⟩, _⟩ := HF.pks L[j] (List.getElem_mem hj)
    have hcj := hc j (chV L[j]) (by rw [List.getElem?_map, hx]; rfl)
    rcases t_form HF.own with ⟨_, h0, _⟩ | ⟨g', e2, _⟩
    · omega
    · rw [e2] at e1
      cases e1
      rw [Nat.zero_add] at hcj
      exact ⟨g, L[j].1, L[j].2, e2, hcj, by rw [← h1, List.getElem?_map, hx]; rfl, len_chan Try.underlying73 hb⟩
  have HT : Hid (S.ps.take L.length = S.ps) := Lib.hid (by rw [← h1]; exact List.take_of_length_le (by simp))
  have HS := Lib.hid (fun j => sumL_small h8 hs j)
  have hl8 : L.length ≤ 8 := by rw [← h1, List.length_map] at h2; exact h2
  generalize L.length = n at *
  clear HF h1 h2 h3 q1 q2 q3 q4 hty hrd hs
  go_enter Try.func22, Try.ntmps22
  go_wp2_with fail
  refine HH.out.mono ?_; rintro e w1 ⟨rfl, rfl⟩
  go_wp2_with fail
  go_loopw [4, 14] (fun v4 v14 wr => ∃ j : Nat, j ≤ n ∧ v4 = .int .i64 (sumL (S.ps.take j)) ∧ v14 = .int .i64 j ∧ w = wr) (fun _ v14 _ => n - (intOf v14).toNat)
  case atStart => exact ⟨0, Nat.zero_le _, by simp [sumL], rfl, rfl⟩
  case round =>
    obtain ⟨j, hj, rfl, rfl, rfl⟩ := hrel
    by_cases hlt : j < n
    · obtain ⟨g, b, l, rfl, hcell, hpj, hlen⟩ := HL.out j hlt
      have hs1 := HS.out j
      have hs2 := HS.out (j + 1)
      rw [sumL_take hpj] at hs2
      have HE := Lib.hid (sumL_take hpj)
      clear hpj
      go_wp2_with fail
      go_roundw
      case rel => exact ⟨j + 1, by omega, int_eq (by rw [HE.out]; omega), int_eq (by omega), trivial⟩
      case measure => simp [intOf]; omega
    · obtain rfl : j = n := by omega
      rw [HT.out]
      go_wp2_with fail
      go_ret
      exact ⟨rfl, hF2.out⟩

set_option maxRecDepth 100000 in
set_option maxHeartbeats 4000000 in
theorem rdrop {w0 w : World} {B r room : Nat} {tv pv : Value} {S : Fs} {Q : List RwF} (H : Rf w0 w B r room tv pv S Q) (hp : S.ps.length ≤ 8) (hs : ∀ l ∈ S.ps, l.length ≤ 100) :
    Calls Try.prog 34 #[pbox r] w fun e w' => e = .returned (.int .i64 (sumL S.ps)) ∧ Rf w0 w' B r room tv (.slice none 0 0) ⟨S.ty, [], S.fu⟩ [] ∧ RMv B w w' := by
  obtain ⟨a, k, rfl⟩ := H.pform
  obtain ⟨c0, c1, c2, c3, f1, f2, f3⟩ := H.cs
  obtain ⟨h4, m4⟩ := H.packs (pv' := .slice none 0 0) (Q' := []) (t_nil _ _ _ _) (fun q hq => (by cases hq))
  have HP := Lib.hid (And.intro h4 m4)
  have hrd := t_rd H.op
  have HL : Hid (∀ j, j < Q.length → ∃ (g : Nat) (q : Option Addr × Nat) (l : List Int), a = some ⟨g, 0, none⟩ ∧ w.cell? ⟨g, j, none⟩ = some (.slice q.1 l.length q.2) ∧ S.ps[j]? = some l) := Lib.hid fun j hj => by
    obtain ⟨g, o, e1, _, hc⟩ := hrd.2 (by omega)
    have hx := List.getElem?_eq_getElem hj
    have hcj := hc j (pkV Q[j]) (by rw [List.getElem?_map, hx]; rfl)
    rcases t_form H.op with ⟨_, h0, _⟩ | ⟨g', e2, _⟩
    · omega
    · rw [e2] at e1
      cases e1
      rw [Nat.zero_add] at hcj
      exact ⟨g, (Q[j].1, Q[j].2.1), Q[j].2.2, e2, hcj, by rw [← H.ps, List.getElem?_map, hx]; rfl⟩
  have HT : Hid (S.ps.take Q.length = S.ps) := Lib.hid (by rw [← H.ps]; exact List.take_of_length_le (by simp))
  have HS := Lib.hid (fun j => sumL_small hp hs j)
  have hl8 : Q.length ≤ 8 := by rw [← H.ps, List.length_map] at hp; exact hp
  generalize Q.length = n at *
  clear H h4 m4 hrd hs hp
  go_enter Try.func34, Try.ntmps34
  go_wp2_with fail
  go_loopw [3, 11] (fun v3 v11 wr => ∃ j : Nat, j ≤ n ∧ v3 = .int .i64 (sumL (S.ps.take j)) ∧ v11 = .int .i64 j ∧ w = wr) (fun _ v11 _ => n - (intOf v11).toNat)
  case atStart => exact ⟨0, Nat.zero_le _, by simp [sumL], rfl, rfl⟩
  case round =>
    obtain ⟨j, hj, rfl, rfl, rfl⟩ := hrel
    by_cases hlt : j < n
    · obtain ⟨g, q, l, rfl, hcell, hpj⟩ := HL.out j hlt
      have hs1 := HS.out j
      have hs2 := HS.out (j + 1)
      rw [sumL_take hpj] at hs2
      have HE := Lib.hid (sumL_take hpj)
      clear hpj
      go_wp2_with fail
      go_roundw
      case rel => exact ⟨j + 1, by omega, int_eq (by rw [HE.out]; omega), int_eq (by omega), trivial⟩
      case measure => simp [intOf]; omega
    · obtain rfl : j = n := by omega
      rw [HT.out]
      go_wp2_with fail
      go_ret
      exact ⟨rfl, HP.out⟩
end Go.Proofs.Ytdkgnmomkimpoaa
