/-
  Push, at this seat's numbers.
-/
import Derived.Test.YtdkgnmomkimpoaaFeC
import Derived.Maps.AppendAt
namespace Go.Proofs.Ytdkgnmomkimpoaa
open Go Go.RowKit
set_option linter.unusedVariables false

section
variable {w : World} {B f h c room fu : Nat} {v : Value} {ty : List Int} {L : List (Nat × List Int)}

/-- What Push says. -/
def pushE (l : List Int) (n : Nat) : Int := if 100 < l.length then 7 else if l = [] then 0 else if n = 8 then 6 else 0

set_option maxRecDepth 100000 in
theorem push_no (H : Fd w B f h c room v ty L fu) {a : Option Addr} {k : Nat} {l : List Int} (hl : l.length ≤ 1000000) (hno : 100 < l.length ∨ l = [] ∨ L.length = 8) :
    Calls Try.prog 19 #[pbox f, .slice a l.length k] w fun e w' => e = .returned (.int .i64 (pushE l L.length)) ∧ w = w' := by
  obtain ⟨a', k', rfl⟩ := H.form
  obtain ⟨c0, c1, c2, c3, _⟩ := H.cells
  have HH := Lib.hid (has_of H)
  have heq := eq_chs c
  clear H
  unfold pushE
  have hnil : (l = []) ↔ l.length = 0 := by rw [List.length_eq_zero_iff]
  by_cases h1 : 100 < l.length
  · rw [if_pos h1]
    generalize l.length = n at *
    clear hno hnil
    go_enter Try.func19, Try.ntmps19
    go_wp2_with fail
    refine HH.out.mono ?_; rintro e w1 ⟨rfl, rfl⟩
    go_wp2_with fail
    go_ret
    exact ⟨rfl, rfl⟩
  · rw [if_neg h1]
    by_cases h2 : l = []
    · subst h2
      rw [if_pos rfl]
      clear hno hnil h1 hl
      go_enter Try.func19, Try.ntmps19
      go_wp2_with fail
      refine HH.out.mono ?_; rintro e w1 ⟨rfl, rfl⟩
      go_wp2_with fail
      go_ret
      exact ⟨rfl, rfl⟩
    · have h3 : L.length = 8 := by exact (hno.resolve_left h1).resolve_left h2
      rw [if_neg h2, if_pos h3]
      rw [h3] at c2
      have d1 : decide ((100 : Int) < (l.length : Int)) = false := decide_eq_false (by omega)
      have d2 : ((l.length : Int) == 0) = false := beq_eq_false_iff_ne.2 (by rw [hnil] at h2; omega)
      clear hno hnil h1 hl h2 h3
      go_enter Try.func19, Try.ntmps19
      go_wp2_with fail
      refine HH.out.mono ?_; rintro e w1 ⟨rfl, rfl⟩
      go_wp2_with fail
      go_ret
      exact ⟨rfl, rfl⟩

attribute [-go_sem] Builtin.append_
theorem info_chan : (Try.prog.info? 73).map (fun i => (i.zero, i.size, i.bytes)) = some (some (.chan none), 1, 8) := by kernel_rfl

/-- A pack comes on top. -/
theorem push_app {a' : Option Addr} {k' : Nat} (H : Fd w B f h c room (.slice a' L.length k') ty L fu) {w2 : World} {b : Nat} {l : List Int} (b2 : Below w.heap.size w.drew w2) (p2 : Pk w2 b l) (hb : b = w.heap.size) (z2 : w2.heap.size = b + 1) (h2 : l ≠ []) (h3 : L.length < 8) (hB : B ≤ w.heap.size) :
    ∃ v' W, (∃ a1 k1, v' = .slice a1 (L.length + 1) k1) ∧ (Builtin.append_ #[66, 66] 66 #[.slice a' L.length k', .slice (some ⟨w2.heap.size, 0, none⟩) 1 1]).run Try.prog (w2.alloc (.cells #[.chan (some b)] 73)) = .ok v' W ∧
      W.cell? ⟨h, 1, none⟩ = some (.slice a' L.length k') ∧ W.frozen? ⟨h, 1, none⟩ = false ∧ Fd (W.setCell ⟨h, 1, none⟩ v') B f h c room v' ty (L ++ [(b, l)]) fu ∧ FMv B w (W.setCell ⟨h, 1, none⟩ v') := by
  obtain ⟨i0, hi0, hz0, hz1, hz2⟩ := info_parts info_chan
  have bw2 : Below w.heap.size w w2 := (Below.refl _ w).drew.trans b2
  have H2 := H.below bw2
  have al := t_al w2 (.cells #[.chan (some b)] 73)
  have H3 := H2.below al
  have p3 : Pk (w2.alloc (.cells #[.chan (some b)] 73)) b l := p2.at (al.block b (by omega))
  have hz : (w2.alloc (.cells #[.chan (some b)] 73)).heap.size = b + 2 := by simp [z2]
  have hc := heap_alloc_new w2 (.cells #[.chan (some b)] 73)
  have bw3 : Below w.heap.size w (w2.alloc (.cells #[.chan (some b)] 73)) := bw2.trans (al.mono bw2.size)
  obtain ⟨v', W, hr, o1, g1, _, l1⟩ := run_append_own_at (P := Try.prog) (w2.alloc (.cells #[.chan (some b)] 73)) B 66 66 73 i0 (.chan none) 1 8 Try.underlying66 hi0 hz0 hz1 hz2 rfl (by decide) (.slice a' L.length k') L.length (L.map chV) H3.own ⟨w2.heap.size, 0, none⟩ 1 1 [.chan (some b)] rfl
    (by intro j u hu; rw [Addr.add_lit, Nat.zero_add, cell_at hc]; simpa using hu) (by intro u hu; rw [List.mem_singleton.1 hu]; rfl) (by unfold maxLen; omega) (by omega) (by omega)
  generalize hw3 : w2.alloc (.cells #[.chan (some b)] 73) = w3 at *
  obtain ⟨m1, m2, m3, m4⟩ := H3.lt
  obtain ⟨q1, q2, q3, q4⟩ := H3.ne
  obtain ⟨s, r, hty⟩ := H3.typ
  have nf := own_ne H3.own H3.box (by decide)
  have nh := own_ne H3.own H3.wat (by decide)
  have nch : ∀ (x kk : Nat) (bf : Array Value) (cl : Bool) (ss rr : Nat), w3.heap[x]? = some (.chan kk bf cl ss rr false) → (Value.slice a' L.length k').ownBlock ≠ some x := fun x kk bf cl ss rr hx e => by
    rcases H3.own.2 with ⟨h1, _⟩ | ⟨g, cap, cur, h1, _, hg, _⟩
    · rw [h1] at e; cases e
    · rw [h1] at e; injection e with e; subst e; rw [hx] at hg; cases hg
  have kp : ∀ x, x < w3.heap.size → (Value.slice a' L.length k').ownBlock ≠ some x → W.heap[x]? = w3.heap[x]? := fun x hx hne => g1.block x hx (fun e => hne e.symm)
  have boxW := (kp f m1 nf).trans H3.box
  have watW := (kp h m2 nh).trans H3.wat
  have tyW := (kp c m3 (nch c _ _ _ _ _ hty)).trans hty
  have n'h := own_ne o1 watW (by decide)
  have hset := heap_set_at (o := 1) (u := v') watW
  refine ⟨v', W, ?_, hr, by rw [cell_at watW]; rfl, unfrozen watW 1, ⟨(heap_set_other q1).trans boxW, hset.trans rfl, ⟨s, r, (heap_set_other (Ne.symm q3)).trans tyW⟩, ?_, fun x hx => ?_, ?_, ⟨H.lo.1, H.lo.2.1, H.lo.2.2.1, fun x hx => ?_⟩⟩, ?_⟩
  · rcases o1.2 with ⟨h1, h2'⟩ | ⟨g, cap, cur, h1, _⟩
    · simp at h2'
    · exact ⟨_, _, h1⟩
  · rw [List.length_append, List.map_append]; exact own_set o1 n'h
  · rcases List.mem_append.1 hx with hx | hx
    · obtain ⟨k0, s0, r0, hk⟩ := (H3.pks x hx).1
      exact ⟨(H3.pks x hx).1.at ((heap_set_other (q4 x hx).2.1).trans (kp x.1 (m4 x hx) (nch x.1 _ _ _ _ _ hk))), (H3.pks x hx).2⟩
    · rw [List.mem_singleton.1 hx]
      obtain ⟨k0, s0, r0, hk⟩ := p3
      exact ⟨Pk.at ⟨k0, s0, r0, hk⟩ ((heap_set_other (by have := H.lt.2.1; omega)).trans (kp b (by omega) (nch b _ _ _ _ _ hk))), h2⟩
  · rw [List.map_append]
    refine List.nodup_append.2 ⟨H.nd, by simp, fun x hx y hy e => ?_⟩
    obtain ⟨z, hz', rfl⟩ := List.mem_map.1 hx
    have := H.lt.2.2.2 z hz'
    simp at hy
    omega
  · rcases List.mem_append.1 hx with hx | hx
    · exact H.lo.2.2.2 x hx
    · rw [List.mem_singleton.1 hx]; show B ≤ b; omega
  · refine (FMv.of_below bw3 hB).trans (FMv.trans ⟨((Below.refl B w3).grown g1 (by have := bw3.size; omega) (fun k0 e => ?_)), fun k0 cs t fr e t1 t2 t3 => ?_⟩ (FMv.set watW (.inr (.inl rfl)) H.lo.2.1))
    · rcases H3.own.2 with ⟨h1, _⟩ | ⟨g, cap, cur, h1, hge, _⟩
      · rw [h1] at e; cases e
      · rw [h1] at e; cases e; exact hge
    · exact kp k0 (lt_of_heap e) (own_ne H3.own e (Ne.symm t3))
set_option maxRecDepth 100000 in
set_option maxHeartbeats 8000000 in
theorem push_yes (H : Fd w B f h c room v ty L fu) {a : Option Addr} {k : Nat} {l : List Int} (Hl : Sq w a k l) (h1 : l.length ≤ 100) (h2 : l ≠ []) (h3 : L.length < 8) (hB : B ≤ w.heap.size) :
    Calls Try.prog 19 #[pbox f, .slice a l.length k] w fun e w' => e = .returned (.int .i64 0) ∧ ∃ v' b, Fd w' B f h c room v' ty (L ++ [(b, l)]) fu ∧ FMv B w w' := by
  obtain ⟨i0, hi0, hz0, hz1, hz2⟩ := info_parts info_chan
  obtain ⟨a', k', rfl⟩ := H.form
  obtain ⟨c0, c1, c2, c3, _⟩ := H.cells
  have HH := Lib.hid (has_of H)
  have heq := eq_chs c
  have d1 : decide ((100 : Int) < (l.length : Int)) = false := decide_eq_false (by omega)
  have hpos : 0 < l.length := List.length_pos_iff.2 h2
  have d2 : ((l.length : Int) == 0) = false := beq_eq_false_iff_ne.2 (by omega)
  have d3 : ((L.length : Int) == 8) = false := beq_eq_false_iff_ne.2 (by omega)
  obtain ⟨b, hb⟩ : ∃ b, b = w.drew.heap.size := ⟨_, rfl⟩
  have HP := packed_of (w := w.drew) (Hl.below (Below.refl _ _).drew) h1
  rw [← hb] at HP
  have HP := Lib.hid HP
  have Hb : Hid (b = w.heap.size) := hb
  have HF := Lib.hid H
  have hlt := Lib.hid H.lt
  clear H Hl hb
  go_enter Try.func19, Try.ntmps19
  go_wp2_with fail
  refine HH.out.mono ?_; rintro e w1 ⟨rfl, rfl⟩
  go_wp2_with fail
  have HA := Lib.hid (fun (w2 : World) (p2 : Pk w2 b l) (b2 : Below b w.drew w2) (z2 : w2.heap.size = b + 1) => push_app HF.out (Hb.out ▸ b2 : Below w.heap.size w.drew w2) p2 Hb.out z2 h2 h3 hB)
  go_region_with (first
    | (go_at_call 37
       refine HP.out.mono ?_
       rintro e w2 ⟨rfl, p2, b2, z2⟩
       obtain ⟨_, W, ⟨a1, k1, rfl⟩, hrun, cW, fW, hpost⟩ := HA.out w2 p2 b2 z2
       have HPO := Lib.hid hpost
       have HF2 := HF.out.below ((Below.refl _ w).drew.trans (Hb.out ▸ b2 : Below w.heap.size w.drew w2))
       have e2 := HF2.cells.2.2.1
       have e3 := fun o => (World.cell?_alloc_lt w2 o ⟨h, 1, none⟩ HF2.lt.2.1).trans e2
       clear HF2 p2 b2 z2 hpost))
  all_goals
    go_wp2_with fail
    go_ret
    exact ⟨rfl, _, _, HPO.out⟩
/-- The packs behind Push. -/
def pushP (P : List (List Int)) (l : List Int) : List (List Int) := if 100 < l.length ∨ l = [] ∨ P.length = 8 then P else P ++ [l]
theorem pushP_len {P : List (List Int)} (h : P.length ≤ 8) (l : List Int) : (pushP P l).length ≤ 8 := by
  unfold pushP; split
  · exact h
  · rename_i hn; rw [List.length_append]; simp only [List.length_cons, List.length_nil]; omega
theorem push_of (H : Fd w B f h c room v ty L fu) {a : Option Addr} {k : Nat} {l : List Int} (Hl : Sq w a k l) (hl : l.length ≤ 1000000) (h3 : L.length ≤ 8) (hB : B ≤ w.heap.size) :
    Calls Try.prog 19 #[pbox f, .slice a l.length k] w fun e w' => e = .returned (.int .i64 (pushE l L.length)) ∧ ∃ v' L', Fd w' B f h c room v' ty L' fu ∧ L'.map (·.2) = pushP (L.map (·.2)) l ∧ FMv B w w' := by
  by_cases hno : 100 < l.length ∨ l = [] ∨ L.length = 8
  · refine (push_no H hl hno).mono ?_
    rintro e w' ⟨rfl, rfl⟩
    refine ⟨rfl, v, L, H, ?_, FMv.refl _ _⟩
    unfold pushP
    rw [List.length_map, if_pos hno]
  · have h1 : l.length ≤ 100 := by omega
    have h2 : l ≠ [] := fun e => hno (.inr (.inl e))
    have h4 : L.length < 8 := by omega
    refine (push_yes H Hl h1 h2 h4 hB).mono ?_
    rintro e w' ⟨rfl, v', b, hF, hM⟩
    refine ⟨?_, v', _, hF, ?_, hM⟩
    · unfold pushE
      rw [if_neg (by omega), if_neg h2, if_neg (by omega)]
    · unfold pushP
      rw [List.length_map, if_neg hno, List.map_append]; rfl
end
end Go.Proofs.Ytdkgnmomkimpoaa
