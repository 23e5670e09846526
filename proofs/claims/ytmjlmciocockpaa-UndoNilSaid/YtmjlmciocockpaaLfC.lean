/-
  Push and Pop of numbers that wait, at this seat's numbers.
-/
import Derived.Test.YtmjlmciocockpaaLfB
import Derived.Maps.AppendAt
namespace Go.Proofs.Ytmjlmciocockpaa
open Go Go.RowKit
set_option linter.unusedVariables false

theorem info_int : (Try.prog.info? 3).map (fun i => (i.zero, i.size, i.bytes)) = some (some (.int .i64 0), 1, 8) := by kernel_rfl
theorem adr_of {g : Option Nat} {b : Nat} (h : adr g = some ⟨b, 0, none⟩) : g = some b := by
  cases g with
  | none => simp [adr] at h
  | some b' => simp [adr] at h; rw [h]
theorem adr_form {w : World} {B sz n : Nat} {e : TypeId} {v : Value} {xs : List Value} (h : w.ownsRow B e sz v n xs) : ∃ g c, v = .slice (adr g) n c ∧ v.ownBlock = g := by
  rcases h.2 with ⟨h1, h2⟩ | ⟨g, cap, cur, h1, _⟩
  · exact ⟨none, 0, by rw [h1, h2]; rfl, by rw [h1]; rfl⟩
  · exact ⟨some g, cap, h1, by rw [h1]; rfl⟩
theorem Mv.of_map {p m : Nat} {g : Option Nat} {w w' : World} (h : w.grownBy w' (some m)) : Mv p m g g w w' :=
  ⟨⟨h.os, h.tape, h.output, h.size, fun _ hk => absurd hk (Nat.not_lt_zero _)⟩, fun b hb h1 h2 h3 => h.block b hb (fun e => h2 (by injection e)), fun b e => .inl e⟩

set_option maxRecDepth 100000 in
set_option maxHeartbeats 8000000 in
/-- A number comes behind the others. -/
theorem wpush_of {w : World} {p m : Nat} {g : Option Nat} {c : Nat} {D : DataW Unit} {R : List Int} (h : Hw w p m g c D R) (hn : R.length ≤ 1000000) {x : Int} (wx : Wf x) (hx : x ∉ R) :
    Calls Try.prog 96 #[.pointer (some ⟨p, 0, none⟩), .iface 3 (.int .i64 x)] w fun e' w' => e' = .returned (.tuple #[]) ∧ ∃ g' c' D', Hw w' p m g' c' D' (R ++ [x]) ∧ Mv p m g g' w w' := by
  obtain ⟨i0, hi0, hz0, hz1, hz2⟩ := info_parts info_int
  obtain ⟨c0, c1, f0⟩ := h.cells
  obtain ⟨hpm, hgp, hgm⟩ := h.pm
  have hlt := h.lt
  have hta : ∀ w' : World, (Instr.typeAssert (.iface 3 (.int .i64 x)) 20 3 false).run Try.prog w' = .ok (.int .i64 x) w' := fun w' => by kernel_rfl
  obtain ⟨w2, E2, M2, G2⟩ := World.ownsMap.update (t := 70) (w := w.drew) (val := .int .i64 (R.length : Int)) h.map lawI Try.underlying70 (by unfold maxLen; omega) (keyI wx) (plI (wf_small hn))
  have same2 : ∀ k, k < w.heap.size → k ≠ m → w2.heap[k]? = w.heap[k]? := fun k hk hm => G2.block k hk (fun e => hm (by injection e))
  have box2 := (same2 p hlt.1 hpm).trans h.box
  have own2 : w2.ownsRow 0 3 1 (.slice (adr g) R.length c) R.length (nums R) := own_same h.own (fun k hk => by
    rw [adr_own] at hk
    exact same2 k (hlt.2.2 k hk) (fun e => hgm (by rw [hk, e])))
  have c02 : w2.cell? ⟨p, 0, none⟩ = some (.slice (adr g) R.length c) := by rw [cell_at box2]; rfl
  have HOA : Hid ((w2.alloc (.cells #[.int .i64 x] 3)).ownsRow 0 3 1 (.slice (adr g) R.length c) R.length (nums R)) := Lib.hid (own2.alloc _)
  have C1 : Hid (∀ q u, ([.int .i64 x] : List Value)[q]? = some u → (w2.alloc (.cells #[.int .i64 x] 3)).cell? (Addr.add ⟨w2.heap.size, 0, none⟩ q) = some u) := by
    intro q u hq
    rw [Addr.add_lit, Nat.zero_add, cell_at (heap_alloc_new _ _)]
    simpa using hq
  have C3 : Hid (R.length + 1 ≤ maxLen) := by show _ ≤ _; unfold maxLen; omega
  have C4 : Hid ((R.length + 1) * 8 ≤ 140737488355328) := by show _ ≤ _; omega
  have HP : Hid (∀ v' w', w'.ownsRow 0 3 1 v' (R.length + 1) (nums R ++ [.int .i64 x]) → (w2.alloc (.cells #[.int .i64 x] 3)).grownBy w' (Value.slice (adr g) R.length c).ownBlock → (v'.ownBlock = (Value.slice (adr g) R.length c).ownBlock ∨ v'.ownBlock = some (w2.alloc (.cells #[.int .i64 x] 3)).heap.size) →
      (∃ ag' c', v' = .slice ag' (R.length + 1) c') ∧ w'.cell? ⟨p, 0, none⟩ = some (.slice (adr g) R.length c) ∧ w'.frozen? ⟨p, 0, none⟩ = false ∧ ∃ g' c' D', Hw (w'.setCell ⟨p, 0, none⟩ v') p m g' c' D' (R ++ [x]) ∧ Mv p m g g' w (w'.setCell ⟨p, 0, none⟩ v')) := by
    intro v' w' ho hg hl
    rw [adr_own] at hg hl
    obtain ⟨g', c', rfl, hgb⟩ := adr_form ho
    rw [hgb] at hl
    have hbk : ∀ k, k < w2.heap.size → g ≠ some k → w'.heap[k]? = w2.heap[k]? := fun k hk hne => (hg.block k (by simp; omega) (fun e => hne e.symm)).trans ((t_al w2 _).block k hk)
    have hp2 : p < w2.heap.size := Nat.lt_of_lt_of_le hlt.1 G2.size
    have hm2 : m < w2.heap.size := M2.lt
    have boxw := (hbk p hp2 hgp).trans box2
    have g'p : g' ≠ some p := fun e => own_ne ho boxw (by decide) (by rw [adr_own]; exact e)
    have g'm : g' ≠ some m := by
      rcases hl with e | e
      · rw [e]; exact hgm
      · rw [e]; intro e'; injection e' with e'; simp at e'; omega
    have hix := h.ix.push hx
    refine ⟨⟨_, _, rfl⟩, by rw [cell_at boxw]; rfl, unfrozen boxw 0, g', c', _, ⟨?_, ?_, ?_, hix, ?_, ?_⟩, ⟨?_, fun k hk h1 h2 h3 => ?_, fun k e => ?_⟩⟩
    · rw [heap_set_at boxw, List.length_append]; rfl
    · rw [List.length_append, ← nums_app]
      exact own_set ho (by rw [adr_own]; exact g'p)
    · refine (Mp.same (M2.mono (Nat.le_refl _)) ?_).tight (Nat.le_of_eq hix.size)
      rw [heap_set_other hpm.symm]; exact hbk m hm2 hgm
    · exact List.nodup_append.2 ⟨h.nd, by simp, fun a ha b hb e => hx (by rw [List.mem_singleton.1 hb] at e; exact e ▸ ha)⟩
    · intro z hz
      rcases List.mem_append.1 hz with hz | hz
      · exact h.wf z hz
      · rw [List.mem_singleton.1 hz]; exact wx
    · exact ((((Below.refl 0 w).drew.grown G2 (Nat.zero_le _) (fun _ _ => Nat.zero_le _)).alloc (Nat.zero_le _) _).grown hg (Nat.zero_le _) (fun _ _ => Nat.zero_le _)).setCell (p := ⟨p, 0, none⟩) (Nat.zero_le _) _
    · rw [heap_set_other h1, hbk k (Nat.lt_of_lt_of_le hk G2.size) h3, same2 k hk h2]
    · rcases hl with e' | e'
      · exact .inl (e' ▸ e)
      · rw [e'] at e; injection e with e
        refine .inr ?_
        rw [← e]; have := G2.size; simp only [World.size_alloc]; simp only [World.drew] at this; omega
  generalize R.length = n at *
  generalize adr g = ag at *
  clear M2 G2 same2 box2 own2 hpm hgp hgm hlt wx hx h
  go_enter Try.func96, Try.ntmps96
  go_wp2_with fail
  go_big_region
  all_goals
    go_wp2_with (at_builtin; refine wpList_append_own_at _ rfl _ _ 37 rfl 0 3 i0 (.int .i64 0) 1 8 Try.underlying37 hi0 hz0 hz1 hz2 rfl (by decide) _ _ _ rfl HOA.out ⟨w2.heap.size, 0, none⟩ 1 1 [.int .i64 x] rfl rfl C1.out (ints_oneCell .i64 [x]) C3.out C4.out (Nat.zero_le _) ?_; intro v' w' ho hg hnil hloc; obtain ⟨⟨ag', cg', rfl⟩, cw, fw, hpost⟩ := HP.out v' w' ho hg hloc; have HPO := Lib.hid hpost; clear ho hg hnil hloc hpost)
    go_end0
    exact ⟨rfl, HPO.out⟩

set_option maxRecDepth 100000 in
set_option maxHeartbeats 8000000 in
/-- The last number goes. -/
theorem wpop_of {w : World} {p m : Nat} {g : Option Nat} {c : Nat} {D : DataW Unit} {R : List Int} {x : Int} (h : Hw w p m g c D (R ++ [x])) (hn : R.length ≤ 1000000) :
    Calls Try.prog 95 #[.pointer (some ⟨p, 0, none⟩)] w fun e' w' => e' = .returned (.iface 3 (.int .i64 x)) ∧ ∃ D', Hw w' p m g c D' R ∧ Mv p m g g w w' := by
  have hlen : (R ++ [x]).length = R.length + 1 := by simp
  obtain ⟨c0, c1, f0⟩ := h.cells
  obtain ⟨hpm, hgp, hgm⟩ := h.pm
  obtain ⟨b, rfl, hb, x0, xf, hc, hcm⟩ := h.num (i := R.length) (by simp)
  rw [gN_last] at x0
  have wx : Wf x := h.wf x (by simp)
  have hix := h.ix.pop h.nd
  have hlt := h.lt
  rw [hlen] at c0 hc
  simp only [adr, Option.map_some] at c0
  have boxS : (w.setCell ⟨p, 0, none⟩ (.slice (some ⟨b, 0, none⟩) R.length c)).heap[p]? = some (.cells #[.slice (some ⟨b, 0, none⟩) R.length c, .map (some m)] 72 (0, 0)) := by rw [heap_set_at h.box]; rfl
  have mapS : Mp (w.setCell ⟨p, 0, none⟩ (.slice (some ⟨b, 0, none⟩) R.length c)) m (R.length + 1) D := (h.map.same (heap_set_other hpm.symm)).tight (by rw [h.ix.size]; simp)
  have c1S : (w.setCell ⟨p, 0, none⟩ (.slice (some ⟨b, 0, none⟩) R.length c)).cell? ⟨p, 1, none⟩ = some (.map (some m)) := by rw [cell_at boxS]; rfl
  have blkS : ∀ k, k ≠ p → (w.setCell ⟨p, 0, none⟩ (.slice (some ⟨b, 0, none⟩) R.length c)).heap[k]? = w.heap[k]? := fun k hk => heap_set_other hk
  obtain ⟨wS, hwS⟩ : ∃ wS, w.setCell ⟨p, 0, none⟩ (.slice (some ⟨b, 0, none⟩) R.length c) = wS := ⟨_, rfl⟩
  have lowS : Below 0 w wS := by rw [← hwS]; exact (Below.refl 0 w).setCell (p := ⟨p, 0, none⟩) (Nat.zero_le _) _
  have szS : wS.heap.size = w.heap.size := by rw [← hwS, size_set]
  rw [hwS] at boxS mapS c1S blkS
  have HP : Hid (∀ w', Mp w' m (R.length + 1) (D.del (kI x)) → wS.grownBy w' (some m) → ∃ D', Hw w' p m (some b) c D' R ∧ Mv p m (some b) (some b) w w') := by
    intro w' M' G'
    have hp : p < wS.heap.size := by rw [szS]; exact hlt.1
    have hbS : b < wS.heap.size := by rw [szS]; exact hb
    have hbp : b ≠ p := fun e => hgp (by rw [e])
    have hbm : b ≠ m := fun e => hgm (by rw [e])
    have sm : ∀ k, k < wS.heap.size → k ≠ m → w'.heap[k]? = wS.heap[k]? := fun k hk hm => G'.block k hk (fun e => hm (by injection e))
    obtain ⟨_, hh⟩ := h.own
    refine ⟨_, ⟨?_, ?_, M'.tight (Nat.le_of_eq hix.size), hix, (List.nodup_append.1 h.nd).1, fun z hz => h.wf z (by simp [hz])⟩, ⟨?_, fun k hk h1 h2 h3 => ?_, fun k e => .inl e⟩⟩
    · rw [sm p hp hpm]; exact boxS
    · rcases hh with ⟨h1, _⟩ | ⟨g', cap, cur, h1, hB, hgg, hnc, hcc, hsz, ht⟩
      · cases h1
      · simp only [adr, Option.map_some, Value.slice.injEq, Option.some.injEq, Addr.mk.injEq, and_true, true_and] at h1
        obtain ⟨rfl, rfl⟩ := h1
        refine ⟨by rw [nums_len, Nat.mul_one], .inr ⟨b, c, cur, rfl, hB, ?_, by omega, hcc, hsz, ?_⟩⟩
        · rw [sm b hbS hbm, blkS b hbp]; exact hgg
        · rw [hlen] at ht
          have e1 : (nums (R ++ [x])).take (R.length * 1) = nums R := by rw [nums_take, Nat.mul_one, List.take_left]
          rw [← e1, ← ht, List.take_take]
          congr 1
          simp
    · exact lowS.grown G' (Nat.zero_le _) (fun _ _ => Nat.zero_le _)
    · rw [sm k (by rw [szS]; exact hk) h2, blkS k h1]
  have hkey := keyI wx
  generalize R.length = n at *
  have e0 : (0 : Int) ≤ (n : Int) := by omega
  have e1 : (n : Int) < ((n + 1 : Nat) : Int) := by omega
  have e2 : (n : Int) ≤ (c : Int) := by omega
  have hq' : (n : Int) + 1 - 1 = (n : Int) := by omega
  have HM := Lib.hid mapS
  clear hix hlt h hlen wx boxS mapS blkS lowS szS hpm hgp hgm xf hb
  go_enter Try.func95, Try.ntmps95
  go_wp2_with (at_delete; refine wpList_delete_own _ rfl _ _ 70 3 rfl 3 lawI Try.underlying70 _ m (n + 1) D rfl HM.out _ _ rfl hkey ?_; intro w' hown' hturn'; have HPO := Lib.hid (HP.out w' hown' hturn'.grown); clear hown' hturn')
  go_ret
  exact ⟨rfl, HPO.out⟩
end Go.Proofs.Ytmjlmciocockpaa
