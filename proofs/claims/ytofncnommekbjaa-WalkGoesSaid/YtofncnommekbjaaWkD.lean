/-
  The contract of leaves' iterator at a tree that is one leaf.
-/
import Derived.Test.YtofncnommekbjaaWkC
import Derived.Sort.BigQuietIn
namespace Go.Proofs.Ytofncnommekbjaa
open Go Go.RowKit Go.Shelf
set_option linter.unusedVariables false
attribute [local go_sem] Oper.semAt_some

def spotV (b : Nat) (f : Nat) : Value := .agg #[.pointer (some ⟨b, 0, none⟩), .int .i64 (f : Int)]

def sliceLen : Value → Nat
  | .slice _ n _ => n
  | _ => 0

set_option maxRecDepth 100000 in
set_option maxHeartbeats 2000000 in
theorem leaf_iter (n n₀ Bi Bj Bt Bp : Nat) {w : World} {b : Nat} {L : List Value} (pile : Value) (hi : Bi < w.heap.size) (hj : Bj < w.heap.size) (ht : Bt < w.heap.size) (hn : n₀ ≤ w.heap.size)
    (ci : w.cell? ⟨Bi, 0, none⟩ = some (.int .i64 0)) (cj : w.cell? ⟨Bj, 0, none⟩ = some (.int .i64 L.length)) (ct : w.cell? ⟨Bt, 0, none⟩ = some (ptr b)) (HT : Tin w 95 (ptr b) L) (H : In w 95 0 L b) (hL : 0 < L.length) (hl : L.length ≤ 1000000) :
    Iter Fence.wide n Try.prog 103 #[.pointer (some ⟨Bi, 0, none⟩), .pointer (some ⟨Bj, 0, none⟩), .pointer (some ⟨Bt, 0, none⟩), .pointer (some ⟨Bp, 0, none⟩)] (fun x : Nat × Nat => #[spotV x.1 x.2]) n₀ (fun ys => ys = [(b, 0)]) (fun pre => pre <+: [(b, 0)]) (fun pre x => [(b, 0)][pre.length]? = some x) (fun _ => False) w := fun l J Jx W hW hJ hJx hY h0 => by
  have ci' := (hW.cell (p := ⟨Bi, 0, none⟩) hi).trans ci
  have cj' := (hW.cell (p := ⟨Bj, 0, none⟩) hj).trans cj
  have ct' := (hW.cell (p := ⟨Bt, 0, none⟩) ht).trans ct
  have HR := Lib.hid ((callsIn_wide (n := n - 1)).2 (root_i (HT.below hW)))
  obtain ⟨ka, kc, k0, k1, k2⟩ := (H.below hW).items
  have hblt := (H.below hW).lt
  have kn := (H.below hW).num
  rw [flatL_zero] at kn
  obtain ⟨len, hln⟩ : ∃ len, L.length = len := ⟨_, rfl⟩
  rw [hln] at cj' hL hl k1 kn
  have hne : decide ((0 : Int) = len) = false := by simp; omega
  clear ci cj ct H HT k2 hln
  refine callsIn_of_wp Try.func103 rfl trivial ?_ rfl
  simp only [Try.ntmps103, List.size_toArray, List.length_cons, List.length_nil, Nat.reduceAdd, Nat.reduceSub, Array.replicate_succ, Array.replicate_zero, List.push_toArray, List.append_toArray, List.nil_append, List.cons_append]
  gi_wp2
  refine ⟨trivial, fun h => by simp [Fence.wide] at h, HR.out.mono ?_⟩
  rintro e w1 ⟨rfl, hb1⟩
  have ci1 := (hb1.cell (p := ⟨Bi, 0, none⟩) (Nat.lt_of_lt_of_le hi hW.size)).trans ci'
  have cj1 := (hb1.cell (p := ⟨Bj, 0, none⟩) (Nat.lt_of_lt_of_le hj hW.size)).trans cj'
  have k01 := (hb1.cell (p := ⟨b, 0, none⟩) hblt).trans k0
  have kn1 := (hb1.cell (p := ⟨b, 2, none⟩) hblt).trans kn
  have hblt1 := Nat.lt_of_lt_of_le hblt hb1.size
  have hi1 := Nat.lt_of_lt_of_le (Nat.lt_of_lt_of_le hi hW.size) hb1.size
  have hj1 := Nat.lt_of_lt_of_le (Nat.lt_of_lt_of_le hj hW.size) hb1.size
  have hnW : n₀ ≤ W.heap.size := Nat.le_trans hn hW.size
  obtain ⟨w2, hw2, hb2, hz2, c20, c21⟩ : ∃ w2, w1.alloc (Obj.cells #[.pointer (some ⟨b, 0, none⟩), .int .i64 0] 110) = w2 ∧ Below w1.heap.size w1 w2 ∧ w2.heap.size = w1.heap.size + 1 ∧ w2.cell? ⟨w1.heap.size, 0, none⟩ = some (ptr b) ∧ w2.cell? ⟨w1.heap.size, 1, none⟩ = some (.int .i64 0) :=
    ⟨_, rfl, t_al _ _, by simp, by rw [cell_at (heap_alloc_new _ _)]; rfl, by rw [cell_at (heap_alloc_new _ _)]; rfl⟩
  clear HR ci' cj' ct' k0 kn k1
  gi_wp2
  have bJ := hb1.trans (hb2.mono hb1.size)
  have ci2 := (hb2.cell (p := ⟨Bi, 0, none⟩) hi1).trans ci1
  have cj2 := (hb2.cell (p := ⟨Bj, 0, none⟩) hj1).trans cj1
  have k02 := (hb2.cell (p := ⟨b, 0, none⟩) hblt1).trans k01
  have kn2 := (hb2.cell (p := ⟨b, 2, none⟩) hblt1).trans kn1
  have hi2 := Nat.lt_of_lt_of_le hi1 hb2.size
  have hj2 := Nat.lt_of_lt_of_le hj1 hb2.size
  have hblt2 := Nat.lt_of_lt_of_le hblt1 hb2.size
  obtain ⟨z, hz⟩ : ∃ z, w1.heap.size = z := ⟨_, rfl⟩
  rw [hz] at hz2 c20 c21 ⊢
  clear hw2 hb1 hb2 ci1 cj1 k01 kn1 hi1 hj1 hblt1 hz
  gi_loopw [6] (fun s wr => (s = .slice (some ⟨z, 0, none⟩) 1 1 ∧ wr = w2) ∨ (s = .slice (some ⟨z, 0, none⟩) 0 1 ∧ J [(b, 0)] (fun _ => False) wr)) (fun s _ => sliceLen s)
  case atStart => exact .inl ⟨rfl, rfl⟩
  case round =>
    rcases hrel with ⟨rfl, rfl⟩ | ⟨rfl, hJ1⟩
    · gi_wp2
      have al := t_al wr (Obj.cells #[.pointer (some ⟨b, 0, none⟩), .int .i64 0] 110)
      obtain ⟨w3, hw3, hb3, d0, d1⟩ : ∃ w3, wr.alloc (Obj.cells #[.pointer (some ⟨b, 0, none⟩), .int .i64 0] 110) = w3 ∧ Below wr.heap.size wr w3 ∧ w3.cell? ⟨wr.heap.size, 0, none⟩ = some (ptr b) ∧ w3.cell? ⟨wr.heap.size, 1, none⟩ = some (.int .i64 0) :=
        ⟨_, rfl, t_al _ _, by rw [cell_at (heap_alloc_new _ _)]; rfl, by rw [cell_at (heap_alloc_new _ _)]; rfl⟩
      have bJ3 := bJ.trans (hb3.mono bJ.size)
      have ci3 := (hb3.cell (p := ⟨Bi, 0, none⟩) hi2).trans ci2
      have cj3 := (hb3.cell (p := ⟨Bj, 0, none⟩) hj2).trans cj2
      have k03 := (hb3.cell (p := ⟨b, 0, none⟩) hblt2).trans k02
      have kn3 := (hb3.cell (p := ⟨b, 2, none⟩) hblt2).trans kn2
      rw [hz2] at d0 d1
      have hA : decide (len = 0) = false := by simp; omega
      clear al
      rw [hw3]
      clear hw3
      gi_big_quiet_th (fail)
      have hJq : J [] (fun _ => False) (w3.drewN nq) := hJ.below h0 (bJ3.trans ⟨rfl, rfl, rfl, Nat.le_refl _, fun _ _ => rfl⟩)
      obtain ⟨fn, tmps, assign, body, hy, hR⟩ := hY [] (b, 0) _ _ hJq (fun _ h => h.elim) rfl
      simp only [spotV, Int.ofNat_zero] at hy
      gi_wp2
      refine ⟨fun h => by simp [Fence.wide] at h, hR.mono ?_⟩
      rintro e W3 ⟨_, (⟨rfl, hJ3, _⟩ | ⟨rfl, hJx3⟩)⟩
      · gi_wp2
        go_roundw
        case rel => exact .inr ⟨rfl, hJ3⟩
        case measure => simp [sliceLen]
      · gi_wp2
        refine bodyPost_ret (results_none rfl _ _ _) rfl ?_
        exact ⟨⟨_, rfl⟩, .inr ⟨_, _, List.prefix_refl _, hJx3⟩⟩
    · gi_wp2
      go_end0
      exact ⟨⟨_, rfl⟩, .inl ⟨_, _, rfl, hJ1⟩⟩

end Go.Proofs.Ytofncnommekbjaa
