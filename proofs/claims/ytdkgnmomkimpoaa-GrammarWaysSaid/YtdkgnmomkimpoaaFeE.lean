/-
  Next, at this seat's numbers.
-/
import Derived.Test.YtdkgnmomkimpoaaFeD
namespace Go.Proofs.Ytdkgnmomkimpoaa
open Go Go.RowKit
set_option linter.unusedVariables false

theorem own_last {w : World} {B : Nat} {e : TypeId} {a : Option Addr} {n c : Nat} {xs : List Value} {x : Value} (h : w.ownsRow B e 1 (.slice a (n + 1) c) (n + 1) (xs ++ [x])) (hn : xs.length = n) :
    w.ownsRow B e 1 (.slice a n c) n xs ∧ ∃ g, a = some ⟨g, 0, none⟩ ∧ w.cell? ⟨g, n, none⟩ = some x ∧ n + 1 ≤ c ∧ c ≤ maxLen := by
  have rd := t_rd h
  rcases t_form h with ⟨_, h1, _⟩ | ⟨g, rfl, _, _, h1, h2⟩
  · omega
  obtain ⟨_, hh⟩ := h
  refine ⟨?_, g, rfl, ?_, h1, h2⟩
  · rcases hh with ⟨h1, _⟩ | ⟨g', cap, cur, h1, hB, hgg, hnc, hcc, hsz, ht⟩
    · cases h1
    · cases h1
      refine ⟨by rw [hn, Nat.mul_one], .inr ⟨g, c, cur, rfl, hB, hgg, by omega, hcc, hsz, ?_⟩⟩
      have e1 : (xs ++ [x]).take (n * 1) = xs := by rw [Nat.mul_one, ← hn, List.take_left]
      rw [← e1, ← ht, List.take_take]
      congr 1
      simp
  · obtain ⟨g', o', e1, _, hc⟩ := rd.2 (by omega)
    cases e1
    have := hc n x (by rw [← hn]; simp)
    simpa using this

section
variable {w : World} {B f h c room fu : Nat} {v : Value} {ty : List Int} {L : List (Nat × List Int)}

set_option maxRecDepth 100000 in
/-- No fuel is left: all packs are gone. -/
theorem pushed_out (H : Fd w B f h c room v ty L 0) :
    Calls Try.prog 36 #[pbox h] w fun e w' => e = .returned (.tuple #[.int .i64 0, .bool false, .int .i64 12]) ∧ Fd w' B f h c room (.slice none 0 0) ty [] 0 ∧ FMv B w w' := by
  obtain ⟨c0, c1, c2, c3, f2, f3⟩ := H.cells
  obtain ⟨q1, q2, q3, q4⟩ := H.ne
  obtain ⟨s, r, hty⟩ := H.typ
  have HF : Hid (Fd (w.setCell ⟨h, 1, none⟩ (.slice none 0 0)) B f h c room (.slice none 0 0) ty [] 0) :=
    ⟨(heap_set_other q1).trans H.box, heap_set_at H.wat, ⟨s, r, (heap_set_other (Ne.symm q3)).trans hty⟩, t_nil _ _ _ _, fun x hx => (by cases hx), List.nodup_nil, ⟨H.lo.1, H.lo.2.1, H.lo.2.2.1, fun x hx => (by cases hx)⟩⟩
  have HM : Hid (FMv B w (w.setCell ⟨h, 1, none⟩ (.slice none 0 0))) := FMv.set H.wat (.inr (.inl rfl)) H.lo.2.1
  clear H hty
  go_enter Try.func36, Try.ntmps36
  rw [halt_at 6]
  go_wp2_with fail
  go_ret3
  exact ⟨rfl, HF.out, HM.out⟩

/-- The packs when one has lost its first key. -/
def restL (L : List (Nat × List Int)) (b : Nat) (t : List Int) : List (Nat × List Int) := if t = [] then L else L ++ [(b, t)]

theorem len_chan' {w : World} {t n : Nat} {dir : ChanDir} {e : TypeId} (ht : Try.prog.underlying t = some (.chan dir e)) {b k s r : Nat} {cl : Bool} {l : List Int} (h : w.heap[b]? = some (.chan k (nums l).toArray cl s r false)) :
    (Builtin.len_ #[t] n #[.chan (some b)]).run Try.prog w = .ok (.int .i64 l.length) w := len_chan ht h

set_option maxRecDepth 100000 in
set_option maxHeartbeats 8000000 in
theorem pushed_of {b : Nat} {x : Int} {t : List Int} {n : Nat} (H : Fd w B f h c room v ty (L ++ [(b, x :: t)]) (n + 1)) (hn : n < 1000) (hL : L.length < 1000) :
    Calls Try.prog 36 #[pbox h] w fun e w' => e = .returned (.tuple #[.int .i64 x, .bool true, .int .i64 0]) ∧ ∃ v', Fd w' B f h c room v' ty (restL L b t) n ∧ FMv B w w' := by
  obtain ⟨a, k, rfl⟩ := H.form
  obtain ⟨c0, c1, c2, c3, f2, f3⟩ := H.cells
  obtain ⟨q1, q2, q3, q4⟩ := H.ne
  obtain ⟨s, r, hty⟩ := H.typ
  obtain ⟨m1, m2, m3, m4⟩ := H.lt
  obtain ⟨⟨bk, bs, br, hb⟩, _⟩ := H.pks (b, x :: t) (by simp)
  have hq := q4 (b, x :: t) (by simp)
  have ho := H.own
  rw [List.length_append, List.map_append] at ho
  have hlen : (L ++ [(b, x :: t)]).length = L.length + 1 := by simp
  rw [hlen] at c2
  obtain ⟨o1, g, rfl, cg, hk1, hk2⟩ := own_last ho (by simp)
  simp only at hb hq
  obtain ⟨hbf, hbh, hbc⟩ := hq
  -- the worlds on the way
  have boxA : (w.setCell ⟨h, 2, none⟩ (.int .i64 n)).heap[f]? = _ := (heap_set_other q1).trans H.box
  have watA : (w.setCell ⟨h, 2, none⟩ (.int .i64 n)).heap[h]? = _ := heap_set_at H.wat
  have tyA : (w.setCell ⟨h, 2, none⟩ (.int .i64 n)).heap[c]? = _ := (heap_set_other (Ne.symm q3)).trans hty
  have bA : (w.setCell ⟨h, 2, none⟩ (.int .i64 n)).heap[b]? = _ := (heap_set_other hbh).trans hb
  have ownA := own_set (b := h) (o := 2) (u := .int .i64 n) o1 (own_ne o1 H.wat (by decide))
  have ownA' := own_set (b := h) (o := 2) (u := .int .i64 n) ho (own_ne ho H.wat (by decide))
  have cgA : (w.setCell ⟨h, 2, none⟩ (.int .i64 n)).cell? ⟨g, L.length, none⟩ = some (chV (b, x :: t)) := by
    obtain ⟨_, g', e, cg', _, _⟩ := own_last ownA' (by simp)
    cases e; exact cg'
  have hoA : ∀ y ∈ L, (w.setCell ⟨h, 2, none⟩ (.int .i64 n)).heap[y.1]? = w.heap[y.1]? := fun y hy => heap_set_other (q4 y (by simp [hy])).2.1
  have MA : FMv B w (w.setCell ⟨h, 2, none⟩ (.int .i64 n)) := FMv.set H.wat (.inr (.inl rfl)) H.lo.2.1
  generalize hwA : w.setCell ⟨h, 2, none⟩ (.int .i64 n) = wA at *
  have cA1 : wA.cell? ⟨h, 1, none⟩ = some (.slice (some ⟨g, 0, none⟩) (L.length + 1) k) := by rw [cell_at watA]; rw [hlen]; rfl
  have HbA := Lib.hid bA
  have boxB : (wA.setChan b bk (nums t).toArray true bs (br + 1) false).heap[f]? = _ := (heap_setCh _ _ _ _ _ _ _ _ (Ne.symm hbf)).trans boxA
  have watB : (wA.setChan b bk (nums t).toArray true bs (br + 1) false).heap[h]? = _ := (heap_setCh _ _ _ _ _ _ _ _ (Ne.symm hbh)).trans watA
  have tyB : (wA.setChan b bk (nums t).toArray true bs (br + 1) false).heap[c]? = _ := (heap_setCh _ _ _ _ _ _ _ _ (Ne.symm hbc)).trans tyA
  have bB : (wA.setChan b bk (nums t).toArray true bs (br + 1) false).heap[b]? = some (.chan bk (nums t).toArray true bs (br + 1) false) := Conc.heap_setChan _ _ _ _ _ _ _ _ (lt_of_heap bA)
  have gb : g ≠ b := fun e => by
    rw [e] at cgA; simp [World.cell?, bA] at cgA
  have ownB : (wA.setChan b bk (nums t).toArray true bs (br + 1) false).ownsRow B 73 1 (.slice (some ⟨g, 0, none⟩) L.length k) L.length (L.map chV) := own_same ownA fun y hy => heap_setCh _ _ _ _ _ _ _ _ (fun e => gb (by cases hy; exact e))
  have ownB' : (wA.setChan b bk (nums t).toArray true bs (br + 1) false).ownsRow B 73 1 (.slice (some ⟨g, 0, none⟩) (L.length + 1) k) (L.length + 1) (L.map chV ++ [chV (b, t)]) := own_same ownA' fun y hy => heap_setCh _ _ _ _ _ _ _ _ (fun e => gb (by cases hy; exact e))
  have cgB : (wA.setChan b bk (nums t).toArray true bs (br + 1) false).cell? ⟨g, L.length, none⟩ = some (chV (b, t)) := by
    obtain ⟨_, g', e, cg', _, _⟩ := own_last ownB' (by simp)
    cases e; exact cg'
  have hnd := H.nd
  rw [List.map_append] at hnd
  have hbL : ∀ y ∈ L, y.1 ≠ b := fun y hy e => (List.nodup_append.1 hnd).2.2 y.1 (List.mem_map_of_mem hy) b (by simp) e
  have hoB : ∀ y ∈ L, (wA.setChan b bk (nums t).toArray true bs (br + 1) false).heap[y.1]? = w.heap[y.1]? := fun y hy => (heap_setCh _ _ _ _ _ _ _ _ (hbL y hy)).trans (hoA y hy)
  have MB : FMv B w (wA.setChan b bk (nums t).toArray true bs (br + 1) false) := MA.trans (FMv.setCh bA (H.lo.2.2.2 (b, x :: t) (by simp)))
  have lB := len_chan (t := 73) (n := 3) Try.underlying73 bB
  generalize hwB : wA.setChan b bk (nums t).toArray true bs (br + 1) false = wB at *
  have cB1 : wB.cell? ⟨h, 1, none⟩ = some (.slice (some ⟨g, 0, none⟩) (L.length + 1) k) := by rw [cell_at watB]; rw [hlen]; rfl
  have fB1 := unfrozen watB 1
  have pL : ∀ y ∈ L, Pk w y.1 y.2 ∧ y.2 ≠ [] := fun y hy => H.pks y (by simp [hy])
  have lo4 : ∀ y ∈ L, B ≤ y.1 := fun y hy => H.lo.2.2.2 y (by simp [hy])
  have lob : B ≤ b := H.lo.2.2.2 (b, x :: t) (by simp)
  have HE : Hid (t ≠ [] → Fd wB B f h c room (.slice (some ⟨g, 0, none⟩) (L.length + 1) k) ty (L ++ [(b, t)]) n ∧ FMv B w wB) := fun ht => ⟨⟨boxB, by rw [watB, hlen]; rfl, ⟨s, r, tyB⟩, by rw [List.length_append, List.map_append]; exact ownB', fun y hy => by
      rcases List.mem_append.1 hy with hy | hy
      · exact ⟨(pL y hy).1.at (hoB y hy), (pL y hy).2⟩
      · rw [List.mem_singleton.1 hy]; exact ⟨⟨_, _, _, bB⟩, ht⟩, by rw [List.map_append]; exact hnd, ⟨H.lo.1, H.lo.2.1, H.lo.2.2.1, fun y hy => by
      rcases List.mem_append.1 hy with hy | hy
      · exact lo4 y hy
      · rw [List.mem_singleton.1 hy]; exact lob⟩⟩, MB⟩
  have HS : Hid (Fd (wB.setCell ⟨h, 1, none⟩ (.slice (some ⟨g, 0, none⟩) L.length k)) B f h c room (.slice (some ⟨g, 0, none⟩) L.length k) ty L n ∧ FMv B w (wB.setCell ⟨h, 1, none⟩ (.slice (some ⟨g, 0, none⟩) L.length k))) :=
    ⟨⟨(heap_set_other q1).trans boxB, (heap_set_at watB).trans rfl, ⟨s, r, (heap_set_other (Ne.symm q3)).trans tyB⟩, own_set ownB (own_ne ownB watB (by decide)), fun y hy => ⟨(pL y hy).1.at ((heap_set_other (q4 y (by simp [hy])).2.1).trans (hoB y hy)), (pL y hy).2⟩, (List.nodup_append.1 hnd).1, ⟨H.lo.1, H.lo.2.1, H.lo.2.2.1, lo4⟩⟩, MB.trans (FMv.set watB (.inr (.inl rfl)) H.lo.2.1)⟩
  have ext : (nums (x :: t)).toArray.extract 1 (nums (x :: t)).toArray.size = (nums t).toArray := by simp [nums]; exact List.take_of_length_le (by simp)
  have hd0 : Conc.got false ((nums (x :: t)).toArray.getD 0 undef) true = .int .i64 x := by simp [nums, Conc.got]
  have hsz : 0 < (nums (x :: t)).toArray.size := by simp [nums]
  have HW := Lib.hid hwB
  clear hwB MB MA boxA watA tyA bA ownA ownA' hoA boxB watB tyB bB gb ownB ownB' hoB hnd hbL pL lo4 lob H ho o1 hty hb cg m1 m2 m3 m4 q1 q2 q3 q4 hbf hbh hbc c1 hlen
  have i0 : (0 : Int) ≤ (L.length : Int) := by omega
  have i1 : (L.length : Int) < ((L.length + 1 : Nat) : Int) := by omega
  have i2 : (L.length : Int) ≤ (k : Int) := by omega
  have i3 : (L.length : Int) + 1 - 1 = (L.length : Int) := by omega
  generalize hLn : L.length = ln at *
  unfold restL
  by_cases ht : t = []
  · rw [if_pos ht]
    have dt : ((t.length : Int) == 0) = true := by rw [ht]; rfl
    clear ht
    go_enter Try.func36, Try.ntmps36
    rw [halt_at 6]
    go_wp2_with fail
    refine wp_halt (wp_region_cut 6 7 (by simp) ?_)
    simp only [List.take]
    go_wp2_with fail
    refine comm_at (cases := #[Conc.rcase b (.int .i64 0)]) (blocking := true) (shape := .recv false) (v := .int .i64 x) (w₂ := wB) rfl rfl ?_ (fun fr cs es h => ?_) ?_
    · simp [go_sem, execOp, Conc.rcase, Act.eval]
    · have := Conc.step_lone_recv_buf false h HbA.out hsz
      rw [ext, hd0, HW.out] at this
      exact this
    go_wp2_with fail
    go_ret3
    exact ⟨rfl, _, HS.out⟩
  · rw [if_neg ht]
    have dt : ((t.length : Int) == 0) = false := beq_eq_false_iff_ne.2 (by have := List.length_pos_iff.2 ht; omega)
    have HE2 := Lib.hid (HE.out ht)
    clear ht
    go_enter Try.func36, Try.ntmps36
    rw [halt_at 6]
    go_wp2_with fail
    refine wp_halt (wp_region_cut 6 7 (by simp) ?_)
    simp only [List.take]
    go_wp2_with fail
    refine comm_at (cases := #[Conc.rcase b (.int .i64 0)]) (blocking := true) (shape := .recv false) (v := .int .i64 x) (w₂ := wB) rfl rfl ?_ (fun fr cs es h => ?_) ?_
    · simp [go_sem, execOp, Conc.rcase, Act.eval]
    · have := Conc.step_lone_recv_buf false h HbA.out hsz
      rw [ext, hd0, HW.out] at this
      exact this
    go_wp2_with fail
    go_ret3
    exact ⟨rfl, _, HE2.out⟩
end
end Go.Proofs.Ytdkgnmomkimpoaa
