/-
  Texts of this seat, put together (a claim holds few texts): FdQ, FdR, FdS, LiftY.
-/
import Derived.Test.YtkgakgceamafcaaMk41
import Derived.Lib.SmallJoins
import Derived.Deep.Slices
import Derived.Carry
import Derived.OpenShut
import Derived.ShutString
import Derived.ProofKit
import Derived.Shelf.Vars
import Derived.ChangeSlices
import Derived.SliceStrings

namespace Go.Proofs.Ytkgakgceamafcaa
open Go Go.RowKit Go.Shelf
set_option linter.unusedVariables false

/-- The file of the example. -/
def l17 : List UInt8 := [120, 44, 97, 121, 10, 121, 97]
def f17a : Fd := ⟨0, 1, 0, [0]⟩
def f17b : Fd := ⟨2, 4, 0, [2, 3]⟩
def f17c : Fd := ⟨5, 7, 0, [5, 6]⟩
theorem f17a_eq : fieldP l17 0 = f17a := by
  have t : till l17 0 = 1 := by rw [till_step (by decide), till_stop (by decide)]
  unfold fieldP
  rw [if_neg (by decide), t, if_neg (by decide)]
  rfl
theorem f17b_eq : fieldP l17 2 = f17b := by
  have t : till l17 2 = 4 := by rw [till_step (by decide), till_step (by decide), till_stop (by decide)]
  unfold fieldP
  rw [if_neg (by decide), t, if_neg (by decide)]
  rfl
theorem f17c_eq : fieldP l17 5 = f17c := by
  have t : till l17 5 = 7 := by rw [till_step (by decide), till_step (by decide), till_stop (by decide)]
  unfold fieldP
  rw [if_neg (by decide), t, if_neg (by decide)]
  rfl
theorem all17 : allP l17 0 = [⟨[f17a, f17b], 1, 5⟩, ⟨[f17c], 0, 7⟩] := by
  have f : fieldsP l17 0 = ([f17a, f17b], 4) := by
    rw [fieldsP_more (by decide) (by rw [f17a_eq]; decide) (by rw [f17a_eq]; decide), f17a_eq]
    show (f17a :: (fieldsP l17 2).1, (fieldsP l17 2).2) = _
    rw [fieldsP_last (by rw [f17b_eq]; decide), f17b_eq]; rfl
  have r : rowP l17 0 = ⟨[f17a, f17b], 1, 5⟩ := by unfold rowP; rw [f]; rfl
  have f2 : fieldsP l17 5 = ([f17c], 7) := by rw [fieldsP_last (by rw [f17c_eq]; decide), f17c_eq]; rfl
  have r2 : rowP l17 5 = ⟨[f17c], 0, 7⟩ := by unfold rowP; rw [f2]; rfl
  rw [allP_more (by decide), r]
  show _ :: allP l17 5 = _
  rw [allP_more (by decide), r2]
  show _ :: _ :: allP l17 7 = _
  rw [allP_end (by decide)]
/-- A constant row of bytes in memory. -/
theorem lit_rd (w : World) (l : List UInt8) (fr : Nat × Nat) : Rd (w.alloc (.cells (bc l).toArray 5 fr)) 1 (some ⟨w.heap.size, 0, none⟩) l.length (bc l) := by
  have hfn := heap_alloc_new w (.cells (bc l).toArray 5 fr)
  exact ⟨by simp [bc], fun _ => ⟨w.heap.size, 0, rfl, lt_of_heap hfn, fun j u hj => by rw [Nat.zero_add, cell_at hfn]; simpa using hj⟩⟩
theorem pl_of {ms : List CelM} {fs : List Fd} (h : ms.map keyC = fs.map keyF) : ms.map (·.t) = fs.map (·.pl) := by
  have h1 := congrArg (List.map fun q : Int × Int × Bool × List Int => q.2.2.2) h
  simpa [keyC, keyF, Function.comp_def] using h1
theorem cs17 {w : World} {Ls : List R3} {Cs : List (List CelM)} (hl : Ls.length = 2) (hg : GrIn w l17 Ls Cs) (hf : FileOf Ls Cs (allP l17 0)) : ∃ r0 r1 x y z, Ls = [r0, r1] ∧ Cs = [[x, y], [z]] ∧ r0.b = false ∧ r1.b = false ∧ r0.n = 2 ∧ r1.n = 1 ∧ x.t = [0] ∧ y.t = [2, 3] ∧ z.t = [5, 6] := by
  have hc : Cs.length = 2 := by rw [← hg.len]; exact hl
  match Ls, hl with
  | [r0, r1], _ =>
    match Cs, hc with
    | [m0, m1], _ =>
      rw [all17] at hf
      obtain ⟨_, b0, k0⟩ := hf 0 r0 m0 _ rfl rfl rfl
      obtain ⟨_, b1, k1⟩ := hf 1 r1 m1 _ rfl rfl rfl
      have t0 := pl_of k0
      have t1 := pl_of k1
      have n0 := (hg.row 0 r0 m0 rfl rfl).1
      have n1 := (hg.row 1 r1 m1 rfl rfl).1
      obtain ⟨x, y, rfl⟩ : ∃ x y, m0 = [x, y] := by
        have hl0 : m0.length = 2 := by simpa using congrArg List.length t0
        match m0, hl0 with
        | [x, y], _ => exact ⟨x, y, rfl⟩
      obtain ⟨z, rfl⟩ : ∃ z, m1 = [z] := by
        have hl1 : m1.length = 1 := by simpa using congrArg List.length t1
        match m1, hl1 with
        | [z], _ => exact ⟨z, rfl⟩
      simp only [List.map_cons, List.map_nil, List.cons.injEq, and_true] at t0 t1
      exact ⟨r0, r1, x, y, z, rfl, rfl, b0, b1, n0, n1, t0.1, t0.2, t1⟩
theorem hav17 {w : World} {Ls : List R3} {Cs : List (List CelM)} (hl : Ls.length = 2) (hg : GrIn w l17 Ls Cs) (hf : FileOf Ls Cs (allP l17 0)) : havP l17 [97] Cs Ls = [(0, 1), (1, 0)] ∧ (∀ ms ∈ Cs, ∀ m ∈ ms, m.t.length ≤ 100000) ∧ ∀ ms ∈ Cs, ms.length ≤ 100000 := by
  obtain ⟨r0, r1, x, y, z, rfl, rfl, b0, b1, n0, n1, tx, ty, tz⟩ := cs17 hl hg hf
  refine ⟨?_, fun ms hms m hm => ?_, fun ms hms => ?_⟩
  · have cx : hasP [97] (atL l17 x.t) = false := by rw [tx]; unfold hasP; rw [all_eq]; decide
    have cy : hasP [97] (atL l17 y.t) = true := by rw [ty]; unfold hasP; rw [all_eq]; decide
    have cz : hasP [97] (atL l17 z.t) = true := by rw [tz]; unfold hasP; rw [all_eq]; decide
    have e0 : rowH l17 [97] [[x, y], [z]] (0, r0) = [(0, 1)] := by
      unfold rowH; rw [b0]
      show upC l17 [97] [[x, y], [z]] 0 r0.n = _
      rw [n0, upC_yes (by exact cy), upC_no (by exact cx)]; rfl
    have e1 : rowH l17 [97] [[x, y], [z]] (1, r1) = [(1, 0)] := by
      unfold rowH; rw [b1]
      show upC l17 [97] [[x, y], [z]] 1 r1.n = _
      rw [n1, upC_yes (by exact cz)]; rfl
    show (rowH l17 [97] _ (0, r0)) ++ ((rowH l17 [97] _ (1, r1)) ++ []) = _
    rw [e0, e1]; rfl
  · simp only [List.mem_cons, List.not_mem_nil, or_false] at hms
    rcases hms with rfl | rfl
    · simp only [List.mem_cons, List.not_mem_nil, or_false] at hm
      rcases hm with rfl | rfl
      · rw [tx]; decide
      · rw [ty]; decide
    · simp only [List.mem_cons, List.not_mem_nil, or_false] at hm
      rw [hm, tz]; decide
  · simp only [List.mem_cons, List.not_mem_nil, or_false] at hms
    rcases hms with rfl | rfl <;> simp
theorem pick17 : pickP (fun x => aheadP 0 1 x.1 x.2) [((0 : Nat), (1 : Nat)), (1, 0)] = ((1, 0), true) := by decide
theorem ev17 : allOf [97, 97] [97, 97, 97, 97] = [0, 1, 2] := by rw [all_eq]; decide
theorem ap17 : apart 2 0 [0, 1, 2] = [0, 2] := by decide
theorem rp17 : repl [97, 98, 97, 98] [99, 99] 1 0 (chosen true (apart 1 0 (allOf [98] [97, 98, 97, 98]))) = [97, 99, 99, 97, 99, 99] ∧ (chosen true (apart 1 0 (allOf [98] [97, 98, 97, 98]))).length = 2 := by rw [all_eq]; decide

theorem rd_al {w : World} {a : Option Addr} {n s : Nat} {xs : List Value} (h : Rd w s a n xs) (o : Obj) : Rd (w.alloc o) s a n xs := h.below (t_al w o)

theorem lit_ri (w : World) (l : List Nat) (xs : Array Value) (h : xs = (ib l).toArray) (fr : Nat × Nat) : Rd (w.alloc (.cells xs 3 fr)) 1 (some ⟨w.heap.size, 0, none⟩) l.length (ib l) := by
  subst h
  have hfn := heap_alloc_new w (.cells (ib l).toArray 3 fr)
  exact ⟨by simp [ib], fun _ => ⟨w.heap.size, 0, rfl, lt_of_heap hfn, fun j u hj => by rw [Nat.zero_add, cell_at hfn]; simpa using hj⟩⟩
theorem rep17 (w : World) : Calls Try.prog 16 #[.slice (some ⟨w.heap.size, 0, none⟩) 4 4, .slice (some ⟨w.heap.size + 1, 0, none⟩) 1 1, .slice (some ⟨w.heap.size + 1 + 1, 0, none⟩) 2 2, .bool true] (((w.alloc (.cells (bc [97, 98, 97, 98]).toArray 5 (4, 5))).alloc (.cells (bc [98]).toArray 5 (1, 2))).alloc (.cells (bc [99, 99]).toArray 5 (2, 3))) fun e w' =>
    ∃ a c B, e = .returned (.tuple #[.slice a 6 c, .int .i64 2]) ∧ w'.ownsRow B 5 1 (.slice a 6 c) 6 (bc [97, 99, 99, 97, 99, 99]) ∧ Below w.heap.size w w' := by
  have k0 := t_al w (.cells (bc [97, 98, 97, 98]).toArray 5 (4, 5))
  have k1 := t_al (w.alloc (.cells (bc [97, 98, 97, 98]).toArray 5 (4, 5))) (.cells (bc [98]).toArray 5 (1, 2))
  have k2 := t_al ((w.alloc (.cells (bc [97, 98, 97, 98]).toArray 5 (4, 5))).alloc (.cells (bc [98]).toArray 5 (1, 2))) (.cells (bc [99, 99]).toArray 5 (2, 3))
  have ra := rd_al (rd_al (lit_rd w [97, 98, 97, 98] (4, 5)) (.cells (bc [98]).toArray 5 (1, 2))) (.cells (bc [99, 99]).toArray 5 (2, 3))
  have rb := rd_al (lit_rd (w.alloc (.cells (bc [97, 98, 97, 98]).toArray 5 (4, 5))) [98] (1, 2)) (.cells (bc [99, 99]).toArray 5 (2, 3))
  have rc := lit_rd ((w.alloc (.cells (bc [97, 98, 97, 98]).toArray 5 (4, 5))).alloc (.cells (bc [98]).toArray 5 (1, 2))) [99, 99] (2, 3)
  have hz0 : (w.alloc (.cells (bc [97, 98, 97, 98]).toArray 5 (4, 5))).heap.size = w.heap.size + 1 := by simp
  have hz1 : ((w.alloc (.cells (bc [97, 98, 97, 98]).toArray 5 (4, 5))).alloc (.cells (bc [98]).toArray 5 (1, 2))).heap.size = w.heap.size + 1 + 1 := by simp
  have hz2 : (((w.alloc (.cells (bc [97, 98, 97, 98]).toArray 5 (4, 5))).alloc (.cells (bc [98]).toArray 5 (1, 2))).alloc (.cells (bc [99, 99]).toArray 5 (2, 3))).heap.size = w.heap.size + 1 + 1 + 1 := by simp
  rw [hz0] at rb
  rw [hz1] at rc
  have HRp := callsIn_wide.1 (repl_in 0 (b := [97, 98, 97, 98]) (p := [98]) (o := [99, 99]) (m := 1) (L := 4) (on := 2) (tc := 1) (sc := 4) (oc := 2) true ra rb rc rfl rfl rfl (by decide) (by decide) (by decide) (by decide) (by omega) (by omega) (fun d hd => by cases hd; show w.heap.size + 1 < _; omega))
  rw [rp17.1, rp17.2] at HRp
  refine HRp.mono ?_
  rintro e w3 ⟨a3, c3, rfl, ho3, hb3⟩
  exact ⟨a3, c3, _, rfl, ho3, ((k0.trans (k1.mono k0.size)).trans (k2.mono (by omega))).trans (hb3.mono (by omega))⟩
theorem evc17 (w : World) : Calls Try.prog 7 #[.slice (some ⟨w.heap.size, 0, none⟩) 4 4, .slice (some ⟨w.heap.size + 1, 0, none⟩) 2 2] ((w.alloc (.cells (bc [97, 97, 97, 97]).toArray 5 (4, 5))).alloc (.cells (bc [97, 97]).toArray 5 (2, 3))) fun e w' =>
    ∃ a c, e = .returned (.slice a 3 c) ∧ Rd w' 1 a 3 (ib [0, 1, 2]) ∧ Below w.heap.size w w' := by
  have k0 := t_al w (.cells (bc [97, 97, 97, 97]).toArray 5 (4, 5))
  have k1 := t_al (w.alloc (.cells (bc [97, 97, 97, 97]).toArray 5 (4, 5))) (.cells (bc [97, 97]).toArray 5 (2, 3))
  have ra := rd_al (lit_rd w [97, 97, 97, 97] (4, 5)) (.cells (bc [97, 97]).toArray 5 (2, 3))
  have rb := lit_rd (w.alloc (.cells (bc [97, 97, 97, 97]).toArray 5 (4, 5))) [97, 97] (2, 3)
  have hz0 : (w.alloc (.cells (bc [97, 97, 97, 97]).toArray 5 (4, 5))).heap.size = w.heap.size + 1 := by simp
  have hz1 : ((w.alloc (.cells (bc [97, 97, 97, 97]).toArray 5 (4, 5))).alloc (.cells (bc [97, 97]).toArray 5 (2, 3))).heap.size = w.heap.size + 1 + 1 := by simp
  rw [hz0] at rb
  have H := every_of (b := [97, 97, 97, 97]) (p := [97, 97]) (m := 2) (L := 4) (tc := 2) (sc := 4) ra rb rfl rfl (by decide) (by decide)
  rw [ev17] at H
  refine H.mono ?_
  rintro e w3 ⟨a3, c3, rfl, ho3, hb3⟩
  exact ⟨a3, c3, rfl, rd_own ho3, (k0.trans (k1.mono k0.size)).trans (hb3.mono (by omega))⟩
theorem evs17 {w : World} {a : Option Addr} {c : Nat} (h : Rd w 1 a 3 (ib [0, 1, 2])) : Calls Try.prog 6 #[.slice a 3 c, .slice (some ⟨w.heap.size, 0, none⟩) 3 3] (w.alloc (.cells #[.int .i64 0, .int .i64 1, .int .i64 2] 3 (0, 0))) fun e w' => e = .returned (.bool true) ∧ Below w.heap.size w w' := by
  have k0 := t_al w (.cells #[.int .i64 0, .int .i64 1, .int .i64 2] 3 (0, 0))
  refine (same_true (d := 3) (c := c) (rd_al h (.cells #[.int .i64 0, .int .i64 1, .int .i64 2] 3 (0, 0))) (lit_ri w [0, 1, 2] _ rfl (0, 0)) rfl (by decide)).mono ?_
  rintro e w1 ⟨rfl, hb⟩
  exact ⟨rfl, k0.trans (hb.mono k0.size)⟩
theorem apc17 (w : World) : Calls Try.prog 9 #[.slice (some ⟨w.heap.size, 0, none⟩) 4 4, .slice (some ⟨w.heap.size + 1, 0, none⟩) 2 2] ((w.alloc (.cells (bc [97, 97, 97, 97]).toArray 5 (4, 5))).alloc (.cells (bc [97, 97]).toArray 5 (2, 3))) fun e w' =>
    ∃ a c, e = .returned (.slice a 2 c) ∧ Rd w' 1 a 2 (ib [0, 2]) ∧ Below w.heap.size w w' := by
  have k0 := t_al w (.cells (bc [97, 97, 97, 97]).toArray 5 (4, 5))
  have k1 := t_al (w.alloc (.cells (bc [97, 97, 97, 97]).toArray 5 (4, 5))) (.cells (bc [97, 97]).toArray 5 (2, 3))
  have ra := rd_al (lit_rd w [97, 97, 97, 97] (4, 5)) (.cells (bc [97, 97]).toArray 5 (2, 3))
  have rb := lit_rd (w.alloc (.cells (bc [97, 97, 97, 97]).toArray 5 (4, 5))) [97, 97] (2, 3)
  have hz0 : (w.alloc (.cells (bc [97, 97, 97, 97]).toArray 5 (4, 5))).heap.size = w.heap.size + 1 := by simp
  have hz1 : ((w.alloc (.cells (bc [97, 97, 97, 97]).toArray 5 (4, 5))).alloc (.cells (bc [97, 97]).toArray 5 (2, 3))).heap.size = w.heap.size + 1 + 1 := by simp
  rw [hz0] at rb
  have H := apart_of (b := [97, 97, 97, 97]) (p := [97, 97]) (m := 2) (L := 4) (tc := 2) (sc := 4) ra rb rfl rfl (by decide) (by decide)
  rw [ev17, ap17] at H
  refine H.mono ?_
  rintro e w3 ⟨a3, c3, rfl, ho3, hb3⟩
  exact ⟨a3, c3, rfl, rd_own ho3, (k0.trans (k1.mono k0.size)).trans (hb3.mono (by omega))⟩
theorem aps17 {w : World} {a : Option Addr} {c : Nat} (h : Rd w 1 a 2 (ib [0, 2])) : Calls Try.prog 6 #[.slice a 2 c, .slice (some ⟨w.heap.size, 0, none⟩) 2 2] (w.alloc (.cells #[.int .i64 0, .int .i64 2] 3 (0, 0))) fun e w' => e = .returned (.bool true) ∧ Below w.heap.size w w' := by
  have k0 := t_al w (.cells #[.int .i64 0, .int .i64 2] 3 (0, 0))
  refine (same_true (d := 2) (c := c) (rd_al h (.cells #[.int .i64 0, .int .i64 2] 3 (0, 0))) (lit_ri w [0, 2] _ rfl (0, 0)) rfl (by decide)).mono ?_
  rintro e w1 ⟨rfl, hb⟩
  exact ⟨rfl, k0.trans (hb.mono k0.size)⟩
end Go.Proofs.Ytkgakgceamafcaa

namespace Go.Proofs.Ytkgakgceamafcaa
open Go Go.RowKit Go.Shelf
set_option linter.unusedVariables false

set_option maxRecDepth 100000 in
set_option maxHeartbeats 8000000 in
theorem awake17_of (w : World) : Calls Try.prog 15 #[] w fun e w' => e = .returned (.bool true) ∧ Below w.heap.size w w' := by
  have hcv := conv_at
  -- the file's bytes
  have r7 := lit_rd w l17 (7, 8)
  have HLo := Lib.hid (gload_ok (c := 7) (n := 2) r7 rfl (by decide) (by decide) (by decide) (by rw [all17]; rfl) (by decide) (by
    rw [all17]
    intro r hr
    simp only [List.mem_cons, List.not_mem_nil, or_false] at hr
    rcases hr with rfl | rfl
    · refine ⟨by decide, fun f hf => ?_⟩
      simp only [List.mem_cons, List.not_mem_nil, or_false] at hf
      rcases hf with rfl | rfl <;> (unfold longF; decide)
    · refine ⟨by decide, fun f hf => ?_⟩
      simp only [List.mem_cons, List.not_mem_nil, or_false] at hf
      rcases hf with rfl; unfold longF; decide))
  have B0 := Lib.hid (t_al w (.cells (bc l17).toArray 5 (7, 8)))
  clear r7
  go_enter Try.func15, Try.ntmps15
  go_wp2_with fail
  refine HLo.out.mono ?_; rintro e w1 ⟨px, p, Ls, Cs, rfl, hT, hLn, hG, hF, hA, hb1⟩
  generalize tailP (allP l17 0) = tl
  generalize frsP (allP l17 0) = en
  have hb1' : Below w.heap.size w w1 := B0.out.trans (hb1.mono B0.out.size)
  -- the text that is sought next
  have al1 := t_al w1 (.cells #[.pointer px, .bool tl, .int .i64 en] 50)
  have al2 := t_al (w1.alloc (.cells #[.pointer px, .bool tl, .int .i64 en] 50)) (.cells #[.int .u8 97] 5 (1, 2))
  have bb := al1.trans (al2.mono al1.size)
  have r1 := lit_rd (w1.alloc (.cells #[.pointer px, .bool tl, .int .i64 en] 50)) [97] (1, 2)
  have hz : (w1.alloc (.cells #[.pointer px, .bool tl, .int .i64 en] 50)).heap.size = w1.heap.size + 1 := by simp
  rw [hz] at r1
  have HNx := callsIn_wide.1 (next_in 0 (tl := tl) (en := en) (tc := 1) (m := 1) (N := 2) (p := [97]) (l := l17) 0 1 (hT.below bb) hLn (by decide) (hG.below bb) (hA.below bb) (by decide) (hav17 hLn hG hF).2.1 (hav17 hLn hG hF).2.2 r1 rfl (by decide))
  rw [(hav17 hLn hG hF).1, pick17] at HNx
  have HNx := Lib.hid HNx
  have B1 := Lib.hid (hb1'.trans (bb.mono hb1'.size))
  clear hT hLn hG hF hA hb1 hb1' al1 al2 bb r1 HLo
  go_wp2_with fail
  refine HNx.out.mono ?_; rintro e w2 ⟨rfl, hb2⟩
  have B2 := Lib.hid (B1.out.trans (hb2.mono B1.out.size))
  clear hb2 HNx
  -- Replace
  have HRp := Lib.hid (rep17 w2)
  go_wp2_with fail
  refine HRp.out.mono ?_; rintro e w3 ⟨a3, c3, B3, rfl, ho3, hb3⟩
  clear HRp
  have B3' := Lib.hid (B2.out.trans (hb3.mono B2.out.size))
  have HStr := Lib.hid ho3
  clear hb3 ho3
  have HEv := Lib.hid (evc17 w3)
  go_wp2_with fail
  refine HEv.out.mono ?_; rintro e w4 ⟨a4, c4, rfl, hr4, hb4⟩
  have HSa := Lib.hid (evs17 (c := c4) hr4)
  have B4 := Lib.hid hb4
  clear HEv hr4 hb4
  go_wp2_with fail
  refine HSa.out.mono ?_; rintro e w5 ⟨rfl, hb5⟩
  have B5 := Lib.hid (B4.out.trans (hb5.mono B4.out.size))
  clear HSa hb5
  have HAp := Lib.hid (apc17 w5)
  go_wp2_with fail
  refine HAp.out.mono ?_; rintro e w6 ⟨a6, c6, rfl, hr6, hb6⟩
  have HSa := Lib.hid (aps17 (c := c6) hr6)
  have B6 := Lib.hid (B5.out.trans (hb6.mono B5.out.size))
  clear HAp hr6 hb6
  go_wp2_with fail
  refine HSa.out.mono ?_; rintro e w7 ⟨rfl, hb7⟩
  have B7 := Lib.hid (B6.out.trans (hb7.mono B6.out.size))
  clear HSa hb7
  have hs : (convert 23 9 (.slice a3 6 c3)).run Try.prog w7 = .ok (.string (strOf [97, 99, 99, 97, 99, 99])) w7 := string_own (l := [97, 99, 99, 97, 99, 99]) (own_below HStr.out B7.out)
  have he : (strOf [97, 99, 99, 97, 99, 99]).toList = [97, 99, 99, 97, 99, 99] := by rw [ByteArray.toList_eq]; rfl
  clear HStr B4 B5 B6 hz HNx
  go_wp2_with fail
  go_ret
  exact ⟨rfl, B3'.out.trans (B7.out.mono B3'.out.size)⟩
end Go.Proofs.Ytkgakgceamafcaa

namespace Go.Proofs.Ytkgakgceamafcaa
open Go Go.RowKit Go.Shelf
set_option linter.unusedVariables false

theorem cut17_of (s : ByteArray) (n : Nat) (w : World) (hs : s.size ≤ maxLen) (hn : n ≤ maxLen) :
    Calls Try.prog 5 #[.string s, .int .i64 n] w fun e w' => e = .returned (.string (cutS s n)) ∧ w = w' := by
  unfold maxLen at hs hn
  by_cases h : n < s.size
  · have e : cutS s n = s.extract 0 n := by unfold cutS; rw [if_pos h]
    rw [e]
    clear e
    go_enter Try.func5, Try.ntmps5
    go_wp2
    go_ret
    exact ⟨rfl, rfl⟩
  · have e : cutS s n = s := by unfold cutS; rw [if_neg h]
    rw [e]
    clear e
    go_enter Try.func5, Try.ntmps5
    go_wp2
    go_ret
    exact ⟨rfl, rfl⟩
theorem str_cut (s : ByteArray) (n : Nat) : ∃ l, cutS s n = strOf l ∧ l.length ≤ n :=
  ⟨(cutS s n).data.toList, rfl, cutS_le s n⟩
theorem conv_str (b : List UInt8) {L : Nat} (w : World) (hL : b.length = L) (hl : L ≤ 100000) :
    ∃ cap W, (convert 9 23 (.string (strOf b))).run Try.prog w = .ok (.slice (some ⟨w.heap.size, 0, none⟩) L cap) W ∧ L ≤ cap ∧ Rd W 1 (some ⟨w.heap.size, 0, none⟩) b.length (bc b) ∧ Below w.heap.size w W ∧ w.heap.size < W.heap.size := by
  obtain ⟨cap, W, h1, h2, h3⟩ := held_of (strOf b) w (by show b.length ≤ _; rw [hL]; unfold maxLen; omega)
  subst hL
  exact ⟨cap, W, h1, h2.fits, rd_held h2, h3, h2.lies⟩

set_option maxRecDepth 100000 in
set_option maxHeartbeats 8000000 in
theorem findPlaces_walk (s t : ByteArray) (I : Int) (w : World) (hs : s.size ≤ maxLen) (ht : t.size ≤ maxLen) (_ : -9223372036854775808 ≤ I) (_ : I ≤ 9223372036854775807) :
    Calls Try.prog 3 #[.string s, .string t, .int .i64 I] w fun e w' => e = .returned (.bool true) ∧ Below w.heap.size w w' := by
  obtain ⟨b, eb, lb⟩ := str_cut s 300
  obtain ⟨p, ep, lp⟩ := str_cut t 30
  obtain ⟨L, hL⟩ : ∃ L, b.length = L := ⟨_, rfl⟩
  obtain ⟨m, hm⟩ : ∃ m, p.length = m := ⟨_, rfl⟩
  rw [hL] at lb
  rw [hm] at lp
  have HC1 := Lib.hid (cut17_of s 300 w hs (by decide))
  have HC2 := Lib.hid (cut17_of t 30 w ht (by decide))
  rw [eb] at HC1
  rw [ep] at HC2
  obtain ⟨c1, W1, q1, _, r1, b1, z1⟩ := conv_str b w hL (by omega)
  obtain ⟨c2, W2, q2, _, r2, b2, z2⟩ := conv_str p W1 hm (by omega)
  have r1' := r1.below b2
  have B2 := b1.trans (b2.mono b1.size)
  have hAl := all_len p b
  have HE := Lib.hid (every_of (tc := c2) (sc := c1) r1' r2 hL hm (by omega) (by omega))
  have HRE := Lib.hid (fun (v : World) => revery_of (w := v) b p hL hm (by omega) (by omega))
  have HP := Lib.hid (fun (v : World) (h : Below W2.heap.size W2 v) => apart_of (tc := c2) (sc := c1) (r1'.below h) (r2.below h) hL hm (by omega) (by omega))
  have HRP := Lib.hid (fun (v : World) => rapart_of (w := v) b p hL hm (by omega) (by omega))
  have HF := Lib.hid (fun (v : World) (h : Below W2.heap.size W2 v) => callsIn_wide.1 (first_in 0 (tc := c2) (sc := c1) I (r1'.below h) (r2.below h) hL hm (by omega) (by omega)))
  have HRF := Lib.hid (fun (v : World) => rfirst_of (w := v) b p I hL hm (by omega) (by omega))
  have HLa := Lib.hid (fun (v : World) (h : Below W2.heap.size W2 v) => callsIn_wide.1 (last_in 0 (tc := c2) (sc := c1) I (r1'.below h) (r2.below h) hL hm (by omega) (by omega) (fun d hd => by cases hd; have := h.size; have := b2.size; show w.heap.size < v.heap.size; omega) (fun d hd => by cases hd; have := h.size; show W1.heap.size < v.heap.size; omega)))
  have HRL := Lib.hid (fun (v : World) => rlast_of (w := v) b p I hL hm (by omega) (by omega))
  have hlst := lst_eq I p b
  have hAp : (apart m 0 (allOf p b)).length ≤ 100000 := by
    have := apart_len m (allOf p b) 0; omega
  obtain ⟨A, hA⟩ : ∃ A, allOf p b = A := ⟨_, rfl⟩
  obtain ⟨N, hN⟩ : ∃ N, lstR I A = N := ⟨_, rfl⟩
  obtain ⟨F, hF⟩ : ∃ F, fstL I A = F := ⟨_, rfl⟩
  obtain ⟨AA, hAA⟩ : ∃ AA, apart m 0 A = AA := ⟨_, rfl⟩
  simp only [hA] at HE HRE HP HRP HF HRF HLa HRL hlst hAp hAl
  simp only [hlst, hN, hF, hAA] at HE HRE HP HRP HF HRF HLa HRL hlst hAp hAl
  have HW := Lib.hid B2
  clear r1 r1' r2 b1 b2 B2 hlst hN hF hAA hA z1 z2 eb ep
  generalize strOf b = B at *
  generalize strOf p = P at *
  have hff : (F == F) = true := beq_self_eq_true F
  have hnn : (N == N) = true := beq_self_eq_true N
  go_enter Try.func3, Try.ntmps3
  go_wp2_with fail
  refine HC1.out.mono ?_; rintro e w' ⟨rfl, rfl⟩
  clear HC1
  go_wp2_with fail
  refine HC2.out.mono ?_; rintro e w' ⟨rfl, rfl⟩
  clear HC2
  go_wp2_with fail
  refine HE.out.mono ?_; rintro e w3 ⟨a3, c3, rfl, o3, b3⟩
  have O3 := Lib.hid (rd_own o3)
  have B3 := Lib.hid b3
  clear HE o3 b3 q1 q2
  go_wp2_with fail
  refine (HRE.out w3).mono ?_; rintro e w4 ⟨a4, c4, rfl, o4, b4⟩
  have HS := Lib.hid (same_true (c := c3) (d := c4) (O3.out.below b4) (rd_own o4) rfl (by omega))
  have B4 := Lib.hid (B3.out.trans (b4.mono B3.out.size))
  clear HRE O3 B3 o4 b4
  go_wp2_with fail
  refine HS.out.mono ?_; rintro e w5 ⟨rfl, b5⟩
  have B5 := Lib.hid (B4.out.trans (b5.mono B4.out.size))
  clear HS B4 b5
  go_wp2_with fail
  refine (HP.out w5 B5.out).mono ?_; rintro e w6 ⟨a6, c6, rfl, o6, b6⟩
  have O6 := Lib.hid (rd_own o6)
  have B6 := Lib.hid (B5.out.trans (b6.mono B5.out.size))
  clear HP B5 o6 b6
  go_wp2_with fail
  refine (HRP.out w6).mono ?_; rintro e w7 ⟨a7, c7, rfl, o7, b7⟩
  have HS := Lib.hid (same_true (c := c6) (d := c7) (O6.out.below b7) (rd_own o7) rfl (by omega))
  have B7 := Lib.hid (B6.out.trans (b7.mono B6.out.size))
  clear HRP O6 B6 o7 b7
  go_wp2_with fail
  refine HS.out.mono ?_; rintro e w8 ⟨rfl, b8⟩
  have B8 := Lib.hid (B7.out.trans (b8.mono B7.out.size))
  clear HS B7 b8
  go_wp2_with fail
  refine (HF.out w8 B8.out).mono ?_; rintro e w9 ⟨rfl, b9⟩
  have B9 := Lib.hid (B8.out.trans (b9.mono B8.out.size))
  clear HF B8 b9
  go_wp2_with fail
  refine (HRF.out w9).mono ?_; rintro e w10 ⟨rfl, b10⟩
  have B10 := Lib.hid (B9.out.trans (b10.mono B9.out.size))
  clear HRF B9 b10
  go_wp2_with fail
  refine (HLa.out w10 B10.out).mono ?_; rintro e w11 ⟨rfl, b11⟩
  have B11 := Lib.hid (B10.out.trans (b11.mono B10.out.size))
  clear HLa B10 b11
  go_wp2_with fail
  refine (HRL.out w11).mono ?_; rintro e w12 ⟨rfl, b12⟩
  have B12 := Lib.hid (B11.out.trans (b12.mono B11.out.size))
  clear HRL B11 b12
  go_wp2_with fail
  refine (awake17_of w12).mono ?_; rintro e w13 ⟨rfl, b13⟩
  have B13 := Lib.hid (B12.out.trans (b13.mono B12.out.size))
  clear B12 b13
  go_wp2_with fail
  go_ret
  exact ⟨rfl, HW.out.trans (B13.out.mono HW.out.size)⟩
end Go.Proofs.Ytkgakgceamafcaa

namespace Go.Proofs.Ytkgakgceamafcaa
open Go Go.RowKit Go.ChangeShapes Go.WideShapes Go.Joins
set_option linter.unusedVariables false
set_option maxRecDepth 100000

section
variable {H : Type} {enc : TypeId × Value → H} {W : World}
theorem laidOut : laidOutB Try.prog = true := by kernel_rfl
theorem open_swap {v : Value} {d : DataW H} {p : List MemPlace} (hv : Value.okWide Try.prog W .any 0 33 v) (h : DataW.Trod enc Try.prog W 0 (fun _ => true) true 33 v d p) :
    ∃ (x y : ByteArray) (b : Bool), v = .agg #[.string x, .string y, .bool b] ∧ x.size ≤ maxLen ∧ y.size ≤ maxLen := by
  obtain ⟨v0, v1, v2, y0, y1, y2, n, rfl, _, _, h0, h1, h2⟩ := open_agg3 Try.underlying33 (by kernel_rfl) (by kernel_rfl) hv h
  obtain ⟨x, e0, _, w0⟩ := DataW.trod_string Try.underlying9 h0
  obtain ⟨y, e1, _, w1⟩ := DataW.trod_string Try.underlying9 h1
  obtain ⟨b, e2, _⟩ := DataW.trod_bool Try.underlying4 h2
  injection e0 with e0
  injection e1 with e1
  injection e2 with e2
  subst e0 e1 e2
  exact ⟨x, y, b, rfl, w0, w1⟩
end
end Go.Proofs.Ytkgakgceamafcaa
