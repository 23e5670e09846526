/-
  GrammarMakes' parts: Pending of keys that are begun; what the law keeps, at this seat's numbers.
-/
import Derived.Test.YtjmpokgdgnjojaaDoorGrV
import Derived.Test.YtjmpokgdgnjojaaDoorGrO
import Derived.Test.YtjmpokgdgnjojaaDoorFeN
import Derived.Lib.SliceRun
import Derived.Deep.MidRow
namespace Go.Proofs.YtjmpokgdgnjojaaDoor
open Go Go.RowKit
set_option linter.unusedVariables false

theorem gm_own_sl {w : World} {B n c : Nat} {e : TypeId} {a : Option Addr} {xs : List Value} (h : w.ownsRow B e 1 (.slice a n c) n xs) (h1 : ∀ u ∈ xs, u.oneCell' = true) : Sl w a c xs := by
  have hn : n = xs.length := by have := h.1; omega
  subst hn
  exact Sl.own h h1
theorem gm_slice {w : World} {B : Nat} {e : TypeId} {v : Value} {n : Nat} {xs : List Value} {s : Nat} (h : w.ownsRow B e s v n xs) : ∃ a c, v = .slice a n c := by
  rcases h.2 with ⟨rfl, rfl⟩ | ⟨g, cap, cur, rfl, _⟩
  · exact ⟨none, 0, rfl⟩
  · exact ⟨_, cap, rfl⟩
theorem gm_nums_one (l : List Int) : ∀ u ∈ nums l, u.oneCell' = true := fun v hv => by
  unfold nums at hv
  obtain ⟨x, _, rfl⟩ := List.mem_map.1 hv
  rfl
/-- A row of numbers in new memory. -/
def NPost (L : List Int) (w : World) (e : Ending) (w' : World) : Prop :=
  ∃ a c, e = .returned (.slice a L.length c) ∧ w'.ownsRow w.heap.size 3 1 (.slice a L.length c) L.length (nums L) ∧ Below w.heap.size w w'
set_option maxRecDepth 100000 in
theorem clone_of {w : World} {a : Option Addr} {c : Nat} (l : List Int) (H : Sl w a c (nums l)) (h0 : 0 < l.length) (hn : l.length ≤ 1000000) : Calls Tryd.prog 34 #[.slice a l.length c] w (NPost l w) := by
  obtain ⟨i0, hi0, hz0, hz1, hz2⟩ := info_parts info_int
  obtain ⟨g, o, rfl⟩ := H.numsome h0
  obtain ⟨n, hnn⟩ : ∃ n, l.length = n := ⟨_, rfl⟩
  have HN := Lib.hid hnn
  have HS := Lib.hid H
  rw [hnn] at hn h0 ⊢
  clear hnn H
  have hq : ∀ w' : World, (binOp .eql 24 (.slice (some ⟨g, o, none⟩) n c) (.slice none 0 0)).run Tryd.prog w' = .ok (.bool false) w' := fun w' => Lib.run_eql_slice_nil w' _ _ (some ⟨g, o, none⟩) n c 0 0 Tryd.underlying24
  have hal := t_al w (.cells #[] 3)
  have HO : Hid ((w.alloc (.cells #[] 3)).ownsRow w.heap.size 3 1 (.slice (some ⟨w.heap.size, 0, none⟩) 0 0) 0 []) := Lib.hid (t_empty 1 (Nat.le_refl _) (heap_alloc_new _ _))
  have HS1 := Lib.hid (HS.out.below hal)
  have HAL := Lib.hid hal
  have C1 : Hid (∀ q u, (nums l)[q]? = some u → (w.alloc (.cells #[] 3)).cell? (Addr.add ⟨g, o, none⟩ q) = some u) := Lib.hid (fun q u hqu => by
    obtain ⟨g', o', e, hg, hc⟩ := HS1.out.rd.2 (by rw [nums_len, HN.out]; exact h0)
    cases e
    rw [Addr.add_lit]; exact hc q u hqu)
  have C0 : Hid ((nums l).length = n * 1) := Lib.hid (by rw [nums_len, HN.out]; omega)
  have C2 := Lib.hid (gm_nums_one l)
  have C3 : Hid (0 + n ≤ maxLen) := by show _ ≤ _; unfold maxLen; omega
  have C4 : Hid ((0 + n) * 8 ≤ 140737488355328) := by show _ ≤ _; omega
  have C5 : Hid (w.heap.size ≤ (w.alloc (.cells #[] 3)).heap.size) := Lib.hid hal.size
  clear hal
  go_enter Tryd.func34, Tryd.ntmps34
  go_wp2_with (first
    | (at_builtin; refine wpList_append_own _ rfl (.tmp 5) (.tmp 6) 24 rfl w.heap.size 3 i0 (.int .i64 0) 1 8 Tryd.underlying24 hi0 hz0 hz1 hz2 rfl (by decide) (.slice (some ⟨w.heap.size, 0, none⟩) 0 0) 0 [] rfl HO.out ⟨g, o, none⟩ n c (nums l) rfl C0.out C1.out C2.out C3.out C4.out C5.out ?_)
    | fail)
  intro vN wB hoN hgN _
  obtain ⟨aN, cN, rfl⟩ := gm_slice hoN
  have HB := Lib.hid (HAL.out.grown hgN C5.out (fun q hq => (HO.out.lt q hq).1))
  have HOB := Lib.hid hoN
  clear hoN hgN
  go_wp2_with fail
  go_ret
  refine ⟨aN, cN, ?_, ?_, HB.out⟩
  · rw [HN.out]; first | rfl | simp
  · rw [HN.out]; exact HOB.out

section
variable {w w' : World} {p : Nat} {v bv : Value} {S : Ps} {bl : List Int} {w0 : World}
set_option maxRecDepth 100000 in
/-- Pending of a parser. -/
theorem pending_of {B : Nat} (H : PsIn w B p v S) (hnil : S.bg = [] → v = .slice none 0 0) (hn : S.bg.length ≤ 1000000) :
    Calls Tryd.prog 17 #[pbox p] w fun e w' => ∃ a c, e = .returned (.slice a S.bg.length c) ∧ Sl w' a c (nums S.bg) ∧ Below w.heap.size w w' := by
  by_cases h0 : S.bg = []
  · have hv := hnil h0
    subst hv
    rw [h0]
    exact (pending_fresh H).mono fun e w' ⟨h1, h2⟩ => ⟨none, 0, h1, Sl.none _, by rw [← h2]; exact Below.refl _ _⟩
  · obtain ⟨nx, h1, _⟩ := H.pr
    obtain ⟨a, c, rfl⟩ := gm_slice H.ow
    have c0 : w.cell? ⟨p, 0, none⟩ = some (.slice a S.bg.length c) := by rw [cell_at h1]; rfl
    have HC := Lib.hid (clone_of S.bg (gm_own_sl H.ow (gm_nums_one _)) (List.length_pos_iff.2 h0) hn)
    generalize S.bg = l at *
    clear H h1 hnil h0
    go_enter Tryd.func17, Tryd.ntmps17
    go_wp2_with fail
    refine HC.out.mono ?_; rintro e w1 ⟨a1, c1, rfl, ho, hb⟩
    have HO := Lib.hid (gm_own_sl ho (gm_nums_one _))
    have HB := Lib.hid hb
    clear ho hb
    go_wp2_with fail
    go_ret
    exact ⟨a1, c1, rfl, HO.out, HB.out⟩

/-- What the law has: the parser, the keys that it began itself. -/
structure GmI (w0 w : World) (p : Nat) (v bv : Value) (S : Ps) (bl : List Int) : Prop where
  ps : PsIn w p p v S
  ow : w.ownsRow (p + 1) 3 1 bv bl.length (nums bl)
  ne : ∀ b, bv.ownBlock = some b → v.ownBlock ≠ some b
  nil : S.bg = [] → v = .slice none 0 0
  sv : ∃ nx, Pr w p v S.c nx ∧ StV w (fun b => bv.ownBlock ≠ some b) nx S.st
  low : Below p w0 w
theorem GmI.lt (H : GmI w0 w p v bv S bl) : p < w.heap.size := by
  obtain ⟨nx, h1, _⟩ := H.ps.pr
  exact lt_of_heap h1
theorem GmI.below (H : GmI w0 w p v bv S bl) (hb : Below w.heap.size w w') : GmI w0 w' p v bv S bl := by
  have hlt := H.lt
  obtain ⟨nx, h1, h2⟩ := H.sv
  exact ⟨H.ps.below hb, own_below H.ow hb, H.ne, H.nil, ⟨nx, h1.below hb, h2.gmv (GMv.of_below hb) h1⟩, H.low.trans (hb.mono (by omega))⟩
theorem GmI.key {v2 : Value} {S2 : Ps} {w2 : World} (H : GmI w0 w p v bv S bl) (hp : PsIn w2 p p v2 S2) (m : KMv p p v v2 w w2) (hn : S2.bg = [] → v2 = .slice none 0 0) (hs : ∃ nx, Pr w2 p v2 S2.c nx ∧ StV w2 (w.heap.size ≤ ·) nx S2.st) : GmI w0 w2 p v2 bv S2 bl := by
  have hbl : ∀ b, bv.ownBlock = some b → b < w.heap.size := fun b hb => by
    obtain ⟨cs, fr, hk, _⟩ := own_cells H.ow hb
    exact lt_of_heap hk
  obtain ⟨nx, h1, h2⟩ := hs
  refine ⟨hp, own_same H.ow (fun b hb => ?_), fun b hb e => ?_, hn, ⟨nx, h1, h2.imp (fun b hb _ e => ?_)⟩, H.low.trans m.low⟩
  · obtain ⟨cs, fr, hk, hge⟩ := own_cells H.ow hb
    rw [hk]; exact m.oth b _ hk (by omega) (H.ne b hb)
  · rcases m.new b e with h | h
    · exact H.ne b hb h
    · have := hbl b hb; omega
  · have := hbl b e
    omega
theorem GmI.drop (H : GmI w0 w p v bv S bl) : GmI w0 w p v (.slice none 0 0) S [] := by
  obtain ⟨nx, h1, h2⟩ := H.sv
  exact ⟨H.ps, t_nil _ _ _ _, fun b hb => (by cases hb), H.nil, ⟨nx, h1, h2.imp (fun b _ _ e => (by cases e))⟩, H.low⟩
/-- Another box changes. -/
theorem GmI.oth (H : GmI w0 w p v bv S bl) {b : Nat} {cs : Array Value} {t : TypeId} {fr : Nat × Nat} (hb : w.heap[b]? = some (.cells cs t fr)) (t1 : 3 ≠ t) (t2 : t ≠ 44) (t3 : t ≠ 42) (ho : ∀ k, k ≠ b → w'.heap[k]? = w.heap[k]?) (hl : Below p w w') : GmI w0 w' p v bv S bl := by
  obtain ⟨⟨nx0, g1, g2⟩, o1, q1, q2, q3⟩ := H.ps
  obtain ⟨nx, h1, h2⟩ := H.sv
  have hpb : p ≠ b := fun e => by subst e; rw [g1] at hb; cases hb; exact t2 rfl
  have hpr : ∀ n, Pr w p v S.c n → Pr w' p v S.c n := fun n h => (ho p hpb).trans h
  have hst : ∀ (X : Nat → Prop) n, StV w X n S.st → StV w' X n S.st := fun X n h => by
    cases hs : S.st with
    | none => rw [hs] at h; exact h
    | some st =>
      rw [hs] at h
      cases st <;> first
        | exact h
        | (obtain ⟨b3, b4, b5, e, r3, r4, r5, hx⟩ := h
           refine ⟨b3, b4, b5, e, (ho _ (fun e => ?_)).trans r3, (ho _ (fun e => ?_)).trans r4, (ho _ (fun e => ?_)).trans r5, hx⟩
           · subst e; rw [r3] at hb; cases hb; exact t1 rfl
           · subst e; rw [r4] at hb; cases hb; exact t1 rfl
           · subst e; rw [r5] at hb; cases hb; exact t3 rfl)
  exact ⟨⟨⟨nx0, hpr _ g1, hst _ _ g2⟩, own_same o1 (fun k hk => ho k (fun e => own_ne o1 hb t1 (by rw [← e]; exact hk))), q1, q2, q3⟩,
    own_same H.ow (fun k hk => ho k (fun e => own_ne H.ow hb t1 (by rw [← e]; exact hk))), H.ne, H.nil, ⟨nx, hpr _ h1, hst _ _ h2⟩, H.low.trans hl⟩
/-- A key more in the law's own row. -/
theorem GmI.app (H : GmI w0 w p v bv S bl) (hn : bl.length ≤ 1000000) (x : Int) :
    ∃ a1 k1 W, (Builtin.append_ #[24, 24] 24 #[bv, .slice (some ⟨w.heap.size, 0, none⟩) 1 1]).run Tryd.prog (w.alloc (.cells #[.int .i64 x] 3)) = .ok (.slice a1 (bl.length + 1) k1) W ∧
      GmI w0 W p v (.slice a1 (bl.length + 1) k1) S (bl ++ [x]) ∧ ∀ (k : Nat) (cs : Array Value) (t : TypeId) (fr : Nat × Nat), w.heap[k]? = some (.cells cs t fr) → 3 ≠ t → W.heap[k]? = some (.cells cs t fr) := by
  have hlt := H.lt
  obtain ⟨a1, k1, W, hr, o1, kp, bW, hl⟩ := app1 H.ow hn x hlt
  have kp2 : ∀ (k : Nat) (cs : Array Value) (t : TypeId) (fr : Nat × Nat), w.heap[k]? = some (.cells cs t fr) → 3 ≠ t → W.heap[k]? = some (.cells cs t fr) := fun k cs t fr hk ht => kp _ _ hk (own_ne H.ow hk ht)
  obtain ⟨⟨nx0, g1, g2⟩, o2, q1, q2, q3⟩ := H.ps
  obtain ⟨nx, h1, h2⟩ := H.sv
  have hnx : nx0 = nx := by
    have h1' := h1
    unfold Pr at g1 h1'
    rw [g1] at h1'
    simp only [Option.some.injEq, Obj.cells.injEq] at h1'
    have := congrArg (fun a : Array Value => a[6]?) h1'.1
    simpa using this
  subst hnx
  have hpr : Pr W p v S.c nx0 := kp2 _ _ _ _ g1 (by decide)
  have hst : ∀ (X Y : Nat → Prop), StV w X nx0 S.st → (∀ b, b < w.heap.size → X b → bv.ownBlock ≠ some b → Y b) → StV W Y nx0 S.st := fun X Y h hy => by
    cases hs : S.st with
    | none => rw [hs] at h; exact h
    | some st =>
      rw [hs] at h h2
      cases st <;> first
        | exact h
        | (obtain ⟨b3, b4, b5, e, r3, r4, r5, y3, y4, y5⟩ := h
           obtain ⟨c3, c4, c5, e', _, _, _, z3, z4, z5⟩ := h2
           rw [e] at e'
           cases e'
           exact ⟨b3, b4, b5, e, kp _ _ r3 z3, kp _ _ r4 z4, kp _ _ r5 z5, hy _ (lt_of_heap r3) y3 z3, hy _ (lt_of_heap r4) y4 z4, hy _ (lt_of_heap r5) y5 z5⟩)
  have ow2 : W.ownsRow p 3 1 v S.bg.length (nums S.bg) := own_same o2 (fun b hb => by
    obtain ⟨cs, fr, hk, _⟩ := own_cells o2 hb
    rw [hk]; exact kp _ _ hk (fun e => H.ne b e hb))
  refine ⟨a1, k1, W, hr, ⟨⟨⟨nx0, hpr, hst _ _ g2 (fun b _ hx _ => hx)⟩, ow2, q1, q2, q3⟩, ?_, fun b hb e => ?_, H.nil, ⟨nx0, hpr, hst _ _ h2 (fun b hb _ hx e => ?_)⟩, H.low.trans (bW.mono (by omega))⟩, kp2⟩
  · have : (bl ++ [x]).length = bl.length + 1 := by simp
    rw [this]
    have o1' := o1
    rwa [this] at o1'
  · rcases hl b hb with h | h
    · exact H.ne b h e
    · obtain ⟨cs, fr, hk, _⟩ := own_cells o2 e
      have := lt_of_heap hk; omega
  · rcases hl b e with h | h
    · exact hx h
    · omega
end

/-- What a key comes to, by the run. -/
theorem keyF_run (S : Ps) {k : Int} (h27 : k ≠ 27) (way : Int) (r : Bool) :
    ((keyF S k way r).1 = (c0M, 0, 0) ∧ (runS way r S.st S.c [k]).2 = (0, 0) ∧ (keyF S k way r).2.bg = S.bg ++ [k] ∧ ∀ t, runS way r (keyF S k way r).2.st (keyF S k way r).2.c t = runS way r S.st S.c (k :: t)) ∨
    ((keyF S k way r).1 = ((runS way r S.st S.c [k]).1, 1, 0) ∧ (runS way r S.st S.c [k]).2 = (1, 0) ∧ (keyF S k way r).2 = p0M) ∨
    ∃ er, (keyF S k way r).1 = (c0M, 2, er) ∧ (runS way r S.st S.c [k]).2 = (2, er) ∧ (keyF S k way r).2 = p0M := by
  unfold keyF
  rw [if_neg h27]
  simp only
  rcases hx : stepF S.st S.c k way r with ⟨so, er, c2⟩
  simp only
  by_cases her : er = 0
  · subst her
    rw [if_pos rfl]
    cases so with
    | none => right; left; rw [runS_done hx]; exact ⟨rfl, rfl, rfl⟩
    | some st => left; rw [runS_more hx, runS_nil]; exact ⟨rfl, rfl, rfl, fun t => (runS_more hx).symm⟩
  · rw [if_neg her]
    right; right
    refine ⟨er, rfl, ?_, rfl⟩
    rw [runS_cons, hx]
    simp [her]

/-- The zero command goes into a reading's middle. -/
theorem mid_rg {w : World} {b : Nat} {a : Option Addr} {n k : Nat} {at_ : Int} {c : Cm} {wh er : Int} (h : w.heap[b]? = some (rgO a n k at_ c wh er)) :
    (w.setCells b 2 [.int .i64 0, .int .i64 0, .int .i64 0, .int .i64 0, .int .i64 0]).heap[b]? = some (rgO a n k at_ c0M wh er) ∧ (∀ j, j ≠ b → (w.setCells b 2 [.int .i64 0, .int .i64 0, .int .i64 0, .int .i64 0, .int .i64 0]).heap[j]? = w.heap[j]?) ∧
      (∀ B, B ≤ b → Below B w (w.setCells b 2 [.int .i64 0, .int .i64 0, .int .i64 0, .int .i64 0, .int .i64 0])) ∧ w.there b 2 5 := by
  refine ⟨?_, fun j hj => ?_, fun B hB => ?_, fun j hj => ?_⟩
  · simp only [World.setCells]
    have h1 := heap_set_at (o := 2) (u := .int .i64 0) h
    have h2 := heap_set_at (o := 3) (u := .int .i64 0) h1
    have h3 := heap_set_at (o := 4) (u := .int .i64 0) h2
    have h4 := heap_set_at (o := 5) (u := .int .i64 0) h3
    exact heap_set_at (o := 6) (u := .int .i64 0) h4
  · simp only [World.setCells]
    rw [heap_set_other hj, heap_set_other hj, heap_set_other hj, heap_set_other hj, heap_set_other hj]
  · simp only [World.setCells]
    exact (((((Below.refl B w).setCell (p := ⟨b, 2, none⟩) hB _).setCell (p := ⟨b, 3, none⟩) hB _).setCell (p := ⟨b, 4, none⟩) hB _).setCell (p := ⟨b, 5, none⟩) hB _).setCell (p := ⟨b, 6, none⟩) hB _
  · obtain ⟨q0, q1, q2, q3, q4, q5, q6, q7, q8⟩ := rgCells h
    refine ⟨?_, unfrozen h _⟩
    rcases (show j = 0 ∨ j = 1 ∨ j = 2 ∨ j = 3 ∨ j = 4 by omega) with rfl | rfl | rfl | rfl | rfl
    · simp [q2]
    · simp [q3]
    · simp [q4]
    · simp [q5]
    · simp [q6]
/-- The cells of the key's answer and of the reading. -/
def Cs12 (w : World) (cb rb : Nat) (C : Cm) (m er : Int) : Prop :=
  w.cell? ⟨cb, 0, none⟩ = some (.int .i64 C.op) ∧ w.cell? ⟨cb, 1, none⟩ = some (.int .i64 C.vb) ∧ w.cell? ⟨cb, 2, none⟩ = some (.int .i64 C.ct) ∧ w.cell? ⟨cb, 3, none⟩ = some (.int .i64 C.rg) ∧ w.cell? ⟨cb, 4, none⟩ = some (.int .i64 C.ch) ∧
  w.cell? ⟨rb, 2, none⟩ = some (.int .i64 C.op) ∧ w.cell? ⟨rb, 3, none⟩ = some (.int .i64 C.vb) ∧ w.cell? ⟨rb, 4, none⟩ = some (.int .i64 C.ct) ∧ w.cell? ⟨rb, 5, none⟩ = some (.int .i64 C.rg) ∧ w.cell? ⟨rb, 6, none⟩ = some (.int .i64 C.ch) ∧ w.cell? ⟨rb, 7, none⟩ = some (.int .i64 m) ∧ w.cell? ⟨rb, 8, none⟩ = some (.int .i64 er)
theorem Cs12.of {w : World} {cb rb : Nat} {C : Cm} {m er : Int} {A : Option Addr} {N K : Nat} {I : Int} (hcb : w.heap[cb]? = some (cmO C)) (hrb : w.heap[rb]? = some (rgO A N K I C m er)) : Cs12 w cb rb C m er := by
  obtain ⟨g0, g1, g2, g3, g4⟩ := rowCells hcb
  obtain ⟨q0, q1, q2, q3, q4, q5, q6, q7, q8⟩ := rgCells hrb
  exact ⟨g0, g1, g2, g3, g4, q2, q3, q4, q5, q6, q7, q8⟩
/-- The three calls of the law's comparison, one behind the other. -/
def Chain17 (w0 E : World) (p cb rb : Nat) (C : Cm) (m er : Int) (v bv : Value) (S : Ps) (bl : List Int) (n2 : Nat) (a2 : Option Addr) (k2 : Nat) : Prop :=
    Calls Tryd.prog 7 #[cmV C] E fun e wA => e = .returned (cmV C) ∧ Cs12 wA cb rb C m er ∧ Hid (Calls Tryd.prog 17 #[pbox p] wA fun e wB => ∃ a c, e = .returned (.slice a n2 c) ∧ Cs12 wB cb rb C m er ∧
      Hid (Calls Tryd.prog 5 #[.slice a n2 c, .slice a2 n2 k2] wB fun e wC => e = .returned (.bool true) ∧ Cs12 wC cb rb C m er ∧ Hid (GmI w0 wC p v bv S bl)))
theorem chain17 {E w0 : World} {p cb rb : Nat} {C : Cm} {m er : Int} {A : Option Addr} {N K : Nat} {I : Int} {v bv : Value} {S : Ps} {bl : List Int} (hcb : E.heap[cb]? = some (cmO C)) (hrb : E.heap[rb]? = some (rgO A N K I C m er)) (G : GmI w0 E p v bv S bl) (hS : S.bg = bl) (hn : bl.length ≤ 1000000) {n2 : Nat} (hn2 : n2 = bl.length) {a2 : Option Addr} {k2 : Nat} (hbv : bv = .slice a2 n2 k2) :
    Chain17 w0 E p cb rb C m er v bv S bl n2 a2 k2 := by
  subst hn2
  unfold Chain17
  refine (ours_of C E).mono fun e wA ⟨h1, bA⟩ => ⟨h1, ?_⟩
  have cA := (bA.block _ (lt_of_heap hcb)).trans hcb
  have rA := (bA.block _ (lt_of_heap hrb)).trans hrb
  have GA := G.below bA
  refine ⟨Cs12.of cA rA, Lib.hid ?_⟩
  have hp := pending_of GA.ps GA.nil (by rw [hS]; exact hn)
  rw [hS] at hp
  refine hp.mono fun e wB ⟨a, c, h2, hs, bB⟩ => ⟨a, c, h2, ?_⟩
  have cB := (bB.block _ (lt_of_heap cA)).trans cA
  have rB := (bB.block _ (lt_of_heap rA)).trans rA
  have GB := GA.below bB
  refine ⟨Cs12.of cB rB, Lib.hid ?_⟩
  have hb2 : Sl wB a2 k2 (nums bl) := gm_own_sl (by have := GB.ow; rw [hbv] at this; exact this) (gm_nums_one _)
  refine (nsame bl bl hs hb2 hn).mono fun e wC ⟨h3, bC⟩ => ⟨by rw [h3, decide_eq_true rfl], ?_, Lib.hid (GB.below bC)⟩
  exact Cs12.of ((bC.block _ (lt_of_heap cB)).trans cB) ((bC.block _ (lt_of_heap rB)).trans rB)
theorem gm_drew {w : World} {b : Nat} {o : Obj} (h : w.heap[b]? = some o) : w.drew.heap[b]? = some o := h
/-- What stands ahead of the comparison. -/
def Fin17 (w0 E : World) (p cb rb : Nat) (C : Cm) (m er : Int) (v bv : Value) (S : Ps) (bl : List Int) (n2 : Nat) (a2 : Option Addr) (k2 : Nat) : Prop :=
  Cs12 E cb rb C m er ∧ Hid (Chain17 w0 E.drew p cb rb C m er v bv S bl n2 a2 k2)
theorem fin17 {E w0 : World} {p cb rb : Nat} {C : Cm} {m er : Int} {A : Option Addr} {N K : Nat} {I : Int} {v bv : Value} {S : Ps} {bl : List Int} (hcb : E.heap[cb]? = some (cmO C)) (hrb : E.heap[rb]? = some (rgO A N K I C m er)) (G : GmI w0 E p v bv S bl) (hS : S.bg = bl) (hn : bl.length ≤ 1000000) {n2 : Nat} (hn2 : n2 = bl.length) {a2 : Option Addr} {k2 : Nat} (hbv : bv = .slice a2 n2 k2) :
    Fin17 w0 E p cb rb C m er v bv S bl n2 a2 k2 :=
  ⟨Cs12.of hcb hrb, chain17 (gm_drew hcb) (gm_drew hrb) (G.below ((Below.refl _ _).drew)) hS hn hn2 hbv⟩
/-- Where the zero command goes into the reading ahead of it. -/
theorem mid17 {E w0 : World} {p cb rb : Nat} {C : Cm} {m er : Int} {A : Option Addr} {N K : Nat} {I : Int} {v bv : Value} {S : Ps} {bl : List Int} (hcb : E.heap[cb]? = some (cmO c0M)) (hrb : E.heap[rb]? = some (rgO A N K I C m er)) (G : GmI w0 E p v bv S bl) (hne : cb ≠ rb) (hp : p ≤ rb) :
    ∀ W, W = E.setCells rb 2 (#[.int .i64 0, .int .i64 0, .int .i64 0, .int .i64 0, .int .i64 0] : Array Value).toList → W.heap[cb]? = some (cmO c0M) ∧ W.heap[rb]? = some (rgO A N K I c0M m er) ∧ GmI w0 W p v bv S bl := by
  rintro W rfl
  obtain ⟨h5, ho, hl, _⟩ := mid_rg hrb
  exact ⟨(ho cb hne).trans hcb, h5, G.oth hrb (by decide) (by decide) (by decide) ho (hl p hp)⟩
variable {P : Program}
/-- The stores' laws, with the world behind them named. -/
theorem store_mid_to {ops : Array Oper} {rest : List Oper} {op : Oper} {a : Act} {w : World} {Q : Exit → Act → World → Prop} (hgd : op.guard = none) (ty : TypeId) (x y : Operand) (ho : op.op = .store ty x y)
    (b o : Nat) (cells : Array Value) (hx : a.eval x = .pointer (some ⟨b, o, none⟩)) (hy : a.eval y = .agg cells)
    (ht : w.there b o cells.size) (hi : (P.info? ty).map (·.size) = some cells.size) (h1 : cells.all (·.oneCell') = true)
    (h : ∀ W, W = w.setCells b o cells.toList → wpList P ops Q rest (a.put op.dst undef) W) : wpList P ops Q (op :: rest) a w :=
  wpList_store_mid hgd ty x y ho b o cells hx hy ht hi h1 (h _ rfl)
theorem store_row_to {ops : Array Oper} {rest : List Oper} {o : Oper} {a : Act} {w : World} {Q : Exit → Act → World → Prop} (hgd : o.guard = none) (ty : TypeId) (x y : Operand) (ho : o.op = .store ty x y)
    (g : Nat) (cells : Array Value) (hx : a.eval x = .pointer (some ⟨g, 0, none⟩)) (hy : a.eval y = .agg cells)
    (t : TypeId) (old : Array Value) (hg : w.heap[g]? = some (.cells old t (0, 0))) (hi : (P.info? ty).map (·.size) = some cells.size)
    (hold : old.size = cells.size) (h1 : cells.all (·.oneCell') = true)
    (h : ∀ W, W = w.setRow g cells → wpList P ops Q rest (a.put o.dst undef) W) : wpList P ops Q (o :: rest) a w :=
  wpList_store_row hgd ty x y ho g cells hx hy t old hg hi hold h1 (h _ rfl)
/-- Where what was read goes into the reading's box. -/
theorem row17 {E w0 : World} {p cb rb : Nat} {C0 C : Cm} {m er : Int} {A : Option Addr} {N K : Nat} {I : Int} {v bv : Value} {S : Ps} {bl : List Int} {o1 : Obj} {A0 : Option Addr} {N0 K0 : Nat} {I0 m0 er0 : Int} (hcb : E.heap[cb]? = some o1) (hrb : E.heap[rb]? = some (rgO A0 N0 K0 I0 C0 m0 er0)) (G : GmI w0 E p v bv S bl) (hne : cb ≠ rb) (hp : p ≤ rb) :
    ∀ W, W = E.setRow rb (rgA A N K I C m er) → W.heap[cb]? = some o1 ∧ W.heap[rb]? = some (rgO A N K I C m er) ∧ GmI w0 W p v bv S bl := by
  rintro W rfl
  exact ⟨(setRow_other _ _ _ _ hne).trans hcb, setRow_heap E rb _ (rgA A N K I C m er) _ _ hrb, G.oth hrb (by decide) (by decide) (by decide) (fun k hk => setRow_other _ _ _ _ hk) (setRow_low hp)⟩
end Go.Proofs.YtjmpokgdgnjojaaDoor
