/-
  Key of a parser, at this seat's numbers.
-/
import Derived.Test.YtjmpokgdgnjojaaDoorGrE
import Derived.Laws.EntriesVeiled
namespace Go.Proofs.YtjmpokgdgnjojaaDoor
open Go Go.RowKit
set_option linter.unusedVariables false

abbrev z5O : Obj := .cells #[.int .i64 0, .int .i64 0, .int .i64 0, .int .i64 0, .int .i64 0] 23
abbrev keyV (c : Cm) (what err : Int) : Value := .tuple #[cmV c, .int .i64 what, .int .i64 err]
set_option maxRecDepth 100000 in
theorem key_nil (k way : Int) (r : Bool) (w : World) : Calls Tryd.prog 9 #[.pointer none, .int .i64 k, .int .i64 way, .bool r] w fun e w' => e = .returned (keyV c0M 2 2) ∧ Below w.heap.size w w' := by
  have h0 := heap_alloc_new w z5O
  have q0 : (w.alloc z5O).cell? ⟨w.heap.size, 0, none⟩ = some (.int .i64 0) := by rw [cell_at h0]; rfl
  have q1 : (w.alloc z5O).cell? ⟨w.heap.size, 1, none⟩ = some (.int .i64 0) := by rw [cell_at h0]; rfl
  have q2 : (w.alloc z5O).cell? ⟨w.heap.size, 2, none⟩ = some (.int .i64 0) := by rw [cell_at h0]; rfl
  have q3 : (w.alloc z5O).cell? ⟨w.heap.size, 3, none⟩ = some (.int .i64 0) := by rw [cell_at h0]; rfl
  have q4 : (w.alloc z5O).cell? ⟨w.heap.size, 4, none⟩ = some (.int .i64 0) := by rw [cell_at h0]; rfl
  have HB := Lib.hid (t_al w z5O)
  clear h0
  go_enter Tryd.func9, Tryd.ntmps9
  go_wp2_with fail
  exact bodyPost_ret (v := keyV c0M 2 2) (by simp [results, Tryd.results9, go_sem, q0, q1, q2, q3, q4, keyV, c0M]) rfl ⟨rfl, HB.out⟩

theorem rowCells {w : World} {b : Nat} {c : Cm} (h : w.heap[b]? = some (cmO c)) : w.cell? ⟨b, 0, none⟩ = some (.int .i64 c.op) ∧ w.cell? ⟨b, 1, none⟩ = some (.int .i64 c.vb) ∧ w.cell? ⟨b, 2, none⟩ = some (.int .i64 c.ct) ∧ w.cell? ⟨b, 3, none⟩ = some (.int .i64 c.rg) ∧ w.cell? ⟨b, 4, none⟩ = some (.int .i64 c.ch) :=
  ⟨by rw [cell_at h]; rfl, by rw [cell_at h]; rfl, by rw [cell_at h]; rfl, by rw [cell_at h]; rfl, by rw [cell_at h]; rfl⟩
abbrev cmA (c : Cm) : Array Value := #[.int .i64 c.op, .int .i64 c.vb, .int .i64 c.ct, .int .i64 c.rg, .int .i64 c.ch]
theorem cmA_one (c : Cm) : (cmA c).all (·.oneCell') = true := by kernel_rfl
theorem cmA_size (c : Cm) : (Tryd.prog.info? 23).map (·.size) = some (cmA c).size := by kernel_rfl
theorem setRow_low {w : World} {b B : Nat} {cs : Array Value} (h : B ≤ b) : Below B w (w.setRow b cs) :=
  ⟨rfl, rfl, rfl, Nat.le_of_eq (by simp [World.setRow]), fun k hk => setRow_other w b k cs (by omega)⟩
theorem setRow_size {w : World} {b : Nat} {cs : Array Value} : (w.setRow b cs).heap.size = w.heap.size := by simp [World.setRow]

section
variable {w : World} {B p : Nat} {v : Value} {S : Ps}
/-- The parser is as new, and the answer is written; w1: behind the box of the answer. -/
theorem PsIn.fresh {w1 w2 w3 : World} {v1 nx : Value} (H : PsIn w B p v S) (hB : B ≤ w.heap.size) (m2 : GMv p (w.alloc z5O) w2) (hp : Pr w3 p (.slice none 0 0) c0M .nilFunc) (m3 : GMv p w2 w3) (c : Cm) :
    w3.heap[w.heap.size]? = some (cmO c0M) ∧ (w3.setRow w.heap.size (cmA c)).heap[w.heap.size]? = some (cmO c) ∧ PsIn (w3.setRow w.heap.size (cmA c)) B p (.slice none 0 0) p0M ∧ KMv B p v (.slice none 0 0) w (w3.setRow w.heap.size (cmA c)) := by
  obtain ⟨nx, h1, _⟩ := H.pr
  have hpl := lt_of_heap h1
  have hne : w.heap.size ≠ p := by omega
  have m := m2.trans m3
  have hz : w.heap.size < (w.alloc z5O).heap.size := by simp
  have h8 : w3.heap[w.heap.size]? = some (cmO c0M) := (m.oth _ hz hne).trans (heap_alloc_new w _)
  have hs := setRow_heap w3 w.heap.size _ (cmA c) _ _ h8
  have hpp : (w3.setRow w.heap.size (cmA c)).heap[p]? = _ := (setRow_other w3 w.heap.size p _ (Ne.symm hne)).trans hp
  refine ⟨h8, hs, ⟨⟨.nilFunc, hpp, rfl⟩, t_nil _ _ _ _, ⟨Int.le_refl _, by decide⟩, trivial, H.lo⟩, ⟨?_, fun k o hk hkp hv => ?_, fun b hb => (by cases hb)⟩⟩
  · refine (((t_al w _).mono hB).trans (m.low' H.lo (by simp; omega))).trans (setRow_low hB)
  · have hkl := lt_of_heap hk
    rw [setRow_other w3 w.heap.size k _ (by omega), m.oth k (by simp; omega) hkp, (t_al w _).block k hkl]; exact hk

attribute [-go_sem] Builtin.append_
set_option maxRecDepth 100000 in
set_option maxHeartbeats 4000000 in
theorem key_esc (H : PsIn w B p v S) (hB : B ≤ w.heap.size) (way : Int) (r : Bool) :
    Calls Tryd.prog 9 #[pbox p, .int .i64 27, .int .i64 way, .bool r] w fun e w' => e = .returned (keyV c0M 0 0) ∧ PsIn w' B p (.slice none 0 0) p0M ∧ KMv B p v (.slice none 0 0) w w' := by
  obtain ⟨nx, h1, h3⟩ := H.pr
  have al := t_al w z5O
  have HR := Lib.hid (reset_of (h1.below al))
  have HF := Lib.hid (fun w3 (hp : Pr w3 p (.slice none 0 0) c0M .nilFunc) (m3 : GMv p (w.alloc z5O) w3) => H.fresh (w1 := w) (v1 := v) (nx := nx) hB (GMv.refl p _) hp m3 c0M)
  clear H h1 h3 al
  go_enter Tryd.func9, Tryd.ntmps9
  go_wp2_with fail
  refine HR.out.mono ?_; rintro e w3 ⟨rfl, hp, m3, hz⟩
  obtain ⟨h8, hs, hP, hM⟩ := HF.out w3 hp m3
  have H8 := Lib.hid h8
  obtain ⟨q0, q1, q2, q3, q4⟩ := rowCells hs
  have HP := Lib.hid (And.intro hP hM)
  clear hp m3 hz h8 hs hP hM
  go_wp2_with (refine wpList_store_row rfl 23 _ _ rfl w.heap.size (cmA c0M) rfl rfl 23 _ H8.out (cmA_size c0M) rfl (cmA_one c0M) ?_)
  exact bodyPost_ret (v := keyV c0M 0 0) (by simp [results, Tryd.results9, go_sem, q0, q1, q2, q3, q4, keyV]) rfl ⟨rfl, HP.out⟩
theorem StV.is {w : World} {X : Nat → Prop} {v : Value} {st : Stp} (h : StV w X v (some st)) : ∃ g lb, v = .func (.func g) #[] lb := by
  cases st <;> first
    | exact ⟨_, _, h⟩
    | (obtain ⟨b3, b4, b5, e, _⟩ := h; exact ⟨_, _, e⟩)
/-- A key more is begun. -/
theorem PsIn.more {w2 : World} {nx fv : Value} {c2 : Cm} {st : Stp} (H : PsIn w B p v S) (hB : B ≤ w.heap.size) (m2 : GMv p (w.alloc z5O) w2) (hp : Pr w2 p v c2 nx) (hs : StV w2 ((w.alloc z5O).heap.size ≤ ·) fv (some st)) (hct : 0 ≤ c2.ct ∧ c2.ct ≤ 9999) (hok : stOk (some st)) (hn : S.bg.length ≤ 1000000) (k : Int) :
    ∃ a1 k1 W, (Builtin.append_ #[24, 24] 24 #[v, .slice (some ⟨w2.heap.size, 0, none⟩) 1 1]).run Tryd.prog ((w2.setCell ⟨p, 6, none⟩ fv).alloc (.cells #[.int .i64 k] 3)) = .ok (.slice a1 (S.bg.length + 1) k1) W ∧
      (w2.cell? ⟨p, 6, none⟩ = some nx ∧ w2.frozen? ⟨p, 6, none⟩ = false ∧ (w2.setCell ⟨p, 6, none⟩ fv).cell? ⟨p, 0, none⟩ = some v ∧ W.cell? ⟨p, 0, none⟩ = some v ∧ W.frozen? ⟨p, 0, none⟩ = false) ∧
      (W.setCell ⟨p, 0, none⟩ (.slice a1 (S.bg.length + 1) k1)).heap[w.heap.size]? = some (cmO c0M) ∧
      ((W.setCell ⟨p, 0, none⟩ (.slice a1 (S.bg.length + 1) k1)).setRow w.heap.size (cmA c0M)).heap[w.heap.size]? = some (cmO c0M) ∧
      PsIn ((W.setCell ⟨p, 0, none⟩ (.slice a1 (S.bg.length + 1) k1)).setRow w.heap.size (cmA c0M)) B p (.slice a1 (S.bg.length + 1) k1) ⟨S.bg ++ [k], c2, some st⟩ ∧
      KMv B p v (.slice a1 (S.bg.length + 1) k1) w ((W.setCell ⟨p, 0, none⟩ (.slice a1 (S.bg.length + 1) k1)).setRow w.heap.size (cmA c0M)) ∧
      ∃ nx, Pr ((W.setCell ⟨p, 0, none⟩ (.slice a1 (S.bg.length + 1) k1)).setRow w.heap.size (cmA c0M)) p (.slice a1 (S.bg.length + 1) k1) c2 nx ∧ StV ((W.setCell ⟨p, 0, none⟩ (.slice a1 (S.bg.length + 1) k1)).setRow w.heap.size (cmA c0M)) (w.heap.size ≤ ·) nx (some st) := by
  obtain ⟨nx0, h1, _⟩ := H.pr
  have hpl := lt_of_heap h1
  have hne : w.heap.size ≠ p := by omega
  have hz1 : (w.alloc z5O).heap.size = w.heap.size + 1 := by simp
  have hz2 : w.heap.size + 1 ≤ w2.heap.size := by rw [← hz1]; exact m2.low.size
  have h8 : w2.heap[w.heap.size]? = some (cmO c0M) := (m2.oth _ (by rw [hz1]; omega) hne).trans (heap_alloc_new w _)
  have own2 : w2.ownsRow B 3 1 v S.bg.length (nums S.bg) := own_same H.ow (fun b hb => by
    obtain ⟨cs, fr, hk, _⟩ := own_cells H.ow hb
    have hbl := lt_of_heap hk
    rw [m2.oth b (by rw [hz1]; omega) (fun e => by rw [e, h1] at hk; cases hk), (t_al w _).block b hbl])
  have hp3 : (w2.setCell ⟨p, 6, none⟩ fv).heap[p]? = some (.cells (prC v c2 fv) 44 (0, 0)) := heap_set_at hp
  have own3 := own_set (b := p) (o := 6) (u := fv) own2 (own_ne own2 hp (by decide))
  have h83 : (w2.setCell ⟨p, 6, none⟩ fv).heap[w.heap.size]? = some (cmO c0M) := (heap_set_other hne).trans h8
  have hz3 : (w2.setCell ⟨p, 6, none⟩ fv).heap.size = w2.heap.size := size_set
  obtain ⟨a1, k1, W, hr, o1, kp, bW, hl⟩ := app1 own3 hn k (by rw [hz3]; omega)
  rw [hz3] at hr hl
  have nvp := own_ne own3 hp3 (by decide)
  have nv8 := own_ne own3 h83 (by decide)
  have pW := kp _ _ hp3 nvp
  have eW := kp _ _ h83 nv8
  have n1p := own_ne o1 pW (by decide)
  have n18 := own_ne o1 eW (by decide)
  have h84 := (heap_set_other (w := W) (p := p) (o := 0) (u := .slice a1 (S.bg.length + 1) k1) hne).trans eW
  have hs5 := setRow_heap (W.setCell ⟨p, 0, none⟩ (.slice a1 (S.bg.length + 1) k1)) w.heap.size _ (cmA c0M) _ _ h84
  have hzW : w2.heap.size ≤ W.heap.size := by have := bW.size; rw [hz3] at this; exact this
  -- all that lay ahead and is no parser's
  have keepW : ∀ (b : Nat) (o : Obj), (w2.setCell ⟨p, 6, none⟩ fv).heap[b]? = some o → v.ownBlock ≠ some b → b ≠ p → b ≠ w.heap.size → ((W.setCell ⟨p, 0, none⟩ (.slice a1 (S.bg.length + 1) k1)).setRow w.heap.size (cmA c0M)).heap[b]? = some o := fun b o hb h2 h3 h4 => by
    rw [setRow_other _ _ _ _ h4, heap_set_other h3]; exact kp _ _ hb h2
  have hpr : Pr ((W.setCell ⟨p, 0, none⟩ (.slice a1 (S.bg.length + 1) k1)).setRow w.heap.size (cmA c0M)) p (.slice a1 (S.bg.length + 1) k1) c2 fv := by
    show ((W.setCell ⟨p, 0, none⟩ (.slice a1 (S.bg.length + 1) k1)).setRow w.heap.size (cmA c0M)).heap[p]? = _
    rw [setRow_other _ _ _ _ (Ne.symm hne)]
    exact heap_set_at pW
  have hnew : StV ((W.setCell ⟨p, 0, none⟩ (.slice a1 (S.bg.length + 1) k1)).setRow w.heap.size (cmA c0M)) (w.heap.size ≤ ·) fv (some st) := by
    have hvl : ∀ b, v.ownBlock = some b → b < w.heap.size := fun b hb => by
      obtain ⟨cs, fr, hk, _⟩ := own_cells H.ow hb
      exact lt_of_heap hk
    have one : ∀ b o, w2.heap[b]? = some o → (w.alloc z5O).heap.size ≤ b → ((W.setCell ⟨p, 0, none⟩ (.slice a1 (S.bg.length + 1) k1)).setRow w.heap.size (cmA c0M)).heap[b]? = some o ∧ w.heap.size ≤ b := fun b o hb hge => by
      rw [hz1] at hge
      refine ⟨keepW b o ?_ (fun e => by have := hvl b e; omega) (by omega) (by omega), by omega⟩
      rw [heap_set_other (by omega)]; exact hb
    cases st <;> first
      | exact hs
      | (obtain ⟨b3, b4, b5, e, q3, q4, q5, x3, x4, x5⟩ := hs
         exact ⟨b3, b4, b5, e, (one _ _ q3 x3).1, (one _ _ q4 x4).1, (one _ _ q5 x5).1, (one _ _ q3 x3).2, (one _ _ q4 x4).2, (one _ _ q5 x5).2⟩)
  refine ⟨a1, k1, W, hr, ⟨by rw [cell_at hp]; rfl, unfrozen hp 6, by rw [cell_at hp3]; rfl, by rw [cell_at pW]; rfl, unfrozen pW 0⟩, h84, hs5, ⟨⟨fv, ?_, ?_⟩, ?_, hct, hok, H.lo⟩, ⟨?_, fun b o hb hbp hbv => ?_, fun b hb => ?_⟩, fv, hpr, hnew⟩
  · show ((W.setCell ⟨p, 0, none⟩ (.slice a1 (S.bg.length + 1) k1)).setRow w.heap.size (cmA c0M)).heap[p]? = _
    rw [setRow_other _ _ _ _ (Ne.symm hne)]
    exact heap_set_at pW
  · have hvl : ∀ b, v.ownBlock = some b → b < w.heap.size := fun b hb => by
      obtain ⟨cs, fr, hk, _⟩ := own_cells H.ow hb
      exact lt_of_heap hk
    have one : ∀ b o, w2.heap[b]? = some o → (w.alloc z5O).heap.size ≤ b → ((W.setCell ⟨p, 0, none⟩ (.slice a1 (S.bg.length + 1) k1)).setRow w.heap.size (cmA c0M)).heap[b]? = some o ∧ (Value.slice a1 (S.bg.length + 1) k1).ownBlock ≠ some b := fun b o hb hge => by
      rw [hz1] at hge
      have hbl := lt_of_heap hb
      refine ⟨keepW b o ?_ (fun e => by have := hvl b e; omega) (by omega) (by omega), fun e => ?_⟩
      · rw [heap_set_other (by omega)]; exact hb
      · rcases hl b e with h | h
        · have := hvl b h; omega
        · omega
    cases st <;> first
      | exact hs
      | (obtain ⟨b3, b4, b5, e, q3, q4, q5, x3, x4, x5⟩ := hs
         exact ⟨b3, b4, b5, e, (one _ _ q3 x3).1, (one _ _ q4 x4).1, (one _ _ q5 x5).1, (one _ _ q3 x3).2, (one _ _ q4 x4).2, (one _ _ q5 x5).2⟩)
  · have oW4 := own_set (b := p) (o := 0) (u := .slice a1 (S.bg.length + 1) k1) o1 n1p
    exact own_same oW4 (fun b hb => setRow_other _ _ _ _ (fun e => n18 (by rw [← e]; exact hb)))
  · refine (((t_al w z5O).mono hB).trans (m2.low' H.lo (by rw [hz1]; omega))).trans ?_
    refine ((Below.refl B w2).setCell (p := ⟨p, 6, none⟩) H.lo fv).trans (bW.trans (((Below.refl B W).setCell (p := ⟨p, 0, none⟩) H.lo _).trans (setRow_low hB)))
  · have hbl := lt_of_heap hb
    refine keepW b o ?_ hbv hbp (by omega)
    rw [heap_set_other hbp, m2.oth b (by rw [hz1]; omega) hbp, (t_al w _).block b hbl]; exact hb
  · rcases hl b hb with h | h
    · exact .inl h
    · exact .inr (by omega)
set_option maxRecDepth 100000 in
set_option maxHeartbeats 4000000 in
theorem key_more_first (H : PsIn w B p v S) (hB : B ≤ w.heap.size) {k : Int} (hk : k ≠ 27) (way : Int) (r : Bool) (hst : S.st = none) {st : Stp} {c2 : Cm} (hx : stepF S.st S.c k way r = (some st, 0, c2)) (hct : 0 ≤ c2.ct ∧ c2.ct ≤ 9999) (hok : stOk (some st)) (hn : S.bg.length ≤ 1000000) :
    Calls Tryd.prog 9 #[pbox p, .int .i64 k, .int .i64 way, .bool r] w fun e w' => e = .returned (keyV c0M 0 0) ∧ ∃ v', PsIn w' B p v' ⟨S.bg ++ [k], c2, some st⟩ ∧ KMv B p v v' w w' ∧ ∃ nx, Pr w' p v' c2 nx ∧ StV w' (w.heap.size ≤ ·) nx (some st) := by
  obtain ⟨nx, h1, h3⟩ := H.pr
  have al := t_al w z5O
  have zk : (k == 27) = false := beq_eq_false_iff_ne.2 hk
  have hnx : nx = .nilFunc := by rw [hst] at h3; exact h3
  subst hnx
  have heg := enters_of Tryd.func15 rfl rfl
  have hT := ((take_step (H.below al) (h1.below al) (h3.gmv (GMv.of_below al) h1) k way r).1 hst)
  have heq := eq_fnil
  have c6 : (w.alloc z5O).cell? ⟨p, 6, none⟩ = some .nilFunc := by rw [cell_at (h1.below al)]; rfl
  rw [hx] at hT
  have HT := Lib.hid hT
  have HF := Lib.hid (fun w2 fv (m2 : GMv p (w.alloc z5O) w2) (hp : Pr w2 p v c2 .nilFunc) (hs : StV w2 ((w.alloc z5O).heap.size ≤ ·) fv (some st)) => H.more hB m2 hp hs hct hok hn k)
  clear H h1 h3 al hT hst hx
  go_enter Tryd.func9, Tryd.ntmps9
  go_wp2_with fail
  refine HT.out.mono ?_; rintro e w2 ⟨fv, rfl, h4, h5, h6⟩
  obtain ⟨g', lb', rfl⟩ := h4.is
  have hnq := fun w => ne_fsome g' lb' w
  obtain ⟨a1, k1, W, hrun, ⟨d1, d2, d3, d4, d5⟩, h8, hs, hP, hM⟩ := HF.out w2 _ h6 h5 h4
  have H8 := Lib.hid h8
  obtain ⟨q0, q1, q2, q3, q4⟩ := rowCells hs
  have HP := Lib.hid (And.intro hP hM)
  clear h4 h5 h6 h8 hs hP hM
  go_wp2_with (refine wpList_store_row rfl 23 _ _ rfl w.heap.size (cmA c0M) rfl rfl 23 _ H8.out (cmA_size c0M) rfl (cmA_one c0M) ?_)
  exact bodyPost_ret (v := keyV c0M 0 0) (by simp [results, Tryd.results9, go_sem, q0, q1, q2, q3, q4, keyV]) rfl ⟨rfl, _, HP.out.1, HP.out.2⟩
set_option maxRecDepth 100000 in
set_option maxHeartbeats 4000000 in
theorem key_wrong_first (H : PsIn w B p v S) (hB : B ≤ w.heap.size) {k : Int} (hk : k ≠ 27) (way : Int) (r : Bool) (hst : S.st = none) {c2 : Cm} {er : Int} {so : Option Stp} (hx : stepF S.st S.c k way r = (so, er, c2)) (her : er ≠ 0) :
    Calls Tryd.prog 9 #[pbox p, .int .i64 k, .int .i64 way, .bool r] w fun e w' => e = .returned (keyV c0M 2 er) ∧ PsIn w' B p (.slice none 0 0) p0M ∧ KMv B p v (.slice none 0 0) w w' := by
  obtain ⟨nx, h1, h3⟩ := H.pr
  have al := t_al w z5O
  have zk : (k == 27) = false := beq_eq_false_iff_ne.2 hk
  have hnx : nx = .nilFunc := by rw [hst] at h3; exact h3
  subst hnx
  have heg := enters_of Tryd.func15 rfl rfl
  have hT := ((take_step (H.below al) (h1.below al) (h3.gmv (GMv.of_below al) h1) k way r).1 hst)
  have heq := eq_fnil
  have c6 : (w.alloc z5O).cell? ⟨p, 6, none⟩ = some .nilFunc := by rw [cell_at (h1.below al)]; rfl
  rw [hx] at hT
  have HT := Lib.hid hT
  have ze : (er == 0) = false := beq_eq_false_iff_ne.2 her
  have hpl := lt_of_heap h1
  have HF := Lib.hid (fun w2 w4 (m2 : GMv p (w.alloc z5O) w2) (hp : Pr w4 p (.slice none 0 0) c0M .nilFunc) (m4 : GMv p (w2.alloc (cmO c2)) w4) => And.intro (H.fresh (w1 := w) (v1 := v) (nx := .nilFunc) hB (m2.trans (GMv.of_below (t_al w2 (cmO c2)))) hp m4 c0M) (And.intro (fun hw2 : w2.heap.size ≠ p => (m4.oth w2.heap.size (by simp) hw2).trans (heap_alloc_new w2 (cmO c2))) trivial))
  clear H h1 h3 al hT hst hx
  go_enter Tryd.func9, Tryd.ntmps9
  go_wp2_with fail
  refine HT.out.mono ?_; rintro e w2 ⟨fv, rfl, h4, h5, h6⟩
  have hw2 : w2.heap.size ≠ p := by have := h6.low.size; simp at this; omega
  obtain ⟨d1, d2, d3, d4, d5, _⟩ := h5.cs
  have HR := Lib.hid (reset_of (h5.below (t_al w2 (cmO c2))))
  have HG := Lib.hid (fun w4 hp m4 => HF.out w2 w4 h6 hp m4)
  clear h4 h5 h6
  go_wp2_with fail
  refine HR.out.mono ?_; rintro e w4 ⟨rfl, hp4, m4, hz4⟩
  obtain ⟨⟨h8, hs, hP, hM⟩, h14, _⟩ := HG.out w4 hp4 m4
  have H8 := Lib.hid h8
  obtain ⟨q0, q1, q2, q3, q4⟩ := rowCells hs
  obtain ⟨e0, e1, e2, e3, e4⟩ := rowCells (h14 hw2)
  have HP := Lib.hid (And.intro hP hM)
  clear hp4 m4 hz4 h8 hs hP hM h14 hw2
  go_wp2_with (refine wpList_store_row rfl 23 _ _ rfl w.heap.size (cmA c0M) rfl rfl 23 _ H8.out (cmA_size c0M) rfl (cmA_one c0M) ?_)
  exact bodyPost_ret (v := keyV c0M 2 er) (by simp [results, Tryd.results9, go_sem, q0, q1, q2, q3, q4, keyV]) rfl ⟨rfl, HP.out⟩
set_option maxRecDepth 100000 in
set_option maxHeartbeats 4000000 in
theorem key_done_first (H : PsIn w B p v S) (hB : B ≤ w.heap.size) {k : Int} (hk : k ≠ 27) (way : Int) (r : Bool) (hst : S.st = none) {c2 : Cm} (hx : stepF S.st S.c k way r = (none, 0, c2)) :
    Calls Tryd.prog 9 #[pbox p, .int .i64 k, .int .i64 way, .bool r] w fun e w' => e = .returned (keyV c2 1 0) ∧ PsIn w' B p (.slice none 0 0) p0M ∧ KMv B p v (.slice none 0 0) w w' := by
  obtain ⟨nx, h1, h3⟩ := H.pr
  have al := t_al w z5O
  have zk : (k == 27) = false := beq_eq_false_iff_ne.2 hk
  have hnx : nx = .nilFunc := by rw [hst] at h3; exact h3
  subst hnx
  have heg := enters_of Tryd.func15 rfl rfl
  have hT := ((take_step (H.below al) (h1.below al) (h3.gmv (GMv.of_below al) h1) k way r).1 hst)
  have heq := eq_fnil
  have c6 : (w.alloc z5O).cell? ⟨p, 6, none⟩ = some .nilFunc := by rw [cell_at (h1.below al)]; rfl
  rw [hx] at hT
  have HT := Lib.hid hT
  have hpl := lt_of_heap h1
  have HF := Lib.hid (fun w2 w4 (m2 : GMv p (w.alloc z5O) w2) (hp : Pr w4 p (.slice none 0 0) c0M .nilFunc) (m4 : GMv p (w2.alloc (cmO c2)) w4) => And.intro (H.fresh (w1 := w) (v1 := v) (nx := .nilFunc) hB (m2.trans (GMv.of_below (t_al w2 (cmO c2)))) hp m4 c2) (And.intro (fun hw2 : w2.heap.size ≠ p => (m4.oth w2.heap.size (by simp) hw2).trans (heap_alloc_new w2 (cmO c2))) trivial))
  clear H h1 h3 al hT hst hx
  go_enter Tryd.func9, Tryd.ntmps9
  go_wp2_with fail
  refine HT.out.mono ?_; rintro e w2 ⟨fv, rfl, h4, h5, h6⟩
  have h4 : fv = .nilFunc := h4
  subst h4
  have hnq := ne_fnil
  have hw2 : w2.heap.size ≠ p := by have := h6.low.size; simp at this; omega
  obtain ⟨d1, d2, d3, d4, d5, _⟩ := h5.cs
  have HR := Lib.hid (reset_of (h5.below (t_al w2 (cmO c2))))
  have HG := Lib.hid (fun w4 hp m4 => HF.out w2 w4 h6 hp m4)
  clear h5 h6
  go_wp2_with fail
  refine HR.out.mono ?_; rintro e w4 ⟨rfl, hp4, m4, hz4⟩
  obtain ⟨⟨h8, hs, hP, hM⟩, h14, _⟩ := HG.out w4 hp4 m4
  have H8 := Lib.hid h8
  obtain ⟨q0, q1, q2, q3, q4⟩ := rowCells hs
  obtain ⟨e0, e1, e2, e3, e4⟩ := rowCells (h14 hw2)
  have HP := Lib.hid (And.intro hP hM)
  clear hp4 m4 hz4 h8 hs hP hM h14 hw2
  go_wp2_with (refine wpList_store_row rfl 23 _ _ rfl w.heap.size (cmA c2) rfl rfl 23 _ H8.out (cmA_size c2) rfl (cmA_one c2) ?_)
  exact bodyPost_ret (v := keyV c2 1 0) (by simp [results, Tryd.results9, go_sem, q0, q1, q2, q3, q4, keyV]) rfl ⟨rfl, HP.out⟩
set_option maxRecDepth 100000 in
set_option maxHeartbeats 4000000 in
theorem key_more_next (H : PsIn w B p v S) (hB : B ≤ w.heap.size) {k : Int} (hk : k ≠ 27) (way : Int) (r : Bool) (hst : S.st ≠ none) {st : Stp} {c2 : Cm} (hx : stepF S.st S.c k way r = (some st, 0, c2)) (hct : 0 ≤ c2.ct ∧ c2.ct ≤ 9999) (hok : stOk (some st)) (hn : S.bg.length ≤ 1000000) :
    Calls Tryd.prog 9 #[pbox p, .int .i64 k, .int .i64 way, .bool r] w fun e w' => e = .returned (keyV c0M 0 0) ∧ ∃ v', PsIn w' B p v' ⟨S.bg ++ [k], c2, some st⟩ ∧ KMv B p v v' w w' ∧ ∃ nx, Pr w' p v' c2 nx ∧ StV w' (w.heap.size ≤ ·) nx (some st) := by
  obtain ⟨nx, h1, h3⟩ := H.pr
  have al := t_al w z5O
  have zk : (k == 27) = false := beq_eq_false_iff_ne.2 hk
  obtain ⟨g, lb, rfl, hT, heg⟩ := (take_step (H.below al) (h1.below al) (h3.gmv (GMv.of_below al) h1) k way r).2 hst
  have heq := fun w => eq_fsome g lb w
  have c6 : (w.alloc z5O).cell? ⟨p, 6, none⟩ = some (.func (.func g) #[] lb) := by rw [cell_at (h1.below al)]; rfl
  rw [hx] at hT
  have HT := Lib.hid hT
  have HF := Lib.hid (fun w2 fv (m2 : GMv p (w.alloc z5O) w2) (hp : Pr w2 p v c2 (.func (.func g) #[] lb)) (hs : StV w2 ((w.alloc z5O).heap.size ≤ ·) fv (some st)) => H.more hB m2 hp hs hct hok hn k)
  clear H h1 h3 al hT hst hx
  go_enter Tryd.func9, Tryd.ntmps9
  go_wp2_with fail
  refine HT.out.mono ?_; rintro e w2 ⟨fv, rfl, h4, h5, h6⟩
  obtain ⟨g', lb', rfl⟩ := h4.is
  have hnq := fun w => ne_fsome g' lb' w
  obtain ⟨a1, k1, W, hrun, ⟨d1, d2, d3, d4, d5⟩, h8, hs, hP, hM⟩ := HF.out w2 _ h6 h5 h4
  have H8 := Lib.hid h8
  obtain ⟨q0, q1, q2, q3, q4⟩ := rowCells hs
  have HP := Lib.hid (And.intro hP hM)
  clear h4 h5 h6 h8 hs hP hM
  go_wp2_with (refine wpList_store_row rfl 23 _ _ rfl w.heap.size (cmA c0M) rfl rfl 23 _ H8.out (cmA_size c0M) rfl (cmA_one c0M) ?_)
  exact bodyPost_ret (v := keyV c0M 0 0) (by simp [results, Tryd.results9, go_sem, q0, q1, q2, q3, q4, keyV]) rfl ⟨rfl, _, HP.out.1, HP.out.2⟩
set_option maxRecDepth 100000 in
set_option maxHeartbeats 4000000 in
theorem key_wrong_next (H : PsIn w B p v S) (hB : B ≤ w.heap.size) {k : Int} (hk : k ≠ 27) (way : Int) (r : Bool) (hst : S.st ≠ none) {c2 : Cm} {er : Int} {so : Option Stp} (hx : stepF S.st S.c k way r = (so, er, c2)) (her : er ≠ 0) :
    Calls Tryd.prog 9 #[pbox p, .int .i64 k, .int .i64 way, .bool r] w fun e w' => e = .returned (keyV c0M 2 er) ∧ PsIn w' B p (.slice none 0 0) p0M ∧ KMv B p v (.slice none 0 0) w w' := by
  obtain ⟨nx, h1, h3⟩ := H.pr
  have al := t_al w z5O
  have zk : (k == 27) = false := beq_eq_false_iff_ne.2 hk
  obtain ⟨g, lb, rfl, hT, heg⟩ := (take_step (H.below al) (h1.below al) (h3.gmv (GMv.of_below al) h1) k way r).2 hst
  have heq := fun w => eq_fsome g lb w
  have c6 : (w.alloc z5O).cell? ⟨p, 6, none⟩ = some (.func (.func g) #[] lb) := by rw [cell_at (h1.below al)]; rfl
  rw [hx] at hT
  have HT := Lib.hid hT
  have ze : (er == 0) = false := beq_eq_false_iff_ne.2 her
  have hpl := lt_of_heap h1
  have HF := Lib.hid (fun w2 w4 (m2 : GMv p (w.alloc z5O) w2) (hp : Pr w4 p (.slice none 0 0) c0M .nilFunc) (m4 : GMv p (w2.alloc (cmO c2)) w4) => And.intro (H.fresh (w1 := w) (v1 := v) (nx := (.func (.func g) #[] lb)) hB (m2.trans (GMv.of_below (t_al w2 (cmO c2)))) hp m4 c0M) (And.intro (fun hw2 : w2.heap.size ≠ p => (m4.oth w2.heap.size (by simp) hw2).trans (heap_alloc_new w2 (cmO c2))) trivial))
  clear H h1 h3 al hT hst hx
  go_enter Tryd.func9, Tryd.ntmps9
  go_wp2_with fail
  refine HT.out.mono ?_; rintro e w2 ⟨fv, rfl, h4, h5, h6⟩
  have hw2 : w2.heap.size ≠ p := by have := h6.low.size; simp at this; omega
  obtain ⟨d1, d2, d3, d4, d5, _⟩ := h5.cs
  have HR := Lib.hid (reset_of (h5.below (t_al w2 (cmO c2))))
  have HG := Lib.hid (fun w4 hp m4 => HF.out w2 w4 h6 hp m4)
  clear h4 h5 h6
  go_wp2_with fail
  refine HR.out.mono ?_; rintro e w4 ⟨rfl, hp4, m4, hz4⟩
  obtain ⟨⟨h8, hs, hP, hM⟩, h14, _⟩ := HG.out w4 hp4 m4
  have H8 := Lib.hid h8
  obtain ⟨q0, q1, q2, q3, q4⟩ := rowCells hs
  obtain ⟨e0, e1, e2, e3, e4⟩ := rowCells (h14 hw2)
  have HP := Lib.hid (And.intro hP hM)
  clear hp4 m4 hz4 h8 hs hP hM h14 hw2
  go_wp2_with (refine wpList_store_row rfl 23 _ _ rfl w.heap.size (cmA c0M) rfl rfl 23 _ H8.out (cmA_size c0M) rfl (cmA_one c0M) ?_)
  exact bodyPost_ret (v := keyV c0M 2 er) (by simp [results, Tryd.results9, go_sem, q0, q1, q2, q3, q4, keyV]) rfl ⟨rfl, HP.out⟩
set_option maxRecDepth 100000 in
set_option maxHeartbeats 4000000 in
theorem key_done_next (H : PsIn w B p v S) (hB : B ≤ w.heap.size) {k : Int} (hk : k ≠ 27) (way : Int) (r : Bool) (hst : S.st ≠ none) {c2 : Cm} (hx : stepF S.st S.c k way r = (none, 0, c2)) :
    Calls Tryd.prog 9 #[pbox p, .int .i64 k, .int .i64 way, .bool r] w fun e w' => e = .returned (keyV c2 1 0) ∧ PsIn w' B p (.slice none 0 0) p0M ∧ KMv B p v (.slice none 0 0) w w' := by
  obtain ⟨nx, h1, h3⟩ := H.pr
  have al := t_al w z5O
  have zk : (k == 27) = false := beq_eq_false_iff_ne.2 hk
  obtain ⟨g, lb, rfl, hT, heg⟩ := (take_step (H.below al) (h1.below al) (h3.gmv (GMv.of_below al) h1) k way r).2 hst
  have heq := fun w => eq_fsome g lb w
  have c6 : (w.alloc z5O).cell? ⟨p, 6, none⟩ = some (.func (.func g) #[] lb) := by rw [cell_at (h1.below al)]; rfl
  rw [hx] at hT
  have HT := Lib.hid hT
  have hpl := lt_of_heap h1
  have HF := Lib.hid (fun w2 w4 (m2 : GMv p (w.alloc z5O) w2) (hp : Pr w4 p (.slice none 0 0) c0M .nilFunc) (m4 : GMv p (w2.alloc (cmO c2)) w4) => And.intro (H.fresh (w1 := w) (v1 := v) (nx := (.func (.func g) #[] lb)) hB (m2.trans (GMv.of_below (t_al w2 (cmO c2)))) hp m4 c2) (And.intro (fun hw2 : w2.heap.size ≠ p => (m4.oth w2.heap.size (by simp) hw2).trans (heap_alloc_new w2 (cmO c2))) trivial))
  clear H h1 h3 al hT hst hx
  go_enter Tryd.func9, Tryd.ntmps9
  go_wp2_with fail
  refine HT.out.mono ?_; rintro e w2 ⟨fv, rfl, h4, h5, h6⟩
  have h4 : fv = .nilFunc := h4
  subst h4
  have hnq := ne_fnil
  have hw2 : w2.heap.size ≠ p := by have := h6.low.size; simp at this; omega
  obtain ⟨d1, d2, d3, d4, d5, _⟩ := h5.cs
  have HR := Lib.hid (reset_of (h5.below (t_al w2 (cmO c2))))
  have HG := Lib.hid (fun w4 hp m4 => HF.out w2 w4 h6 hp m4)
  clear h5 h6
  go_wp2_with fail
  refine HR.out.mono ?_; rintro e w4 ⟨rfl, hp4, m4, hz4⟩
  obtain ⟨⟨h8, hs, hP, hM⟩, h14, _⟩ := HG.out w4 hp4 m4
  have H8 := Lib.hid h8
  obtain ⟨q0, q1, q2, q3, q4⟩ := rowCells hs
  obtain ⟨e0, e1, e2, e3, e4⟩ := rowCells (h14 hw2)
  have HP := Lib.hid (And.intro hP hM)
  clear hp4 m4 hz4 h8 hs hP hM h14 hw2
  go_wp2_with (refine wpList_store_row rfl 23 _ _ rfl w.heap.size (cmA c2) rfl rfl 23 _ H8.out (cmA_size c2) rfl (cmA_one c2) ?_)
  exact bodyPost_ret (v := keyV c2 1 0) (by simp [results, Tryd.results9, go_sem, q0, q1, q2, q3, q4, keyV]) rfl ⟨rfl, HP.out⟩
end
end Go.Proofs.YtjmpokgdgnjojaaDoor
