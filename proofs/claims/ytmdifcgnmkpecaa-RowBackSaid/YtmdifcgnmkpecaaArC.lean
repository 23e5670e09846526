/-
  The contract of the arena's Add, at this seat's numbers.
-/
import Derived.Test.YtmdifcgnmkpecaaArB
namespace Go.Proofs.Ytmdifcgnmkpecaa
open Go Go.RowKit
set_option linter.unusedVariables false

theorem own_ne {w : World} {B : Nat} {e t : TypeId} {size n : Nat} {v : Value} {xs : List Value} {b : Nat} {cs : Array Value} {fr : Nat × Nat} (h : w.ownsRow B e size v n xs) (hb : w.heap[b]? = some (.cells cs t fr)) (hne : e ≠ t) : v.ownBlock ≠ some b := by
  rcases h.2 with ⟨rfl, _⟩ | ⟨g, cap, cur, rfl, _, hh, _⟩
  · simp [Value.ownBlock]
  · intro he
    have : g = b := by simpa [Value.ownBlock] using he
    subst this
    rw [hh] at hb
    injection hb with hb
    injection hb with _ ht
    exact hne ht

theorem heap_set_other {w : World} {p b o : Nat} {u : Value} (h : b ≠ p) : (w.setCell ⟨p, o, none⟩ u).heap[b]? = w.heap[b]? := Below.heap_setCell w ⟨p, o, none⟩ u b h
theorem heap_set_at {w : World} {p o : Nat} {u : Value} {cs : Array Value} {t : TypeId} {fr : Nat × Nat} (h : w.heap[p]? = some (.cells cs t fr)) : (w.setCell ⟨p, o, none⟩ u).heap[p]? = some (.cells (cs.setIfInBounds o u) t fr) := by
  simp [World.setCell, Array.getElem?_modify, h]
theorem heap_mid (w : World) (o o' : Obj) : ((w.alloc o).alloc o').heap[w.heap.size]? = some o :=
  ((Below.refl (w.heap.size + 1) (w.alloc o)).alloc (by simp) o').block w.heap.size (by omega) |>.trans (heap_alloc_new w o)
theorem size_set {w : World} {p o : Nat} {u : Value} : (w.setCell ⟨p, o, none⟩ u).heap.size = w.heap.size := by simp [World.setCell]

theorem own_set {w : World} {B : Nat} {e : TypeId} {size n : Nat} {v : Value} {xs : List Value} {b o : Nat} {u : Value} (h : w.ownsRow B e size v n xs) (hne : v.ownBlock ≠ some b) : (w.setCell ⟨b, o, none⟩ u).ownsRow B e size v n xs :=
  h.kept (row := some b) ⟨rfl, rfl, rfl, by rw [size_set]; exact Nat.le_refl _, fun k hk hn => heap_set_other (fun e => hn (by rw [e]))⟩ (.inr hne)
theorem own_below {w w' : World} {base size n : Nat} {e : TypeId} {v : Value} {xs : List Value} (h : w.ownsRow base e size v n xs) (hb : Below w.heap.size w w') : w'.ownsRow base e size v n xs :=
  h.kept (row := none) ⟨hb.os, hb.tape, hb.output, hb.size, fun k hk _ => hb.block k hk⟩ (by cases v.ownBlock <;> simp)
theorem own_turned {B : Nat} {w w' : World} {base size n : Nat} {e : TypeId} {v : Value} {xs : List Value} (h : w.ownsRow base e size v n xs) (ht : Turned B w w') (h1 : e ≠ 121) (h2 : e ≠ 5) : w'.ownsRow base e size v n xs := by
  refine ⟨h.1, ?_⟩
  rcases h.2 with h0 | ⟨g, cap, cur, e1, e2, e3, e4⟩
  · exact .inl h0
  · refine .inr ⟨g, cap, cur, e1, e2, (ht.rest g (lt_of_heap e3) (fun cs hc => ?_) (fun cs hc => ?_)).trans e3, e4⟩
    · rw [e3] at hc; injection hc with hc; injection hc with _ hc; exact h1 hc
    · rw [e3] at hc; injection hc with hc; injection hc with _ hc; exact h2 hc

theorem Ar.set {w : World} {B p : Nat} {l : List UInt8} {b o : Nat} {u : Value} {cs : Array Value} {t : TypeId} (h : Ar w B p l) (hb : w.heap[b]? = some (.cells cs t (0, 0))) (h1 : t ≠ 121) (h2 : t ≠ 5) : Ar (w.setCell ⟨b, o, none⟩ u) B p l := by
  obtain ⟨a, c, e1, e2, e3, e4⟩ := h
  refine ⟨a, c, e1, ?_, own_set e3 (own_ne e3 hb (fun e => h2 e.symm)), e4⟩
  rw [heap_set_other]
  · exact e2
  · rintro rfl
    rw [e2] at hb
    injection hb with hb
    injection hb with _ hb
    exact h1 hb.symm

section
variable {B : Nat} {w0 w w' : World}
theorem Turned.refl (w : World) : Turned B w w := ⟨Below.refl _ _, Nat.le_refl _, fun _ _ _ _ => rfl⟩
theorem Turned.then_below (h : Turned B w0 w) (hb : Below w.heap.size w w') (hB : B ≤ w.heap.size) : Turned B w0 w' := h.trans (Turned.of_below hb hB)
theorem Turned.grown {v : Value} {n : Nat} {xs : List Value} (h : Turned B w0 w) (hB : B ≤ w.heap.size) (ho : w.ownsRow B 5 1 v n xs) (hg : w.grownBy w' v.ownBlock) : Turned B w0 w' :=
  ⟨h.low.grown hg hB (fun k hk => (ho.lt k hk).1), Nat.le_trans h.size hg.size, fun b hb h1 h2 => by
    have e := h.rest b hb h1 h2
    rw [← e]
    refine hg.block b (Nat.lt_of_lt_of_le hb h.size) (fun eb => ?_)
    rcases ho.2 with ⟨rfl, _⟩ | ⟨g, cap, cur, rfl, _, hh, _⟩
    · simp [Value.ownBlock] at eb
    · have : b = g := by simpa [Value.ownBlock] using eb
      subst this
      exact h2 cur (by rw [← e]; exact hh)⟩
theorem Turned.set_new {b o : Nat} {u : Value} (h : Turned B w0 w) (hB : B ≤ w0.heap.size) (hb : w0.heap.size ≤ b) : Turned B w0 (w.setCell ⟨b, o, none⟩ u) :=
  ⟨h.low.setCell (p := ⟨b, o, none⟩) (Nat.le_trans hB hb) u, by rw [size_set]; exact h.size, fun i hi h1 h2 => by rw [heap_set_other (by omega)]; exact h.rest i hi h1 h2⟩
theorem Turned.set_arena {p o : Nat} {u : Value} {cs : Array Value} (h : Turned B w0 w) (hB : B ≤ p) (hp : w.heap[p]? = some (.cells cs 121 (0, 0))) : Turned B w0 (w.setCell ⟨p, o, none⟩ u) :=
  ⟨h.low.setCell (p := ⟨p, o, none⟩) hB u, by rw [size_set]; exact h.size, fun i hi h1 h2 => by
    have e := h.rest i hi h1 h2
    rw [heap_set_other]
    · exact e
    · rintro rfl
      exact h1 cs (by rw [← e]; exact hp)⟩
end

theorem add_nil (v : Value) (w : World) : Calls Try.prog 21 #[.pointer none, v] w fun e w' => e = .returned (.tuple #[.agg #[.int .i64 0, .int .i64 0], .int .i64 2]) ∧ Below w.heap.size w w' := by
  go_enter Try.func21, Try.ntmps21
  go_wp2_with fail
  refine bodyPost_ret (v := .tuple #[.agg #[.int .i64 0, .int .i64 0], .int .i64 2]) (by simp [results, Try.results21, go_sem]) rfl ⟨rfl, ?_⟩
  exact (Below.refl _ _).alloc (Nat.le_refl _) _

theorem add_full {w : World} {B p : Nat} {l : List UInt8} (h : Ar w B p l) (hl : l.length ≤ 16384) (a : Option Addr) (m c : Nat) (hm : m ≤ maxLen) (hf : 16384 - l.length < m) :
    Calls Try.prog 21 #[.pointer (some ⟨p, 0, none⟩), .slice a m c] w fun e w' => e = .returned (.tuple #[.agg #[.int .i64 0, .int .i64 0], .int .i64 6]) ∧ Below w.heap.size w w' := by
  have hc := room_of (h.below ((Below.refl _ w).alloc (Nat.le_refl _) (.cells #[.int .i64 0, .int .i64 0] 39))) hl
  have HC := Lib.hid hc
  clear hc h
  unfold maxLen at hm
  have d1 : decide (16384 - (l.length : Int) < (m : Int)) = true := decide_eq_true (by omega)
  go_enter Try.func21, Try.ntmps21
  go_wp2_with fail
  refine HC.out.mono ?_; rintro e w1 ⟨rfl, rfl⟩
  go_wp2_with fail
  refine bodyPost_ret (v := .tuple #[.agg #[.int .i64 0, .int .i64 0], .int .i64 6]) (by simp [results, Try.results21, go_sem]) rfl ⟨rfl, ?_⟩
  exact (Below.refl _ _).alloc (Nat.le_refl _) _

theorem add_none {w : World} {B p : Nat} {l : List UInt8} (h : Ar w B p l) (hl : l.length ≤ 16384) (a : Option Addr) (c : Nat) :
    Calls Try.prog 21 #[.pointer (some ⟨p, 0, none⟩), .slice a 0 c] w fun e w' => e = .returned (.tuple #[.agg #[.int .i64 0, .int .i64 0], .int .i64 0]) ∧ Below w.heap.size w w' := by
  have hc := room_of (h.below ((Below.refl _ w).alloc (Nat.le_refl _) (.cells #[.int .i64 0, .int .i64 0] 39))) hl
  have HC := Lib.hid hc
  clear hc h
  have d1 : decide (16384 - (l.length : Int) < 0) = false := decide_eq_false (by omega)
  go_enter Try.func21, Try.ntmps21
  go_wp2_with fail
  refine HC.out.mono ?_; rintro e w1 ⟨rfl, rfl⟩
  go_wp2_with fail
  refine bodyPost_ret (v := .tuple #[.agg #[.int .i64 0, .int .i64 0], .int .i64 0]) (by simp [results, Try.results21, go_sem]) rfl ⟨rfl, ?_⟩
  exact (Below.refl _ _).alloc (Nat.le_refl _) _

set_option maxHeartbeats 1600000 in
theorem add_yes {w : World} {B p : Nat} {l t : List UInt8} (h : Ar w B p l) (hl : l.length ≤ 16384) (b off c : Nat) (hB : B ≤ w.heap.size) (hb : b < w.heap.size) (ht : ∀ j u, (bc t)[j]? = some u → w.cell? ⟨b, off + j, none⟩ = some u) (hm : 0 < t.length) (hf : t.length ≤ 16384 - l.length) :
    Calls Try.prog 21 #[.pointer (some ⟨p, 0, none⟩), .slice (some ⟨b, off, none⟩) t.length c] w fun e w' => e = .returned (.tuple #[.agg #[.int .i64 l.length, .int .i64 t.length], .int .i64 0]) ∧ Ar w' B p (l ++ t) ∧ Turned B w w' := by
  obtain ⟨i0, hi0, hz0, hz1, hz2⟩ := info_parts info_u8
  have h0 := h
  obtain ⟨a, c0, hBp, hp0, hown, _⟩ := h
  have hpl := lt_of_heap hp0
  have hcp : w.cell? ⟨p, 0, none⟩ = some (.slice a l.length c0) := by rw [cell_at hp0]; rfl
  have hfz := unfrozen hp0 0
  have HT := Lib.hid ht
  have HH := Lib.hid h0
  have hc := room_of (h0.below ((Below.refl _ w).alloc (Nat.le_refl _) (.cells #[.int .i64 0, .int .i64 0] 39))) hl
  have HC := Lib.hid hc
  have HP := Lib.hid hp0
  have HOW := Lib.hid hown
  clear hc h0 ht hp0 hown
  have d1 : decide (16384 - (l.length : Int) < t.length) = false := decide_eq_false (by omega)
  have d2 : ((t.length : Int) == 0) = false := by rw [beq_eq_false_iff_ne]; omega
  go_enter Try.func21, Try.ntmps21
  go_wp2_with fail
  refine HC.out.mono ?_; rintro e w1 ⟨rfl, rfl⟩
  go_wp2_with (at_builtin; refine wpList_append_lies _ rfl (.tmp 35) (.tmp 36) 27 rfl B 5 i0 (.int .u8 0) 1 1 Try.underlying27 hi0 hz0 hz1 hz2 rfl (by decide) (.slice a l.length c0) l.length (bc l) rfl ((HOW.out.alloc _).alloc _) ⟨b, off, none⟩ t.length c (bc t) rfl ?c1 ?c2 (bc_one t) hm ?c3 ?c4 ?c5 _ rfl ?_)
  case c1 => rw [bc_len]; omega
  case c2 =>
    intro j u hj
    rw [Addr.add_lit]
    have e1 := (((Below.refl w.heap.size w).alloc (Nat.le_refl _) (.cells #[.int .i64 0, .int .i64 0] 39)).alloc (by simp) (.cells #[.int .i64 l.length, .int .i64 t.length] 39)).cell (p := ⟨b, off + j, none⟩) hb
    rw [e1]
    exact HT.out j u hj
  case c3 => unfold maxLen; omega
  case c4 => omega
  case c5 => simp; omega
  intro g cap w1 hown1 hgrow1 hat hlt
  generalize hwa : (w.alloc (.cells #[.int .i64 0, .int .i64 0] 39)).alloc (.cells #[.int .i64 l.length, .int .i64 t.length] 39) = wa at *
  have hba : Below w.heap.size w wa := by rw [← hwa]; exact ((Below.refl _ w).alloc (Nat.le_refl _) _).alloc (by simp) _
  have hsa : wa.heap.size = w.heap.size + 2 := by rw [← hwa]; simp
  have hA : wa.heap[w.heap.size]? = some (.cells #[.int .i64 0, .int .i64 0] 39 (0, 0)) := by rw [← hwa]; exact heap_mid _ _ _
  have hA2 : wa.heap[w.heap.size + 1]? = some (.cells #[.int .i64 l.length, .int .i64 t.length] 39 (0, 0)) := by
    rw [← hwa, show w.heap.size + 1 = (w.alloc (.cells #[.int .i64 0, .int .i64 0] 39)).heap.size by simp]
    exact heap_alloc_new _ _
  have hpa : wa.heap[p]? = some (.cells #[.slice a l.length c0] 121 (0, 0)) := (hba.block p hpl).trans HP.out
  have hoa := own_below HOW.out hba
  have hA1 : w1.heap[w.heap.size]? = some (.cells #[.int .i64 0, .int .i64 0] 39 (0, 0)) := (hgrow1.block _ (by omega) (fun e => own_ne hoa hA (by decide) e.symm)).trans hA
  have hA21 : w1.heap[w.heap.size + 1]? = some (.cells #[.int .i64 l.length, .int .i64 t.length] 39 (0, 0)) := (hgrow1.block _ (by omega) (fun e => own_ne hoa hA2 (by decide) e.symm)).trans hA2
  have hp1 : w1.heap[p]? = some (.cells #[.slice a l.length c0] 121 (0, 0)) := (hgrow1.block _ (by omega) (fun e => own_ne hoa hpa (by decide) e.symm)).trans hpa
  have T1 : Turned B w w1 := (Turned.of_below hba hB).grown (by omega) hoa hgrow1
  have T2 := Turned.set_arena (o := 0) (u := .slice (some ⟨g, 0, none⟩) (l.length + t.length) cap) T1 hBp hp1
  have hw2 : Ar (w1.setCell ⟨p, 0, none⟩ (.slice (some ⟨g, 0, none⟩) (l.length + t.length) cap)) B p (l ++ t) := by
    refine ⟨some ⟨g, 0, none⟩, cap, hBp, ?_, ?_, by rw [List.length_append]; omega⟩
    · rw [heap_set_at hp1, List.length_append]; rfl
    · rw [List.length_append, show bc (l ++ t) = bc l ++ bc t by unfold bc; simp]
      exact own_set hown1 (own_ne hown1 hp1 (by decide))
  have hA12 : (w1.setCell ⟨p, 0, none⟩ (.slice (some ⟨g, 0, none⟩) (l.length + t.length) cap)).heap[w.heap.size]? = some (.cells #[.int .i64 0, .int .i64 0] 39 (0, 0)) := by rw [heap_set_other (by omega)]; exact hA1
  have hA22 : (w1.setCell ⟨p, 0, none⟩ (.slice (some ⟨g, 0, none⟩) (l.length + t.length) cap)).heap[w.heap.size + 1]? = some (.cells #[.int .i64 l.length, .int .i64 t.length] 39 (0, 0)) := by rw [heap_set_other (by omega)]; exact hA21
  have x1 : w1.cell? ⟨p, 0, none⟩ = some (.slice a l.length c0) := by rw [cell_at hp1]; rfl
  have x2 := unfrozen hp1 0
  generalize hw2e : w1.setCell ⟨p, 0, none⟩ (.slice (some ⟨g, 0, none⟩) (l.length + t.length) cap) = w2 at *
  have y0 : w2.cell? ⟨w.heap.size, 0, none⟩ = some (.int .i64 0) := by rw [cell_at hA12]; rfl
  have y1 : w2.cell? ⟨w.heap.size, 1, none⟩ = some (.int .i64 0) := by rw [cell_at hA12]; rfl
  have y2 := unfrozen hA12 0
  have y3 := unfrozen hA12 1
  have z0 : w2.cell? ⟨w.heap.size + 1, 0, none⟩ = some (.int .i64 l.length) := by rw [cell_at hA22]; rfl
  have z1 : w2.cell? ⟨w.heap.size + 1, 1, none⟩ = some (.int .i64 t.length) := by rw [cell_at hA22]; rfl
  have HW2 := Lib.hid hw2
  have HT2 := Lib.hid T2
  have HA := Lib.hid hA12
  clear hwa hba hsa hA hA2 hpa hoa hA1 hA21 hp1 T1 T2 hw2 hA12 hA22 hown1 hgrow1 hat hcp hfz
  go_wp2_with fail
  refine bodyPost_ret (v := .tuple #[.agg #[.int .i64 l.length, .int .i64 t.length], .int .i64 0]) (by simp [results, Try.results21, go_sem, y0, y1]) rfl ⟨rfl, ?_, ?_⟩
  · exact (HW2.out.set HA.out (by decide) (by decide)).set (heap_set_at HA.out) (by decide) (by decide)
  · exact (HT2.out.set_new hB (Nat.le_refl _)).set_new hB (Nat.le_refl _)

end Go.Proofs.Ytmdifcgnmkpecaa
