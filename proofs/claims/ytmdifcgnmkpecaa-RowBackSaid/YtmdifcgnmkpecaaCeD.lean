/-
  The contract of cell's Put, and the walk of CellBack, at this seat's numbers.
-/
import Derived.Test.YtmdifcgnmkpecaaCeC
import Derived.Test.YtmdifcgnmkpecaaQuE
import Derived.Test.YtmdifcgnmkpecaaPcW
namespace Go.Proofs.Ytmdifcgnmkpecaa
open Go Go.RowKit
set_option linter.unusedVariables false

theorem cut7_of (s : ByteArray) (n : Nat) (w : World) (hs : s.size ≤ maxLen) (hn : n ≤ maxLen) :
    Calls Try.prog 10 #[.string s, .int .i64 n] w fun e w' => e = .returned (.string (cutS s n)) ∧ w = w' := by
  unfold maxLen at hs hn
  by_cases h : n < s.size
  · have e : cutS s n = s.extract 0 n := by unfold cutS; rw [if_pos h]
    rw [e]
    clear e
    go_enter Try.func10, Try.ntmps10
    go_wp2
    go_ret
    exact ⟨rfl, rfl⟩
  · have e : cutS s n = s := by unfold cutS; rw [if_neg h]
    rw [e]
    clear e
    go_enter Try.func10, Try.ntmps10
    go_wp2
    go_ret
    exact ⟨rfl, rfl⟩

/-- What Put tells of bytes that are not too many. -/
def CPutPost (l f : List UInt8) (B p : Nat) (w : World) (e : Ending) (w' : World) : Prop :=
  Ar w' B p (keepL l f) ∧ Turned B w w' ∧
  (((keepR l f).2.2 ≠ 0 ∧ e = .returned (.tuple #[cellV none 0 0 0 0 false, .int .i64 (keepR l f).2.2])) ∨
   ((keepR l f).2.2 = 0 ∧ ∃ a n c, e = .returned (.tuple #[cellV a n c 0 0 false, .int .i64 0]) ∧ TxB w.heap.size w' (.slice a n c) (ex [((keepR l f).1, (f.length : Int))])))

set_option maxRecDepth 100000 in
set_option maxHeartbeats 2000000 in
theorem cput_of {w : World} {B p : Nat} {l f : List UInt8} {a : Option Addr} {c : Nat} (h : Ar w B p l) (hl : l.length ≤ 16384) (hB : B ≤ w.heap.size) (hB0 : 0 < B) (hm : ML w) (hr : Rd w 1 a f.length (bc f)) (hf : f.length ≤ 400) :
    Calls Try.prog 70 #[.pointer (some ⟨p, 0, none⟩), .slice a f.length c] w (CPutPost l f B p w) := by
  have al := below_al w (Obj.cells #[Value.slice none 0 0, Value.int .i64 0, Value.int .i64 0, Value.bool false] 50)
  have HH1 := Lib.hid (heap_alloc_new w (Obj.cells #[Value.slice none 0 0, Value.int .i64 0, Value.int .i64 0, Value.bool false] 50))
  have hz1 : (w.alloc (Obj.cells #[Value.slice none 0 0, Value.int .i64 0, Value.int .i64 0, Value.bool false] 50)).heap.size = w.heap.size + 1 := by simp
  obtain ⟨m, hmc⟩ := (hm.below al (by omega)).2
  have HK := Lib.hid (keep_of (c := c) (h.below al) hl a (Nat.le_trans hB al.size) (hr.below al) (by unfold maxLen; omega) hmc (by omega))
  have HKO := Lib.hid (keepR_ok l f hl)
  have HB1 := Lib.hid al
  have d : decide ((400 : Int) < (f.length : Int)) = false := decide_eq_false (by omega)
  have d' : decide (400 < f.length) = false := decide_eq_false (by omega)
  clear h hm hr al hmc
  unfold CPutPost
  unfold ArPost ret3 at HK
  generalize keepR l f = r at *
  generalize keepL l f = l2 at *
  obtain ⟨r1, r2, r3⟩ := r
  simp only at HKO HK ⊢
  go_enter Try.func70, Try.ntmps70
  go_upto_region 1 with fail
  generalize w.alloc (Obj.cells #[Value.slice none 0 0, Value.int .i64 0, Value.int .i64 0, Value.bool false] 50) = w1 at *
  go_wp2_with fail
  refine HK.out.mono ?_; rintro e w3 ⟨rfl, hA3, hT3⟩
  have HA3 := Lib.hid hA3
  have HT3 := Lib.hid ((Turned.of_below HB1.out hB).trans hT3)
  have HH3 := Lib.hid (heap_turned HH1.out hT3 (by decide) (by decide))
  have hz3 := hT3.size
  clear hA3 hT3 HK HH1 HB1
  by_cases he : r3 = 0
  · obtain ⟨i, e1, e2, e3, e4, -⟩ := HKO.out he
    subst he e1 e2
    have al3 := below_al w3 (Obj.cells #[Value.int .i64 i, Value.int .i64 f.length] 39)
    have s0 : (w3.alloc (Obj.cells #[Value.int .i64 i, Value.int .i64 f.length] 39)).cell? ⟨w3.heap.size, 0, none⟩ = some (.int .i64 i) := by rw [cell_at (heap_alloc_new w3 _)]; rfl
    have s1 : (w3.alloc (Obj.cells #[Value.int .i64 i, Value.int .i64 f.length] 39)).cell? ⟨w3.heap.size, 1, none⟩ = some (.int .i64 f.length) := by rw [cell_at (heap_alloc_new w3 _)]; rfl
    have HA4 := Lib.hid (HA3.out.below al3)
    have HT4 := Lib.hid (HT3.out.then_below al3 (by omega))
    have HH4 := Lib.hid ((al3.block _ (by omega)).trans HH3.out)
    have hz4 : (w3.alloc (Obj.cells #[Value.int .i64 i, Value.int .i64 f.length] 39)).heap.size > w3.heap.size := by simp
    clear HA3 HT3 HH3 al3 d d'
    go_upto_region 6 with fail
    generalize w3.alloc (Obj.cells #[Value.int .i64 i, Value.int .i64 f.length] 39) = w4 at *
    have al4 := below_al w4 (Obj.cells #[Value.int .i64 i, Value.int .i64 f.length] 39)
    have HOf := Lib.hid (of_one (c := 1) (heap_alloc_new w4 (Obj.cells #[Value.int .i64 i, Value.int .i64 f.length] 39)) (by omega))
    have hz5 : (w4.alloc (Obj.cells #[Value.int .i64 i, Value.int .i64 f.length] 39)).heap.size > w4.heap.size := by simp
    have HA5 := Lib.hid (HA4.out.below al4)
    have HT5 := Lib.hid (HT4.out.then_below al4 (by omega))
    have HH5 := Lib.hid ((al4.block _ (by omega)).trans HH4.out)
    clear HA4 HT4 HH4 al4
    go_wp2_with fail
    refine HOf.out.mono ?_; rintro e w6 ⟨a6, n6, c6, rfl, hx6, hb6⟩
    have HX6 := Lib.hid hx6
    have HH6 := Lib.hid ((hb6.block _ (by omega)).trans HH5.out)
    have HA6 := Lib.hid (HA5.out.below hb6)
    have HT6 := Lib.hid (HT5.out.then_below hb6 (by omega))
    have hz6 := hb6.size
    have HCO := Lib.hid (ceof_of (w := w6) a6 n6 c6)
    clear hx6 hb6 HOf HA5 HT5 HH5 s0 s1
    go_wp2_with fail
    refine HCO.out.mono ?_; rintro e w7 ⟨rfl, hb7⟩
    have HX7 := Lib.hid (HX6.out.below hb7)
    have hh7 := (hb7.block _ (by omega)).trans HH6.out
    have HA7 := Lib.hid (HA6.out.below hb7)
    have HT7 := Lib.hid (HT6.out.then_below hb7 (by omega))
    have z7 := fun i => unfrozen hh7 i
    have p0 : w7.cell? ⟨w.heap.size, 0, none⟩ = some (.slice none 0 0) := by rw [cell_at hh7]; rfl
    have p1 : w7.cell? ⟨w.heap.size, 1, none⟩ = some (.int .i64 0) := by rw [cell_at hh7]; rfl
    have p2 : w7.cell? ⟨w.heap.size, 2, none⟩ = some (.int .i64 0) := by rw [cell_at hh7]; rfl
    have p3 : w7.cell? ⟨w.heap.size, 3, none⟩ = some (.bool false) := by rw [cell_at hh7]; rfl
    have HH7 := Lib.hid hh7
    clear hh7 hb7 HX6 HH6 HA6 HT6 HCO
    go_wp2_with fail
    have hs := set4_at HH7.out (.slice a6 n6 c6) (.int .i64 0) (.int .i64 0) (.bool false)
    have q0 : (set4 w7 w.heap.size (.slice a6 n6 c6) (.int .i64 0) (.int .i64 0) (.bool false)).cell? ⟨w.heap.size, 0, none⟩ = some (.slice a6 n6 c6) := by rw [cell_at hs]; rfl
    have q1 : (set4 w7 w.heap.size (.slice a6 n6 c6) (.int .i64 0) (.int .i64 0) (.bool false)).cell? ⟨w.heap.size, 1, none⟩ = some (.int .i64 0) := by rw [cell_at hs]; rfl
    have q2 : (set4 w7 w.heap.size (.slice a6 n6 c6) (.int .i64 0) (.int .i64 0) (.bool false)).cell? ⟨w.heap.size, 2, none⟩ = some (.int .i64 0) := by rw [cell_at hs]; rfl
    have q3 : (set4 w7 w.heap.size (.slice a6 n6 c6) (.int .i64 0) (.int .i64 0) (.bool false)).cell? ⟨w.heap.size, 3, none⟩ = some (.bool false) := by rw [cell_at hs]; rfl
    have hA := HA7.out.set4 HH7.out (by decide) (by decide) (.slice a6 n6 c6) (.int .i64 0) (.int .i64 0) (.bool false)
    have hX := HX7.out.set4 (b := w.heap.size) (by omega) (.slice a6 n6 c6) (.int .i64 0) (.int .i64 0) (.bool false)
    have hT : Turned B w (set4 w7 w.heap.size (.slice a6 n6 c6) (.int .i64 0) (.int .i64 0) (.bool false)) := (((HT7.out.set_new hB (Nat.le_refl _)).set_new hB (Nat.le_refl _)).set_new hB (Nat.le_refl _)).set_new hB (Nat.le_refl _)
    unfold set4 at q0 q1 q2 q3 hA hX hT
    exact bodyPost_ret (v := .tuple #[cellV a6 n6 c6 0 0 false, .int .i64 0]) (by simp [results, Try.results70, go_sem, q0, q1, q2, q3]) rfl ⟨hA, hT, ⟨a6, n6, c6, rfl, hX.mono (by omega)⟩⟩
  · have de : (r3 == 0) = false := by simpa using he
    have HE := Lib.hid he
    have al3 := below_al w3 (Obj.cells #[Value.int .i64 r1, Value.int .i64 r2] 39)
    have HA4 := Lib.hid (HA3.out.below al3)
    have HT4 := Lib.hid (HT3.out.then_below al3 (by omega))
    have h4 := (al3.block _ (by omega)).trans HH3.out
    have H4 := Lib.hid h4
    have z7 := fun i => unfrozen h4 i
    have p0 : (w3.alloc (Obj.cells #[Value.int .i64 r1, Value.int .i64 r2] 39)).cell? ⟨w.heap.size, 0, none⟩ = some (.slice none 0 0) := by rw [cell_at h4]; rfl
    have p1 : (w3.alloc (Obj.cells #[Value.int .i64 r1, Value.int .i64 r2] 39)).cell? ⟨w.heap.size, 1, none⟩ = some (.int .i64 0) := by rw [cell_at h4]; rfl
    have p2 : (w3.alloc (Obj.cells #[Value.int .i64 r1, Value.int .i64 r2] 39)).cell? ⟨w.heap.size, 2, none⟩ = some (.int .i64 0) := by rw [cell_at h4]; rfl
    have p3 : (w3.alloc (Obj.cells #[Value.int .i64 r1, Value.int .i64 r2] 39)).cell? ⟨w.heap.size, 3, none⟩ = some (.bool false) := by rw [cell_at h4]; rfl
    clear he HA3 HT3 HH3 h4 d d' al3
    go_wp2_with fail
    generalize w3.alloc (Obj.cells #[Value.int .i64 r1, Value.int .i64 r2] 39) = w4 at *
    have hs := set4_at H4.out (.slice none 0 0) (.int .i64 0) (.int .i64 0) (.bool false)
    have q0 : (set4 w4 w.heap.size (.slice none 0 0) (.int .i64 0) (.int .i64 0) (.bool false)).cell? ⟨w.heap.size, 0, none⟩ = some (.slice none 0 0) := by rw [cell_at hs]; rfl
    have q1 : (set4 w4 w.heap.size (.slice none 0 0) (.int .i64 0) (.int .i64 0) (.bool false)).cell? ⟨w.heap.size, 1, none⟩ = some (.int .i64 0) := by rw [cell_at hs]; rfl
    have q2 : (set4 w4 w.heap.size (.slice none 0 0) (.int .i64 0) (.int .i64 0) (.bool false)).cell? ⟨w.heap.size, 2, none⟩ = some (.int .i64 0) := by rw [cell_at hs]; rfl
    have q3 : (set4 w4 w.heap.size (.slice none 0 0) (.int .i64 0) (.int .i64 0) (.bool false)).cell? ⟨w.heap.size, 3, none⟩ = some (.bool false) := by rw [cell_at hs]; rfl
    have hA := HA4.out.set4 H4.out (by decide) (by decide) (.slice none 0 0) (.int .i64 0) (.int .i64 0) (.bool false)
    have hT : Turned B w (set4 w4 w.heap.size (.slice none 0 0) (.int .i64 0) (.int .i64 0) (.bool false)) := (((HT4.out.set_new hB (Nat.le_refl _)).set_new hB (Nat.le_refl _)).set_new hB (Nat.le_refl _)).set_new hB (Nat.le_refl _)
    unfold set4 at q0 q1 q2 q3 hA hT
    exact bodyPost_ret (v := .tuple #[cellV none 0 0 0 0 false, .int .i64 r3]) (by simp [results, Try.results70, go_sem, q0, q1, q2, q3]) rfl ⟨hA, hT, .inl ⟨HE.out, rfl⟩⟩

theorem keep_empty (f : List UInt8) (hf : f.length ≤ 400) : (keepR [] f).2.2 = 0 := by
  by_cases h : (keepR [] f).2.2 = 0
  · exact h
  · have := (keepR_err [] f h).2.2
    simp at this; omega
theorem new_nil (w : World) :
    Calls Try.prog 11 #[.slice none 0 0] w fun e w' => ∃ p, e = .returned (.tuple #[.pointer (some ⟨p, 0, none⟩), .int .i64 0]) ∧ Ar w' w.heap.size p [] ∧ Below w.heap.size w w' :=
  new_of (t := []) none 0 ⟨rfl, fun hn => absurd hn (by simp)⟩ (by simp)

end Go.Proofs.Ytmdifcgnmkpecaa
