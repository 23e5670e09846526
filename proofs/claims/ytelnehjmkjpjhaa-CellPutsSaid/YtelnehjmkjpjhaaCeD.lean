/-
  The contract of cell's Put, and the walk of CellBack, at this seat's numbers.
-/
import Derived.Test.YtelnehjmkjpjhaaCeC
import Derived.Test.YtelnehjmkjpjhaaQuE
import Derived.Test.YtelnehjmkjpjhaaPcW
namespace Go.Proofs.Ytelnehjmkjpjhaa
open Go Go.RowKit
set_option linter.unusedVariables false

theorem cut7_of (s : ByteArray) (n : Nat) (w : World) (hs : s.size ≤ maxLen) (hn : n ≤ maxLen) :
    Calls Try.prog 40 #[.string s, .int .i64 n] w fun e w' => e = .returned (.string (cutS s n)) ∧ w = w' := by
  unfold maxLen at hs hn
  by_cases h : n < s.size
  · have e : cutS s n = s.extract 0 n := by unfold cutS; rw [if_pos h]
    rw [e]
    clear e
    go_enter Try.func40, Try.ntmps40
    go_wp2
    go_ret
    exact ⟨rfl, rfl⟩
  · have e : cutS s n = s := by unfold cutS; rw [if_neg h]
    rw [e]
    clear e
    go_enter Try.func40, Try.ntmps40
    go_wp2
    go_ret
    exact ⟨rfl, rfl⟩

/-- What Put tells of bytes that are not too many. -/
def CPutPost (l f : List UInt8) (B p : Nat) (w : World) (e : Ending) (w' : World) : Prop :=
  Ar w' B p (keepL l f) ∧ Turned B w w' ∧
  (((keepR l f).2.2 ≠ 0 ∧ e = .returned (.tuple #[cellV none 0 0 0 0 false, .int .i64 (keepR l f).2.2])) ∨
   ((keepR l f).2.2 = 0 ∧ ∃ a n c, e = .returned (.tuple #[cellV a n c 0 0 false, .int .i64 0]) ∧ TxB w.heap.size w' (.slice a n c) (ex [((keepR l f).1, (f.length : Int))])))

set_option maxRecDepth 100000 in
set_option maxHeartbeats 2000000 in
theorem cput_of {w : World} {B p : Nat} {l f : List UInt8} {a : Option Addr} {c : Nat} (h : Ar w B p l) (hl : l.length ≤ 16384) (hB : B ≤ w.heap.size) (hB0 : 0 < B) (hm : ML w) (hr : Rd w 1 a f.length (bc f)) (hf : f.length ≤ 400) :
    Calls Try.prog 50 #[.pointer (some ⟨p, 0, none⟩), .slice a f.length c] w (CPutPost l f B p w) := by
  have al := below_al w (Obj.cells #[Value.slice none 0 0, Value.int .i64 0, Value.int .i64 0, Value.bool false] 83)
  have HH1 := Lib.hid (heap_alloc_new w (Obj.cells #[Value.slice none 0 0, Value.int .i64 0, Value.int .i64 0, Value.bool false] 83))
  have hz1 : (w.alloc (Obj.cells #[Value.slice none 0 0, Value.int .i64 0, Value.int .i64 0, Value.bool false] 83)).heap.size = w.heap.size + 1 := by simp
  obtain ⟨m, hmc⟩ := (hm.below al (by omega)).2
  have HK := Lib.hid (keep_of (c := c) (h.below al) hl a (Nat.le_trans hB al.size) (hr.below al) (by unfold maxLen; omega) hmc (by omega))
  have HKO := Lib.hid (keepR_ok l f hl)
  have HB1 := Lib.hid al
  have d : decide ((400 : Int) < (f.length : Int)) = false := decide_eq_false (by omega)
  have d' : decide (400 < f.length) = false := decide_eq_false (by omega)
  clear h hm hr al hmc
  unfold CPutPost
  unfold ArPost ret3 at HK
  generalize keepR l f = r at *
  generalize keepL l f = l2 at *
  obtain ⟨r1, r2, r3⟩ := r
  simp only at HKO HK ⊢
  go_enter Try.func50, Try.ntmps50
  go_upto_region 1 with fail
  generalize w.alloc (Obj.cells #[Value.slice none 0 0, Value.int .i64 0, Value.int .i64 0, Value.bool false] 83) = w1 at *
  go_wp2_with fail
  refine HK.out.mono ?_; rintro e w3 ⟨rfl, hA3, hT3⟩
  have HA3 := Lib.hid hA3
  have HT3 := Lib.hid ((Turned.of_below HB1.out hB).trans hT3)
  have HH3 := Lib.hid (heap_turned HH1.out hT3 (by decide) (by decide))
  have hz3 := hT3.size
  clear hA3 hT3 HK HH1 HB1
  by_cases he : r3 = 0
  · obtain ⟨i, e1, e2, e3, e4, -⟩ := HKO.out he
    subst he e1 e2
    have al3 := below_al w3 (Obj.cells #[Value.int .i64 i, Value.int .i64 f.length] 51)
    have s0 : (w3.alloc (Obj.cells #[Value.int .i64 i, Value.int .i64 f.length] 51)).cell? ⟨w3.heap.size, 0, none⟩ = some (.int .i64 i) := by rw [cell_at (heap_alloc_new w3 _)]; rfl
    have s1 : (w3.alloc (Obj.cells #[Value.int .i64 i, Value.int .i64 f.length] 51)).cell? ⟨w3.heap.size, 1, none⟩ = some (.int .i64 f.length) := by rw [cell_at (heap_alloc_new w3 _)]; rfl
    have HA4 := Lib.hid (HA3.out.below al3)
    have HT4 := Lib.hid (HT3.out.then_below al3 (by omega))
    have HH4 := Lib.hid ((al3.block _ (by omega)).trans HH3.out)
    have hz4 : (w3.alloc (Obj.cells #[Value.int .i64 i, Value.int .i64 f.length] 51)).heap.size > w3.heap.size := by simp
    clear HA3 HT3 HH3 al3 d d'
    go_upto_region 6 with fail
    generalize w3.alloc (Obj.cells #[Value.int .i64 i, Value.int .i64 f.length] 51) = w4 at *
    have al4 := below_al w4 (Obj.cells #[Value.int .i64 i, Value.int .i64 f.length] 51)
    have HOf := Lib.hid (of_one (c := 1) (heap_alloc_new w4 (Obj.cells #[Value.int .i64 i, Value.int .i64 f.length] 51)) (by omega))
    have hz5 : (w4.alloc (Obj.cells #[Value.int .i64 i, Value.int .i64 f.length] 51)).heap.size > w4.heap.size := by simp
    have HA5 := Lib.hid (HA4.out.below al4)
    have HT5 := Lib.hid (HT4.out.then_below al4 (by omega))
    have HH5 := Lib.hid ((al4.block _ (by omega)).trans HH4.out)
    clear HA4 HT4 HH4 al4
    go_wp2_with fail
    refine HOf.out.mono ?_; rintro e w6 ⟨a6, n6, c6, rfl, hx6, hb6⟩
    have HX6 := Lib.hid hx6
    have HH6 := Lib.hid ((hb6.block _ (by omega)).trans HH5.out)
    have HA6 := Lib.hid (HA5.out.below hb6)
    have HT6 := Lib.hid (HT5.out.then_below hb6 (by omega))
    have hz6 := hb6.size
    have HCO := Lib.hid (ceof_of (w := w6) a6 n6 c6)
    clear hx6 hb6 HOf HA5 HT5 HH5 s0 s1
    go_wp2_with fail
    refine HCO.out.mono ?_; rintro e w7 ⟨rfl, hb7⟩
    have HX7 := Lib.hid (HX6.out.below hb7)
    have hh7 := (hb7.block _ (by omega)).trans HH6.out
    have HA7 := Lib.hid (HA6.out.below hb7)
    have HT7 := Lib.hid (HT6.out.then_below hb7 (by omega))
    have z7 := fun i => unfrozen hh7 i
    have p0 : w7.cell? ⟨w.heap.size, 0, none⟩ = some (.slice none 0 0) := by rw [cell_at hh7]; rfl
    have p1 : w7.cell? ⟨w.heap.size, 1, none⟩ = some (.int .i64 0) := by rw [cell_at hh7]; rfl
    have p2 : w7.cell? ⟨w.heap.size, 2, none⟩ = some (.int .i64 0) := by rw [cell_at hh7]; rfl
    have p3 : w7.cell? ⟨w.heap.size, 3, none⟩ = some (.bool false) := by rw [cell_at hh7]; rfl
    have HH7 := Lib.hid hh7
    clear hh7 hb7 HX6 HH6 HA6 HT6 HCO
    go_wp2_with fail
    have hs := set4_at HH7.out (.slice a6 n6 c6) (.int .i64 0) (.int .i64 0) (.bool false)
    have q0 : (set4 w7 w.heap.size (.slice a6 n6 c6) (.int .i64 0) (.int .i64 0) (.bool false)).cell? ⟨w.heap.size, 0, none⟩ = some (.slice a6 n6 c6) := by rw [cell_at hs]; rfl
    have q1 : (set4 w7 w.heap.size (.slice a6 n6 c6) (.int .i64 0) (.int .i64 0) (.bool false)).cell? ⟨w.heap.size, 1, none⟩ = some (.int .i64 0) := by rw [cell_at hs]; rfl
    have q2 : (set4 w7 w.heap.size (.slice a6 n6 c6) (.int .i64 0) (.int .i64 0) (.bool false)).cell? ⟨w.heap.size, 2, none⟩ = some (.int .i64 0) := by rw [cell_at hs]; rfl
    have q3 : (set4 w7 w.heap.size (.slice a6 n6 c6) (.int .i64 0) (.int .i64 0) (.bool false)).cell? ⟨w.heap.size, 3, none⟩ = some (.bool false) := by rw [cell_at hs]; rfl
    have hA := HA7.out.set4 HH7.out (by decide) (by decide) (.slice a6 n6 c6) (.int .i64 0) (.int .i64 0) (.bool false)
    have hX := HX7.out.set4 (b := w.heap.size) (by omega) (.slice a6 n6 c6) (.int .i64 0) (.int .i64 0) (.bool false)
    have hT : Turned B w (set4 w7 w.heap.size (.slice a6 n6 c6) (.int .i64 0) (.int .i64 0) (.bool false)) := (((HT7.out.set_new hB (Nat.le_refl _)).set_new hB (Nat.le_refl _)).set_new hB (Nat.le_refl _)).set_new hB (Nat.le_refl _)
    unfold set4 at q0 q1 q2 q3 hA hX hT
    exact bodyPost_ret (v := .tuple #[cellV a6 n6 c6 0 0 false, .int .i64 0]) (by simp [results, Try.results50, go_sem, q0, q1, q2, q3]) rfl ⟨hA, hT, ⟨a6, n6, c6, rfl, hX.mono (by omega)⟩⟩
  · have de : (r3 == 0) = false := by simpa using he
    have HE := Lib.hid he
    have al3 := below_al w3 (Obj.cells #[Value.int .i64 r1, Value.int .i64 r2] 51)
    have HA4 := Lib.hid (HA3.out.below al3)
    have HT4 := Lib.hid (HT3.out.then_below al3 (by omega))
    have h4 := (al3.block _ (by omega)).trans HH3.out
    have H4 := Lib.hid h4
    have z7 := fun i => unfrozen h4 i
    have p0 : (w3.alloc (Obj.cells #[Value.int .i64 r1, Value.int .i64 r2] 51)).cell? ⟨w.heap.size, 0, none⟩ = some (.slice none 0 0) := by rw [cell_at h4]; rfl
    have p1 : (w3.alloc (Obj.cells #[Value.int .i64 r1, Value.int .i64 r2] 51)).cell? ⟨w.heap.size, 1, none⟩ = some (.int .i64 0) := by rw [cell_at h4]; rfl
    have p2 : (w3.alloc (Obj.cells #[Value.int .i64 r1, Value.int .i64 r2] 51)).cell? ⟨w.heap.size, 2, none⟩ = some (.int .i64 0) := by rw [cell_at h4]; rfl
    have p3 : (w3.alloc (Obj.cells #[Value.int .i64 r1, Value.int .i64 r2] 51)).cell? ⟨w.heap.size, 3, none⟩ = some (.bool false) := by rw [cell_at h4]; rfl
    clear he HA3 HT3 HH3 h4 d d' al3
    go_wp2_with fail
    generalize w3.alloc (Obj.cells #[Value.int .i64 r1, Value.int .i64 r2] 51) = w4 at *
    have hs := set4_at H4.out (.slice none 0 0) (.int .i64 0) (.int .i64 0) (.bool false)
    have q0 : (set4 w4 w.heap.size (.slice none 0 0) (.int .i64 0) (.int .i64 0) (.bool false)).cell? ⟨w.heap.size, 0, none⟩ = some (.slice none 0 0) := by rw [cell_at hs]; rfl
    have q1 : (set4 w4 w.heap.size (.slice none 0 0) (.int .i64 0) (.int .i64 0) (.bool false)).cell? ⟨w.heap.size, 1, none⟩ = some (.int .i64 0) := by rw [cell_at hs]; rfl
    have q2 : (set4 w4 w.heap.size (.slice none 0 0) (.int .i64 0) (.int .i64 0) (.bool false)).cell? ⟨w.heap.size, 2, none⟩ = some (.int .i64 0) := by rw [cell_at hs]; rfl
    have q3 : (set4 w4 w.heap.size (.slice none 0 0) (.int .i64 0) (.int .i64 0) (.bool false)).cell? ⟨w.heap.size, 3, none⟩ = some (.bool false) := by rw [cell_at hs]; rfl
    have hA := HA4.out.set4 H4.out (by decide) (by decide) (.slice none 0 0) (.int .i64 0) (.int .i64 0) (.bool false)
    have hT : Turned B w (set4 w4 w.heap.size (.slice none 0 0) (.int .i64 0) (.int .i64 0) (.bool false)) := (((HT4.out.set_new hB (Nat.le_refl _)).set_new hB (Nat.le_refl _)).set_new hB (Nat.le_refl _)).set_new hB (Nat.le_refl _)
    unfold set4 at q0 q1 q2 q3 hA hT
    exact bodyPost_ret (v := .tuple #[cellV none 0 0 0 0 false, .int .i64 r3]) (by simp [results, Try.results50, go_sem, q0, q1, q2, q3]) rfl ⟨hA, hT, .inl ⟨HE.out, rfl⟩⟩

theorem keep_empty (f : List UInt8) (hf : f.length ≤ 400) : (keepR [] f).2.2 = 0 := by
  by_cases h : (keepR [] f).2.2 = 0
  · exact h
  · have := (keepR_err [] f h).2.2
    simp at this; omega
theorem new_nil (w : World) :
    Calls Try.prog 41 #[.slice none 0 0] w fun e w' => ∃ p, e = .returned (.tuple #[.pointer (some ⟨p, 0, none⟩), .int .i64 0]) ∧ Ar w' w.heap.size p [] ∧ Below w.heap.size w w' :=
  new_of (t := []) none 0 ⟨rfl, fun hn => absurd hn (by simp)⟩ (by simp)

set_option maxRecDepth 100000 in
set_option maxHeartbeats 4000000 in
theorem cellBack_walk (s : ByteArray) (w : World) (hs : s.size ≤ maxLen) (hm : ML w) :
    Calls Try.prog 11 #[.string s] w fun e w' => e = .returned (.bool true) ∧ Below w.heap.size w w' := by
  have HC := Lib.hid (fun w' => cut7_of s 400 w' hs (by decide))
  have hcl := cutS_le s 400
  have HM := Lib.hid hm
  have h0 := hm.1
  clear hs hm
  generalize cutS s 400 = t at *
  obtain ⟨l, hl⟩ : ∃ l, t.data.toList = l := ⟨_, rfl⟩
  have hsz := sz_of hl
  rw [hsz] at hcl
  have HL := Lib.hid hl
  have HT : Hid (strOf l = t) := by show _ = _; rw [← hl]; exact strOf_data t
  clear hl
  have hpl := putP_len l
  have hf0 := put_field0 l
  have HN := Lib.hid (new_nil w)
  go_enter Try.func11, Try.ntmps11
  go_wp2_with fail
  refine (HC.out _).mono ?_; rintro e wx ⟨rfl, rfl⟩
  go_wp2_with fail
  refine HN.out.mono ?_; rintro e w1 ⟨p, rfl, hA1, hb1⟩
  obtain ⟨cap, W1, hcv, hH, hbW⟩ := held_of t w1 (by rw [hsz]; unfold maxLen; omega)
  have hrd : Rd W1 1 (some ⟨w1.heap.size, 0, none⟩) l.length (bc l) := by have := rd_held hH; rw [HL.out] at this; exact this
  have HB1 := Lib.hid (hb1.trans (hbW.mono hb1.size))
  have HPT := Lib.hid (cput_of (c := cap) (hA1.below hbW) (by simp) HB1.out.size h0 (HM.out.below HB1.out h0) hrd hcl)
  have hke := keep_empty l hcl
  have HKO := Lib.hid (keepR_ok [] l (by simp) hke)
  unfold CPutPost at HPT
  rw [hsz] at hcv
  generalize keepR [] l = r at *
  generalize keepL [] l = l2 at *
  obtain ⟨r1, r2, r3⟩ := r
  simp only at HKO HPT hke
  subst hke
  clear hA1 hb1 hbW hH hrd HC HN
  go_wp2_with fail
  refine HPT.out.mono ?_; rintro e w2 ⟨hA2, hT2, hor⟩
  rcases hor with ⟨he, -⟩ | ⟨-, a, n, c, rfl, hx2⟩
  · exact absurd rfl he
  obtain ⟨i, rfl, rfl, hi1, hi2, hi3⟩ := HKO.out
  have al := below_al w2 (Obj.cells #[Value.slice a n c, Value.int .i64 0, Value.int .i64 0, Value.bool false] 83)
  have hin : InL l2 (ex [((i : Int), (l.length : Int))]) := fun x hx => by
    obtain ⟨q, hq, h1, h2⟩ := mem_ex hx
    obtain rfl := List.mem_singleton.1 hq
    simp only at h1 h2
    omega
  have hpr := cprint_text 0 0 (hA2.below al) hi2 ((hx2.tx).below al) hin
  rw [atL_span hi1, hi3] at hpr
  have HPR := Lib.hid hpr
  have HB2 := Lib.hid ((HB1.out.trans hT2.low).trans (al.mono (HB1.out.trans hT2.low).size))
  have s0 : (w2.alloc (Obj.cells #[Value.slice a n c, Value.int .i64 0, Value.int .i64 0, Value.bool false] 83)).cell? ⟨w2.heap.size, 0, none⟩ = some (.slice a n c) := by rw [cell_at (heap_alloc_new w2 _)]; rfl
  have s1 : (w2.alloc (Obj.cells #[Value.slice a n c, Value.int .i64 0, Value.int .i64 0, Value.bool false] 83)).cell? ⟨w2.heap.size, 1, none⟩ = some (.int .i64 0) := by rw [cell_at (heap_alloc_new w2 _)]; rfl
  have s2 : (w2.alloc (Obj.cells #[Value.slice a n c, Value.int .i64 0, Value.int .i64 0, Value.bool false] 83)).cell? ⟨w2.heap.size, 2, none⟩ = some (.int .i64 0) := by rw [cell_at (heap_alloc_new w2 _)]; rfl
  have s3 : (w2.alloc (Obj.cells #[Value.slice a n c, Value.int .i64 0, Value.int .i64 0, Value.bool false] 83)).cell? ⟨w2.heap.size, 3, none⟩ = some (.bool false) := by rw [cell_at (heap_alloc_new w2 _)]; rfl
  clear hpr hA2 hT2 hx2 al HPT HKO hcv hin HB1
  go_wp2_with fail
  refine HPR.out.mono ?_; rintro e w3 ⟨ap, cp, rfl, hop, hb3⟩
  have hcaps := own_caps hop
  generalize hKK : (if needsP l = true then (1 : Int) else 0) = K at *
  have HK := Lib.hid hKK
  have HR := Lib.hid (rdTold_of (c := cp) (rd_own hop) (by omega) hcaps.1 hcaps.2 HT.out hf0.1 hf0.2)
  have HB3 := Lib.hid (HB2.out.trans (hb3.mono HB2.out.size))
  clear hop hb3 hcaps hf0 hKK HPR s0 s1 s2 s3 HB2
  go_wp2_with fail
  refine HR.out.mono ?_; rintro e w4 ⟨a4, n4, c4, rfl, hst4, hb4⟩
  have HB4 := Lib.hid (HB3.out.trans (hb4.mono HB3.out.size))
  have hst := hst4 w4 (Below.refl _ _)
  have hfK : fineB K = true := by rw [← HK.out]; split <;> rfl
  clear hst4 hb4 HR HB3
  go_wp2_with fail
  refine (fine_of _ _).mono ?_; rintro e wf ⟨rfl, rfl⟩
  rw [hfK]
  go_wp2_with fail
  refine (awake7_of _).mono ?_; rintro e wz ⟨rfl, hbz⟩
  have HBZ := Lib.hid (HB4.out.trans (hbz.mono HB4.out.size))
  clear hbz
  go_wp2_with fail
  go_ret
  exact ⟨rfl, HBZ.out⟩

end Go.Proofs.Ytelnehjmkjpjhaa
