/-
  The contracts of scan's plain, quoted and field, at this seat's numbers.
-/
import Derived.Test.YtmdifcgnmkpecaaScB
namespace Go.Proofs.Ytmdifcgnmkpecaa
open Go Go.RowKit
set_option linter.unusedVariables false

/-- A field's value; v: its parts. -/
def fdV (f : Fd) (v : Value) : Value := .agg #[.int .i64 f.from_, .int .i64 ((f.to_ : Int) - f.from_), .int .i64 f.kind, v]
/-- What a call hands back that tells a field and the place behind it. -/
def FdPost (f : Fd) (w : World) (e : Ending) (w' : World) : Prop :=
  ∃ a c, e = .returned (.tuple #[fdV f (.slice a (canon f.pl).length c), .int .i64 f.to_]) ∧ w'.ownsRow w.heap.size 39 2 (.slice a (canon f.pl).length c) (canon f.pl).length (spC (canon f.pl)) ∧ Below w.heap.size w w'

theorem rd_sub {w : World} {b off : Nat} {l : List UInt8} (h : Rd w 1 (some ⟨b, off, none⟩) l.length (bc l)) (i j : Nat) (hj : j ≤ l.length) (hij : i ≤ j) (hb : b < w.heap.size) (sp : Option Addr) (hsp : i < j → sp = some ⟨b, off + i, none⟩) : Rd w 1 sp ((l.drop i).take (j - i)).length (bc ((l.drop i).take (j - i))) := by
  refine ⟨by rw [bc_len]; omega, fun hn => ?_⟩
  have hl : ((l.drop i).take (j - i)).length = j - i := by simp; omega
  rw [hl] at hn
  refine ⟨b, off + i, hsp (by omega), hb, fun k u hu => ?_⟩
  obtain ⟨b', off', e, _, hc⟩ := h.2 (by omega)
  obtain ⟨rfl, rfl⟩ : b = b' ∧ off = off' := by simpa using e
  rw [Nat.add_assoc]
  refine hc (i + k) u ?_
  unfold bc at hu ⊢
  rw [List.getElem?_map, List.getElem?_take] at hu
  rw [List.getElem?_map]
  split at hu
  · rw [List.getElem?_drop] at hu; exact hu
  · simp at hu

theorem put_nil (i j : Nat) (hij : i ≤ j) (hj : j ≤ 1000000) (w : World) :
    Calls Try.prog 104 #[.slice none 0 0, .int .i64 i, .int .i64 j] w fun e w' => ∃ a' c', e = .returned (.slice a' (putL [] i j).length c') ∧ w'.ownsRow w.heap.size 39 2 (.slice a' (putL [] i j).length c') (putL [] i j).length (spC (putL [] i j)) ∧ Below w.heap.size w w' ∧ w.heap.size ≤ w'.heap.size :=
  put_of (l := []) (own_nil w w.heap.size 39 2) (Nat.le_refl _) i j hij hj (by simp)

theorem plain_kind {l : List UInt8} {i : Nat} (hq : quAt l i = false) : (fieldP l i).to_ = till l i ∧ (fieldP l i).kind = (if hasQ l i (till l i) = true then 2 else 0) ∧ (fieldP l i).pl = pls i (till l i) := by
  have hf : fieldP l i = ⟨i, till l i, if hasQ l i (till l i) = true then 2 else 0, pls i (till l i)⟩ := by unfold fieldP; rw [if_neg (by simp [hq])]
  rw [hf]; exact ⟨rfl, rfl, rfl⟩

/-- A field's block. -/
def FdAt (w : World) (p : Nat) : Prop := ∃ v0 v1 v2 v3 : Value, w.heap[p]? = some (.cells #[v0, v1, v2, v3] 42 (0, 0))
theorem four_at {w : World} {p : Nat} {t : TypeId} {a0 a1 a2 a3 : Value} {fr : Nat × Nat} (h : w.heap[p]? = some (.cells #[a0, a1, a2, a3] t fr)) (v0 v1 v2 v3 : Value) :
    ((((w.setCell ⟨p, 0, none⟩ v0).setCell ⟨p, 1, none⟩ v1).setCell ⟨p, 2, none⟩ v2).setCell ⟨p, 3, none⟩ v3).heap[p]? = some (.cells #[v0, v1, v2, v3] t fr) := by
  have h1 := heap_set_at (o := 0) (u := v0) h
  have h2 := heap_set_at (o := 1) (u := v1) h1
  have h3 := heap_set_at (o := 2) (u := v2) h2
  exact heap_set_at (o := 3) (u := v3) h3
theorem four_cells {w : World} {p : Nat} {t : TypeId} {a0 a1 a2 a3 : Value} {fr : Nat × Nat} (h : w.heap[p]? = some (.cells #[a0, a1, a2, a3] t fr)) (v0 v1 v2 v3 : Value) :
    ∀ j v, (#[v0, v1, v2, v3] : Array Value)[j]? = some v → ((((w.setCell ⟨p, 0, none⟩ v0).setCell ⟨p, 1, none⟩ v1).setCell ⟨p, 2, none⟩ v2).setCell ⟨p, 3, none⟩ v3).cell? ⟨p, j, none⟩ = some v := by
  intro j v hj
  rw [cell_at (four_at h v0 v1 v2 v3)]; exact hj
theorem four_cells_al {w : World} {p : Nat} {t : TypeId} {a0 a1 a2 a3 : Value} {fr : Nat × Nat} (h : w.heap[p]? = some (.cells #[a0, a1, a2, a3] t fr)) (v0 v1 v2 v3 : Value) :
    (∀ o, (((((w.setCell ⟨p, 0, none⟩ v0).setCell ⟨p, 1, none⟩ v1).setCell ⟨p, 2, none⟩ v2).setCell ⟨p, 3, none⟩ v3).alloc o).cell? ⟨p, 0, none⟩ = some v0) ∧ (∀ o, (((((w.setCell ⟨p, 0, none⟩ v0).setCell ⟨p, 1, none⟩ v1).setCell ⟨p, 2, none⟩ v2).setCell ⟨p, 3, none⟩ v3).alloc o).cell? ⟨p, 1, none⟩ = some v1) ∧ (∀ o, (((((w.setCell ⟨p, 0, none⟩ v0).setCell ⟨p, 1, none⟩ v1).setCell ⟨p, 2, none⟩ v2).setCell ⟨p, 3, none⟩ v3).alloc o).cell? ⟨p, 2, none⟩ = some v2) ∧ (∀ o, (((((w.setCell ⟨p, 0, none⟩ v0).setCell ⟨p, 1, none⟩ v1).setCell ⟨p, 2, none⟩ v2).setCell ⟨p, 3, none⟩ v3).alloc o).cell? ⟨p, 3, none⟩ = some v3) := by
  have hc := four_cells h v0 v1 v2 v3
  have hl : p < ((((w.setCell ⟨p, 0, none⟩ v0).setCell ⟨p, 1, none⟩ v1).setCell ⟨p, 2, none⟩ v2).setCell ⟨p, 3, none⟩ v3).heap.size := by simp only [size_set]; exact lt_of_heap h
  refine ⟨fun o => ?_, fun o => ?_, fun o => ?_, fun o => ?_⟩
  · rw [World.cell?_alloc_lt _ _ ⟨p, 0, none⟩ hl]; exact hc 0 _ rfl
  · rw [World.cell?_alloc_lt _ _ ⟨p, 1, none⟩ hl]; exact hc 1 _ rfl
  · rw [World.cell?_alloc_lt _ _ ⟨p, 2, none⟩ hl]; exact hc 2 _ rfl
  · rw [World.cell?_alloc_lt _ _ ⟨p, 3, none⟩ hl]; exact hc 3 _ rfl
theorem four_own {w : World} {p B n s : Nat} {e t : TypeId} {v : Value} {xs : List Value} {a0 a1 a2 a3 : Value} {fr : Nat × Nat} (h : w.heap[p]? = some (.cells #[a0, a1, a2, a3] t fr)) (ho : w.ownsRow B e s v n xs) (hne : e ≠ t) (v0 v1 v2 v3 : Value) :
    ((((w.setCell ⟨p, 0, none⟩ v0).setCell ⟨p, 1, none⟩ v1).setCell ⟨p, 2, none⟩ v2).setCell ⟨p, 3, none⟩ v3).ownsRow B e s v n xs := by
  have hb := own_ne ho h hne
  exact own_set (own_set (own_set (own_set ho hb) hb) hb) hb
theorem four_below {W w : World} {p : Nat} (h : Below W.heap.size W w) (hp : W.heap.size ≤ p) (v0 v1 v2 v3 : Value) :
    Below W.heap.size W ((((w.setCell ⟨p, 0, none⟩ v0).setCell ⟨p, 1, none⟩ v1).setCell ⟨p, 2, none⟩ v2).setCell ⟨p, 3, none⟩ v3) :=
  (((h.setCell (p := ⟨p, 0, none⟩) hp _).setCell (p := ⟨p, 1, none⟩) hp _).setCell (p := ⟨p, 2, none⟩) hp _).setCell (p := ⟨p, 3, none⟩) hp _
theorem fdV_eq {F : Fd} {i j k : Int} {v : Value} (h1 : (F.from_ : Int) = i) (h2 : (F.to_ : Int) - i = j) (h3 : F.kind = k) : fdV F v = .agg #[.int .i64 i, .int .i64 j, .int .i64 k, v] := by
  unfold fdV; rw [h1, h2, h3]

set_option maxRecDepth 100000 in
set_option maxHeartbeats 1600000 in
theorem plain_of {w : World} {b off : Nat} {c : Nat} {l : List UInt8} (hr : Rd w 1 (some ⟨b, off, none⟩) l.length (bc l)) (hbw : b < w.heap.size) (hl : l.length ≤ 1000000) (hlc : l.length ≤ c) (hc : c ≤ maxLen) (i : Nat) (hi : i ≤ l.length) (hq : quAt l i = false) :
    Calls Try.prog 89 #[.slice (some ⟨b, off, none⟩) l.length c, .int .i64 i] w (FdPost (fieldP l i) w) := by
  obtain ⟨k2, k3, k4⟩ := plain_kind hq
  have k1 := fieldP_from l i
  have ht1 := till_ge l i
  have ht2 := till_le hi
  have HU := Lib.hid (fun w1 (hb : Below w.heap.size w w1) => until_mark (c := c) (hr.below hb) hl i hi)
  have HQ := Lib.hid (hasQ_iff l i (till l i) ht2)
  generalize till l i = j at *
  obtain ⟨sp, hsp⟩ : ∃ sp, (if c = i then some ⟨b, off, none⟩ else some ⟨b, off + i, none⟩ : Option Addr) = sp := ⟨_, rfl⟩
  have HR := Lib.hid (fun w1 (hb : Below w.heap.size w w1) => rd_sub (hr.below hb) i j ht2 ht1 (Nat.lt_of_lt_of_le hbw hb.size) sp (fun hij => by rw [← hsp, if_neg (by omega)]))
  have hsl : ((l.drop i).take (j - i)).length = j - i := by simp; omega
  have HSL := Lib.hid hsl
  have HS := Lib.hid (fun w => span_of i j ht1 (by omega) w)
  have HP := Lib.hid (fun (w : World) => put_nil i j ht1 (by omega) w)
  have HL := Lib.hid (canon_pls i j ht1)
  generalize (l.drop i).take (j - i) = sub at *
  generalize fieldP l i = F at *
  have hK : (hasQ l i j = true ∧ F.kind = 2) ∨ (hasQ l i j = false ∧ F.kind = 0) := by
    rw [k3]
    by_cases h : hasQ l i j = true
    · exact .inl ⟨h, if_pos h⟩
    · exact .inr ⟨Bool.eq_false_iff.2 h, if_neg h⟩
  have K1 := Lib.hid k1
  have K2 := Lib.hid k2
  have K4 := Lib.hid k4
  clear hr hq k1 k2 k3 k4 hsl
  go_enter Try.func89, Try.ntmps89
  go_wp2_with fail
  have al := below_al w (Obj.cells #[Value.int IntKind.i64 0, Value.int IntKind.i64 0, Value.int IntKind.i64 0, Value.slice none 0 0] 42)
  have HB1 := Lib.hid al
  have HA1 := Lib.hid (heap_alloc_new w (Obj.cells #[Value.int IntKind.i64 0, Value.int IntKind.i64 0, Value.int IntKind.i64 0, Value.slice none 0 0] 42))
  have hz1 : w.heap.size < (w.alloc (Obj.cells #[Value.int IntKind.i64 0, Value.int IntKind.i64 0, Value.int IntKind.i64 0, Value.slice none 0 0] 42)).heap.size := by simp
  refine (HU.out _ al).mono ?_; rintro e w1 ⟨rfl, rfl⟩
  clear al
  generalize w.alloc (Obj.cells #[Value.int IntKind.i64 0, Value.int IntKind.i64 0, Value.int IntKind.i64 0, Value.slice none 0 0] 42) = w1 at *
  go_wp2_with fail
  refine (HS.out _).mono ?_; rintro e w2 ⟨rfl, hb2⟩
  have HB2 := Lib.hid (HB1.out.trans (hb2.mono (Nat.le_of_lt hz1)))
  have HA2 := Lib.hid ((hb2.block _ hz1).trans HA1.out)
  have hz2 : w.heap.size < w2.heap.size := Nat.lt_of_lt_of_le hz1 hb2.size
  clear hb2
  go_wp2_with fail
  refine (HP.out _).mono ?_; rintro e w3 ⟨a', c', rfl, ho3, hb3, hz3⟩
  have HB3 := Lib.hid (HB2.out.trans (hb3.mono (Nat.le_of_lt hz2)))
  have HA3 := Lib.hid ((hb3.block _ hz2).trans HA2.out)
  have HO3 := Lib.hid (own_mono ho3 (Nat.le_of_lt hz2))
  have hz4 : w.heap.size < w3.heap.size := Nat.lt_of_lt_of_le hz2 hz3
  have HPL : Hid (canon F.pl = putL [] i j) := by rw [K4.out]; exact HL.out
  clear hb3 ho3 HB1 HA1 HB2 HA2 hz1 hz2 hz3 HP HS HU HL K4
  have hPLn : (canon F.pl).length = (putL [] i j).length := by rw [HPL.out]
  have HPN := Lib.hid hPLn
  clear hPLn
  generalize hm : (putL [] i j).length = m at *
  have HM := Lib.hid hm
  clear hm
  have y0 : w3.cell? ⟨w.heap.size, 0, none⟩ = some (.int .i64 0) := by rw [cell_at HA3.out]; rfl
  have y1 : w3.cell? ⟨w.heap.size, 1, none⟩ = some (.int .i64 0) := by rw [cell_at HA3.out]; rfl
  have y2 : w3.cell? ⟨w.heap.size, 2, none⟩ = some (.int .i64 0) := by rw [cell_at HA3.out]; rfl
  have y3 : w3.cell? ⟨w.heap.size, 3, none⟩ = some (.slice none 0 0) := by rw [cell_at HA3.out]; rfl
  have z0 := unfrozen HA3.out 0
  have z1 := unfrozen HA3.out 1
  have z2 := unfrozen HA3.out 2
  have z3 := unfrozen HA3.out 3
  have Q2 := Lib.hid (four_cells_al HA3.out (.int .i64 i) (.int .i64 ((j : Int) - i)) (.int .i64 2) (.slice a' m c'))
  have Q0 := Lib.hid (four_cells_al HA3.out (.int .i64 i) (.int .i64 ((j : Int) - i)) (.int .i64 0) (.slice a' m c'))
  have HE := Lib.hid HPN.out
  go_wp2_with fail
  rcases hK with ⟨hq, hk⟩ | ⟨hq, hk⟩
  · have KK := Lib.hid hk
    refine (contains_yes (c := c - i) (HR.out _ (HB3.out.alloc HB3.out.size _)) (by rw [HSL.out]; omega) HSL.out.symm 34 (HQ.out.1 hq)).mono ?_; rintro e w4 ⟨rfl, rfl⟩
    clear hq hk HQ HR Q0
    go_wp2_with fail
    obtain ⟨q0, q1, q2, q3⟩ := Q2.out
    refine bodyPost_ret (v := .tuple #[.agg #[.int .i64 i, .int .i64 ((j : Int) - i), .int .i64 2, .slice a' m c'], .int .i64 j]) (by simp [results, Try.results89, go_sem, q0, q1, q2, q3]) rfl ?_
    refine ⟨a', c', ?_, ?_, ?_⟩
    · rw [fdV_eq (by rw [K1.out]) (by rw [K2.out]) KK.out, K2.out, HPN.out]
    · rw [HPN.out, HPL.out]
      exact (four_own HA3.out HO3.out (by decide) _ _ _ _).alloc _
    · exact (four_below HB3.out (Nat.le_refl _) _ _ _ _).alloc (by simp only [size_set]; omega) _
  · have KK := Lib.hid hk
    refine (contains_no (c := c - i) (HR.out _ (HB3.out.alloc HB3.out.size _)) (by rw [HSL.out]; omega) HSL.out.symm 34 (fun k hk e => by rw [HQ.out.2 ⟨k, hk, e⟩] at hq; cases hq)).mono ?_; rintro e w4 ⟨rfl, rfl⟩
    clear hq hk HQ HR Q2
    go_wp2_with fail
    obtain ⟨q0, q1, q2, q3⟩ := Q0.out
    refine bodyPost_ret (v := .tuple #[.agg #[.int .i64 i, .int .i64 ((j : Int) - i), .int .i64 0, .slice a' m c'], .int .i64 j]) (by simp [results, Try.results89, go_sem, q0, q1, q2, q3]) rfl ?_
    refine ⟨a', c', ?_, ?_, ?_⟩
    · rw [fdV_eq (by rw [K1.out]) (by rw [K2.out]) KK.out, K2.out, HPN.out]
    · rw [HPN.out, HPL.out]
      exact (four_own HA3.out HO3.out (by decide) _ _ _ _).alloc _
    · exact (four_below HB3.out (Nat.le_refl _) _ _ _ _).alloc (by simp only [size_set]; omega) _

end Go.Proofs.Ytmdifcgnmkpecaa
