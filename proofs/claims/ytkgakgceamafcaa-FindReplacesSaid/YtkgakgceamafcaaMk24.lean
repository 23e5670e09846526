/-
  Texts of this seat, put together (a claim holds few texts): ScC, ScF, ScN, PcV.
-/
import Derived.Test.YtkgakgceamafcaaMk23
import Derived.Deep.RegionHeld3
import Derived.Deep.QuietTactic
import Derived.BigQuiet
import Derived.Deep.DeepCutAuto
import Derived.Laws.AppendOwnNone

namespace Go.Proofs.Ytkgakgceamafcaa
open Go Go.RowKit
set_option linter.unusedVariables false

/-- A field's value; v: its parts. -/
def fdV (f : Fd) (v : Value) : Value := .agg #[.int .i64 f.from_, .int .i64 ((f.to_ : Int) - f.from_), .int .i64 f.kind, v]
/-- What a call hands back that tells a field and the place behind it. -/
def FdPost (f : Fd) (w : World) (e : Ending) (w' : World) : Prop :=
  ∃ a c, e = .returned (.tuple #[fdV f (.slice a (canon f.pl).length c), .int .i64 f.to_]) ∧ w'.ownsRow w.heap.size 91 2 (.slice a (canon f.pl).length c) (canon f.pl).length (spC (canon f.pl)) ∧ Below w.heap.size w w'

theorem rd_sub {w : World} {b off : Nat} {l : List UInt8} (h : Rd w 1 (some ⟨b, off, none⟩) l.length (bc l)) (i j : Nat) (hj : j ≤ l.length) (hij : i ≤ j) (hb : b < w.heap.size) (sp : Option Addr) (hsp : i < j → sp = some ⟨b, off + i, none⟩) : Rd w 1 sp ((l.drop i).take (j - i)).length (bc ((l.drop i).take (j - i))) := by
  refine ⟨by rw [bc_len]; omega, fun hn => ?_⟩
  have hl : ((l.drop i).take (j - i)).length = j - i := by simp; omega
  rw [hl] at hn
  refine ⟨b, off + i, hsp (by omega), hb, fun k u hu => ?_⟩
  obtain ⟨b', off', e, _, hc⟩ := h.2 (by omega)
  obtain ⟨rfl, rfl⟩ : b = b' ∧ off = off' := by simpa using e
  rw [Nat.add_assoc]
  refine hc (i + k) u ?_
  unfold bc at hu ⊢
  rw [List.getElem?_map, List.getElem?_take] at hu
  rw [List.getElem?_map]
  split at hu
  · rw [List.getElem?_drop] at hu; exact hu
  · simp at hu

theorem put_nil (i j : Nat) (hij : i ≤ j) (hj : j ≤ 1000000) (w : World) :
    Calls Try.prog 75 #[.slice none 0 0, .int .i64 i, .int .i64 j] w fun e w' => ∃ a' c', e = .returned (.slice a' (putL [] i j).length c') ∧ w'.ownsRow w.heap.size 91 2 (.slice a' (putL [] i j).length c') (putL [] i j).length (spC (putL [] i j)) ∧ Below w.heap.size w w' ∧ w.heap.size ≤ w'.heap.size :=
  put_of (l := []) (own_nil w w.heap.size 91 2) (Nat.le_refl _) i j hij hj (by simp)

theorem plain_kind {l : List UInt8} {i : Nat} (hq : quAt l i = false) : (fieldP l i).to_ = till l i ∧ (fieldP l i).kind = (if hasQ l i (till l i) = true then 2 else 0) ∧ (fieldP l i).pl = pls i (till l i) := by
  have hf : fieldP l i = ⟨i, till l i, if hasQ l i (till l i) = true then 2 else 0, pls i (till l i)⟩ := by unfold fieldP; rw [if_neg (by simp [hq])]
  rw [hf]; exact ⟨rfl, rfl, rfl⟩

/-- A field's block. -/
def FdAt (w : World) (p : Nat) : Prop := ∃ v0 v1 v2 v3 : Value, w.heap[p]? = some (.cells #[v0, v1, v2, v3] 94 (0, 0))
theorem four_at {w : World} {p : Nat} {t : TypeId} {a0 a1 a2 a3 : Value} {fr : Nat × Nat} (h : w.heap[p]? = some (.cells #[a0, a1, a2, a3] t fr)) (v0 v1 v2 v3 : Value) :
    ((((w.setCell ⟨p, 0, none⟩ v0).setCell ⟨p, 1, none⟩ v1).setCell ⟨p, 2, none⟩ v2).setCell ⟨p, 3, none⟩ v3).heap[p]? = some (.cells #[v0, v1, v2, v3] t fr) := by
  have h1 := heap_set_at (o := 0) (u := v0) h
  have h2 := heap_set_at (o := 1) (u := v1) h1
  have h3 := heap_set_at (o := 2) (u := v2) h2
  exact heap_set_at (o := 3) (u := v3) h3
theorem four_cells {w : World} {p : Nat} {t : TypeId} {a0 a1 a2 a3 : Value} {fr : Nat × Nat} (h : w.heap[p]? = some (.cells #[a0, a1, a2, a3] t fr)) (v0 v1 v2 v3 : Value) :
    ∀ j v, (#[v0, v1, v2, v3] : Array Value)[j]? = some v → ((((w.setCell ⟨p, 0, none⟩ v0).setCell ⟨p, 1, none⟩ v1).setCell ⟨p, 2, none⟩ v2).setCell ⟨p, 3, none⟩ v3).cell? ⟨p, j, none⟩ = some v := by
  intro j v hj
  rw [cell_at (four_at h v0 v1 v2 v3)]; exact hj
theorem four_cells_al {w : World} {p : Nat} {t : TypeId} {a0 a1 a2 a3 : Value} {fr : Nat × Nat} (h : w.heap[p]? = some (.cells #[a0, a1, a2, a3] t fr)) (v0 v1 v2 v3 : Value) :
    (∀ o, (((((w.setCell ⟨p, 0, none⟩ v0).setCell ⟨p, 1, none⟩ v1).setCell ⟨p, 2, none⟩ v2).setCell ⟨p, 3, none⟩ v3).alloc o).cell? ⟨p, 0, none⟩ = some v0) ∧ (∀ o, (((((w.setCell ⟨p, 0, none⟩ v0).setCell ⟨p, 1, none⟩ v1).setCell ⟨p, 2, none⟩ v2).setCell ⟨p, 3, none⟩ v3).alloc o).cell? ⟨p, 1, none⟩ = some v1) ∧ (∀ o, (((((w.setCell ⟨p, 0, none⟩ v0).setCell ⟨p, 1, none⟩ v1).setCell ⟨p, 2, none⟩ v2).setCell ⟨p, 3, none⟩ v3).alloc o).cell? ⟨p, 2, none⟩ = some v2) ∧ (∀ o, (((((w.setCell ⟨p, 0, none⟩ v0).setCell ⟨p, 1, none⟩ v1).setCell ⟨p, 2, none⟩ v2).setCell ⟨p, 3, none⟩ v3).alloc o).cell? ⟨p, 3, none⟩ = some v3) := by
  have hc := four_cells h v0 v1 v2 v3
  have hl : p < ((((w.setCell ⟨p, 0, none⟩ v0).setCell ⟨p, 1, none⟩ v1).setCell ⟨p, 2, none⟩ v2).setCell ⟨p, 3, none⟩ v3).heap.size := by simp only [size_set]; exact lt_of_heap h
  refine ⟨fun o => ?_, fun o => ?_, fun o => ?_, fun o => ?_⟩
  · rw [World.cell?_alloc_lt _ _ ⟨p, 0, none⟩ hl]; exact hc 0 _ rfl
  · rw [World.cell?_alloc_lt _ _ ⟨p, 1, none⟩ hl]; exact hc 1 _ rfl
  · rw [World.cell?_alloc_lt _ _ ⟨p, 2, none⟩ hl]; exact hc 2 _ rfl
  · rw [World.cell?_alloc_lt _ _ ⟨p, 3, none⟩ hl]; exact hc 3 _ rfl
theorem four_own {w : World} {p B n s : Nat} {e t : TypeId} {v : Value} {xs : List Value} {a0 a1 a2 a3 : Value} {fr : Nat × Nat} (h : w.heap[p]? = some (.cells #[a0, a1, a2, a3] t fr)) (ho : w.ownsRow B e s v n xs) (hne : e ≠ t) (v0 v1 v2 v3 : Value) :
    ((((w.setCell ⟨p, 0, none⟩ v0).setCell ⟨p, 1, none⟩ v1).setCell ⟨p, 2, none⟩ v2).setCell ⟨p, 3, none⟩ v3).ownsRow B e s v n xs := by
  have hb := own_ne ho h hne
  exact own_set (own_set (own_set (own_set ho hb) hb) hb) hb
theorem four_below {W w : World} {p : Nat} (h : Below W.heap.size W w) (hp : W.heap.size ≤ p) (v0 v1 v2 v3 : Value) :
    Below W.heap.size W ((((w.setCell ⟨p, 0, none⟩ v0).setCell ⟨p, 1, none⟩ v1).setCell ⟨p, 2, none⟩ v2).setCell ⟨p, 3, none⟩ v3) :=
  (((h.setCell (p := ⟨p, 0, none⟩) hp _).setCell (p := ⟨p, 1, none⟩) hp _).setCell (p := ⟨p, 2, none⟩) hp _).setCell (p := ⟨p, 3, none⟩) hp _
theorem fdV_eq {F : Fd} {i j k : Int} {v : Value} (h1 : (F.from_ : Int) = i) (h2 : (F.to_ : Int) - i = j) (h3 : F.kind = k) : fdV F v = .agg #[.int .i64 i, .int .i64 j, .int .i64 k, v] := by
  unfold fdV; rw [h1, h2, h3]

set_option maxRecDepth 100000 in
set_option maxHeartbeats 1600000 in
theorem plain_of {w : World} {b off : Nat} {c : Nat} {l : List UInt8} (hr : Rd w 1 (some ⟨b, off, none⟩) l.length (bc l)) (hbw : b < w.heap.size) (hl : l.length ≤ 1000000) (hlc : l.length ≤ c) (hc : c ≤ maxLen) (i : Nat) (hi : i ≤ l.length) (hq : quAt l i = false) :
    Calls Try.prog 65 #[.slice (some ⟨b, off, none⟩) l.length c, .int .i64 i] w (FdPost (fieldP l i) w) := by
  obtain ⟨k2, k3, k4⟩ := plain_kind hq
  have k1 := fieldP_from l i
  have ht1 := till_ge l i
  have ht2 := till_le hi
  have HU := Lib.hid (fun w1 (hb : Below w.heap.size w w1) => until_mark (c := c) (hr.below hb) hl i hi)
  have HQ := Lib.hid (hasQ_iff l i (till l i) ht2)
  generalize till l i = j at *
  obtain ⟨sp, hsp⟩ : ∃ sp, (if c = i then some ⟨b, off, none⟩ else some ⟨b, off + i, none⟩ : Option Addr) = sp := ⟨_, rfl⟩
  have HR := Lib.hid (fun w1 (hb : Below w.heap.size w w1) => rd_sub (hr.below hb) i j ht2 ht1 (Nat.lt_of_lt_of_le hbw hb.size) sp (fun hij => by rw [← hsp, if_neg (by omega)]))
  have hsl : ((l.drop i).take (j - i)).length = j - i := by simp; omega
  have HSL := Lib.hid hsl
  have HS := Lib.hid (fun w => span_of i j ht1 (by omega) w)
  have HP := Lib.hid (fun (w : World) => put_nil i j ht1 (by omega) w)
  have HL := Lib.hid (canon_pls i j ht1)
  generalize (l.drop i).take (j - i) = sub at *
  generalize fieldP l i = F at *
  have hK : (hasQ l i j = true ∧ F.kind = 2) ∨ (hasQ l i j = false ∧ F.kind = 0) := by
    rw [k3]
    by_cases h : hasQ l i j = true
    · exact .inl ⟨h, if_pos h⟩
    · exact .inr ⟨Bool.eq_false_iff.2 h, if_neg h⟩
  have K1 := Lib.hid k1
  have K2 := Lib.hid k2
  have K4 := Lib.hid k4
  clear hr hq k1 k2 k3 k4 hsl
  go_enter Try.func65, Try.ntmps65
  go_wp2_with fail
  have al := below_al w (Obj.cells #[Value.int IntKind.i64 0, Value.int IntKind.i64 0, Value.int IntKind.i64 0, Value.slice none 0 0] 94)
  have HB1 := Lib.hid al
  have HA1 := Lib.hid (heap_alloc_new w (Obj.cells #[Value.int IntKind.i64 0, Value.int IntKind.i64 0, Value.int IntKind.i64 0, Value.slice none 0 0] 94))
  have hz1 : w.heap.size < (w.alloc (Obj.cells #[Value.int IntKind.i64 0, Value.int IntKind.i64 0, Value.int IntKind.i64 0, Value.slice none 0 0] 94)).heap.size := by simp
  refine (HU.out _ al).mono ?_; rintro e w1 ⟨rfl, rfl⟩
  clear al
  generalize w.alloc (Obj.cells #[Value.int IntKind.i64 0, Value.int IntKind.i64 0, Value.int IntKind.i64 0, Value.slice none 0 0] 94) = w1 at *
  go_wp2_with fail
  refine (HS.out _).mono ?_; rintro e w2 ⟨rfl, hb2⟩
  have HB2 := Lib.hid (HB1.out.trans (hb2.mono (Nat.le_of_lt hz1)))
  have HA2 := Lib.hid ((hb2.block _ hz1).trans HA1.out)
  have hz2 : w.heap.size < w2.heap.size := Nat.lt_of_lt_of_le hz1 hb2.size
  clear hb2
  go_wp2_with fail
  refine (HP.out _).mono ?_; rintro e w3 ⟨a', c', rfl, ho3, hb3, hz3⟩
  have HB3 := Lib.hid (HB2.out.trans (hb3.mono (Nat.le_of_lt hz2)))
  have HA3 := Lib.hid ((hb3.block _ hz2).trans HA2.out)
  have HO3 := Lib.hid (own_mono ho3 (Nat.le_of_lt hz2))
  have hz4 : w.heap.size < w3.heap.size := Nat.lt_of_lt_of_le hz2 hz3
  have HPL : Hid (canon F.pl = putL [] i j) := by rw [K4.out]; exact HL.out
  clear hb3 ho3 HB1 HA1 HB2 HA2 hz1 hz2 hz3 HP HS HU HL K4
  have hPLn : (canon F.pl).length = (putL [] i j).length := by rw [HPL.out]
  have HPN := Lib.hid hPLn
  clear hPLn
  generalize hm : (putL [] i j).length = m at *
  have HM := Lib.hid hm
  clear hm
  have y0 : w3.cell? ⟨w.heap.size, 0, none⟩ = some (.int .i64 0) := by rw [cell_at HA3.out]; rfl
  have y1 : w3.cell? ⟨w.heap.size, 1, none⟩ = some (.int .i64 0) := by rw [cell_at HA3.out]; rfl
  have y2 : w3.cell? ⟨w.heap.size, 2, none⟩ = some (.int .i64 0) := by rw [cell_at HA3.out]; rfl
  have y3 : w3.cell? ⟨w.heap.size, 3, none⟩ = some (.slice none 0 0) := by rw [cell_at HA3.out]; rfl
  have z0 := unfrozen HA3.out 0
  have z1 := unfrozen HA3.out 1
  have z2 := unfrozen HA3.out 2
  have z3 := unfrozen HA3.out 3
  have Q2 := Lib.hid (four_cells_al HA3.out (.int .i64 i) (.int .i64 ((j : Int) - i)) (.int .i64 2) (.slice a' m c'))
  have Q0 := Lib.hid (four_cells_al HA3.out (.int .i64 i) (.int .i64 ((j : Int) - i)) (.int .i64 0) (.slice a' m c'))
  have HE := Lib.hid HPN.out
  go_wp2_with fail
  rcases hK with ⟨hq, hk⟩ | ⟨hq, hk⟩
  · have KK := Lib.hid hk
    refine (contains_yes (c := c - i) (HR.out _ (HB3.out.alloc HB3.out.size _)) (by rw [HSL.out]; omega) HSL.out.symm 34 (HQ.out.1 hq)).mono ?_; rintro e w4 ⟨rfl, rfl⟩
    clear hq hk HQ HR Q0
    go_wp2_with fail
    obtain ⟨q0, q1, q2, q3⟩ := Q2.out
    refine bodyPost_ret (v := .tuple #[.agg #[.int .i64 i, .int .i64 ((j : Int) - i), .int .i64 2, .slice a' m c'], .int .i64 j]) (by simp [results, Try.results65, go_sem, q0, q1, q2, q3]) rfl ?_
    refine ⟨a', c', ?_, ?_, ?_⟩
    · rw [fdV_eq (by rw [K1.out]) (by rw [K2.out]) KK.out, K2.out, HPN.out]
    · rw [HPN.out, HPL.out]
      exact (four_own HA3.out HO3.out (by decide) _ _ _ _).alloc _
    · exact (four_below HB3.out (Nat.le_refl _) _ _ _ _).alloc (by simp only [size_set]; omega) _
  · have KK := Lib.hid hk
    refine (contains_no (c := c - i) (HR.out _ (HB3.out.alloc HB3.out.size _)) (by rw [HSL.out]; omega) HSL.out.symm 34 (fun k hk e => by rw [HQ.out.2 ⟨k, hk, e⟩] at hq; cases hq)).mono ?_; rintro e w4 ⟨rfl, rfl⟩
    clear hq hk HQ HR Q2
    go_wp2_with fail
    obtain ⟨q0, q1, q2, q3⟩ := Q0.out
    refine bodyPost_ret (v := .tuple #[.agg #[.int .i64 i, .int .i64 ((j : Int) - i), .int .i64 0, .slice a' m c'], .int .i64 j]) (by simp [results, Try.results65, go_sem, q0, q1, q2, q3]) rfl ?_
    refine ⟨a', c', ?_, ?_, ?_⟩
    · rw [fdV_eq (by rw [K1.out]) (by rw [K2.out]) KK.out, K2.out, HPN.out]
    · rw [HPN.out, HPL.out]
      exact (four_own HA3.out HO3.out (by decide) _ _ _ _).alloc _
    · exact (four_below HB3.out (Nat.le_refl _) _ _ _ _).alloc (by simp only [size_set]; omega) _

end Go.Proofs.Ytkgakgceamafcaa

namespace Go.Proofs.Ytkgakgceamafcaa
open Go Go.RowKit
set_option linter.unusedVariables false

/-- The bytes of spans, those that do not lie within left out. -/
def valL (l : List UInt8) (ps : List (Int × Int)) : List UInt8 := ps.flatMap fun s => subL l s.1 s.2
theorem valL_snoc (l : List UInt8) (ps : List (Int × Int)) (s : Int × Int) : valL l (ps ++ [s]) = valL l ps ++ subL l s.1 s.2 := by unfold valL; simp
theorem valL_take {l : List UInt8} {ps : List (Int × Int)} {k : Nat} (h : k < ps.length) : valL l (ps.take (k + 1)) = valL l (ps.take k) ++ subL l ps[k].1 ps[k].2 := by
  rw [List.take_succ_eq_append_getElem h, valL_snoc]
theorem valL_len (l : List UInt8) : ∀ ps : List (Int × Int), (valL l ps).length ≤ ps.length * l.length
  | [] => by simp [valL]
  | s :: ps => by
    have h1 := valL_len l ps
    have h2 := subL_le l s.1 s.2
    have h3 : (valL l (s :: ps)).length = (subL l s.1 s.2).length + (valL l ps).length := by unfold valL; simp
    rw [h3, List.length_cons, Nat.add_mul]; omega

theorem bc_append (a b : List UInt8) : bc (a ++ b) = bc a ++ bc b := by unfold bc; simp

end Go.Proofs.Ytkgakgceamafcaa

namespace Go.Proofs.Ytkgakgceamafcaa
open Go Go.RowKit
set_option linter.unusedVariables false

theorem lb_get {s : ByteArray} {l : List UInt8} (h : s.data.toList = l) {i : Nat} (hi : i < s.size) : ((s[i]'hi).toNat : Int) = lb l i := by
  subst h; exact bt_get s i hi
theorem sz_of {s : ByteArray} {l : List UInt8} (h : s.data.toList = l) : s.size = l.length := by subst h; rfl

/-- The cells of numbers. -/
def inC (t : List Int) : List Value := t.map (Value.int .i64)
theorem inC_len (t : List Int) : (inC t).length = t.length := by simp [inC]
theorem inC_snoc (t : List Int) (x : Int) : inC (t ++ [x]) = inC t ++ [.int .i64 x] := by simp [inC]
theorem info_int : (Try.prog.info? 3).map (fun i => (i.zero, i.size, i.bytes)) = some (some (.int .i64 0), 1, 8) := by kernel_rfl

/-- The bytes at places. -/
def atL (l : List UInt8) (t : List Int) : List UInt8 := t.map fun x => l.getD x.toNat 0
theorem atL_snoc (l : List UInt8) (t : List Int) (x : Int) : atL l (t ++ [x]) = atL l t ++ [l.getD x.toNat 0] := by simp [atL]
theorem ext_one {s : ByteArray} {l : List UInt8} (hs : s.data.toList = l) (i : Nat) (hi : i < l.length) : s.extract i (i + 1) = strOf [l.getD i 0] := by
  subst hs
  apply ByteArray.ext
  apply Array.ext'
  simp only [strOf, ByteArray.data_extract, Array.toList_extract, List.extract_eq_take_drop]
  rw [show i + 1 - i = 1 by omega, List.drop_eq_getElem_cons hi, List.getD_eq_getElem?_getD, List.getElem?_eq_getElem hi]
  rfl

theorem subL_ex1 {l : List UInt8} {a n : Nat} (h : a + n ≤ l.length) : subL l a n = atL l (ex1 ((a : Int), (n : Int))) := by
  unfold subL
  rw [if_pos (by unfold rightB; simp only [decide_eq_true_eq]; omega)]
  simp only [Int.toNat_natCast]
  unfold atL
  rw [ex1_nat, List.map_map]
  apply List.ext_getElem?
  intro k
  rw [List.getElem?_take, List.getElem?_map]
  by_cases hk : k < n
  · rw [if_pos hk, List.getElem?_drop, List.getElem?_range hk]
    have e : ((a : Int) + (k : Int)).toNat = a + k := by omega
    simp only [Option.map_some, Function.comp, e]
    rw [List.getElem?_eq_getElem (by omega), List.getD_eq_getElem?_getD, List.getElem?_eq_getElem (by omega)]
    rfl
  · rw [if_neg hk, List.getElem?_eq_none (by simp; omega)]; rfl
theorem valL_ex (l : List UInt8) : ∀ ps : List (Int × Int), (∀ s ∈ ps, 0 ≤ s.1 ∧ 0 ≤ s.2 ∧ s.1 + s.2 ≤ l.length) → valL l ps = atL l (ex ps)
  | [], _ => rfl
  | s :: ps, h => by
    have hs := h s (by simp)
    have ih := valL_ex l ps (fun z hz => h z (by simp [hz]))
    have e1 : valL l (s :: ps) = subL l s.1 s.2 ++ valL l ps := by unfold valL; simp
    have e2 : ex (s :: ps) = ex1 s ++ ex ps := by unfold ex; simp
    obtain ⟨a, n⟩ := s
    simp only at hs
    obtain ⟨a, rfl⟩ := Int.eq_ofNat_of_zero_le hs.1
    obtain ⟨n, rfl⟩ := Int.eq_ofNat_of_zero_le hs.2.1
    rw [e1, e2, ih, subL_ex1 (by omega)]
    unfold atL
    simp
theorem valL_canon {l : List UInt8} {t : List Int} (ht : ∀ x ∈ t, 0 ≤ x ∧ x < l.length) : valL l (canon t) = atL l t := by
  rw [valL_ex l (canon t) (fun s hs => ?_), ex_canon]
  have hf := canon_full t s hs
  have hin : ∀ x ∈ ex1 s, x ∈ t := fun x hx => by rw [← ex_canon t]; unfold ex; exact List.mem_flatMap.2 ⟨s, hs, hx⟩
  have h1 := ht _ (hin s.1 (by unfold ex1; exact List.mem_map.2 ⟨0, List.mem_range.2 (by omega), by simp⟩))
  have h2 := ht _ (hin (s.1 + (s.2 - 1)) (by unfold ex1; exact List.mem_map.2 ⟨(s.2 - 1).toNat, List.mem_range.2 (by omega), by omega⟩))
  omega

end Go.Proofs.Ytkgakgceamafcaa

namespace Go.Proofs.Ytkgakgceamafcaa
open Go Go.RowKit
set_option linter.unusedVariables false

/-- All places of a text lie within. -/
def InL (l : List UInt8) (t : List Int) : Prop := ∀ x ∈ t, 0 ≤ x ∧ x < l.length
theorem atL_app (l : List UInt8) (a b : List Int) : atL l (a ++ b) = atL l a ++ atL l b := by unfold atL; rw [List.map_append]
theorem atL_len (l : List UInt8) (t : List Int) : (atL l t).length = t.length := by unfold atL; rw [List.length_map]
theorem atL_ex1 (l : List UInt8) (s : Sp) (h0 : 0 ≤ s.1) (h1 : 0 ≤ s.2) (h2 : s.1 + s.2 ≤ l.length) : atL l (ex1 s) = subL l s.1 s.2 := by
  obtain ⟨a, n⟩ := s
  simp only at h0 h1 h2
  obtain ⟨a, rfl⟩ := Int.eq_ofNat_of_zero_le h0
  obtain ⟨n, rfl⟩ := Int.eq_ofNat_of_zero_le h1
  unfold subL rightB
  rw [if_pos (by simp only [decide_eq_true_eq]; omega)]
  simp only [Int.toNat_natCast]
  apply List.ext_getElem?
  intro k
  unfold atL
  rw [ex1_nat, List.map_map, List.getElem?_map, List.getElem?_take, List.getElem?_drop]
  by_cases hk : k < n
  · rw [List.getElem?_range hk, if_pos hk, List.getElem?_eq_getElem (show a + k < l.length by omega)]
    simp only [Option.map_some, Function.comp_apply]
    rw [show ((a : Int) + (k : Int)).toNat = a + k by omega, List.getD_eq_getElem?_getD, List.getElem?_eq_getElem (show a + k < l.length by omega)]
    rfl
  · rw [if_neg hk, List.getElem?_eq_none (by simpa using hk)]; rfl
theorem canon_in {l : List UInt8} {t : List Int} (h : InL l t) : ∀ s ∈ canon t, 0 ≤ s.1 ∧ 1 ≤ s.2 ∧ s.1 + s.2 ≤ l.length := by
  intro s hs
  have hf := canon_full t s hs
  have hsub : ∀ x ∈ ex1 s, x ∈ t := by
    intro x hx
    rw [← ex_canon t]
    unfold ex
    exact List.mem_flatMap.2 ⟨s, hs, hx⟩
  have h1 := h s.1 (hsub _ (by unfold ex1; rw [List.mem_map]; exact ⟨0, by rw [List.mem_range]; omega, by simp⟩))
  have h2 := h (s.1 + s.2 - 1) (hsub _ (by unfold ex1; rw [List.mem_map]; exact ⟨(s.2 - 1).toNat, by rw [List.mem_range]; omega, by omega⟩))
  omega
theorem own_formD {w : World} {B sz n c : Nat} {e : TypeId} {a : Option Addr} {xs : List Value} (h : w.ownsRow B e sz (.slice a n c) n xs) : (a = none ∧ n = 0 ∧ c = 0) ∨ ∃ g, a = some ⟨g, 0, none⟩ ∧ ∀ j u, xs[j]? = some u → w.cell? ⟨g, j, none⟩ = some u := by
  rcases own_formC h with h0 | ⟨g, rfl, _⟩
  · exact .inl h0
  · refine .inr ⟨g, rfl, fun j u hj => ?_⟩
    have := h.cells (g := g) rfl j u hj
    rwa [Addr.add_lit, Nat.zero_add] at this

set_option maxRecDepth 100000 in
set_option maxHeartbeats 4000000 in
theorem pflat_of {w : World} {B p : Nat} {l : List UInt8} {v : Value} {t : List Int} (h : Ar w B p l) (hl : l.length ≤ 16384) (hx : Tx w v t) (hin : InL l t) :
    Calls Try.prog 71 #[.agg #[v], .pointer (some ⟨p, 0, none⟩)] w (BytesPost (atL l t) w) := by
  obtain ⟨i0, hi0, hz0, hz1, hz2⟩ := info_parts info_u8
  obtain ⟨a, c, rfl, hr, hs, -, -⟩ := hx
  have htl := hs.1
  have HA := Lib.hid h
  have HR := Lib.hid hr
  have HC := Lib.hid (canon_in hin)
  have HL : Hid (∀ k, (ex ((canon t).take k)).length ≤ 20000) := fun k => by
    obtain ⟨r, h⟩ := ex_take (canon t) k
    rw [ex_canon] at h
    have := congrArg List.length h
    rw [List.length_append] at this
    omega
  have hcl := canon_count t
  have HE : Hid (atL l (ex ((canon t).take (canon t).length)) = atL l t) := by show _ = _; rw [List.take_length, ex_canon]
  have al := below_al w (Obj.cells #[Value.slice a (canon t).length c] 96)
  have HB0 := Lib.hid al
  have c0 : (w.alloc (Obj.cells #[Value.slice a (canon t).length c] 96)).cell? ⟨w.heap.size, 0, none⟩ = some (.slice a (canon t).length c) := by rw [cell_at (heap_alloc_new w _)]; rfl
  clear h hr hs hin al
  go_enter Try.func71, Try.ntmps71
  go_wp2_with fail
  clear c0
  generalize w.alloc (Obj.cells #[Value.slice a (canon t).length c] 96) = w1 at *
  go_loopw [5, 11] (fun v5 v11 wr => ∃ (k n : Nat) (a5 : Option Addr) (c5 : Nat) (xs : List Value), k ≤ (canon t).length ∧ v11 = .int .i64 k ∧ v5 = .slice a5 n c5 ∧ n = (atL l (ex ((canon t).take k))).length ∧ xs = bc (atL l (ex ((canon t).take k))) ∧ wr.ownsRow w.heap.size 5 1 (.slice a5 n c5) n xs ∧ Below w.heap.size w wr) (fun _ v11 _ => (canon t).length - (intOf v11).toNat)
  case atStart => exact ⟨0, 0, none, 0, [], by omega, rfl, rfl, by simp [atL, ex_nil], by simp [atL, ex_nil, bc], own_nil _ _ _ _, HB0.out⟩
  case round =>
    obtain ⟨k, n, a5, c5, xs, hk, rfl, rfl, hn, hxs, ho, hb⟩ := hrel
    have HO := Lib.hid ho
    have HB := Lib.hid hb
    have HNN := Lib.hid hn
    have HXS := Lib.hid hxs
    have hn2 : n ≤ 20000 := by rw [hn, atL_len]; exact HL.out k
    have hzr := hb.size
    clear ho hb hn hxs
    by_cases hlt : k < (canon t).length
    · have dk : decide (k < (canon t).length) = true := decide_eq_true hlt
      obtain ⟨b, off, rfl, hbl, hcl2⟩ := HR.out.2 (by omega)
      have hsp := spC_at (canon t) k (canon t)[k] (List.getElem?_eq_getElem hlt)
      have f1 : wr.cell? ⟨b, off + k * 2, none⟩ = some (.int .i64 (canon t)[k].1) := (HB.out.cell (p := ⟨b, off + k * 2, none⟩) hbl).trans (hcl2 _ _ hsp.1)
      have f2 : wr.cell? ⟨b, off + k * 2 + 1, none⟩ = some (.int .i64 (canon t)[k].2) := (HB.out.cell (p := ⟨b, off + k * 2 + 1, none⟩) hbl).trans (hcl2 _ _ hsp.2)
      have hbd := HC.out (canon t)[k] (List.getElem_mem hlt)
      have hst : atL l (ex ((canon t).take (k + 1))) = atL l (ex ((canon t).take k)) ++ subL l (canon t)[k].1 (canon t)[k].2 := by
        rw [List.take_succ_eq_append_getElem hlt, ex_append, ex_one, atL_app, atL_ex1 l _ hbd.1 (by omega) hbd.2.2]
      have hln : n + (subL l (canon t)[k].1 (canon t)[k].2).length ≤ 20000 := by
        have h1 := HL.out (k + 1)
        have h2 := congrArg List.length hst
        rw [List.length_append, ← HNN.out, atL_len] at h2
        omega
      have HST := Lib.hid hst
      have al := below_al wr (Obj.cells #[Value.int .i64 (canon t)[k].1, Value.int .i64 (canon t)[k].2] 91)
      have HBy := Lib.hid (abytes_of (HA.out.below (HB.out.trans (al.mono hzr))) hl (canon t)[k].1 (canon t)[k].2)
      have HOa := Lib.hid (own_below HO.out al)
      have HBa := Lib.hid (HB.out.trans (al.mono hzr))
      clear hbl hcl2 hsp hst al HR HC HL HA HO HB
      generalize subL l (canon t)[k].1 (canon t)[k].2 = y at *
      generalize (canon t)[k].1 = x1 at *
      generalize (canon t)[k].2 = x2 at *
      go_wp2_with fail
      refine HBy.out.mono ?_; rintro e w2 ⟨a6, c6, rfl, ho6, hb6⟩
      have OO2 := Lib.hid (own_below HOa.out hb6)
      have BB2 := Lib.hid (HBa.out.trans (hb6.mono HBa.out.size))
      have HSN : Hid (n + y.length = (atL l (ex ((canon t).take (k + 1)))).length) := by show _ = _; rw [HST.out, List.length_append, HNN.out]
      have HSX : Hid (xs ++ bc y = bc (atL l (ex ((canon t).take (k + 1))))) := by show _ = _; rw [HST.out, HXS.out]; simp [bc]
      have C2 := Lib.hid (bc_one y)
      have HBL := Lib.hid (bc_len y)
      have hzw : w.heap.size ≤ w2.heap.size := BB2.out.size
      rcases own_formD ho6 with ⟨rfl, h0, rfl⟩ | ⟨g, rfl, hc6⟩
      · have HE2 : Hid (n = (atL l (ex ((canon t).take (k + 1)))).length) := by show _ = _; rw [← HSN.out]; omega
        have HX2 : Hid (xs = bc (atL l (ex ((canon t).take (k + 1))))) := by
          show _ = _
          rw [← HSX.out, show bc y = [] from List.length_eq_zero_iff.1 (by rw [bc_len]; exact h0), List.append_nil]
        clear HSN HSX HST HNN HXS ho6 hb6 HBL
        generalize y.length = m at *
        subst h0
        go_wp2_with (first
          | (at_builtin; refine wpList_append_own_none rfl (.tmp 15) (.tmp 18) 23 rfl w.heap.size 5 i0 1 Try.underlying23 hi0 (.slice a5 n c5) n xs rfl OO2.out rfl ?_)
          | fail)
        go_wp2_with fail
        go_roundw
        case rel => exact ⟨k + 1, n, a5, c5, xs, hlt, by go_num, rfl, HE2.out, HX2.out, OO2.out, BB2.out⟩
        case measure => simp [intOf]; omega
      · have C0 : Hid ((bc y).length = y.length * 1) := by show _ = _; rw [HBL.out]; omega
        have C1 : Hid (∀ j u, (bc y)[j]? = some u → w2.cell? (Addr.add ⟨g, 0, none⟩ j) = some u) := by
          intro j u hj
          rw [Addr.add_lit, Nat.zero_add]
          exact hc6 j u hj
        have C3 : Hid (n + y.length ≤ maxLen) := by show _ ≤ _; unfold maxLen; omega
        have C4 : Hid ((n + y.length) * 1 ≤ 140737488355328) := by show _ ≤ _; omega
        have C5 : Hid (w.heap.size ≤ w2.heap.size) := hzw
        clear hc6 ho6 hb6 HST HNN HXS HBL
        generalize bc y = ys at *
        generalize y.length = m at *
        go_wp2_with (first
          | (at_builtin; refine wpList_append_own _ rfl (.tmp 15) (.tmp 18) 23 rfl w.heap.size 5 i0 (.int .u8 0) 1 1 Try.underlying23 hi0 hz0 hz1 hz2 rfl (by decide) (.slice a5 n c5) n xs rfl OO2.out ⟨g, 0, none⟩ m c6 ys rfl C0.out C1.out C2.out C3.out C4.out C5.out ?_)
          | fail)
        intro v7 wB ho7 hg7 _
        obtain ⟨A9, C9, rfl⟩ := own_slice ho7
        have OF := Lib.hid ho7
        have BF := Lib.hid (BB2.out.grown hg7 hzw (fun q hq => (OO2.out.lt q hq).1))
        clear ho7 hg7 C0 C1 C2 C3 C4 C5
        go_wp2_with fail
        go_roundw
        case rel => exact ⟨k + 1, n + m, A9, C9, _, hlt, by go_num, rfl, HSN.out, HSX.out, OF.out, BF.out⟩
        case measure => simp [intOf]; omega
    · have dk : decide (k < (canon t).length) = false := decide_eq_false hlt
      obtain rfl : k = (canon t).length := by omega
      have h1 := HNN.out
      have h2 := HXS.out
      rw [HE.out] at h1 h2
      subst h1 h2
      go_wp2_with fail
      go_ret
      exact ⟨a5, c5, rfl, HO.out, HB.out⟩

theorem atL_span {l : List UInt8} {i n : Nat} (h : i + n ≤ l.length) : atL l (ex [((i : Int), (n : Int))]) = (l.drop i).take n := by
  rw [ex_one, atL_ex1 l _ (by simp) (by simp) (by simp only; omega)]
  unfold subL rightB
  rw [if_pos (by simp only [decide_eq_true_eq]; omega)]
  simp

end Go.Proofs.Ytkgakgceamafcaa
