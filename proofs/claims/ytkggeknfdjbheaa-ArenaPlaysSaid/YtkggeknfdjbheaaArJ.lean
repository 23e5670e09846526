/-
  The contracts of the document's own arena: New, Add, Right, Bytes, Place, Keep, at this seat's numbers.
-/
import Derived.Test.YtkggeknfdjbheaaArF
import Derived.Test.YtkggeknfdjbheaaArH
namespace Go.Proofs.Ytkggeknfdjbheaa
open Go Go.RowKit
set_option linter.unusedVariables false

/-- The document's arena at block q: the text l. -/
structure RA (w : World) (B q : Nat) (l : List UInt8) : Prop where
  base : B ≤ q
  blk : w.heap[q]? = some (.cells #[.string (strOf l)] 40 (0, 0))
theorem RA.lt {w : World} {B q : Nat} {l : List UInt8} (h : RA w B q l) : q < w.heap.size := lt_of_heap h.blk
theorem RA.c {w : World} {B q : Nat} {l : List UInt8} (h : RA w B q l) : w.cell? ⟨q, 0, none⟩ = some (.string (strOf l)) := by rw [cell_at h.blk]; rfl
theorem RA.f {w : World} {B q : Nat} {l : List UInt8} (h : RA w B q l) : w.frozen? ⟨q, 0, none⟩ = false := unfrozen h.blk 0
theorem RA.below {w w' : World} {B q : Nat} {l : List UInt8} (h : RA w B q l) (hb : Below w.heap.size w w') : RA w' B q l := ⟨h.base, (hb.block q h.lt).trans h.blk⟩
theorem RA.turned {w w' : World} {B B' q : Nat} {l : List UInt8} (h : RA w B q l) (ht : Turned B' w w') : RA w' B q l :=
  ⟨h.base, (ht.rest q h.lt (fun cs hc => by rw [h.blk] at hc; injection hc with hc; injection hc with _ hc; exact absurd hc (by decide)) (fun cs hc => by rw [h.blk] at hc; injection hc with hc; injection hc with _ hc; exact absurd hc (by decide))).trans h.blk⟩

/-- A span of the document's: its block. -/
structure SqB (w : World) (b : Nat) (x y : Int) : Prop where
  blk : w.heap[b]? = some (.cells #[.int .i64 x, .int .i64 y] 44 (0, 0))
theorem SqB.c0 {w : World} {b : Nat} {x y : Int} (h : SqB w b x y) : w.cell? ⟨b, 0, none⟩ = some (.int .i64 x) := by rw [cell_at h.blk]; rfl
theorem SqB.c1 {w : World} {b : Nat} {x y : Int} (h : SqB w b x y) : w.cell? ⟨b, 1, none⟩ = some (.int .i64 y) := by rw [cell_at h.blk]; rfl
theorem SqB.f {w : World} {b : Nat} {x y : Int} (h : SqB w b x y) (i : Nat) : w.frozen? ⟨b, i, none⟩ = false := unfrozen h.blk i
theorem SqB.lt {w : World} {b : Nat} {x y : Int} (h : SqB w b x y) : b < w.heap.size := lt_of_heap h.blk
theorem SqB.new (w : World) (x y : Int) : SqB (w.alloc (.cells #[.int .i64 x, .int .i64 y] 44)) w.heap.size x y := ⟨heap_alloc_new _ _⟩
theorem SqB.below {w w' : World} {b : Nat} {x y : Int} (h : SqB w b x y) (hb : Below w.heap.size w w') : SqB w' b x y := ⟨(hb.block b h.lt).trans h.blk⟩

/-- What a call that turns one block alone leaves. -/
theorem Ar.only {w w' : World} {B p q : Nat} {l : List UInt8} {cs : Array Value} {t : TypeId} (h : Ar w B p l) (hq : w.heap[q]? = some (.cells cs t (0, 0))) (h1 : t ≠ 98) (h2 : t ≠ 5) (hg : w.grownBy w' (some q)) : Ar w' B p l := by
  obtain ⟨a, c, e1, e2, e3, e4⟩ := h
  refine ⟨a, c, e1, (hg.block p (lt_of_heap e2) (fun e => ?_)).trans e2, e3.kept hg (.inr (own_ne e3 hq (fun e => h2 e.symm))), e4⟩
  injection e with e
  subst e
  rw [e2] at hq
  injection hq with hq
  injection hq with _ hq
  exact h1 hq.symm

theorem rnew_big (s : ByteArray) (w : World) (hs : s.size ≤ maxLen) (h : 4096 < s.size) :
    Calls Try.prog 13 #[.string s] w fun e w' => e = .returned (.tuple #[.pointer none, .int .i64 8]) ∧ w = w' := by
  unfold maxLen at hs
  go_enter Try.func13, Try.ntmps13
  go_wp2_with fail
  go_ret2
  exact ⟨rfl, rfl⟩
theorem rnew_of (l : List UInt8) (w : World) (h : l.length ≤ 4096) :
    Calls Try.prog 13 #[.string (strOf l)] w fun e w' => e = .returned (.tuple #[.pointer (some ⟨w.heap.size, 0, none⟩), .int .i64 0]) ∧ RA w' w.heap.size w.heap.size l ∧ Below w.heap.size w w' := by
  have hs : (strOf l).size ≤ 4096 := h
  have HL := Lib.hid (rfl : strOf l = strOf l)
  generalize hx : strOf l = s at *
  have HX := Lib.hid hx
  clear hx HL
  go_enter Try.func13, Try.ntmps13
  go_wp2_with fail
  go_ret2
  exact ⟨rfl, ⟨Nat.le_refl _, by rw [HX.out]; exact heap_alloc_new _ _⟩, (Below.refl _ w).alloc (Nat.le_refl _) _⟩

/-- What a call that may turn the document's arena at q leaves. -/
def RPost (r : Int × Int × Int) (l' : List UInt8) (B q : Nat) (w : World) (e : Ending) (w' : World) : Prop := e = ret3 r ∧ RA w' B q l' ∧ w.grownBy w' (some q)

theorem only_below {w w' : World} (h : Below w.heap.size w w') (row : Option Nat) : w.grownBy w' row := ⟨h.os, h.tape, h.output, h.size, fun k hk _ => h.block k hk⟩

theorem below_al2 (w : World) (o : Obj) : Below w.heap.size w (w.alloc o) := (Below.refl _ w).alloc (Nat.le_refl _) o
theorem only_alloc {a w : World} {row : Option Nat} (h : a.grownBy w row) (o : Obj) : a.grownBy (w.alloc o) row :=
  ⟨h.os, h.tape, h.output, Nat.le_trans h.size (by simp), fun i hi hne => (Below.heap_alloc w o i (Nat.lt_of_lt_of_le hi h.size)).trans (h.block i hi hne)⟩
theorem only_set (w : World) (q : Nat) (u : Value) : w.grownBy (w.setCell ⟨q, 0, none⟩ u) (some q) :=
  ⟨rfl, rfl, rfl, by rw [size_set]; exact Nat.le_refl _, fun k _ hn => heap_set_other (fun e => hn (by rw [e]))⟩
theorem only_trans {a b c : World} {row : Option Nat} (h : a.grownBy b row) (k : b.grownBy c row) : a.grownBy c row :=
  ⟨k.os.trans h.os, k.tape.trans h.tape, k.output.trans h.output, Nat.le_trans h.size k.size, fun i hi hn => (k.block i (Nat.lt_of_lt_of_le hi h.size) hn).trans (h.block i hi hn)⟩
theorem only_set_new {a w : World} {row : Option Nat} {b : Nat} (h : a.grownBy w row) (hb : a.heap.size ≤ b) (o : Nat) (u : Value) : a.grownBy (w.setCell ⟨b, o, none⟩ u) row :=
  ⟨h.os, h.tape, h.output, by rw [size_set]; exact h.size, fun i hi hn => by rw [heap_set_other (by omega)]; exact h.block i hi hn⟩
theorem empty_no (t : ByteArray) (h : t.size ≠ 0) : t.toList.isEmpty = false := by
  rw [ByteArray.toList_eq, List.isEmpty_eq_false_iff]
  intro e
  apply h
  have : t.data.toList.length = 0 := by rw [e]; rfl
  exact this
set_option maxHeartbeats 1600000 in
theorem radd_of {w : World} {B q : Nat} {l t : List UInt8} (h : RA w B q l) (hl : l.length ≤ 16384) (ht : t.length ≤ maxLen) :
    Calls Try.prog 54 #[.pointer (some ⟨q, 0, none⟩), .string (strOf t)] w (RPost (addR l t) (addL l t) B q w) := by
  unfold maxLen at ht
  have hql := h.lt
  have hc := h.c
  have hf := h.f
  have hzl : (strOf l).size = l.length := rfl
  have hzt : (strOf t).size = t.length := rfl
  have HA := Lib.hid (strOf_app l t)
  have HH := Lib.hid h
  have hb1 : ∀ o, Below w.heap.size w (w.alloc o) := fun o => (Below.refl _ w).alloc (Nat.le_refl _) o
  by_cases h2 : t.length = 0
  · obtain rfl := List.eq_nil_of_length_eq_zero h2
    rw [show addR l [] = (0, 0, 0) by unfold addR; simp; omega, show addL l [] = l by unfold addL; simp]
    clear hc hf hzl hzt h2 HA h
    unfold RPost ret3
    have e0 : strOf [] = ⟨#[]⟩ := rfl
    rw [e0]
    go_enter Try.func54, Try.ntmps54
    go_wp2_with fail
    refine bodyPost_ret (v := .tuple #[.agg #[.int .i64 0, .int .i64 0], .int .i64 0]) (by simp [results, Try.results54, go_sem]) rfl ⟨rfl, HH.out.below (hb1 _), only_below (hb1 _) _⟩
  · have hem := empty_no (strOf t) (by rw [hzt]; exact h2)
    have hem2 : (strOf t).toList ≠ [] := by rw [← List.isEmpty_eq_false_iff]; exact hem
    by_cases h1 : 16384 - (l.length : Int) < t.length
    · rw [show addR l t = (0, 0, 6) by unfold addR; rw [if_pos h1], show addL l t = l by unfold addL; rw [if_pos h1]]
      unfold RPost ret3
      have g1 : (strOf l).size ≤ 16384 := by omega
      have g2 : (16384 : Int) - (strOf l).size < (strOf t).size := by rw [hzl, hzt]; exact h1
      have g3 : (strOf t).size ≤ 2 ^ 63 - 1 := by omega
      have d1 : decide ((16384 : Int) - (strOf l).size < (strOf t).size) = true := decide_eq_true g2
      clear hzl hzt HA h1 h
      generalize strOf l = S at *
      generalize strOf t = T at *
      go_enter Try.func54, Try.ntmps54
      go_wp2_with fail
      refine bodyPost_ret (v := .tuple #[.agg #[.int .i64 0, .int .i64 0], .int .i64 6]) (by simp [results, Try.results54, go_sem]) rfl ⟨rfl, HH.out.below (hb1 _), only_below (hb1 _) _⟩
    · rw [show addR l t = ((l.length : Int), (t.length : Int), 0) by unfold addR; rw [if_neg h1, if_neg h2], show addL l t = l ++ t by unfold addL; rw [if_neg h1]]
      unfold RPost ret3
      have g1 : (strOf l).size ≤ 16384 := by omega
      have g3 : (strOf t).size ≤ 16384 := by omega
      have d1 : decide ((16384 : Int) - (strOf l).size < (strOf t).size) = false := decide_eq_false (by rw [hzl, hzt]; exact h1)
      have HZ := Lib.hid hzl
      have HZ2 := Lib.hid hzt
      clear hzl hzt h1 h
      generalize hS : strOf l = S at *
      generalize strOf t = T at *
      have HS := Lib.hid hS
      clear hS
      go_enter Try.func54, Try.ntmps54
      go_wp2_with fail
      refine bodyPost_ret (v := .tuple #[.agg #[.int .i64 S.size, .int .i64 T.size], .int .i64 0]) (by simp [results, Try.results54, go_sem]) rfl ⟨by rw [HZ.out, HZ2.out], ?_, ?_⟩
      · have e : (w.setCell ⟨q, 0, none⟩ (.string (S ++ T))).heap[q]? = some (.cells #[.string (strOf (l ++ t))] 40 (0, 0)) := by rw [heap_set_at HH.out.blk, HA.out]; rfl
        exact RA.below (RA.below ⟨HH.out.base, e⟩ (below_al2 _ _)) (below_al2 _ _)
      · exact only_alloc (only_alloc (only_set _ _ _) _) _

set_option maxHeartbeats 1600000 in
theorem rright_of {w : World} {B q : Nat} {l : List UInt8} (h : RA w B q l) (hl : l.length ≤ 16384) (at_ m : Int) :
    Calls Try.prog 21 #[.pointer (some ⟨q, 0, none⟩), .agg #[.int .i64 at_, .int .i64 m]] w fun e w' => e = .returned (.bool (rightB l.length at_ m)) ∧ Below w.heap.size w w' := by
  have hql := h.lt
  have hc := h.c
  have hz : (strOf l).size = l.length := rfl
  have hk : (at_ < 0 ∧ rightB l.length at_ m = false) ∨ (0 ≤ at_ ∧ m < 0 ∧ rightB l.length at_ m = false) ∨ (0 ≤ at_ ∧ 0 ≤ m ∧ l.length < at_ ∧ rightB l.length at_ m = false) ∨ (0 ≤ at_ ∧ 0 ≤ m ∧ at_ ≤ l.length ∧ l.length - at_ < m ∧ rightB l.length at_ m = false) ∨ (0 ≤ at_ ∧ 0 ≤ m ∧ at_ ≤ l.length ∧ m ≤ l.length - at_ ∧ rightB l.length at_ m = true) := by
    unfold rightB; simp only [decide_eq_false_iff_not, decide_eq_true_eq]; omega
  have hcc : (w.alloc (.cells #[.int .i64 at_, .int .i64 m] 44)).cell? ⟨q, 0, none⟩ = some (.string (strOf l)) := by rw [World.cell?_alloc_lt _ _ _ hql]; exact hc
  have hS : (strOf l).size ≤ 16384 := hl
  rw [← hz] at hk ⊢
  clear hz h
  generalize strOf l = S at *
  rcases hk with ⟨k1, k⟩ | ⟨k1, k2, k⟩ | ⟨k1, k2, k3, k⟩ | ⟨k1, k2, k3, k4, k⟩ | ⟨k1, k2, k3, k4, k⟩
  · have HK := Lib.hid k
    clear k
    have d1 : decide (0 ≤ at_) = false := decide_eq_false (by omega)
    go_enter Try.func21, Try.ntmps21
    go_wp2_with fail
    go_quiet (fail)
    go_wp2_with fail
    go_ret
    exact ⟨by rw [HK.out] <;> rfl, below_draw1 ((Below.refl _ _).alloc (Nat.le_refl _) _) _⟩
  · have HK := Lib.hid k
    clear k
    have d1 : decide (0 ≤ at_) = true := decide_eq_true k1
    have d2 : decide (0 ≤ m) = false := decide_eq_false (by omega)
    go_enter Try.func21, Try.ntmps21
    go_wp2_with fail
    go_quiet (fail)
    go_wp2_with fail
    go_ret
    exact ⟨by rw [HK.out] <;> rfl, below_draw1 ((Below.refl _ _).alloc (Nat.le_refl _) _) _⟩
  · have HK := Lib.hid k
    clear k
    have d1 : decide (0 ≤ at_) = true := decide_eq_true k1
    have d2 : decide (0 ≤ m) = true := decide_eq_true k2
    have d3 : decide (at_ ≤ (S.size : Int)) = false := decide_eq_false (by omega)
    go_enter Try.func21, Try.ntmps21
    go_wp2_with fail
    go_quiet (fail)
    go_wp2_with fail
    go_ret
    exact ⟨by rw [HK.out] <;> rfl, below_draw1 ((Below.refl _ _).alloc (Nat.le_refl _) _) _⟩
  · have HK := Lib.hid k
    clear k
    have d1 : decide (0 ≤ at_) = true := decide_eq_true k1
    have d2 : decide (0 ≤ m) = true := decide_eq_true k2
    have d3 : decide (at_ ≤ (S.size : Int)) = true := decide_eq_true k3
    have d4 : decide (m ≤ (S.size : Int) - at_) = false := decide_eq_false (by omega)
    go_enter Try.func21, Try.ntmps21
    go_wp2_with fail
    go_quiet (fail)
    go_wp2_with fail
    go_ret
    exact ⟨by rw [HK.out] <;> rfl, below_draw1 ((Below.refl _ _).alloc (Nat.le_refl _) _) _⟩
  · have HK := Lib.hid k
    clear k
    have d1 : decide (0 ≤ at_) = true := decide_eq_true k1
    have d2 : decide (0 ≤ m) = true := decide_eq_true k2
    have d3 : decide (at_ ≤ (S.size : Int)) = true := decide_eq_true k3
    have d4 : decide (m ≤ (S.size : Int) - at_) = true := decide_eq_true k4
    go_enter Try.func21, Try.ntmps21
    go_wp2_with fail
    go_quiet (fail)
    go_wp2_with fail
    go_ret
    exact ⟨by rw [HK.out] <;> rfl, below_draw1 ((Below.refl _ _).alloc (Nat.le_refl _) _) _⟩

theorem str_sub (l : List UInt8) (i k : Nat) (h : i + k ≤ l.length) : (strOf l).extract i (i + k) = strOf ((l.drop i).take k) := by
  apply ByteArray.ext
  apply Array.ext'
  simp only [strOf, ByteArray.data_extract, Array.toList_extract, List.extract_eq_take_drop]
  rw [show i + k - i = k by omega]

set_option maxHeartbeats 1600000 in
theorem rbytes_of {w : World} {B q : Nat} {l : List UInt8} (h : RA w B q l) (hl : l.length ≤ 16384) (at_ m : Int) :
    Calls Try.prog 19 #[.pointer (some ⟨q, 0, none⟩), .agg #[.int .i64 at_, .int .i64 m]] w fun e w' => e = .returned (.string (strOf (subL l at_ m))) ∧ Below w.heap.size w w' := by
  have hb0 : Below w.heap.size w (w.alloc (.cells #[.int .i64 at_, .int .i64 m] 44)) := (Below.refl _ w).alloc (Nat.le_refl _) _
  have hc := rright_of (h.below hb0) hl at_ m
  have S0 := SqB.new w at_ m
  have h1 := h.below hb0
  unfold subL
  by_cases hr : rightB l.length at_ m = true
  · rw [if_pos hr]
    rw [hr] at hc
    unfold rightB at hr
    simp only [decide_eq_true_eq] at hr
    obtain ⟨i, rfl⟩ := Int.eq_ofNat_of_zero_le hr.1
    obtain ⟨k, rfl⟩ := Int.eq_ofNat_of_zero_le hr.2.1
    have hik : i + k ≤ l.length := by omega
    rw [Int.toNat_natCast, Int.toNat_natCast, ← str_sub l i k hik]
    have HC := Lib.hid hc
    have hz : (strOf l).size = l.length := rfl
    rw [← hz] at hik
    have hS : (strOf l).size ≤ 16384 := hl
    clear hc hr hz
    go_enter Try.func19, Try.ntmps19
    go_wp2_with fail
    refine HC.out.mono ?_; rintro e w1 ⟨rfl, hb⟩
    have c0 := (S0.below hb).c0
    have c1 := (S0.below hb).c1
    have c2 := (h1.below hb).c
    have HB := Lib.hid (hb0.trans (hb.mono hb0.size))
    clear hb S0 h1 h hb0
    generalize hSe : strOf l = S at *
    have HSe := Lib.hid hSe
    clear hSe
    have g0 : (0 : Int) ≤ (i : Int) := by omega
    have g1 : (i : Int) ≤ (i : Int) + k := by omega
    have g2 : (i : Int) + k ≤ S.size := by omega
    have g3 : IntKind.i64.wrap ((i : Int) + k) = (i : Int) + k := by rw [IntKind.wrap_i64]; omega
    have g4 : ((i : Int) + k).toNat = i + k := by omega
    go_wp2_with fail
    go_quiet (fail)
    go_wp2_with fail
    go_ret
    exact ⟨by rw [HSe.out] <;> rfl, below_draw1 HB.out _⟩
  · rw [if_neg hr]
    rw [show rightB l.length at_ m = false by simpa using hr] at hc
    have HC := Lib.hid hc
    clear hc hr S0 h1 h
    go_enter Try.func19, Try.ntmps19
    go_wp2_with fail
    refine HC.out.mono ?_; rintro e w1 ⟨rfl, hb⟩
    have HB := Lib.hid (hb0.trans (hb.mono hb0.size))
    clear hb
    go_wp2_with fail
    go_ret
    exact ⟨rfl, HB.out⟩

/-- Where a text stands in another one, told by what stands at a place. -/
theorem str_list (l : List UInt8) : (strOf l).toList = l := by rw [ByteArray.toList_eq]; rfl
theorem occ_iff (l t : List UInt8) (k : Nat) (h : k + t.length ≤ l.length) : Lib.occAt l t k = (((strOf l).extract k (k + t.length)).toList == (strOf t).toList) := by
  rw [str_sub l k t.length h, str_list, str_list]
  unfold Lib.occAt
  rw [Bool.eq_iff_iff, List.isPrefixOf_iff_prefix, beq_iff_eq]
  constructor
  · rintro ⟨r, hr⟩
    rw [← hr, List.take_left' rfl]
  · intro e
    exact ⟨(l.drop k).drop t.length, by conv => rhs; rw [← List.take_append_drop t.length (l.drop k), e]⟩

set_option maxHeartbeats 1600000 in
theorem rplace_of (l t : List UInt8) (w : World) (hl : l.length ≤ 16384) (ht : t.length ≤ 16384) :
    Calls Try.prog 65 #[.string (strOf l), .string (strOf t)] w fun e w' => e = .returned (.int .i64 (Lib.index l t)) ∧ w = w' := by
  have hzl : (strOf l).size = l.length := rfl
  have hzt : (strOf t).size = t.length := rfl
  have HO := Lib.hid (occ_iff l t)
  have g1 : (strOf l).size ≤ 16384 := hl
  have g2 : (strOf t).size ≤ 16384 := ht
  generalize strOf l = S at *
  generalize strOf t = T at *
  have HZ := Lib.hid hzl
  have HT := Lib.hid hzt
  clear hzl hzt
  go_enter Try.func65, Try.ntmps65
  go_wp2_with fail
  go_loop [5] (fun i => ∃ k : Nat, i = .int .i64 k ∧ (k : Int) ≤ max 0 ((S.size : Int) - T.size + 1) ∧ ∀ j, j < k → Lib.occAt l t j = false) (fun i => S.size + 1 - (intOf i).toNat)
  case atStart => exact ⟨0, rfl, by omega, fun j hj => absurd hj (Nat.not_lt_zero _)⟩
  case round =>
    obtain ⟨k, rfl, hk, hno⟩ := hrel
    have HN := Lib.hid hno
    clear hno
    by_cases hle : (k : Int) ≤ (S.size : Int) - T.size
    · have hkl : k + T.size ≤ S.size := by omega
      have d1 : decide ((k : Int) ≤ (S.size : Int) - T.size) = true := decide_eq_true hle
      have ho := HO.out k (by have := HZ.out; have := HT.out; omega)
      rw [← HT.out] at ho
      have g4 : ((k : Int) + T.size).toNat = k + T.size := by omega
      cases hoc : Lib.occAt l t k with
      | true =>
        rw [hoc] at ho
        have HOC := Lib.hid hoc
        have d2 := ho.symm
        clear ho hoc
        go_wp2_with fail
        go_ret
        refine ⟨ret_i ?_, rfl⟩
        exact Lib.index_first (by have := HZ.out; omega) HOC.out HN.out
      | false =>
        rw [hoc] at ho
        have HOC := Lib.hid hoc
        have d2 := ho.symm
        clear ho hoc
        go_wp2_with fail
        go_round
        case rel =>
          refine ⟨k + 1, by go_num, by omega, fun j hj => ?_⟩
          by_cases hjk : j < k
          · exact HN.out j hjk
          · have : j = k := by omega
            rw [this]; exact HOC.out
        case measure => simp [intOf]; omega
    · have d1 : decide ((k : Int) ≤ (S.size : Int) - T.size) = false := decide_eq_false hle
      go_wp2_with fail
      go_ret
      refine ⟨ret_i ?_, rfl⟩
      refine Lib.index_none (fun j hj => ?_)
      by_cases hjk : j < k
      · exact HN.out j hjk
      · have hz := HZ.out
        have ht := HT.out
        cases ho : Lib.occAt l t j with
        | false => rfl
        | true =>
          rcases Lib.occAt_room ho with h | h
          · omega
          · subst h
            have ht' : T.size = 0 := by simpa using ht
            omega

set_option maxHeartbeats 1600000 in
theorem rkeep_of {w : World} {B q : Nat} {l t : List UInt8} (h : RA w B q l) (hl : l.length ≤ 16384) (ht : t.length ≤ 16384) :
    Calls Try.prog 53 #[.pointer (some ⟨q, 0, none⟩), .string (strOf t)] w (RPost (keepR l t) (keepL l t) B q w) := by
  have hb0 : Below w.heap.size w (w.alloc (.cells #[.int .i64 0, .int .i64 0] 44)) := (Below.refl _ w).alloc (Nat.le_refl _) _
  have h1 := h.below hb0
  have hc := h1.c
  have hql := h.lt
  have HP := Lib.hid (fun w => rplace_of l t w hl ht)
  have HA := Lib.hid (radd_of (t := t) h1 hl (by unfold maxLen; omega))
  have hzt : (strOf t).size = t.length := rfl
  have S0 := SqB.new w 0 0
  have HB0 := Lib.hid hb0
  have HH := Lib.hid h
  clear hb0 h
  unfold keepR keepL RPost ret3 at *
  by_cases hk : t.length = 0 ∨ Lib.index l t < 0
  · rw [if_pos hk, if_pos hk]
    generalize addR l t = r at *
    generalize addL l t = l' at *
    by_cases h0 : t.length = 0
    · have hem : (strOf t).toList.isEmpty = true := by rw [str_list, List.isEmpty_iff]; exact List.eq_nil_of_length_eq_zero h0
      have hem2 : (strOf t).toList = [] := by rw [← List.isEmpty_iff]; exact hem
      clear hk hzt
      generalize Lib.index l t = x at *
      generalize strOf t = T at *
      generalize strOf l = S at *
      go_enter Try.func53, Try.ntmps53
      go_wp2_with fail
      refine (HP.out _).mono ?_; rintro e w1 ⟨rfl, rfl⟩
      go_wp2_with fail
      refine HA.out.mono ?_; rintro e w2 ⟨rfl, hR, hG⟩
      have S2 : SqB w2 w.heap.size 0 0 := ⟨(hG.block _ (by simp) (fun e => by injection e with e; omega)).trans S0.blk⟩
      have y0 := S2.c0
      have y1 := S2.c1
      have y2 := S2.f 0
      have y3 := S2.f 1
      have HR := Lib.hid hR
      have HG := Lib.hid (only_trans (only_below HB0.out (some q)) hG)
      have HS2 := Lib.hid S2
      clear hR hG S2 S0
      go_wp2_with fail
      refine bodyPost_ret (v := .tuple #[.agg #[.int .i64 r.1, .int .i64 r.2.1], .int .i64 r.2.2]) (by simp [results, Try.results53, go_sem, y0, y1]) rfl ⟨rfl, ?_, ?_⟩
      · exact ⟨HR.out.base, by rw [heap_set_other (by omega), heap_set_other (by omega)]; exact HR.out.blk⟩
      · exact only_set_new (only_set_new HG.out (Nat.le_refl _) _ _) (Nat.le_refl _) _ _
    · have hx : Lib.index l t < 0 := by omega
      have hem := empty_no (strOf t) (by omega)
      have hem2 : (strOf t).toList ≠ [] := by rw [← List.isEmpty_eq_false_iff]; exact hem
      have d1 : decide (Lib.index l t < 0) = true := decide_eq_true hx
      clear hk hzt
      generalize Lib.index l t = x at *
      generalize strOf t = T at *
      generalize strOf l = S at *
      go_enter Try.func53, Try.ntmps53
      go_wp2_with fail
      refine (HP.out _).mono ?_; rintro e w1 ⟨rfl, rfl⟩
      go_wp2_with fail
      refine HA.out.mono ?_; rintro e w2 ⟨rfl, hR, hG⟩
      have S2 : SqB w2 w.heap.size 0 0 := ⟨(hG.block _ (by simp) (fun e => by injection e with e; omega)).trans S0.blk⟩
      have y0 := S2.c0
      have y1 := S2.c1
      have y2 := S2.f 0
      have y3 := S2.f 1
      have HR := Lib.hid hR
      have HG := Lib.hid (only_trans (only_below HB0.out (some q)) hG)
      have HS2 := Lib.hid S2
      clear hR hG S2 S0
      go_wp2_with fail
      refine bodyPost_ret (v := .tuple #[.agg #[.int .i64 r.1, .int .i64 r.2.1], .int .i64 r.2.2]) (by simp [results, Try.results53, go_sem, y0, y1]) rfl ⟨rfl, ?_, ?_⟩
      · exact ⟨HR.out.base, by rw [heap_set_other (by omega), heap_set_other (by omega)]; exact HR.out.blk⟩
      · exact only_set_new (only_set_new HG.out (Nat.le_refl _) _ _) (Nat.le_refl _) _ _
  · rw [if_neg hk, if_neg hk]
    have hem := empty_no (strOf t) (by omega)
    have hem2 : (strOf t).toList ≠ [] := by rw [← List.isEmpty_eq_false_iff]; exact hem
    have d1 : decide (Lib.index l t < 0) = false := decide_eq_false (by omega)
    have g2 : (strOf t).size ≤ 16384 := ht
    have HT := Lib.hid hzt
    clear hzt hk HA
    generalize Lib.index l t = x at *
    generalize strOf t = T at *
    generalize strOf l = S at *
    go_enter Try.func53, Try.ntmps53
    go_wp2_with fail
    refine (HP.out _).mono ?_; rintro e w1 ⟨rfl, rfl⟩
    go_wp2_with fail
    refine bodyPost_ret (v := .tuple #[.agg #[.int .i64 x, .int .i64 T.size], .int .i64 0]) (by simp [results, Try.results53, go_sem]) rfl ⟨by rw [HT.out], HH.out.below (below_al2 _ _), only_below (below_al2 _ _) _⟩

end Go.Proofs.Ytkggeknfdjbheaa
