/-
  Texts of this seat, put together (a claim holds few texts): FdN, FdG, FdH.
-/
import Derived.Test.YtkgakgceamafcaaMk40

namespace Go.Proofs.Ytkgakgceamafcaa
open Go Go.RowKit Go.Shelf
set_option linter.unusedVariables false
attribute [local go_sem] Oper.semAt_some

set_option maxRecDepth 100000 in
set_option maxHeartbeats 4000000 in
theorem next_in (n : Nat) {w : World} {l p : List UInt8} {B ap N : Nat} {Ls : List R3} {Cs : List (List CelM)} {ta px : Option Addr} {m tc : Nat} {tl : Bool} {en : Int} (R C : Int)
    (HT : Tin w 118 (.pointer px) (rws Ls)) (hN : Ls.length = N) (hNl : N ≤ 100000) (HG : GrIn w l Ls Cs) (HA : Ar w B ap l) (hl : l.length ≤ 16384) (hsh : ∀ ms ∈ Cs, ∀ m ∈ ms, m.t.length ≤ 100000) (hcl : ∀ ms ∈ Cs, ms.length ≤ 100000)
    (hp : Rd w 1 ta p.length (bc p)) (hm : p.length = m) (hml : m ≤ 100000) :
    CallsIn Fence.wide n Try.prog 24 #[.agg #[.pointer px, .bool tl, .int .i64 en], .pointer (some ⟨ap, 0, none⟩), .slice ta m tc, .int .i64 R, .int .i64 C] w fun e w' => e = .returned (.tuple #[.int .i64 ((pickP (fun x => aheadP R C x.1 x.2) (havP l p Cs Ls)).1.1 : Int), .int .i64 ((pickP (fun x => aheadP R C x.1 x.2) (havP l p Cs Ls)).1.2 : Int), .bool (pickP (fun x => aheadP R C x.1 x.2) (havP l p Cs Ls)).2]) ∧ Below w.heap.size w w' := by
  obtain ⟨X, hX⟩ : ∃ X, pickP (fun x => aheadP R C x.1 x.2) (havP l p Cs Ls) = X := ⟨_, rfl⟩
  have HX := Lib.hid hX
  rw [hX]
  obtain ⟨hb1, hz1, hh⟩ := allocs_w [Obj.cells #[.pointer px, .bool tl, .int .i64 en] 50, Obj.cells #[.int .i64 R] 3, Obj.cells #[.int .i64 C] 3] w
  simp only [List.foldl_cons, List.foldl_nil] at hb1 hz1 hh
  obtain ⟨w1, hw1⟩ : ∃ w1, ((w.alloc (Obj.cells #[.pointer px, .bool tl, .int .i64 en] 50)).alloc (Obj.cells #[.int .i64 R] 3)).alloc (Obj.cells #[.int .i64 C] 3) = w1 := ⟨_, rfl⟩
  rw [hw1] at hb1 hz1 hh
  have b0 := (hh 0 (by simp)).trans rfl
  have b1 := (hh 1 (by simp)).trans rfl
  have b2 := (hh 2 (by simp)).trans rfl
  rw [Nat.add_zero] at b0
  simp only [List.length_cons, List.length_nil] at hz1
  have g0 : w1.cell? ⟨w.heap.size, 0, none⟩ = some (.pointer px) := (cell_at b0 0).trans rfl
  have g1 : w1.cell? ⟨w.heap.size, 1, none⟩ = some (.bool tl) := (cell_at b0 1).trans rfl
  have g2 : w1.cell? ⟨w.heap.size, 2, none⟩ = some (.int .i64 en) := (cell_at b0 2).trans rfl
  have r0 : w1.cell? ⟨w.heap.size + 1, 0, none⟩ = some (.int .i64 R) := (cell_at b1 0).trans rfl
  have c0 : w1.cell? ⟨w.heap.size + 2, 0, none⟩ = some (.int .i64 C) := (cell_at b2 0).trans rfl
  have hmix : Try.prog.follows .mixedOrders = true := by kernel_rfl
  have HSe := Lib.hid (seek_of (w := w1.drew) (tc := tc) ((hp.below hb1).below (Below.refl _ w1).drew) hm hml)
  have HPk := Lib.hid (fun (bs : List Nat) (ba : Option Addr) (bc' : Nat) (w2 w4 : World) (hbs : bs.length = m) (hTb : Tab p bs) (hrb : Rd w2 1 ba m (ib bs)) (hb2 : Below w1.heap.size w1 w2) (hb4 : Below w2.heap.size w2 w4) (hz4 : w4.heap.size = w2.heap.size + 3)
      (e0 : w4.heap[w2.heap.size]? = some (.cells #[.slice ta m tc, .slice ba m bc'] 43 (0, 0))) (e1 : w4.heap[w2.heap.size + 1]? = some (.cells #[.pointer px, .bool tl, .int .i64 en] 50 (0, 0))) (e2 : w4.heap[w2.heap.size + 2]? = some (.cells #[.pointer (some ⟨ap, 0, none⟩)] 51 (0, 0))) =>
    have hb14 : Below w1.heap.size w1 w4 := hb2.trans (hb4.mono hb2.size)
    have hb04 : Below w.heap.size w w4 := hb1.trans (hb14.mono hb1.size)
    have s2 := hb2.size
    pick_in (n - 1) (w := w4) (lb := #[pbox (w2.heap.size + 1), pbox w2.heap.size, pbox (w2.heap.size + 2)]) (A := havP l p Cs Ls) (R := R) (C := C) (br := w.heap.size + 1) (bc' := w.heap.size + 2)
      ((hb14.cell (p := ⟨w.heap.size + 1, 0, none⟩) (by show w.heap.size + 1 < _; omega)).trans r0) ((hb14.cell (p := ⟨w.heap.size + 2, 0, none⟩) (by show w.heap.size + 2 < _; omega)).trans c0) (by omega) (by omega)
      (fun k w' hbw => cells_iter k w4.heap.size (w2.heap.size + 1) w2.heap.size (w2.heap.size + 2) (D0 := fun _ => False) (w0 := w4) (w := w') hbw (Nat.le_refl _) hbw.size (fun _ h => h.elim) (.inr (by omega)) (.inr (by omega)) (.inr (by omega))
        ((hbw.cell (p := ⟨w2.heap.size + 1, 0, none⟩) (by show w2.heap.size + 1 < _; omega)).trans ((cell_at e1 0).trans rfl)) ((hbw.cell (p := ⟨w2.heap.size + 1, 1, none⟩) (by show w2.heap.size + 1 < _; omega)).trans ((cell_at e1 1).trans rfl)) ((hbw.cell (p := ⟨w2.heap.size + 1, 2, none⟩) (by show w2.heap.size + 1 < _; omega)).trans ((cell_at e1 2).trans rfl))
        ((hbw.cell (p := ⟨w2.heap.size, 0, none⟩) (by show w2.heap.size < _; omega)).trans ((cell_at e0 0).trans rfl)) ((hbw.cell (p := ⟨w2.heap.size, 1, none⟩) (by show w2.heap.size < _; omega)).trans ((cell_at e0 1).trans rfl)) ((hbw.cell (p := ⟨w2.heap.size + 2, 0, none⟩) (by show w2.heap.size + 2 < _; omega)).trans ((cell_at e2 0).trans rfl))
        (HT.below hb04) hN hNl (HG.below hb04) (HA.below hb04) hl hsh hcl (hp.below hb04) hTb (hrb.below hb4) hm hbs hml))
  rw [hX] at HPk
  have HB1 := Lib.hid hb1
  clear HT hN HG HA hsh hcl hp hm hh b0 b1 b2 hb1 hX r0 c0
  refine callsIn_of_wp Try.func24 rfl trivial ?_ rfl
  simp only [Try.ntmps24, List.size_toArray, List.length_cons, List.length_nil, Nat.reduceAdd, Nat.reduceSub, Array.replicate_succ, Array.replicate_zero, List.push_toArray, List.append_toArray, List.nil_append, List.cons_append]
  gi_wp2
  rename_i KK hKK
  clear hw1
  have hlg : w.heap.size < w1.heap.size := by omega
  refine wpIn_mono (Q := Exit.then KK (fun _ _ _ => False)) ?_ (fun e a W h => by cases e <;> first | exact h | exact h.elim)
  gi_region_with_o (first
    | (refine ⟨trivial, (fun h => by simp [Fence.wide] at h), ((callsIn_wide (n := n - 1)).2 HSe.out).mono ?_⟩; clear HSe; rintro e w2 ⟨bs, ba, bc', rfl, hbs, hTb, hrb, hba, hb2⟩
       have hb12 := (Below.refl _ w1).drew.trans hb2
       have g02 := (hb12.cell (p := ⟨w.heap.size, 0, none⟩) hlg).trans g0
       have g12 := (hb12.cell (p := ⟨w.heap.size, 1, none⟩) hlg).trans g1
       have g22 := (hb12.cell (p := ⟨w.heap.size, 2, none⟩) hlg).trans g2)
    | (refine ⟨trivial, (fun h => by simp [Fence.wide] at h), ((callsIn_wide (n := n - 1)).2 (cells_call ta ba m tc bc' px tl en ap)).mono ?_⟩; rintro e w4 ⟨rfl, hb4, hz4, e0, e1, e2⟩
       have HP4 := Lib.hid (HPk.out bs ba bc' _ w4 hbs hTb hrb hb12 hb4 hz4 e0 e1 e2)
       clear HPk e0 e1 e2)
    | (refine ⟨trivial, (fun h => by simp [Fence.wide] at h), HP4.out.mono ?_⟩; clear HP4; rintro e w6 ⟨rfl, hb6⟩))
  all_goals
    refine hKK _ _ ?_
    clear hKK
    gi_wp2
    refine bodyPost_ret (v := .tuple #[.int .i64 (X.1.1 : Int), .int .i64 (X.1.2 : Int), .bool X.2]) (by simp [results, Try.results24, go_sem]) rfl ?_
    exact ⟨rfl, HB1.out.trans ((hb12.trans ((hb4.mono hb12.size).trans (hb6.mono (Nat.le_trans hb12.size hb4.size)))).mono HB1.out.size)⟩

end Go.Proofs.Ytkgakgceamafcaa

namespace Go.Proofs.Ytkgakgceamafcaa
open Go Go.RowKit
set_option linter.unusedVariables false

theorem strx (l : List UInt8) (i j : Nat) : (strOf l).extract i j = strOf ((l.drop i).take (j - i)) := by
  apply ByteArray.ext
  simp [strOf, ByteArray.data_extract]
theorem strOf_inj {a b : List UInt8} (h : strOf a = strOf b) : a = b := by
  have h1 := congrArg (fun x : ByteArray => x.data.toList) h
  simpa [strOf] using h1
theorem str_lst (l : List UInt8) : (strOf l).toList = l := by rw [ByteArray.toList_eq]; rfl

set_option maxRecDepth 100000 in
set_option maxHeartbeats 2000000 in
theorem rat_of {w : World} (b p : List UInt8) (i : Nat) {L m : Nat} (hL : b.length = L) (hm : p.length = m) (hl : L ≤ 100000) (hml : m ≤ 100000) (hi : i ≤ 200000) :
    Calls Try.prog 21 #[.string (strOf b), .string (strOf p), .int .i64 i] w fun e w' => e = .returned (.bool (atP p b i)) ∧ w = w' := by
  have sL : (strOf b).size = L := hL
  have sM : (strOf p).size = m := hm
  by_cases hp : p = []
  · have d0 : (strOf p).toList.isEmpty = true := by rw [str_lst, hp]; rfl
    have hat : atP p b i = false := by subst hp; rfl
    rw [hat]
    generalize strOf p = P at *
    generalize strOf b = B at *
    clear hp hat hL hm
    go_enter Try.func21, Try.ntmps21
    go_wp2_with fail
    go_ret
    exact ⟨rfl, rfl⟩
  · have d0 : (strOf p).toList.isEmpty = false := by rw [str_lst]; cases p <;> simp_all
    have d1 : decide ((0 : Int) ≤ (i : Int)) = true := decide_eq_true (by omega)
    have hne : p.isEmpty = false := by cases p <;> simp_all
    by_cases hf : i + m ≤ L
    · have d2 : decide (i + m ≤ L) = true := decide_eq_true hf
      have d2' : decide ((i : Int) + (m : Int) ≤ (L : Int)) = true := decide_eq_true (by omega)
      have hat : atP p b i = occ p b i := by unfold atP; rw [hne, hm, hL, d2]; rfl
      have hex : (((strOf b).extract i (i + m)).toList == (strOf p).toList) = occ p b i := by
        rw [strx, str_lst, str_lst, show i + m - i = m by omega, ← hm]; unfold occ
        by_cases h : (b.drop i).take p.length = p
        · rw [h, decide_eq_true rfl]; simp
        · rw [decide_eq_false h, beq_eq_false_iff_ne]; exact h
      have i0 : (0 : Int) ≤ (i : Int) := by omega
      have i1 : (i : Int) ≤ (i : Int) + (m : Int) := by omega
      have i2 : (i : Int) + (m : Int) ≤ (L : Int) := by omega
      have i3 : i ≤ i + m := by omega
      rw [hat]
      generalize occ p b i = o at *
      generalize strOf p = P at *
      generalize strOf b = B at *
      clear hat hp hL hm hne
      go_enter Try.func21, Try.ntmps21
      go_wp2_with fail
      go_ret
      exact ⟨rfl, rfl⟩
    · have d2 : decide (i + m ≤ L) = false := decide_eq_false hf
      have d2' : decide ((i : Int) + (m : Int) ≤ (L : Int)) = false := decide_eq_false (by omega)
      have hat : atP p b i = false := by unfold atP; rw [hm, hL, d2]; simp
      rw [hat]
      generalize strOf p = P at *
      generalize strOf b = B at *
      clear hat hp hL hm hne
      go_enter Try.func21, Try.ntmps21
      go_wp2_with fail
      go_ret
      exact ⟨rfl, rfl⟩

/-- The places below a number. -/
def belowK (p b : List UInt8) (k : Nat) : List Nat := (List.range k).filter (atP p b)
theorem belowK_yes {p b : List UInt8} {k : Nat} (h : atP p b k = true) : belowK p b (k + 1) = belowK p b k ++ [k] := by
  unfold belowK
  rw [List.range_succ, List.filter_append, List.filter_cons, h]; rfl
theorem belowK_no {p b : List UInt8} {k : Nat} (h : atP p b k = false) : belowK p b (k + 1) = belowK p b k := by
  unfold belowK
  rw [List.range_succ, List.filter_append, List.filter_cons, h]; simp
theorem belowK_len (p b : List UInt8) (k : Nat) : (belowK p b k).length ≤ k := by
  have := List.length_filter_le (atP p b) (List.range k)
  rw [List.length_range] at this
  exact this

set_option maxRecDepth 100000 in
set_option maxHeartbeats 2000000 in
theorem revery_of {w : World} (b p : List UInt8) {L m : Nat} (hL : b.length = L) (hm : p.length = m) (hl : L ≤ 100000) (hml : m ≤ 100000) :
    Calls Try.prog 8 #[.string (strOf b), .string (strOf p)] w fun e w' => ∃ a c, e = .returned (.slice a (allOf p b).length c) ∧ w'.ownsRow w.heap.size 3 1 (.slice a (allOf p b).length c) (allOf p b).length (ib (allOf p b)) ∧ Below w.heap.size w w' := by
  obtain ⟨i0, hi0, hz0, hz1, hz2⟩ := info_parts info_i
  have sL : (strOf b).size = L := hL
  have HA : Hid (allOf p b = belowK p b L) := by show _ = _; rw [all_eq, hL]; rfl
  have HAt := Lib.hid (fun (w' : World) (i : Nat) (h : i ≤ 200000) => rat_of (w := w') b p i hL hm hl hml h)
  generalize hB : strOf b = B at *
  generalize strOf p = P at *
  clear hB hm hml
  go_enter Try.func8, Try.ntmps8
  go_wp2_with fail
  go_loopw [5, 9] (fun v5 v9 wr => ∃ (k : Nat) (a : Option Addr) (c : Nat), v5 = .slice a (belowK p b k).length c ∧ v9 = .int .i64 (k : Int) ∧ k ≤ L ∧ wr.ownsRow w.heap.size 3 1 (.slice a (belowK p b k).length c) (belowK p b k).length (ib (belowK p b k)) ∧ Below w.heap.size w wr) (fun _ v9 _ => L - (intOf v9).toNat)
  case atStart => exact ⟨0, none, 0, rfl, rfl, Nat.zero_le _, ⟨rfl, .inl ⟨rfl, rfl⟩⟩, Below.refl _ _⟩
  case round =>
    obtain ⟨k, a, c, rfl, rfl, hk, ho, hb⟩ := hrel
    have HO := Lib.hid ho
    have HBl := Lib.hid hb
    have hzr := hb.size
    obtain ⟨N, hN⟩ : ∃ N, (belowK p b k).length = N := ⟨_, rfl⟩
    have HN := Lib.hid hN
    have hNk := belowK_len p b k
    rw [hN] at HO hNk ⊢
    clear ho hb hN
    by_cases hlt : k < L
    · have dk : decide (k < L) = true := decide_eq_true hlt
      have HA2 := Lib.hid (HAt.out wr k (by omega))
      cases hat : atP p b k
      · rw [hat] at HA2
        have HE := Lib.hid (belowK_no hat)
        clear hat
        go_wp2_with fail
        refine HA2.out.mono ?_; rintro e w2 ⟨rfl, rfl⟩
        go_wp2_with fail
        go_roundw
        case rel => exact ⟨k + 1, a, c, by rw [HE.out, HN.out], by go_num, by omega, by rw [HE.out, HN.out]; exact HO.out, HBl.out⟩
        case measure => simp [intOf]; omega
      · rw [hat] at HA2
        have HE := Lib.hid (belowK_yes hat)
        have C3 : Hid (N + 1 ≤ maxLen) := by show _ ≤ _; unfold maxLen; omega
        have C4 : Hid ((N + 1) * 8 ≤ 140737488355328) := by show _ ≤ _; omega
        clear hat
        go_wp2_with fail
        refine HA2.out.mono ?_; rintro e w2 ⟨rfl, rfl⟩
        have C5 : Hid (w.heap.size ≤ (wr.alloc (Obj.cells #[.int .i64 (k : Int)] 3)).heap.size) := by show _ ≤ _; rw [World.size_alloc]; omega
        go_wp2_with (at_builtin; refine wpList_append_lies _ rfl (.tmp 16) (.tmp 18) 25 rfl w.heap.size 3 i0 (.int .i64 0) 1 8 Try.underlying25 hi0 hz0 hz1 hz2 rfl (by decide) (.slice a N c) N (ib (belowK p b k)) rfl (HO.out.alloc _) ⟨wr.heap.size, 0, none⟩ 1 1 [.int .i64 (k : Int)] rfl rfl (c1_one wr _ _) (c2_one _ rfl) (by decide) C3.out C4.out C5.out _ rfl ?_)
        intro g3 k3 w3 ho3 hg3 hat3 hlt3
        have hB3 : Below w.heap.size w w3 := (HBl.out.alloc hzr _).grown hg3 C5.out (fun q hq => ((HO.out.alloc (Obj.cells #[.int .i64 (k : Int)] 3)).lt q hq).1)
        have H3 := Lib.hid (And.intro ho3 hB3)
        clear ho3 hg3 hat3 hlt3 hB3
        go_wp2_with fail
        go_roundw
        case rel => exact ⟨k + 1, some ⟨g3, 0, none⟩, k3, by rw [HE.out, List.length_append, HN.out]; rfl, by go_num, by omega, by rw [HE.out, List.length_append, HN.out, ib_app]; exact H3.out.1, H3.out.2⟩
        case measure => simp [intOf]; omega
    · have dk : decide (k < L) = false := decide_eq_false hlt
      obtain rfl : k = L := by omega
      go_wp2_with fail
      go_ret
      exact ⟨a, c, by rw [HA.out, HN.out]; rfl, by rw [HA.out, HN.out]; exact HO.out, HBl.out⟩

end Go.Proofs.Ytkgakgceamafcaa

namespace Go.Proofs.Ytkgakgceamafcaa
open Go Go.RowKit
set_option linter.unusedVariables false

set_option maxRecDepth 100000 in
set_option maxHeartbeats 2000000 in
theorem same_true {w : World} {a b : Option Addr} {c d n : Nat} {l : List Nat} (ha : Rd w 1 a n (ib l)) (hb : Rd w 1 b n (ib l)) (hn : l.length = n) (hl : n ≤ 1000000) :
    Calls Try.prog 6 #[.slice a n c, .slice b n d] w fun e w' => e = .returned (.bool true) ∧ Below w.heap.size w w' := by
  have HA := Lib.hid ha
  have HB := Lib.hid hb
  have HN := Lib.hid hn
  have hq : ((n : Int) == (n : Int)) = true := by simp
  clear ha hb hn
  go_enter Try.func6, Try.ntmps6
  go_wp2_with fail
  go_loopw [13] (fun v13 wr => ∃ k : Nat, v13 = .int .i64 k ∧ k ≤ n ∧ Below w.heap.size w wr) (fun v13 _ => n - (intOf v13).toNat)
  case atStart => exact ⟨0, rfl, by omega, Below.refl _ _⟩
  case round =>
    obtain ⟨k, rfl, hk, hb⟩ := hrel
    have HBl := Lib.hid hb
    by_cases hlt : k < n
    · have dk : decide (k < n) = true := decide_eq_true hlt
      obtain ⟨x, hx⟩ : ∃ x, l[k]? = some x := ⟨_, List.getElem?_eq_getElem (by rw [HN.out]; exact hlt)⟩
      obtain ⟨g, o, rfl, hg, hc⟩ := rd_ib (by rw [HN.out]; exact HA.out.below hb) hx
      obtain ⟨g', o', rfl, hg', hc'⟩ := rd_ib (by rw [HN.out]; exact HB.out.below hb) hx
      have e0 : (0 : Int) ≤ (k : Int) := by omega
      have e1 : (k : Int) < (n : Int) := by omega
      have hq2 : ((x : Int) == (x : Int)) = true := by simp
      clear hx hb
      go_wp2_with fail
      go_region
      all_goals
        go_wp2_with fail
        go_roundw
        case rel => exact ⟨k + 1, by go_num, by omega, HBl.out.drew⟩
        case measure => simp [intOf]; omega
    · have dk : decide (k < n) = false := decide_eq_false hlt
      clear hb
      go_wp2_with fail
      go_ret
      exact ⟨rfl, HBl.out⟩

set_option maxRecDepth 100000 in
set_option maxHeartbeats 2000000 in
theorem rapart_of {w : World} (b p : List UInt8) {L m : Nat} (hL : b.length = L) (hm : p.length = m) (hl : L ≤ 100000) (hml : m ≤ 100000) :
    Calls Try.prog 10 #[.string (strOf b), .string (strOf p)] w fun e w' => ∃ a c, e = .returned (.slice a (apart m 0 (allOf p b)).length c) ∧ w'.ownsRow w.heap.size 3 1 (.slice a (apart m 0 (allOf p b)).length c) (apart m 0 (allOf p b)).length (ib (apart m 0 (allOf p b))) ∧ Below w.heap.size w w' := by
  obtain ⟨i0, hi0, hz0, hz1, hz2⟩ := info_parts info_i
  have sL : (strOf b).size = L := hL
  have sM : (strOf p).size = m := hm
  have HA : Hid (apart m 0 (allOf p b) = apf p b 0) := by show _ = _; rw [apf_zero, hm]
  have HAt := Lib.hid (fun (w' : World) (i : Nat) (h : i ≤ 200000) => rat_of (w := w') b p i hL hm hl hml h)
  have HLen : Hid ((apart m 0 (allOf p b)).length ≤ L) := by
    show _ ≤ _
    have h1 := all_len p b
    have h2 := apart_len m (allOf p b) 0
    omega
  have HM := Lib.hid hm
  have HL := Lib.hid hL
  obtain ⟨A, hAA⟩ : ∃ A, apart m 0 (allOf p b) = A := ⟨_, rfl⟩
  rw [hAA] at HA HLen ⊢
  generalize hB : strOf b = B at *
  generalize strOf p = P at *
  clear hB hm hL hAA
  go_enter Try.func10, Try.ntmps10
  go_wp2_with fail
  go_loopw [5, 6] (fun v5 v6 wr => ∃ (k : Nat) (out : List Nat) (a : Option Addr) (c : Nat), v5 = .slice a out.length c ∧ v6 = .int .i64 (k : Int) ∧ k ≤ L ∧ out ++ apf p b k = A ∧ wr.ownsRow w.heap.size 3 1 (.slice a out.length c) out.length (ib out) ∧ Below w.heap.size w wr) (fun _ v6 _ => L - (intOf v6).toNat)
  case atStart => exact ⟨0, [], none, 0, rfl, rfl, Nat.zero_le _, HA.out.symm, ⟨rfl, .inl ⟨rfl, rfl⟩⟩, Below.refl _ _⟩
  case round =>
    obtain ⟨k, out, a, c, rfl, rfl, hk, hq, ho, hb⟩ := hrel
    have HQ := Lib.hid hq
    have HO := Lib.hid ho
    have HBl := Lib.hid hb
    have hzr := hb.size
    have hNl : out.length ≤ L := by
      have h1 := congrArg List.length hq
      rw [List.length_append] at h1
      have := HLen.out
      omega
    obtain ⟨N, hN⟩ : ∃ N, out.length = N := ⟨_, rfl⟩
    have HN := Lib.hid hN
    rw [hN] at HO hNl ⊢
    clear ho hb hN hq
    by_cases hlt : k < L
    · have dk : decide (k < L) = true := decide_eq_true hlt
      have HA2 := Lib.hid (HAt.out wr k (by omega))
      cases hat : atP p b k
      · rw [hat] at HA2
        have HE := Lib.hid (apf_no (by rw [HL.out]; exact hlt) hat)
        clear hat
        go_wp2_with fail
        refine HA2.out.mono ?_; rintro e w2 ⟨rfl, rfl⟩
        go_wp2_with fail
        go_roundw
        case rel => exact ⟨k + 1, out, a, c, by rw [HN.out], by go_num, by omega, by rw [← HE.out]; exact HQ.out, by rw [HN.out]; exact HO.out, HBl.out⟩
        case measure => simp [intOf]; omega
      · rw [hat] at HA2
        have HE := Lib.hid (apf_yes (by rw [HL.out]; exact hlt) hat)
        have hft := at_fits hat
        have hkm : k + m ≤ L := by have := HM.out; have := HL.out; omega
        have hm0 : 0 < m := by have := HM.out; omega
        have C3 : Hid (N + 1 ≤ maxLen) := by show _ ≤ _; unfold maxLen; omega
        have C4 : Hid ((N + 1) * 8 ≤ 140737488355328) := by show _ ≤ _; omega
        have hw1 : IntKind.i64.wrap ((k : Int) + (m : Int) - 1) = (k : Int) + (m : Int) - 1 := by rw [IntKind.wrap_i64]; omega
        clear hat hft
        go_wp2_with fail
        refine HA2.out.mono ?_; rintro e w2 ⟨rfl, rfl⟩
        have C5 : Hid (w.heap.size ≤ (wr.alloc (Obj.cells #[.int .i64 (k : Int)] 3)).heap.size) := by show _ ≤ _; rw [World.size_alloc]; omega
        go_wp2_with (at_builtin; refine wpList_append_lies _ rfl (.tmp 17) (.tmp 19) 25 rfl w.heap.size 3 i0 (.int .i64 0) 1 8 Try.underlying25 hi0 hz0 hz1 hz2 rfl (by decide) (.slice a N c) N (ib out) rfl (HO.out.alloc _) ⟨wr.heap.size, 0, none⟩ 1 1 [.int .i64 (k : Int)] rfl rfl (c1_one wr _ _) (c2_one _ rfl) (by decide) C3.out C4.out C5.out _ rfl ?_)
        intro g3 k3 w3 ho3 hg3 hat3 hlt3
        have hB3 : Below w.heap.size w w3 := (HBl.out.alloc hzr _).grown hg3 C5.out (fun q hq => ((HO.out.alloc (Obj.cells #[.int .i64 (k : Int)] 3)).lt q hq).1)
        have H3 := Lib.hid (And.intro ho3 hB3)
        clear ho3 hg3 hat3 hlt3 hB3
        go_wp2_with fail
        go_roundw
        case rel => exact ⟨k + m, out ++ [k], some ⟨g3, 0, none⟩, k3, by rw [List.length_append, HN.out]; rfl, by congr 1 <;> omega, hkm, by rw [List.append_assoc]; have h1 := HQ.out; rw [HE.out, HM.out] at h1; exact h1, by rw [List.length_append, HN.out, ib_app]; exact H3.out.1, H3.out.2⟩
        case measure => simp [intOf]; omega
    · have dk : decide (k < L) = false := decide_eq_false hlt
      obtain rfl : k = L := by omega
      have hend := HQ.out
      rw [apf_end (by rw [HL.out]; exact Nat.le_refl _), List.append_nil] at hend
      have HEn := Lib.hid hend
      clear hend
      go_wp2_with fail
      go_ret
      exact ⟨a, c, by rw [← HEn.out, HN.out] <;> rfl, by rw [← HEn.out, HN.out]; exact HO.out, HBl.out⟩

set_option maxRecDepth 100000 in
set_option maxHeartbeats 2000000 in
theorem rfirst_of {w : World} (b p : List UInt8) (I : Int) {L m : Nat} (hL : b.length = L) (hm : p.length = m) (hl : L ≤ 100000) (hml : m ≤ 100000) :
    Calls Try.prog 12 #[.string (strOf b), .string (strOf p), .int .i64 I] w fun e w' => e = .returned (.int .i64 (fstL I (allOf p b))) ∧ Below w.heap.size w w' := by
  have HE := Lib.hid (revery_of (w := w) b p hL hm hl hml)
  have hNl : (allOf p b).length ≤ L := by have := all_len p b; omega
  obtain ⟨A, hA⟩ : ∃ A, allOf p b = A := ⟨_, rfl⟩
  rw [hA] at HE hNl ⊢
  generalize strOf b = B at *
  generalize strOf p = P at *
  clear hm hL hA
  go_enter Try.func12, Try.ntmps12
  go_wp2_with fail
  refine HE.out.mono ?_; rintro e w1 ⟨a, c, rfl, ho, hb1⟩
  have HO := Lib.hid (t_rd ho)
  have HB1 := Lib.hid hb1
  obtain ⟨N, hN⟩ : ∃ N, A.length = N := ⟨_, rfl⟩
  have HN := Lib.hid hN
  rw [hN] at HO hNl ⊢
  clear ho hb1 hN HE
  go_wp2_with fail
  go_loopw [13] (fun v13 wr => ∃ k : Nat, v13 = .int .i64 (k : Int) ∧ k ≤ N ∧ (∀ i y, i < k → A[i]? = some y → ¬ I ≤ ((y : Nat) : Int)) ∧ Below w1.heap.size w1 wr) (fun v13 _ => N - (intOf v13).toNat)
  case atStart => exact ⟨0, rfl, Nat.zero_le _, fun i y h => by omega, Below.refl _ _⟩
  case round =>
    obtain ⟨k, rfl, hk, hno, hb⟩ := hrel
    have HNO := Lib.hid hno
    have HBl := Lib.hid hb
    by_cases hlt : k < N
    · have dk : decide (k < N) = true := decide_eq_true hlt
      obtain ⟨x, hx⟩ : ∃ x, A[k]? = some x := ⟨_, List.getElem?_eq_getElem (by rw [HN.out]; exact hlt)⟩
      obtain ⟨g, o, rfl, hg, hc⟩ := rd_ib (by rw [HN.out]; exact HO.out.below hb) hx
      have e0 : (0 : Int) ≤ (k : Int) := by omega
      have e1 : (k : Int) < (N : Int) := by omega
      have HX := Lib.hid hx
      clear hx hb hno
      by_cases hI : I ≤ (x : Int)
      · have dx : decide (I ≤ (x : Int)) = true := decide_eq_true hI
        have HF := Lib.hid (fst_hit HX.out HNO.out hI)
        go_wp2_with fail
        go_ret
        exact ⟨by rw [HF.out]; rfl, HB1.out.trans (HBl.out.mono HB1.out.size)⟩
      · have dx : decide (I ≤ (x : Int)) = false := decide_eq_false hI
        have HI := Lib.hid hI
        clear hI
        go_wp2_with fail
        go_roundw
        case rel =>
          refine ⟨k + 1, by go_num, by omega, fun i y hi hy => ?_, HBl.out⟩
          by_cases hik : i = k
          · rw [hik, HX.out] at hy; injection hy with hy; rw [← hy]; have := HI.out; omega
          · have := HNO.out i y (by omega) hy; omega
        case measure => simp [intOf]; omega
    · have dk : decide (k < N) = false := decide_eq_false hlt
      obtain rfl : k = N := by omega
      have HF := Lib.hid (fst_miss (fun i y hy => HNO.out i y (by rw [← HN.out]; exact (List.getElem?_eq_some_iff.1 hy).1) hy))
      clear hb hno
      go_wp2_with fail
      go_ret
      exact ⟨by rw [HF.out]; rfl, HB1.out.trans (HBl.out.mono HB1.out.size)⟩

/-- The last place below a number, looked for through all. -/
def lstR (n : Int) (A : List Nat) : Int := A.foldl (fun (c : Int) (x : Nat) => if (x : Int) < n then (x : Int) else c) (-1)
theorem lst_fold {n : Int} : ∀ (A : List Nat) (c : Int), A.Pairwise (· < ·) → lstP n c A = A.foldl (fun (c : Int) (x : Nat) => if (x : Int) < n then (x : Int) else c) c
  | [], c, _ => rfl
  | x :: A, c, h => by
    rw [List.pairwise_cons] at h
    rw [List.foldl_cons]
    show (if n ≤ (x : Int) then c else lstP n (x : Int) A) = _
    by_cases hx : n ≤ (x : Int)
    · rw [if_pos hx, if_neg (by omega)]
      have key : ∀ (l : List Nat), (∀ y ∈ l, n ≤ (y : Int)) → l.foldl (fun (c : Int) (x : Nat) => if (x : Int) < n then (x : Int) else c) c = c := by
        intro l
        induction l with
        | nil => intro _; rfl
        | cons y l ih =>
          intro hl
          rw [List.foldl_cons, if_neg (by have := hl y List.mem_cons_self; omega)]
          exact ih (fun z hz => hl z (List.mem_cons_of_mem _ hz))
      exact (key A (fun y hy => by have := h.1 y hy; omega)).symm
    · rw [if_neg hx, if_pos (by omega), lst_fold A _ h.2]
theorem all_up (p b : List UInt8) : (allOf p b).Pairwise (· < ·) := by
  rw [all_eq]
  exact List.Pairwise.filter _ List.pairwise_lt_range
theorem lst_eq (n : Int) (p b : List UInt8) : lstP n (-1) (allOf p b) = lstR n (allOf p b) := lst_fold _ _ (all_up p b)

set_option maxRecDepth 100000 in
set_option maxHeartbeats 2000000 in
theorem rlast_of {w : World} (b p : List UInt8) (I : Int) {L m : Nat} (hL : b.length = L) (hm : p.length = m) (hl : L ≤ 100000) (hml : m ≤ 100000) :
    Calls Try.prog 14 #[.string (strOf b), .string (strOf p), .int .i64 I] w fun e w' => e = .returned (.int .i64 (lstR I (allOf p b))) ∧ Below w.heap.size w w' := by
  have HE := Lib.hid (revery_of (w := w) b p hL hm hl hml)
  have hNl : (allOf p b).length ≤ L := by have := all_len p b; omega
  obtain ⟨A, hA⟩ : ∃ A, allOf p b = A := ⟨_, rfl⟩
  rw [hA] at HE hNl ⊢
  generalize strOf b = B at *
  generalize strOf p = P at *
  clear hm hL hA
  go_enter Try.func14, Try.ntmps14
  go_wp2_with fail
  refine HE.out.mono ?_; rintro e w1 ⟨a, c, rfl, ho, hb1⟩
  have HO := Lib.hid (t_rd ho)
  have HB1 := Lib.hid hb1
  obtain ⟨N, hN⟩ : ∃ N, A.length = N := ⟨_, rfl⟩
  have HN := Lib.hid hN
  rw [hN] at HO hNl ⊢
  clear ho hb1 hN HE
  go_wp2_with fail
  go_loopw [7, 14] (fun v7 v14 wr => ∃ (k : Nat) (cur : Int), v7 = .int .i64 cur ∧ v14 = .int .i64 (k : Int) ∧ k ≤ N ∧ cur = lstR I (A.take k) ∧ Below w1.heap.size w1 wr) (fun _ v14 _ => N - (intOf v14).toNat)
  case atStart => exact ⟨0, -1, rfl, rfl, Nat.zero_le _, rfl, Below.refl _ _⟩
  case round =>
    obtain ⟨k, cur, rfl, rfl, hk, hc0, hb⟩ := hrel
    have HC := Lib.hid hc0
    have HBl := Lib.hid hb
    by_cases hlt : k < N
    · have dk : decide (k < N) = true := decide_eq_true hlt
      obtain ⟨x, hx⟩ : ∃ x, A[k]? = some x := ⟨_, List.getElem?_eq_getElem (by rw [HN.out]; exact hlt)⟩
      obtain ⟨g, o, rfl, hg, hc⟩ := rd_ib (by rw [HN.out]; exact HO.out.below hb) hx
      have e0 : (0 : Int) ≤ (k : Int) := by omega
      have e1 : (k : Int) < (N : Int) := by omega
      have HS : Hid (lstR I (A.take (k + 1)) = if (x : Int) < I then (x : Int) else lstR I (A.take k)) := by
        show _ = _
        unfold lstR
        rw [List.take_add_one, hx]
        show (A.take k ++ [x]).foldl _ _ = _
        rw [List.foldl_append]; rfl
      clear hx hb hc0
      by_cases hI : (x : Int) < I
      · have dx : decide ((x : Int) < I) = true := decide_eq_true hI
        have HS2 : Hid (lstR I (A.take (k + 1)) = (x : Int)) := by show _ = _; rw [HS.out, if_pos hI]
        go_wp2_with fail
        go_roundw
        case rel => exact ⟨k + 1, (x : Int), rfl, by go_num, by omega, HS2.out.symm, HBl.out⟩
        case measure => simp [intOf]; omega
      · have dx : decide ((x : Int) < I) = false := decide_eq_false hI
        have HS2 : Hid (lstR I (A.take (k + 1)) = cur) := by show _ = _; rw [HS.out, if_neg hI, HC.out]
        go_wp2_with fail
        go_roundw
        case rel => exact ⟨k + 1, cur, rfl, by go_num, by omega, HS2.out.symm, HBl.out⟩
        case measure => simp [intOf]; omega
    · have dk : decide (k < N) = false := decide_eq_false hlt
      obtain rfl : k = N := by omega
      have HF : Hid (lstR I A = cur) := by show _ = _; rw [HC.out, List.take_of_length_le (by rw [HN.out]; exact Nat.le_refl _)]
      clear hb hc0
      go_wp2_with fail
      go_ret
      exact ⟨by rw [HF.out]; rfl, HB1.out.trans (HBl.out.mono HB1.out.size)⟩

end Go.Proofs.Ytkgakgceamafcaa
