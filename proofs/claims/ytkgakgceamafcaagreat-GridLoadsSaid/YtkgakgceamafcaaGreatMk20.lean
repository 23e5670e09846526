/-
  Texts of this seat, put together (a claim holds few texts): GdC, GdD.
-/
import Derived.Test.YtkgakgceamafcaaGreatMk19

namespace Go.Proofs.YtkgakgceamafcaaGreat
open Go Go.RowKit Go.Shelf
set_option linter.unusedVariables false

/-- What is wrong with a row. -/
def rEr (r : Rw) : Int := if 40 < r.fs.length then 6 else if r.fs.any (fun f => decide (400 < f.pl.length)) then 7 else 0
theorem rEr6 {r : Rw} (h : 40 < r.fs.length) : rEr r = 6 := by unfold rEr; rw [if_pos h]
theorem rEr7 {r : Rw} (h : r.fs.length ≤ 40) (h2 : ∃ f ∈ r.fs, longF f) : rEr r = 7 := by
  unfold rEr
  rw [if_neg (by omega), if_pos]
  obtain ⟨f, h3, h4⟩ := h2
  rw [List.any_eq_true]
  exact ⟨f, h3, decide_eq_true (show 400 < f.pl.length from h4)⟩
theorem rEr0 {r : Rw} (h : r.fs.length ≤ 40) (h2 : ∀ f ∈ r.fs, ¬ longF f) : rEr r = 0 := by
  unfold rEr
  rw [if_neg (by omega), if_neg]
  rw [List.any_eq_true]
  rintro ⟨f, h3, h4⟩
  exact h2 f h3 (show 400 < f.pl.length from of_decide_eq_true h4)
/-- What is wrong with the first wrong row. -/
def fstEr : List Rw → Int
  | [] => 0
  | r :: l => if rEr r = 0 then fstEr l else rEr r
theorem fstEr_ok : ∀ {R : List Rw}, (∀ r ∈ R, rEr r = 0) → fstEr R = 0
  | [], _ => rfl
  | r :: l, h => by
    show (if rEr r = 0 then fstEr l else rEr r) = 0
    rw [if_pos (h r List.mem_cons_self)]
    exact fstEr_ok fun x hx => h x (List.mem_cons_of_mem _ hx)
theorem fstEr_bad : ∀ {R : List Rw} {k : Nat} {r : Rw}, (∀ x ∈ R.take k, rEr x = 0) → R[k]? = some r → rEr r ≠ 0 → fstEr R = rEr r
  | [], k, r, _, h, _ => by simp at h
  | q :: l, 0, r, _, h, h0 => by
    cases h
    show (if rEr q = 0 then fstEr l else rEr q) = _
    rw [if_neg h0]
  | q :: l, k + 1, r, hk, h, h0 => by
    show (if rEr q = 0 then fstEr l else rEr q) = _
    rw [if_pos (hk q (by simp))]
    exact fstEr_bad (fun x hx => hk x (by simp [hx])) h h0
/-- What is wrong with a file. -/
def glEr (l : List UInt8) : Int := if 4096 < l.length then 8 else if 400 < (allP l 0).length then 6 else fstEr (allP l 0)
/-- What Load tells of a file that is refused. -/
def GlNo (k : Int) (w : World) (e : Ending) (w' : World) : Prop := ∃ p B, e = .returned (.tuple #[.agg #[.pointer none, .bool false, .int .i64 2], .pointer (some ⟨p, 0, none⟩), .int .i64 k]) ∧ Ar w' B p [] ∧ Below w.heap.size w w'

theorem rd_nil (w : World) : Rd w 1 none ([] : List UInt8).length (bc []) := ⟨rfl, fun h => absurd h (by simp)⟩

set_option maxRecDepth 100000 in
theorem nothing_of (k : Int) (w : World) : Calls Tryz.prog 43 #[.int .i64 k] w (GlNo k w) := by
  have al0 := t_al w (Obj.cells #[.pointer none, .bool false, .int .i64 0] 27)
  have hh0 := heap_alloc_new w (Obj.cells #[.pointer none, .bool false, .int .i64 0] 27)
  obtain ⟨w1, hw1⟩ : ∃ w1, w.alloc (Obj.cells #[.pointer none, .bool false, .int .i64 0] 27) = w1 := ⟨_, rfl⟩
  have hsz1 : (w.alloc (Obj.cells #[.pointer none, .bool false, .int .i64 0] 27)).heap.size = w.heap.size + 1 := by simp
  rw [hw1] at al0 hh0 hsz1
  have HNew := Lib.hid (new_of (t := []) none 0 (rd_nil w1) (by decide))
  have HAL := Lib.hid al0
  have HH := Lib.hid hh0
  have HW := Lib.hid hw1
  have HSZ := Lib.hid hsz1
  clear al0 hh0 hw1 hsz1
  go_enter Tryz.func43, Tryz.ntmps43
  go_upto_region 1 with fail
  rw [HW.out]
  go_wp2_with fail
  refine HNew.out.mono ?_; rintro e w2 ⟨p, rfl, hAr, hb2⟩
  have hbox := (hb2.block w.heap.size (by have := HSZ.out; omega)).trans HH.out
  have zz := fun i => unfrozen hbox i
  have r0 : w2.cell? ⟨w.heap.size, 0, none⟩ = some (.pointer none) := (cell_at hbox 0).trans rfl
  have r1 : w2.cell? ⟨w.heap.size, 1, none⟩ = some (.bool false) := (cell_at hbox 1).trans rfl
  have r2 : w2.cell? ⟨w.heap.size, 2, none⟩ = some (.int .i64 0) := (cell_at hbox 2).trans rfl
  have HX := Lib.hid (And.intro hAr (And.intro (HAL.out.trans (hb2.mono HAL.out.size)) hbox))
  clear hAr hb2 hbox HNew
  go_wp2_with fail
  have hbox := HX.out.2.2
  have h1 := heap_set_at (o := 0) (u := .pointer none) hbox
  have h2 := heap_set_at (o := 1) (u := Value.bool false) h1
  have h3 := heap_set_at (o := 2) (u := Value.int .i64 2) h2
  have hA7 := ((HX.out.1.set (o := 0) (u := .pointer none) hbox (by decide) (by decide)).set (o := 1) (u := Value.bool false) h1 (by decide) (by decide)).set (o := 2) (u := Value.int .i64 2) h2 (by decide) (by decide)
  have hB7 := ((HX.out.2.1.setCell (p := ⟨w.heap.size, 0, none⟩) (Nat.le_refl _) (.pointer none)).setCell (p := ⟨w.heap.size, 1, none⟩) (Nat.le_refl _) (Value.bool false)).setCell (p := ⟨w.heap.size, 2, none⟩) (Nat.le_refl _) (Value.int .i64 2)
  generalize ((w2.setCell ⟨w.heap.size, 0, none⟩ (.pointer none)).setCell ⟨w.heap.size, 1, none⟩ (Value.bool false)).setCell ⟨w.heap.size, 2, none⟩ (Value.int .i64 2) = w7 at *
  have s0 : w7.cell? ⟨w.heap.size, 0, none⟩ = some (.pointer none) := (cell_at h3 0).trans rfl
  have s1 : w7.cell? ⟨w.heap.size, 1, none⟩ = some (.bool false) := (cell_at h3 1).trans rfl
  have s2 : w7.cell? ⟨w.heap.size, 2, none⟩ = some (.int .i64 2) := (cell_at h3 2).trans rfl
  exact bodyPost_ret (v := .tuple #[.agg #[.pointer none, .bool false, .int .i64 2], .pointer (some ⟨p, 0, none⟩), .int .i64 k]) (by simp [results, Tryz.results43, go_sem, s0, s1, s2]) rfl ⟨p, _, rfl, hA7, hB7⟩

/-- Load's leaving with nothing: the box of the result lies at b. -/
theorem no_box {w w2 : World} {b p B : Nat} {k : Int} {Q : Value → World → Prop} (hbox : w2.heap[b]? = some (.cells #[.pointer none, .bool false, .int .i64 0] 27 (0, 0))) (hA : Ar w2 B p []) (hB : Below w.heap.size w w2) (hwb : w.heap.size ≤ b) :
    let w7 := ((w2.setCell ⟨b, 0, none⟩ (.pointer none)).setCell ⟨b, 1, none⟩ (Value.bool false)).setCell ⟨b, 2, none⟩ (Value.int .i64 2)
    (w7.cell? ⟨b, 0, none⟩ = some (.pointer none) ∧ w7.cell? ⟨b, 1, none⟩ = some (.bool false) ∧ w7.cell? ⟨b, 2, none⟩ = some (.int .i64 2)) ∧ Ar w7 B p [] ∧ Below w.heap.size w w7 := by
  have h1 := heap_set_at (o := 0) (u := .pointer none) hbox
  have h2 := heap_set_at (o := 1) (u := Value.bool false) h1
  have h3 := heap_set_at (o := 2) (u := Value.int .i64 2) h2
  exact ⟨⟨(cell_at h3 0).trans rfl, (cell_at h3 1).trans rfl, (cell_at h3 2).trans rfl⟩, ((hA.set (o := 0) (u := .pointer none) hbox (by decide) (by decide)).set (o := 1) (u := Value.bool false) h1 (by decide) (by decide)).set (o := 2) (u := Value.int .i64 2) h2 (by decide) (by decide),
    ((hB.setCell (p := ⟨b, 0, none⟩) hwb (.pointer none)).setCell (p := ⟨b, 1, none⟩) hwb (Value.bool false)).setCell (p := ⟨b, 2, none⟩) hwb (Value.int .i64 2)⟩

set_option maxRecDepth 100000 in
set_option maxHeartbeats 4000000 in
theorem gload_big {w : World} {a : Option Addr} {N c : Nat} (hm : N ≤ maxLen) (h : 4096 < N) : Calls Tryz.prog 10 #[.slice a N c] w (GlNo 8 w) := by
  have al0 := t_al w (Obj.cells #[.pointer none, .bool false, .int .i64 0] 27)
  have hh0 := heap_alloc_new w (Obj.cells #[.pointer none, .bool false, .int .i64 0] 27)
  obtain ⟨w1, hw1⟩ : ∃ w1, w.alloc (Obj.cells #[.pointer none, .bool false, .int .i64 0] 27) = w1 := ⟨_, rfl⟩
  have hsz1 : (w.alloc (Obj.cells #[.pointer none, .bool false, .int .i64 0] 27)).heap.size = w.heap.size + 1 := by simp
  rw [hw1] at al0 hh0 hsz1
  have HNew := Lib.hid (new_big a N c w1 hm h)
  have HNo := Lib.hid (nothing_of 8 w1)
  have HAL := Lib.hid al0
  have HH := Lib.hid hh0
  have HW := Lib.hid hw1
  have HSZ := Lib.hid hsz1
  clear al0 hh0 hw1 hsz1 hm h
  go_enter Tryz.func10, Tryz.ntmps10
  go_upto_region 1 with fail
  rw [HW.out]
  go_wp2_with fail
  refine HNew.out.mono ?_; rintro e w2 ⟨rfl, rfl⟩
  go_wp2_with fail
  refine HNo.out.mono ?_; rintro e wz ⟨p, Bz, rfl, hAr, hbz⟩
  have hbox := (hbz.block w.heap.size (by have := HSZ.out; omega)).trans HH.out
  have zz := fun i => unfrozen hbox i
  have r0 : wz.cell? ⟨w.heap.size, 0, none⟩ = some (.pointer none) := (cell_at hbox 0).trans rfl
  have r1 : wz.cell? ⟨w.heap.size, 1, none⟩ = some (.bool false) := (cell_at hbox 1).trans rfl
  have r2 : wz.cell? ⟨w.heap.size, 2, none⟩ = some (.int .i64 0) := (cell_at hbox 2).trans rfl
  have HX := Lib.hid (no_box (Q := fun _ _ => True) (k := 0) hbox hAr (HAL.out.trans (hbz.mono HAL.out.size)) (Nat.le_refl _))
  clear hAr hbz hbox HNo
  go_wp2_with fail
  obtain ⟨⟨s0, s1, s2⟩, hA7, hB7⟩ := HX.out
  exact bodyPost_ret (v := .tuple #[.agg #[.pointer none, .bool false, .int .i64 2], .pointer (some ⟨p, 0, none⟩), .int .i64 8]) (by simp [results, Tryz.results10, go_sem, s0, s1, s2]) rfl ⟨p, Bz, rfl, hA7, hB7⟩

end Go.Proofs.YtkgakgceamafcaaGreat

namespace Go.Proofs.YtkgakgceamafcaaGreat
open Go Go.RowKit Go.Shelf
set_option linter.unusedVariables false

/-- What Load's loop keeps. -/
def LgK (l : List UInt8) (R : List Rw) (w2 : World) (g n : Nat) (v6 v37 : Value) (wr : World) : Prop :=
  ∃ (k : Nat) (Ls : List R3) (Cs : List (List CelM)), v6 = .int .i64 0 ∧ v37 = .int .i64 (k : Int) ∧ k ≤ n ∧ Ls.length = k ∧ wr.heap[g]? = some (.cells (cs3 (rws (Ls ++ List.replicate (n - k) zR))).toArray 103 (0, 0)) ∧ GrIn wr l Ls Cs ∧ FileOf Ls Cs R ∧ Below w2.heap.size w2 wr ∧ ∀ r ∈ R.take k, rEr r = 0

set_option maxRecDepth 100000 in
set_option maxHeartbeats 4000000 in
theorem gload_few {w : World} {l : List UInt8} {a : Option Addr} {N c n : Nat} (hrd : Rd w 1 a l.length (bc l)) (hN : l.length = N) (hl : N ≤ 4096) (hlc : N ≤ c) (hc : c ≤ maxLen) (hn : (allP l 0).length = n) (hn4 : n ≤ 400) :
    Calls Tryz.prog 10 #[.slice a N c] w fun e w' => (fstEr (allP l 0) ≠ 0 ∧ GlNo (fstEr (allP l 0)) w e w') ∨ fstEr (allP l 0) = 0 ∧ ∃ (px : Option Addr) (p : Nat) (Ls : List R3) (Cs : List (List CelM)), e = .returned (.tuple #[.agg #[.pointer px, .bool (tailP (allP l 0)), .int .i64 (frsP (allP l 0))], .pointer (some ⟨p, 0, none⟩), .int .i64 0]) ∧
      Tin w' 194 (.pointer px) (rws Ls) ∧ Ls.length = n ∧ GrIn w' l Ls Cs ∧ FileOf Ls Cs (allP l 0) ∧ Ar w' (w.heap.size + 1) p l ∧ Below w.heap.size w w' := by
  obtain ⟨i0, hi0, hz0, hz1, hz2⟩ := info_parts info_rw
  have hh0 := heap_alloc_new w (Obj.cells #[.pointer none, .bool false, .int .i64 0] 27)
  have al0 := t_al w (Obj.cells #[.pointer none, .bool false, .int .i64 0] 27)
  obtain ⟨w1, hw1⟩ : ∃ w1, w.alloc (Obj.cells #[.pointer none, .bool false, .int .i64 0] 27) = w1 := ⟨_, rfl⟩
  have hsz1 : (w.alloc (Obj.cells #[.pointer none, .bool false, .int .i64 0] 27)).heap.size = w.heap.size + 1 := by simp
  rw [hw1] at hh0 al0 hsz1
  have HNew := Lib.hid (new_of (t := l) a c (hrd.below al0) (by rw [hN]; exact hl))
  rw [hN] at HNew
  have HRd := Lib.hid (hrd.below al0)
  have HN := Lib.hid hN
  have HNn := Lib.hid hn
  have HH0 := Lib.hid hh0
  have HAL0 := Lib.hid al0
  have HSZ1 := Lib.hid hsz1
  obtain ⟨R, hR⟩ : ∃ R, allP l 0 = R := ⟨_, rfl⟩
  have HRR := Lib.hid hR
  rw [hR] at HNn ⊢
  clear hrd hN hn hh0 al0 hsz1 hR
  go_enter Tryz.func10, Tryz.ntmps10
  go_wp2_with fail
  refine HNew.out.mono ?_; rintro e w2 ⟨p, rfl, hAr, hb2⟩
  have HAr := Lib.hid hAr
  have HB2 := Lib.hid hb2
  have HAll := Lib.hid (all_of (c := c) (HRd.out.below hb2) (by rw [HN.out]; omega) (by rw [HN.out]; exact hlc) hc)
  rw [HN.out, HRR.out] at HAll
  clear hAr hb2 HNew hw1
  go_wp2_with fail
  refine HAll.out.mono ?_; rintro e w3 ⟨rs, a4, c4, rfl, hm, ho, hi, hb3⟩
  have hrl : rs.length = n := by rw [← HNn.out, ← hm, List.length_map]
  have HRS := Lib.hid hrl
  rw [hrl] at ho ⊢
  have HM := Lib.hid hm
  have HO := Lib.hid ho
  have HI := Lib.hid hi
  have HB3 := Lib.hid (HB2.out.trans (hb3.mono HB2.out.size))
  have HAr3 := Lib.hid (HAr.out.below hb3)
  have d4 : decide ((400 : Int) < (n : Int)) = false := decide_eq_false (by omega)
  have d4' : decide (400 < n) = false := decide_eq_false (by omega)
  clear hm ho hi hb3 hrl HAll HAr
  go_wp2_with (at_make; refine wpList_make_full _ rfl _ _ 98 rfl w3.heap.size 103 i0 (.agg #[.slice none 0 0, .int .i64 0, .bool false]) 3 Tryz.underlying98 hi0 hz0 hz1 .i64 .i64 _ _ n rfl rfl rfl rfl ?b2 ?b3 ?b4 ?_)
  case b2 => rw [hz2]; omega
  case b3 => unfold maxLen; omega
  case b4 => omega
  intro w4 hown hgrow
  rw [show (madeCells #[Value.slice none 0 0, .int .i64 0, .bool false] (n * 3)).toList = cs3 (rws (List.replicate n zR)) from made_rows n] at hown
  obtain ⟨hg4, _⟩ := own_whole hown
  have hb4 := (Below.refl w3.heap.size w3).grown hgrow (Nat.le_refl _) (by simp)
  obtain ⟨g, hgg⟩ : ∃ g, w3.heap.size = g := ⟨_, rfl⟩
  have HGG := Lib.hid hgg
  rw [hgg] at hg4 ⊢
  have HG4 := Lib.hid hg4
  have HB4 := Lib.hid hb4
  clear hown hgrow hg4 hb4
  go_wp2_with fail
  go_loopw [6, 37] (fun v6 v37 wr => LgK l R w3 g n v6 v37 wr) (fun _ v37 _ => n - (intOf v37).toNat)
  case atStart => exact ⟨0, [], [], rfl, rfl, Nat.zero_le _, rfl, HG4.out, ⟨rfl, fun k r ms h => by simp at h⟩, fun k r ms q h => by simp at h, HB4.out, fun r hr => by simp at hr⟩
  case round =>
    obtain ⟨k, Ls, Cs, rfl, rfl, hk, hkl, hblk, hgr, hfo, hb, hgd⟩ := hrel
    have HGD := Lib.hid hgd
    have HKL := Lib.hid hkl
    have HBlk := Lib.hid hblk
    have HGr := Lib.hid hgr
    have HFo := Lib.hid hfo
    have HB := Lib.hid hb
    have hzr := hb.size
    have HLen := Lib.hid hgr.len
    clear hblk hgr hfo hkl hgd
    by_cases hlt : k < n
    · have dk : decide (k < n) = true := decide_eq_true hlt
      have hkr : k < rs.length := by rw [HRS.out]; exact hlt
      have hrk : rs[k]? = some rs[k] := List.getElem?_eq_getElem hkr
      rcases own_form HO.out with ⟨_, h0⟩ | ⟨ga, hga, _, hga2⟩
      · omega
      subst hga
      have hRk : R[k]? = some rs[k].1 := by rw [← HM.out, List.getElem?_map, hrk]; rfl
      have hri := HI.out rs[k] (List.getElem_mem hkr)
      have p0 := (hb.cell (p := ⟨ga, k * 2 + 0, none⟩) hga2).trans (own_cells HO.out ((rwC_at rs k rs[k] 0 hrk (by omega)).trans rfl))
      have p1 := (hb.cell (p := ⟨ga, k * 2 + 1, none⟩) hga2).trans (own_cells HO.out ((rwC_at rs k rs[k] 1 hrk (by omega)).trans rfl))
      rw [Nat.add_zero] at p0
      generalize rs[k] = P at *
      obtain ⟨Q, ps, pa, pc⟩ := P
      simp only at hRk p0 p1
      have hpl : ps.length = Q.fs.length := by rw [← hri.fs]; simp
      have hmem : Q ∈ allP l 0 := by rw [HRR.out]; exact List.mem_of_getElem? hRk
      have hrf := row_fields hmem
      obtain ⟨m, hm⟩ : ∃ m, ps.length = m := ⟨_, rfl⟩
      rw [hm] at p0 hpl
      have e0 : (0 : Int) ≤ (k : Int) := by omega
      have e1 : (k : Int) < (n : Int) := by omega
      have al := t_al wr (Obj.cells #[.slice pa m pc, .int .i64 Q.fin] 101)
      have hh := heap_alloc_new wr (Obj.cells #[.slice pa m pc, .int .i64 Q.fin] 101)
      have HLd := Lib.hid (rload_of (l := l) ((hri.below hb).below al) (fun f hf => hrf.2 f hf) (by rw [HN.out]; omega) (by have := hrf.1; have := HN.out; omega))
      rw [← hpl] at HLd
      have HRk := Lib.hid (And.intro hRk hpl)
      have hgr' : g < wr.heap.size := lt_of_heap HBlk.out
      clear hri hrf hmem hRk hpl hm hrk hkr hlc
      generalize hfin : Q.fin = fin at *
      have HFIN := Lib.hid hfin
      clear hfin
      go_upto_region 11 with fail
      generalize wr.alloc (Obj.cells #[.slice pa m pc, .int .i64 fin] 101) = w5 at *
      have q0 : w5.cell? ⟨wr.heap.size, 0, none⟩ = some (.slice pa m pc) := (cell_at hh 0).trans rfl
      have q1 : w5.cell? ⟨wr.heap.size, 1, none⟩ = some (.int .i64 fin) := (cell_at hh 1).trans rfl
      have HB5 := Lib.hid (HB.out.trans (al.mono hzr))
      have HG5 := Lib.hid ((al.block g hgr').trans HBlk.out)
      have HGr5 := Lib.hid (HGr.out.below al)
      clear al hh p0 p1 HBlk HGr hb
      go_wp2_with fail
      refine HLd.out.mono ?_; rintro e w6 hpost
      obtain ⟨hb6, h | h | h⟩ := hpost
      · have HBad : Hid (fstEr R = 6) := by
          have hq := rEr6 h.1
          exact Lib.hid ((fstEr_bad (fun x hx => HGD.out x hx) HRk.out.1 (by rw [hq]; decide)).trans hq)
        obtain rfl := h.2
        have HGx := Lib.hid ((hb6.block g (lt_of_heap HG5.out)).trans HG5.out)
        have HBx := Lib.hid (HB5.out.trans (hb6.mono HB5.out.size))
        obtain ⟨L, hL⟩ : ∃ L, Ls ++ List.replicate (n - k) zR = L := ⟨_, rfl⟩
        rw [hL] at HGx
        have hLk : L[k]? = some zR := by
          rw [← hL, List.getElem?_append_right (by rw [HKL.out]; exact Nat.le_refl _), HKL.out, Nat.sub_self, show n - k = (n - k - 1) + 1 by omega, List.replicate_succ]; rfl
        have hLr : (rws L)[k]? = some (r3V zR) := by unfold rws; rw [List.getElem?_map, hLk]; rfl
        have hbx := HGx.out
        have zz := fun i => unfrozen hbx i
        have y0 : w6.cell? ⟨g, k * 3, none⟩ = some (.slice none 0 0) := by rw [cell_at hbx, List.getElem?_toArray]; exact (cs3_at (rws_is L) hLr (j := 0) (by omega)).trans rfl
        have y1 : w6.cell? ⟨g, k * 3 + 1, none⟩ = some (.int .i64 0) := by rw [cell_at hbx, List.getElem?_toArray]; exact (cs3_at (rws_is L) hLr (j := 1) (by omega)).trans rfl
        have y2 : w6.cell? ⟨g, k * 3 + 2, none⟩ = some (.bool false) := by rw [cell_at hbx, List.getElem?_toArray]; exact (cs3_at (rws_is L) hLr (j := 2) (by omega)).trans rfl
        have hgw : w3.heap.size ≤ g := by rw [HGG.out]; exact Nat.le_refl _
        have hB7 := (((HBx.out.setCell (p := ⟨g, k * 3, none⟩) hgw (Value.slice none 0 0)).setCell (p := ⟨g, k * 3 + 1, none⟩) hgw (Value.int .i64 0)).setCell (p := ⟨g, k * 3 + 2, none⟩) hgw (Value.bool false))
        obtain ⟨wy, hwy⟩ : ∃ wy, ((w6.setCell ⟨g, k * 3, none⟩ (Value.slice none 0 0)).setCell ⟨g, k * 3 + 1, none⟩ (Value.int .i64 0)).setCell ⟨g, k * 3 + 2, none⟩ (Value.bool false) = wy := ⟨_, rfl⟩
        rw [hwy] at hB7
        have hbw3 := HAL0.out.trans (HB3.out.mono HAL0.out.size)
        have hbwy := hbw3.trans (hB7.mono hbw3.size)
        have HAL := Lib.hid hbwy
        have HH := Lib.hid ((hB7.block w.heap.size (by have := HB3.out.size; have := HSZ1.out; omega)).trans ((HB3.out.block w.heap.size (by have := HSZ1.out; omega)).trans HH0.out))
        have HSZ : Hid (w.heap.size < wy.heap.size) := lt_of_heap HH.out
        have HNo := Lib.hid (nothing_of 6 wy)
        have HWy := Lib.hid hwy
        clear hb6 hL hLk hLr hbx hB7 hbw3 hbwy hwy HLd HG5 HGr5 HB5 HGx HBx q0 q1 hgw hgr'
        go_wp2_with fail
        rw [HWy.out]
        refine HNo.out.mono ?_; rintro e wz ⟨p, Bz, rfl, hAr, hbz⟩
        have hbox := (hbz.block w.heap.size HSZ.out).trans HH.out
        have zz := fun i => unfrozen hbox i
        have r0 : wz.cell? ⟨w.heap.size, 0, none⟩ = some (.pointer none) := (cell_at hbox 0).trans rfl
        have r1 : wz.cell? ⟨w.heap.size, 1, none⟩ = some (.bool false) := (cell_at hbox 1).trans rfl
        have r2 : wz.cell? ⟨w.heap.size, 2, none⟩ = some (.int .i64 0) := (cell_at hbox 2).trans rfl
        have HX := Lib.hid (no_box (Q := fun _ _ => True) (k := 0) hbox hAr (HAL.out.trans (hbz.mono HAL.out.size)) (Nat.le_refl _))
        clear hAr hbz hbox HNo
        go_wp2_with fail
        obtain ⟨⟨s0, s1, s2⟩, hA7, hB7⟩ := HX.out
        exact bodyPost_ret (v := .tuple #[.agg #[.pointer none, .bool false, .int .i64 2], .pointer (some ⟨p, 0, none⟩), .int .i64 6]) (by simp [results, Tryz.results10, go_sem, s0, s1, s2]) rfl (Or.inl ⟨by rw [HBad.out]; decide, p, Bz, by rw [HBad.out], hA7, hB7⟩)
      · have HBad : Hid (fstEr R = 7) := by
          have hq := rEr7 h.1 h.2.1
          exact Lib.hid ((fstEr_bad (fun x hx => HGD.out x hx) HRk.out.1 (by rw [hq]; decide)).trans hq)
        obtain rfl := h.2.2
        have HGx := Lib.hid ((hb6.block g (lt_of_heap HG5.out)).trans HG5.out)
        have HBx := Lib.hid (HB5.out.trans (hb6.mono HB5.out.size))
        obtain ⟨L, hL⟩ : ∃ L, Ls ++ List.replicate (n - k) zR = L := ⟨_, rfl⟩
        rw [hL] at HGx
        have hLk : L[k]? = some zR := by
          rw [← hL, List.getElem?_append_right (by rw [HKL.out]; exact Nat.le_refl _), HKL.out, Nat.sub_self, show n - k = (n - k - 1) + 1 by omega, List.replicate_succ]; rfl
        have hLr : (rws L)[k]? = some (r3V zR) := by unfold rws; rw [List.getElem?_map, hLk]; rfl
        have hbx := HGx.out
        have zz := fun i => unfrozen hbx i
        have y0 : w6.cell? ⟨g, k * 3, none⟩ = some (.slice none 0 0) := by rw [cell_at hbx, List.getElem?_toArray]; exact (cs3_at (rws_is L) hLr (j := 0) (by omega)).trans rfl
        have y1 : w6.cell? ⟨g, k * 3 + 1, none⟩ = some (.int .i64 0) := by rw [cell_at hbx, List.getElem?_toArray]; exact (cs3_at (rws_is L) hLr (j := 1) (by omega)).trans rfl
        have y2 : w6.cell? ⟨g, k * 3 + 2, none⟩ = some (.bool false) := by rw [cell_at hbx, List.getElem?_toArray]; exact (cs3_at (rws_is L) hLr (j := 2) (by omega)).trans rfl
        have hgw : w3.heap.size ≤ g := by rw [HGG.out]; exact Nat.le_refl _
        have hB7 := (((HBx.out.setCell (p := ⟨g, k * 3, none⟩) hgw (Value.slice none 0 0)).setCell (p := ⟨g, k * 3 + 1, none⟩) hgw (Value.int .i64 0)).setCell (p := ⟨g, k * 3 + 2, none⟩) hgw (Value.bool false))
        obtain ⟨wy, hwy⟩ : ∃ wy, ((w6.setCell ⟨g, k * 3, none⟩ (Value.slice none 0 0)).setCell ⟨g, k * 3 + 1, none⟩ (Value.int .i64 0)).setCell ⟨g, k * 3 + 2, none⟩ (Value.bool false) = wy := ⟨_, rfl⟩
        rw [hwy] at hB7
        have hbw3 := HAL0.out.trans (HB3.out.mono HAL0.out.size)
        have hbwy := hbw3.trans (hB7.mono hbw3.size)
        have HAL := Lib.hid hbwy
        have HH := Lib.hid ((hB7.block w.heap.size (by have := HB3.out.size; have := HSZ1.out; omega)).trans ((HB3.out.block w.heap.size (by have := HSZ1.out; omega)).trans HH0.out))
        have HSZ : Hid (w.heap.size < wy.heap.size) := lt_of_heap HH.out
        have HNo := Lib.hid (nothing_of 7 wy)
        have HWy := Lib.hid hwy
        clear hb6 hL hLk hLr hbx hB7 hbw3 hbwy hwy HLd HG5 HGr5 HB5 HGx HBx q0 q1 hgw hgr'
        go_wp2_with fail
        rw [HWy.out]
        refine HNo.out.mono ?_; rintro e wz ⟨p, Bz, rfl, hAr, hbz⟩
        have hbox := (hbz.block w.heap.size HSZ.out).trans HH.out
        have zz := fun i => unfrozen hbox i
        have r0 : wz.cell? ⟨w.heap.size, 0, none⟩ = some (.pointer none) := (cell_at hbox 0).trans rfl
        have r1 : wz.cell? ⟨w.heap.size, 1, none⟩ = some (.bool false) := (cell_at hbox 1).trans rfl
        have r2 : wz.cell? ⟨w.heap.size, 2, none⟩ = some (.int .i64 0) := (cell_at hbox 2).trans rfl
        have HX := Lib.hid (no_box (Q := fun _ _ => True) (k := 0) hbox hAr (HAL.out.trans (hbz.mono HAL.out.size)) (Nat.le_refl _))
        clear hAr hbz hbox HNo
        go_wp2_with fail
        obtain ⟨⟨s0, s1, s2⟩, hA7, hB7⟩ := HX.out
        exact bodyPost_ret (v := .tuple #[.agg #[.pointer none, .bool false, .int .i64 2], .pointer (some ⟨p, 0, none⟩), .int .i64 7]) (by simp [results, Tryz.results10, go_sem, s0, s1, s2]) rfl (Or.inl ⟨by rw [HBad.out]; decide, p, Bz, by rw [HBad.out], hA7, hB7⟩)
      have HQ0 := Lib.hid (rEr0 h.1 h.2.1)
      obtain ⟨_, _, a', c', Ms, rfl, hkey, hro, hcl, hcn⟩ := h
      rw [HFIN.out]
      have HG6 := Lib.hid ((hb6.block g (lt_of_heap HG5.out)).trans HG5.out)
      have HGr6 := Lib.hid (HGr5.out.below hb6)
      have HB6 := Lib.hid (HB5.out.trans (hb6.mono HB5.out.size))
      have HRo := Lib.hid hro
      have HKey := Lib.hid hkey
      obtain ⟨mm, hmm⟩ : ∃ mm, Ms.length = mm := ⟨_, rfl⟩
      have HMM := Lib.hid hmm
      rw [hmm]
      obtain ⟨L, hL⟩ : ∃ L, Ls ++ List.replicate (n - k) zR = L := ⟨_, rfl⟩
      rw [hL] at HG6
      have hLk : L[k]? = some zR := by
        rw [← hL, List.getElem?_append_right (by rw [HKL.out]; exact Nat.le_refl _), HKL.out, Nat.sub_self, show n - k = (n - k - 1) + 1 by omega, List.replicate_succ]; rfl
      have hLr : (rws L)[k]? = some (r3V zR) := by unfold rws; rw [List.getElem?_map, hLk]; rfl
      have hLl : k < L.length := (List.getElem?_eq_some_iff.1 hLk).1
      have hbx := HG6.out
      have zz := fun i => unfrozen hbx i
      have y0 : w6.cell? ⟨g, k * 3, none⟩ = some (.slice none 0 0) := by rw [cell_at hbx, List.getElem?_toArray]; exact (cs3_at (rws_is L) hLr (j := 0) (by omega)).trans rfl
      have y1 : w6.cell? ⟨g, k * 3 + 1, none⟩ = some (.int .i64 0) := by rw [cell_at hbx, List.getElem?_toArray]; exact (cs3_at (rws_is L) hLr (j := 1) (by omega)).trans rfl
      have y2 : w6.cell? ⟨g, k * 3 + 2, none⟩ = some (.bool false) := by rw [cell_at hbx, List.getElem?_toArray]; exact (cs3_at (rws_is L) hLr (j := 2) (by omega)).trans rfl
      have hset := heap_set_at (o := k * 3 + 2) (u := Value.bool false) (heap_set_at (o := k * 3 + 1) (u := Value.int .i64 fin) (heap_set_at (o := k * 3) (u := Value.slice a' mm c') HG6.out))
      have hs3 := cs3_set hLl ⟨a', mm, c', fin, false⟩
      simp only at hs3
      rw [hs3] at hset
      have hLs : L.set k ⟨a', mm, c', fin, false⟩ = (Ls ++ [⟨a', mm, c', fin, false⟩]) ++ List.replicate (n - (k + 1)) zR := by
        rw [← hL, List.set_append, if_neg (by rw [HKL.out]; omega), HKL.out, Nat.sub_self, show n - k = (n - (k + 1)) + 1 by omega, List.replicate_succ, List.set_cons_zero]
        simp
      rw [hLs] at hset
      have HSet := Lib.hid hset
      have HGr7 := Lib.hid (((HGr6.out.setT (o := k * 3) (u := Value.slice a' mm c') HG6.out (by decide) (by decide)).setT (o := k * 3 + 1) (u := Value.int .i64 fin) (heap_set_at HG6.out) (by decide) (by decide)).setT (o := k * 3 + 2) (u := Value.bool false) (heap_set_at (heap_set_at HG6.out)) (by decide) (by decide))
      have HRo7 := Lib.hid (((HRo.out.setT (o := k * 3) (u := Value.slice a' mm c') HG6.out (by decide) (by decide)).setT (o := k * 3 + 1) (u := Value.int .i64 fin) (heap_set_at HG6.out) (by decide) (by decide)).setT (o := k * 3 + 2) (u := Value.bool false) (heap_set_at (heap_set_at HG6.out)) (by decide) (by decide))
      have hgw : w3.heap.size ≤ g := by rw [HGG.out]; exact Nat.le_refl _
      have HB7 := Lib.hid (((HB6.out.setCell (p := ⟨g, k * 3, none⟩) hgw (Value.slice a' mm c')).setCell (p := ⟨g, k * 3 + 1, none⟩) hgw (Value.int .i64 fin)).setCell (p := ⟨g, k * 3 + 2, none⟩) hgw (Value.bool false))
      clear hb6 hro hkey hmm hL hLk hLr hLl hbx hset hs3 hLs HLd HG5 HGr5 HB5 HG6 HGr6 HB6 HRo q0 q1 hgw hgr'
      go_wp2_with fail
      go_roundw
      case rel =>
        refine ⟨k + 1, Ls ++ [⟨a', mm, c', fin, false⟩], Cs ++ [Ms], rfl, by go_num, by omega, by rw [List.length_append, HKL.out]; rfl, HSet.out, HGr7.out.snoc HMM.out.symm HRo7.out, HFo.out.snoc HLen.out (by rw [HKL.out]; exact HRk.out.1) HFIN.out.symm rfl HKey.out, HB7.out, fun r hr => ?_⟩
        rw [List.take_add_one, HRk.out.1] at hr
        rcases List.mem_append.1 hr with h | h
        · exact HGD.out r h
        · obtain rfl : r = Q := by simpa using h
          exact HQ0.out
      case measure => simp [intOf]; omega
    · have dk : decide (k < n) = false := decide_eq_false hlt
      obtain rfl : k = n := by omega
      have HZ0 : Hid (fstEr R = 0) := Lib.hid (fstEr_ok fun r hr => HGD.out r (by rw [List.take_of_length_le (by have := HNn.out; omega)]; exact hr))
      have hbk := HBlk.out
      rw [Nat.sub_self, List.replicate_zero, List.append_nil] at hbk
      have hS3 : S3 wr (some ⟨g, 0, none⟩) (rws Ls).length (rws Ls) := S3.new hbk (by rw [rws_len, HKL.out]; unfold maxLen; omega) (rws_is Ls)
      rw [rws_len, HKL.out] at hS3
      have HOf := Lib.hid (of_i (n := k) hS3 (by rw [rws_len]; exact HKL.out) (by omega) (rws_gd Ls))
      have hrs : RsRd wr a4 k R := ⟨HNn.out, rs, HM.out, (t_rd HO.out).below hb⟩
      have HRs := Lib.hid hrs
      clear hbk hS3 hrs hb
      go_wp2_with fail
      refine HOf.out.mono ?_; rintro e w5 ⟨pv, rfl, hT, hb5⟩
      obtain ⟨px, rfl⟩ : ∃ px, pv = .pointer px := by
        rcases hT.one with rfl | ⟨b, rfl⟩
        · exact ⟨_, rfl⟩
        · exact ⟨_, rfl⟩
      have HEn := Lib.hid (gended_of (c := c4) (HRs.out.below hb5) (by omega))
      have HT := Lib.hid hT
      have HB5 := Lib.hid hb5
      clear hT hb5 HOf
      go_wp2_with fail
      refine HEn.out.mono ?_; rintro e w6 ⟨rfl, rfl⟩
      have HFi := Lib.hid (gfirst_of (c := c4) (HRs.out.below HB5.out) (by omega))
      clear HEn
      go_wp2_with fail
      refine HFi.out.mono ?_; rintro e w6 ⟨rfl, hb6⟩
      have HT6 := Lib.hid (HT.out.below hb6)
      have hb36 := HB.out.trans ((HB5.out.trans (hb6.mono HB5.out.size)).mono HB.out.size)
      have hbw3 := HAL0.out.trans (HB3.out.mono HAL0.out.size)
      have hbw6 := hbw3.trans (hb36.mono hbw3.size)
      have hG := (HGr.out.below HB5.out).below hb6
      have hA := HAr3.out.below hb36
      have hbox := (hb36.block w.heap.size (by have := HB3.out.size; have := HSZ1.out; omega)).trans ((HB3.out.block w.heap.size (by have := HSZ1.out; omega)).trans HH0.out)
      have zz := fun i => unfrozen hbox i
      have r0 : w6.cell? ⟨w.heap.size, 0, none⟩ = some (.pointer none) := (cell_at hbox 0).trans rfl
      have r1 : w6.cell? ⟨w.heap.size, 1, none⟩ = some (.bool false) := (cell_at hbox 1).trans rfl
      have r2 : w6.cell? ⟨w.heap.size, 2, none⟩ = some (.int .i64 0) := (cell_at hbox 2).trans rfl
      have HX := Lib.hid (And.intro hbw6 (And.intro hG (And.intro hA hbox)))
      clear hb6 hb36 hbw3 hbw6 hG hA hbox HFi
      obtain ⟨tp, htp⟩ : ∃ tp, tailP R = tp := ⟨_, rfl⟩
      obtain ⟨fp, hfp⟩ : ∃ fp, frsP R = fp := ⟨_, rfl⟩
      have HTP := Lib.hid (And.intro htp hfp)
      rw [htp, hfp]
      clear htp hfp
      go_wp2_with fail
      have hbox := HX.out.2.2.2
      have h1 := heap_set_at (o := 0) (u := .pointer px) hbox
      have h2 := heap_set_at (o := 1) (u := Value.bool tp) h1
      have h3 := heap_set_at (o := 2) (u := Value.int .i64 fp) h2
      have hT7 := ((HT6.out.setT (o := 0) (u := .pointer px) hbox (by decide) okT_grid).setT (o := 1) (u := Value.bool tp) h1 (by decide) okT_grid).setT (o := 2) (u := Value.int .i64 fp) h2 (by decide) okT_grid
      have hG7 := ((HX.out.2.1.setT (o := 0) (u := .pointer px) hbox (by decide) (by decide)).setT (o := 1) (u := Value.bool tp) h1 (by decide) (by decide)).setT (o := 2) (u := Value.int .i64 fp) h2 (by decide) (by decide)
      have hA7 := ((HX.out.2.2.1.set (o := 0) (u := .pointer px) hbox (by decide) (by decide)).set (o := 1) (u := Value.bool tp) h1 (by decide) (by decide)).set (o := 2) (u := Value.int .i64 fp) h2 (by decide) (by decide)
      have hB7 := ((HX.out.1.setCell (p := ⟨w.heap.size, 0, none⟩) (Nat.le_refl _) (.pointer px)).setCell (p := ⟨w.heap.size, 1, none⟩) (Nat.le_refl _) (Value.bool tp)).setCell (p := ⟨w.heap.size, 2, none⟩) (Nat.le_refl _) (Value.int .i64 fp)
      generalize ((w6.setCell ⟨w.heap.size, 0, none⟩ (.pointer px)).setCell ⟨w.heap.size, 1, none⟩ (Value.bool tp)).setCell ⟨w.heap.size, 2, none⟩ (Value.int .i64 fp) = w7 at *
      have s0 : w7.cell? ⟨w.heap.size, 0, none⟩ = some (.pointer px) := (cell_at h3 0).trans rfl
      have s1 : w7.cell? ⟨w.heap.size, 1, none⟩ = some (.bool tp) := (cell_at h3 1).trans rfl
      have s2 : w7.cell? ⟨w.heap.size, 2, none⟩ = some (.int .i64 fp) := (cell_at h3 2).trans rfl
      exact bodyPost_ret (v := .tuple #[.agg #[.pointer px, .bool tp, .int .i64 fp], .pointer (some ⟨p, 0, none⟩), .int .i64 0]) (by simp [results, Tryz.results10, go_sem, s0, s1, s2]) rfl (Or.inr ⟨HZ0.out, px, p, Ls, Cs, by rw [HTP.out.1, HTP.out.2], hT7, HKL.out, hG7, HFo.out, by rw [← HSZ1.out]; exact hA7, hB7⟩)

end Go.Proofs.YtkgakgceamafcaaGreat
