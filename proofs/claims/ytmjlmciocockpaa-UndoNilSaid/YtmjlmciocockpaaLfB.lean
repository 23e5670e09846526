/-
  Less, Len, Swap, Push and Pop of numbers that wait, at this seat's numbers.
-/
import Derived.Test.YtmjlmciocockpaaLfA
import Derived.Deep.AppendLies
import Derived.WideKeyEntry
namespace Go.Proofs.Ytmjlmciocockpaa
open Go Go.RowKit Go.WideElems Go.ChangeMaps Go.MapKept
set_option linter.unusedVariables false

theorem any_sorted {H : Type} (f : Lit × DataW H → Bool) : ∀ l : List (Lit × DataW H), (l.foldr DataW.insert []).any f = l.any f
  | [] => rfl
  | x :: l => by rw [List.foldr_cons, Maps.any_insert, any_sorted f l, List.any_cons]
theorem block_same {w : World} {b : Nat} {o : Obj} (h : w.heap[b]? = some o) : ChangeMaps.setBlock w b o = w := by
  unfold ChangeMaps.setBlock
  have : w.heap.setIfInBounds b o = w.heap := by
    apply Array.ext_getElem?
    intro i
    rw [Array.getElem?_setIfInBounds]
    split
    · rename_i e
      subst e
      rw [h]
      simp [lt_of_heap h]
    · rfl
  rw [this]

theorem Below.draws1 {w w1 : World} (h : Below w.heap.size w w1) (n : Nat) : Below w.heap.size w (w1.drewN n) := ⟨h.os, h.tape, h.output, h.size, h.block⟩

/-- 'm[x] = y' in two steps, at a key that is there: the first step leaves the world as it is. -/
theorem entry_in {w : World} {m n : Nat} {D : DataW Unit} (h : Mp w m n D) (hn : n < maxLen) {x : Int} (hx : Wf x) (hin : Maps.has D (kI x) = true) :
    ∃ (v0 : Value) (st : Nat), (Instr.mapEntry 70 (.map (some m)) (.int .i64 x)).run Try.prog w = .ok (.tuple #[v0, .int .i64 st]) w ∧
      ∀ y, Wf y → ∃ w', (Instr.entryStore 70 (.map (some m)) (.int .i64 st) (.int .i64 y)).run Try.prog w = .ok () w' ∧ Mp w' m (n + 1) (D.put (kI x) (dI y)) ∧ w.grownBy w' (some m) := by
  have h0 := h
  obtain ⟨es, clock, hb, F, hs, hD⟩ := h
  have hkey := keyI hx
  have ht := Try.underlying70
  have K := lawI
  obtain ⟨s1, s2, _⟩ := F.stamped
  rcases K.find w hkey es.toList F.keys with ⟨h1, h2⟩ | ⟨j, e0, h1, h2, h3⟩
  · exfalso
    have hf := Maps.filter_all K F hkey h2
    rw [hD, Maps.has_eq, any_sorted, List.any_eq_true] at hin
    obtain ⟨p, hp, hq⟩ := hin
    have := (List.filter_eq_self.1 hf) p hp
    unfold notKey at this
    rw [hq] at this; cases this
  · have hj : es[j]? = some e0 := by simpa using h2
    have hsame : es.modify j (fun e => { e with key := .int .i64 x }) = es := by
      apply Array.ext'
      rw [Array.toList_modify, modify_eq_set _ _ _ _ h2]
      have : ({ e0 with key := .int .i64 x } : MapEntry) = e0 := by rw [← h3]
      rw [this]
      exact set_self _ _ _ h2
    refine ⟨e0.val, e0.born, ?_, fun y hy => ?_⟩
    · have e := block_same hb
      unfold ChangeMaps.setBlock at e
      simp [Instr.mapEntry, run_underlying ht, MapKept.run_getObj_map hb, K.check w false hkey, h1, hj, h3, K.stays w hkey, hsame, MapKept.run_setObj_map _ hb, Result.andThen, goInt, e]
    · obtain ⟨w', hr, r1, r2⟩ := World.ownsMap.update (t := 70) h0 K ht hn hkey (plI hy)
      refine ⟨w', ?_, r1, r2⟩
      rw [← hr]
      have hidx : es.findIdx? (fun e => ((e.born : Nat) : Int) == ((e0.born : Nat) : Int)) = some j := by
        rw [findIdx_arr]
        exact findIdx_born s2 h2
      have hmod : es.modify j (fun e => { e with val := .int .i64 y }) = es.modify j (fun e' => { e' with key := .int .i64 x, val := .int .i64 y }) := by
        apply Array.ext'
        rw [Array.toList_modify, Array.toList_modify, modify_eq_set _ _ _ _ h2, modify_eq_set _ _ _ _ h2, ← h3]
      simp [Instr.entryStore, Instr.mapUpdate, MapKept.run_getObj_map hb, asInt, asIntOf, hidx, hmod, run_underlying ht, K.check w false hkey, h1, hj, h3, K.stays w hkey, MapKept.run_setObj_map _ hb, Result.andThen]

set_option maxRecDepth 100000 in
set_option maxHeartbeats 4000000 in
theorem less_of {w : World} {p m : Nat} {g : Option Nat} {c : Nat} {D : DataW Unit} {R : List Int} (h : Hw w p m g c D R) (i j : Nat) (hi : i < R.length) (hj : j < R.length) :
    Calls Try.prog 94 #[.pointer (some ⟨p, 0, none⟩), .int .i64 i, .int .i64 j] w fun e w' => e = .returned (.bool (lsB (gN R i) (gN R j))) ∧ Below w.heap.size w w' := by
  obtain ⟨c0, c1, f0⟩ := h.cells
  obtain ⟨b, rfl, hb, x0, xf, hc, hcm⟩ := h.num hi
  obtain ⟨b', e, _, y0, yf, _, _⟩ := h.num hj
  obtain rfl : b = b' := by injection e
  have e0 : (0 : Int) ≤ (i : Int) := by omega
  have e1 : (i : Int) < (R.length : Int) := by omega
  have e2 : (0 : Int) ≤ (j : Int) := by omega
  have e3 : (j : Int) < (R.length : Int) := by omega
  unfold lsB
  simp only [adr, Option.map_some] at c0
  generalize gN R i = x at *
  generalize gN R j = y at *
  generalize R.length = n at *
  clear h e f0 c1 xf yf
  go_enter Try.func94, Try.ntmps94
  go_wp2_with fail
  go_quiet (fail)
  go_wp2_with fail
  go_ret
  exact ⟨rfl, Below.draws1 (Below.refl _ _) nq⟩

theorem wlen_of {w : World} {p m : Nat} {g : Option Nat} {c : Nat} {D : DataW Unit} {R : List Int} (h : Hw w p m g c D R) : Calls Try.prog 93 #[.pointer (some ⟨p, 0, none⟩)] w fun e w' => e = .returned (.int .i64 R.length) ∧ w = w' := by
  obtain ⟨c0, c1, f0⟩ := h.cells
  clear h c1 f0
  go_enter Try.func93, Try.ntmps93
  go_wp2_with fail
  go_ret
  exact ⟨rfl, rfl⟩

theorem Hw.setN {w : World} {p m b : Nat} {c n : Nat} {D : DataW Unit} {R : List Int} (h : w.ownsRow 0 3 1 (.slice (some ⟨b, 0, none⟩) n c) n (nums R)) (i : Nat) (x : Int) : (w.setCell ⟨b, i, none⟩ (.int .i64 x)).ownsRow 0 3 1 (.slice (some ⟨b, 0, none⟩) n c) n (nums (R.set i x)) := by
  rw [← nums_set]
  exact (h.stored i _).1

set_option maxRecDepth 100000 in
set_option maxHeartbeats 8000000 in
/-- Two numbers change places, and so do their places. -/
theorem wswap_of {w : World} {p m : Nat} {g : Option Nat} {c : Nat} {D : DataW Unit} {R : List Int} (h : Hw w p m g c D R) (hn : R.length ≤ 1000000) (i j : Nat) (hi : i < R.length) (hj : j < R.length) (hij : i ≠ j) :
    Calls Try.prog 97 #[.pointer (some ⟨p, 0, none⟩), .int .i64 i, .int .i64 j] w fun e w' => e = .returned (.tuple #[]) ∧ ∃ D', Hw w' p m g c D' (swapE R i j) ∧ Mv p m g g w w' := by
  obtain ⟨c0, c1, f0⟩ := h.cells
  obtain ⟨b, rfl, hb, x0, xf, hc, hcm⟩ := h.num hi
  obtain ⟨b', e, _, y0, yf, _, _⟩ := h.num hj
  obtain rfl : b = b' := by injection e
  obtain ⟨hpm, hgp, hgm⟩ := h.pm
  have hbp : b ≠ p := fun e => hgp (by rw [e])
  have hbm : b ≠ m := fun e => hgm (by rw [e])
  have hlt := h.lt
  obtain ⟨x, hx⟩ : ∃ x, gN R i = x := ⟨_, rfl⟩
  obtain ⟨y, hy⟩ : ∃ y, gN R j = y := ⟨_, rfl⟩
  have wx : Wf x := by rw [← hx]; exact h.wf _ (gN_mem hi)
  have wy : Wf y := by rw [← hy]; exact h.wf _ (gN_mem hj)
  have hswap : swapE R i j = (R.set i y).set j x := by unfold swapE; rw [hx, hy]
  -- the world behind the first row
  obtain ⟨w1, hw1⟩ : ∃ w1, (w.setCell ⟨b, i, none⟩ (.int .i64 y)).setCell ⟨b, j, none⟩ (.int .i64 x) = w1 := ⟨_, rfl⟩
  have own1 : w1.ownsRow 0 3 1 (.slice (some ⟨b, 0, none⟩) R.length c) R.length (nums (swapE R i j)) := by
    rw [← hw1, hswap]
    exact Hw.setN (p := p) (m := m) (D := D) (Hw.setN (p := p) (m := m) (D := D) h.own i y) j x
  have blk1 : ∀ k, k ≠ b → w1.heap[k]? = w.heap[k]? := fun k hk => by rw [← hw1, heap_set_other hk, heap_set_other hk]
  have sz1 : w1.heap.size = w.heap.size := by rw [← hw1, size_set, size_set]
  have low1 : Below 0 w w1 := by rw [← hw1]; exact ((Below.refl 0 w).setCell (p := ⟨b, i, none⟩) (Nat.zero_le _) _).setCell (p := ⟨b, j, none⟩) (Nat.zero_le _) _
  have map1 : Mp w1 m R.length D := h.map.same (blk1 m hbm.symm)
  have e0 : (0 : Int) ≤ (i : Int) := by omega
  have e1 : (i : Int) < (R.length : Int) := by omega
  have e2 : (0 : Int) ≤ (j : Int) := by omega
  have e3 : (j : Int) < (R.length : Int) := by omega
  have n0 : ¬ j = i := fun e => hij e.symm
  have HO := Lib.hid own1
  have HM := Lib.hid map1
  have HL := Lib.hid low1
  have HH := Lib.hid h
  have HB := Lib.hid blk1
  simp only [adr, Option.map_some] at c0
  rw [hx] at x0
  rw [hy] at y0
  have HX := Lib.hid hx
  have HY := Lib.hid hy
  have HS := Lib.hid hswap
  generalize hnn : R.length = n at *
  have HN := Lib.hid hnn
  clear own1 map1 low1 h blk1 hx hy hswap hnn
  go_enter Try.func97, Try.ntmps97
  go_wp2_with fail
  go_region
  obtain ⟨wa, hwa⟩ : ∃ wa, w1.drew = wa := ⟨_, rfl⟩
  have hh : wa.heap = w1.heap := by rw [← hwa]; rfl
  rw [hwa]
  have ownA : wa.ownsRow 0 3 1 (.slice (some ⟨b, 0, none⟩) n c) n (nums (swapE R i j)) := own_same HO.out (fun k _ => by rw [hh])
  have mapA : Mp wa m n D := HM.out.same (by rw [hh])
  have hsl : (swapE R i j).length = n := by rw [swap_len, HN.out]
  have ni : gN (swapE R i j) i = y := by rw [gN_swap (by rw [HN.out]; exact hi) (by rw [HN.out]; exact hj), if_neg hij, if_pos rfl, HY.out]
  have nj : gN (swapE R i j) j = x := by rw [gN_swap (by rw [HN.out]; exact hi) (by rw [HN.out]; exact hj), if_pos rfl, HX.out]
  have y0' : wa.cell? ⟨b, i, none⟩ = some (.int .i64 y) := by
    have := ownA.cells (g := b) rfl i _ (nums_at (gN_at (by rw [hsl]; exact hi)))
    rwa [Addr.add_lit, Nat.zero_add, ni] at this
  have x0' : wa.cell? ⟨b, j, none⟩ = some (.int .i64 x) := by
    have := ownA.cells (g := b) rfl j _ (nums_at (gN_at (by rw [hsl]; exact hj)))
    rwa [Addr.add_lit, Nat.zero_add, nj] at this
  have boxA : wa.heap[p]? = some (.cells #[.slice (some ⟨b, 0, none⟩) n c, .map (some m)] 72 (0, 0)) := by
    rw [hh, HB.out p (fun e => hbp e.symm)]
    have := HH.out.box
    rw [HN.out] at this
    exact this
  have c0' : wa.cell? ⟨p, 0, none⟩ = some (.slice (some ⟨b, 0, none⟩) n c) := by rw [cell_at boxA]; rfl
  have c1' : wa.cell? ⟨p, 1, none⟩ = some (.map (some m)) := by rw [cell_at boxA]; rfl
  have mapD : Mp wa.drew m n D := mapA
  have hasy : Maps.has D (kI y) = true := by have := HH.out.ix.has j (by rw [HN.out]; exact hj); rw [HY.out] at this; exact this.1
  have hasx : Maps.has D (kI x) = true := by have := HH.out.ix.has i (by rw [HN.out]; exact hi); rw [HX.out] at this; exact this.1
  obtain ⟨v1, st1, E1, S1⟩ := entry_in mapD (by unfold maxLen; omega) wy hasy
  obtain ⟨w2, E2, M2, G2⟩ := S1 i (wf_small (by omega))
  have hxy : x ≠ y := fun e => by
    have := gN_inj HH.out.nd (by rw [HN.out]; exact hi) (by rw [HN.out]; exact hj) (by rw [HX.out, HY.out, e])
    exact hij this
  have hasx2 : Maps.has (D.put (kI y) (dI i)) (kI x) = true := by rw [Maps.has_put_other (key_ne hxy)]; exact hasx
  obtain ⟨v2, st2, E3, S3⟩ := entry_in M2 (by unfold maxLen; omega) wx hasx2
  obtain ⟨w3, E4, M4, G4⟩ := S3 j (wf_small (by omega))
  have same2 : ∀ k, k < wa.heap.size → k ≠ m → w2.heap[k]? = wa.heap[k]? := fun k hk hm => G2.block k hk (fun e => hm (by injection e))
  have pA := lt_of_heap boxA
  have bA : b < wa.heap.size := (ownA.lt b rfl).2
  have box2 : w2.heap[p]? = some (.cells #[.slice (some ⟨b, 0, none⟩) n c, .map (some m)] 72 (0, 0)) := (same2 p pA hpm).trans boxA
  have own2 : w2.ownsRow 0 3 1 (.slice (some ⟨b, 0, none⟩) n c) n (nums (swapE R i j)) := own_same ownA (fun k hk => by
    obtain rfl : b = k := by simpa [Value.ownBlock] using hk
    exact same2 b bA hbm)
  have x2 : w2.cell? ⟨b, j, none⟩ = some (.int .i64 x) := by
    have := own2.cells (g := b) rfl j _ (nums_at (gN_at (by rw [hsl]; exact hj)))
    rwa [Addr.add_lit, Nat.zero_add, nj] at this
  have c02 : w2.cell? ⟨p, 0, none⟩ = some (.slice (some ⟨b, 0, none⟩) n c) := by rw [cell_at box2]; rfl
  have c12 : w2.cell? ⟨p, 1, none⟩ = some (.map (some m)) := by rw [cell_at box2]; rfl
  have POST : Hid (∃ D', Hw w3 p m (some b) c D' (swapE R i j) ∧ Mv p m (some b) (some b) w w3) := Lib.hid (by
    have same3 : ∀ k, k < w2.heap.size → k ≠ m → w3.heap[k]? = w2.heap[k]? := fun k hk hm => G4.block k hk (fun e => hm (by injection e))
    have p2 := Nat.lt_of_lt_of_le pA G2.size
    have b2 := Nat.lt_of_lt_of_le bA G2.size
    have hix := HH.out.ix.swap HH.out.nd (i := i) (j := j) (by rw [HN.out]; exact hi) (by rw [HN.out]; exact hj)
    rw [HX.out, HY.out] at hix
    refine ⟨_, ⟨?_, ?_, ?_, hix, ?_, ?_⟩, ⟨?_, fun k hk h1 h2 h3 => ?_, fun k e => .inl e⟩⟩
    · rw [same3 p p2 hpm, hsl]; exact box2
    · rw [hsl]
      exact own_same own2 (fun k hk => by
        obtain rfl : b = k := Option.some.inj ((adr_own (some b) n c).symm.trans hk)
        exact same3 b b2 hbm)
    · exact M4.tight (Nat.le_of_eq hix.size)
    · rcases Nat.lt_or_ge i j with hl | hl
      · exact (swap_perm hl (by rw [HN.out]; exact hj)).nodup_iff.2 HH.out.nd
      · rw [show swapE R i j = swapE R j i by unfold swapE; rw [List.set_comm _ _ (by omega)]]
        exact (swap_perm (by omega) (by rw [HN.out]; exact hi)).nodup_iff.2 HH.out.nd
    · intro z hz
      obtain ⟨k, hk, rfl⟩ := mem_gN hz
      rw [hsl] at hk
      rw [gN_swap (by rw [HN.out]; exact hi) (by rw [HN.out]; exact hj)]
      have hL := HN.out
      split
      · exact HH.out.wf _ (gN_mem (by omega))
      · split
        · exact HH.out.wf _ (gN_mem (by omega))
        · exact HH.out.wf _ (gN_mem (by omega))
    · have lA : Below 0 w wa := by rw [← hwa]; exact HL.out.drew
      exact (lA.grown (w' := w2) ⟨G2.os, G2.tape, G2.output, G2.size, G2.block⟩ (Nat.zero_le _) (fun _ _ => Nat.zero_le _)).grown G4 (Nat.zero_le _) (fun _ _ => Nat.zero_le _)
    · have hkb : k ≠ b := fun e => h3 (by rw [e])
      have hkA : k < wa.heap.size := by rw [hh, sz1]; exact hk
      rw [same3 k (Nat.lt_of_lt_of_le hkA G2.size) h2, same2 k hkA h2, hh]
      exact HB.out k hkb)
  clear S1 S3 M2 M4 G2 G4 ownA mapA own2 mapD hasy hasx hasx2 same2 hh HO HM HL HB HH HX HY HS HN hsl ni nj boxA box2 hwa hw1 sz1 x0 y0 c0 c1 wx wy hpm hgp hgm hlt hxy pA bA
  go_wp2_with fail
  go_big_region
  all_goals
    go_wp2_with fail
    go_end0
    exact ⟨rfl, POST.out⟩
end Go.Proofs.Ytmjlmciocockpaa
