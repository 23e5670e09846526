/-
  Contracts of layer 9, trees of strings: top, Of, Len, Root, has; at this seat's numbers.
-/
import Derived.Test.YtofncnommekbjaaTsL
import Derived.Test.YtofncnommekbjaaTrM
namespace Go.Proofs.Ytofncnommekbjaa
open Go Go.RowKit
set_option linter.unusedVariables false


set_option maxRecDepth 100000 in
set_option maxHeartbeats 1000000 in
theorem top_s {w : World} {h : Nat} {a : Option Addr} {c n : Nat} {ts : List (El (h + 1))} (H : Es w 103 (h + 1) ts a c) (hn : ts.length = n) (hl : n ≤ 100000) (hok : TopOk h ts) (hg : Gd (flatL (h + 1) ts)) (hf : (flatL (h + 1) ts).length ≤ 1000000) :
    Calls Try.prog 60 #[.slice a n c] w fun e w' => ∃ pv, e = .returned (.agg #[pv]) ∧ Tin w' 103 pv (flatL (h + 1) ts) ∧ Below w.heap.size w w' := by
  have al := t_al w (Obj.cells #[Value.pointer none] 48)
  have hh := heap_alloc_new w (Obj.cells #[Value.pointer none] 48)
  have HE := Lib.hid (H.below al)
  have HN := Lib.hid hn
  have HOK := Lib.hid hok
  obtain ⟨L, hL⟩ : ∃ L, flatL (h + 1) ts = L := ⟨_, rfl⟩
  have HLL := Lib.hid hL
  rw [hL] at hg hf ⊢
  have HG := Lib.hid hg
  clear H hn hok hL hg
  go_enter Try.func60, Try.ntmps60
  go_upto_region 1 with fail
  generalize w.alloc (Obj.cells #[Value.pointer none] 48) = w1 at *
  have HAL := Lib.hid al
  have HH := Lib.hid hh
  have hz1 := lt_of_heap hh
  clear al hh
  go_loopw [0] (fun v0 wr => ∃ (h' n' : Nat) (ts' : List (El (h' + 1))) (a' : Option Addr) (c' : Nat), v0 = .slice a' n' c' ∧ ts'.length = n' ∧ n' ≤ 100000 ∧ Es wr 103 (h' + 1) ts' a' c' ∧ TopOk h' ts' ∧ flatL (h' + 1) ts' = L ∧ Below w1.heap.size w1 wr) (fun v0 _ => lenV v0)
  case atStart => exact ⟨h, n, ts, a, c, rfl, HN.out, hl, HE.out, HOK.out, HLL.out, Below.refl _ _⟩
  case round =>
    obtain ⟨h', n', ts', a', c', rfl, hn', hl', he', hok', hL', hb'⟩ := hrel
    have HN' := Lib.hid hn'
    have HE' := Lib.hid he'
    have HOK' := Lib.hid hok'
    have HL' := Lib.hid hL'
    have HB' := Lib.hid hb'
    by_cases h1 : 1 < n'
    · have d1 : decide (1 < n') = true := decide_eq_true h1
      have d1' : decide ((1 : Int) < (n' : Int)) = true := decide_eq_true (by omega)
      have HP := Lib.hid (pack_ns he' hn' hl' (by rw [hL']; exact hf))
      have hup := topok_up hok' (by omega)
      have HUP := Lib.hid hup
      have hfw := fewN_lt (n := n') (by omega)
      obtain ⟨m, hm⟩ : ∃ m, fewN n' = m := ⟨_, rfl⟩
      rw [hm] at HP hfw
      have HM : Hid ((pts ts').length = m) := by rw [pts_len, hn', hm]; exact Lib.hid rfl
      clear hn' he' hok' hL' hb' hup hm
      go_wp2_with fail
      refine HP.out.mono ?_; rintro e w2 ⟨a2, c2, rfl, he2, hb2⟩
      have HE2 := Lib.hid he2
      have HB2 := Lib.hid (HB'.out.trans (hb2.mono HB'.out.size))
      clear he2 hb2 HP
      go_wp2_with fail
      go_roundw
      case rel => exact ⟨h' + 1, m, pts ts', a2, c2, rfl, HM.out, by omega, HE2.out, HUP.out, by rw [flatL_pts]; exact HL'.out, HB2.out⟩
      case measure => simp [lenV]; omega
    · have d1 : decide (1 < n') = false := decide_eq_false h1
      have d1' : decide ((1 : Int) < (n' : Int)) = false := decide_eq_false (by omega)
      have hh2 := (hb'.block w.heap.size hz1).trans HH.out
      have HH2 := Lib.hid hh2
      have zz := fun i => unfrozen hh2 i
      have r0 : wr.cell? ⟨w.heap.size, 0, none⟩ = some (.pointer none) := by rw [cell_at hh2]; rfl
      have HBx := Lib.hid (HAL.out.trans (HB'.out.mono (by omega)))
      by_cases h0 : n' = 0
      · subst h0
        have hts : ts' = [] := List.length_eq_zero_iff.1 hn'
        have hLn : L = [] := by rw [← hL', hts]; rfl
        have HLn := Lib.hid hLn
        clear hn' he' hok' hL' hb' hh2 hts hLn
        go_wp2_with fail
        have hs := heap_set_at (o := 0) (u := Value.pointer none) HH2.out
        have hB := HBx.out.setCell (p := ⟨w.heap.size, 0, none⟩) (Nat.le_refl _) (Value.pointer none)
        have q0 : (wr.setCell ⟨w.heap.size, 0, none⟩ (Value.pointer none)).cell? ⟨w.heap.size, 0, none⟩ = some (Value.pointer none) := by rw [cell_at hs]; rfl
        exact bodyPost_ret (v := .agg #[.pointer none]) (by simp [results, Try.results60, go_sem, q0]) rfl ⟨.pointer none, rfl, .inl ⟨rfl, HLn.out⟩, hB⟩
      · obtain rfl : n' = 1 := by omega
        obtain ⟨g, o, rfl, hgz⟩ := he'.has (by omega)
        obtain ⟨b', hcb, hin⟩ := he'.at (x := nth ts' 0) (nth_at (by omega))
        have hts : ts' = [mk1 (nth ts' 0)] := by
          have h2 := nth_at (ks := ts') (k := 0) (by omega)
          obtain ⟨x, hx⟩ := List.length_eq_one_iff.1 hn'
          rw [hx] at h2 ⊢
          injection h2 with h2
          rw [h2]; rfl
        have hfl : flatL h' (nth ts' 0) = L := by rw [← hL', hts]; exact (flat_one _).symm
        have hT : Tin wr 103 (ptr b') L := .inr ⟨b', h', nth ts' 0, rfl, hin, hok'.1 hn', hfl.symm⟩
        have HT := Lib.hid hT
        clear hn' he' hok' hL' hb' hh2 hts hfl hT hin
        have e1 : o + 0 = o := Nat.add_zero o
        rw [e1] at hcb
        go_wp2_with fail
        have hs := heap_set_at (o := 0) (u := ptr b') HH2.out
        have hB := HBx.out.setCell (p := ⟨w.heap.size, 0, none⟩) (Nat.le_refl _) (ptr b')
        have hT := HT.out.setNil (u := ptr b') HH2.out (by decide) HG.out
        have q0 : (wr.setCell ⟨w.heap.size, 0, none⟩ (ptr b')).cell? ⟨w.heap.size, 0, none⟩ = some (ptr b') := by rw [cell_at hs]; rfl
        exact bodyPost_ret (v := .agg #[ptr b']) (by simp [results, Try.results60, go_sem, q0]) rfl ⟨ptr b', rfl, hT, hB⟩

set_option maxRecDepth 100000 in
set_option maxHeartbeats 1000000 in
theorem of_s {w : World} {a : Option Addr} {c n : Nat} {xs : List Value} (H : Sl w a c xs) (hn : xs.length = n) (hl : n ≤ 100000) (hg : Gd xs) :
    Calls Try.prog 21 #[.slice a n c] w fun e w' => ∃ pv, e = .returned (.agg #[pv]) ∧ Tin w' 103 pv xs ∧ Below w.heap.size w w' := by
  have al := t_al w (Obj.cells #[Value.pointer none] 48)
  have hh := heap_alloc_new w (Obj.cells #[Value.pointer none] 48)
  have hfl : flatL 0 xs = xs := flatL_zero xs
  have HP := Lib.hid (pack_ls (Es.ofSl (H.below al)) hn hl (by have e := congrArg List.length hfl; have e2 : xs.length = n := hn; omega))
  have hf2 : flatL 1 (pts (v0 xs)) = xs := by rw [flatL_pts]; exact hfl
  have hpn : (pts (v0 xs)).length = fewN n := by rw [pts_len]; show fewN xs.length = _; rw [hn]
  have hfw := fewN_le n
  have HTP : Hid (∀ w' a' c', Es w' 103 1 (pts (v0 xs)) a' c' → Calls Try.prog 60 #[.slice a' (fewN n) c'] w' fun e w'' => ∃ pv, e = .returned (.agg #[pv]) ∧ Tin w'' 103 pv xs ∧ Below w'.heap.size w' w'') := by
    refine Lib.hid (fun w' a' c' he => ?_)
    have := top_s he hpn (by omega) topok_leaf (by rw [hf2]; exact hg) (by rw [hf2]; omega)
    rw [hf2] at this
    exact this
  have HG := Lib.hid hg
  obtain ⟨m, hm⟩ : ∃ m, fewN n = m := ⟨_, rfl⟩
  rw [hm] at HP HTP
  clear H hfl hf2 hpn hfw hn hg hm
  go_enter Try.func21, Try.ntmps21
  go_upto_region 1 with fail
  generalize w.alloc (Obj.cells #[Value.pointer none] 48) = w1 at *
  have HAL := Lib.hid al
  have HH := Lib.hid hh
  have hz1 := lt_of_heap hh
  clear al hh
  go_wp2_with fail
  refine HP.out.mono ?_; rintro e w2 ⟨a2, c2, rfl, he2, hb2⟩
  have HE2 := Lib.hid (HTP.out w2 a2 c2 he2)
  have HB2 := Lib.hid hb2
  clear he2 hb2 HP HTP
  go_wp2_with fail
  refine HE2.out.mono ?_; rintro e w3 ⟨pv, rfl, hT, hb3⟩
  have hb13 := HB2.out.trans (hb3.mono HB2.out.size)
  have hh2 := (hb13.block w.heap.size hz1).trans HH.out
  have HH2 := Lib.hid hh2
  have zz := fun i => unfrozen hh2 i
  have r0 : w3.cell? ⟨w.heap.size, 0, none⟩ = some (.pointer none) := by rw [cell_at hh2]; rfl
  have HBx := Lib.hid (HAL.out.trans (hb13.mono (by omega)))
  have HT := Lib.hid hT
  have hone := hT.one
  clear hb13 hh2 hb3 hT HE2
  rcases hone with rfl | ⟨b', rfl⟩
  all_goals
    go_wp2_with fail
  · have hs := heap_set_at (o := 0) (u := Value.pointer none) HH2.out
    have hB := HBx.out.setCell (p := ⟨w.heap.size, 0, none⟩) (Nat.le_refl _) (Value.pointer none)
    have hT := HT.out.setNil (u := Value.pointer none) HH2.out (by decide) HG.out
    have q0 : (w3.setCell ⟨w.heap.size, 0, none⟩ (Value.pointer none)).cell? ⟨w.heap.size, 0, none⟩ = some (Value.pointer none) := by rw [cell_at hs]; rfl
    exact bodyPost_ret (v := .agg #[.pointer none]) (by simp [results, Try.results21, go_sem, q0]) rfl ⟨.pointer none, rfl, hT, hB⟩
  · have hs := heap_set_at (o := 0) (u := ptr b') HH2.out
    have hB := HBx.out.setCell (p := ⟨w.heap.size, 0, none⟩) (Nat.le_refl _) (ptr b')
    have hT := HT.out.setNil (u := ptr b') HH2.out (by decide) HG.out
    have q0 : (w3.setCell ⟨w.heap.size, 0, none⟩ (ptr b')).cell? ⟨w.heap.size, 0, none⟩ = some (ptr b') := by rw [cell_at hs]; rfl
    exact bodyPost_ret (v := .agg #[ptr b']) (by simp [results, Try.results21, go_sem, q0]) rfl ⟨ptr b', rfl, hT, hB⟩

end Go.Proofs.Ytofncnommekbjaa
