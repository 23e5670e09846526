/-
  Texts of this seat, put together (a claim holds few texts): TgM, TgN.
-/
import Derived.Test.YtkgakgceamafcaaMk9

namespace Go.Proofs.Ytkgakgceamafcaa
open Go Go.RowKit
set_option linter.unusedVariables false

/-- Values none of which is the nil pointer. -/
def Gd (L : List Value) : Prop := ∀ v ∈ L, v ≠ Value.pointer none
theorem Sl.setNil {w : World} {a : Option Addr} {c p TT : Nat} {u : Value} {xs : List Value} (h : Sl w a c xs) (hp : w.heap[p]? = some (.cells #[Value.pointer Option.none] TT (0, 0))) (hx : Gd xs) : Sl (w.setCell ⟨p, 0, Option.none⟩ u) a c xs := by
  refine ⟨⟨h.rd.1, fun hn => ?_⟩, h.cap, h.capm, h.nil, h.form, h.one⟩
  obtain ⟨g, off, rfl, hlt, hc⟩ := h.rd.2 hn
  have hg : g ≠ p := by
    rintro rfl
    have h0 := hc 0 (xs[0]'hn) (List.getElem?_eq_getElem hn)
    rw [cell_at hp] at h0
    have h1 : off + 0 < 1 := by
      have := (Array.getElem?_eq_some_iff.1 h0).1
      simpa using this
    have h2 : off = 0 := by omega
    subst h2
    exact hx _ (List.getElem_mem hn) (Option.some.inj h0).symm
  refine ⟨g, off, rfl, by rw [size_set]; exact hlt, fun j x hj => ?_⟩
  rw [World.cell?_of_block (w := w) (w' := w.setCell ⟨p, 0, Option.none⟩ u) (a := ⟨g, off + j, Option.none⟩) (heap_set_other hg)]
  exact hc j x hj
theorem Ss.setNil {w : World} {h : Nat} {a : Option Addr} {c p TT : Nat} {u : Value} {xs : List Value} (H : Ss w h a c xs) (hp : w.heap[p]? = some (.cells #[Value.pointer Option.none] TT (0, 0))) (hx : Gd xs) : Ss (w.setCell ⟨p, 0, Option.none⟩ u) h a c xs := by
  cases h with
  | zero => exact S3.setNil H hp
  | succ h => exact Sl.setNil H hp hx
theorem gd_is3 {L : List Value} (h : ∀ u ∈ L, Is3 u) : Gd L := fun v hv => (h v hv).nil
theorem InE.setNil {w : World} {T p TT : Nat} {u : Value} (hp : w.heap[p]? = some (.cells #[Value.pointer none] TT (0, 0))) (hT : TT ≠ T) : ∀ {h : Nat} {t : El h} {y : Value}, Gd (flatE h t) → InE w T h t y → InE (w.setCell ⟨p, 0, none⟩ u) T h t y
  | 0, t, y, _, H => H
  | h + 1, t, y, hg, H => by
    obtain ⟨b, a, c, us, rfl, h1, ht, h2, h3, h4⟩ := H
    have hb : b ≠ p := by
      rintro rfl
      rw [h1] at hp
      injection hp with hp
      injection hp with _ hp
      exact hT hp.symm
    have hsub : ∀ (i : Nat) (x : El h), (kidsOf t)[i]? = some x → Gd (flatE h x) := fun i x hx v hv => hg v (by
      show v ∈ (kidsOf t).flatMap (flatE h)
      exact List.mem_flatMap.2 ⟨x, List.mem_of_getElem? hx, hv⟩)
    have hus : Gd us := fun v hv => by
      obtain ⟨i, hi, rfl⟩ := List.getElem_of_mem hv
      have hx : (kidsOf t)[i]? = some ((kidsOf t)[i]'(by omega)) := List.getElem?_eq_getElem (by omega)
      have hin := h4 i _ _ hx (List.getElem?_eq_getElem hi)
      have hgd := hsub i _ hx
      cases h with
      | zero =>
        have e : us[i] = (kidsOf t)[i]'(by omega) := hin
        rw [e]
        exact hgd _ (by show _ ∈ [((kidsOf t)[i]'(by omega) : Value)]; exact List.mem_singleton.2 rfl)
      | succ h =>
        obtain ⟨b', hb', _⟩ := of_in hin
        rw [hb']
        intro hh
        injection hh with hh
        cases hh
    refine ⟨b, a, c, us, rfl, (heap_set_other hb).trans h1, fun d hd => (ht d hd).set, h2.setNil hp hus, h3, fun i x z hx hz => ?_⟩
    exact InE.setNil hp hT (hsub i x hx) (h4 i x z hx hz)
theorem In.setNil {w : World} {T p TT h b : Nat} {u : Value} {t : List (El h)} (H : In w T h t b) (hp : w.heap[p]? = some (.cells #[Value.pointer none] TT (0, 0))) (hT : TT ≠ T) (hg : Gd (flatL h t)) : In (w.setCell ⟨p, 0, none⟩ u) T h t b := by
  have h1 := InE.setNil (u := u) hp hT (h := h + 1) (t := mk1 t) hg (in_of H)
  obtain ⟨b', hb, h2⟩ := of_in h1
  have : b' = b := by injection hb with hb; injection hb with hb; injection hb with hb; exact hb.symm
  subst this
  exact h2
/-- The least that a root has. -/
def rlo (h : Nat) : Nat := if h = 0 then 1 else 2
theorem rlo_pos (h : Nat) : 1 ≤ rlo h := by unfold rlo; split <;> omega
theorem rlo_le (h : Nat) : rlo h ≤ 2 := by unfold rlo; split <;> omega
theorem rlo_succ (h : Nat) : rlo (h + 1) = 2 := rfl
/-- A tree in memory, by its root's pointer, and what it has. -/
def Tin (w : World) (T : TypeId) (pv : Value) (L : List Value) : Prop :=
  (pv = .pointer none ∧ L = []) ∨ ∃ (b h : Nat) (t : List (El h)), pv = ptr b ∧ In w T h t b ∧ Ok (rlo h) h t ∧ L = flatL h t
theorem Tin.below {w w' : World} {T : TypeId} {pv : Value} {L : List Value} (H : Tin w T pv L) (hb : Below w.heap.size w w') : Tin w' T pv L := by
  rcases H with h | ⟨b, h, t, h1, h2, h3, h4⟩
  · exact .inl h
  · exact .inr ⟨b, h, t, h1, h2.below hb, h3, h4⟩
theorem Tin.setNil {w : World} {T p TT : Nat} {u pv : Value} {L : List Value} (H : Tin w T pv L) (hp : w.heap[p]? = some (.cells #[Value.pointer none] TT (0, 0))) (hT : TT ≠ T) (hg : Gd L) : Tin (w.setCell ⟨p, 0, none⟩ u) T pv L := by
  rcases H with h | ⟨b, h, t, h1, h2, h3, rfl⟩
  · exact .inl h
  · exact .inr ⟨b, h, t, h1, h2.setNil hp hT hg, h3, rfl⟩
theorem Tin.one {w : World} {T : TypeId} {pv : Value} {L : List Value} (H : Tin w T pv L) : pv = .pointer none ∨ ∃ b, pv = ptr b := by
  rcases H with h | ⟨b, h, t, h1, _⟩
  · exact .inl h.1
  · exact .inr ⟨b, h1⟩
/-- Nodes that top takes. -/
def TopOk (h : Nat) (ts : List (El (h + 1))) : Prop := (ts.length = 1 → Ok (rlo h) h (nth ts 0)) ∧ (2 ≤ ts.length → Oks h ts)
theorem topok_up {h : Nat} {ts : List (El (h + 1))} (H : TopOk h ts) (h2 : 2 ≤ ts.length) : TopOk (h + 1) (pts ts) := by
  have ho := H.2 h2
  have hl := pts_len ts
  by_cases h6 : ts.length ≤ 6
  · have hp : pts ts = [mk1 ts] := parts_one (by omega) h6
    rw [hp]
    refine ⟨fun _ => ?_, fun h => by simp at h⟩
    show Ok (rlo (h + 1)) (h + 1) ts
    rw [rlo_succ]
    exact ok_succ h2 h6 ho
  · refine ⟨fun h1 => ?_, fun _ => oks_pts (by omega) (fun h' e => by cases e; exact ho)⟩
    rw [hl] at h1; unfold fewN at h1; omega
theorem topok_leaf {xs : List (El 0)} : TopOk 0 (pts xs) := by
  have hl := pts_len xs
  by_cases h6 : xs.length ≤ 6
  · by_cases h0 : xs.length = 0
    · have hn : (pts xs).length = 0 := by rw [hl, h0]; rfl
      exact ⟨fun h => by omega, fun h => by omega⟩
    · have hp : pts xs = [mk1 xs] := parts_one (by omega) h6
      rw [hp]
      refine ⟨fun _ => ?_, fun h => by simp at h⟩
      show Ok (rlo 0) 0 xs
      exact ⟨by show 1 ≤ _; omega, h6⟩
  · refine ⟨fun h1 => ?_, fun _ => oks_pts (by omega) (fun h' e => by cases e)⟩
    rw [hl] at h1; unfold fewN at h1; omega
theorem topok_ins {lo h : Nat} {t : List (El h)} {i : Nat} {x : Value} (h1 : lo = rlo h) (H : Ok lo h t) (hi : i ≤ (flatL h t).length) : TopOk h (insT h t i x) := by
  subst h1
  rcases ok_ins h t i x (rlo_pos h) H hi with ⟨h1, h2⟩ | ⟨h1, h2⟩
  · exact ⟨fun _ => h2, fun h => by omega⟩
  · exact ⟨fun h => by omega, fun _ => h2⟩
def lenV : Value → Nat
  | .slice _ n _ => n
  | _ => 0

set_option maxRecDepth 100000 in
set_option maxHeartbeats 1000000 in
theorem top_i {w : World} {h : Nat} {a : Option Addr} {c n : Nat} {ts : List (El (h + 1))} (H : Es w 118 (h + 1) ts a c) (hn : ts.length = n) (hl : n ≤ 100000) (hok : TopOk h ts) (hg : Gd (flatL (h + 1) ts)) (hf : (flatL (h + 1) ts).length ≤ 1000000) :
    Calls Try.prog 44 #[.slice a n c] w fun e w' => ∃ pv, e = .returned (.agg #[pv]) ∧ Tin w' 118 pv (flatL (h + 1) ts) ∧ Below w.heap.size w w' := by
  have al := t_al w (Obj.cells #[Value.pointer none] 48)
  have hh := heap_alloc_new w (Obj.cells #[Value.pointer none] 48)
  have HE := Lib.hid (H.below al)
  have HN := Lib.hid hn
  have HOK := Lib.hid hok
  obtain ⟨L, hL⟩ : ∃ L, flatL (h + 1) ts = L := ⟨_, rfl⟩
  have HLL := Lib.hid hL
  rw [hL] at hg hf ⊢
  have HG := Lib.hid hg
  clear H hn hok hL hg
  go_enter Try.func44, Try.ntmps44
  go_upto_region 1 with fail
  generalize w.alloc (Obj.cells #[Value.pointer none] 48) = w1 at *
  have HAL := Lib.hid al
  have HH := Lib.hid hh
  have hz1 := lt_of_heap hh
  clear al hh
  go_loopw [0] (fun v0 wr => ∃ (h' n' : Nat) (ts' : List (El (h' + 1))) (a' : Option Addr) (c' : Nat), v0 = .slice a' n' c' ∧ ts'.length = n' ∧ n' ≤ 100000 ∧ Es wr 118 (h' + 1) ts' a' c' ∧ TopOk h' ts' ∧ flatL (h' + 1) ts' = L ∧ Below w1.heap.size w1 wr) (fun v0 _ => lenV v0)
  case atStart => exact ⟨h, n, ts, a, c, rfl, HN.out, hl, HE.out, HOK.out, HLL.out, Below.refl _ _⟩
  case round =>
    obtain ⟨h', n', ts', a', c', rfl, hn', hl', he', hok', hL', hb'⟩ := hrel
    have HN' := Lib.hid hn'
    have HE' := Lib.hid he'
    have HOK' := Lib.hid hok'
    have HL' := Lib.hid hL'
    have HB' := Lib.hid hb'
    by_cases h1 : 1 < n'
    · have d1 : decide (1 < n') = true := decide_eq_true h1
      have d1' : decide ((1 : Int) < (n' : Int)) = true := decide_eq_true (by omega)
      have HP := Lib.hid (pack_ni he' hn' hl' (by rw [hL']; exact hf))
      have hup := topok_up hok' (by omega)
      have HUP := Lib.hid hup
      have hfw := fewN_lt (n := n') (by omega)
      obtain ⟨m, hm⟩ : ∃ m, fewN n' = m := ⟨_, rfl⟩
      rw [hm] at HP hfw
      have HM : Hid ((pts ts').length = m) := by rw [pts_len, hn', hm]; exact Lib.hid rfl
      clear hn' he' hok' hL' hb' hup hm
      go_wp2_with fail
      refine HP.out.mono ?_; rintro e w2 ⟨a2, c2, rfl, he2, hb2⟩
      have HE2 := Lib.hid he2
      have HB2 := Lib.hid (HB'.out.trans (hb2.mono HB'.out.size))
      clear he2 hb2 HP
      go_wp2_with fail
      go_roundw
      case rel => exact ⟨h' + 1, m, pts ts', a2, c2, rfl, HM.out, by omega, HE2.out, HUP.out, by rw [flatL_pts]; exact HL'.out, HB2.out⟩
      case measure => simp [lenV]; omega
    · have d1 : decide (1 < n') = false := decide_eq_false h1
      have d1' : decide ((1 : Int) < (n' : Int)) = false := decide_eq_false (by omega)
      have hh2 := (hb'.block w.heap.size hz1).trans HH.out
      have HH2 := Lib.hid hh2
      have zz := fun i => unfrozen hh2 i
      have r0 : wr.cell? ⟨w.heap.size, 0, none⟩ = some (.pointer none) := by rw [cell_at hh2]; rfl
      have HBx := Lib.hid (HAL.out.trans (HB'.out.mono (by omega)))
      by_cases h0 : n' = 0
      · subst h0
        have hts : ts' = [] := List.length_eq_zero_iff.1 hn'
        have hLn : L = [] := by rw [← hL', hts]; rfl
        have HLn := Lib.hid hLn
        clear hn' he' hok' hL' hb' hh2 hts hLn
        go_wp2_with fail
        have hs := heap_set_at (o := 0) (u := Value.pointer none) HH2.out
        have hB := HBx.out.setCell (p := ⟨w.heap.size, 0, none⟩) (Nat.le_refl _) (Value.pointer none)
        have q0 : (wr.setCell ⟨w.heap.size, 0, none⟩ (Value.pointer none)).cell? ⟨w.heap.size, 0, none⟩ = some (Value.pointer none) := by rw [cell_at hs]; rfl
        exact bodyPost_ret (v := .agg #[.pointer none]) (by simp [results, Try.results44, go_sem, q0]) rfl ⟨.pointer none, rfl, .inl ⟨rfl, HLn.out⟩, hB⟩
      · obtain rfl : n' = 1 := by omega
        obtain ⟨g, o, rfl, hgz⟩ := he'.has (by omega)
        obtain ⟨b', hcb, hin⟩ := he'.at (x := nth ts' 0) (nth_at (by omega))
        have hts : ts' = [mk1 (nth ts' 0)] := by
          have h2 := nth_at (ks := ts') (k := 0) (by omega)
          obtain ⟨x, hx⟩ := List.length_eq_one_iff.1 hn'
          rw [hx] at h2 ⊢
          injection h2 with h2
          rw [h2]; rfl
        have hfl : flatL h' (nth ts' 0) = L := by rw [← hL', hts]; exact (flat_one _).symm
        have hT : Tin wr 118 (ptr b') L := .inr ⟨b', h', nth ts' 0, rfl, hin, hok'.1 hn', hfl.symm⟩
        have HT := Lib.hid hT
        clear hn' he' hok' hL' hb' hh2 hts hfl hT hin
        have e1 : o + 0 = o := Nat.add_zero o
        rw [e1] at hcb
        go_wp2_with fail
        have hs := heap_set_at (o := 0) (u := ptr b') HH2.out
        have hB := HBx.out.setCell (p := ⟨w.heap.size, 0, none⟩) (Nat.le_refl _) (ptr b')
        have hT := HT.out.setNil (u := ptr b') HH2.out (by decide) HG.out
        have q0 : (wr.setCell ⟨w.heap.size, 0, none⟩ (ptr b')).cell? ⟨w.heap.size, 0, none⟩ = some (ptr b') := by rw [cell_at hs]; rfl
        exact bodyPost_ret (v := .agg #[ptr b']) (by simp [results, Try.results44, go_sem, q0]) rfl ⟨ptr b', rfl, hT, hB⟩

set_option maxRecDepth 100000 in
set_option maxHeartbeats 1000000 in
theorem of_i {w : World} {a : Option Addr} {c n : Nat} {xs : List Value} (H : S3 w a c xs) (hn : xs.length = n) (hl : n ≤ 100000) (hg : Gd xs) :
    Calls Try.prog 33 #[.slice a n c] w fun e w' => ∃ pv, e = .returned (.agg #[pv]) ∧ Tin w' 118 pv xs ∧ Below w.heap.size w w' := by
  have al := t_al w (Obj.cells #[Value.pointer none] 48)
  have hh := heap_alloc_new w (Obj.cells #[Value.pointer none] 48)
  have hfl : flatL 0 xs = xs := flatL_zero xs
  have HP := Lib.hid (pack_li (Es.ofSl (H.below al)) hn hl (by have e := congrArg List.length hfl; have e2 : xs.length = n := hn; omega))
  have hf2 : flatL 1 (pts (v0 xs)) = xs := by rw [flatL_pts]; exact hfl
  have hpn : (pts (v0 xs)).length = fewN n := by rw [pts_len]; show fewN xs.length = _; rw [hn]
  have hfw := fewN_le n
  have HTP : Hid (∀ w' a' c', Es w' 118 1 (pts (v0 xs)) a' c' → Calls Try.prog 44 #[.slice a' (fewN n) c'] w' fun e w'' => ∃ pv, e = .returned (.agg #[pv]) ∧ Tin w'' 118 pv xs ∧ Below w'.heap.size w' w'') := by
    refine Lib.hid (fun w' a' c' he => ?_)
    have := top_i he hpn (by omega) topok_leaf (by rw [hf2]; exact hg) (by rw [hf2]; omega)
    rw [hf2] at this
    exact this
  have HG := Lib.hid hg
  obtain ⟨m, hm⟩ : ∃ m, fewN n = m := ⟨_, rfl⟩
  rw [hm] at HP HTP
  clear H hfl hf2 hpn hfw hn hg hm
  go_enter Try.func33, Try.ntmps33
  go_upto_region 1 with fail
  generalize w.alloc (Obj.cells #[Value.pointer none] 48) = w1 at *
  have HAL := Lib.hid al
  have HH := Lib.hid hh
  have hz1 := lt_of_heap hh
  clear al hh
  go_wp2_with fail
  refine HP.out.mono ?_; rintro e w2 ⟨a2, c2, rfl, he2, hb2⟩
  have HE2 := Lib.hid (HTP.out w2 a2 c2 he2)
  have HB2 := Lib.hid hb2
  clear he2 hb2 HP HTP
  go_wp2_with fail
  refine HE2.out.mono ?_; rintro e w3 ⟨pv, rfl, hT, hb3⟩
  have hb13 := HB2.out.trans (hb3.mono HB2.out.size)
  have hh2 := (hb13.block w.heap.size hz1).trans HH.out
  have HH2 := Lib.hid hh2
  have zz := fun i => unfrozen hh2 i
  have r0 : w3.cell? ⟨w.heap.size, 0, none⟩ = some (.pointer none) := by rw [cell_at hh2]; rfl
  have HBx := Lib.hid (HAL.out.trans (hb13.mono (by omega)))
  have HT := Lib.hid hT
  have hone := hT.one
  clear hb13 hh2 hb3 hT HE2
  rcases hone with rfl | ⟨b', rfl⟩
  all_goals
    go_wp2_with fail
  · have hs := heap_set_at (o := 0) (u := Value.pointer none) HH2.out
    have hB := HBx.out.setCell (p := ⟨w.heap.size, 0, none⟩) (Nat.le_refl _) (Value.pointer none)
    have hT := HT.out.setNil (u := Value.pointer none) HH2.out (by decide) HG.out
    have q0 : (w3.setCell ⟨w.heap.size, 0, none⟩ (Value.pointer none)).cell? ⟨w.heap.size, 0, none⟩ = some (Value.pointer none) := by rw [cell_at hs]; rfl
    exact bodyPost_ret (v := .agg #[.pointer none]) (by simp [results, Try.results33, go_sem, q0]) rfl ⟨.pointer none, rfl, hT, hB⟩
  · have hs := heap_set_at (o := 0) (u := ptr b') HH2.out
    have hB := HBx.out.setCell (p := ⟨w.heap.size, 0, none⟩) (Nat.le_refl _) (ptr b')
    have hT := HT.out.setNil (u := ptr b') HH2.out (by decide) HG.out
    have q0 : (w3.setCell ⟨w.heap.size, 0, none⟩ (ptr b')).cell? ⟨w.heap.size, 0, none⟩ = some (ptr b') := by rw [cell_at hs]; rfl
    exact bodyPost_ret (v := .agg #[ptr b']) (by simp [results, Try.results33, go_sem, q0]) rfl ⟨ptr b', rfl, hT, hB⟩

end Go.Proofs.Ytkgakgceamafcaa

namespace Go.Proofs.Ytkgakgceamafcaa
open Go Go.RowKit
set_option linter.unusedVariables false

set_option maxHeartbeats 1000000 in
theorem len_i {w : World} {pv : Value} {L : List Value} (H : Tin w 118 pv L) :
    Calls Try.prog 61 #[.agg #[pv]] w fun e w' => e = .returned (.int .i64 L.length) ∧ Below w.heap.size w w' := by
  rcases H with ⟨rfl, rfl⟩ | ⟨b, h, t, rfl, hin, hok, rfl⟩
  · have hh := heap_alloc_new w (Obj.cells #[Value.pointer none] 48)
    have al := t_al w (Obj.cells #[Value.pointer none] 48)
    have c0 : (w.alloc (Obj.cells #[Value.pointer none] 48)).cell? ⟨w.heap.size, 0, none⟩ = some (.pointer none) := by rw [cell_at hh]; rfl
    have AL := Lib.hid al
    clear hh al
    go_enter Try.func61, Try.ntmps61
    go_wp2_with fail
    go_ret
    exact ⟨rfl, AL.out⟩
  · have hh := heap_alloc_new w (Obj.cells #[ptr b] 48)
    have al := t_al w (Obj.cells #[ptr b] 48)
    have c0 : (w.alloc (Obj.cells #[ptr b] 48)).cell? ⟨w.heap.size, 0, none⟩ = some (ptr b) := by rw [cell_at hh]; rfl
    have c2 := (al.cell (p := ⟨b, 2, none⟩) hin.lt).trans hin.num
    have AL := Lib.hid al
    generalize (flatL h t).length = n at *
    clear hh al hin hok
    go_enter Try.func61, Try.ntmps61
    go_wp2_with fail
    go_ret
    exact ⟨rfl, AL.out⟩
theorem root_i {w : World} {pv : Value} {L : List Value} (H : Tin w 118 pv L) :
    Calls Try.prog 80 #[.agg #[pv]] w fun e w' => e = .returned pv ∧ Below w.heap.size w w' := by
  rcases H.one with rfl | ⟨b, rfl⟩
  · have hh := heap_alloc_new w (Obj.cells #[Value.pointer none] 48)
    have al := t_al w (Obj.cells #[Value.pointer none] 48)
    have c0 : (w.alloc (Obj.cells #[Value.pointer none] 48)).cell? ⟨w.heap.size, 0, none⟩ = some (.pointer none) := by rw [cell_at hh]; rfl
    have AL := Lib.hid al
    clear hh al
    go_enter Try.func80, Try.ntmps80
    go_wp2_with fail
    go_ret
    exact ⟨rfl, AL.out⟩
  · have hh := heap_alloc_new w (Obj.cells #[ptr b] 48)
    have al := t_al w (Obj.cells #[ptr b] 48)
    have c0 : (w.alloc (Obj.cells #[ptr b] 48)).cell? ⟨w.heap.size, 0, none⟩ = some (ptr b) := by rw [cell_at hh]; rfl
    have AL := Lib.hid al
    clear hh al
    go_enter Try.func80, Try.ntmps80
    go_wp2_with fail
    go_ret
    exact ⟨rfl, AL.out⟩
theorem gd_repl {L o : List Value} {i j : Nat} (h : Gd L) (ho : Gd o) : Gd (replL L i j o) := by
  intro v hv
  unfold replL at hv
  rcases List.mem_append.1 hv with hv | hv
  · rcases List.mem_append.1 hv with hv | hv
    · exact h v (List.mem_of_mem_take hv)
    · exact ho v hv
  · exact h v (List.mem_of_mem_drop hv)
theorem two_blocks (w : World) (o1 o2 : Obj) : ∃ w1, (w.alloc o1).alloc o2 = w1 ∧ Below w.heap.size w w1 ∧ w1.heap.size = w.heap.size + 2 ∧ w1.heap[w.heap.size]? = some o1 ∧ w1.heap[w.heap.size + 1]? = some o2 := by
  refine ⟨_, rfl, (t_al w o1).trans ((t_al _ o2).mono (by simp)), by simp, ?_, ?_⟩
  · exact ((t_al (w.alloc o1) o2).block w.heap.size (by simp)).trans (heap_alloc_new w o1)
  · have := heap_alloc_new (w.alloc o1) o2
    rw [show (w.alloc o1).heap.size = w.heap.size + 1 by simp] at this
    exact this

end Go.Proofs.Ytkgakgceamafcaa
