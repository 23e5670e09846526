/-
  Do keys make a command (makes)? At this seat's numbers.
-/
import Derived.Test.YtjmpokgdgnjojaaDoorGrZ
namespace Go.Proofs.YtjmpokgdgnjojaaDoor
open Go Go.RowKit
set_option linter.unusedVariables false

/-- What makes has: the parser, the command's box. -/
structure MkI (w0 w : World) (p : Nat) (v : Value) (S : Ps) (c : Cm) : Prop where
  ps : PsIn w p p v S
  bc : w.heap[w0.heap.size]? = some (cmO c)
  low : Below w0.heap.size w0 w
  lt : w0.heap.size < p
section
variable {w0 w w' : World} {p : Nat} {v : Value} {S : Ps} {c : Cm}
theorem MkI.pl (H : MkI w0 w p v S c) : p < w.heap.size := by
  obtain ⟨nx, h1, _⟩ := H.ps.pr
  exact lt_of_heap h1
theorem MkI.below (H : MkI w0 w p v S c) (hb : Below w.heap.size w w') : MkI w0 w' p v S c :=
  ⟨H.ps.below hb, (hb.block _ (lt_of_heap H.bc)).trans H.bc, H.low.trans (hb.mono H.low.size), H.lt⟩
theorem MkI.key {v2 : Value} {S2 : Ps} {w2 : World} (H : MkI w0 w p v S c) (hp : PsIn w2 p p v2 S2) (m : KMv p p v v2 w w2) : MkI w0 w2 p v2 S2 c :=
  ⟨hp, (m.low.block _ H.lt).trans H.bc, H.low.trans (m.low.mono (by have := H.lt; omega)), H.lt⟩
end
theorem cm_not {C c : Cm} (h : cmEq C c = false) : ¬ (C.op = c.op ∧ C.vb = c.vb ∧ C.ct = c.ct ∧ C.rg = c.rg ∧ C.ch = c.ch) := by
  rintro ⟨h1, h2, h3, h4, h5⟩
  unfold cmEq at h
  rw [h1, h2, h3, h4, h5] at h
  simp at h
theorem drop_empty {l : List Int} {i n : Nat} (hn : n = l.length) (hi : i < n) : (l.drop (i + 1)).isEmpty = ((i : Int) == (n : Int) - 1) := by
  rw [Bool.eq_iff_iff]
  simp
  omega

set_option maxRecDepth 100000 in
set_option maxHeartbeats 16000000 in
theorem makes_of (c : Cm) (l : List Int) {a : Option Addr} {n k : Nat} (w : World) (hn : n = l.length) (Hl : Sl w a k (nums l)) (hlen : l.length ≤ 1000) :
    Calls Tryd.prog 12 #[.slice a n k, cmV c] w fun e w' => e = .returned (.bool (mkG c p0M l)) ∧ Below w.heap.size w w' := by
  have HLs := Lib.hid Hl
  have HLn := Lib.hid hn
  have HLe := Lib.hid hlen
  have hnb : n ≤ 1000 := by omega
  have HN := Lib.hid (gnew_of (w.alloc (cmO c)))
  have hz : (w.alloc (cmO c)).heap.size = w.heap.size + 1 := by simp
  have H0 : MkI w ((w.alloc (cmO c)).alloc (.cells (prC (.slice none 0 0) c0M .nilFunc) 44)) (w.heap.size + 1) (.slice none 0 0) p0M c := by
    have h := PsIn.start (w := w.alloc (cmO c)) (B := w.heap.size + 1) (by rw [hz]; exact Nat.le_refl _)
    rw [hz] at h
    exact ⟨h, heap_mid w _ _, (t_al w _).trans ((t_al _ _).mono (by rw [hz]; omega)), by omega⟩
  rw [hz] at HN
  have H0 := Lib.hid H0
  obtain ⟨R, hR⟩ : ∃ R, R = mkG c p0M l := ⟨_, rfl⟩
  rw [← hR]
  have HR := Lib.hid hR
  clear hn Hl hlen hz hR
  go_enter Tryd.func12, Tryd.ntmps12
  go_wp2_with fail
  refine HN.out.mono ?_; rintro e w1 ⟨rfl, rfl⟩
  go_wp2_with fail
  clear HN
  go_loopw [14] (fun v14 wr => ∃ (i : Nat) (v : Value) (S : Ps), v14 = .int .i64 i ∧ i ≤ n ∧ S.bg.length ≤ i ∧ MkI w wr (w.heap.size + 1) v S c ∧ R = mkG c S (l.drop i)) (fun v14 _ => n - (intOf v14).toNat)
  case atStart => exact ⟨0, _, p0M, rfl, Nat.zero_le _, Nat.le_refl _, H0.out, HR.out⟩
  case round =>
    obtain ⟨i, v, S, rfl, hi, hbl, hM, hRr⟩ := hrel
    have HM := Lib.hid hM
    by_cases hlt : i < n
    · have dj : decide ((i : Int) < (n : Int)) = true := decide_eq_true (by omega)
      obtain ⟨x, hx⟩ : ∃ x, l[i]? = some x := ⟨_, List.getElem?_eq_getElem (by rw [← HLn.out]; exact hlt)⟩
      obtain ⟨g, o, rfl⟩ := HLs.out.numsome (by rw [← HLn.out]; omega)
      have c0 := ((HLs.out.below hM.low).num hx).1
      have e0 : (0 : Int) ≤ (i : Int) := by omega
      have e1 : (i : Int) < (n : Int) := by omega
      have hK := key_of hM.ps (Nat.le_of_lt hM.pl) (by have := HLe.out; have := HLn.out; omega) x 0 false
      have hcs := keyF_cases S x 0 false
      rw [drop_at hx, mkG_cons] at hRr
      generalize keyF S x 0 false = y at hK hRr hcs
      have hy : (∃ S', y = ((c0M, 0, 0), S') ∧ S'.bg.length ≤ i + 1) ∨ (∃ C, y = ((C, 1, 0), p0M)) ∨ ∃ er, y = ((c0M, 2, er), p0M) := by
        rcases hcs with ⟨_, e⟩ | ⟨_, ⟨st, c2, _, e⟩ | ⟨c2, _, e⟩ | ⟨er, _, e⟩⟩
        · exact .inl ⟨_, e, Nat.zero_le _⟩
        · exact .inl ⟨_, e, by show (S.bg ++ [x]).length ≤ _; rw [List.length_append]; simp; omega⟩
        · exact .inr (.inl ⟨_, e⟩)
        · exact .inr (.inr ⟨_, e⟩)
      clear hcs
      rcases hy with ⟨S', rfl, hS'⟩ | ⟨C, rfl⟩ | ⟨er, rfl⟩
      · simp only [if_true] at hRr
        have HRr := Lib.hid hRr
        have HK := Lib.hid hK
        have HS := Lib.hid hS'
        clear hK hRr hM hbl hx hS'
        go_wp2_with fail
        refine HK.out.mono ?_; rintro e w3 ⟨rfl, v3, p3, m3, _⟩
        have HM3 := Lib.hid ((HM.out.key p3 m3).below (t_al w3 (cmO c0M)))
        clear p3 m3
        go_wp2_with fail
        go_roundw
        case rel => exact ⟨i + 1, v3, S', by go_num, by omega, HS.out, HM3.out, HRr.out⟩
        case measure => simp [intOf]; omega
      · simp only [Int.one_ne_zero, if_false, decide_true, Bool.true_and] at hRr
        rw [drop_empty HLn.out hlt] at hRr
        have HK := Lib.hid hK
        clear hK hM hbl hx
        cases hcm : cmEq C c with
        | true =>
          have := cmEq_eq hcm
          subst this
          rw [hcm, Bool.true_and] at hRr
          have HRr := Lib.hid hRr
          clear hRr hcm
          go_wp2_with fail
          refine HK.out.mono ?_; rintro e w3 ⟨rfl, v3, p3, m3, _⟩
          have hM3 := (HM.out.key p3 m3).below (t_al w3 (cmO C))
          obtain ⟨d0, d1, d2, d3, d4⟩ := rowCells hM3.bc
          obtain ⟨f0, f1, f2, f3, f4⟩ := rowCells (heap_alloc_new w3 (cmO C))
          have HM3 := Lib.hid hM3
          clear p3 m3 hM3
          go_wp2_with fail
          go_ret
          exact ⟨by rw [HRr.out]; first | rfl | simp, HM3.out.low⟩
        | false =>
          rw [hcm, Bool.false_and] at hRr
          have HRr := Lib.hid hRr
          have HNe : Hid (¬ (C.op = c.op ∧ C.vb = c.vb ∧ C.ct = c.ct ∧ C.rg = c.rg ∧ C.ch = c.ch)) := Lib.hid (cm_not hcm)
          clear hRr hcm
          go_wp2_with fail
          refine HK.out.mono ?_; rintro e w3 ⟨rfl, v3, p3, m3, _⟩
          have hM2 := HM.out.key p3 m3
          have hM3 := hM2.below (t_al w3 (cmO C))
          obtain ⟨d0, d1, d2, d3, d4⟩ := rowCells hM3.bc
          obtain ⟨f0, f1, f2, f3, f4⟩ := rowCells (heap_alloc_new w3 (cmO C))
          have HLw : Hid (∀ o, Below w.heap.size w (w3.alloc o)) := Lib.hid fun o => hM2.low.trans ((t_al w3 o).mono hM2.low.size)
          clear p3 m3 hM2 hM3
          go_wp2_with fail
          all_goals first
            | exact absurd ⟨‹C.op = c.op›, ‹C.vb = c.vb›, ‹C.ct = c.ct›, ‹C.rg = c.rg›, ‹C.ch = c.ch›⟩ HNe.out
            | (go_ret; exact ⟨by rw [HRr.out]; first | rfl | simp, HLw.out _⟩)
      · simp only [show ¬ ((2 : Int) = 0) by decide, if_false, show decide ((2 : Int) = 1) = false by decide, Bool.false_and] at hRr
        have HRr := Lib.hid hRr
        have HK := Lib.hid hK
        clear hK hRr hM hbl hx
        go_wp2_with fail
        refine HK.out.mono ?_; rintro e w3 ⟨rfl, v3, p3, m3, _⟩
        have HM3 := Lib.hid ((HM.out.key p3 m3).below (t_al w3 (cmO c0M)))
        clear p3 m3
        go_wp2_with fail
        go_ret
        exact ⟨by rw [HRr.out]; first | rfl | simp, HM3.out.low⟩
    · have dj : decide ((i : Int) < (n : Int)) = false := decide_eq_false (by omega)
      rw [List.drop_eq_nil_of_le (by rw [← HLn.out]; omega), mkG_nil] at hRr
      have HRr := Lib.hid hRr
      clear hM hRr
      go_wp2_with fail
      go_ret
      exact ⟨by rw [HRr.out]; first | rfl | simp, HM.out.low⟩
end Go.Proofs.YtjmpokgdgnjojaaDoor
