/-
  The contract of merge.Runs, at this seat's numbers.
-/
import Derived.Test.YtlglenbgaalhiaaMgI
import Derived.IntWalk
namespace Go.Proofs.Ytlglenbgaalhiaa
open Go Go.RowKit
set_option linter.unusedVariables false

theorem runs_next {c : Int → Int → Int} {l : List Int} {k fr : Nat} {rs : List (List Int)} (hk : k < l.length) (hf : fr ≤ k) (h : rs ++ (if fr < k then [(l.drop fr).take (k - fr)] else []) = runsI c l k) (h1 : fr < k → ¬ 0 < c (l.getD (k - 1) 0) (l.getD k 0)) (h2 : fr = k → 0 < k → 0 < c (l.getD (k - 1) 0) (l.getD k 0)) : rs ++ [(l.drop fr).take (k + 1 - fr)] = runsI c l (k + 1) := by
  have hx : l.getD k 0 = l[k] := by rw [List.getD_eq_getElem?_getD, List.getElem?_eq_getElem hk]; rfl
  have hseg : (l.drop fr).take (k + 1 - fr) = (l.drop fr).take (k - fr) ++ [l.getD k 0] := by
    rw [show k + 1 - fr = (k - fr) + 1 by omega, List.take_add_one, List.getElem?_drop, show fr + (k - fr) = k by omega, List.getElem?_eq_getElem hk, hx]; rfl
  rw [runsI]
  by_cases hfk : fr < k
  · rw [if_pos hfk] at h
    rw [if_neg (by have := h1 hfk; omega), ← h]
    simp only [List.dropLast_concat, List.getLastD_concat, hseg]
  · have hfe : fr = k := by omega
    subst hfe
    rw [if_neg hfk, List.append_nil] at h
    have hc : fr = 0 ∨ 0 < c (l.getD (fr - 1) 0) (l.getD fr 0) := by
      rcases Nat.eq_zero_or_pos fr with h0 | h0
      · exact .inl h0
      · exact .inr (h2 rfl h0)
    rw [if_pos hc, ← h, hseg]
    simp

theorem catch_runs (p : Addr) (w : World) :
    CallsD Try.prog 24 #[.pointer (some p)] .returning w fun e u' w' => e = .returned (.tuple #[]) ∧ u' = .returning ∧ w' = w := by
  refine callsD_of_wpS Try.func24 rfl fun c₀ cs hu => ?_
  apply wpS_seq
  apply wpS_region
  simp [wpOpsS, go_sem, recoverD, hu, Try.ntmps24, Exit.thenS]
  refine wpS_cond (t := false) (by simp [Act.eval, Array.replicate]) ?_
  simp only [Bool.false_eq_true, if_false]
  refine wpS_of_wp (wp_skip ?_)
  cases c₀
  simp_all [bodyPostS, results, Try.results24]

/-- Where Runs stands. -/
structure Rn (w : World) (c : Int → Int → Int) (l : List Int) (k fr : Nat) (wr : World) (T : List RowM) : Prop where
  low : Below w.heap.size w wr
  box : ∃ a cb, wr.heap[w.heap.size]? = some (.cells #[.slice a T.length cb] 32 (0, 0)) ∧ wr.ownsRow w.heap.size 22 1 (.slice a T.length cb) T.length (T.map rowV)
  own : TOwn wr w.heap.size T
  is : T.map (fun p : RowM => p.2.2) ++ (if fr < k then [(l.drop fr).take (k - fr)] else []) = runsI c l k
theorem Rn.below {w wr w' : World} {c : Int → Int → Int} {l : List Int} {k fr : Nat} {T : List RowM} (h : Rn w c l k fr wr T) (hb : Below wr.heap.size wr w') : Rn w c l k fr w' T := by
  obtain ⟨a, cb, h1, h2⟩ := h.box
  exact ⟨h.low.trans (hb.mono h.low.size), ⟨a, cb, (hb.block _ (lt_of_heap h1)).trans h1, own_below h2 hb⟩, h.own.below hb, h.is⟩

set_option maxRecDepth 100000 in
set_option maxHeartbeats 16000000 in
theorem runs_of {w : World} {fv : Value} {D : Int → Prop} {c : Int → Int → Int} {a : Option Addr} {ca : Nat} (l : List Int) (hC : Cv w fv D c) (hT : Sl w a ca (nums l)) (hD : ∀ x ∈ l, D x) (hn : l.length ≤ 100000) :
    Calls Try.prog 16 #[.slice a l.length ca, fv] w (RPost (runsI c l l.length) w) := by
  obtain ⟨i0, hi0, hz0, hz1, hz2⟩ := info_parts info_rows
  obtain ⟨n, hnn⟩ : ∃ n, l.length = n := ⟨_, rfl⟩
  have HC := Lib.hid hC
  have HT := Lib.hid hT
  have HD := Lib.hid hD
  have HN := Lib.hid hnn
  rw [hnn] at hn ⊢
  clear hC hT hD hnn
  have hmf : ∀ (fn : Fn) (first cap : Array Value) (w : World), (Instr.makeFunc fn first cap).run Try.prog w = .ok (.func fn first cap) w := fun _ _ _ _ => rfl
  obtain ⟨kf, capf, rfl, hcf, hcall⟩ := HC.out
  have HCALL := Lib.hid hcall
  clear hcall
  have al1 := t_al w (.cells #[.slice none 0 0] 32)
  have hh1 := heap_alloc_new w (.cells #[.slice none 0 0] 32)
  have hG0 : Rn w c l 0 0 (w.alloc (.cells #[.slice none 0 0] 32)) [] := ⟨al1, ⟨none, 0, hh1, t_nil _ _ _ _⟩, fun p hp => by simp at hp, by simp [runsI]⟩
  have HG0 := Lib.hid hG0
  clear hG0 al1 hh1
  go_enter_defers Try.func16, Try.ntmps16
  go_wp2_with fail
  go_loopw [5, 10] (fun v5 v10 wr => ∃ (k fr : Nat) (T : List RowM), v5 = .int .i64 fr ∧ v10 = .int .i64 k ∧ k ≤ n ∧ fr ≤ k ∧ T.length ≤ k ∧ Rn w c l k fr wr T ∧ (k < n → fr < k → ¬ 0 < c (l.getD (k - 1) 0) (l.getD k 0)) ∧ (k < n → fr = k → 0 < k → 0 < c (l.getD (k - 1) 0) (l.getD k 0)) ∧ (k = n → fr = k)) (fun _ v10 _ => n - (intOf v10).toNat)
  case atStart => exact ⟨0, 0, [], rfl, rfl, by omega, by omega, by simp, HG0.out, fun _ h => absurd h (by omega), fun _ _ h => absurd h (by omega), fun _ => rfl⟩
  case round =>
    obtain ⟨wq, rfl⟩ : ∃ wq : World, wq = wr := ⟨_, rfl⟩
    obtain ⟨k, fr, T, rfl, rfl, hk, hfr, hTk, hg, h1, h2, h3⟩ := hrel
    have HG := Lib.hid hg
    have H1 := Lib.hid h1
    have H2 := Lib.hid h2
    have H3 := Lib.hid h3
    clear hg h1 h2 h3 HG0
    by_cases hlt : k < n
    · have dk : decide (k < n) = true := decide_eq_true hlt
      obtain ⟨g, o, rfl⟩ := HT.out.numsome (by rw [HN.out]; omega)
      obtain ⟨x, hx⟩ : ∃ x, l[k]? = some x := ⟨_, List.getElem?_eq_getElem (by rw [HN.out]; exact hlt)⟩
      have c0 := ((HT.out.below HG.out.low).num hx).1
      have hgl := ((HT.out.below HG.out.low).num hx).2
      have hgd : l.getD k 0 = x := by rw [List.getD_eq_getElem?_getD, hx]; rfl
      have hnx : T.map (fun p : RowM => p.2.2) ++ [(l.drop fr).take (k + 1 - fr)] = runsI c l (k + 1) := (runs_next (by rw [HN.out]; exact hlt) hfr HG.out.is (H1.out hlt) (H2.out hlt))
      have e0 : (0 : Int) ≤ (k : Int) := by omega
      have e1 : (k : Int) < (n : Int) := by omega
      have hxD : D x := HD.out x (List.mem_of_getElem? hx)
      have hcap := HT.out.cap
      rw [nums_len, HN.out] at hcap
      have hsub : ((l.drop fr).take (k + 1 - fr)).length = k + 1 - fr := by rw [List.length_take, List.length_drop, HN.out]; omega
      have hSub : Sl wq (some ⟨g, o + fr, none⟩) (ca - fr) (nums ((l.drop fr).take (k + 1 - fr))) := by
        rw [← nums_take, ← nums_drop]
        exact (Sl.drop (HT.out.below HG.out.low) (by rw [nums_len, HN.out]; omega) ⟨g, o + fr, none⟩ (fun _ => rfl) ⟨g, _, rfl⟩).take _
      have hcl := fun w' (hb : Below wq.heap.size wq w') => clone_of _ (hSub.below hb) (by rw [hsub]; omega) (by rw [hsub]; omega)
      rw [hsub] at hcl
      obtain ⟨sub, hsb⟩ : ∃ sub, (l.drop fr).take (k + 1 - fr) = sub := ⟨_, rfl⟩
      have HSB := Lib.hid hsb
      rw [hsb] at hcl hsub hnx
      have HNX := Lib.hid hnx
      clear hsb hnx
      obtain ⟨m, hm⟩ : ∃ m, m = k + 1 - fr := ⟨_, rfl⟩
      rw [← hm] at hcl hsub
      have HSUB := Lib.hid hsub
      have HCL := Lib.hid hcl
      have hm' : (k : Int) + 1 - (fr : Int) = (m : Int) := by omega
      have hm'' : k + 1 - fr = m := hm.symm
      have s0 : (0 : Int) ≤ (fr : Int) := by omega
      have s1 : (fr : Int) ≤ (k : Int) + 1 := by omega
      have s2 : (k : Int) + 1 ≤ (n : Int) := by omega
      have s3 : (k : Int) + 1 ≤ (ca : Int) := by omega
      clear hSub hcl hsub
      by_cases hl1 : k + 1 = n
      · have q1 : (((k : Int) + 1) == (n : Int)) = true := by rw [beq_iff_eq]; omega
        have HX1 : Hid (k + 1 < n → 0 < c (l.getD k 0) (l.getD (k + 1) 0)) := Lib.hid (fun h => absurd h (by omega))
        clear hl1
        go_wp2_with fail
        refine wp_region_noPanic ?_
        go_region
        all_goals
          refine NoPanic.normal ?_
          obtain ⟨wE, hwE⟩ : ∃ wE : World, wq.drew = wE := ⟨_, rfl⟩
          have HGE : Hid (Rn w c l k fr wE T) := Lib.hid (by rw [← hwE]; exact HG.out.below (Below.refl _ _).drew)
          have HCLE := Lib.hid (fun w' (hb : Below wE.heap.size wE w') => HCL.out w' (by rw [← hwE] at hb; exact (Below.refl wq.heap.size wq).drew.trans hb))
          rw [hwE]
          clear hwE c0
          obtain ⟨ab, cb, hbx, hox⟩ := HGE.out.box
          have c0 : wE.cell? ⟨w.heap.size, 0, none⟩ = some (.slice ab T.length cb) := by rw [cell_at hbx]; rfl
          have f0 := unfrozen hbx 0
          have hszw : w.heap.size < wE.heap.size := lt_of_heap hbx
          have HBX := Lib.hid hbx
          have HOX := Lib.hid hox
          generalize hLn : T.length = tl at *
          have HLN := Lib.hid hLn
          have B1 : Hid (Below wE.heap.size wE wE.drew) := Lib.hid (Below.refl _ _).drew
          have C3 : Hid (tl + 1 ≤ maxLen) := by show _ ≤ _; unfold maxLen; omega
          have C4 : Hid ((tl + 1) * 24 ≤ 140737488355328) := by show _ ≤ _; omega
          clear hbx hox hLn
          have s8 : ¬ ca = fr := by omega
          obtain ⟨k1, hk1⟩ : ∃ k1, k1 = k + 1 := ⟨_, rfl⟩
          have t1 : (fr : Int) ≤ (k1 : Int) := by omega
          have t2 : (k1 : Int) ≤ (ca : Int) := by omega
          have t3 : k1 - fr = m := by omega
          have t4 : fr ≤ k1 := by omega
          have t5 : k1 ≤ ca := by omega
          have s6 : IntKind.i64.wrap (k1 : Int) = (k1 : Int) := IntWalk.i64_in _ (by omega)
          have s9 : (k : Int) + 1 = (k1 : Int) := by omega
          have HK1 := Lib.hid hk1
          clear hk1 hm hm' hm'' s1 s2 s3
          go_wp2_with fail
          refine wp_region_noPanic ?_
          go_region_law (first
            | ((refine step_append_lies _ rfl (.tmp 32) (.tmp 39) 32 rfl w.heap.size 22 i0 (.slice none 0 0) 1 24 Try.underlying32 hi0 hz0 hz1 hz2 rfl (by decide) (.slice ab tl cb) tl (T.map rowV) rfl (HOXC.out.alloc _) ⟨wC.heap.size, 0, none⟩ 1 1 [.slice aC m cC] rfl rfl (c1_one wC _ _) (c2_one _ rfl) (by decide) C3.out C4.out (HLC.out.alloc HLC.out.size _).size _ rfl ?_); intro g1 k1 w2 ho1 hg1 hat1 hlt1; have hbxA := ((t_al wC (.cells #[.slice aC m cC] 22)).block _ hszC).trans HBXC.out; have hoxA := HOXC.out.alloc (.cells #[.slice aC m cC] 22); have hb2 := (hg1.block _ (lt_of_heap hbxA) (fun e => own_ne hoxA hbxA (by decide) e.symm)).trans hbxA; have HW2 := Lib.hid ((HLC.out.alloc HLC.out.size (.cells #[.slice aC m cC] 22)).grown hg1 (HLC.out.alloc HLC.out.size _).size (fun q hq => (hoxA.lt q hq).1)); have c2 : w2.cell? ⟨w.heap.size, 0, none⟩ = some (.slice ab tl cb) := by { rw [cell_at hb2]; rfl }; have f2 := unfrozen hb2 0; have HB2 := Lib.hid hb2; have HT2 := Lib.hid ((HTC.out.below (t_al wC _)).grown hoxA hg1 (by decide)); have HN2 := Lib.hid ((TOwn.below (w := wC) (T := [(aC, cC, sub)]) (fun p hp => by { rw [List.mem_singleton.1 hp]; have h := HOC.out; rw [← HSUB.out] at h; exact h }) (t_al wC _)).grown hoxA hg1 (by decide)); have HO2 := Lib.hid ho1; clear hb2 ho1 hg1 hat1 hbxA hoxA)
            | (go_simp; go_at_call 25; refine (HCLE.out _ B1.out).mono ?_; rintro e wC ⟨aC, cC, rfl, hoC, hbC⟩; rw [HSUB.out] at hoC ⊢; have hbC' : Below wE.heap.size wE wC := B1.out.trans hbC; have c0C : wC.cell? ⟨w.heap.size, 0, none⟩ = some (.slice ab tl cb) := (hbC'.cell (p := ⟨w.heap.size, 0, none⟩) hszw).trans c0; have hszC : w.heap.size < wC.heap.size := Nat.lt_of_lt_of_le hszw hbC'.size; have HBXC := Lib.hid ((hbC'.block _ hszw).trans HBX.out); have HOXC := Lib.hid (own_below HOX.out hbC'); have HTC := Lib.hid (HGE.out.own.below hbC'); have HLC := Lib.hid (HGE.out.low.trans (hbC'.mono HGE.out.low.size)); have HOC : Hid (wC.ownsRow w.heap.size 3 1 (.slice aC m cC) m (nums sub)) := Lib.hid (own_mono hoC HGE.out.low.size); clear hoC hbC hbC'))
          all_goals
            have hk1 := HK1.out
            clear s6 t3 s9
            refine NoPanic.normal ?_
            have HRn : Hid (Rn w c l (k + 1) (k + 1) (w2.setCell ⟨w.heap.size, 0, none⟩ (.slice (some ⟨g1, 0, none⟩) (tl + 1) k1)) (T ++ [(aC, cC, sub)])) := Lib.hid (by
              refine ⟨HW2.out.setCell (p := ⟨w.heap.size, 0, none⟩) (Nat.le_refl _) _, ⟨some ⟨g1, 0, none⟩, k1, ?_, ?_⟩, ?_, ?_⟩
              · rw [heap_set_at HB2.out, List.length_append, HLN.out]; rfl
              · rw [List.length_append, HLN.out]
                have h := own_set (u := .slice (some ⟨g1, 0, none⟩) (tl + 1) k1) (o := 0) HO2.out (own_ne HO2.out HB2.out (by decide))
                rw [List.map_append]
                have e : ([(aC, cC, sub)] : List RowM).map rowV = [.slice aC m cC] := by
                  show [Value.slice aC _ cC] = _
                  rw [HSUB.out]
                rw [e]; exact h
              · intro p hp
                rcases List.mem_append.1 hp with hp | hp
                · exact HT2.out.set HB2.out (by decide) p hp
                · exact HN2.out.set HB2.out (by decide) p hp
              · rw [if_neg (by omega), List.append_nil, List.map_append]; exact HNX.out)
            have HX9 := Lib.hid HX1.out
            have HTL9 : Hid ((T ++ [(aC, cC, sub)]).length ≤ k + 1) := Lib.hid (by rw [List.length_append, HLN.out]; simp; omega)
            go_wp2_with fail
            go_roundw
            case rel => exact ⟨k + 1, k + 1, _, by go_num, by go_num, by omega, by omega, HTL9.out, HRn.out, fun _ h => absurd h (by omega), fun h _ _ => HX9.out h, fun _ => rfl⟩
            case measure => simp [intOf]; omega
      · have q1 : (((k : Int) + 1) == (n : Int)) = false := by rw [beq_eq_false_iff_ne]; omega
        obtain ⟨y, hy⟩ : ∃ y, l[k + 1]? = some y := ⟨_, List.getElem?_eq_getElem (by rw [HN.out]; omega)⟩
        have hgy : l.getD (k + 1) 0 = y := by rw [List.getD_eq_getElem?_getD, hy]; rfl
        have c1 := ((HT.out.below HG.out.low).num hy).1
        have hyD : D y := HD.out y (List.mem_of_getElem? hy)
        obtain ⟨s, hs⟩ : ∃ s, c x y = s := ⟨_, rfl⟩
        have hK := fun w' (hb : Below wq.heap.size wq w') => HCALL.out w' x y (HG.out.low.trans (hb.mono HG.out.low.size)) hxD hyD
        simp only [hs] at hK
        have HK := Lib.hid hK
        have HSs : Hid (c (l.getD k 0) (l.getD (k + 1) 0) = s) := Lib.hid (by rw [hgd, hgy]; exact hs)
        have ld1 := fun w' (h : Below wq.heap.size wq w') => (h.cell (p := ⟨g, o + k, none⟩) hgl).trans c0
        have ld2 := fun w' (h : Below wq.heap.size wq w') => (h.cell (p := ⟨g, o + (k + 1), none⟩) hgl).trans c1
        have s4 : (0 : Int) ≤ (k : Int) + 1 := by omega
        have s5 : (k : Int) + 1 < (n : Int) := by omega
        have s6 : IntKind.i64.wrap ((k : Int) + 1) = (k : Int) + 1 := IntWalk.i64_in _ (by omega)
        have s7 : ((k : Int) + 1).toNat = k + 1 := by omega
        clear hK hs hx hy hgd hgy hxD hyD c0 c1
        have hsB1 : Below wq.heap.size wq wq.drew := (Below.refl _ _).drew
        have B1 := Lib.hid hsB1
        go_wp2_with fail
        go_region_held3 (fun w' => Below wq.heap.size wq w') (first | assumption)
          ((refine (HK.out _ B1.out).mono ?_; rintro e w2 ⟨rfl, hb2⟩; have hsB2 := B1.out.trans (hb2.mono B1.out.size); have B2 := Lib.hid hsB2; clear hb2))
        all_goals
          have HGE := Lib.hid (HG.out.below B2.out)
          have HL1 := Lib.hid hl1
          have HCLE := Lib.hid (fun w' (hb : Below w2.heap.size w2 w') => HCL.out w' (B2.out.trans (hb.mono B2.out.size)))
          clear ld1 ld2 hsB1 hsB2 HK B1 s6 s4 s5 s7
          have B2' := B2
          clear B2
          clear B2' hl1
          by_cases hs0 : 0 < s
          · have d5 : decide (s > 0) = true := decide_eq_true hs0
            have d6 : decide (0 < s) = true := decide_eq_true hs0
            have HX2 : Hid (k + 1 < n → 0 < c (l.getD k 0) (l.getD (k + 1) 0)) := Lib.hid (fun _ => by rw [HSs.out]; exact hs0)
            obtain ⟨ab, cb, hbx, hox⟩ := HGE.out.box
            have c0 : w2.cell? ⟨w.heap.size, 0, none⟩ = some (.slice ab T.length cb) := by rw [cell_at hbx]; rfl
            have f0 := unfrozen hbx 0
            have hszw : w.heap.size < w2.heap.size := lt_of_heap hbx
            have HBX := Lib.hid hbx
            have HOX := Lib.hid hox
            generalize hLn : T.length = tl at *
            have HLN := Lib.hid hLn
            have B1 : Hid (Below w2.heap.size w2 w2.drew) := Lib.hid (Below.refl _ _).drew
            have C3 : Hid (tl + 1 ≤ maxLen) := by show _ ≤ _; unfold maxLen; omega
            have C4 : Hid ((tl + 1) * 24 ≤ 140737488355328) := by show _ ≤ _; omega
            clear hbx hox hLn
            have s8 : ¬ ca = fr := by omega
            obtain ⟨k1, hk1⟩ : ∃ k1, k1 = k + 1 := ⟨_, rfl⟩
            have t1 : (fr : Int) ≤ (k1 : Int) := by omega
            have t2 : (k1 : Int) ≤ (ca : Int) := by omega
            have t3 : k1 - fr = m := by omega
            have t4 : fr ≤ k1 := by omega
            have t5 : k1 ≤ ca := by omega
            have s6 : IntKind.i64.wrap (k1 : Int) = (k1 : Int) := IntWalk.i64_in _ (by omega)
            have s9 : (k : Int) + 1 = (k1 : Int) := by omega
            have HK1 := Lib.hid hk1
            clear hk1 hm hm' hm'' s1 s2 s3
            go_wp2_with fail
            refine wp_region_noPanic ?_
            go_region_law (first
              | ((refine step_append_lies _ rfl (.tmp 32) (.tmp 39) 32 rfl w.heap.size 22 i0 (.slice none 0 0) 1 24 Try.underlying32 hi0 hz0 hz1 hz2 rfl (by decide) (.slice ab tl cb) tl (T.map rowV) rfl (HOXC.out.alloc _) ⟨wC.heap.size, 0, none⟩ 1 1 [.slice aC m cC] rfl rfl (c1_one wC _ _) (c2_one _ rfl) (by decide) C3.out C4.out (HLC.out.alloc HLC.out.size _).size _ rfl ?_); intro g1 k1 w5 ho1 hg1 hat1 hlt1; have hbxA := ((t_al wC (.cells #[.slice aC m cC] 22)).block _ hszC).trans HBXC.out; have hoxA := HOXC.out.alloc (.cells #[.slice aC m cC] 22); have hb2 := (hg1.block _ (lt_of_heap hbxA) (fun e => own_ne hoxA hbxA (by decide) e.symm)).trans hbxA; have HW2 := Lib.hid ((HLC.out.alloc HLC.out.size (.cells #[.slice aC m cC] 22)).grown hg1 (HLC.out.alloc HLC.out.size _).size (fun q hq => (hoxA.lt q hq).1)); have c2 : w5.cell? ⟨w.heap.size, 0, none⟩ = some (.slice ab tl cb) := by { rw [cell_at hb2]; rfl }; have f2 := unfrozen hb2 0; have HB2 := Lib.hid hb2; have HT2 := Lib.hid ((HTC.out.below (t_al wC _)).grown hoxA hg1 (by decide)); have HN2 := Lib.hid ((TOwn.below (w := wC) (T := [(aC, cC, sub)]) (fun p hp => by { rw [List.mem_singleton.1 hp]; have h := HOC.out; rw [← HSUB.out] at h; exact h }) (t_al wC _)).grown hoxA hg1 (by decide)); have HO2 := Lib.hid ho1; clear hb2 ho1 hg1 hat1 hbxA hoxA)
              | (go_simp; go_at_call 25; refine (HCLE.out _ B1.out).mono ?_; rintro e wC ⟨aC, cC, rfl, hoC, hbC⟩; rw [HSUB.out] at hoC ⊢; have hbC' : Below w2.heap.size w2 wC := B1.out.trans hbC; have c0C : wC.cell? ⟨w.heap.size, 0, none⟩ = some (.slice ab tl cb) := (hbC'.cell (p := ⟨w.heap.size, 0, none⟩) hszw).trans c0; have hszC : w.heap.size < wC.heap.size := Nat.lt_of_lt_of_le hszw hbC'.size; have HBXC := Lib.hid ((hbC'.block _ hszw).trans HBX.out); have HOXC := Lib.hid (own_below HOX.out hbC'); have HTC := Lib.hid (HGE.out.own.below hbC'); have HLC := Lib.hid (HGE.out.low.trans (hbC'.mono HGE.out.low.size)); have HOC : Hid (wC.ownsRow w.heap.size 3 1 (.slice aC m cC) m (nums sub)) := Lib.hid (own_mono hoC HGE.out.low.size); clear hoC hbC hbC'))
            all_goals
              have hk1 := HK1.out
              clear s6 t3 s9
              refine NoPanic.normal ?_
              have HRn : Hid (Rn w c l (k + 1) (k + 1) (w5.setCell ⟨w.heap.size, 0, none⟩ (.slice (some ⟨g1, 0, none⟩) (tl + 1) k1)) (T ++ [(aC, cC, sub)])) := Lib.hid (by
                refine ⟨HW2.out.setCell (p := ⟨w.heap.size, 0, none⟩) (Nat.le_refl _) _, ⟨some ⟨g1, 0, none⟩, k1, ?_, ?_⟩, ?_, ?_⟩
                · rw [heap_set_at HB2.out, List.length_append, HLN.out]; rfl
                · rw [List.length_append, HLN.out]
                  have h := own_set (u := .slice (some ⟨g1, 0, none⟩) (tl + 1) k1) (o := 0) HO2.out (own_ne HO2.out HB2.out (by decide))
                  rw [List.map_append]
                  have e : ([(aC, cC, sub)] : List RowM).map rowV = [.slice aC m cC] := by
                    show [Value.slice aC _ cC] = _
                    rw [HSUB.out]
                  rw [e]; exact h
                · intro p hp
                  rcases List.mem_append.1 hp with hp | hp
                  · exact HT2.out.set HB2.out (by decide) p hp
                  · exact HN2.out.set HB2.out (by decide) p hp
                · rw [if_neg (by omega), List.append_nil, List.map_append]; exact HNX.out)
              have HX9 := Lib.hid HX2.out
              have HTL9 : Hid ((T ++ [(aC, cC, sub)]).length ≤ k + 1) := Lib.hid (by rw [List.length_append, HLN.out]; simp; omega)
              go_wp2_with fail
              go_roundw
              case rel => exact ⟨k + 1, k + 1, _, by go_num, by go_num, by omega, by omega, HTL9.out, HRn.out, fun _ h => absurd h (by omega), fun h _ _ => HX9.out h, fun _ => rfl⟩
              case measure => simp [intOf]; omega
          · have d5 : decide (s > 0) = false := decide_eq_false hs0
            have d6 : decide (0 < s) = false := decide_eq_false hs0
            have HRn : Hid (Rn w c l (k + 1) fr w2 T) := Lib.hid ⟨HGE.out.low, HGE.out.box, HGE.out.own, by rw [if_pos (by omega), show (l.drop fr).take (k + 1 - fr) = sub from HSB.out]; exact HNX.out⟩
            have HX9 : Hid (¬ 0 < c (l.getD k 0) (l.getD (k + 1) 0)) := Lib.hid (by rw [HSs.out]; exact hs0)
            go_wp2_with fail
            go_roundw
            case rel => exact ⟨k + 1, fr, T, rfl, by go_num, by omega, by omega, by omega, HRn.out, fun _ _ => HX9.out, fun _ h => absurd h (by omega), fun h => absurd h HL1.out⟩
            case measure => simp [intOf]; omega
    · have dk : decide (k < n) = false := decide_eq_false hlt
      have hkn : k = n := by omega
      subst hkn
      obtain ⟨ab, cb, hbx, hox⟩ := HG.out.box
      have hfk := H3.out rfl
      have c0 : wq.cell? ⟨w.heap.size, 0, none⟩ = some (.slice ab T.length cb) := by rw [cell_at hbx]; rfl
      have f0 := unfrozen hbx 0
      have HE : Hid (T.map (fun p : RowM => p.2.2) = runsI c l k) := Lib.hid (by have := HG.out.is; rw [hfk, if_neg (by omega), List.append_nil] at this; exact this)
      have HBX := Lib.hid hbx
      have HOX := Lib.hid hox
      generalize hLn : T.length = ll at *
      have HLN := Lib.hid hLn
      clear hbx hox hLn hfk
      go_wp2_with fail
      refine leaves_cons (f := 24) (args := #[.pointer (some ⟨w.heap.size, 0, none⟩)]) (by simp) (by simp [go_sem]) ?_
      refine (catch_runs ⟨w.heap.size, 0, none⟩ _).mono ?_
      rintro e u' w'' ⟨rfl, rfl, rfl⟩
      have cz : (wq.setCell ⟨w.heap.size, 0, none⟩ (.slice ab ll cb)).cell? ⟨w.heap.size, 0, none⟩ = some (.slice ab ll cb) := by rw [cell_at (heap_set_at HBX.out)]; rfl
      simp [Leaves, settle, results, Try.results16, go_sem, cz]
      refine ⟨ab, cb, T, HE.out, by rw [HLN.out], ?_, HG.out.own.set HBX.out (by decide), HG.out.low.setCell (p := ⟨w.heap.size, 0, none⟩) (Nat.le_refl _) _⟩
      rw [HLN.out]
      exact own_set HOX.out (own_ne HOX.out HBX.out (by decide))

end Go.Proofs.Ytlglenbgaalhiaa
