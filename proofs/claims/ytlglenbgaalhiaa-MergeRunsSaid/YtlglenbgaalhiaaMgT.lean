/-
  The contract of the document's Runs of layer 15, at this seat's numbers.
-/
import Derived.Test.YtlglenbgaalhiaaMgJ
namespace Go.Proofs.Ytlglenbgaalhiaa
open Go Go.RowKit
set_option linter.unusedVariables false

/-- The document's Runs stands so: the rows that are made; the last one is in memory from m on, all others below. -/
structure Rr (w wr : World) (c : Int → Int → Int) (l : List Int) (k : Nat) (a3 : Option Addr) (c3 : Nat) (T0 : List RowM) (p : RowM) (m : Nat) : Prop where
  low : Below w.heap.size w wr
  mlo : w.heap.size ≤ m
  mhi : m ≤ wr.heap.size
  out : wr.ownsRow w.heap.size 22 1 (.slice a3 (T0.length + 1) c3) (T0.length + 1) ((T0 ++ [p]).map rowV)
  own : TOwn wr w.heap.size T0
  old : ∀ q ∈ T0, ∀ b, (rowV q).ownBlock = some b → b < m
  last : wr.ownsRow m 3 1 (rowV p) p.2.2.length (nums p.2.2)

theorem TOwn.kept {w w' : World} {B m : Nat} {T : List RowM} {row : Option Nat} (h : TOwn w B T) (hg : w.grownBy w' row) (ho : ∀ q ∈ T, ∀ b, (rowV q).ownBlock = some b → b < m) (hr : ∀ b, row = some b → m ≤ b) : TOwn w' B T := fun p hp => by
  refine (h p hp).kept hg ?_
  cases e : (rowV p).ownBlock with
  | none => exact .inl rfl
  | some b =>
    refine .inr (fun h2 => ?_)
    have h3 := ho p hp b e
    have h4 := hr b h2.symm
    omega
theorem TOwn.lt {w : World} {B : Nat} {T : List RowM} (h : TOwn w B T) : ∀ q ∈ T, ∀ b, (rowV q).ownBlock = some b → b < w.heap.size := fun q hq b hb => ((h q hq).lt b hb).2

/-- Which row comes to be of the last one. -/
def runsNext (rs : List (List Int)) (new : Bool) (x : Int) : List (List Int) := if new = true then rs ++ [[x]] else rs.dropLast ++ [rs.getLastD [] ++ [x]]

set_option maxRecDepth 100000 in
set_option maxHeartbeats 16000000 in
theorem rruns_of {w : World} {a : Option Addr} {ca : Nat} (l : List Int) (hT : Sl w a ca (nums l)) (hD : ∀ x ∈ l, Dm x) (hn : l.length ≤ 100000) :
    Calls Try.prog 17 #[.slice a l.length ca] w (RPost (runsI cmpT l l.length) w) := by
  obtain ⟨i0, hi0, hz0, hz1, hz2⟩ := info_parts info_rows
  obtain ⟨j0, gi0, gz0, gz1, gz2⟩ := info_parts info_int
  obtain ⟨n, hnn⟩ : ∃ n, l.length = n := ⟨_, rfl⟩
  have HT := Lib.hid hT
  have HD := Lib.hid hD
  have HN := Lib.hid hnn
  rw [hnn] at hn ⊢
  clear hT hD hnn
  go_enter Try.func17, Try.ntmps17
  go_wp2_with fail
  go_loopw [3, 8] (fun v3 v8 wr => ∃ (k N : Nat) (a3 : Option Addr) (c3 : Nat), v3 = .slice a3 N c3 ∧ v8 = .int .i64 k ∧ k ≤ n ∧ N ≤ k ∧ ((k = 0 ∧ N = 0 ∧ a3 = none ∧ c3 = 0 ∧ Below w.heap.size w wr) ∨ (0 < k ∧ ∃ (T0 : List RowM) (p : RowM) (m : Nat), N = T0.length + 1 ∧ p.2.2.length ≤ k ∧ (T0 ++ [p]).map (fun q : RowM => q.2.2) = runsI cmpT l k ∧ Rr w wr cmpT l k a3 c3 T0 p m))) (fun _ v8 _ => n - (intOf v8).toNat)
  case atStart => exact ⟨0, 0, none, 0, rfl, rfl, by omega, by omega, .inl ⟨rfl, rfl, rfl, rfl, Below.refl _ _⟩⟩
  case round =>
    obtain ⟨wq, rfl⟩ : ∃ wq : World, wq = wr := ⟨_, rfl⟩
    obtain ⟨k, N, a3, c3, rfl, rfl, hk, hNk, hrest⟩ := hrel
    by_cases hlt : k < n
    · have dk : decide (k < n) = true := decide_eq_true hlt
      have hlow : Below w.heap.size w wq := by
        rcases hrest with ⟨_, _, _, _, h⟩ | ⟨_, _, _, _, _, _, _, h⟩
        · exact h
        · exact h.low
      obtain ⟨g, o, rfl⟩ := HT.out.numsome (by rw [HN.out]; omega)
      obtain ⟨x, hx⟩ : ∃ x, l[k]? = some x := ⟨_, List.getElem?_eq_getElem (by rw [HN.out]; exact hlt)⟩
      have c0 := ((HT.out.below hlow).num hx).1
      have hgd : l.getD k 0 = x := by rw [List.getD_eq_getElem?_getD, hx]; rfl
      have e0 : (0 : Int) ≤ (k : Int) := by omega
      have e1 : (k : Int) < (n : Int) := by omega
      have HXD : Hid (Dm x) := Lib.hid (HD.out x (List.mem_of_getElem? hx))
      have HGD := Lib.hid hgd
      have HLow := Lib.hid hlow
      clear hx hgd hlow
      rcases hrest with ⟨hkz, rfl, rfl, rfl, _⟩ | ⟨hk0, T0, ⟨pa, pc, pl⟩, m, rfl, hpl, hTm, hR⟩
      · have HOut : Hid (wq.ownsRow w.heap.size 22 1 (.slice none 0 0) 0 (([] : List RowM).map rowV)) := Lib.hid (t_nil _ _ _ _)
        have HTO : Hid (TOwn wq w.heap.size ([] : List RowM)) := Lib.hid (fun q hq => by simp at hq)
        have HTm : Hid (([] : List RowM).map (fun q : RowM => q.2.2) ++ [[x]] = runsI cmpT l (k + 1)) := Lib.hid (by rw [runsI, if_pos (.inl hkz), HGD.out, hkz]; rfl)
        have q0 : ((k : Int) == 0) = true := by rw [beq_iff_eq]; omega
        clear hkz
        have C3 : Hid (0 + 1 ≤ maxLen) := by show _ ≤ _; unfold maxLen; omega
        have C4 : Hid ((0 + 1) * 24 ≤ 140737488355328) := by show _ ≤ _; omega
        have C5 : Hid (w.heap.size ≤ (wq.alloc (Obj.cells #[.slice none 0 0] 22)).heap.size) := by show _ ≤ _; have := HLow.out.size; simp only [World.size_alloc]; omega
        go_wp2_with (first
          | (at_builtin; refine wpList_append_own _ rfl (.tmp 25) (.tmp 26) 32 rfl w.heap.size 22 i0 (.slice none 0 0) 1 24 Try.underlying32 hi0 hz0 hz1 hz2 rfl (by decide) (.slice none 0 0) (0) ((([] : List RowM) : List RowM).map rowV) rfl (HOut.out.alloc _) ⟨wq.heap.size, 0, none⟩ 1 1 [.slice none 0 0] rfl rfl (c1_one wq _ _) (c2_one _ rfl) C3.out C4.out C5.out ?_)
          | fail)
        intro vM w4 hoM hgM' _
        obtain ⟨a9, c9, rfl⟩ := own_slice hoM
        have hHR : Rr w w4 cmpT l (k) a9 c9 ([] : List RowM) ((none, 0, []) : RowM) w4.heap.size := by
          refine ⟨app_below HLow.out HOut.out hgM', ?_, Nat.le_refl _, ?_, ?_, ?_, t_nil _ _ _ _⟩
          · exact (app_below HLow.out HOut.out hgM').size
          · rw [List.map_append]; exact hoM
          · exact (HTO.out.below (t_al _ _)).grown (HOut.out.alloc _) hgM' (by decide)
          · exact TOwn.lt ((HTO.out.below (t_al _ _)).grown (HOut.out.alloc _) hgM' (by decide))
        have HR := Lib.hid hHR
        have HTmN : Hid (([] : List RowM).map (fun q : RowM => q.2.2) ++ [([] : List Int) ++ [x]] = runsI cmpT l (k + 1)) := Lib.hid (by have := HTm.out; simpa using this)
        clear hoM hgM' hHR C3 C4 C5
        have htl : ([] : List RowM).length = 0 := rfl
        obtain ⟨q, hq⟩ : ∃ q, (([] : List Int) : List Int).length = q := ⟨_, rfl⟩
        have hpq : q ≤ k := by rw [← hq]; simp
        have htk : 0 ≤ k := by omega
        have HPQ := Lib.hid (And.intro hpq htk)
        have HTL := Lib.hid htl
        have HQ := Lib.hid hq
        have hout := HR.out.out
        rcases t_form hout with ⟨_, h0, _⟩ | ⟨G, rfl, hGB, hGl, hGc, hGm⟩
        · exact absurd h0 (by omega)
        have hco : w4.cell? ⟨G, 0, none⟩ = some (.slice none q 0) := by
          have h1 := hout.cellAt 0 (by omega)
          rw [h1, List.map_append, List.getElem?_append_right (by rw [List.length_map]; omega), List.length_map, htl, Nat.sub_self, ← hq]; rfl
        have hfo := hout.frozenAt 0
        have hlast := HR.out.last
        rw [show rowV (none, 0, ([] : List Int)) = .slice none q 0 by show Value.slice none _ 0 = _; rw [hq]] at hlast
        rw [show ((none, 0, ([] : List Int)) : RowM).2.2 = ([] : List Int) from rfl, hq] at hlast
        rw [htl] at hout
        have HOutX := Lib.hid hout
        have HLastX := Lib.hid hlast
        have hNn : 0 + 1 ≤ 100001 := by omega
        have i0' : (0 : Int) ≤ (0 : Int) := by omega
        have i1 : (0 : Int) < ((0 + 1 : Nat) : Int) := by omega
        have i2 : ((0 + 1 : Nat) : Int) - 1 = (0 : Int) := by omega
        have i3 : (0 : Int) + 1 - 1 = (0 : Int) := by omega
        try rw [htl]
        have C3 : Hid (q + 1 ≤ maxLen) := by show _ ≤ _; unfold maxLen; omega
        have C4 : Hid ((q + 1) * 8 ≤ 140737488355328) := by show _ ≤ _; omega
        have C5 : Hid (w4.heap.size ≤ (w4.alloc (Obj.cells #[.int .i64 x] 3)).heap.size) := by show _ ≤ _; have := HR.out.mhi; simp only [World.size_alloc]; omega
        have hGX : G < w4.heap.size := hGl
        clear htl hq hout hlast hpq
        go_wp2_with (first
          | (at_builtin; refine wpList_append_own _ rfl (.tmp 37) (.tmp 39) 22 rfl w4.heap.size 3 j0 (.int .i64 0) 1 8 Try.underlying22 gi0 gz0 gz1 gz2 rfl (by decide) (.slice none q 0) q (nums ([] : List Int)) rfl (HLastX.out.alloc _) ⟨w4.heap.size, 0, none⟩ 1 1 [.int .i64 x] rfl rfl (c1_one w4 _ _) (c2_one _ rfl) C3.out C4.out C5.out ?_)
          | fail)
        intro vN w5 hoN hgN _
        obtain ⟨aN, cN, rfl⟩ := own_slice hoN
        have houtA := HOutX.out.alloc (Obj.cells #[.int .i64 x] 3)
        have hlastA := HLastX.out.alloc (Obj.cells #[.int .i64 x] 3)
        have hout5 : w5.ownsRow w.heap.size 22 1 (.slice (some ⟨G, 0, none⟩) (0 + 1) c9) (0 + 1) ((([] : List RowM) ++ [((none, 0, ([] : List Int)) : RowM)]).map rowV) := by
          refine houtA.kept hgN (.inr (fun h => ?_))
          rcases houtA.2 with ⟨h1, _⟩ | ⟨g', cap, cur, h1, _, h3, _⟩
          · cases h1
          · simp only [Value.slice.injEq, Option.some.injEq, Addr.mk.injEq, and_true, true_and] at h1
            obtain ⟨rfl, rfl⟩ := h1
            exact own_ne hlastA h3 (by decide) h.symm
        have hc5 : w5.cell? ⟨G, 0, none⟩ = some (.slice none q 0) := by
          have h1 := hout5.cellAt 0 (by omega)
          rw [h1, List.map_append, List.getElem?_append_right (by rw [List.length_map, HTL.out]; exact Nat.le_refl _), List.length_map, HTL.out, Nat.sub_self, ← HQ.out]; rfl
        have hf5 := hout5.frozenAt 0
        have hst := hout5.stored 0 (.slice aN (q + 1) cN)
        have hgM : ∀ b, (Value.slice none q 0).ownBlock = some b → w4.heap.size ≤ b := fun b hb => (hlastA.lt b hb).1
        have hT5 : TOwn w5 w.heap.size ([] : List RowM) := (HR.out.own.below (t_al _ _)).kept hgN HR.out.old hgM
        have hlow5 : Below w.heap.size w w5 := (HR.out.low.alloc HR.out.low.size _).grown hgN (HR.out.low.alloc HR.out.low.size _).size (fun b hb => Nat.le_trans HR.out.mlo (hgM b hb))
        obtain ⟨cur5, hcur5⟩ : ∃ cur5, w5.heap[G]? = some (.cells cur5 22 (0, 0)) := by
          rcases hout5.2 with ⟨h1, _⟩ | ⟨g', cap, cur, h1, _, h3, _⟩
          · cases h1
          · simp only [Value.slice.injEq, Option.some.injEq, Addr.mk.injEq, and_true, true_and] at h1
            obtain ⟨rfl, rfl⟩ := h1
            exact ⟨cur, h3⟩
        have HR9 : Hid (Rr w (w5.setCell ⟨G, 0, none⟩ (.slice aN (q + 1) cN)) cmpT l (k + 1) (some ⟨G, 0, none⟩) c9 ([] : List RowM) (aN, cN, ([] : List Int) ++ [x]) w4.heap.size) := Lib.hid (by
          refine ⟨hlow5.setCell (p := ⟨G, 0, none⟩) hGB _, HR.out.mlo, ?_, ?_, hT5.set hcur5 (by decide), HR.out.old, ?_⟩
          · rw [size_set]; exact Nat.le_trans HR.out.mhi (Nat.le_trans (by simp) hgN.size)
          · rw [HTL.out]
            have h := hst.1
            have e : ((([] : List RowM) ++ [((none, 0, ([] : List Int)) : RowM)]).map rowV).set 0 (.slice aN (q + 1) cN) = (([] : List RowM) ++ [((aN, cN, ([] : List Int) ++ [x]) : RowM)]).map rowV := by
              rw [List.map_append, List.map_append, List.set_append_right _ _ (by rw [List.length_map, HTL.out]; exact Nat.le_refl _), List.length_map, HTL.out, Nat.sub_self]
              show _ ++ [Value.slice aN (q + 1) cN] = _ ++ [rowV (aN, cN, ([] : List Int) ++ [x])]
              rw [show rowV (aN, cN, ([] : List Int) ++ [x]) = .slice aN (([] : List Int) ++ [x]).length cN from rfl, List.length_append, HQ.out]; rfl
            rw [e] at h; exact h
          · have h := own_set (o := 0) (u := .slice aN (q + 1) cN) hoN (own_ne hoN hcur5 (by decide))
            rw [show rowV (aN, cN, ([] : List Int) ++ [x]) = .slice aN (([] : List Int) ++ [x]).length cN from rfl, show ((aN, cN, ([] : List Int) ++ [x]) : RowM).2.2 = ([] : List Int) ++ [x] from rfl, List.length_append, HQ.out, ← nums_app]
            exact h)
        have HTm9 : Hid ((([] : List RowM) ++ [((aN, cN, ([] : List Int) ++ [x]) : RowM)]).map (fun q : RowM => q.2.2) = runsI cmpT l (k + 1)) := Lib.hid (by
          rw [List.map_append, ← HTmN.out]; rfl)
        have HTL9 : Hid (0 + 1 = ([] : List RowM).length + 1) := Lib.hid (by rw [HTL.out])
        have HQ9 : Hid ((([] : List Int) ++ [x]).length = q + 1) := Lib.hid (by rw [List.length_append, HQ.out]; rfl)
        clear hoN hgN houtA hlastA hout5 hst hgM hT5 hlow5 hcur5 C3 C4 C5 hco hfo hGX
        go_wp2_with fail
        go_roundw
        case rel => exact ⟨k + 1, 0 + 1, some ⟨G, 0, none⟩, c9, by go_num, by go_num, by omega, (by have := HPQ.out.2; omega), .inr ⟨by omega, ([] : List RowM), (aN, cN, ([] : List Int) ++ [x]), w4.heap.size, HTL9.out, (by rw [show ((aN, cN, ([] : List Int) ++ [x]) : RowM).2.2 = ([] : List Int) ++ [x] from rfl, HQ9.out]; have := HPQ.out.1; omega), HTm9.out, HR9.out⟩⟩
        case measure => simp [intOf]; omega
      · have HR := Lib.hid hR
        have HTm := Lib.hid hTm
        have q0 : ((k : Int) == 0) = false := by rw [beq_eq_false_iff_ne]; omega
        obtain ⟨j, hj⟩ : ∃ j, j = k - 1 := ⟨_, rfl⟩
        obtain ⟨y, hy⟩ : ∃ y, l[j]? = some y := ⟨_, List.getElem?_eq_getElem (by rw [HN.out]; omega)⟩
        have cy := ((HT.out.below HLow.out).num hy).1
        have hgy : l.getD (k - 1) 0 = y := by rw [← hj, List.getD_eq_getElem?_getD, hy]; rfl
        have HYD : Hid (Dm y) := Lib.hid (HD.out y (List.mem_of_getElem? hy))
        have s9 : (k : Int) - 1 = (j : Int) := by omega
        have t0 : (0 : Int) ≤ (j : Int) := by omega
        have t1 : (j : Int) < (n : Int) := by omega
        obtain ⟨s, hs⟩ : ∃ s, cmpT y x = s := ⟨_, rfl⟩
        have hCm := fun w' => rcmp_of y x w' HYD.out HXD.out
        simp only [hs] at hCm
        have HCm := Lib.hid hCm
        have HRn : Hid (runsI cmpT l (k + 1) = if 0 < s then (T0 ++ [((pa, pc, pl) : RowM)]).map (fun q : RowM => q.2.2) ++ [[x]] else T0.map (fun q : RowM => q.2.2) ++ [pl ++ [x]]) := Lib.hid (by
          rw [runsI, HGD.out, hgy, hs, ← hTm]
          by_cases h : 0 < s
          · rw [if_pos (.inr h), if_pos h]
          · rw [if_neg (by omega), if_neg h, List.map_append]
            show (_ ++ [pl]).dropLast ++ [(_ ++ [pl]).getLastD [] ++ [x]] = _
            rw [List.dropLast_concat, List.getLastD_concat])
        clear hR hTm hj hy hgy hs hCm
        go_wp2_with fail
        refine (HCm.out _).mono ?_; rintro e w1 ⟨rfl, rfl⟩
        clear s9 t0 t1 cy
        by_cases hs0 : 0 < s
        · have d5 : decide (s > 0) = true := decide_eq_true hs0
          have d6 : decide (0 < s) = true := decide_eq_true hs0
          have HTmN : Hid ((T0 ++ [((pa, pc, pl) : RowM)]).map (fun q : RowM => q.2.2) ++ [[x]] = runsI cmpT l (k + 1)) := Lib.hid (by rw [HRn.out, if_pos hs0])
          have hOut := HR.out.out
          have hTO : TOwn wq w.heap.size (T0 ++ [((pa, pc, pl) : RowM)]) := fun q hq => by
            rcases List.mem_append.1 hq with h | h
            · exact HR.out.own q h
            · rw [List.mem_singleton.1 h]; exact own_mono HR.out.last HR.out.mlo
          obtain ⟨T1, hT1⟩ : ∃ T1, T0 ++ [((pa, pc, pl) : RowM)] = T1 := ⟨_, rfl⟩
          have hT1l : T0.length + 1 = T1.length := by rw [← hT1]; simp
          rw [hT1] at hOut hTO HTmN
          rw [hT1l] at hOut hNk ⊢
          have HOut := Lib.hid hOut
          have HTO := Lib.hid hTO
          clear hOut hTO hT1 hT1l HR HTm HRn hs0
          have C3 : Hid (T1.length + 1 ≤ maxLen) := by show _ ≤ _; unfold maxLen; omega
          have C4 : Hid ((T1.length + 1) * 24 ≤ 140737488355328) := by show _ ≤ _; omega
          have C5 : Hid (w.heap.size ≤ (wq.alloc (Obj.cells #[.slice none 0 0] 22)).heap.size) := by show _ ≤ _; have := HLow.out.size; simp only [World.size_alloc]; omega
          go_wp2_with (first
            | (at_builtin; refine wpList_append_own _ rfl (.tmp 25) (.tmp 26) 32 rfl w.heap.size 22 i0 (.slice none 0 0) 1 24 Try.underlying32 hi0 hz0 hz1 hz2 rfl (by decide) (.slice a3 T1.length c3) (T1.length) ((T1 : List RowM).map rowV) rfl (HOut.out.alloc _) ⟨wq.heap.size, 0, none⟩ 1 1 [.slice none 0 0] rfl rfl (c1_one wq _ _) (c2_one _ rfl) C3.out C4.out C5.out ?_)
            | fail)
          intro vM w4 hoM hgM' _
          obtain ⟨a9, c9, rfl⟩ := own_slice hoM
          have hHR : Rr w w4 cmpT l (k) a9 c9 T1 ((none, 0, []) : RowM) w4.heap.size := by
            refine ⟨app_below HLow.out HOut.out hgM', ?_, Nat.le_refl _, ?_, ?_, ?_, t_nil _ _ _ _⟩
            · exact (app_below HLow.out HOut.out hgM').size
            · rw [List.map_append]; exact hoM
            · exact (HTO.out.below (t_al _ _)).grown (HOut.out.alloc _) hgM' (by decide)
            · exact TOwn.lt ((HTO.out.below (t_al _ _)).grown (HOut.out.alloc _) hgM' (by decide))
          have HR := Lib.hid hHR
          have HTmN : Hid (T1.map (fun q : RowM => q.2.2) ++ [([] : List Int) ++ [x]] = runsI cmpT l (k + 1)) := Lib.hid (by have := HTmN.out; simpa using this)
          clear hoM hgM' hHR C3 C4 C5
          obtain ⟨tl, htl⟩ : ∃ tl, T1.length = tl := ⟨_, rfl⟩
          obtain ⟨q, hq⟩ : ∃ q, (([] : List Int) : List Int).length = q := ⟨_, rfl⟩
          have hpq : q ≤ k := by rw [← hq]; simp
          have htk : tl ≤ k := by omega
          have HPQ := Lib.hid (And.intro hpq htk)
          have HTL := Lib.hid htl
          have HQ := Lib.hid hq
          have hout := HR.out.out
          rcases t_form hout with ⟨_, h0, _⟩ | ⟨G, rfl, hGB, hGl, hGc, hGm⟩
          · exact absurd h0 (by omega)
          have hco : w4.cell? ⟨G, tl, none⟩ = some (.slice none q 0) := by
            have h1 := hout.cellAt tl (by omega)
            rw [h1, List.map_append, List.getElem?_append_right (by rw [List.length_map]; omega), List.length_map, htl, Nat.sub_self, ← hq]; rfl
          have hfo := hout.frozenAt tl
          have hlast := HR.out.last
          rw [show rowV (none, 0, ([] : List Int)) = .slice none q 0 by show Value.slice none _ 0 = _; rw [hq]] at hlast
          rw [show ((none, 0, ([] : List Int)) : RowM).2.2 = ([] : List Int) from rfl, hq] at hlast
          rw [htl] at hout
          have HOutX := Lib.hid hout
          have HLastX := Lib.hid hlast
          have hNn : tl + 1 ≤ 100001 := by omega
          have i0' : (0 : Int) ≤ (tl : Int) := by omega
          have i1 : (tl : Int) < ((tl + 1 : Nat) : Int) := by omega
          have i2 : ((tl + 1 : Nat) : Int) - 1 = (tl : Int) := by omega
          have i3 : (tl : Int) + 1 - 1 = (tl : Int) := by omega
          try rw [htl]
          have C3 : Hid (q + 1 ≤ maxLen) := by show _ ≤ _; unfold maxLen; omega
          have C4 : Hid ((q + 1) * 8 ≤ 140737488355328) := by show _ ≤ _; omega
          have C5 : Hid (w4.heap.size ≤ (w4.alloc (Obj.cells #[.int .i64 x] 3)).heap.size) := by show _ ≤ _; have := HR.out.mhi; simp only [World.size_alloc]; omega
          have hGX : G < w4.heap.size := hGl
          clear htl hq hout hlast hpq
          go_wp2_with (first
            | (at_builtin; refine wpList_append_own _ rfl (.tmp 37) (.tmp 39) 22 rfl w4.heap.size 3 j0 (.int .i64 0) 1 8 Try.underlying22 gi0 gz0 gz1 gz2 rfl (by decide) (.slice none q 0) q (nums ([] : List Int)) rfl (HLastX.out.alloc _) ⟨w4.heap.size, 0, none⟩ 1 1 [.int .i64 x] rfl rfl (c1_one w4 _ _) (c2_one _ rfl) C3.out C4.out C5.out ?_)
            | fail)
          intro vN w5 hoN hgN _
          obtain ⟨aN, cN, rfl⟩ := own_slice hoN
          have houtA := HOutX.out.alloc (Obj.cells #[.int .i64 x] 3)
          have hlastA := HLastX.out.alloc (Obj.cells #[.int .i64 x] 3)
          have hout5 : w5.ownsRow w.heap.size 22 1 (.slice (some ⟨G, 0, none⟩) (tl + 1) c9) (tl + 1) ((T1 ++ [((none, 0, ([] : List Int)) : RowM)]).map rowV) := by
            refine houtA.kept hgN (.inr (fun h => ?_))
            rcases houtA.2 with ⟨h1, _⟩ | ⟨g', cap, cur, h1, _, h3, _⟩
            · cases h1
            · simp only [Value.slice.injEq, Option.some.injEq, Addr.mk.injEq, and_true, true_and] at h1
              obtain ⟨rfl, rfl⟩ := h1
              exact own_ne hlastA h3 (by decide) h.symm
          have hc5 : w5.cell? ⟨G, tl, none⟩ = some (.slice none q 0) := by
            have h1 := hout5.cellAt tl (by omega)
            rw [h1, List.map_append, List.getElem?_append_right (by rw [List.length_map, HTL.out]; exact Nat.le_refl _), List.length_map, HTL.out, Nat.sub_self, ← HQ.out]; rfl
          have hf5 := hout5.frozenAt tl
          have hst := hout5.stored tl (.slice aN (q + 1) cN)
          have hgM : ∀ b, (Value.slice none q 0).ownBlock = some b → w4.heap.size ≤ b := fun b hb => (hlastA.lt b hb).1
          have hT5 : TOwn w5 w.heap.size T1 := (HR.out.own.below (t_al _ _)).kept hgN HR.out.old hgM
          have hlow5 : Below w.heap.size w w5 := (HR.out.low.alloc HR.out.low.size _).grown hgN (HR.out.low.alloc HR.out.low.size _).size (fun b hb => Nat.le_trans HR.out.mlo (hgM b hb))
          obtain ⟨cur5, hcur5⟩ : ∃ cur5, w5.heap[G]? = some (.cells cur5 22 (0, 0)) := by
            rcases hout5.2 with ⟨h1, _⟩ | ⟨g', cap, cur, h1, _, h3, _⟩
            · cases h1
            · simp only [Value.slice.injEq, Option.some.injEq, Addr.mk.injEq, and_true, true_and] at h1
              obtain ⟨rfl, rfl⟩ := h1
              exact ⟨cur, h3⟩
          have HR9 : Hid (Rr w (w5.setCell ⟨G, tl, none⟩ (.slice aN (q + 1) cN)) cmpT l (k + 1) (some ⟨G, 0, none⟩) c9 T1 (aN, cN, ([] : List Int) ++ [x]) w4.heap.size) := Lib.hid (by
            refine ⟨hlow5.setCell (p := ⟨G, tl, none⟩) hGB _, HR.out.mlo, ?_, ?_, hT5.set hcur5 (by decide), HR.out.old, ?_⟩
            · rw [size_set]; exact Nat.le_trans HR.out.mhi (Nat.le_trans (by simp) hgN.size)
            · rw [HTL.out]
              have h := hst.1
              have e : ((T1 ++ [((none, 0, ([] : List Int)) : RowM)]).map rowV).set tl (.slice aN (q + 1) cN) = (T1 ++ [((aN, cN, ([] : List Int) ++ [x]) : RowM)]).map rowV := by
                rw [List.map_append, List.map_append, List.set_append_right _ _ (by rw [List.length_map, HTL.out]; exact Nat.le_refl _), List.length_map, HTL.out, Nat.sub_self]
                show _ ++ [Value.slice aN (q + 1) cN] = _ ++ [rowV (aN, cN, ([] : List Int) ++ [x])]
                rw [show rowV (aN, cN, ([] : List Int) ++ [x]) = .slice aN (([] : List Int) ++ [x]).length cN from rfl, List.length_append, HQ.out]; rfl
              rw [e] at h; exact h
            · have h := own_set (o := tl) (u := .slice aN (q + 1) cN) hoN (own_ne hoN hcur5 (by decide))
              rw [show rowV (aN, cN, ([] : List Int) ++ [x]) = .slice aN (([] : List Int) ++ [x]).length cN from rfl, show ((aN, cN, ([] : List Int) ++ [x]) : RowM).2.2 = ([] : List Int) ++ [x] from rfl, List.length_append, HQ.out, ← nums_app]
              exact h)
          have HTm9 : Hid ((T1 ++ [((aN, cN, ([] : List Int) ++ [x]) : RowM)]).map (fun q : RowM => q.2.2) = runsI cmpT l (k + 1)) := Lib.hid (by
            rw [List.map_append, ← HTmN.out]; rfl)
          have HTL9 : Hid (tl + 1 = T1.length + 1) := Lib.hid (by rw [HTL.out])
          have HQ9 : Hid ((([] : List Int) ++ [x]).length = q + 1) := Lib.hid (by rw [List.length_append, HQ.out]; rfl)
          clear hoN hgN houtA hlastA hout5 hst hgM hT5 hlow5 hcur5 C3 C4 C5 hco hfo hGX
          go_wp2_with fail
          go_roundw
          case rel => exact ⟨k + 1, tl + 1, some ⟨G, 0, none⟩, c9, by go_num, by go_num, by omega, (by have := HPQ.out.2; omega), .inr ⟨by omega, T1, (aN, cN, ([] : List Int) ++ [x]), w4.heap.size, HTL9.out, (by rw [show ((aN, cN, ([] : List Int) ++ [x]) : RowM).2.2 = ([] : List Int) ++ [x] from rfl, HQ9.out]; have := HPQ.out.1; omega), HTm9.out, HR9.out⟩⟩
          case measure => simp [intOf]; omega
        · have d5 : decide (s > 0) = false := decide_eq_false hs0
          have d6 : decide (0 < s) = false := decide_eq_false hs0
          have HTmN : Hid (T0.map (fun q : RowM => q.2.2) ++ [pl ++ [x]] = runsI cmpT l (k + 1)) := Lib.hid (by rw [HRn.out, if_neg hs0])
          clear HTm HRn hs0
          obtain ⟨tl, htl⟩ : ∃ tl, T0.length = tl := ⟨_, rfl⟩
          obtain ⟨q, hq⟩ : ∃ q, (pl : List Int).length = q := ⟨_, rfl⟩
          have hpq : q ≤ k := by rw [← hq]; exact hpl
          have htk : tl ≤ k := by omega
          have HPQ := Lib.hid (And.intro hpq htk)
          have HTL := Lib.hid htl
          have HQ := Lib.hid hq
          have hout := HR.out.out
          rcases t_form hout with ⟨_, h0, _⟩ | ⟨G, rfl, hGB, hGl, hGc, hGm⟩
          · exact absurd h0 (by omega)
          have hco : wq.cell? ⟨G, tl, none⟩ = some (.slice pa q pc) := by
            have h1 := hout.cellAt tl (by omega)
            rw [h1, List.map_append, List.getElem?_append_right (by rw [List.length_map]; omega), List.length_map, htl, Nat.sub_self, ← hq]; rfl
          have hfo := hout.frozenAt tl
          have hlast := HR.out.last
          rw [show rowV (pa, pc, pl) = .slice pa q pc by show Value.slice pa _ pc = _; rw [hq]] at hlast
          rw [show ((pa, pc, pl) : RowM).2.2 = pl from rfl, hq] at hlast
          rw [htl] at hout
          have HOutX := Lib.hid hout
          have HLastX := Lib.hid hlast
          have hNn : tl + 1 ≤ 100001 := by omega
          have i0' : (0 : Int) ≤ (tl : Int) := by omega
          have i1 : (tl : Int) < ((tl + 1 : Nat) : Int) := by omega
          have i2 : ((tl + 1 : Nat) : Int) - 1 = (tl : Int) := by omega
          have i3 : (tl : Int) + 1 - 1 = (tl : Int) := by omega
          try rw [htl]
          have C3 : Hid (q + 1 ≤ maxLen) := by show _ ≤ _; unfold maxLen; omega
          have C4 : Hid ((q + 1) * 8 ≤ 140737488355328) := by show _ ≤ _; omega
          have C5 : Hid (m ≤ (wq.alloc (Obj.cells #[.int .i64 x] 3)).heap.size) := by show _ ≤ _; have := HR.out.mhi; simp only [World.size_alloc]; omega
          have hGX : G < wq.heap.size := hGl
          clear htl hq hout hlast hpq
          go_wp2_with (first
            | (at_builtin; refine wpList_append_own _ rfl (.tmp 37) (.tmp 39) 22 rfl m 3 j0 (.int .i64 0) 1 8 Try.underlying22 gi0 gz0 gz1 gz2 rfl (by decide) (.slice pa q pc) q (nums pl) rfl (HLastX.out.alloc _) ⟨wq.heap.size, 0, none⟩ 1 1 [.int .i64 x] rfl rfl (c1_one wq _ _) (c2_one _ rfl) C3.out C4.out C5.out ?_)
            | fail)
          intro vN w5 hoN hgN _
          obtain ⟨aN, cN, rfl⟩ := own_slice hoN
          have houtA := HOutX.out.alloc (Obj.cells #[.int .i64 x] 3)
          have hlastA := HLastX.out.alloc (Obj.cells #[.int .i64 x] 3)
          have hout5 : w5.ownsRow w.heap.size 22 1 (.slice (some ⟨G, 0, none⟩) (tl + 1) c3) (tl + 1) ((T0 ++ [((pa, pc, pl) : RowM)]).map rowV) := by
            refine houtA.kept hgN (.inr (fun h => ?_))
            rcases houtA.2 with ⟨h1, _⟩ | ⟨g', cap, cur, h1, _, h3, _⟩
            · cases h1
            · simp only [Value.slice.injEq, Option.some.injEq, Addr.mk.injEq, and_true, true_and] at h1
              obtain ⟨rfl, rfl⟩ := h1
              exact own_ne hlastA h3 (by decide) h.symm
          have hc5 : w5.cell? ⟨G, tl, none⟩ = some (.slice pa q pc) := by
            have h1 := hout5.cellAt tl (by omega)
            rw [h1, List.map_append, List.getElem?_append_right (by rw [List.length_map, HTL.out]; exact Nat.le_refl _), List.length_map, HTL.out, Nat.sub_self, ← HQ.out]; rfl
          have hf5 := hout5.frozenAt tl
          have hst := hout5.stored tl (.slice aN (q + 1) cN)
          have hgM : ∀ b, (Value.slice pa q pc).ownBlock = some b → m ≤ b := fun b hb => (hlastA.lt b hb).1
          have hT5 : TOwn w5 w.heap.size T0 := (HR.out.own.below (t_al _ _)).kept hgN HR.out.old hgM
          have hlow5 : Below w.heap.size w w5 := (HR.out.low.alloc HR.out.low.size _).grown hgN (HR.out.low.alloc HR.out.low.size _).size (fun b hb => Nat.le_trans HR.out.mlo (hgM b hb))
          obtain ⟨cur5, hcur5⟩ : ∃ cur5, w5.heap[G]? = some (.cells cur5 22 (0, 0)) := by
            rcases hout5.2 with ⟨h1, _⟩ | ⟨g', cap, cur, h1, _, h3, _⟩
            · cases h1
            · simp only [Value.slice.injEq, Option.some.injEq, Addr.mk.injEq, and_true, true_and] at h1
              obtain ⟨rfl, rfl⟩ := h1
              exact ⟨cur, h3⟩
          have HR9 : Hid (Rr w (w5.setCell ⟨G, tl, none⟩ (.slice aN (q + 1) cN)) cmpT l (k + 1) (some ⟨G, 0, none⟩) c3 T0 (aN, cN, pl ++ [x]) m) := Lib.hid (by
            refine ⟨hlow5.setCell (p := ⟨G, tl, none⟩) hGB _, HR.out.mlo, ?_, ?_, hT5.set hcur5 (by decide), HR.out.old, ?_⟩
            · rw [size_set]; exact Nat.le_trans HR.out.mhi (Nat.le_trans (by simp) hgN.size)
            · rw [HTL.out]
              have h := hst.1
              have e : ((T0 ++ [((pa, pc, pl) : RowM)]).map rowV).set tl (.slice aN (q + 1) cN) = (T0 ++ [((aN, cN, pl ++ [x]) : RowM)]).map rowV := by
                rw [List.map_append, List.map_append, List.set_append_right _ _ (by rw [List.length_map, HTL.out]; exact Nat.le_refl _), List.length_map, HTL.out, Nat.sub_self]
                show _ ++ [Value.slice aN (q + 1) cN] = _ ++ [rowV (aN, cN, pl ++ [x])]
                rw [show rowV (aN, cN, pl ++ [x]) = .slice aN (pl ++ [x]).length cN from rfl, List.length_append, HQ.out]; rfl
              rw [e] at h; exact h
            · have h := own_set (o := tl) (u := .slice aN (q + 1) cN) hoN (own_ne hoN hcur5 (by decide))
              rw [show rowV (aN, cN, pl ++ [x]) = .slice aN (pl ++ [x]).length cN from rfl, show ((aN, cN, pl ++ [x]) : RowM).2.2 = pl ++ [x] from rfl, List.length_append, HQ.out, ← nums_app]
              exact h)
          have HTm9 : Hid ((T0 ++ [((aN, cN, pl ++ [x]) : RowM)]).map (fun q : RowM => q.2.2) = runsI cmpT l (k + 1)) := Lib.hid (by
            rw [List.map_append, ← HTmN.out]; rfl)
          have HTL9 : Hid (tl + 1 = T0.length + 1) := Lib.hid (by rw [HTL.out])
          have HQ9 : Hid ((pl ++ [x]).length = q + 1) := Lib.hid (by rw [List.length_append, HQ.out]; rfl)
          clear hoN hgN houtA hlastA hout5 hst hgM hT5 hlow5 hcur5 C3 C4 C5 hco hfo hGX
          go_wp2_with fail
          go_roundw
          case rel => exact ⟨k + 1, tl + 1, some ⟨G, 0, none⟩, c3, by go_num, by go_num, by omega, (by have := HPQ.out.2; omega), .inr ⟨by omega, T0, (aN, cN, pl ++ [x]), m, HTL9.out, (by rw [show ((aN, cN, pl ++ [x]) : RowM).2.2 = pl ++ [x] from rfl, HQ9.out]; have := HPQ.out.1; omega), HTm9.out, HR9.out⟩⟩
          case measure => simp [intOf]; omega
    · have dk : decide (k < n) = false := decide_eq_false hlt
      have hkn : k = n := by omega
      subst hkn
      rcases hrest with ⟨rfl, rfl, rfl, rfl, hb⟩ | ⟨hk0, T0, p, m, rfl, hpl, hTm, hR⟩
      · have HB := Lib.hid hb
        clear hb
        go_wp2_with fail
        go_ret
        exact ⟨none, 0, [], by simp [runsI], rfl, t_nil _ _ _ _, fun q hq => by simp at hq, HB.out⟩
      · have HR := Lib.hid hR
        have HTm := Lib.hid hTm
        clear hR hTm
        go_wp2_with fail
        go_ret
        refine ⟨a3, c3, T0 ++ [p], HTm.out, by rw [List.length_append]; rfl, ?_, fun q hq => ?_, HR.out.low⟩
        · rw [List.length_append]; exact HR.out.out
        · rcases List.mem_append.1 hq with h | h
          · exact HR.out.own q h
          · rw [List.mem_singleton.1 h]; exact own_mono HR.out.last HR.out.mlo

end Go.Proofs.Ytlglenbgaalhiaa
