/-
  damierlaw13.Few's walk; at this seat's numbers.
-/
import Derived.Test.YteipnllefifgiaaRgM
import Derived.Test.YteipnllefifgiaaRgK
import Derived.Test.YteipnllefifgiaaArC
namespace Go.Proofs.Yteipnllefifgiaa
open Go Go.RowKit
set_option linter.unusedVariables false

theorem txL_app2 : True := trivial
theorem own_slice {w : World} {B sz n : Nat} {e : TypeId} {v : Value} {xs : List Value} (h : w.ownsRow B e sz v n xs) : ∃ a c, v = .slice a n c := by
  rcases h.2 with ⟨h1, h2⟩ | ⟨g, cap, cur, h1, _⟩
  · exact ⟨none, 0, by rw [h1, h2]⟩
  · exact ⟨_, _, h1⟩
theorem c1_one (w : World) (x : Value) (t : TypeId) : ∀ q u, ([x] : List Value)[q]? = some u → (w.alloc (Obj.cells #[x] t)).cell? (Addr.add ⟨w.heap.size, 0, none⟩ q) = some u := by
  intro q u hq
  have h0 := heap_alloc_new w (Obj.cells #[x] t)
  rw [Addr.add_lit, Nat.zero_add, cell_at h0]
  simpa using hq
theorem c2_one (x : Value) (h : x.oneCell' = true) : ∀ u ∈ ([x] : List Value), u.oneCell' = true := by
  intro u hu
  simp only [List.mem_singleton] at hu
  rw [hu]; exact h
theorem app_below {w wr wB : World} {e : TypeId} {sz n : Nat} {v : Value} {xs : List Value} {o : Obj} (hb : Below w.heap.size w wr) (ho : wr.ownsRow w.heap.size e sz v n xs) (hg : (wr.alloc o).grownBy wB v.ownBlock) : Below w.heap.size w wB :=
  (hb.alloc hb.size o).grown hg (by have := hb.size; simp only [World.size_alloc]; omega) (fun q hq => (ho.lt q hq).1)
theorem own_mono {w : World} {B B' n s : Nat} {e : TypeId} {v : Value} {xs : List Value} (h : w.ownsRow B' e s v n xs) (hB : B ≤ B') : w.ownsRow B e s v n xs := by
  refine ⟨h.1, ?_⟩
  rcases h.2 with h1 | ⟨g, cap, cur, h1, h2, h3⟩
  · exact .inl h1
  · exact .inr ⟨g, cap, cur, h1, Nat.le_trans hB h2, h3⟩
theorem own_grown {w w' : World} {B B' : Nat} {e e' : TypeId} {sz sz' n n' : Nat} {v v' : Value} {xs xs' : List Value} (h : w.ownsRow B e sz v n xs) (h' : w.ownsRow B' e' sz' v' n' xs') (hne : e ≠ e') (hg : w.grownBy w' v'.ownBlock) : w'.ownsRow B e sz v n xs := by
  refine h.kept hg ?_
  rcases h.2 with ⟨e1, _⟩ | ⟨g, cap, cur, e1, _, e3, _⟩
  · rw [e1]; exact .inl rfl
  · rw [e1]; exact .inr (fun h2 => own_ne h' e3 (fun e => hne e.symm) h2.symm)
theorem own_sl {w : World} {B n c : Nat} {e : TypeId} {a : Option Addr} {xs : List Value} (h : w.ownsRow B e 1 (.slice a n c) n xs) (h1 : ∀ u ∈ xs, u.oneCell' = true) : Sl w a c xs := by
  have hn : n = xs.length := by have := h.1; omega
  subst hn
  exact Sl.own h h1

/-- Rows of texts that come in. -/
def Rdt (w : World) (a : Option Addr) (l : List ByteArray) : Prop := 0 < l.length → ∃ d, a = some d ∧ d.block < w.heap.size ∧ ∀ k x, l[k]? = some x → w.cell? (d.add k) = some (.string x)
theorem add_block (d : Addr) (k : Nat) : (d.add k).block = d.block := by unfold Addr.add; split <;> rfl
theorem Rdt.below {w w' : World} {a : Option Addr} {l : List ByteArray} (h : Rdt w a l) (hb : Below w.heap.size w w') : Rdt w' a l := fun hn => by
  obtain ⟨d, h1, h2, h3⟩ := h hn
  exact ⟨d, h1, Nat.lt_of_lt_of_le h2 hb.size, fun k x hx => (hb.cell (p := d.add k) (by rw [add_block]; exact h2)).trans (h3 k x hx)⟩
structure TxIn (w : World) (a : Option Addr) (T : List TxM) : Prop where
  len : T.length ≤ maxLen
  sl : 0 < T.length → ∃ d, a = some d ∧ d.block < w.heap.size ∧ ∀ (k : Nat) (p : TxM), T[k]? = some p → w.cell? (d.add k) = some (txV p)
  rd : ∀ p ∈ T, Rdt w p.1 p.2.2 ∧ p.2.2.length ≤ maxLen ∧ ∀ s ∈ p.2.2, s.size ≤ maxLen
theorem TxIn.below {w w' : World} {a : Option Addr} {T : List TxM} (h : TxIn w a T) (hb : Below w.heap.size w w') : TxIn w' a T :=
  ⟨h.len, fun hn => by
    obtain ⟨d, h1, h2, h3⟩ := h.sl hn
    exact ⟨d, h1, Nat.lt_of_lt_of_le h2 hb.size, fun k p hp => (hb.cell (p := d.add k) (by rw [add_block]; exact h2)).trans (h3 k p hp)⟩, fun p hp => ⟨(h.rd p hp).1.below hb, (h.rd p hp).2⟩⟩
theorem szM_mem {M : List (List ByteArray)} {l : List ByteArray} {s : ByteArray} (hl : l ∈ M) (hs : s ∈ l) : s.size ≤ szM M ∧ l.length ≤ szM M := by
  obtain ⟨k, hk⟩ := List.mem_iff_getElem?.1 hl
  obtain ⟨j, hj⟩ := List.mem_iff_getElem?.1 hs
  have h1 := szM_take hk
  have h2 := szM_le (M := M) (k + 1)
  have h3 := szL_len l
  have h4 := szL_take hj
  have h5 := szL_le (l := l) (j + 1)
  omega
theorem Mx.txin {w : World} {lo hi : Nat} {a : Option Addr} {c : Nat} {T : List TxM} (h : Mx w lo hi a c T) (hn : T.length ≤ maxLen) (hs : szM (txL T) ≤ maxLen) : TxIn w a T := by
  refine ⟨hn, fun h0 => ?_, fun p hp => ⟨fun h0 => ?_, ?_, fun s hs' => ?_⟩⟩
  · obtain ⟨g, o, e, hg, hc⟩ := h.sl.rd.2 (by rw [List.length_map]; exact h0)
    exact ⟨_, e, hg, fun k p hp => by rw [Addr.add_lit]; exact hc k _ (by rw [List.getElem?_map, hp]; rfl)⟩
  · obtain ⟨g, o, e, hg, hc⟩ := (h.rd p hp).1.rd.2 (by rw [strs_len]; exact h0)
    exact ⟨_, e, hg, fun k x hx => by rw [Addr.add_lit]; exact hc k _ (strs_at hx)⟩
  · obtain ⟨k, hk⟩ := List.mem_iff_getElem?.1 hp
    have h1 := szM_take (txL_at hk)
    have h2 := szM_le (M := txL T) (k + 1)
    have h3 := szL_len p.2.2
    omega
  · exact Nat.le_trans (szM_mem (List.mem_map.2 ⟨p, hp, rfl⟩) hs').1 hs

def TOwn (w : World) (B : Nat) (T : List TxM) : Prop := ∀ p ∈ T, w.ownsRow B 9 1 (txV p) p.2.2.length (strs p.2.2)
theorem TOwn.below {w w' : World} {B : Nat} {T : List TxM} (h : TOwn w B T) (hb : Below w.heap.size w w') : TOwn w' B T := fun p hp => own_below (h p hp) hb
/-- Few texts, in new memory. -/
def FwPost (M : List (List ByteArray)) (w : World) (e : Ending) (w' : World) : Prop :=
  ∃ a c T, txL T = fewM M ∧ e = .returned (.slice a T.length c) ∧ (Mx w' w.heap.size w'.heap.size a c T ∧ Wr w' a T) ∧ Below w.heap.size w w'
theorem mx_of_own {w : World} {B n c : Nat} {a : Option Addr} {T : List TxM} (h : w.ownsRow B 61 1 (.slice a n c) n (T.map txV)) (hT : TOwn w B T) : Mx w B w.heap.size a c T := by
  refine ⟨own_sl h (txV_one _), fun d hd => ?_, fun p hp => ⟨own_sl (hT p hp) (strs_one _), fun d hd => ?_⟩⟩
  · rcases t_form h with ⟨h1, _⟩ | ⟨g, h1, h2, h3, _⟩
    · rw [h1] at hd; cases hd
    · rw [h1] at hd; cases hd; exact ⟨h2, h3⟩
  · have hp2 := hT p hp
    unfold txV at hp2
    rcases t_form hp2 with ⟨h1, _⟩ | ⟨g, h1, h2, h3, _⟩
    · rw [h1] at hd; cases hd
    · rw [h1] at hd; cases hd; exact ⟨h2, h3⟩

theorem wr_of_own {w : World} {B n c : Nat} {a : Option Addr} {T : List TxM} (h : w.ownsRow B 61 1 (.slice a n c) n (T.map txV)) (hT : TOwn w B T) : Wr w a T := ⟨own_ty h, fun p hp => own_ty (hT p hp)⟩

set_option maxRecDepth 100000 in
set_option maxHeartbeats 8000000 in
theorem few_of {w : World} {a : Option Addr} {c : Nat} {T : List TxM} (H : TxIn w a T) : Calls Try.prog 11 #[.slice a T.length c] w (FwPost (txL T) w) := by
  unfold FwPost
  obtain ⟨i0, hi0, hz0, hz1, hz2⟩ := info_parts info_str
  obtain ⟨j0, hj0, hy0, hy1, hy2⟩ := info_parts info_txs
  obtain ⟨n, hnn⟩ : ∃ n, T.length = n := ⟨_, rfl⟩
  have HN := Lib.hid hnn
  have HS := Lib.hid H
  have hnm := H.len
  have HF := Lib.hid (fewM_of (txL T))
  rw [hnn] at hnm ⊢
  have hn63 : (n : Int) ≤ 9223372036854775807 := by unfold maxLen at hnm; omega
  clear hnn H
  go_enter Try.func11, Try.ntmps11
  go_wp2_with fail
  go_loopw [3, 4, 12] (fun v3 v4 v12 wr => ∃ (k : Nat) (T' : List TxM) (a3 : Option Addr) (c3 : Nat), v3 = .slice a3 T'.length c3 ∧ v4 = .int .i64 ((fewS (txL T) k).2 : Nat) ∧ v12 = .int .i64 k ∧ k ≤ n ∧ k ≤ 12 ∧ txL T' = (fewS (txL T) k).1 ∧ T'.length = k ∧ wr.ownsRow w.heap.size 61 1 (.slice a3 T'.length c3) T'.length (T'.map txV) ∧ TOwn wr w.heap.size T' ∧ Below w.heap.size w wr) (fun _ _ v12 _ => n - (intOf v12).toNat)
  case atStart => exact ⟨0, [], none, 0, rfl, rfl, rfl, by omega, by omega, rfl, rfl, t_nil _ _ _ _, fun p hp => by simp at hp, Below.refl _ _⟩
  case round =>
    obtain ⟨wq, rfl⟩ : ∃ wq : World, wq = wr := ⟨_, rfl⟩
    obtain ⟨k, T', a3, c3, rfl, rfl, rfl, hk, hk12, htx, htl, ho, hto, hb⟩ := hrel
    have HO := Lib.hid ho
    have HTO := Lib.hid hto
    have HB := Lib.hid hb
    have HTX := Lib.hid htx
    have HLE := Lib.hid (fewS_left (txL T) k)
    clear ho hto hb htx
    obtain ⟨m, hm⟩ : ∃ m, T'.length = m := ⟨_, rfl⟩
    have HM := Lib.hid hm
    have hmk : m = k := by rw [← hm]; exact htl
    rw [hm] at HO ⊢
    subst hmk
    clear hm htl
    by_cases hlt : m < n
    · have dk : decide (m < n) = true := decide_eq_true hlt
      obtain ⟨p, hp⟩ : ∃ p, T[m]? = some p := ⟨_, List.getElem?_eq_getElem (by rw [HN.out]; exact hlt)⟩
      obtain ⟨d0, rfl, hg, hcell⟩ := (HS.out.below HB.out).sl (by rw [HN.out]; omega)
      have c0 := hcell m p hp
      have hrd := (HS.out.below HB.out).rd p (List.mem_of_getElem? hp)
      have hx := txL_at hp
      clear hcell hp
      obtain ⟨p1, p2, l⟩ := p
      unfold txV at c0
      simp only [] at c0 hrd hx
      have HRD := Lib.hid hrd
      have HX := Lib.hid hx
      clear hrd hx
      have e0 : (0 : Int) ≤ (m : Int) := by omega
      have e1 : (m : Int) < (n : Int) := by omega
      by_cases h12 : 12 ≤ m
      · have d12 : decide ((12 : Int) ≤ (m : Int)) = true := decide_eq_true (by omega)
        have HTF : Hid (txL T' = fewM (txL T)) := Lib.hid (by rw [HTX.out, show m = 12 by omega]; rfl)
        generalize (fewS (txL T) m).2 = left at *
        go_wp2_with fail
        go_ret
        exact ⟨a3, c3, T', HTF.out, by rw [HM.out] <;> rfl, ⟨mx_of_own HO.out HTO.out, wr_of_own HO.out HTO.out⟩, HB.out⟩
      · have d12 : decide ((12 : Int) ≤ (m : Int)) = false := decide_eq_false (by omega)
        obtain ⟨L, hL⟩ : ∃ L, (fewS (txL T) m).2 = L := ⟨_, rfl⟩
        have HL := Lib.hid hL
        rw [hL] at HLE ⊢
        clear hL
        obtain ⟨ln, hln⟩ : ∃ ln, l.length = ln := ⟨_, rfl⟩
        have HLN := Lib.hid hln
        have hlnm : ln ≤ maxLen := by rw [← hln]; exact HRD.out.2.1
        have hln63 : (ln : Int) ≤ 9223372036854775807 := by unfold maxLen at hlnm; omega
        rw [hln] at c0
        clear hln
        go_wp2_with fail
        go_loopw [4, 7, 21] (fun v4 v7 v21 wz => ∃ (j q : Nat) (a7 : Option Addr) (c7 : Nat), v4 = .int .i64 ((rowS L l j).2 : Nat) ∧ v7 = .slice a7 q c7 ∧ v21 = .int .i64 j ∧ j ≤ ln ∧ q = (rowS L l j).1.length ∧ wz.ownsRow wq.heap.size 9 1 (.slice a7 q c7) q (strs (rowS L l j).1) ∧ Below wq.heap.size wq wz) (fun _ _ v21 _ => ln - (intOf v21).toNat)
        case atStart => exact ⟨0, 0, none, 0, rfl, rfl, rfl, by omega, rfl, t_nil _ _ _ _, Below.refl _ _⟩
        case round =>
          obtain ⟨wy, rfl⟩ : ∃ wy : World, wy = wr := ⟨_, rfl⟩
          obtain ⟨j, q, a7, c7, rfl, rfl, rfl, hj, hq, ho7, hb7⟩ := hrel
          have HO7 := Lib.hid ho7
          have HB7 := Lib.hid hb7
          have HQ := Lib.hid hq
          have hrl := rowS_left L l j
          have hLE := HLE.out
          have hqj : q ≤ j := by rw [hq]; exact hrl.2
          have hl6 : (rowS L l j).2 ≤ 6000 := by omega
          clear ho7 hb7 hq hrl
          by_cases hlj : j < ln
          · have dj : decide (j < ln) = true := decide_eq_true hlj
            obtain ⟨s, hs⟩ : ∃ s, l[j]? = some s := ⟨_, List.getElem?_eq_getElem (by rw [HLN.out]; exact hlj)⟩
            obtain ⟨d, rfl, hdl, hd⟩ := (HRD.out.1.below HB7.out) (by rw [HLN.out]; omega)
            have x0 := hd j s hs
            have hsm := HRD.out.2.2 s (List.mem_of_getElem? hs)
            clear hd
            have f0 : (0 : Int) ≤ (j : Int) := by omega
            have f1 : (j : Int) < (ln : Int) := by omega
            by_cases h45 : j < 45
            · have d45 : decide ((j : Int) < 45) = true := decide_eq_true (by omega)
              have HST := Lib.hid (rowS_succ (left := L) h45 hs)
              have hcb := cutB_le s (rowS L l j).2
              have HC1 := Lib.hid (fun w => cut13_of s 410 w hsm (by unfold maxLen; omega))
              have HC2 := Lib.hid (fun w => cut13_of (cutT s 410) (rowS L l j).2 w (by have := (cutT_le s 410).2; omega) (by unfold maxLen; omega))
              have HU : Hid (cutT (cutT s 410) (rowS L l j).2 = cutB s (rowS L l j).2) := Lib.hid rfl
              rw [HU.out] at HC2
              clear hs hsm HU
              unfold rowF at HST
              generalize hr1 : (rowS L l j).1 = R1 at *
              generalize hr2 : (rowS L l j).2 = R2 at *
              generalize cutT s 410 = s1 at *
              generalize cutB s R2 = s2 at *
              clear hr1 hr2
              go_wp2_with fail
              refine (HC1.out _).mono ?_; rintro e w3 ⟨rfl, rfl⟩
              go_wp2_with fail
              refine (HC2.out _).mono ?_; rintro e w3 ⟨rfl, rfl⟩
              clear HC1 HC2
              have C3 : Hid (q + 1 ≤ maxLen) := by show _ ≤ _; unfold maxLen; omega
              have C4 : Hid ((q + 1) * 16 ≤ 140737488355328) := by show _ ≤ _; omega
              have C5 : Hid (wq.heap.size ≤ (wy.alloc (Obj.cells #[.string s2] 9)).heap.size) := by show _ ≤ _; have := HB7.out.size; simp only [World.size_alloc]; omega
              go_wp2_with (first
                | (at_builtin; refine wpList_append_own _ rfl (.tmp 36) (.tmp 38) 61 rfl wq.heap.size 9 i0 (.string ByteArray.empty) 1 16 Try.underlying61 hi0 hz0 hz1 hz2 rfl (by decide) (.slice a7 q c7) (q) (strs R1) rfl (HO7.out.alloc _) ⟨wy.heap.size, 0, none⟩ 1 1 [.string s2] rfl rfl (c1_one wy _ _) (c2_one _ rfl) C3.out C4.out C5.out ?_)
                | fail)
              intro vN wB hoN hgN _
              obtain ⟨aN, cN, rfl⟩ := own_slice hoN
              have HOB := Lib.hid hoN
              have HBB := Lib.hid (app_below HB7.out HO7.out hgN)
              clear hoN hgN C3 C4 C5
              go_wp2_with fail
              go_roundw
              case rel =>
                have hst := HST.out
                refine ⟨j + 1, q + 1, aN, cN, ?_, by go_num, by go_num, by omega, ?_, ?_, HBB.out⟩
                · rw [hst]; exact int_eq (by simp only []; omega)
                · rw [hst, HQ.out]; simp
                · rw [hst]; show wB.ownsRow _ _ _ _ _ (strs (R1 ++ [s2])); rw [← strs_app]; exact HOB.out
              case measure => simp [intOf]; omega
            · have d45 : decide ((j : Int) < 45) = false := decide_eq_false (by omega)
              have HST := Lib.hid (rowS_over (left := L) (l := l) (Nat.le_of_not_lt h45))
              clear hs
              go_wp2_with fail
              go_roundw
              case rel => exact ⟨j + 1, q, a7, c7, by rw [HST.out], rfl, by go_num, by omega, by rw [HST.out]; exact HQ.out, by rw [HST.out]; exact HO7.out, HB7.out⟩
              case measure => simp [intOf]; omega
          · have dj : decide (j < ln) = false := decide_eq_false hlj
            have HRA := Lib.hid (rowS_all (left := L) (l := l) (j := j) (by rw [HLN.out]; omega))
            rw [HRA.out] at HO7 HQ hl6
            have HQ2 := HQ.out
            have HSU : Hid (fewS (txL T) (m + 1) = ((fewS (txL T) m).1 ++ [(rowA L l).1], (rowA L l).2)) := Lib.hid (by rw [fewS_succ HX.out]; unfold mxF; rw [HL.out])
            have HQ3 := Lib.hid HQ2
            clear HQ HQ2
            rw [show ((rowS L l j).2) = (rowA L l).2 from congrArg Prod.snd HRA.out]
            generalize (rowA L l).1 = R1 at *
            generalize (rowA L l).2 = R2 at *
            have hz7 := HB7.out.size
            have hoo := own_below HO.out HB7.out
            have htt := HTO.out.below HB7.out
            have hbb := HB.out.trans (HB7.out.mono HB.out.size)
            have HO3 := Lib.hid hoo
            have HT3 := Lib.hid htt
            have HB3 := Lib.hid hbb
            have HR3 := Lib.hid (own_mono HO7.out HB.out.size)
            clear hoo htt hbb
            have C3 : Hid (m + 1 ≤ maxLen) := by show _ ≤ _; unfold maxLen; omega
            have C4 : Hid ((m + 1) * 24 ≤ 140737488355328) := by show _ ≤ _; omega
            have C5 : Hid (w.heap.size ≤ (wy.alloc (Obj.cells #[.slice a7 q c7] 61)).heap.size) := by show _ ≤ _; have := HB3.out.size; simp only [World.size_alloc]; omega
            go_wp2_with (first
              | (at_builtin; refine wpList_append_own _ rfl (.tmp 41) (.tmp 43) 26 rfl w.heap.size 61 j0 (.slice none 0 0) 1 24 Try.underlying26 hj0 hy0 hy1 hy2 rfl (by decide) (.slice a3 m c3) (m) (T'.map txV) rfl (HO3.out.alloc _) ⟨wy.heap.size, 0, none⟩ 1 1 [.slice a7 q c7] rfl rfl (c1_one wy _ _) (c2_one _ rfl) C3.out C4.out C5.out ?_)
              | fail)
            intro vN wB hoN hgN _
            obtain ⟨aN, cN, rfl⟩ := own_slice hoN
            have HOB := Lib.hid hoN
            have HBB := Lib.hid (app_below HB3.out HO3.out hgN)
            have HTB : Hid (TOwn wB w.heap.size (T' ++ [(a7, c7, R1)])) := Lib.hid (fun p hp => by
              rcases List.mem_append.1 hp with hp | hp
              · exact own_grown ((HT3.out p hp).alloc _) (HO3.out.alloc _) (by decide) hgN
              · simp only [List.mem_singleton] at hp
                subst hp
                have hh := own_grown (HR3.out.alloc _) (HO3.out.alloc _) (by decide) hgN
                show wB.ownsRow _ _ _ (.slice a7 R1.length c7) R1.length (strs R1)
                rw [← HQ3.out]; exact hh)
            clear hoN hgN C3 C4 C5
            go_wp2_with fail
            go_roundw
            case rel =>
              have hsu := HSU.out
              have hlen : (T' ++ [((a7, c7, R1) : TxM)]).length = m + 1 := by rw [List.length_append, HM.out]; rfl
              refine ⟨m + 1, T' ++ [(a7, c7, R1)], aN, cN, by rw [hlen] <;> go_num, by rw [hsu], by go_num, by omega, by omega, ?_, hlen, ?_, HTB.out, HBB.out⟩
              · rw [hsu, txL_app, HTX.out]; rfl
              · rw [hlen, List.map_append]
                have e : [((a7, c7, R1) : TxM)].map txV = [Value.slice a7 q c7] := by unfold txV; rw [HQ3.out]; rfl
                rw [e]; exact HOB.out
            case measure => simp [intOf]; omega
    · have dk : decide (m < n) = false := decide_eq_false hlt
      have hmn : m = n := by omega
      have HFS : Hid (txL T' = fewM (txL T)) := Lib.hid (by rw [HTX.out]; unfold fewM; rw [fewS_all (by rw [txL_len, HN.out]; omega) (by rw [txL_len, HN.out]; omega)])
      generalize (fewS (txL T) m).2 = left at *
      clear hmn
      go_wp2_with fail
      go_ret
      exact ⟨a3, c3, T', HFS.out, by rw [HM.out] <;> rfl, ⟨mx_of_own HO.out HTO.out, wr_of_own HO.out HTO.out⟩, HB.out⟩

end Go.Proofs.Yteipnllefifgiaa
