/-
  The contract of the statements' texts, at this seat's numbers.
-/
import Derived.Test.YtelnehjmkjpjhaaDoorQuW
import Derived.Test.YtelnehjmkjpjhaaDoorQuD
namespace Go.Proofs.YtelnehjmkjpjhaaDoor
open Go Go.RowKit
set_option linter.unusedVariables false

theorem TbIn.grown {w w' : World} {B sz n : Nat} {e : TypeId} {v : Value} {xs : List Value} {p : TxM} (h : TbIn w p) (ho : w.ownsRow B e sz v n xs) (he : e ≠ 5) (hg : w.grownBy w' v.ownBlock) : TbIn w' p := by
  obtain ⟨g, cs, fr, e1, hg1, hc⟩ := h
  exact ⟨g, cs, fr, e1, (hg.block g (lt_of_heap hg1) (fun hh => own_ne ho hg1 he hh.symm)).trans hg1, hc⟩
theorem info_str : (Tryd.prog.info? 9).map (fun i => (i.zero, i.size, i.bytes)) = some (some (.string ByteArray.empty), 1, 16) := by kernel_rfl
theorem info_bs : (Tryd.prog.info? 28).map (fun i => (i.zero, i.size, i.bytes)) = some (some (.slice none 0 0), 1, 24) := by kernel_rfl

/-- The texts that are taken. -/
def txL (S : List ByteArray) : List (List UInt8) := (S.take 12).map fun s => (cutS s 60).data.toList
theorem txL_more {S : List ByteArray} {k : Nat} (h : k < S.length) (h2 : k < 12) : txL (S.take (k + 1)) = txL (S.take k) ++ [(cutS S[k] 60).data.toList] := by
  unfold txL
  rw [List.take_take, List.take_take, Nat.min_eq_right (by omega), Nat.min_eq_right (by omega), List.take_succ_eq_append_getElem h, List.map_append]; rfl
theorem txL_past {S : List ByteArray} {k : Nat} (h2 : 12 ≤ k) : txL (S.take (k + 1)) = txL (S.take k) := by
  unfold txL
  rw [List.take_take, List.take_take, Nat.min_eq_left (by omega), Nat.min_eq_left (by omega)]
theorem txL_len (S : List ByteArray) : (txL S).length ≤ 12 := by unfold txL; simp; omega
theorem tsC_snoc (M : List TxM) (p : TxM) : tsC (M ++ [p]) = tsC M ++ [.slice p.2.1 p.1.length p.2.2] := by unfold tsC; simp

/-- What texts hands back. -/
structure TxOut (w : World) (B : Nat) (M : List TxM) (a1 : Option Addr) (c1 : Nat) (a2 : Option Addr) (c2 : Nat) : Prop where
  strs : w.ownsRow B 9 1 (.slice a1 M.length c1) M.length (txC (M.map (·.1)))
  rows : w.ownsRow B 28 1 (.slice a2 M.length c2) M.length (tsC M)
  ins : ∀ p ∈ M, TbIn w p
def TxJ (S : List ByteArray) (w : World) (v4 v5 v10 : Value) (wr : World) : Prop := ∃ (k : Nat) (M : List TxM) (a1 : Option Addr) (c1 : Nat) (a2 : Option Addr) (c2 : Nat), v10 = .int .i64 k ∧ k ≤ S.length ∧ v4 = .slice a1 M.length c1 ∧ v5 = .slice a2 M.length c2 ∧ M.map (·.1) = txL (S.take k) ∧ TxOut wr w.heap.size M a1 c1 a2 c2 ∧ Below w.heap.size w wr

set_option maxRecDepth 100000 in
set_option maxHeartbeats 4000000 in
theorem texts_of {w : World} {a : Option Addr} {c : Nat} {S : List ByteArray} (hr : Rd w 1 a S.length (S.map Value.string)) (hs : ∀ s ∈ S, s.size ≤ maxLen) (hn : S.length ≤ maxLen) :
    Calls Tryd.prog 6 #[.slice a S.length c] w fun e w' => ∃ (M : List TxM) (a1 : Option Addr) (c1 : Nat) (a2 : Option Addr) (c2 : Nat), e = .returned (.tuple #[.slice a1 M.length c1, .slice a2 M.length c2]) ∧ M.map (·.1) = txL S ∧ TxOut w' w.heap.size M a1 c1 a2 c2 ∧ Below w.heap.size w w' := by
  obtain ⟨i0, hi0, hz0, hz1, hz2⟩ := info_parts info_str
  obtain ⟨i1, hi1, hy0, hy1, hy2⟩ := info_parts info_bs
  unfold maxLen at hn
  have HR := Lib.hid hr
  have HS := Lib.hid hs
  clear hr hs
  go_enter Tryd.func6, Tryd.ntmps6
  go_wp2_with fail
  go_loopw [4, 5, 10] (fun v4 v5 v10 wr => TxJ S w v4 v5 v10 wr) (fun _ _ v10 _ => S.length - (intOf v10).toNat)
  case atStart => exact ⟨0, [], none, 0, none, 0, rfl, by omega, rfl, rfl, rfl, ⟨own_nil _ _ _ _, own_nil _ _ _ _, fun p hp => by simp at hp⟩, Below.refl _ _⟩
  case round =>
    obtain ⟨wq, rfl⟩ : ∃ wq : World, wq = wr := ⟨_, rfl⟩
    obtain ⟨k, M, a1, c1, a2, c2, rfl, hk, rfl, rfl, hM, ho, hb⟩ := hrel
    have hml : M.length ≤ 12 := by have := txL_len (S.take k); rw [← hM, List.length_map] at this; exact this
    have HM := Lib.hid hM
    have HO1 := Lib.hid ho.strs
    have HO2 := Lib.hid ho.rows
    have HI := Lib.hid ho.ins
    have HB := Lib.hid hb
    have hzr := hb.size
    clear hM ho hb
    by_cases hlt : k < S.length
    · have dk : decide (k < S.length) = true := decide_eq_true hlt
      obtain ⟨b, off, rfl, hbl, hcl⟩ := HR.out.2 (by omega)
      have hc := (HB.out.cell (p := ⟨b, off + k, none⟩) hbl).trans (hcl k (.string S[k]) (by rw [List.getElem?_map, List.getElem?_eq_getElem hlt]; rfl))
      have HC := Lib.hid (fun w' => cut6_of S[k] 60 w' (HS.out _ (List.getElem_mem hlt)) (by decide))
      have hct := cutS_le S[k] 60
      clear hcl
      by_cases h12 : k < 12
      · have HTX := Lib.hid (txL_more hlt h12)
        have d12 : decide ((k : Int) < 12) = true := decide_eq_true (by omega)
        have d12' : decide (k < 12) = true := decide_eq_true h12
        generalize S[k] = s at *
        generalize cutS s 60 = t at *
        go_wp2_with fail
        refine (HC.out _).mono ?_; rintro e wx ⟨rfl, rfl⟩
        clear HC hc
        have C1 : Hid (∀ q u, ([(.string t)] : List Value)[q]? = some u → (wq.alloc (Obj.cells #[(.string t)] 9)).cell? (Addr.add ⟨wq.heap.size, 0, none⟩ q) = some u) := by
          intro q u hq
          rw [Addr.add_lit, Nat.zero_add]
          rw [cell_at (heap_alloc_new wq _)]
          simpa using hq
        have C2 : Hid (∀ u ∈ ([(.string t)] : List Value), u.oneCell' = true) := by
          intro u hu
          obtain rfl := List.mem_singleton.1 hu; rfl
        have C3 : Hid (M.length + 1 ≤ maxLen) := by show _ ≤ _; unfold maxLen; omega
        have C4 : Hid ((M.length + 1) * 16 ≤ 140737488355328) := by show _ ≤ _; omega
        have C5 : Hid (w.heap.size ≤ (wq.alloc (Obj.cells #[(.string t)] 9)).heap.size) := by show _ ≤ _; have := HB.out.size; simp only [World.size_alloc]; omega
        have HOA := Lib.hid (HO1.out.alloc (Obj.cells #[(.string t)] 9))
        go_wp2_with (first
          | (at_builtin; refine wpList_append_own _ rfl (.tmp 19) (.tmp 21) 22 rfl w.heap.size 9 i0 (.string ByteArray.empty) 1 16 Tryd.underlying22 hi0 hz0 hz1 hz2 rfl (by decide) (.slice a1 M.length c1) M.length (txC (M.map (·.1))) rfl HOA.out ⟨wq.heap.size, 0, none⟩ 1 1 [(.string t)] rfl rfl C1.out C2.out C3.out C4.out C5.out ?_)
          | fail)
        intro v7 wB ho7 hg7 _
        obtain ⟨a8, c8, rfl⟩ := own_slice ho7
        have OB := Lib.hid ho7
        have GB := Lib.hid hg7
        have BB := Lib.hid ((HB.out.alloc (by have := HB.out.size; omega) _).grown hg7 (by have := HB.out.size; simp only [World.size_alloc]; omega) (fun q hq => (HO1.out.lt q hq).1))
        clear ho7 hg7 C1 C2 C3 C4 C5
        have O2B := Lib.hid (own_grown (HO2.out.alloc (Obj.cells #[.string t] 9)) HOA.out (by decide) GB.out)
        have IB : Hid (∀ p ∈ M, TbIn wB p) := fun p hp => ((HI.out p hp).below (below_al wq _)).grown HOA.out (by decide) GB.out
        clear HOA GB
        obtain ⟨cap, W, hcv, htb, hbW⟩ := tb_of t wB
        obtain ⟨x, hx⟩ : ∃ x, t.data.toList = x := ⟨_, rfl⟩
        have hsz := sz_of hx
        rw [hx] at htb HTX
        rw [hsz] at hcv
        have HSX : Hid (strOf x = t) := by show _ = _; rw [← hx]; exact strOf_data t
        clear hx
        have O1W := Lib.hid (own_below OB.out hbW)
        have O2W := Lib.hid (own_below O2B.out hbW)
        have IW : Hid (∀ p ∈ M, TbIn W p) := fun p hp => (IB.out p hp).below hbW
        have HTB := Lib.hid htb
        have BW := Lib.hid (BB.out.trans (hbW.mono BB.out.size))
        clear htb hbW OB O2B IB
        generalize wB.heap.size = gb at *
        have C1 : Hid (∀ q u, ([(.slice (some ⟨gb, 0, none⟩) x.length cap)] : List Value)[q]? = some u → (W.alloc (Obj.cells #[(.slice (some ⟨gb, 0, none⟩) x.length cap)] 28)).cell? (Addr.add ⟨W.heap.size, 0, none⟩ q) = some u) := by
          intro q u hq
          rw [Addr.add_lit, Nat.zero_add]
          rw [cell_at (heap_alloc_new W _)]
          simpa using hq
        have C2 : Hid (∀ u ∈ ([(.slice (some ⟨gb, 0, none⟩) x.length cap)] : List Value), u.oneCell' = true) := by
          intro u hu
          obtain rfl := List.mem_singleton.1 hu; rfl
        have C3 : Hid (M.length + 1 ≤ maxLen) := by show _ ≤ _; unfold maxLen; omega
        have C4 : Hid ((M.length + 1) * 24 ≤ 140737488355328) := by show _ ≤ _; omega
        have C5 : Hid (w.heap.size ≤ (W.alloc (Obj.cells #[(.slice (some ⟨gb, 0, none⟩) x.length cap)] 28)).heap.size) := by show _ ≤ _; have := BW.out.size; simp only [World.size_alloc]; omega
        have HOA := Lib.hid (O2W.out.alloc (Obj.cells #[(.slice (some ⟨gb, 0, none⟩) x.length cap)] 28))
        go_wp2_with (first
          | (at_builtin; refine wpList_append_own _ rfl (.tmp 23) (.tmp 26) 24 rfl w.heap.size 28 i1 (.slice none 0 0) 1 24 Tryd.underlying24 hi1 hy0 hy1 hy2 rfl (by decide) (.slice a2 M.length c2) M.length (tsC M) rfl HOA.out ⟨W.heap.size, 0, none⟩ 1 1 [(.slice (some ⟨gb, 0, none⟩) x.length cap)] rfl rfl C1.out C2.out C3.out C4.out C5.out ?_)
          | fail)
        intro v7 wZ ho7 hg7 _
        obtain ⟨a9, c9, rfl⟩ := own_slice ho7
        have OZ := Lib.hid ho7
        have GZ := Lib.hid hg7
        have BZ := Lib.hid ((BW.out.alloc (by have := BW.out.size; omega) _).grown hg7 (by have := BW.out.size; simp only [World.size_alloc]; omega) (fun q hq => (O2W.out.lt q hq).1))
        clear ho7 hg7 C1 C2 C3 C4 C5
        have O1Z := Lib.hid (own_grown (O1W.out.alloc (Obj.cells #[.slice (some ⟨gb, 0, none⟩) x.length cap] 28)) HOA.out (by decide) GZ.out)
        have IZ : Hid (∀ p ∈ M ++ [(x, some ⟨gb, 0, none⟩, cap)], TbIn wZ p) := by
          intro p hp
          have hW : TbIn W p := by
            rcases List.mem_append.1 hp with hp | hp
            · exact IW.out p hp
            · obtain rfl := List.mem_singleton.1 hp; exact HTB.out
          exact (hW.below (below_al W _)).grown HOA.out (by decide) GZ.out
        have HOUT : Hid (TxOut wZ w.heap.size (M ++ [(x, some ⟨gb, 0, none⟩, cap)]) a8 c8 a9 c9) := by
          refine ⟨?_, ?_, IZ.out⟩
          · have h1 := O1Z.out
            rw [← HSX.out] at h1
            rw [List.map_append, List.length_append, show txC (M.map (·.1) ++ [(x, (some ⟨gb, 0, none⟩ : Option Addr), cap)].map (·.1)) = txC (M.map (·.1)) ++ [.string (strOf x)] from txC_snoc _ _]
            exact h1
          · rw [List.length_append, tsC_snoc]
            exact OZ.out
        have HMX : Hid ((M ++ [(x, (some ⟨gb, 0, none⟩ : Option Addr), cap)]).map (·.1) = txL (S.take (k + 1))) := by
          show _ = _
          rw [List.map_append, HM.out, HTX.out]; rfl
        clear HOA GZ
        go_wp2_with fail
        go_roundw
        case rel => exact ⟨k + 1, _, a8, c8, a9, c9, by go_num, hlt, by rw [List.length_append]; rfl, by rw [List.length_append]; rfl, HMX.out, HOUT.out, BZ.out⟩
        case measure => simp [intOf]; omega
      · have HTX := Lib.hid (txL_past (S := S) (k := k) (by omega))
        have d12 : decide ((k : Int) < 12) = false := decide_eq_false (by omega)
        have d12' : decide (k < 12) = false := decide_eq_false h12
        clear HC hct
        go_wp2_with fail
        go_roundw
        case rel => exact ⟨k + 1, M, a1, c1, a2, c2, by go_num, hlt, rfl, rfl, HM.out.trans HTX.out.symm, ⟨HO1.out, HO2.out, HI.out⟩, HB.out⟩
        case measure => simp [intOf]; omega
    · have dk : decide (k < S.length) = false := decide_eq_false hlt
      obtain rfl : k = S.length := by omega
      rw [List.take_length] at HM
      go_wp2_with fail
      go_ret2
      exact ⟨M, a1, c1, a2, c2, rfl, HM.out, ⟨HO1.out, HO2.out, HI.out⟩, HB.out⟩

end Go.Proofs.YtelnehjmkjpjhaaDoor
