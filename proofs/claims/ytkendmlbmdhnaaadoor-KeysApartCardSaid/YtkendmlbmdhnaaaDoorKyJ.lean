/-
  The walk of KeysApart, at this seat's numbers.
-/
import Derived.Test.YtkendmlbmdhnaaaDoorKyH
import Derived.Test.YtkendmlbmdhnaaaDoorLiftK
import Derived.Deep.AppendLies
namespace Go.Proofs.YtkendmlbmdhnaaaDoor
open Go Go.RowKit
set_option linter.unusedVariables false

theorem apart_big {a b : Option Addr} {c d : Nat} (N M : Nat) (w : World) (h : 100 < N ∨ 100 < M) (hNc : N ≤ c) (hMd : M ≤ d) (hcm : c ≤ maxLen) (hdm : d ≤ maxLen) (hT : Tabs w) (hN : NmT w) :
    Calls Tryd.prog 6 #[.slice a N c, .slice b M d] w fun e w' => e = .returned (.bool true) ∧ Below w.heap.size w w' := by
  have HA := Lib.hid (awake22_of w hN hT)
  unfold maxLen at hcm hdm
  clear hN hT
  by_cases h1 : 100 < N
  · go_enter Tryd.func6, Tryd.ntmps6
    go_wp2_with fail
    refine HA.out.mono ?_
    rintro e w1 ⟨rfl, hb⟩
    have HB := Lib.hid hb
    clear hb
    go_wp2_with fail
    go_ret
    exact ⟨rfl, HB.out⟩
  · have h2 : 100 < M := by omega
    go_enter Tryd.func6, Tryd.ntmps6
    go_wp2_with fail
    refine HA.out.mono ?_
    rintro e w1 ⟨rfl, hb⟩
    have HB := Lib.hid hb
    clear hb
    go_wp2_with fail
    go_ret
    exact ⟨rfl, HB.out⟩

theorem own_apart {w w' : World} {B e size n : Nat} {v u : Value} {xs : List Value} (h : w.ownsRow B e size v n xs) (hg : w.grownBy w' u.ownBlock) (hd : ∀ g, u.ownBlock = some g → v.ownBlock ≠ some g) : w'.ownsRow B e size v n xs := by
  refine h.kept (row := u.ownBlock) hg ?_
  cases hv : v.ownBlock with
  | none => exact Or.inl rfl
  | some g => exact Or.inr fun e => hd g e.symm hv

set_option maxRecDepth 100000 in
set_option maxHeartbeats 2000000 in
theorem apart_few {a b : Option Addr} {c d : Nat} (l m : List Int) (w : World) (Hl : Sl w a c (nums l)) (Hm : Sl w b d (nums m)) (hl : l.length ≤ 100) (hm : m.length ≤ 100) (hT : Tabs w) (hN : NmT w) :
    Calls Tryd.prog 6 #[.slice a l.length c, .slice b m.length d] w fun e w' => e = .returned (.bool true) ∧ Below w.heap.size w w' := by
  obtain ⟨i0, hi, hz0, hz1, hz2⟩ := info_parts info_int
  have HN := Lib.hid hN
  have HT := Lib.hid hT
  have HP1 := Lib.hid fun (v : World) (hv : Below w.heap.size w v) => print_of l (Hl.below hv) (by omega) (hN.below hv)
  have HP2 := Lib.hid fun (v : World) (hv : Below w.heap.size w v) => print_of m (Hm.below hv) (by omega) (hN.below hv)
  have s1 := prt_len l
  have s2 := prt_len m
  have s3 := prt_len (l ++ m)
  rw [← strOf_size] at s1 s2 s3
  rw [List.length_append] at s3
  have f1 : (l.filter isK).length ≤ 100 := Nat.le_trans (List.length_filter_le _ _) hl
  have f2 : (m.filter isK).length ≤ 100 := Nat.le_trans (List.length_filter_le _ _) hm
  have HR1 := Lib.hid fun (v : World) (hv : NmT v) (ht : Tabs v) => parse_own (strOf (prt l)) v (by omega) hv ht
  have HR2 := Lib.hid fun (v : World) (hv : NmT v) (ht : Tabs v) => parse_own (strOf (prt m)) v (by omega) hv ht
  have HR3 := Lib.hid fun (v : World) (hv : NmT v) (ht : Tabs v) => parse_own (strOf (prt (l ++ m))) v (by omega) hv ht
  have HQ1 := Lib.hid (prt_parse l)
  have HQ2 := Lib.hid (prt_parse m)
  have hq3 := prt_parse (l ++ m)
  rw [List.filter_append] at hq3
  have HQ3 := Lib.hid hq3
  have HC := Lib.hid (show strOf (prt l) ++ strOf (prt m) = strOf (prt (l ++ m)) from by rw [strOf_app, prt_app])
  generalize strOf (prt (l ++ m)) = S3 at *
  generalize strOf (prt l) = S1 at *
  generalize strOf (prt m) = S2 at *
  generalize hA : l.filter isK = A at *
  generalize hB : m.filter isK = B at *
  generalize l.length = nl at *
  generalize m.length = nm' at *
  clear Hl Hm hN hT hq3 hA hB
  go_enter Tryd.func6, Tryd.ntmps6
  go_wp2_with fail
  refine (HP1.out w (Below.refl _ _)).mono ?_
  rintro e w1 ⟨rfl, hb⟩
  have HB1 := Lib.hid hb; clear hb
  go_wp2_with fail
  refine (HR1.out w1 (HN.out.below HB1.out) (HT.out.below HB1.out)).mono ?_
  rintro e w2 ⟨hb, he⟩
  rw [HQ1.out] at he
  obtain ⟨vA, rfl, hoA⟩ := he
  have HB2 := Lib.hid (HB1.out.trans (hb.mono HB1.out.size))
  have HOA2 := Lib.hid (own_base hoA HB1.out.size)
  clear hb hoA
  go_wp2_with fail
  refine (HP2.out w2 HB2.out).mono ?_
  rintro e w3 ⟨rfl, hb⟩
  have HB3 := Lib.hid (HB2.out.trans (hb.mono HB2.out.size))
  have HOA3 := Lib.hid (own_below HOA2.out hb)
  clear hb
  go_wp2_with fail
  refine (HR2.out w3 (HN.out.below HB3.out) (HT.out.below HB3.out)).mono ?_
  rintro e w4 ⟨hb, he⟩
  rw [HQ2.out] at he
  obtain ⟨vB, rfl, hoB⟩ := he
  have HB4 := Lib.hid (HB3.out.trans (hb.mono HB3.out.size))
  have HOA4 := Lib.hid (own_below HOA3.out hb)
  have HOB4 := Lib.hid hoB
  have HS4 := Lib.hid hb.size
  clear hb hoB
  go_wp2_with fail
  refine (HP1.out w4 HB4.out).mono ?_
  rintro e w5 ⟨rfl, hb⟩
  have HB5 := Lib.hid (HB4.out.trans (hb.mono HB4.out.size))
  have HOA5 := Lib.hid (own_below HOA4.out hb)
  have HOB5 := Lib.hid (own_below HOB4.out hb)
  have HS5 := Lib.hid (Nat.le_trans HS4.out hb.size)
  clear hb
  go_wp2_with fail
  refine (HP2.out w5 HB5.out).mono ?_
  rintro e w6 ⟨rfl, hb⟩
  have HB6 := Lib.hid (HB5.out.trans (hb.mono HB5.out.size))
  have HOA6 := Lib.hid (own_below HOA5.out hb)
  have HOB6 := Lib.hid (own_below HOB5.out hb)
  have HS6 := Lib.hid (Nat.le_trans HS5.out hb.size)
  clear hb
  go_wp2_with fail
  rw [HC.out]
  go_wp2_with fail
  refine (HR3.out w6 (HN.out.below HB6.out) (HT.out.below HB6.out)).mono ?_
  rintro e w7 ⟨hb, he⟩
  rw [HQ3.out] at he
  obtain ⟨vC, rfl, hoC⟩ := he
  have HB7 := Lib.hid (HB6.out.trans (hb.mono HB6.out.size))
  have HOA7 := Lib.hid (own_below HOA6.out hb)
  have HOB7 := Lib.hid (own_below HOB6.out hb)
  have HOC7 := Lib.hid (own_base hoC (Nat.zero_le _))
  have HD7 := Lib.hid (show ∀ g, vA.ownBlock = some g → vB.ownBlock ≠ some g ∧ vC.ownBlock ≠ some g from fun g hg => by
    have hA3 := (HOA3.out.lt g hg).2
    refine ⟨fun h => ?_, fun h => ?_⟩
    · have := (HOB4.out.lt g h).1; omega
    · have h1 := (hoC.lt g h).1; have h2 := HS6.out; omega)
  clear hb hoC
  obtain ⟨aB, cB, hvB, _⟩ := sl_own HOB7.out
  subst hvB
  obtain ⟨n, hnn⟩ : ∃ n, B.length = n := ⟨_, rfl⟩
  have HNN := Lib.hid hnn
  rw [hnn] at f2 ⊢
  have HOB7' := HOB7
  clear hnn
  go_wp2_with fail
  go_loopw [5, 45] (fun v5 v45 wr => ∃ k : Nat, v45 = .int .i64 k ∧ k ≤ n ∧ wr.ownsRow w.heap.size 3 1 v5 (A ++ B.take k).length (nums (A ++ B.take k)) ∧ wr.ownsRow 0 3 1 (.slice aB n cB) B.length (nums B) ∧ wr.ownsRow 0 3 1 vC (A ++ B).length (nums (A ++ B)) ∧
    (∀ g, v5.ownBlock = some g → (Value.slice aB n cB).ownBlock ≠ some g ∧ vC.ownBlock ≠ some g) ∧ Below w.heap.size w wr) (fun _ v45 _ => n - (intOf v45).toNat)
  case atStart =>
    refine ⟨0, rfl, by omega, ?_, ?_, HOC7.out, ?_, HB7.out⟩
    · rw [List.take_zero, List.append_nil]; exact HOA7.out
    · have := own_base HOB7.out (Nat.zero_le _); rw [HNN.out] at this; rw [HNN.out]; exact this
    · have := HD7.out; rw [HNN.out] at this; exact this
  case round =>
    obtain ⟨k, rfl, hk, hoA, hoB, hoC, hd, hb⟩ := hrel
    have HB := Lib.hid hb
    have HOA := Lib.hid hoA
    have HOB := Lib.hid hoB
    have HOC := Lib.hid hoC
    have HD := Lib.hid hd
    have hal : (A ++ B.take k).length ≤ 200 := by rw [List.length_append, List.length_take]; omega
    clear hb hoA hoB hoC hd HOA2 HOA3 HOA4 HOA5 HOA6 HOA7 HOB4 HOB5 HOB6 HOB7 HOB7' HOC7 HD7 HB7 HB6 HB5 HB4 HB3 HB2 HB1
    by_cases hlt : k < n
    · have hkl : k < B.length := by rw [HNN.out]; exact hlt
      obtain ⟨x, hx⟩ : ∃ x, B[k]? = some x := ⟨_, List.getElem?_eq_getElem hkl⟩
      have hsl : Sl wr aB cB (nums B) := by
        obtain ⟨a', c', he, h'⟩ := sl_own HOB.out
        injection he with e1 e2 e3
        subst e1 e3
        exact h'
      obtain ⟨g, o, ha⟩ := hsl.numsome (by omega)
      subst ha
      have hcell : wr.cell? ⟨g, o + k, none⟩ = some (.int .i64 x) := (hsl.num hx).1
      have hts : A ++ B.take (k + 1) = (A ++ B.take k) ++ [x] := by rw [List.take_add_one, hx, List.append_assoc]; rfl
      have HTS := Lib.hid hts
      have hsz := HB.out.size
      clear hx hts hsl
      generalize hX : A ++ B.take k = X at *
      clear hX
      have C3 := Lib.hid (show X.length + 1 ≤ maxLen by unfold maxLen; omega)
      go_wp2_with (first
        | (at_builtin; refine wpList_append_lies _ rfl (.tmp 49) (.tmp 51) 28 rfl w.heap.size 3 i0 (.int .i64 0) 1 8 Tryd.underlying28 hi hz0 hz1 hz2 rfl (by decide) _ _ _ rfl (HOA.out.alloc _) ⟨wr.heap.size, 0, none⟩ 1 1 [.int .i64 x] rfl rfl ?c1 ?c2 (by decide) ?c3 ?c4 ?c5 _ rfl ?_)
        | fail)
      case c1 =>
        intro j u hj
        match j, hj with
        | 0, hj => simp at hj; subst hj; simp [Addr.add]
      case c2 => intro u hu; simp at hu; subst hu; rfl
      case c3 => unfold maxLen; omega
      case c4 => omega
      case c5 => simp; omega
      intro g6 cap6 w6 ho6 hg6 hat6 hlt6
      have HO6 := Lib.hid ho6
      have HOB6 := Lib.hid (own_apart (HOB.out.alloc _) hg6 fun g hg => (HD.out g hg).1)
      have HOC6 := Lib.hid (own_apart (HOC.out.alloc _) hg6 fun g hg => (HD.out g hg).2)
      have HB6 := Lib.hid ((HB.out.alloc hsz _).grown hg6 (by simp; omega) (fun j hj => (HOA.out.lt j hj).1))
      have HD6 := Lib.hid (show ∀ g', (Value.slice (some ⟨g6, 0, none⟩) (X.length + 1) cap6).ownBlock = some g' → (Value.slice (some ⟨g, o, none⟩) n cB).ownBlock ≠ some g' ∧ vC.ownBlock ≠ some g' from fun g' hg' => by
        obtain rfl : g6 = g' := by simpa [Value.ownBlock] using hg'
        rcases hat6 with h | h
        · exact HD.out _ h
        · have hh : wr.heap.size < g6 := by rw [h]; simp
          exact ⟨fun h2 => by have := (HOB.out.lt _ h2).2; omega, fun h2 => by have := (HOC.out.lt _ h2).2; omega⟩)
      clear ho6 hg6 hat6 hlt6
      go_wp2_with fail
      go_roundw
      case rel =>
        refine ⟨k + 1, rfl, by omega, ?_, HOB6.out, HOC6.out, HD6.out, HB6.out⟩
        rw [HTS.out, List.length_append, List.length_singleton]
        have := HO6.out
        rw [show nums X ++ [Value.int .i64 x] = nums (X ++ [x]) from by unfold nums; rw [List.map_append]; rfl] at this
        exact this
      case measure => simp [intOf]; omega
    · have e : B.take k = B := by
        rw [List.take_of_length_le]
        rw [HNN.out]; omega
      rw [e] at HOA hal
      generalize hX : A ++ B = X at *
      clear hX
      obtain ⟨a5, c5, h5, hs5⟩ := sl_own HOA.out
      obtain ⟨aC, cC, hC, hsC⟩ := sl_own HOC.out
      subst h5 hC
      have HSA := Lib.hid hs5
      have HSC := Lib.hid hsC
      clear e hs5 hsC
      go_wp2_with fail
      refine (nsame X X HSC.out HSA.out (by omega)).mono ?_
      rintro e w8 ⟨rfl, hb8⟩
      have HB8 := Lib.hid (HB.out.trans (hb8.mono HB.out.size))
      clear hb8
      rw [show decide (X = X) = true from decide_eq_true rfl]
      go_wp2_with fail
      refine (awake22_of w8 (HN.out.below HB8.out) (HT.out.below HB8.out)).mono ?_
      rintro e w9 ⟨rfl, hb9⟩
      have HB9 := Lib.hid (HB8.out.trans (hb9.mono HB8.out.size))
      clear hb9
      go_wp2_with fail
      go_ret
      exact ⟨rfl, HB9.out⟩

theorem keysApart_walk (a : Option Addr) (c : Nat) (l : List Int) (b : Option Addr) (d : Nat) (m : List Int) (w : World) (h : Sl w a c (l.map (Value.int .i64)) ∧ ∀ x ∈ l, I64 x) (h' : Sl w b d (m.map (Value.int .i64)) ∧ ∀ x ∈ m, I64 x) (hT : Tabs w) (hN : NmT w) :
    Calls Tryd.prog 6 #[.slice a l.length c, .slice b m.length d] w fun e w' => e = .returned (.bool true) ∧ Below w.heap.size w w' := by
  have Hl : Sl w a c (nums l) := h.1
  have Hm : Sl w b d (nums m) := h'.1
  by_cases hn : l.length ≤ 100 ∧ m.length ≤ 100
  · exact apart_few l m w Hl Hm hn.1 hn.2 hT hN
  · have hc := Hl.cap
    have hd := Hm.cap
    rw [nums_len] at hc hd
    exact apart_big l.length m.length w (by omega) hc hd Hl.capm Hm.capm hT hN

end Go.Proofs.YtkendmlbmdhnaaaDoor
