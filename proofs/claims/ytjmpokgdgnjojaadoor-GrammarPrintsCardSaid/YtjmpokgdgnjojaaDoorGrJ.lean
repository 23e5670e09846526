/-
  The document's reading of keys: its small functions, at this seat's numbers.
-/
import Derived.Test.YtjmpokgdgnjojaaDoorGrG
namespace Go.Proofs.YtjmpokgdgnjojaaDoor
open Go Go.RowKit
set_option linter.unusedVariables false

set_option maxRecDepth 100000 in
/-- in. -/
theorem rin_of (s : ByteArray) (k : Int) (w : World) (hn : s.size ≤ 1000) : Calls Tryd.prog 23 #[.int .i64 k, .string s] w fun e w' => e = .returned (.bool (inS s k)) ∧ w = w' := by
  have hlen : s.data.toList.length = s.size := by simp
  have key : ∀ i, i ≤ s.size → inS s k = ((s.data.toList.take i).any (fun b => decide ((b.toNat : Int) = k)) || (s.data.toList.drop i).any (fun b => decide ((b.toNat : Int) = k))) := fun i _ => by
    unfold inS; rw [← List.any_append, List.take_append_drop]
  have HK := Lib.hid key
  clear key
  go_enter Tryd.func23, Tryd.ntmps23
  go_wp2_with fail
  go_loopw [5] (fun v5 wr => ∃ i : Nat, i ≤ s.size ∧ v5 = .int .i64 i ∧ (s.data.toList.take i).any (fun b => decide ((b.toNat : Int) = k)) = false ∧ w = wr) (fun v5 _ => s.size - (intOf v5).toNat)
  case atStart => exact ⟨0, Nat.zero_le _, rfl, rfl, rfl⟩
  case round =>
    obtain ⟨i, hi, rfl, hno, rfl⟩ := hrel
    have HN := Lib.hid hno
    clear hno
    by_cases hlt : i < s.size
    · have hl : i < s.data.toList.length := by rw [hlen]; exact hlt
      have hb : Hid ((s[i]'hlt) = s.data.toList[i]'hl) := rfl
      have e0 : (0 : Int) ≤ (i : Int) := by omega
      have e1 : (i : Int) < (s.size : Int) := by omega
      have hwr : wrap64 ((s[i]'hlt).toNat : Int) = ((s[i]'hlt).toNat : Int) := by have := (s[i]'hlt).toNat_lt; unfold wrap64; omega
      by_cases he : ((s[i]'hlt).toNat : Int) = k
      · have hyes : Hid (inS s k = true) := by
          show _ = _
          unfold inS
          exact List.any_eq_true.2 ⟨_, List.getElem_mem hl, by rw [← hb.out]; exact decide_eq_true he⟩
        have d : (k == wrap64 ((s[i]'hlt).toNat : Int)) = true := by rw [hwr, he]; simp
        clear he hwr
        go_wp2_with fail
        go_ret
        exact ⟨by rw [hyes.out]; rfl, rfl⟩
      · have d : (k == wrap64 ((s[i]'hlt).toNat : Int)) = false := by rw [hwr]; exact beq_eq_false_iff_ne.2 (Ne.symm he)
        have HE : Hid ((s.data.toList.take (i + 1)).any (fun b => decide ((b.toNat : Int) = k)) = false) := by
          show _ = _
          rw [List.take_succ_eq_append_getElem hl, List.any_append, HN.out, ← hb.out]
          simp [he]
        go_wp2_with fail
        go_roundw
        case rel => exact ⟨i + 1, by omega, by go_num, HE.out, trivial⟩
        case measure => simp [intOf]; omega
    · have hz : Hid (inS s k = false) := by
        show _ = _
        rw [HK.out i hi, HN.out, List.drop_eq_nil_of_le (by rw [hlen]; omega)]; rfl
      have dl : decide ((i : Int) < (s.size : Int)) = false := decide_eq_false (by omega)
      go_wp2_with fail
      go_ret
      exact ⟨by rw [hz.out]; rfl, rfl⟩

/-- ctrl. -/
def inR (s : ByteArray) (k : Int) : Bool := decide (1 ≤ k ∧ k ≤ 26) && inS s (k + 96)
theorem rctrl_of (s : ByteArray) (k : Int) (w : World) (hn : s.size ≤ 1000) : Calls Tryd.prog 24 #[.int .i64 k, .string s] w fun e w' => e = .returned (.bool (inR s k)) ∧ w = w' := by
  unfold inR
  by_cases h1 : 1 ≤ k
  · have d1 : decide (1 ≤ k) = true := decide_eq_true h1
    by_cases h2 : k ≤ 26
    · have d2 : decide (k ≤ 26) = true := decide_eq_true h2
      rw [decide_eq_true (And.intro h1 h2), Bool.true_and]
      have HI := Lib.hid (rin_of s (k + 96) w hn)
      go_enter Tryd.func24, Tryd.ntmps24
      go_wp2_with fail
      refine HI.out.mono ?_; rintro e _ ⟨rfl, rfl⟩
      go_wp2_with fail
      go_ret
      exact ⟨rfl, rfl⟩
    · have d2 : decide (k ≤ 26) = false := decide_eq_false h2
      rw [decide_eq_false (fun h => h2 h.2), Bool.false_and]
      go_enter Tryd.func24, Tryd.ntmps24
      go_wp2_with fail
      go_ret
      exact ⟨rfl, rfl⟩
  · have d1 : decide (1 ≤ k) = false := decide_eq_false h1
    rw [decide_eq_false (fun h => h1 h.1), Bool.false_and]
    go_enter Tryd.func24, Tryd.ntmps24
    go_wp2_with fail
    go_ret
    exact ⟨rfl, rfl⟩

/-- motion. -/
def rmotN (k : Int) : Int := if inS s_mot (mvN k) = true then mvN k else 0
set_option maxRecDepth 100000 in
theorem rmotion_of (k : Int) (w : World) : Calls Tryd.prog 20 #[.int .i64 k] w fun e w' => e = .returned (.int .i64 (rmotN k)) ∧ w = w' := by
  by_cases h : -6 ≤ k ∧ k ≤ -1
  · rcases (show k = -1 ∨ k = -2 ∨ k = -3 ∨ k = -4 ∨ k = -5 ∨ k = -6 by omega) with h | h | h | h | h | h <;> subst h
    all_goals
      go_enter Tryd.func20, Tryd.ntmps20
      go_wp2_with fail
      go_ret
      exact ⟨by kernel_rfl, rfl⟩
  · have e : mvN k = k := by unfold mvN; split <;> first | omega | (split <;> first | omega | (split <;> first | omega | (split <;> first | omega | (split <;> first | omega | (split <;> first | omega | rfl)))))
    have HI := rin_of s_mot k w (by decide)
    unfold rmotN
    rw [e]
    have hcase : ∀ b, inS s_mot k = b → Calls Tryd.prog 20 #[.int .i64 k] w fun e w' => e = .returned (.int .i64 (if b = true then k else 0)) ∧ w = w' := fun b hb => by
      rw [hb] at HI
      have HI := Lib.hid HI
      by_cases h6 : -6 ≤ k
      · have d1 : decide (-6 ≤ k) = true := decide_eq_true h6
        have d2 : decide (k ≤ -1) = false := decide_eq_false (by omega)
        cases b
        all_goals
          go_enter Tryd.func20, Tryd.ntmps20
          go_wp2_with fail
          refine HI.out.mono ?_; rintro e _ ⟨rfl, rfl⟩
          go_wp2_with fail
          go_ret
          exact ⟨rfl, rfl⟩
      · have d1 : decide (-6 ≤ k) = false := decide_eq_false h6
        cases b
        all_goals
          go_enter Tryd.func20, Tryd.ntmps20
          go_wp2_with fail
          refine HI.out.mono ?_; rintro e _ ⟨rfl, rfl⟩
          go_wp2_with fail
          go_ret
          exact ⟨rfl, rfl⟩
    exact hcase _ rfl

/-- A reading at q of the keys l, which lie as in w0. -/
structure RgIn (w0 w : World) (q : Nat) (a : Option Addr) (k : Nat) (l : List Int) (at_ : Nat) (c : Cm) (wh er : Int) : Prop where
  box : w.heap[q]? = some (.cells #[.slice a l.length k, .int .i64 at_, .int .i64 c.op, .int .i64 c.vb, .int .i64 c.ct, .int .i64 c.rg, .int .i64 c.ch, .int .i64 wh, .int .i64 er] 39 (0, 0))
  sq : Sq w0 a k l
  low : Below w0.heap.size w0 w
  lo : w0.heap.size ≤ q
section
variable {w0 w : World} {q : Nat} {a : Option Addr} {k : Nat} {l : List Int} {at_ : Nat} {c : Cm} {wh er : Int}
theorem RgIn.cs (H : RgIn w0 w q a k l at_ c wh er) : w.cell? ⟨q, 0, none⟩ = some (.slice a l.length k) ∧ w.cell? ⟨q, 1, none⟩ = some (.int .i64 at_) ∧ w.cell? ⟨q, 2, none⟩ = some (.int .i64 c.op) ∧ w.cell? ⟨q, 3, none⟩ = some (.int .i64 c.vb) ∧ w.cell? ⟨q, 4, none⟩ = some (.int .i64 c.ct) ∧ w.cell? ⟨q, 5, none⟩ = some (.int .i64 c.rg) ∧ w.cell? ⟨q, 6, none⟩ = some (.int .i64 c.ch) ∧ w.cell? ⟨q, 7, none⟩ = some (.int .i64 wh) ∧ w.cell? ⟨q, 8, none⟩ = some (.int .i64 er) :=
  ⟨by rw [cell_at H.box]; rfl, by rw [cell_at H.box]; rfl, by rw [cell_at H.box]; rfl, by rw [cell_at H.box]; rfl, by rw [cell_at H.box]; rfl, by rw [cell_at H.box]; rfl, by rw [cell_at H.box]; rfl, by rw [cell_at H.box]; rfl, by rw [cell_at H.box]; rfl⟩
theorem RgIn.fr (H : RgIn w0 w q a k l at_ c wh er) (i : Nat) : w.frozen? ⟨q, i, none⟩ = false := unfrozen H.box i
theorem RgIn.drew (H : RgIn w0 w q a k l at_ c wh er) : RgIn w0 w.drew q a k l at_ c wh er := ⟨H.box, H.sq, H.low.drew, H.lo⟩
theorem RgIn.setAt (H : RgIn w0 w q a k l at_ c wh er) (n : Nat) : RgIn w0 (w.setCell ⟨q, 1, none⟩ (.int .i64 n)) q a k l n c wh er := ⟨heap_set_at H.box, H.sq, H.low.setCell (p := ⟨q, 1, none⟩) H.lo _, H.lo⟩
theorem RgIn.setVb (H : RgIn w0 w q a k l at_ c wh er) (v : Int) : RgIn w0 (w.setCell ⟨q, 3, none⟩ (.int .i64 v)) q a k l at_ { c with vb := v } wh er := ⟨heap_set_at H.box, H.sq, H.low.setCell (p := ⟨q, 3, none⟩) H.lo _, H.lo⟩
theorem RgIn.setOp (H : RgIn w0 w q a k l at_ c wh er) (v : Int) : RgIn w0 (w.setCell ⟨q, 2, none⟩ (.int .i64 v)) q a k l at_ { c with op := v } wh er := ⟨heap_set_at H.box, H.sq, H.low.setCell (p := ⟨q, 2, none⟩) H.lo _, H.lo⟩
theorem RgIn.setWh (H : RgIn w0 w q a k l at_ c wh er) (v : Int) : RgIn w0 (w.setCell ⟨q, 7, none⟩ (.int .i64 v)) q a k l at_ c v er := ⟨heap_set_at H.box, H.sq, H.low.setCell (p := ⟨q, 7, none⟩) H.lo _, H.lo⟩
theorem RgIn.setEr (H : RgIn w0 w q a k l at_ c wh er) (v : Int) : RgIn w0 (w.setCell ⟨q, 8, none⟩ (.int .i64 v)) q a k l at_ c wh v := ⟨heap_set_at H.box, H.sq, H.low.setCell (p := ⟨q, 8, none⟩) H.lo _, H.lo⟩

theorem rdone_of (H : RgIn w0 w q a k l at_ c wh er) (v : Int) : Calls Tryd.prog 21 #[pbox q, .int .i64 v] w fun e w' => e = .returned (.tuple #[]) ∧ RgIn w0 w' q a k l at_ { c with vb := v } 1 er := by
  obtain ⟨c0, c1, c2, c3, c4, c5, c6, c7, c8⟩ := H.cs
  have f3 := H.fr 3
  have H1 := H.setVb v
  obtain ⟨_, _, _, _, _, _, _, d7, _⟩ := H1.cs
  have g7 := H1.fr 7
  have HF := Lib.hid (H1.setWh 1)
  clear H H1
  go_enter Tryd.func21, Tryd.ntmps21
  go_wp2_with fail
  go_end0
  exact ⟨rfl, HF.out⟩
theorem rwrong_of (H : RgIn w0 w q a k l at_ c wh er) : Calls Tryd.prog 25 #[pbox q] w fun e w' => e = .returned (.tuple #[]) ∧ RgIn w0 w' q a k l at_ c 2 10 := by
  obtain ⟨c0, c1, c2, c3, c4, c5, c6, c7, c8⟩ := H.cs
  have f7 := H.fr 7
  have H1 := H.setWh 2
  obtain ⟨_, _, _, _, _, _, _, _, d8⟩ := H1.cs
  have g8 := H1.fr 8
  have HF := Lib.hid (H1.setEr 10)
  clear H H1
  go_enter Tryd.func25, Tryd.ntmps25
  go_wp2_with fail
  go_end0
  exact ⟨rfl, HF.out⟩
set_option maxRecDepth 100000 in
/-- The next key; none is left. -/
theorem rkey_none (H : RgIn w0 w q a k l l.length c wh er) : Calls Tryd.prog 37 #[pbox q] w fun e w' => e = .returned (.tuple #[.int .i64 0, .bool false]) ∧ RgIn w0 w' q a k l l.length c wh er := by
  have HF := Lib.hid H.drew
  obtain ⟨c0, c1, _⟩ := H.drew.cs
  clear H
  generalize l.length = n at *
  go_enter Tryd.func37, Tryd.ntmps37
  go_wp2_with fail
  go_big_region
  go_wp2_with fail
  go_ret2
  exact ⟨rfl, HF.out⟩
set_option maxRecDepth 100000 in
set_option maxHeartbeats 4000000 in
theorem rkey_some (H : RgIn w0 w q a k l at_ c wh er) {x : Int} (hx : l[at_]? = some x) : Calls Tryd.prog 37 #[pbox q] w fun e w' => e = .returned (.tuple #[.int .i64 x, .bool true]) ∧ RgIn w0 w' q a k l (at_ + 1) c wh er := by
  have hlt := (List.getElem?_eq_some_iff.1 hx).1
  obtain ⟨d, rfl, hcell, hdb⟩ := H.sq.at_ _ _ hx
  have hcap := H.sq.cap
  have hcapm := H.sq.capm
  have H1 := H.drew
  obtain ⟨c0, c1, _⟩ := H1.cs
  have f1 := H1.fr 1
  have H2 := (H.setAt (at_ + 1)).drew
  have H3 := H2.drew
  obtain ⟨e0, e1, _⟩ := H3.cs
  have hx3 := (H3.low.cell hdb).trans hcell
  have HF := Lib.hid H3
  have hne : ((at_ : Int) == (l.length : Int)) = false := beq_eq_false_iff_ne.2 (by omega)
  have i0 : (0 : Int) ≤ (at_ : Int) := by omega
  have i1 : (at_ : Int) < (l.length : Int) := by omega
  have hm : l.length ≤ maxLen := Nat.le_trans hcap hcapm
  unfold maxLen at hm
  have hcast : ((at_ + 1 : Nat) : Int) = (at_ : Int) + 1 := by omega
  rw [hcast] at e0 e1 hx3
  have hsub : (at_ : Int) + 1 - 1 = (at_ : Int) := by omega
  generalize l.length = n at *
  clear H H1 H2 H3 hx
  go_enter Tryd.func37, Tryd.ntmps37
  go_wp2_with fail
  go_big_region
  go_wp2_with fail
  go_big_region
  go_wp2_with fail
  go_ret2
  exact ⟨rfl, HF.out⟩
end
end Go.Proofs.YtjmpokgdgnjojaaDoor
