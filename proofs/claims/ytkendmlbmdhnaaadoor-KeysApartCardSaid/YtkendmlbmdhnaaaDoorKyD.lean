/-
  The contracts of both Prints of keys, at this seat's numbers.
-/
import Derived.Test.YtkendmlbmdhnaaaDoorKyC
import Derived.Test.YtkendmlbmdhnaaaDoorKyN
namespace Go.Proofs.YtkendmlbmdhnaaaDoor
open Go Go.RowKit
set_option linter.unusedVariables false

theorem bat_below {T e : TypeId} {B b : Nat} {p : Value} {bs : List Value} {w w' : World} (h : Lib.BuilderAtF T e B b p bs w) (hb : Below w.heap.size w w') : Lib.BuilderAtF T e B b p bs w' := by
  obtain ⟨hB, v, hbk, hown, hne⟩ := h
  have lt : ∀ {k : Nat} {o : Obj}, w.heap[k]? = some o → k < w.heap.size := fun hk => (Array.getElem?_eq_some_iff.1 hk).1
  refine ⟨hB, v, by rw [hb.block b (lt hbk)]; exact hbk, ⟨hown.1, ?_⟩, hne⟩
  rcases hown.2 with h0 | ⟨g, cap, cur, fz, h1, h2, h3, h4⟩
  · exact Or.inl h0
  · exact Or.inr ⟨g, cap, cur, fz, h1, h2, by rw [hb.block g (lt h3)]; exact h3, h4⟩
theorem isb_below {T e : TypeId} {B b : Nat} {bs : List Value} {w w' : World} (h : Lib.IsBuilderF T e B b bs w) (hb : Below w.heap.size w w') : Lib.IsBuilderF T e B b bs w' := h.imp (bat_below · hb) (bat_below · hb)

theorem prt_take {l : List Int} {k : Nat} {x : Int} (h : l[k]? = some x) : prt (l.take (k + 1)) = prt (l.take k) ++ tx x := by
  rw [List.take_add_one, h, prt_app]
  show _ ++ (tx x ++ []) = _
  rw [List.append_nil]

set_option maxRecDepth 100000 in
set_option maxHeartbeats 1000000 in
theorem print_of {w : World} {a : Option Addr} {c : Nat} (l : List Int) (Hl : Sl w a c (nums l)) (hn : l.length ≤ 1000) (hN : NmT w) :
    Calls Tryd.prog 20 #[.slice a l.length c] w fun e w' => e = .returned (.string (strOf (prt l))) ∧ Below w.heap.size w w' := by
  have HL := Lib.hid Hl
  have HN := Lib.hid hN
  obtain ⟨n, hnn⟩ : ∃ n, l.length = n := ⟨_, rfl⟩
  have HNN := Lib.hid hnn
  rw [hnn] at hn ⊢
  clear Hl hN hnn
  go_enter Tryd.func20, Tryd.ntmps20
  go_wp2_with fail
  go_loopw [8] (fun v8 wr => ∃ k : Nat, v8 = .int .i64 k ∧ k ≤ n ∧ Lib.IsBuilderF 47 5 w.heap.size w.heap.size (Lib.byteCells (prt (l.take k))) wr ∧ Below w.heap.size w wr) (fun v8 _ => n - (intOf v8).toNat)
  case atStart => exact ⟨0, rfl, by omega, Lib.IsBuilderF.of (Lib.fresh_isBuilder 47 5 w), (Below.refl _ w).alloc (Nat.le_refl _) _⟩
  case round =>
    obtain ⟨k, rfl, hk, hI, hb⟩ := hrel
    have HB := Lib.hid hb
    have HI := Lib.hid hI
    clear hb hI
    by_cases hlt : k < n
    · have hkl : k < l.length := by rw [HNN.out]; exact hlt
      obtain ⟨x, hx⟩ : ∃ x, l[k]? = some x := ⟨_, List.getElem?_eq_getElem hkl⟩
      obtain ⟨g, o, ha⟩ := HL.out.numsome (by omega)
      subst ha
      have hcell : wr.cell? ⟨g, o + k, none⟩ = some (.int .i64 x) := by
        have h1 := HL.out.num hx
        rw [HB.out.cell (p := ⟨g, o + k, none⟩) h1.2]
        exact h1.1
      have HT := Lib.hid (text_of x wr (HN.out.below HB.out))
      have HP := Lib.hid (prt_take hx)
      have hpl := prt_len (l.take k)
      have htl := tx_len x
      have hlk : (l.take k).length ≤ k := by rw [List.length_take]; omega
      have HX := Lib.hid hx
      clear hx
      go_wp2_with fail
      refine HT.out.mono ?_
      rintro e w1 ⟨rfl, hb1⟩
      have HB1 := Lib.hid hb1
      clear hb1
      go_wp2_with fail
      refine (bwrite_of w.heap.size w.heap.size _ _ w1 (isb_below HI.out HB1.out) ?_ ?_).mono ?_
      · rw [Lib.byteCells_length, strOf_size]; omega
      · have := HB.out.size; have := HB1.out.size; omega
      rintro e w2 ⟨rfl, hI2, hb2, _⟩
      have HB2 := Lib.hid hb2
      have HI2 := Lib.hid hI2
      clear hb2 hI2
      go_wp2_with fail
      go_roundw
      case rel =>
        refine ⟨k + 1, rfl, by omega, ?_, (HB.out.trans (HB1.out.mono HB.out.size)).trans HB2.out⟩
        rw [HP.out, Lib.byteCells_append]
        exact Or.inr HI2.out
      case measure => simp [intOf]; omega
    · have e : l.take k = l := by
        rw [List.take_of_length_le]
        rw [HNN.out]; omega
      rw [e] at HI
      clear e
      go_wp2_with fail
      refine (bstring_of w.heap.size w.heap.size (prt l) wr HI.out HB.out.size).mono ?_
      rintro e w1 ⟨rfl, _, hb1, _⟩
      have HB1 := Lib.hid hb1
      clear hb1
      go_wp2_with fail
      go_ret
      exact ⟨rfl, HB.out.trans HB1.out⟩

set_option maxRecDepth 100000 in
set_option maxHeartbeats 1000000 in
theorem rprint_of {w : World} {a : Option Addr} {c : Nat} (l : List Int) (Hl : Sl w a c (nums l)) (hn : l.length ≤ 1000) :
    Calls Tryd.prog 21 #[.slice a l.length c] w fun e w' => e = .returned (.string (strOf (prt l))) ∧ Below w.heap.size w w' := by
  have HL := Lib.hid Hl
  obtain ⟨n, hnn⟩ : ∃ n, l.length = n := ⟨_, rfl⟩
  have HNN := Lib.hid hnn
  rw [hnn] at hn ⊢
  clear Hl hnn
  go_enter Tryd.func21, Tryd.ntmps21
  go_wp2_with fail
  go_loopw [3, 8] (fun v3 v8 wr => ∃ k : Nat, v8 = .int .i64 k ∧ k ≤ n ∧ v3 = .string (strOf (prt (l.take k))) ∧ Below w.heap.size w wr) (fun _ v8 _ => n - (intOf v8).toNat)
  case atStart => exact ⟨0, rfl, by omega, rfl, Below.refl _ w⟩
  case round =>
    obtain ⟨k, rfl, hk, rfl, hb⟩ := hrel
    have HB := Lib.hid hb
    clear hb
    by_cases hlt : k < n
    · have hkl : k < l.length := by rw [HNN.out]; exact hlt
      obtain ⟨x, hx⟩ : ∃ x, l[k]? = some x := ⟨_, List.getElem?_eq_getElem hkl⟩
      obtain ⟨g, o, ha⟩ := HL.out.numsome (by omega)
      subst ha
      have hcell : wr.cell? ⟨g, o + k, none⟩ = some (.int .i64 x) := by
        have h1 := HL.out.num hx
        rw [HB.out.cell (p := ⟨g, o + k, none⟩) h1.2]
        exact h1.1
      have HT := Lib.hid (rtext_of x wr)
      have HP := Lib.hid (prt_take hx)
      have hpl := prt_len (l.take k)
      have htl := tx_len x
      have hlk : (l.take k).length ≤ k := by rw [List.length_take]; omega
      rw [← strOf_size] at hpl htl
      have HX := Lib.hid hx
      have hsm : strOf (prt (l.take k)) ++ strOf (tx x) = strOf (prt (l.take (k + 1))) := by rw [HP.out, strOf_app]
      have HS := Lib.hid hsm
      clear hx hsm
      generalize strOf (prt (l.take k)) = p0 at *
      generalize hp1 : strOf (prt (l.take (k + 1))) = p1 at *
      have HQ := Lib.hid hp1
      clear hp1
      generalize strOf (tx x) = q at *
      go_wp2_with fail
      refine HT.out.mono ?_
      rintro e w1 ⟨rfl, hb1⟩
      have HB1 := Lib.hid hb1
      clear hb1
      go_wp2_with fail
      go_roundw
      case rel => exact ⟨k + 1, rfl, by omega, by rw [HS.out, HQ.out], HB.out.trans (HB1.out.mono HB.out.size)⟩
      case measure => simp [intOf]; omega
    · have e : l.take k = l := by
        rw [List.take_of_length_le]
        rw [HNN.out]; omega
      rw [e]
      clear e
      go_wp2_with fail
      go_ret
      exact ⟨rfl, HB.out⟩

end Go.Proofs.YtkendmlbmdhnaaaDoor
