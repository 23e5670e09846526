/-
  The contracts of bytes.Count at one byte, of quote's Width, and of the document's own Needs and Put, at this seat's numbers.
-/
import Derived.Shelf.Bytes.SlCountOne
import Derived.Test.YtphfhmabchfjjaaDoorQuB
import Derived.Test.YtphfhmabchfjjaaDoorScJ
namespace Go.Proofs.YtphfhmabchfjjaaDoor
open Go Go.RowKit
set_option linter.unusedVariables false

theorem bytesOf_own (l : List UInt8) : Lib.bytesOf (l.map fun b => (b.toNat : Int)) = l := by
  unfold Lib.bytesOf
  rw [List.map_map]
  conv => rhs; rw [← List.map_id l]
  apply List.map_congr_left
  intro b _
  simp
theorem dup_count (l : List UInt8) : (l.flatMap dupB).length = l.length + l.count 34 := by
  induction l with
  | nil => rfl
  | cons c l ih =>
    rw [List.flatMap_cons, List.length_append, List.length_cons, List.count_cons, ih]
    unfold dupB
    by_cases h : c = 34
    · subst h; simp; omega
    · have h2 : ¬ ((c.toNat : Int) = 34) := by
        intro h3; apply h
        have h4 : c.toNat = 34 := by omega
        exact UInt8.toNat_inj.1 h4
      have h3 : (c == 34) = false := by simpa using h
      rw [if_neg h2, h3]; simp; omega

theorem run_count34 {w : World} {a : Option Addr} {c : Nat} {l : List UInt8} (hr : Rd w 1 a l.length (bc l)) :
    (Extern.BytealgCount.count #[.slice a l.length c, .int .u8 34]).run Tryd.prog w = .ok (.int .i64 ((l.count 34 : Nat) : Int)) w := by
  rcases Nat.eq_zero_or_pos l.length with h0 | h0
  · obtain rfl := List.length_eq_zero_iff.1 h0
    rcases a with _ | p
    · exact Lib.run_countNil w 0 c 34
    · exact Lib.run_countAt w p 0 c [] rfl (fun i hi => absurd hi (Nat.not_lt_zero _)) 34
  · obtain ⟨b, off, rfl, _, hc⟩ := hr.2 h0
    have h := Lib.run_countSlice (P := Tryd.prog) w b off l.length c (l.map fun b => (b.toNat : Int)) (by simp) (fun i hi => by
      rw [hc i (.int .u8 (l[i].toNat : Int)) (by unfold bc; rw [List.getElem?_map, List.getElem?_eq_getElem hi]; rfl)]
      rw [List.getD_eq_getElem?_getD, List.getElem?_map, List.getElem?_eq_getElem hi]; rfl) 34
    rw [bytesOf_own] at h
    exact h

set_option maxHeartbeats 2000000 in
set_option maxRecDepth 1000000 in
theorem count_of {w : World} {a : Option Addr} {c b2 d : Nat} {l : List UInt8} (hr : Rd w 1 a l.length (bc l)) (hc2 : w.cell? ⟨b2, 0, none⟩ = some (.int .u8 34)) :
    Calls Tryd.prog 28 #[.slice a l.length c, .slice (some ⟨b2, 0, none⟩) 1 d] w fun e w' => e = .returned (.int .i64 ((l.count 34 : Nat) : Int)) ∧ w = w' := by
  have HE := Lib.hid (run_count34 (c := c) hr)
  clear hr
  go_enter Tryd.func28, Tryd.ntmps28
  go_wp2
  rw [run_callFunc_extern Tryd.func37 (by kernel_rfl) (by kernel_rfl) (by kernel_rfl) (e := Extern.BytealgCount.count) (by kernel_rfl), HE.out]
  simp only [Result.andThen]
  rw [Oper.upon_value]
  go_wp2
  go_ret
  exact ⟨rfl, rfl⟩

set_option maxRecDepth 100000 in
set_option maxHeartbeats 2000000 in
theorem qwidth_of {w : World} {a : Option Addr} {c : Nat} {l : List UInt8} (hr : Rd w 1 a l.length (bc l)) (hl : l.length ≤ 1000000) :
    Calls Tryd.prog 13 #[.slice a l.length c] w fun e w' => e = .returned (.int .i64 ((putP l).length : Nat)) ∧ Below w.heap.size w w' := by
  have HN := Lib.hid (qneeds_of (c := c) hr hl)
  have HP : Hid (putP l = if needsP l = true then 34 :: (l.flatMap dupB ++ [34]) else l) := by show _ = _; unfold putP; rfl
  by_cases hn : needsP l = true
  · have HL : Hid (((putP l).length : Int) = (l.length : Int) + (l.count 34 : Nat) + 2) := by
      show _ = _
      rw [HP.out, if_pos hn, List.length_cons, List.length_append, dup_count]
      simp only [List.length_cons, List.length_nil]; omega
    rw [hn] at HN
    have al := below_al w (Obj.cells #[Value.int IntKind.u8 34] 5)
    have HC := Lib.hid (count_of (c := c) (d := 1) (hr.below al) (b2 := w.heap.size) (by rw [cell_at (heap_alloc_new w _)]; rfl))
    have HA := Lib.hid al
    have hcn : l.count 34 ≤ 1000000 := Nat.le_trans List.count_le_length hl
    clear hr hn al HP
    generalize l.count 34 = n at *
    generalize (putP l).length = m at *
    go_enter Tryd.func13, Tryd.ntmps13
    go_wp2_with fail
    refine HN.out.mono ?_; rintro e wx ⟨rfl, rfl⟩
    go_wp2_with (go_at_call 28; refine HC.out.mono ?_; rintro e wy ⟨rfl, rfl⟩)
    go_ret
    exact ⟨by rw [HL.out] <;> rfl, HA.out⟩
  · have HL : Hid (((putP l).length : Int) = (l.length : Int)) := by
      show _ = _
      rw [HP.out, if_neg hn]
    rw [show needsP l = false by simpa using hn] at HN
    clear hr hn HP
    generalize (putP l).length = m at *
    go_enter Tryd.func13, Tryd.ntmps13
    go_wp2_with fail
    refine HN.out.mono ?_; rintro e wx ⟨rfl, rfl⟩
    go_wp2_with fail
    go_ret
    exact ⟨by rw [HL.out] <;> rfl, Below.refl _ _⟩

end Go.Proofs.YtphfhmabchfjjaaDoor
