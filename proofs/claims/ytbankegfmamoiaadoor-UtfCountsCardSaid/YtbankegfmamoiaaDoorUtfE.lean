/-
  The walk of the statement UtfPuts, at this seat's numbers. Its one region draws its order: every order is walked.
-/
import Derived.Test.YtbankegfmamoiaaDoorUtfD
import Derived.Deep.RegionWith
namespace Go.Proofs.YtbankegfmamoiaaDoor
open Go Go.RowKit
set_option linter.unusedVariables false

theorem nil_string (w : World) : (convert 23 9 (.slice none 0 0)).run Tryd.prog w = .ok (.string ⟨#[]⟩) w :=
  run_convert_bytes_nil w 23 5 Tryd.underlying23 Tryd.underlying5 0 0 9 Tryd.underlying9

theorem awake1_chain {W : World} (ht : Tabs W) (w : World) (hw : Below W.heap.size W w) : Calls Tryd.prog 23 #[] w fun e w' => e = .returned (.bool true) ∧ Below W.heap.size W w' :=
  (awake1_of w (ht.below hw)).mono fun _ _ ⟨he, hb⟩ => ⟨he, hw.trans (hb.mono hw.size)⟩
theorem rput_bad_chain {W : World} (r : Int) (hg : ¬ good r) (w : World) (hw : Below W.heap.size W w) : Calls Tryd.prog 29 #[.int .i64 r] w fun e w' => e = .returned (.string ⟨#[]⟩) ∧ Below W.heap.size W w' :=
  (rput_bad r w hg).mono fun _ _ ⟨he, hb⟩ => ⟨he, hw.trans (hb.mono hw.size)⟩
theorem rput_good_chain {W : World} (r : Int) (hg : good r) (w : World) (hw : Below W.heap.size W w) : Calls Tryd.prog 29 #[.int .i64 r] w fun e w' => e = .returned (.string (strOf (Lib.encodeRune r))) ∧ Below W.heap.size W w' ∧ Below w.heap.size w w' :=
  (rput_good r w hg).mono fun _ _ ⟨he, hb⟩ => ⟨he, hw.trans (hb.mono hw.size), hb⟩

set_option maxHeartbeats 4000000 in
theorem utfPuts_bad (r : Int) (w : World) (hg : ¬ good r) (ht : Tabs w) :
    Calls Tryd.prog 5 #[.int .i64 r] w fun e w' => e = .returned (.bool true) ∧ Below w.heap.size w w' := by
  have HT := Lib.hid ht
  have HG := Lib.hid hg
  clear ht hg
  have hn := nil_string
  have hb0 : Below w.heap.size w w.drew := (Below.refl _ w).drew
  go_enter Tryd.func5, Tryd.ntmps5
  go_wp2_with fail
  go_region_with (first
    | (go_at_call 28; refine (put_bad r _ HG.out).mono ?_; rintro e w' ⟨rfl, rfl⟩)
    | (go_at_call 29; refine (rput_bad_chain r HG.out _ (by assumption)).mono ?_; rintro e w' ⟨rfl, hb⟩)
    | (go_at_call 30; refine (class_of r _).mono ?_; rintro e w' ⟨rfl, rfl⟩)
    | (go_at_call 31; refine (rclass_of r _).mono ?_; rintro e w' ⟨rfl, rfl⟩)
    | (go_at_call 23; refine (awake1_chain HT.out _ (by assumption)).mono ?_; rintro e w' ⟨rfl, hb⟩))
  all_goals
    go_wp2_with fail
    go_ret
    exact ⟨rfl, by assumption⟩

/-- utf.Put of a good number, with what becomes of its bytes in every later world. -/
theorem put_good_chain {W : World} (r : Int) (hg : good r) (w : World) (hw : Below W.heap.size W w) : Calls Tryd.prog 28 #[.int .i64 r] w fun e w' =>
    ∃ g, e = .returned (.slice (some ⟨g, 0, none⟩) (strOf (Lib.encodeRune r)).size (strOf (Lib.encodeRune r)).size) ∧ Below W.heap.size W w' ∧
      ∀ v, Below w'.heap.size w' v → (convert 23 9 (.slice (some ⟨g, 0, none⟩) (strOf (Lib.encodeRune r)).size (strOf (Lib.encodeRune r)).size)).run Tryd.prog v = .ok (.string (strOf (Lib.encodeRune r))) v := by
  refine (put_good r w hg).mono ?_
  rintro e w' ⟨g, rfl, hbs, hb⟩
  have hl := (Lib.encodeRuneZ_length r).1
  have hlt : g < w'.heap.size := by
    have := hbs 0 (by rw [enc_len]; omega)
    exact World.block_lt_of_cell? w' _ this
  exact ⟨g, rfl, hw.trans (hb.mono hw.size), fun v hv => string_of _ v g 0 _ (hbs.below hv hlt)⟩

set_option maxHeartbeats 4000000 in
theorem utfPuts_good (r : Int) (w : World) (hg : good r) (ht : Tabs w) :
    Calls Tryd.prog 5 #[.int .i64 r] w fun e w' => e = .returned (.bool true) ∧ Below w.heap.size w w' := by
  have HT := Lib.hid ht
  have HP := Lib.hid (fun v hv => put_good_chain (W := w) r hg v hv)
  have HR := Lib.hid (fun v hv => rput_good_chain (W := w) r hg v hv)
  generalize strOf (Lib.encodeRune r) = q at *
  clear ht hg
  have hb0 : Below w.heap.size w w.drew := (Below.refl _ w).drew
  go_enter Tryd.func5, Tryd.ntmps5
  go_wp2_with fail
  go_region_with (first
    | (go_at_call 28; refine (HP.out _ (by assumption)).mono ?_; rintro e w' ⟨g, rfl, hb, hst⟩; have hself := Below.refl w'.heap.size w')
    | (go_at_call 29; refine (HR.out _ (by assumption)).mono ?_; rintro e w' ⟨rfl, hb, hb2⟩)
    | (go_at_call 30; refine (class_of r _).mono ?_; rintro e w' ⟨rfl, rfl⟩)
    | (go_at_call 31; refine (rclass_of r _).mono ?_; rintro e w' ⟨rfl, rfl⟩)
    | (go_at_call 23; refine (awake1_chain HT.out _ (by assumption)).mono ?_; rintro e w' ⟨rfl, hb⟩))
  all_goals
    go_wp2_with fail
    go_ret
    exact ⟨rfl, by assumption⟩

theorem utfPuts_walk (r : Int) (w : World) (h0 : -9223372036854775808 ≤ r) (h1 : r ≤ 9223372036854775807) (ht : Tabs w) :
    Calls Tryd.prog 5 #[.int .i64 r] w fun e w' => e = .returned (.bool true) ∧ Below w.heap.size w w' := by
  by_cases hg : good r
  · exact utfPuts_good r w hg ht
  · exact utfPuts_bad r w hg ht

end Go.Proofs.YtbankegfmamoiaaDoor
