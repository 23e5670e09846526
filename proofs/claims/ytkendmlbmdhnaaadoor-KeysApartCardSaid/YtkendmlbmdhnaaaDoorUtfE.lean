/-
  The walk of the statement UtfPuts, at this seat's numbers. Its one region draws its order: every order is walked.
-/
import Derived.Test.YtkendmlbmdhnaaaDoorUtfD
import Derived.Deep.RegionWith
namespace Go.Proofs.YtkendmlbmdhnaaaDoor
open Go Go.RowKit
set_option linter.unusedVariables false

theorem nil_string (w : World) : (convert 36 9 (.slice none 0 0)).run Tryd.prog w = .ok (.string ⟨#[]⟩) w :=
  run_convert_bytes_nil w 36 5 Tryd.underlying36 Tryd.underlying5 0 0 9 Tryd.underlying9

theorem rput_bad_chain {W : World} (r : Int) (hg : ¬ good r) (w : World) (hw : Below W.heap.size W w) : Calls Tryd.prog 23 #[.int .i64 r] w fun e w' => e = .returned (.string ⟨#[]⟩) ∧ Below W.heap.size W w' :=
  (rput_bad r w hg).mono fun _ _ ⟨he, hb⟩ => ⟨he, hw.trans (hb.mono hw.size)⟩
theorem rput_good_chain {W : World} (r : Int) (hg : good r) (w : World) (hw : Below W.heap.size W w) : Calls Tryd.prog 23 #[.int .i64 r] w fun e w' => e = .returned (.string (strOf (Lib.encodeRune r))) ∧ Below W.heap.size W w' ∧ Below w.heap.size w w' :=
  (rput_good r w hg).mono fun _ _ ⟨he, hb⟩ => ⟨he, hw.trans (hb.mono hw.size), hb⟩

/-- utf.Put of a good number, with what becomes of its bytes in every later world. -/
theorem put_good_chain {W : World} (r : Int) (hg : good r) (w : World) (hw : Below W.heap.size W w) : Calls Tryd.prog 22 #[.int .i64 r] w fun e w' =>
    ∃ g, e = .returned (.slice (some ⟨g, 0, none⟩) (strOf (Lib.encodeRune r)).size (strOf (Lib.encodeRune r)).size) ∧ Below W.heap.size W w' ∧
      ∀ v, Below w'.heap.size w' v → (convert 36 9 (.slice (some ⟨g, 0, none⟩) (strOf (Lib.encodeRune r)).size (strOf (Lib.encodeRune r)).size)).run Tryd.prog v = .ok (.string (strOf (Lib.encodeRune r))) v := by
  refine (put_good r w hg).mono ?_
  rintro e w' ⟨g, rfl, hbs, hb⟩
  have hl := (Lib.encodeRuneZ_length r).1
  have hlt : g < w'.heap.size := by
    have := hbs 0 (by rw [enc_len]; omega)
    exact World.block_lt_of_cell? w' _ this
  exact ⟨g, rfl, hw.trans (hb.mono hw.size), fun v hv => string_of _ v g 0 _ (hbs.below hv hlt)⟩

end Go.Proofs.YtkendmlbmdhnaaaDoor
