/-
  Print of the program; what GrammarPrints has, at this seat's numbers.
-/
import Derived.Test.YtjmpokgdgnjojaaDoorGsA
import Derived.Test.YtjmpokgdgnjojaaDoorGsB
namespace Go.Proofs.YtjmpokgdgnjojaaDoor
open Go Go.RowKit
set_option linter.unusedVariables false

theorem spL_len2 (c : Cm) (h0 : -9223372036854775808 ≤ c.ct) (h1 : c.ct ≤ 9223372036854775807) : (spL c).length ≤ 1000 := by
  have h1 := regL_len c
  have h2 := cntL_len c h0 (by omega)
  have h3 := opL_len c
  have h4 := vbL_len c
  have h5 := chL_len c
  unfold spL; simp only [List.length_append]; omega
set_option maxRecDepth 100000 in
set_option maxHeartbeats 4000000 in
/-- Print. -/
theorem gprint_of (c : Cm) (w : World) (hT : Tens w) (h0 : -9223372036854775808 ≤ c.ct) (h1 : c.ct ≤ 9223372036854775807) (hv : c.vb ≤ 9223372036854775807) : Calls Tryd.prog 4 #[cmV c] w (KPost (prL c) w) := by
  have HS := Lib.hid (spelled_of c (w.alloc (cmO c)) (hT.below (t_al w (cmO c))) h0 h1 hv)
  have hl := spL_len2 c h0 h1
  have HM := Lib.hid (fun w' (a : Option Addr) (n k : Nat) (hn : n = (spL c).length) (hs : Sl w' a k (nums (spL c))) => makes_of c (spL c) w' hn hs hl)
  have hbx := heap_alloc_new w (cmO c)
  have hal := t_al w (cmO c)
  have HBx : Hid (∀ w', Below (w.alloc (cmO c)).heap.size (w.alloc (cmO c)) w' → w'.heap[w.heap.size]? = some (cmO c) ∧ Below w.heap.size w w') := Lib.hid fun w' hb => ⟨(hb.block _ (lt_of_heap hbx)).trans hbx, hal.trans (hb.mono (by simp))⟩
  obtain ⟨d0, d1, d2, d3, d4⟩ := rowCells hbx
  clear hT h0 h1 hv hl hbx hal
  go_enter Tryd.func4, Tryd.ntmps4
  go_wp2_with fail
  refine HS.out.mono ?_; rintro e w2 ⟨a, n, k, rfl, hn, hs, hb⟩
  obtain ⟨hb2, hlow⟩ := HBx.out w2 hb
  obtain ⟨e0, e1, e2, e3, e4⟩ := rowCells hb2
  have HM2 := Lib.hid (HM.out w2 a n k hn hs)
  have HN := Lib.hid hn
  have HSl := Lib.hid hs
  have HLow := Lib.hid hlow
  clear hn hs hb hb2 hlow
  go_wp2_with fail
  refine HM2.out.mono ?_; rintro e w3 ⟨rfl, b3⟩
  have HL3 := Lib.hid (HLow.out.trans (b3.mono HLow.out.size))
  have HS3 := Lib.hid (HSl.out.below b3)
  clear b3
  cases hm : mkG c p0M (spL c) with
  | true =>
    have HPr : Hid (prL c = spL c) := Lib.hid (by unfold prL; rw [if_pos hm])
    clear hm
    go_wp2_with fail
    go_ret
    exact KPost.all HPr.out HN.out HS3.out HL3.out
  | false =>
    have HPr : Hid (prL c = []) := Lib.hid (by unfold prL; rw [if_neg (by rw [hm]; decide)])
    clear hm
    go_wp2_with fail
    go_ret
    exact KPost.none HPr.out HL3.out

/-- What is left of a row that makes a command. -/
theorem prL_mk (c : Cm) : prL c = [] ∨ mkG c p0M (prL c) = true := by
  unfold prL
  split
  · rename_i h; exact .inr h
  · exact .inl rfl
theorem prL_len (c : Cm) (h0 : -9223372036854775808 ≤ c.ct) (h1 : c.ct ≤ 9223372036854775807) : (prL c).length ≤ 1000 := by
  unfold prL
  split
  · exact spL_len2 c h0 h1
  · simp
end Go.Proofs.YtjmpokgdgnjojaaDoor
