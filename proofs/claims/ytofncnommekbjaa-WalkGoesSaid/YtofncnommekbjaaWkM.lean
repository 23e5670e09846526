/-
  The reference's Move.
-/
import Derived.Test.YtofncnommekbjaaWkL
namespace Go.Proofs.Ytofncnommekbjaa
open Go Go.RowKit
set_option linter.unusedVariables false

def mvZ (l : List Int) (I K T : Int) : List Int := spZ (spZ l I K []) T T (slZ l I K)
theorem spZ_len (l o : List Int) (I K : Int) : (spZ l I K o).length ≤ l.length + o.length + l.length := by
  unfold spZ
  simp only [List.length_append, List.length_take, List.length_drop]
  omega
theorem slZ_len (l : List Int) (I K : Int) : (slZ l I K).length ≤ l.length := by
  unfold slZ
  simp only [List.length_take, List.length_drop]
  omega

set_option maxRecDepth 100000 in
set_option maxHeartbeats 1600000 in
theorem nmove {w : World} {a : Option Addr} {c : Nat} (l : List Int) (I K T : Int) (H : Sl w a c (nums l)) (hn : l.length ≤ 100000) :
    Calls Try.prog 37 #[.slice a l.length c, .int .i64 I, .int .i64 K, .int .i64 T] w fun e w' => ∃ a' c', e = .returned (.slice a' (mvZ l I K T).length c') ∧ Sl w' a' c' (nums (mvZ l I K T)) ∧ (∀ d, a' = some d → TyAt w' d.block) ∧ Below w.heap.size w w' := by
  unfold mvZ
  have h1 := spZ_len l [] I K
  have h2 := slZ_len l I K
  rw [List.length_nil] at h1
  have H1 := Lib.hid (nsplice (b := none) (d := 0) l [] I K H (Sl.none w) (by rw [List.length_nil]; omega))
  rw [List.length_nil] at H1
  have H2 := Lib.hid (fun W (h : Sl W a c (nums l)) => nslice l I K h (by omega))
  have HS := Lib.hid H
  have H3 := Lib.hid (fun W a1 c1 a2 c2 (h : Sl W a1 c1 (nums (spZ l I K []))) (h' : Sl W a2 c2 (nums (slZ l I K))) => nsplice (spZ l I K []) (slZ l I K) T T h h' (by omega))
  generalize spZ l I K [] = m at *
  generalize slZ l I K = s at *
  generalize spZ m T T s = z at *
  clear H h1 h2
  go_enter Try.func37, Try.ntmps37
  go_wp2_with fail
  refine H1.out.mono ?_; clear H1; rintro e w1 ⟨a1, c1, rfl, s1, _, b1⟩
  have B1 := Lib.hid b1
  have S1 := Lib.hid s1
  have H2' := Lib.hid (H2.out w1 (HS.out.below b1))
  clear s1 b1 H2
  go_wp2_with fail
  refine H2'.out.mono ?_; clear H2'; rintro e w2 ⟨a2, c2, rfl, s2, _, _, b2⟩
  have B2 := Lib.hid (B1.out.trans (b2.mono B1.out.size))
  have H3' := Lib.hid (H3.out w2 _ _ _ _ (S1.out.below b2) s2)
  clear s2 b2 H3
  go_wp2_with fail
  refine H3'.out.mono ?_; clear H3'; rintro e w3 ⟨a3, c3, rfl, s3, t3, b3⟩
  have B3 := Lib.hid (And.intro s3 (And.intro t3 (B2.out.trans (b3.mono B2.out.size))))
  clear s3 t3 b3
  go_wp2_with fail
  go_ret
  exact ⟨a3, c3, rfl, B3.out.1, B3.out.2.1, B3.out.2.2⟩

end Go.Proofs.Ytofncnommekbjaa
