/-
  The document's reading of one key: prefix, second, operated, normal, Read, at this seat's numbers.
-/
import Derived.Test.YtjmpokgdgnjojaaDoorGrK
namespace Go.Proofs.YtjmpokgdgnjojaaDoor
open Go Go.RowKit
set_option linter.unusedVariables false

section
variable {w0 w : World} {q : Nat} {a : Option Addr} {k : Nat} {l : List Int} {at_ : Nat} {c : Cm} {wh er : Int}
set_option maxRecDepth 100000 in
theorem prefix_none (H : RgIn w0 w q a k l at_ c wh er) {x : Int} (hx : l[at_]? = some x) (hl : l.length = at_ + 1) (hc0 : c.ct = 0) (h : 49 ≤ x ∧ x ≤ 57) : Calls Tryd.prog 19 #[pbox q] w fun e w' => e = .returned (.tuple #[.int .i64 0, .bool false]) ∧ RgIn w0 w' q a k l l.length c wh er := by
  have HC := Lib.hid (count_one H hx hl hc0 h.1 h.2)
  clear H hx hl hc0 h
  go_enter Tryd.func19, Tryd.ntmps19
  go_wp2_with fail
  go_loopw [2, 3] (fun v2 v3 wr => v2 = .int .i64 0 ∧ v3 = .bool false ∧ w = wr) (fun _ _ _ => 0)
  case atStart => exact ⟨rfl, rfl, rfl⟩
  case round =>
    obtain ⟨rfl, rfl, rfl⟩ := hrel
    go_wp2_with fail
    refine HC.out.mono ?_; rintro e w1 ⟨rfl, h1⟩
    have HK := Lib.hid (rkey_none h1)
    clear h1
    go_wp2_with fail
    refine HK.out.mono ?_; rintro e w2 ⟨rfl, h2⟩
    have H2 := Lib.hid h2
    clear h2
    go_wp2_with fail
    go_ret2
    exact ⟨rfl, H2.out⟩
set_option maxRecDepth 100000 in
theorem prefix_quote (H : RgIn w0 w q a k l at_ c wh er) (hx : l[at_]? = some 34) (hl : l.length = at_ + 1) : Calls Tryd.prog 19 #[pbox q] w fun e w' => e = .returned (.tuple #[.int .i64 0, .bool false]) ∧ RgIn w0 w' q a k l l.length c wh er := by
  have HC := Lib.hid (count_stop H hx (by decide))
  have HX : Hid (∀ w', RgIn w0 w' q a k l at_ c wh er → Calls Tryd.prog 37 #[pbox q] w' fun e w' => e = .returned (.tuple #[.int .i64 34, .bool true]) ∧ RgIn w0 w' q a k l l.length c wh er) := by rw [hl]; exact Lib.hid fun w' h => rkey_some h hx
  clear H hx hl
  go_enter Tryd.func19, Tryd.ntmps19
  go_wp2_with fail
  go_loopw [2, 3] (fun v2 v3 wr => v2 = .int .i64 0 ∧ v3 = .bool false ∧ w = wr) (fun _ _ _ => 0)
  case atStart => exact ⟨rfl, rfl, rfl⟩
  case round =>
    obtain ⟨rfl, rfl, rfl⟩ := hrel
    go_wp2_with fail
    refine HC.out.mono ?_; rintro e w1 ⟨rfl, h1⟩
    have HK := Lib.hid (HX.out _ h1)
    clear h1
    go_wp2_with fail
    refine HK.out.mono ?_; rintro e w2 ⟨rfl, h2⟩
    have HN := Lib.hid (rkey_none h2)
    clear h2
    go_wp2_with fail
    refine HN.out.mono ?_; rintro e w3 ⟨rfl, h3⟩
    have H3 := Lib.hid h3
    clear h3
    go_wp2_with fail
    go_ret2
    exact ⟨rfl, H3.out⟩
set_option maxRecDepth 100000 in
theorem prefix_some (H : RgIn w0 w q a k l at_ c wh er) {x : Int} (hx : l[at_]? = some x) (hl : l.length = at_ + 1) (h : ¬ (49 ≤ x ∧ x ≤ 57)) (h34 : x ≠ 34) : Calls Tryd.prog 19 #[pbox q] w fun e w' => e = .returned (.tuple #[.int .i64 x, .bool true]) ∧ RgIn w0 w' q a k l l.length c wh er := by
  have HC := Lib.hid (count_stop H hx h)
  have HX : Hid (∀ w', RgIn w0 w' q a k l at_ c wh er → Calls Tryd.prog 37 #[pbox q] w' fun e w' => e = .returned (.tuple #[.int .i64 x, .bool true]) ∧ RgIn w0 w' q a k l l.length c wh er) := by rw [hl]; exact Lib.hid fun w' h => rkey_some h hx
  have d : (x == 34) = false := beq_eq_false_iff_ne.2 h34
  have d' : (x != 34) = true := bne_iff_ne.2 h34
  clear H hx hl h h34
  go_enter Tryd.func19, Tryd.ntmps19
  go_wp2_with fail
  go_loopw [2, 3] (fun v2 v3 wr => v2 = .int .i64 0 ∧ v3 = .bool false ∧ w = wr) (fun _ _ _ => 0)
  case atStart => exact ⟨rfl, rfl, rfl⟩
  case round =>
    obtain ⟨rfl, rfl, rfl⟩ := hrel
    go_wp2_with fail
    refine HC.out.mono ?_; rintro e w1 ⟨rfl, h1⟩
    have HK := Lib.hid (HX.out _ h1)
    clear h1
    go_wp2_with fail
    refine HK.out.mono ?_; rintro e w2 ⟨rfl, h2⟩
    have H2 := Lib.hid h2
    clear h2
    go_wp2_with fail
    go_ret2
    exact ⟨rfl, H2.out⟩
set_option maxRecDepth 100000 in
theorem second_end (H : RgIn w0 w q a k l l.length c wh er) (f : Int) (s : ByteArray) : Calls Tryd.prog 22 #[pbox q, .int .i64 f, .string s] w fun e w' => e = .returned (.tuple #[]) ∧ RgIn w0 w' q a k l l.length c wh er := by
  have HK := Lib.hid (rkey_none H)
  clear H
  go_enter Tryd.func22, Tryd.ntmps22
  go_wp2_with fail
  refine HK.out.mono ?_; rintro e w2 ⟨rfl, h2⟩
  have H2 := Lib.hid h2
  clear h2
  go_wp2_with fail
  first | (refine bodyPost_ret (results_none rfl _ _ _) rfl ?_) | go_end0
  exact ⟨rfl, H2.out⟩
set_option maxRecDepth 100000 in
theorem operated_end (H : RgIn w0 w q a k l l.length c wh er) (op : Int) : Calls Tryd.prog 38 #[pbox q, .int .i64 op] w fun e w' => e = .returned (.tuple #[]) ∧ RgIn w0 w' q a k l l.length { c with op := op } wh er := by
  obtain ⟨c0, c1, c2, _⟩ := H.cs
  have f2 := H.fr 2
  have HC := Lib.hid (count_end (H.setOp op))
  clear H
  go_enter Tryd.func38, Tryd.ntmps38
  go_wp2_with fail
  refine HC.out.mono ?_; rintro e w1 ⟨rfl, h1⟩
  have HK := Lib.hid (rkey_none h1)
  clear h1
  go_wp2_with fail
  refine HK.out.mono ?_; rintro e w2 ⟨rfl, h2⟩
  have H2 := Lib.hid h2
  clear h2
  go_wp2_with fail
  first | (refine bodyPost_ret (results_none rfl _ _ _) rfl ?_) | go_end0
  exact ⟨rfl, H2.out⟩
/-- Any other key in the normal way, and no more keys. -/
def rnF (c : Cm) (wh er x : Int) (r : Bool) : Cm × Int × Int :=
  if inS s_ops x = true then ({ c with op := x }, wh, er) else if x = 64 then (c, wh, er) else if x = 113 then (if r = true then ({ c with vb := x }, 1, er) else (c, wh, er)) else
  if inS s_na x = true then ({ c with vb := x }, 1, er) else if inR s_nc x = true then ({ c with vb := x }, 1, er) else (c, 2, 10)
set_option maxRecDepth 100000 in
set_option maxHeartbeats 4000000 in
theorem normal_end (H : RgIn w0 w q a k l l.length c wh er) (x : Int) (r : Bool) : Calls Tryd.prog 26 #[pbox q, .int .i64 x, .bool r] w fun e w' => e = .returned (.tuple #[]) ∧ RgIn w0 w' q a k l l.length (rnF c wh er x r).1 (rnF c wh er x r).2.1 (rnF c wh er x r).2.2 := by
  unfold rnF
  have HO := rin_of s_ops x w (by decide)
  have HA := Lib.hid (fun w => rin_of s_na x w (by decide))
  have HR := Lib.hid (fun w => rctrl_of s_nc x w (by decide))
  have HG := Lib.hid H
  cases ho : inS s_ops x
  · rw [if_neg (by simp)]
    rw [ho] at HO
    have HO := Lib.hid HO
    clear H ho
    by_cases h64 : x = 64
    · subst h64
      rw [if_pos rfl]
      have HK := Lib.hid (rkey_none HG.out)
      go_enter Tryd.func26, Tryd.ntmps26
      go_wp2_with fail
      refine HO.out.mono ?_; rintro e _ ⟨rfl, rfl⟩
      go_wp2_with fail
      refine HK.out.mono ?_; rintro e w2 ⟨rfl, h2⟩
      have H2 := Lib.hid h2
      clear h2
      go_wp2_with fail
      first | (refine bodyPost_ret (results_none rfl _ _ _) rfl ?_) | go_end0
      exact ⟨rfl, H2.out⟩
    · rw [if_neg h64]
      have z64 : (x == 64) = false := beq_eq_false_iff_ne.2 h64
      by_cases h113 : x = 113
      · subst h113
        rw [if_pos rfl]
        cases r
        · rw [if_neg (by simp)]
          have HK := Lib.hid (rkey_none HG.out)
          go_enter Tryd.func26, Tryd.ntmps26
          go_wp2_with fail
          refine HO.out.mono ?_; rintro e _ ⟨rfl, rfl⟩
          go_wp2_with fail
          refine HK.out.mono ?_; rintro e w2 ⟨rfl, h2⟩
          have H2 := Lib.hid h2
          clear h2
          go_wp2_with fail
          first | (refine bodyPost_ret (results_none rfl _ _ _) rfl ?_) | go_end0
          exact ⟨rfl, H2.out⟩
        · rw [if_pos rfl]
          have HD := Lib.hid (rdone_of HG.out 113)
          go_enter Tryd.func26, Tryd.ntmps26
          go_wp2_with fail
          refine HO.out.mono ?_; rintro e _ ⟨rfl, rfl⟩
          go_wp2_with fail
          refine HD.out.mono ?_; rintro e w2 ⟨rfl, h2⟩
          have H2 := Lib.hid h2
          clear h2
          go_wp2_with fail
          first | (refine bodyPost_ret (results_none rfl _ _ _) rfl ?_) | go_end0
          exact ⟨rfl, H2.out⟩
      · rw [if_neg h113]
        have z113 : (x == 113) = false := beq_eq_false_iff_ne.2 h113
        have HD := Lib.hid (rdone_of HG.out x)
        have HW := Lib.hid (rwrong_of HG.out)
        have HA := HA.out w
        cases hn : inS s_na x
        · rw [hn] at HA
          have HA := Lib.hid HA
          rw [if_neg (by simp)]
          have HR := HR.out w
          cases hc : inR s_nc x
          · rw [hc] at HR
            have HR := Lib.hid HR
            rw [if_neg (by simp)]
            clear hn hc h64 h113
            go_enter Tryd.func26, Tryd.ntmps26
            go_wp2_with fail
            refine HO.out.mono ?_; rintro e _ ⟨rfl, rfl⟩
            go_wp2_with fail
            refine HA.out.mono ?_; rintro e _ ⟨rfl, rfl⟩
            go_wp2_with fail
            refine HR.out.mono ?_; rintro e _ ⟨rfl, rfl⟩
            go_wp2_with fail
            refine HW.out.mono ?_; rintro e w2 ⟨rfl, h2⟩
            have H2 := Lib.hid h2
            clear h2
            go_wp2_with fail
            first | (refine bodyPost_ret (results_none rfl _ _ _) rfl ?_) | go_end0
            exact ⟨rfl, H2.out⟩
          · rw [hc] at HR
            have HR := Lib.hid HR
            rw [if_pos rfl]
            clear hn hc h64 h113
            go_enter Tryd.func26, Tryd.ntmps26
            go_wp2_with fail
            refine HO.out.mono ?_; rintro e _ ⟨rfl, rfl⟩
            go_wp2_with fail
            refine HA.out.mono ?_; rintro e _ ⟨rfl, rfl⟩
            go_wp2_with fail
            refine HR.out.mono ?_; rintro e _ ⟨rfl, rfl⟩
            go_wp2_with fail
            refine HD.out.mono ?_; rintro e w2 ⟨rfl, h2⟩
            have H2 := Lib.hid h2
            clear h2
            go_wp2_with fail
            first | (refine bodyPost_ret (results_none rfl _ _ _) rfl ?_) | go_end0
            exact ⟨rfl, H2.out⟩
        · rw [hn] at HA
          have HA := Lib.hid HA
          rw [if_pos rfl]
          clear hn h64 h113
          go_enter Tryd.func26, Tryd.ntmps26
          go_wp2_with fail
          refine HO.out.mono ?_; rintro e _ ⟨rfl, rfl⟩
          go_wp2_with fail
          refine HA.out.mono ?_; rintro e _ ⟨rfl, rfl⟩
          go_wp2_with fail
          refine HD.out.mono ?_; rintro e w2 ⟨rfl, h2⟩
          have H2 := Lib.hid h2
          clear h2
          go_wp2_with fail
          first | (refine bodyPost_ret (results_none rfl _ _ _) rfl ?_) | go_end0
          exact ⟨rfl, H2.out⟩
  · rw [if_pos rfl]
    rw [ho] at HO
    have HO := Lib.hid HO
    clear H ho
    have HK := Lib.hid (operated_end HG.out x)
    go_enter Tryd.func26, Tryd.ntmps26
    go_wp2_with fail
    refine HO.out.mono ?_; rintro e _ ⟨rfl, rfl⟩
    go_wp2_with fail
    refine HK.out.mono ?_; rintro e w2 ⟨rfl, h2⟩
    have H2 := Lib.hid h2
    clear h2
    go_wp2_with fail
    first | (refine bodyPost_ret (results_none rfl _ _ _) rfl ?_) | go_end0
    exact ⟨rfl, H2.out⟩
end
end Go.Proofs.YtjmpokgdgnjojaaDoor
