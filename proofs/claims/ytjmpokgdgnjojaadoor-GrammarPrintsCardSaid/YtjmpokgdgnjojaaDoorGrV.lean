/-
  The document's Read, for any keys, at this seat's numbers.
-/
import Derived.Test.YtjmpokgdgnjojaaDoorGrU
import Derived.Test.YtjmpokgdgnjojaaDoorGrN
namespace Go.Proofs.YtjmpokgdgnjojaaDoor
open Go Go.RowKit
set_option linter.unusedVariables false

theorem runS_none {way : Int} {r : Bool} (c : Cm) (l : List Int) : runS way r none c l = runS way r (some .begin) c l := by
  cases l with
  | nil => rw [runS_nil, runS_nil]
  | cons x t => exact runS_congr rfl
/-- What Read of some keys gives. -/
def RdP (w : World) (a : Option Addr) (k : Nat) (l : List Int) (way : Int) (r : Bool) (e : Ending) (w' : World) : Prop :=
  ∃ (T : Cm × Int × Int) (i : Nat), Ag T (runS way r none c0M l) ∧ e = .returned (rgV a l.length k i T.1 T.2.1 T.2.2) ∧ Below w.heap.size w w'
section
variable {w : World} {a : Option Addr} {k : Nat} {l : List Int}
theorem RdP.mk {way : Int} {r : Bool} {w' : World} {i : Nat} {c : Cm} {wh er : Int} (h : Ag (c, wh, er) (runS way r none c0M l)) (hb : Below w.heap.size w w') : RdP w a k l way r (.returned (rgV a l.length k i c wh er)) w' := ⟨(c, wh, er), i, h, rfl, hb⟩
set_option maxRecDepth 100000 in
set_option maxHeartbeats 16000000 in
theorem read_all (h : Sq w a k l) (way : Int) (r : Bool) : Calls Tryd.prog 13 #[.slice a l.length k, .bool (way == 1), .bool r] w (RdP w a k l way r) := by
  have HP := Lib.hid (prefix_all (RgIn.begin h) way r)
  have HM := Lib.hid (fun x w => rmotion_of x w)
  have HVA := Lib.hid (fun x w => rin_of s_va x w (by decide))
  have HVC := Lib.hid (fun x w => rctrl_of s_vc x w (by decide))
  obtain ⟨v, hv⟩ : ∃ v, v = (way == 1) := ⟨_, rfl⟩
  have HV := Lib.hid hv
  rw [← hv]
  obtain ⟨n, hn⟩ : ∃ n, l.length = n := ⟨_, rfl⟩
  clear h hv hn
  go_enter Tryd.func13, Tryd.ntmps13
  go_wp2_with fail
  refine HP.out.mono ?_; rintro e w1 ⟨i, c, ⟨wh, er, rfl, h1, hne, hR⟩ | ⟨x, rfl, hi, h1, h34, hd, hop, hct, hR⟩⟩
  · have HAg : Hid (Ag (c, wh, er) (runS way r none c0M l)) := by show Ag _ _; rw [runS_none]; exact Ag.of2 hR hne
    clear hne hR
    obtain ⟨c0, c1, c2, c3, c4, c5, c6, c7, c8⟩ := h1.cs
    obtain ⟨k8, k9, kb⟩ := h1.fin
    have H8 := Lib.hid k8
    obtain ⟨q0, q1, q2, q3, q4, q5, q6, q7, q8⟩ := rgCells k9
    have HB := Lib.hid kb
    clear h1 k8 k9 kb 
    go_wp2_with (refine wpList_store_row rfl 39 _ _ rfl w.heap.size (rgA a l.length k i c wh er) rfl rfl 39 _ H8.out (rgA_size a l.length k i c wh er) rfl (rgA_one a l.length k i c wh er) ?_)
    exact bodyPost_ret (v := rgV a l.length k i c wh er) (by simp [results, Tryd.results13, go_sem, q0, q1, q2, q3, q4, q5, q6, q7, q8, rgV]) rfl (RdP.mk HAg.out HB.out)
  · have hAg := tai_r (way := way) (r := r) hct hop h34 hd (l.drop i)
    rw [← hR, ← runS_none, ← HV.out] at hAg
    unfold taiR at hAg
    have HH := Lib.hid h1
    have HC := Lib.hid hct
    clear h1 h34 hd hop hR hct
    by_cases hm : 0 < rmotN x
    · rw [if_pos hm] at hAg
      have HAg := Lib.hid hAg
      have dm : decide (0 < rmotN x) = true := decide_eq_true hm
      have HMx := Lib.hid (HM.out x)
      generalize rmotN x = m at *
      clear hm hAg hi
      go_wp2_with fail
      refine (HMx.out _).mono ?_; rintro e _ ⟨rfl, rfl⟩
      go_wp2_with fail
      refine (HMx.out _).mono ?_; rintro e _ ⟨rfl, rfl⟩
      go_wp2_with fail
      refine (rdone_of HH.out _).mono ?_; rintro e w2 ⟨rfl, h2⟩
      obtain ⟨c0, c1, c2, c3, c4, c5, c6, c7, c8⟩ := h2.cs
      obtain ⟨k8, k9, kb⟩ := h2.fin
      have H8 := Lib.hid k8
      obtain ⟨q0, q1, q2, q3, q4, q5, q6, q7, q8⟩ := rgCells k9
      have HB := Lib.hid kb
      clear h2 k8 k9 kb 
      go_wp2_with (refine wpList_store_row rfl 39 _ _ rfl w.heap.size (rgA a l.length k i { c with vb := m } 1 0) rfl rfl 39 _ H8.out (rgA_size a l.length k i { c with vb := m } 1 0) rfl (rgA_one a l.length k i { c with vb := m } 1 0) ?_)
      exact bodyPost_ret (v := rgV a l.length k i { c with vb := m } 1 0) (by simp [results, Tryd.results13, go_sem, q0, q1, q2, q3, q4, q5, q6, q7, q8, rgV]) rfl (RdP.mk HAg.out HB.out)
    · rw [if_neg hm] at hAg
      have dm : decide (0 < rmotN x) = false := decide_eq_false hm
      have HMx := Lib.hid (HM.out x)
      generalize rmotN x = m at *
      clear hm HM
      by_cases hg : x = 103
      · subst hg
        rw [if_pos rfl] at hAg
        cases v
        · rw [if_neg (by simp)] at hAg
          have HS := Lib.hid (fun w' (h : RgIn (w.alloc (rgO none 0 0 0 c0M 0 0)) w' (w.heap.size + 1) a k l i c 0 0) => second_all h hi (f := 103) (by omega) (s := s_gs) (by decide))
          generalize secR c 103 s_gs (l.drop i) = T at *
          obtain ⟨C, wh, er⟩ := T
          have HAg := Lib.hid hAg
          clear hAg hi HVA HVC
          go_wp2_with fail
          refine (HMx.out _).mono ?_; rintro e _ ⟨rfl, rfl⟩
          go_wp2_with fail
          refine (HS.out _ HH.out).mono ?_; rintro e w2 ⟨rfl, i2, h2⟩
          obtain ⟨c0, c1, c2, c3, c4, c5, c6, c7, c8⟩ := h2.cs
          obtain ⟨k8, k9, kb⟩ := h2.fin
          have H8 := Lib.hid k8
          obtain ⟨q0, q1, q2, q3, q4, q5, q6, q7, q8⟩ := rgCells k9
          have HB := Lib.hid kb
          clear h2 k8 k9 kb 
          go_wp2_with (refine wpList_store_row rfl 39 _ _ rfl w.heap.size (rgA a l.length k i2 C wh er) rfl rfl 39 _ H8.out (rgA_size a l.length k i2 C wh er) rfl (rgA_one a l.length k i2 C wh er) ?_)
          exact bodyPost_ret (v := rgV a l.length k i2 C wh er) (by simp [results, Tryd.results13, go_sem, q0, q1, q2, q3, q4, q5, q6, q7, q8, rgV]) rfl (RdP.mk HAg.out HB.out)
        · rw [if_pos rfl] at hAg
          have HS := Lib.hid (fun w' (h : RgIn (w.alloc (rgO none 0 0 0 c0M 0 0)) w' (w.heap.size + 1) a k l i c 0 0) => second_all h hi (f := 103) (by omega) (s := s_g) (by decide))
          generalize secR c 103 s_g (l.drop i) = T at *
          obtain ⟨C, wh, er⟩ := T
          have HAg := Lib.hid hAg
          clear hAg hi HVA HVC
          go_wp2_with fail
          refine (HMx.out _).mono ?_; rintro e _ ⟨rfl, rfl⟩
          go_wp2_with fail
          refine (HS.out _ HH.out).mono ?_; rintro e w2 ⟨rfl, i2, h2⟩
          obtain ⟨c0, c1, c2, c3, c4, c5, c6, c7, c8⟩ := h2.cs
          obtain ⟨k8, k9, kb⟩ := h2.fin
          have H8 := Lib.hid k8
          obtain ⟨q0, q1, q2, q3, q4, q5, q6, q7, q8⟩ := rgCells k9
          have HB := Lib.hid kb
          clear h2 k8 k9 kb 
          go_wp2_with (refine wpList_store_row rfl 39 _ _ rfl w.heap.size (rgA a l.length k i2 C wh er) rfl rfl 39 _ H8.out (rgA_size a l.length k i2 C wh er) rfl (rgA_one a l.length k i2 C wh er) ?_)
          exact bodyPost_ret (v := rgV a l.length k i2 C wh er) (by simp [results, Tryd.results13, go_sem, q0, q1, q2, q3, q4, q5, q6, q7, q8, rgV]) rfl (RdP.mk HAg.out HB.out)
      · rw [if_neg hg] at hAg
        have zg : (x == 103) = false := beq_eq_false_iff_ne.2 hg
        clear hg
        cases v
        · rw [if_neg (by simp)] at hAg
          have HS := Lib.hid (fun w' (h : RgIn (w.alloc (rgO none 0 0 0 c0M 0 0)) w' (w.heap.size + 1) a k l i c 0 0) => normal_all h hi HC.out x r)
          generalize norR c x r (l.drop i) = T at *
          obtain ⟨C, wh, er⟩ := T
          have HAg := Lib.hid hAg
          clear hAg hi HVA HVC
          go_wp2_with fail
          refine (HMx.out _).mono ?_; rintro e _ ⟨rfl, rfl⟩
          go_wp2_with fail
          refine (HS.out _ HH.out).mono ?_; rintro e w2 ⟨rfl, i2, h2⟩
          obtain ⟨c0, c1, c2, c3, c4, c5, c6, c7, c8⟩ := h2.cs
          obtain ⟨k8, k9, kb⟩ := h2.fin
          have H8 := Lib.hid k8
          obtain ⟨q0, q1, q2, q3, q4, q5, q6, q7, q8⟩ := rgCells k9
          have HB := Lib.hid kb
          clear h2 k8 k9 kb 
          go_wp2_with (refine wpList_store_row rfl 39 _ _ rfl w.heap.size (rgA a l.length k i2 C wh er) rfl rfl 39 _ H8.out (rgA_size a l.length k i2 C wh er) rfl (rgA_one a l.length k i2 C wh er) ?_)
          exact bodyPost_ret (v := rgV a l.length k i2 C wh er) (by simp [results, Tryd.results13, go_sem, q0, q1, q2, q3, q4, q5, q6, q7, q8, rgV]) rfl (RdP.mk HAg.out HB.out)
        · rw [if_pos rfl] at hAg
          have HA := HVA.out x
          have HR := HVC.out x
          clear HVA HVC
          cases hva : inS s_va x
          · rw [hva, if_neg (by simp)] at hAg
            simp only [hva] at HA
            have HA := Lib.hid HA
            cases hvc : inR s_vc x
            · rw [hvc, if_neg (by simp)] at hAg
              simp only [hvc] at HR
              have HR := Lib.hid HR
              have HAg := Lib.hid hAg
              clear hva hvc hAg hi
              go_wp2_with fail
              refine (HMx.out _).mono ?_; rintro e _ ⟨rfl, rfl⟩
              go_wp2_with fail
              refine (HA.out _).mono ?_; rintro e _ ⟨rfl, rfl⟩
              go_wp2_with fail
              refine (HR.out _).mono ?_; rintro e _ ⟨rfl, rfl⟩
              go_wp2_with fail
              refine (rwrong_of HH.out).mono ?_; rintro e w2 ⟨rfl, h2⟩
              obtain ⟨c0, c1, c2, c3, c4, c5, c6, c7, c8⟩ := h2.cs
              obtain ⟨k8, k9, kb⟩ := h2.fin
              have H8 := Lib.hid k8
              obtain ⟨q0, q1, q2, q3, q4, q5, q6, q7, q8⟩ := rgCells k9
              have HB := Lib.hid kb
              clear h2 k8 k9 kb 
              go_wp2_with (refine wpList_store_row rfl 39 _ _ rfl w.heap.size (rgA a l.length k i c 2 10) rfl rfl 39 _ H8.out (rgA_size a l.length k i c 2 10) rfl (rgA_one a l.length k i c 2 10) ?_)
              exact bodyPost_ret (v := rgV a l.length k i c 2 10) (by simp [results, Tryd.results13, go_sem, q0, q1, q2, q3, q4, q5, q6, q7, q8, rgV]) rfl (RdP.mk HAg.out HB.out)
            · rw [hvc, if_pos rfl] at hAg
              simp only [hvc] at HR
              have HR := Lib.hid HR
              have HAg := Lib.hid hAg
              clear hva hvc hAg hi
              go_wp2_with fail
              refine (HMx.out _).mono ?_; rintro e _ ⟨rfl, rfl⟩
              go_wp2_with fail
              refine (HA.out _).mono ?_; rintro e _ ⟨rfl, rfl⟩
              go_wp2_with fail
              refine (HR.out _).mono ?_; rintro e _ ⟨rfl, rfl⟩
              go_wp2_with fail
              refine (rdone_of HH.out x).mono ?_; rintro e w2 ⟨rfl, h2⟩
              obtain ⟨c0, c1, c2, c3, c4, c5, c6, c7, c8⟩ := h2.cs
              obtain ⟨k8, k9, kb⟩ := h2.fin
              have H8 := Lib.hid k8
              obtain ⟨q0, q1, q2, q3, q4, q5, q6, q7, q8⟩ := rgCells k9
              have HB := Lib.hid kb
              clear h2 k8 k9 kb 
              go_wp2_with (refine wpList_store_row rfl 39 _ _ rfl w.heap.size (rgA a l.length k i { c with vb := x } 1 0) rfl rfl 39 _ H8.out (rgA_size a l.length k i { c with vb := x } 1 0) rfl (rgA_one a l.length k i { c with vb := x } 1 0) ?_)
              exact bodyPost_ret (v := rgV a l.length k i { c with vb := x } 1 0) (by simp [results, Tryd.results13, go_sem, q0, q1, q2, q3, q4, q5, q6, q7, q8, rgV]) rfl (RdP.mk HAg.out HB.out)
          · rw [hva, if_pos rfl] at hAg
            simp only [hva] at HA
            have HA := Lib.hid HA
            have HAg := Lib.hid hAg
            clear hva hAg hi
            go_wp2_with fail
            refine (HMx.out _).mono ?_; rintro e _ ⟨rfl, rfl⟩
            go_wp2_with fail
            refine (HA.out _).mono ?_; rintro e _ ⟨rfl, rfl⟩
            go_wp2_with fail
            refine (rdone_of HH.out x).mono ?_; rintro e w2 ⟨rfl, h2⟩
            obtain ⟨c0, c1, c2, c3, c4, c5, c6, c7, c8⟩ := h2.cs
            obtain ⟨k8, k9, kb⟩ := h2.fin
            have H8 := Lib.hid k8
            obtain ⟨q0, q1, q2, q3, q4, q5, q6, q7, q8⟩ := rgCells k9
            have HB := Lib.hid kb
            clear h2 k8 k9 kb 
            go_wp2_with (refine wpList_store_row rfl 39 _ _ rfl w.heap.size (rgA a l.length k i { c with vb := x } 1 0) rfl rfl 39 _ H8.out (rgA_size a l.length k i { c with vb := x } 1 0) rfl (rgA_one a l.length k i { c with vb := x } 1 0) ?_)
            exact bodyPost_ret (v := rgV a l.length k i { c with vb := x } 1 0) (by simp [results, Tryd.results13, go_sem, q0, q1, q2, q3, q4, q5, q6, q7, q8, rgV]) rfl (RdP.mk HAg.out HB.out)
end
end Go.Proofs.YtjmpokgdgnjojaaDoor
