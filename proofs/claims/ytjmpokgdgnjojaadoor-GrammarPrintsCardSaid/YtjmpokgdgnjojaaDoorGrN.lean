/-
  The document's Read of one key, at this seat's numbers.
-/
import Derived.Test.YtjmpokgdgnjojaaDoorGrM
namespace Go.Proofs.YtjmpokgdgnjojaaDoor
open Go Go.RowKit
set_option linter.unusedVariables false

/-- A reading's cells. -/
abbrev rgA (a : Option Addr) (n k : Nat) (at_ : Int) (c : Cm) (wh er : Int) : Array Value := #[.slice a n k, .int .i64 at_, .int .i64 c.op, .int .i64 c.vb, .int .i64 c.ct, .int .i64 c.rg, .int .i64 c.ch, .int .i64 wh, .int .i64 er]
abbrev rgO (a : Option Addr) (n k : Nat) (at_ : Int) (c : Cm) (wh er : Int) : Obj := .cells (rgA a n k at_ c wh er) 39
theorem rgA_one (a : Option Addr) (n k : Nat) (at_ : Int) (c : Cm) (wh er : Int) : (rgA a n k at_ c wh er).all (·.oneCell') = true := by kernel_rfl
theorem rgA_size (a : Option Addr) (n k : Nat) (at_ : Int) (c : Cm) (wh er : Int) : (Tryd.prog.info? 39).map (·.size) = some (rgA a n k at_ c wh er).size := by kernel_rfl
theorem rgCells {w : World} {b : Nat} {a : Option Addr} {n k : Nat} {at_ : Int} {c : Cm} {wh er : Int} (h : w.heap[b]? = some (rgO a n k at_ c wh er)) : w.cell? ⟨b, 0, none⟩ = some (.slice a n k) ∧ w.cell? ⟨b, 1, none⟩ = some (.int .i64 at_) ∧ w.cell? ⟨b, 2, none⟩ = some (.int .i64 c.op) ∧ w.cell? ⟨b, 3, none⟩ = some (.int .i64 c.vb) ∧ w.cell? ⟨b, 4, none⟩ = some (.int .i64 c.ct) ∧ w.cell? ⟨b, 5, none⟩ = some (.int .i64 c.rg) ∧ w.cell? ⟨b, 6, none⟩ = some (.int .i64 c.ch) ∧ w.cell? ⟨b, 7, none⟩ = some (.int .i64 wh) ∧ w.cell? ⟨b, 8, none⟩ = some (.int .i64 er) :=
  ⟨by rw [cell_at h]; rfl, by rw [cell_at h]; rfl, by rw [cell_at h]; rfl, by rw [cell_at h]; rfl, by rw [cell_at h]; rfl, by rw [cell_at h]; rfl, by rw [cell_at h]; rfl, by rw [cell_at h]; rfl, by rw [cell_at h]; rfl⟩
abbrev rgV (a : Option Addr) (n k : Nat) (at_ : Int) (c : Cm) (wh er : Int) : Value := .agg (rgA a n k at_ c wh er)
section
variable {w0 w w1 : World} {q : Nat} {a : Option Addr} {k : Nat} {l : List Int} {at_ : Nat} {c : Cm} {wh er : Int}
theorem Sq.al {o : Obj} (h : Sq w a k l) : Sq (w.alloc o) a k l := h.below (t_al w o)
/-- Where Read begins: the answer's box, the reading. -/
theorem RgIn.begin (h : Sq w a k l) : RgIn (w.alloc (rgO none 0 0 0 c0M 0 0)) ((w.alloc (rgO none 0 0 0 c0M 0 0)).alloc (rgO a l.length k 0 c0M 0 0)) (w.heap.size + 1) a k l 0 c0M 0 0 := by
  have z : (w.alloc (rgO none 0 0 0 c0M 0 0)).heap.size = w.heap.size + 1 := by simp
  refine ⟨?_, h.al, t_al _ _, by rw [z]; exact Nat.le_refl _⟩
  rw [← z]; exact heap_alloc_new _ _
/-- Where Read ends. -/
theorem RgIn.fin (H : RgIn (w.alloc (rgO none 0 0 0 c0M 0 0)) w1 (w.heap.size + 1) a k l at_ c wh er) : w1.heap[w.heap.size]? = some (rgO none 0 0 0 c0M 0 0) ∧ (w1.setRow w.heap.size (rgA a l.length k at_ c wh er)).heap[w.heap.size]? = some (rgO a l.length k at_ c wh er) ∧ Below w.heap.size w (w1.setRow w.heap.size (rgA a l.length k at_ c wh er)) := by
  have h8 : w1.heap[w.heap.size]? = some (rgO none 0 0 0 c0M 0 0) := (H.low.block _ (by simp)).trans (heap_alloc_new w _)
  exact ⟨h8, setRow_heap w1 w.heap.size _ _ _ _ h8, ((t_al w _).trans (H.low.mono (by simp))).trans (setRow_low (Nat.le_refl _))⟩
set_option maxRecDepth 100000 in
set_option maxHeartbeats 8000000 in
theorem read_of (h : Sq w a k l) {x : Int} (hx : l[0]? = some x) (hl : l.length = 1) (vis r : Bool) : Calls Tryd.prog 13 #[.slice a l.length k, .bool vis, .bool r] w fun e w' => e = .returned (rgV a l.length k l.length (rdF x vis r).1 (rdF x vis r).2.1 (rdF x vis r).2.2) ∧ Below w.heap.size w w' := by
  have H0 := RgIn.begin h
  unfold rdF
  have HM := Lib.hid (fun w => rmotion_of x w)
  have HVA := Lib.hid (fun w => rin_of s_va x w (by decide))
  have HVC := Lib.hid (fun w => rctrl_of s_vc x w (by decide))
  by_cases hd : 49 ≤ x ∧ x ≤ 57
  · rw [if_pos hd]
    have HP := Lib.hid (prefix_none H0 hx hl rfl hd)
    clear H0 h hx hl hd HM HVA HVC
    go_enter Tryd.func13, Tryd.ntmps13
    go_wp2_with fail
    refine HP.out.mono ?_; rintro e w1 ⟨rfl, h1⟩
    obtain ⟨c0, c1, c2, c3, c4, c5, c6, c7, c8⟩ := h1.cs
    obtain ⟨k8, k9, kb⟩ := h1.fin
    have H8 := Lib.hid k8
    obtain ⟨q0, q1, q2, q3, q4, q5, q6, q7, q8⟩ := rgCells k9
    have HB := Lib.hid kb
    clear h1 k8 k9 kb
    go_wp2_with (refine wpList_store_row rfl 39 _ _ rfl w.heap.size (rgA a l.length k l.length c0M 0 0) rfl rfl 39 _ H8.out (rgA_size a l.length k l.length c0M 0 0) rfl (rgA_one a l.length k l.length c0M 0 0) ?_)
    exact bodyPost_ret (v := rgV a l.length k l.length c0M 0 0) (by simp [results, Tryd.results13, go_sem, q0, q1, q2, q3, q4, q5, q6, q7, q8, rgV]) rfl ⟨rfl, HB.out⟩
  · rw [if_neg hd]
    by_cases h34 : x = 34
    · subst h34
      rw [if_pos rfl]
      have HP := Lib.hid (prefix_quote H0 hx hl)
      clear H0 h hx hl hd HM HVA HVC
      go_enter Tryd.func13, Tryd.ntmps13
      go_wp2_with fail
      refine HP.out.mono ?_; rintro e w1 ⟨rfl, h1⟩
      obtain ⟨c0, c1, c2, c3, c4, c5, c6, c7, c8⟩ := h1.cs
      obtain ⟨k8, k9, kb⟩ := h1.fin
      have H8 := Lib.hid k8
      obtain ⟨q0, q1, q2, q3, q4, q5, q6, q7, q8⟩ := rgCells k9
      have HB := Lib.hid kb
      clear h1 k8 k9 kb
      go_wp2_with (refine wpList_store_row rfl 39 _ _ rfl w.heap.size (rgA a l.length k l.length c0M 0 0) rfl rfl 39 _ H8.out (rgA_size a l.length k l.length c0M 0 0) rfl (rgA_one a l.length k l.length c0M 0 0) ?_)
      exact bodyPost_ret (v := rgV a l.length k l.length c0M 0 0) (by simp [results, Tryd.results13, go_sem, q0, q1, q2, q3, q4, q5, q6, q7, q8, rgV]) rfl ⟨rfl, HB.out⟩
    · rw [if_neg h34]
      have HP := Lib.hid (prefix_some H0 hx hl hd h34)
      clear H0 h hx hl hd h34
      by_cases hm : 0 < rmotN x
      · rw [if_pos hm]
        have dm : decide (0 < rmotN x) = true := decide_eq_true hm
        generalize rmotN x = m at *
        clear hm HVA HVC
        go_enter Tryd.func13, Tryd.ntmps13
        go_wp2_with fail
        refine HP.out.mono ?_; rintro e w1 ⟨rfl, h1⟩
        have HH := Lib.hid h1
        clear h1
        go_wp2_with fail
        refine (HM.out _).mono ?_; rintro e _ ⟨rfl, rfl⟩
        go_wp2_with fail
        refine (HM.out _).mono ?_; rintro e _ ⟨rfl, rfl⟩
        go_wp2_with fail
        refine (rdone_of HH.out _).mono ?_; rintro e w2 ⟨rfl, h2⟩
        obtain ⟨c0, c1, c2, c3, c4, c5, c6, c7, c8⟩ := h2.cs
        obtain ⟨k8, k9, kb⟩ := h2.fin
        have H8 := Lib.hid k8
        obtain ⟨q0, q1, q2, q3, q4, q5, q6, q7, q8⟩ := rgCells k9
        have HB := Lib.hid kb
        clear h2 k8 k9 kb
        go_wp2_with (refine wpList_store_row rfl 39 _ _ rfl w.heap.size (rgA a l.length k l.length { c0M with vb := m } 1 0) rfl rfl 39 _ H8.out (rgA_size a l.length k l.length { c0M with vb := m } 1 0) rfl (rgA_one a l.length k l.length { c0M with vb := m } 1 0) ?_)
        exact bodyPost_ret (v := rgV a l.length k l.length { c0M with vb := m } 1 0) (by simp [results, Tryd.results13, go_sem, q0, q1, q2, q3, q4, q5, q6, q7, q8, rgV]) rfl ⟨rfl, HB.out⟩
      · rw [if_neg hm]
        have dm : decide (0 < rmotN x) = false := decide_eq_false hm
        generalize rmotN x = m at *
        clear hm
        by_cases hg : x = 103
        · subst hg
          rw [if_pos rfl]
          clear HVA HVC
          cases vis
          all_goals
            go_enter Tryd.func13, Tryd.ntmps13
            go_wp2_with fail
            refine HP.out.mono ?_; rintro e w1 ⟨rfl, h1⟩
            have HH := Lib.hid h1
            clear h1
            go_wp2_with fail
            refine (HM.out _).mono ?_; rintro e _ ⟨rfl, rfl⟩
            go_wp2_with fail
            refine (second_end HH.out _ _).mono ?_; rintro e w2 ⟨rfl, h2⟩
            obtain ⟨c0, c1, c2, c3, c4, c5, c6, c7, c8⟩ := h2.cs
            obtain ⟨k8, k9, kb⟩ := h2.fin
            have H8 := Lib.hid k8
            obtain ⟨q0, q1, q2, q3, q4, q5, q6, q7, q8⟩ := rgCells k9
            have HB := Lib.hid kb
            clear h2 k8 k9 kb
            go_wp2_with (refine wpList_store_row rfl 39 _ _ rfl w.heap.size (rgA a l.length k l.length c0M 0 0) rfl rfl 39 _ H8.out (rgA_size a l.length k l.length c0M 0 0) rfl (rgA_one a l.length k l.length c0M 0 0) ?_)
            exact bodyPost_ret (v := rgV a l.length k l.length c0M 0 0) (by simp [results, Tryd.results13, go_sem, q0, q1, q2, q3, q4, q5, q6, q7, q8, rgV]) rfl ⟨rfl, HB.out⟩
        · rw [if_neg hg]
          have zg : (x == 103) = false := beq_eq_false_iff_ne.2 hg
          clear hg
          cases vis
          · rw [if_neg (by simp)]
            clear HVA HVC
            have HN := Lib.hid (fun w' (h : RgIn (w.alloc (rgO none 0 0 0 c0M 0 0)) w' (w.heap.size + 1) a k l l.length c0M 0 0) => normal_end h x r)
            generalize rnF c0M 0 0 x r = y at *
            go_enter Tryd.func13, Tryd.ntmps13
            go_wp2_with fail
            refine HP.out.mono ?_; rintro e w1 ⟨rfl, h1⟩
            have HH := Lib.hid h1
            clear h1
            go_wp2_with fail
            refine (HM.out _).mono ?_; rintro e _ ⟨rfl, rfl⟩
            go_wp2_with fail
            refine (HN.out _ HH.out).mono ?_; rintro e w2 ⟨rfl, h2⟩
            obtain ⟨c0, c1, c2, c3, c4, c5, c6, c7, c8⟩ := h2.cs
            obtain ⟨k8, k9, kb⟩ := h2.fin
            have H8 := Lib.hid k8
            obtain ⟨q0, q1, q2, q3, q4, q5, q6, q7, q8⟩ := rgCells k9
            have HB := Lib.hid kb
            clear h2 k8 k9 kb
            go_wp2_with (refine wpList_store_row rfl 39 _ _ rfl w.heap.size (rgA a l.length k l.length y.1 y.2.1 y.2.2) rfl rfl 39 _ H8.out (rgA_size a l.length k l.length y.1 y.2.1 y.2.2) rfl (rgA_one a l.length k l.length y.1 y.2.1 y.2.2) ?_)
            exact bodyPost_ret (v := rgV a l.length k l.length y.1 y.2.1 y.2.2) (by simp [results, Tryd.results13, go_sem, q0, q1, q2, q3, q4, q5, q6, q7, q8, rgV]) rfl ⟨rfl, HB.out⟩
          · rw [if_pos rfl]
            cases hva : inS s_va x
            · rw [if_neg (by simp)]
              rw [hva] at HVA
              cases hvc : inR s_vc x
              · rw [if_neg (by simp)]
                rw [hvc] at HVC
                clear hva hvc
                go_enter Tryd.func13, Tryd.ntmps13
                go_wp2_with fail
                refine HP.out.mono ?_; rintro e w1 ⟨rfl, h1⟩
                have HH := Lib.hid h1
                clear h1
                go_wp2_with fail
                refine (HM.out _).mono ?_; rintro e _ ⟨rfl, rfl⟩
                go_wp2_with fail
                refine (HVA.out _).mono ?_; rintro e _ ⟨rfl, rfl⟩
                go_wp2_with fail
                refine (HVC.out _).mono ?_; rintro e _ ⟨rfl, rfl⟩
                go_wp2_with fail
                refine (rwrong_of HH.out).mono ?_; rintro e w2 ⟨rfl, h2⟩
                obtain ⟨c0, c1, c2, c3, c4, c5, c6, c7, c8⟩ := h2.cs
                obtain ⟨k8, k9, kb⟩ := h2.fin
                have H8 := Lib.hid k8
                obtain ⟨q0, q1, q2, q3, q4, q5, q6, q7, q8⟩ := rgCells k9
                have HB := Lib.hid kb
                clear h2 k8 k9 kb
                go_wp2_with (refine wpList_store_row rfl 39 _ _ rfl w.heap.size (rgA a l.length k l.length c0M 2 10) rfl rfl 39 _ H8.out (rgA_size a l.length k l.length c0M 2 10) rfl (rgA_one a l.length k l.length c0M 2 10) ?_)
                exact bodyPost_ret (v := rgV a l.length k l.length c0M 2 10) (by simp [results, Tryd.results13, go_sem, q0, q1, q2, q3, q4, q5, q6, q7, q8, rgV]) rfl ⟨rfl, HB.out⟩
              · rw [if_pos rfl]
                rw [hvc] at HVC
                clear hva hvc
                go_enter Tryd.func13, Tryd.ntmps13
                go_wp2_with fail
                refine HP.out.mono ?_; rintro e w1 ⟨rfl, h1⟩
                have HH := Lib.hid h1
                clear h1
                go_wp2_with fail
                refine (HM.out _).mono ?_; rintro e _ ⟨rfl, rfl⟩
                go_wp2_with fail
                refine (HVA.out _).mono ?_; rintro e _ ⟨rfl, rfl⟩
                go_wp2_with fail
                refine (HVC.out _).mono ?_; rintro e _ ⟨rfl, rfl⟩
                go_wp2_with fail
                refine (rdone_of HH.out x).mono ?_; rintro e w2 ⟨rfl, h2⟩
                obtain ⟨c0, c1, c2, c3, c4, c5, c6, c7, c8⟩ := h2.cs
                obtain ⟨k8, k9, kb⟩ := h2.fin
                have H8 := Lib.hid k8
                obtain ⟨q0, q1, q2, q3, q4, q5, q6, q7, q8⟩ := rgCells k9
                have HB := Lib.hid kb
                clear h2 k8 k9 kb
                go_wp2_with (refine wpList_store_row rfl 39 _ _ rfl w.heap.size (rgA a l.length k l.length { c0M with vb := x } 1 0) rfl rfl 39 _ H8.out (rgA_size a l.length k l.length { c0M with vb := x } 1 0) rfl (rgA_one a l.length k l.length { c0M with vb := x } 1 0) ?_)
                exact bodyPost_ret (v := rgV a l.length k l.length { c0M with vb := x } 1 0) (by simp [results, Tryd.results13, go_sem, q0, q1, q2, q3, q4, q5, q6, q7, q8, rgV]) rfl ⟨rfl, HB.out⟩
            · rw [if_pos rfl]
              rw [hva] at HVA
              clear hva
              go_enter Tryd.func13, Tryd.ntmps13
              go_wp2_with fail
              refine HP.out.mono ?_; rintro e w1 ⟨rfl, h1⟩
              have HH := Lib.hid h1
              clear h1
              go_wp2_with fail
              refine (HM.out _).mono ?_; rintro e _ ⟨rfl, rfl⟩
              go_wp2_with fail
              refine (HVA.out _).mono ?_; rintro e _ ⟨rfl, rfl⟩
              go_wp2_with fail
              refine (rdone_of HH.out x).mono ?_; rintro e w2 ⟨rfl, h2⟩
              obtain ⟨c0, c1, c2, c3, c4, c5, c6, c7, c8⟩ := h2.cs
              obtain ⟨k8, k9, kb⟩ := h2.fin
              have H8 := Lib.hid k8
              obtain ⟨q0, q1, q2, q3, q4, q5, q6, q7, q8⟩ := rgCells k9
              have HB := Lib.hid kb
              clear h2 k8 k9 kb
              go_wp2_with (refine wpList_store_row rfl 39 _ _ rfl w.heap.size (rgA a l.length k l.length { c0M with vb := x } 1 0) rfl rfl 39 _ H8.out (rgA_size a l.length k l.length { c0M with vb := x } 1 0) rfl (rgA_one a l.length k l.length { c0M with vb := x } 1 0) ?_)
              exact bodyPost_ret (v := rgV a l.length k l.length { c0M with vb := x } 1 0) (by simp [results, Tryd.results13, go_sem, q0, q1, q2, q3, q4, q5, q6, q7, q8, rgV]) rfl ⟨rfl, HB.out⟩
end
end Go.Proofs.YtjmpokgdgnjojaaDoor
