/-
  The contracts of up and down of container/heap over waiting rows, at this seat's numbers.
-/
import Derived.Test.YtlglenbgaalhiaaMgB
import Derived.Test.YtlglenbgaalhiaaMgD
namespace Go.Proofs.Ytlglenbgaalhiaa
open Go Go.RowKit
set_option linter.unusedVariables false

theorem Hp.perm_ok {W : World} {D : Int → Prop} {R R' : List Ent} (h : R'.Perm R) (hR : ∀ e ∈ R, EntOk W D e) : ∀ e ∈ R', EntOk W D e := fun e he => hR e (h.mem_iff.1 he)

/-- Which function a method of waiting rows is (183: the fuel as the walk shows it). -/
theorem meth_less (a : Addr) (w : World) : (method 183 41 (.pointer (some a)) "Less").run Try.prog w = .ok (52, .pointer (some a)) w := by kernel_rfl
theorem meth_swap (a : Addr) (w : World) : (method 183 41 (.pointer (some a)) "Swap").run Try.prog w = .ok (55, .pointer (some a)) w := by kernel_rfl
theorem meth_len (a : Addr) (w : World) : (method 183 41 (.pointer (some a)) "Len").run Try.prog w = .ok (28, .pointer (some a)) w := by kernel_rfl
theorem meth_push (a : Addr) (w : World) : (method 183 41 (.pointer (some a)) "Push").run Try.prog w = .ok (54, .pointer (some a)) w := by kernel_rfl
theorem meth_pop (a : Addr) (w : World) : (method 183 41 (.pointer (some a)) "Pop").run Try.prog w = .ok (53, .pointer (some a)) w := by kernel_rfl

set_option maxRecDepth 100000 in
set_option maxHeartbeats 8000000 in
theorem up_of {W w : World} {p : Nat} {fv : Value} {D : Int → Prop} {c : Int → Int → Int} {R : List Ent} (hC : Cv W fv D c) (hM : Cm c) (hb : Below W.heap.size W w) (h : Hp w W.heap.size p fv R) (hR : ∀ e ∈ R, EntOk W D e) (hn : R.length ≤ 1000000) (j : Nat) (hj : j < R.length) (hu : UpOk c R R.length j) :
    Calls Try.prog 32 #[.iface 41 (.pointer (some ⟨p, 0, none⟩)), .int .i64 j] w fun e w' => e = .returned (.tuple #[]) ∧ ∃ R', R'.Perm R ∧ Heap c R' R.length ∧ Hp w' W.heap.size p fv R' ∧ Tn W.heap.size w w' := by
  obtain ⟨n, hnn⟩ : ∃ n, R.length = n := ⟨_, rfl⟩
  have HC := Lib.hid hC
  have HB := Lib.hid hb
  have HH := Lib.hid h
  have HR := Lib.hid hR
  have HU := Lib.hid hu
  have HN := Lib.hid hnn
  have HCM := Lib.hid hM
  rw [hnn] at hn hj
  clear hC hb h hR hu hnn hM
  have mless := meth_less ⟨p, 0, none⟩
  have mswap := meth_swap ⟨p, 0, none⟩
  go_enter Try.func32, Try.ntmps32
  go_wp2_with fail
  go_loopw [1] (fun v1 wr => ∃ (j : Nat) (R' : List Ent), v1 = .int .i64 j ∧ j < n ∧ R'.Perm R ∧ UpOk c R' n j ∧ Hp wr W.heap.size p fv R' ∧ Tn W.heap.size w wr) (fun v1 _ => (intOf v1).toNat)
  case atStart => exact ⟨j, R, rfl, hj, List.Perm.refl _, by rw [← HN.out]; exact HU.out, HH.out, Tn.refl _ _⟩
  case round =>
    obtain ⟨wq, rfl⟩ : ∃ wq : World, wq = wr := ⟨_, rfl⟩
    obtain ⟨i, R', rfl, hi, hp, hu, hh, ht⟩ := hrel
    have HP := Lib.hid hp
    have HU' := Lib.hid hu
    have HH' := Lib.hid hh
    have HT := Lib.hid ht
    clear hp hu hh ht
    have hlen : R'.length = n := HP.out.length_eq.trans HN.out
    have HL := Lib.hid hlen
    rcases Nat.eq_zero_or_pos i with rfl | hi0
    · have hq : (((0 : Nat) : Int) - 1).tdiv 2 = ((0 : Nat) : Int) := by decide
      go_wp2_with fail
      go_end0
      exact ⟨rfl, R', HP.out, by rw [HN.out]; exact up_stop HU'.out (.inl rfl), HH'.out, HT.out⟩
    · have hq : ((i : Int) - 1).tdiv 2 = ((par i : Nat) : Int) := by
        unfold par
        have : ((i : Int) - 1) = ((i - 1 : Nat) : Int) := by omega
        rw [this]
        rfl
      have hpl := par_lt hi0
      have hne : (((par i : Nat) : Int) == (i : Int)) = false := by rw [beq_eq_false_iff_ne]; omega
      have hne2 : ¬ ((par i : Nat) : Int) = (i : Int) := by omega
      have HLs := Lib.hid (less_of HC.out (HB.out.trans (HT.out.low)) HH'.out i (par i) (by omega) (by omega) (ok_at (Hp.perm_ok HP.out HR.out) (by omega)) (ok_at (Hp.perm_ok HP.out HR.out) (by omega)))
      obtain ⟨q, hqq⟩ : ∃ q, par i = q := ⟨_, rfl⟩
      have HQ := Lib.hid hqq
      rw [hqq] at hq hne hne2 HLs hpl
      obtain ⟨bb, hbb⟩ : ∃ bb, lsB c (gE R' i) (gE R' q) = bb := ⟨_, rfl⟩
      rw [hbb] at HLs
      have HBB := Lib.hid hbb
      clear hqq hbb hlen
      go_wp2_with fail
      refine HLs.out.mono ?_; rintro e w1 ⟨rfl, hb1⟩
      have HH1 := Lib.hid (HH'.out.below hb1)
      have HT1 := Lib.hid (HT.out.trans (Tn.of_below hb1 (Nat.le_trans HB.out.size HT.out.low.size)))
      clear hb1 HLs
      cases bb
      · go_wp2_with fail
        go_end0
        exact ⟨rfl, R', HP.out, by rw [HN.out]; exact up_stop HU'.out (.inr (by rw [HQ.out]; exact HBB.out)), HH1.out, HT1.out⟩
      · have HSw := Lib.hid (hswap_of HH1.out q i (by rw [HL.out]; omega) (by rw [HL.out]; omega))
        go_wp2_with fail
        refine HSw.out.mono ?_; rintro e w2 ⟨rfl, hh2, ht2⟩
        have HH2 := Lib.hid hh2
        have HT2 := Lib.hid (HT1.out.trans ht2)
        have HU2 : Hid (UpOk c (swapE R' q i) n q) := Lib.hid (by
          have := up_step HCM.out HU'.out hi0 hi (by rw [HL.out]; exact Nat.le_refl _) (by rw [HQ.out]; exact HBB.out)
          rwa [HQ.out] at this)
        have HP2 : Hid ((swapE R' q i).Perm R) := Lib.hid ((swap_perm hpl (by rw [HL.out]; omega)).trans HP.out)
        clear hh2 ht2 HSw
        go_wp2_with fail
        go_roundw
        case rel => exact ⟨q, swapE R' q i, rfl, by omega, HP2.out, HU2.out, HH2.out, HT2.out⟩
        case measure => simp [intOf]; omega

end Go.Proofs.Ytlglenbgaalhiaa
