/-
  The contract of the law's Fits, at this seat's numbers.
-/
import Derived.Test.YtofncnommekbjaaTuB
namespace Go.Proofs.Ytofncnommekbjaa
open Go Go.RowKit
set_option linter.unusedVariables false

theorem height_nil {w : World} :
    Calls Try.prog 48 #[.agg #[.pointer none]] w fun e w' => e = .returned (.int .i64 0) ∧ Below w.heap.size w w' := by
  have hh := heap_alloc_new w (Obj.cells #[Value.pointer none] 27)
  have al := t_al w (Obj.cells #[Value.pointer none] 27)
  have c0 : (w.alloc (Obj.cells #[Value.pointer none] 27)).cell? ⟨w.heap.size, 0, none⟩ = some (.pointer none) := by rw [cell_at hh]; rfl
  have AL := Lib.hid al
  clear hh al
  go_enter Try.func48, Try.ntmps48
  go_wp2_with fail
  go_ret
  exact ⟨rfl, AL.out⟩
theorem pow_parts (h n : Nat) (hn : 1 ≤ h → 2 * 3 ^ h ≤ n) : ∃ P : Nat → Nat, P 0 = 2 ∧ (∀ k, P (k + 1) = P k * 3) ∧ (∀ k, k ≤ h → 1 ≤ h → P k ≤ n) := by
  refine ⟨fun k => 2 * 3 ^ k, rfl, fun k => by show 2 * 3 ^ (k + 1) = 2 * 3 ^ k * 3; rw [Nat.pow_succ, Nat.mul_assoc], fun k hk h1 => ?_⟩
  have h2 := hn h1
  have h3 : 3 ^ k ≤ 3 ^ h := Nat.pow_le_pow_right (by omega) hk
  show 2 * 3 ^ k ≤ n
  omega

set_option maxRecDepth 100000 in
set_option maxHeartbeats 2000000 in
theorem Fits_of {w : World} {x a : Option Addr} {c : Nat} {l : List Int} (H : Tin w 95 (.pointer x) (nums l)) (hS : Sl w a c (nums l)) (hf : l.length ≤ 90000) :
    Calls Try.prog 13 #[.agg #[.pointer x], .slice a l.length c] w fun e w' => e = .returned (.bool true) ∧ Below w.heap.size w w' := by
  have hh := heap_alloc_new w (Obj.cells #[Value.pointer x] 27)
  have al := t_al w (Obj.cells #[Value.pointer x] 27)
  have hz1 : (w.alloc (Obj.cells #[Value.pointer x] 27)).heap.size = w.heap.size + 1 := by simp
  obtain ⟨w1, hw1⟩ : ∃ w1, w.alloc (Obj.cells #[Value.pointer x] 27) = w1 := ⟨_, rfl⟩
  rw [hw1] at hh al hz1
  have c0 : w1.cell? ⟨w.heap.size, 0, none⟩ = some (.pointer x) := by rw [cell_at hh]; rfl
  have AL := Lib.hid al
  have HTI := H.below al
  have HLn := Lib.hid (len_i HTI)
  have HS := Lib.hid (hS.below al)
  have HSa := Lib.hid (fun w' (b : Option Addr) (d : Nat) (hb : Below w1.heap.size w1 w') (h2 : Sl w' b d (nums l)) => nsame l l h2 ((hS.below al).below hb) (by omega))
  rw [nums_len] at HLn
  have hlt1 : w.heap.size < w1.heap.size := by omega
  clear hh al hS H
  rcases HTI with ⟨hx, hl⟩ | ⟨b, h, t, hx, hin, hok, hl⟩
  · injection hx with hx
    subst hx
    have hl0 : l.length = 0 := by rw [← nums_len, hl]; rfl
    rw [hl0] at HLn ⊢
    have HR := Lib.hid (fun w' => root_i (w := w') (pv := .pointer none) (L := []) (.inl ⟨rfl, rfl⟩))
    have HH := Lib.hid (fun w' => height_nil (w := w'))
    clear hl hl0 hz1
    go_enter Try.func13, Try.ntmps13
    go_wp2_with fail
    refine HLn.out.mono ?_; rintro e w2 ⟨rfl, hb2⟩
    have c2 := (hb2.cell (p := ⟨w.heap.size, 0, none⟩) hlt1).trans c0
    have HB2 := Lib.hid (AL.out.trans (hb2.mono AL.out.size))
    have hlt2 := Nat.lt_of_lt_of_le hlt1 hb2.size
    clear hb2 HLn c0
    go_wp2_with fail
    refine (HR.out w2).mono ?_; rintro e w3 ⟨rfl, hb3⟩
    have c3 := (hb3.cell (p := ⟨w.heap.size, 0, none⟩) hlt2).trans c2
    have HB3 := Lib.hid (HB2.out.trans (hb3.mono HB2.out.size))
    clear hb3 HR c2
    go_wp2_with fail
    refine (HH.out w3).mono ?_; rintro e w4 ⟨rfl, hb4⟩
    have HB4 := Lib.hid (HB3.out.trans (hb4.mono HB3.out.size))
    clear hb4 HH c3
    go_wp2_with fail
    go_ret
    exact ⟨rfl, HB4.out⟩
  · injection hx with hx
    subst hx
    have hflat := congrArg List.length hl
    rw [nums_len] at hflat
    have hpos := ok_pos (rlo_pos h) hok
    have hpw := ok_pow h hok
    have hhh := ok_h h (rlo_pos h) hok
    have HR := Lib.hid (fun w' (hb : Below w1.heap.size w1 w') => root_i (pv := ptr b) (L := flatL h t) (.inr ⟨b, h, t, rfl, hin.below hb, hok, rfl⟩))
    have HH := Lib.hid (fun w' (hb : Below w1.heap.size w1 w') => height_i (hin.below hb) hok (by omega))
    have HF := Lib.hid (fun w' (hb : Below w1.heap.size w1 w') => fits_of w1 h true hin hb hok (by rw [← hl]; exact isN_nums l) (by omega) (by omega))
    unfold FtPost at HF
    rw [← hl, nums_len] at HF
    obtain ⟨n, hn⟩ : ∃ n, l.length = n := ⟨_, rfl⟩
    rw [hn] at HLn HF HSa hflat ⊢
    obtain ⟨P, hP0, hPs, hPn⟩ := pow_parts h n (fun h1 => by
      have : rlo h = 2 := by unfold rlo; rw [if_neg (by omega)]
      rw [this] at hpw; omega)
    have HPn := Lib.hid hPn
    have HPs := Lib.hid hPs
    have HP0 := Lib.hid hP0
    have hnq : ((n : Int) == (n : Int)) = true := by simp
    have hn0 : ((n : Int) == 0) = false := by simp; omega
    have hn0' : (n == 0) = false := by simp; omega
    have hh9 : h ≤ 100000 := by omega
    have hn9 : n ≤ 100000 := by omega
    have hdl : decide (l = l) = true := by simp
    rw [hdl] at HSa
    clear hin hok hl hflat hpos hpw hn hz1 hPn hPs hP0 hdl
    go_enter Try.func13, Try.ntmps13
    go_upto_region 1 with fail
    go_wp2_with fail
    refine HLn.out.mono ?_; rintro e w2 ⟨rfl, hb2⟩
    have HB2 := Lib.hid hb2
    have HC0 := Lib.hid c0
    clear hb2 HLn
    go_upto_region 5 with fail
    have ld0 := fun w' (h : Below w1.heap.size w1 w') => (h.cell (p := ⟨w.heap.size, 0, none⟩) hlt1).trans HC0.out
    have hs0 : Below w1.heap.size w1 w2.drew := HB2.out.drew
    clear c0
    go_region_held_law (fun w' => Below w1.heap.size w1 w')
      (first | assumption)
      ((first
        | (go_at_call 47; refine (HR.out _ hs0).mono ?_; rintro e w3 ⟨rfl, hb3⟩; have hs3 := hs0.trans (hb3.mono hs0.size); clear hb3)
        | (go_at_call 48; refine (HH.out _ hs3).mono ?_; rintro e w4 ⟨rfl, hb4⟩; have hs4 := hs3.trans (hb4.mono hs3.size); clear hb4)
        | (go_at_call 49; refine (HF.out _ hs4).mono ?_; rintro e w5 ⟨a5, c5, rfl, hsl5, _, hb5⟩; have hs5 := hs4.trans (hb5.mono hs4.size); have HS5 := Lib.hid hsl5; clear hb5 hsl5)))
    all_goals
      have HB5 := Lib.hid hs5
      clear ld0 hs0 hs3 hs4 hs5 HR HF
      go_wp2_with fail
      go_loopw [7, 8] (fun v7 v8 wr => ∃ k : Nat, v8 = .int .i64 ((k : Int) + 1) ∧ k ≤ h ∧ v7 = .int .i64 (P k) ∧ Below w5.heap.size w5 wr) (fun _ v8 _ => h + 1 - (intOf v8).toNat)
      case atStart => exact ⟨0, by simp, by omega, by rw [HP0.out]; rfl, Below.refl _ _⟩
      case round =>
        obtain ⟨k, rfl, hk, rfl, hbr⟩ := hrel
        have hb1r := HB5.out.trans (hbr.mono HB5.out.size)
        have cr := (hb1r.cell (p := ⟨w.heap.size, 0, none⟩) hlt1).trans HC0.out
        have HHr := Lib.hid (HH.out wr hb1r)
        have HBR := Lib.hid (And.intro hbr hb1r)
        have hltr := Nat.lt_of_lt_of_le hlt1 hb1r.size
        clear hbr hb1r
        by_cases hlt : k < h
        · have dk : decide (k < h) = true := decide_eq_true hlt
          have dki : decide ((k : Int) + 1 < (h : Int) + 1) = true := decide_eq_true (by omega)
          have hp1 := HPn.out (k + 1) (by omega) (by omega)
          have hp2 := HPs.out k
          rw [hp2] at hp1
          have hwp : IntKind.i64.wrap ((P k : Int) * 3) = ((P (k + 1) : Nat) : Int) := by rw [hp2, IntKind.wrap_i64]; omega
          have hwk : IntKind.i64.wrap ((k : Int) + 1 + 1) = (k : Int) + 1 + 1 := by rw [IntKind.wrap_i64]; omega
          clear hp1 hp2
          go_wp2_with fail
          refine HHr.out.mono ?_; rintro e w6 ⟨rfl, hb6⟩
          have HB6 := Lib.hid (HBR.out.1.trans (hb6.mono HBR.out.1.size))
          clear hb6 HHr cr
          go_wp2_with fail
          go_roundw
          case rel => exact ⟨k + 1, by first | rfl | (congr 1) | simp, by omega, rfl, HB6.out⟩
          case measure => simp [intOf]; omega
        · have dk : decide (k < h) = false := decide_eq_false hlt
          have dki : decide ((k : Int) + 1 < (h : Int) + 1) = false := decide_eq_false (by omega)
          have hkh : k = h := by omega
          subst hkh
          go_wp2_with fail
          refine HHr.out.mono ?_; rintro e w6 ⟨rfl, hb6⟩
          have hb56 := HBR.out.1.trans (hb6.mono HBR.out.1.size)
          have hb16 := HBR.out.2.trans (hb6.mono HBR.out.2.size)
          have c6 := (hb16.cell (p := ⟨w.heap.size, 0, none⟩) hlt1).trans HC0.out
          have HSm := Lib.hid (HSa.out w6 a5 c5 hb16 (HS5.out.below hb56))
          have HB6 := Lib.hid hb16
          have hlt6 := Nat.lt_of_lt_of_le hlt1 hb16.size
          clear hb6 hb56 hb16 HHr cr
          go_wp2_with fail
          refine HSm.out.mono ?_; rintro e w7 ⟨rfl, hb7⟩
          have hb17 := HB6.out.trans (hb7.mono HB6.out.size)
          have c7 := (hb17.cell (p := ⟨w.heap.size, 0, none⟩) hlt1).trans HC0.out
          have HH7 := Lib.hid (HH.out w7 hb17)
          have HB7 := Lib.hid hb17
          clear hb7 hb17 HSm c6
          by_cases hk0 : k = 0
          · subst hk0
            go_wp2_with fail
            refine HH7.out.mono ?_; rintro e w8 ⟨rfl, hb8⟩
            have HB8 := Lib.hid (HB7.out.trans (hb8.mono HB7.out.size))
            clear hb8 HH7 c7
            go_wp2_with fail
            go_ret
            exact ⟨rfl, AL.out.trans (HB8.out.mono AL.out.size)⟩
          · have dk1 : ((k : Int) + 1 == 1) = false := by simp; omega
            have hpk := HPn.out k (Nat.le_refl _) (by omega)
            have dp : decide ((P k : Int) ≤ (n : Int)) = true := decide_eq_true (by omega)
            have dpn : decide (P k ≤ n) = true := decide_eq_true hpk
            have hk0' : ¬ (k = 0) := hk0
            go_wp2_with fail
            refine HH7.out.mono ?_; rintro e w8 ⟨rfl, hb8⟩
            have HB8 := Lib.hid (HB7.out.trans (hb8.mono HB7.out.size))
            clear hb8 HH7 c7
            go_wp2_with fail
            go_ret
            exact ⟨rfl, AL.out.trans (HB8.out.mono AL.out.size)⟩

end Go.Proofs.Ytofncnommekbjaa
