/-
  GrammarMakes' walk, at this seat's numbers.
-/
import Derived.Test.YtjmpokgdgnjojaaGrW
import Derived.Deep.RegionHeldLaw
import Derived.Deep.MidRow
namespace Go.Proofs.Ytjmpokgdgnjojaa
open Go Go.RowKit
set_option linter.unusedVariables false

/-- A reading's zero value. -/
abbrev rg0O : Obj := .cells #[.slice none 0 0, .int .i64 0, .int .i64 0, .int .i64 0, .int .i64 0, .int .i64 0, .int .i64 0, .int .i64 0, .int .i64 0] 32
theorem z5_one : (#[.int .i64 0, .int .i64 0, .int .i64 0, .int .i64 0, .int .i64 0] : Array Value).all (·.oneCell') = true := by kernel_rfl
theorem z5_size : (Try.prog.info? 30).map (·.size) = some (#[.int .i64 0, .int .i64 0, .int .i64 0, .int .i64 0, .int .i64 0] : Array Value).size := by kernel_rfl
attribute [-go_sem] Builtin.append_
set_option maxRecDepth 100000 in
set_option maxHeartbeats 32000000 in
theorem grammarMakes_walk (a : Option Addr) (k : Nat) (L : List Int) (way : Int) (r : Bool) (w : World) (HL : Sl w a k (L.map (Value.int .i64)) ∧ ∀ y ∈ L, -9223372036854775808 ≤ y ∧ y ≤ 9223372036854775807) (_ : -9223372036854775808 ≤ way) (_ : way ≤ 9223372036854775807) :
    Calls Try.prog 3 #[.slice a L.length k, .int .i64 way, .bool r] w fun e w' => e = .returned (.bool true) ∧ Below w.heap.size w w' := by
  have HN := Lib.hid (gnew_of w)
  have HA := Lib.hid (fun w => awake24_of w)
  have HLs : Hid (Sl w a k (nums L)) := HL.1
  obtain ⟨n, hn⟩ : ∃ n, n = L.length := ⟨_, rfl⟩
  rw [← hn]
  have HLn := Lib.hid hn
  have H0 : Hid (GmI w (w.alloc (.cells (prC (.slice none 0 0) c0M .nilFunc) 48)) w.heap.size (.slice none 0 0) (.slice none 0 0) p0M p0M.bg) :=
    ⟨PsIn.start (Nat.le_refl _), t_nil _ _ _ _, fun b hb => (by cases hb), fun _ => rfl, ⟨.nilFunc, heap_alloc_new w _, rfl⟩, t_al w _⟩
  clear HL hn
  go_enter Try.func3, Try.ntmps3
  go_wp2_with fail
  refine HN.out.mono ?_; rintro e w1 ⟨rfl, rfl⟩
  go_wp2_with fail
  obtain ⟨p, hpw⟩ : ∃ p, w.heap.size = p := ⟨_, rfl⟩
  rw [hpw] at H0
  have HP := Lib.hid hpw
  rw [hpw]
  clear hpw HN
  go_loopw [8, 18] (fun v8 v18 wr => ∃ (i : Nat) (v : Value) (S : Ps), v18 = .int .i64 i ∧ i ≤ n ∧ S.bg.length ≤ i ∧ i ≤ 120 ∧ GmI w wr p v v8 S S.bg ∧ ∀ t, runS way r S.st S.c t = runS way r none c0M (S.bg ++ t)) (fun _ v18 _ => n - (intOf v18).toNat)
  case atStart => exact ⟨0, _, p0M, rfl, Nat.zero_le _, Nat.le_refl _, by omega, H0.out, fun t => rfl⟩
  case round =>
    obtain ⟨wq, rfl⟩ : ∃ wq : World, wq = wr := ⟨_, rfl⟩
    obtain ⟨i, v, S, rfl, hi, hbl, hi120, hG, hrun⟩ := hrel
    obtain ⟨a2, k2, rfl⟩ := gm_slice hG.ow
    have hpl := hG.lt
    have HG := Lib.hid hG
    have HRun := Lib.hid hrun
    by_cases hlt : i < n
    · have dj : decide ((i : Int) < (n : Int)) = true := decide_eq_true (by omega)
      obtain ⟨x, hx⟩ : ∃ x, L[i]? = some x := ⟨_, List.getElem?_eq_getElem (by rw [← HLn.out]; exact hlt)⟩
      obtain ⟨g, o, rfl⟩ := HLs.out.numsome (by rw [← HLn.out]; omega)
      have c0 := ((HLs.out.below (by rw [HP.out]; exact hG.low)).num hx).1
      have e0 : (0 : Int) ≤ (i : Int) := by omega
      have e1 : (i : Int) < (n : Int) := by omega
      by_cases h120 : 120 ≤ i
      · have z1 : decide ((120 : Int) ≤ (i : Int)) = true := decide_eq_true (by omega)
        obtain ⟨nx, hpr, _⟩ := hG.ps.pr
        have HR := Lib.hid (reset_of hpr)
        have HLo := Lib.hid hG.low
        have HPl := Lib.hid hpl
        clear hG hrun hbl hpr hx hpl
        go_wp2_with fail
        refine HR.out.mono ?_; rintro e w2 ⟨rfl, p2, m2, z2⟩
        have HPe := Lib.hid (pending_fresh (PsIn.again (w := w2) p2))
        have HB2 := Lib.hid (HLo.out.trans (m2.low' (Nat.le_refl p) (Nat.le_of_lt HPl.out)))
        have HPz : Hid (p ≤ w2.heap.size) := Nat.le_of_lt (lt_of_heap p2)
        clear p2 m2 z2
        go_wp2_with fail
        refine HPe.out.mono ?_; rintro e _ ⟨rfl, rfl⟩
        go_wp2_with fail
        refine (HA.out _).mono ?_; rintro e w9 ⟨rfl, b9⟩
        have HB9 := Lib.hid (HB2.out.trans (b9.mono HPz.out))
        clear b9
        go_wp2_with fail
        go_ret
        exact ⟨rfl, by rw [HP.out]; exact HB9.out⟩
      · have z1 : decide ((120 : Int) ≤ (i : Int)) = false := decide_eq_false (by omega)
        have hK := key_of hG.ps (Nat.le_of_lt hpl) (by omega) x way r
        by_cases h27 : x = 27
        · have ey : keyF S x way r = ((c0M, 0, 0), p0M) := by rw [h27]; unfold keyF; rw [if_pos rfl]
          rw [ey] at hK
          have HK := Lib.hid hK
          have z27 : (x == 27) = true := by rw [h27]; rfl
          clear hG hrun hpl hK ey h27 hx
          go_wp2_with fail
          refine HK.out.mono ?_; rintro e w3 ⟨rfl, v3, p3, m3, hn3, hs3⟩
          have t3 := HG.out.key p3 m3 hn3 hs3
          have hpl3 := t3.lt
          have z4 : (w3.alloc (cmO c0M)).heap.size = w3.heap.size + 1 := by simp
          have t4 := (t3.below (t_al w3 (cmO c0M))).below (t_al (w3.alloc (cmO c0M)) rg0O)
          have hcb4 : ((w3.alloc (cmO c0M)).alloc (rg0O)).heap[w3.heap.size]? = some (cmO c0M) := heap_mid w3 _ _
          have hrb4 : ((w3.alloc (cmO c0M)).alloc (rg0O)).heap[w3.heap.size + 1]? = some (rgO none 0 0 0 c0M 0 0) := by rw [← z4]; exact heap_alloc_new _ _
          obtain ⟨u0, u1, u2, u3, u4, u5, u6, u7, u8⟩ := rgCells hrb4
          have HT5 := Lib.hid (mid_rg hrb4).2.2.2
          have HMid := Lib.hid (mid17 hcb4 hrb4 t4 (by omega) (by omega))
          clear p3 m3 hn3 hs3 t3 t4 hcb4 hrb4 z4 hpl3 HK HG
          go_wp2_with (refine store_mid_to rfl 30 _ _ rfl (w3.heap.size + 1) 2 #[.int .i64 0, .int .i64 0, .int .i64 0, .int .i64 0, .int .i64 0] rfl rfl HT5.out z5_size z5_one ?_; intro W5 hW5; obtain ⟨hcb5, hrb5, t5⟩ := HMid.out W5 hW5; obtain ⟨⟨y0, y1, y2, y3, y4, y5, y6, y7, y8, y9, y10, y11⟩, H17⟩ := fin17 hcb5 hrb5 t5.drop rfl (by simp) (n2 := 0) rfl (a2 := none) (k2 := 0) rfl; clear hW5 hcb5 hrb5 t5 )
          go_region_held (fun w' => w'.cell? ⟨w3.heap.size, 0, none⟩ = some (.int .i64 c0M.op) ∧ w'.cell? ⟨w3.heap.size, 1, none⟩ = some (.int .i64 c0M.vb) ∧ w'.cell? ⟨w3.heap.size, 2, none⟩ = some (.int .i64 c0M.ct) ∧ w'.cell? ⟨w3.heap.size, 3, none⟩ = some (.int .i64 c0M.rg) ∧ w'.cell? ⟨w3.heap.size, 4, none⟩ = some (.int .i64 c0M.ch) ∧ w'.cell? ⟨w3.heap.size + 1, 2, none⟩ = some (.int .i64 c0M.op) ∧ w'.cell? ⟨w3.heap.size + 1, 3, none⟩ = some (.int .i64 c0M.vb) ∧ w'.cell? ⟨w3.heap.size + 1, 4, none⟩ = some (.int .i64 c0M.ct) ∧ w'.cell? ⟨w3.heap.size + 1, 5, none⟩ = some (.int .i64 c0M.rg) ∧ w'.cell? ⟨w3.heap.size + 1, 6, none⟩ = some (.int .i64 c0M.ch) ∧ w'.cell? ⟨w3.heap.size + 1, 7, none⟩ = some (.int .i64 0) ∧ w'.cell? ⟨w3.heap.size + 1, 8, none⟩ = some (.int .i64 0)) (first | assumption | (refine ⟨?_, ?_, ?_, ?_, ?_, ?_, ?_, ?_, ?_, ?_, ?_, ?_⟩ <;> assumption) | go_keep) ((first
            | (go_at_call 9; refine H17.out.mono ?_; rintro e wA ⟨rfl, ⟨xa0, xa1, xa2, xa3, xa4, xa5, xa6, xa7, xa8, xa9, xa10, xa11⟩, HPn⟩)
            | (go_at_call 11; refine HPn.out.mono ?_; rintro e wB ⟨aB, cB, rfl, ⟨xb0, xb1, xb2, xb3, xb4, xb5, xb6, xb7, xb8, xb9, xb10, xb11⟩, HSm⟩)
            | (go_at_call 10; refine HSm.out.mono ?_; rintro e wC ⟨rfl, ⟨xc0, xc1, xc2, xc3, xc4, xc5, xc6, xc7, xc8, xc9, xc10, xc11⟩, HGC⟩)))
          all_goals
            go_wp2_with fail
            go_roundw
            case rel => exact ⟨i + 1, v3, p0M, by go_num, by omega, Nat.zero_le _, by omega, HGC.out, fun t => rfl⟩
            case measure => simp [intOf]; omega
        · have z27 : (x == 27) = false := beq_eq_false_iff_ne.2 h27
          have hk := keyF_run S h27 way r
          have hRr := hrun [x]
          generalize keyF S x way r = y at hK hk
          obtain ⟨⟨C, m, er⟩, S3⟩ := y
          simp only at hK hk
          obtain ⟨R, hR⟩ : ∃ R, R = runS way r S.st S.c [x] := ⟨_, rfl⟩
          rw [← hR] at hk hRr
          rcases hk with ⟨hk1, hk2, hk3, hk4⟩ | ⟨hk1, hk2, hk3⟩ | ⟨er', hk1, hk2, hk3⟩
          · simp only [Prod.mk.injEq] at hk1
            obtain ⟨rfl, rfl, rfl⟩ := hk1
            obtain ⟨B, hB⟩ : ∃ B, B = S3.bg := ⟨_, rfl⟩
            have hBS : S.bg ++ [x] = B := by rw [hB]; exact hk3.symm
            have HRun3 : Hid (∀ t, runS way r S3.st S3.c t = runS way r none c0M (S3.bg ++ t)) := Lib.hid fun t => by rw [hk4, hrun, hk3, List.append_assoc]; rfl
            have hBl : S.bg.length + 1 = B.length := by rw [← hBS]; simp
            obtain ⟨n2, hn2⟩ : ∃ n2, n2 = B.length := ⟨_, rfl⟩
            have hn2i : n2 ≤ i + 1 := by omega
            have hn2S : S.bg.length + 1 = n2 := by omega
            rw [hBS] at hRr
            have HR := Lib.hid hRr
            have HBS := Lib.hid hBS
            have HN2 := Lib.hid hn2
            have HSl := Lib.hid hbl
            have HN2S := Lib.hid hn2S
            have HB := Lib.hid hB
            have HK := Lib.hid hK
            have HK2 := Lib.hid hk2
            clear hG hrun hpl hK hx hRr hR hk2 hBS hBl hn2 hn2S hk3 hk4 hB
            go_wp2_with fail
            refine HK.out.mono ?_; rintro e w3 ⟨rfl, v3, p3, m3, hn3, hs3⟩
            have t3 := HG.out.key p3 m3 hn3 hs3
            have hpl3 := t3.lt
            have z4 : (w3.alloc (cmO c0M)).heap.size = w3.heap.size + 1 := by simp
            have t4 := (t3.below (t_al w3 (cmO c0M))).below (t_al (w3.alloc (cmO c0M)) rg0O)
            have hcb4 : ((w3.alloc (cmO c0M)).alloc (rg0O)).heap[w3.heap.size]? = some (cmO c0M) := heap_mid w3 _ _
            have hrb4 : ((w3.alloc (cmO c0M)).alloc (rg0O)).heap[w3.heap.size + 1]? = some (rgO none 0 0 0 c0M 0 0) := by rw [← z4]; exact heap_alloc_new _ _
            obtain ⟨a1, k1, W, hr, t5, kp⟩ := t4.app (by have := HSl.out; omega) x
            have z44 : ((w3.alloc (cmO c0M)).alloc (rg0O)).heap.size = w3.heap.size + 1 + 1 := by simp
            rw [z44, HN2S.out] at hr
            rw [HN2S.out, HBS.out] at t5
            have hcbW := kp _ _ _ _ hcb4 (by decide)
            have hrbW := kp _ _ _ _ hrb4 (by decide)
            have hsl : Sl W a1 k1 (nums B) := gm_own_sl (by have := t5.ow; rw [HN2.out] at this; exact this) (gm_nums_one _)
            have hRd := read_all hsl.sq way r
            unfold RdP at hRd
            rw [← HN2.out, ← HR.out] at hRd
            have HRd := Lib.hid hRd
            have T5 := Lib.hid (And.intro t5 (And.intro hcbW hrbW))
            have HPl3 := Lib.hid hpl3
            clear p3 m3 hn3 hs3 t3 t4 t5 kp hcb4 hrb4 hcbW hrbW hsl hRd z4 z44 hpl3 HK HG
            go_wp2_with fail
            refine HRd.out.mono ?_; rintro e w6 ⟨⟨C6, m6, er6⟩, i6, hag, rfl, b6⟩
            have hag1 := hag.1.trans HK2.out
            simp only [Prod.mk.injEq] at hag1
            obtain ⟨rfl, rfl⟩ := hag1
            obtain ⟨t5, hcbW, hrbW⟩ := T5.out
            have t6 := t5.below b6
            have hcb6 := (b6.block _ (lt_of_heap hcbW)).trans hcbW
            have hrb6 := (b6.block _ (lt_of_heap hrbW)).trans hrbW
            have hpl3 := HPl3.out
            have HRow := Lib.hid (row17 (C := C6) (m := 0) (er := 0) (A := a1) (N := n2) (K := k1) (I := i6) hcb6 hrb6 t6 (by omega) (by omega))
            have H8 := Lib.hid hrb6
            clear t5 hcbW hrbW t6 hcb6 hrb6 b6 hag hpl3 HRd T5
            go_wp2_with (first | (refine store_row_to rfl 32 _ _ rfl (w3.heap.size + 1) (rgA a1 n2 k1 i6 C6 0 0) rfl rfl 32 _ H8.out (rgA_size a1 n2 k1 i6 C6 0 0) rfl (rgA_one a1 n2 k1 i6 C6 0 0) ?_; intro W4 hW4; obtain ⟨hcb4, hrb4, t4⟩ := HRow.out W4 hW4; obtain ⟨u0, u1, u2, u3, u4, u5, u6, u7, u8⟩ := rgCells hrb4; have HT5 := Lib.hid (mid_rg hrb4).2.2.2; have HMid := Lib.hid (mid17 hcb4 hrb4 t4 (by have := HPl3.out; omega) (by have := HPl3.out; omega)); clear hW4 hcb4 hrb4 t4) | (refine store_mid_to rfl 30 _ _ rfl (w3.heap.size + 1) 2 #[.int .i64 0, .int .i64 0, .int .i64 0, .int .i64 0, .int .i64 0] rfl rfl HT5.out z5_size z5_one ?_; intro W5 hW5; obtain ⟨hcb5, hrb5, t5⟩ := HMid.out W5 hW5; obtain ⟨⟨y0, y1, y2, y3, y4, y5, y6, y7, y8, y9, y10, y11⟩, H17⟩ := fin17 hcb5 hrb5 t5 HB.out.symm (by rw [← HN2.out]; omega) HN2.out (a2 := a1) (k2 := k1) rfl; clear hW5 hcb5 hrb5 t5))
            go_region_held (fun w' => w'.cell? ⟨w3.heap.size, 0, none⟩ = some (.int .i64 c0M.op) ∧ w'.cell? ⟨w3.heap.size, 1, none⟩ = some (.int .i64 c0M.vb) ∧ w'.cell? ⟨w3.heap.size, 2, none⟩ = some (.int .i64 c0M.ct) ∧ w'.cell? ⟨w3.heap.size, 3, none⟩ = some (.int .i64 c0M.rg) ∧ w'.cell? ⟨w3.heap.size, 4, none⟩ = some (.int .i64 c0M.ch) ∧ w'.cell? ⟨w3.heap.size + 1, 2, none⟩ = some (.int .i64 c0M.op) ∧ w'.cell? ⟨w3.heap.size + 1, 3, none⟩ = some (.int .i64 c0M.vb) ∧ w'.cell? ⟨w3.heap.size + 1, 4, none⟩ = some (.int .i64 c0M.ct) ∧ w'.cell? ⟨w3.heap.size + 1, 5, none⟩ = some (.int .i64 c0M.rg) ∧ w'.cell? ⟨w3.heap.size + 1, 6, none⟩ = some (.int .i64 c0M.ch) ∧ w'.cell? ⟨w3.heap.size + 1, 7, none⟩ = some (.int .i64 0) ∧ w'.cell? ⟨w3.heap.size + 1, 8, none⟩ = some (.int .i64 0)) (first | assumption | (refine ⟨?_, ?_, ?_, ?_, ?_, ?_, ?_, ?_, ?_, ?_, ?_, ?_⟩ <;> assumption) | go_keep) ((first
              | (go_at_call 9; refine H17.out.mono ?_; rintro e wA ⟨rfl, ⟨xa0, xa1, xa2, xa3, xa4, xa5, xa6, xa7, xa8, xa9, xa10, xa11⟩, HPn⟩)
              | (go_at_call 11; refine HPn.out.mono ?_; rintro e wB ⟨aB, cB, rfl, ⟨xb0, xb1, xb2, xb3, xb4, xb5, xb6, xb7, xb8, xb9, xb10, xb11⟩, HSm⟩)
              | (go_at_call 10; refine HSm.out.mono ?_; rintro e wC ⟨rfl, ⟨xc0, xc1, xc2, xc3, xc4, xc5, xc6, xc7, xc8, xc9, xc10, xc11⟩, HGC⟩)))
            all_goals
              go_wp2_with fail
              go_roundw
              case rel => exact ⟨i + 1, v3, S3, by go_num, by omega, by rw [← HB.out, ← HN2.out]; exact hn2i, by omega, by rw [← HB.out]; exact HGC.out, HRun3.out⟩
              case measure => simp [intOf]; omega
          · simp only [Prod.mk.injEq] at hk1
            obtain ⟨hC, rfl, rfl⟩ := hk1
            subst hk3
            obtain ⟨B, hBS⟩ : ∃ B, S.bg ++ [x] = B := ⟨_, rfl⟩
            have hBl : S.bg.length + 1 = B.length := by rw [← hBS]; simp
            obtain ⟨n2, hn2⟩ : ∃ n2, n2 = B.length := ⟨_, rfl⟩
            have hn2i : n2 ≤ i + 1 := by omega
            have hn2S : S.bg.length + 1 = n2 := by omega
            rw [hBS] at hRr
            have HR := Lib.hid hRr
            have HBS := Lib.hid hBS
            have HN2 := Lib.hid hn2
            have HSl := Lib.hid hbl
            have HN2S := Lib.hid hn2S
            have HK := Lib.hid hK
            have HK2 := Lib.hid hk2
            have HC := Lib.hid hC
            clear hG hrun hpl hK hx hRr hR hk2 hBS hBl hn2 hn2S hC
            go_wp2_with fail
            refine HK.out.mono ?_; rintro e w3 ⟨rfl, v3, p3, m3, hn3, hs3⟩
            have t3 := HG.out.key p3 m3 hn3 hs3
            have hpl3 := t3.lt
            have z4 : (w3.alloc (cmO C)).heap.size = w3.heap.size + 1 := by simp
            have t4 := (t3.below (t_al w3 (cmO C))).below (t_al (w3.alloc (cmO C)) rg0O)
            have hcb4 : ((w3.alloc (cmO C)).alloc (rg0O)).heap[w3.heap.size]? = some (cmO C) := heap_mid w3 _ _
            have hrb4 : ((w3.alloc (cmO C)).alloc (rg0O)).heap[w3.heap.size + 1]? = some (rgO none 0 0 0 c0M 0 0) := by rw [← z4]; exact heap_alloc_new _ _
            obtain ⟨a1, k1, W, hr, t5, kp⟩ := t4.app (by have := HSl.out; omega) x
            have z44 : ((w3.alloc (cmO C)).alloc (rg0O)).heap.size = w3.heap.size + 1 + 1 := by simp
            rw [z44, HN2S.out] at hr
            rw [HN2S.out, HBS.out] at t5
            have hcbW := kp _ _ _ _ hcb4 (by decide)
            have hrbW := kp _ _ _ _ hrb4 (by decide)
            have hsl : Sl W a1 k1 (nums B) := gm_own_sl (by have := t5.ow; rw [HN2.out] at this; exact this) (gm_nums_one _)
            have hRd := read_all hsl.sq way r
            unfold RdP at hRd
            rw [← HN2.out, ← HR.out] at hRd
            have HRd := Lib.hid hRd
            have T5 := Lib.hid (And.intro t5 (And.intro hcbW hrbW))
            have HPl3 := Lib.hid hpl3
            clear p3 m3 hn3 hs3 t3 t4 t5 kp hcb4 hrb4 hcbW hrbW hsl hRd z4 z44 hpl3 HK HG
            go_wp2_with fail
            refine HRd.out.mono ?_; rintro e w6 ⟨⟨C6, m6, er6⟩, i6, hag, rfl, b6⟩
            have hag1 := hag.1.trans HK2.out
            simp only [Prod.mk.injEq] at hag1
            obtain ⟨rfl, rfl⟩ := hag1
            obtain rfl : C6 = C := (hag.2 rfl).trans HC.out.symm
            obtain ⟨t5, hcbW, hrbW⟩ := T5.out
            have t6 := t5.below b6
            have hcb6 := (b6.block _ (lt_of_heap hcbW)).trans hcbW
            have hrb6 := (b6.block _ (lt_of_heap hrbW)).trans hrbW
            have hpl3 := HPl3.out
            have HRow := Lib.hid (row17 (C := C6) (m := 1) (er := 0) (A := a1) (N := n2) (K := k1) (I := i6) hcb6 hrb6 t6 (by omega) (by omega))
            have H8 := Lib.hid hrb6
            clear t5 hcbW hrbW t6 hcb6 hrb6 b6 hag hpl3 HRd T5
            go_wp2_with (refine store_row_to rfl 32 _ _ rfl (w3.heap.size + 1) (rgA a1 n2 k1 i6 C6 1 0) rfl rfl 32 _ H8.out (rgA_size a1 n2 k1 i6 C6 1 0) rfl (rgA_one a1 n2 k1 i6 C6 1 0) ?_; intro W5 hW5; obtain ⟨hcb5, hrb5, t5⟩ := HRow.out W5 hW5; obtain ⟨⟨y0, y1, y2, y3, y4, y5, y6, y7, y8, y9, y10, y11⟩, H17⟩ := fin17 hcb5 hrb5 t5.drop rfl (by simp) (n2 := 0) rfl (a2 := none) (k2 := 0) rfl; clear hW5 hcb5 hrb5 t5)
            go_region_held (fun w' => w'.cell? ⟨w3.heap.size, 0, none⟩ = some (.int .i64 C6.op) ∧ w'.cell? ⟨w3.heap.size, 1, none⟩ = some (.int .i64 C6.vb) ∧ w'.cell? ⟨w3.heap.size, 2, none⟩ = some (.int .i64 C6.ct) ∧ w'.cell? ⟨w3.heap.size, 3, none⟩ = some (.int .i64 C6.rg) ∧ w'.cell? ⟨w3.heap.size, 4, none⟩ = some (.int .i64 C6.ch) ∧ w'.cell? ⟨w3.heap.size + 1, 2, none⟩ = some (.int .i64 C6.op) ∧ w'.cell? ⟨w3.heap.size + 1, 3, none⟩ = some (.int .i64 C6.vb) ∧ w'.cell? ⟨w3.heap.size + 1, 4, none⟩ = some (.int .i64 C6.ct) ∧ w'.cell? ⟨w3.heap.size + 1, 5, none⟩ = some (.int .i64 C6.rg) ∧ w'.cell? ⟨w3.heap.size + 1, 6, none⟩ = some (.int .i64 C6.ch) ∧ w'.cell? ⟨w3.heap.size + 1, 7, none⟩ = some (.int .i64 1) ∧ w'.cell? ⟨w3.heap.size + 1, 8, none⟩ = some (.int .i64 0)) (first | assumption | (refine ⟨?_, ?_, ?_, ?_, ?_, ?_, ?_, ?_, ?_, ?_, ?_, ?_⟩ <;> assumption) | go_keep) ((first
              | (go_at_call 9; refine H17.out.mono ?_; rintro e wA ⟨rfl, ⟨xa0, xa1, xa2, xa3, xa4, xa5, xa6, xa7, xa8, xa9, xa10, xa11⟩, HPn⟩)
              | (go_at_call 11; refine HPn.out.mono ?_; rintro e wB ⟨aB, cB, rfl, ⟨xb0, xb1, xb2, xb3, xb4, xb5, xb6, xb7, xb8, xb9, xb10, xb11⟩, HSm⟩)
              | (go_at_call 10; refine HSm.out.mono ?_; rintro e wC ⟨rfl, ⟨xc0, xc1, xc2, xc3, xc4, xc5, xc6, xc7, xc8, xc9, xc10, xc11⟩, HGC⟩)))
            all_goals
              go_wp2_with fail
              go_roundw
              case rel => exact ⟨i + 1, v3, p0M, by go_num, by omega, Nat.zero_le _, by omega, HGC.out, fun t => rfl⟩
              case measure => simp [intOf]; omega
          · simp only [Prod.mk.injEq] at hk1
            obtain ⟨rfl, rfl, rfl⟩ := hk1
            subst hk3
            obtain ⟨B, hBS⟩ : ∃ B, S.bg ++ [x] = B := ⟨_, rfl⟩
            have hBl : S.bg.length + 1 = B.length := by rw [← hBS]; simp
            obtain ⟨n2, hn2⟩ : ∃ n2, n2 = B.length := ⟨_, rfl⟩
            have hn2i : n2 ≤ i + 1 := by omega
            have hn2S : S.bg.length + 1 = n2 := by omega
            rw [hBS] at hRr
            have HR := Lib.hid hRr
            have HBS := Lib.hid hBS
            have HN2 := Lib.hid hn2
            have HSl := Lib.hid hbl
            have HN2S := Lib.hid hn2S
            have HK := Lib.hid hK
            have HK2 := Lib.hid hk2
            clear hG hrun hpl hK hx hRr hR hk2 hBS hBl hn2 hn2S
            go_wp2_with fail
            refine HK.out.mono ?_; rintro e w3 ⟨rfl, v3, p3, m3, hn3, hs3⟩
            have t3 := HG.out.key p3 m3 hn3 hs3
            have hpl3 := t3.lt
            have z4 : (w3.alloc (cmO c0M)).heap.size = w3.heap.size + 1 := by simp
            have t4 := (t3.below (t_al w3 (cmO c0M))).below (t_al (w3.alloc (cmO c0M)) rg0O)
            have hcb4 : ((w3.alloc (cmO c0M)).alloc (rg0O)).heap[w3.heap.size]? = some (cmO c0M) := heap_mid w3 _ _
            have hrb4 : ((w3.alloc (cmO c0M)).alloc (rg0O)).heap[w3.heap.size + 1]? = some (rgO none 0 0 0 c0M 0 0) := by rw [← z4]; exact heap_alloc_new _ _
            obtain ⟨a1, k1, W, hr, t5, kp⟩ := t4.app (by have := HSl.out; omega) x
            have z44 : ((w3.alloc (cmO c0M)).alloc (rg0O)).heap.size = w3.heap.size + 1 + 1 := by simp
            rw [z44, HN2S.out] at hr
            rw [HN2S.out, HBS.out] at t5
            have hcbW := kp _ _ _ _ hcb4 (by decide)
            have hrbW := kp _ _ _ _ hrb4 (by decide)
            have hsl : Sl W a1 k1 (nums B) := gm_own_sl (by have := t5.ow; rw [HN2.out] at this; exact this) (gm_nums_one _)
            have hRd := read_all hsl.sq way r
            unfold RdP at hRd
            rw [← HN2.out, ← HR.out] at hRd
            have HRd := Lib.hid hRd
            have T5 := Lib.hid (And.intro t5 (And.intro hcbW hrbW))
            have HPl3 := Lib.hid hpl3
            clear p3 m3 hn3 hs3 t3 t4 t5 kp hcb4 hrb4 hcbW hrbW hsl hRd z4 z44 hpl3 HK HG
            go_wp2_with fail
            refine HRd.out.mono ?_; rintro e w6 ⟨⟨C6, m6, er6⟩, i6, hag, rfl, b6⟩
            have hag1 := hag.1.trans HK2.out
            simp only [Prod.mk.injEq] at hag1
            obtain ⟨rfl, rfl⟩ := hag1
            obtain ⟨t5, hcbW, hrbW⟩ := T5.out
            have t6 := t5.below b6
            have hcb6 := (b6.block _ (lt_of_heap hcbW)).trans hcbW
            have hrb6 := (b6.block _ (lt_of_heap hrbW)).trans hrbW
            have hpl3 := HPl3.out
            have HRow := Lib.hid (row17 (C := C6) (m := 2) (er := er6) (A := a1) (N := n2) (K := k1) (I := i6) hcb6 hrb6 t6 (by omega) (by omega))
            have H8 := Lib.hid hrb6
            clear t5 hcbW hrbW t6 hcb6 hrb6 b6 hag hpl3 HRd T5
            go_wp2_with (first | (refine store_row_to rfl 32 _ _ rfl (w3.heap.size + 1) (rgA a1 n2 k1 i6 C6 2 er6) rfl rfl 32 _ H8.out (rgA_size a1 n2 k1 i6 C6 2 er6) rfl (rgA_one a1 n2 k1 i6 C6 2 er6) ?_; intro W4 hW4; obtain ⟨hcb4, hrb4, t4⟩ := HRow.out W4 hW4; obtain ⟨u0, u1, u2, u3, u4, u5, u6, u7, u8⟩ := rgCells hrb4; have HT5 := Lib.hid (mid_rg hrb4).2.2.2; have HMid := Lib.hid (mid17 hcb4 hrb4 t4 (by have := HPl3.out; omega) (by have := HPl3.out; omega)); clear hW4 hcb4 hrb4 t4) | (refine store_mid_to rfl 30 _ _ rfl (w3.heap.size + 1) 2 #[.int .i64 0, .int .i64 0, .int .i64 0, .int .i64 0, .int .i64 0] rfl rfl HT5.out z5_size z5_one ?_; intro W5 hW5; obtain ⟨hcb5, hrb5, t5⟩ := HMid.out W5 hW5; obtain ⟨⟨y0, y1, y2, y3, y4, y5, y6, y7, y8, y9, y10, y11⟩, H17⟩ := fin17 hcb5 hrb5 t5.drop rfl (by simp) (n2 := 0) rfl (a2 := none) (k2 := 0) rfl; clear hW5 hcb5 hrb5 t5))
            go_region_held (fun w' => w'.cell? ⟨w3.heap.size, 0, none⟩ = some (.int .i64 c0M.op) ∧ w'.cell? ⟨w3.heap.size, 1, none⟩ = some (.int .i64 c0M.vb) ∧ w'.cell? ⟨w3.heap.size, 2, none⟩ = some (.int .i64 c0M.ct) ∧ w'.cell? ⟨w3.heap.size, 3, none⟩ = some (.int .i64 c0M.rg) ∧ w'.cell? ⟨w3.heap.size, 4, none⟩ = some (.int .i64 c0M.ch) ∧ w'.cell? ⟨w3.heap.size + 1, 2, none⟩ = some (.int .i64 c0M.op) ∧ w'.cell? ⟨w3.heap.size + 1, 3, none⟩ = some (.int .i64 c0M.vb) ∧ w'.cell? ⟨w3.heap.size + 1, 4, none⟩ = some (.int .i64 c0M.ct) ∧ w'.cell? ⟨w3.heap.size + 1, 5, none⟩ = some (.int .i64 c0M.rg) ∧ w'.cell? ⟨w3.heap.size + 1, 6, none⟩ = some (.int .i64 c0M.ch) ∧ w'.cell? ⟨w3.heap.size + 1, 7, none⟩ = some (.int .i64 2) ∧ w'.cell? ⟨w3.heap.size + 1, 8, none⟩ = some (.int .i64 er6)) (first | assumption | (refine ⟨?_, ?_, ?_, ?_, ?_, ?_, ?_, ?_, ?_, ?_, ?_, ?_⟩ <;> assumption) | go_keep) ((first
              | (go_at_call 9; refine H17.out.mono ?_; rintro e wA ⟨rfl, ⟨xa0, xa1, xa2, xa3, xa4, xa5, xa6, xa7, xa8, xa9, xa10, xa11⟩, HPn⟩)
              | (go_at_call 11; refine HPn.out.mono ?_; rintro e wB ⟨aB, cB, rfl, ⟨xb0, xb1, xb2, xb3, xb4, xb5, xb6, xb7, xb8, xb9, xb10, xb11⟩, HSm⟩)
              | (go_at_call 10; refine HSm.out.mono ?_; rintro e wC ⟨rfl, ⟨xc0, xc1, xc2, xc3, xc4, xc5, xc6, xc7, xc8, xc9, xc10, xc11⟩, HGC⟩)))
            all_goals
              go_wp2_with fail
              go_roundw
              case rel => exact ⟨i + 1, v3, p0M, by go_num, by omega, Nat.zero_le _, by omega, HGC.out, fun t => rfl⟩
              case measure => simp [intOf]; omega
    · have dj : decide ((i : Int) < (n : Int)) = false := decide_eq_false (by omega)
      obtain ⟨nx, hpr, _⟩ := hG.ps.pr
      have HR := Lib.hid (reset_of hpr)
      have HLo := Lib.hid hG.low
      have HPl := Lib.hid hpl
      clear hG hrun hbl hpr hpl
      go_wp2_with fail
      refine HR.out.mono ?_; rintro e w2 ⟨rfl, p2, m2, z2⟩
      have HPe := Lib.hid (pending_fresh (PsIn.again (w := w2) p2))
      have HB2 := Lib.hid (HLo.out.trans (m2.low' (Nat.le_refl p) (Nat.le_of_lt HPl.out)))
      have HPz : Hid (p ≤ w2.heap.size) := Nat.le_of_lt (lt_of_heap p2)
      clear p2 m2 z2
      go_wp2_with fail
      refine HPe.out.mono ?_; rintro e _ ⟨rfl, rfl⟩
      go_wp2_with fail
      refine (HA.out _).mono ?_; rintro e w9 ⟨rfl, b9⟩
      have HB9 := Lib.hid (HB2.out.trans (b9.mono HPz.out))
      clear b9
      go_wp2_with fail
      go_ret
      exact ⟨rfl, by rw [HP.out]; exact HB9.out⟩
end Go.Proofs.Ytjmpokgdgnjojaa
