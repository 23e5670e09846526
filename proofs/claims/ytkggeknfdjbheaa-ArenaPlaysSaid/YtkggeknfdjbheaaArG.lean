/-
  The walk of the statement ArenaSpans, at this seat's numbers.
-/
import Derived.Test.YtkggeknfdjbheaaArF
import Derived.Deep.RegionHeld3
import Derived.Deep.DeepCutAuto
namespace Go.Proofs.Ytkggeknfdjbheaa
open Go Go.RowKit
set_option linter.unusedVariables false

def I64 (x : Int) : Prop := -9223372036854775808 ≤ x ∧ x ≤ 9223372036854775807
/-- One of four numbers. -/
def l4 (x y u v : Int) : Nat → Int
  | 0 => x
  | 1 => y
  | 2 => u
  | _ => v

theorem SpB.draw {w : World} {b : Nat} {x y : Int} (h : SpB w b x y) (n : Nat) : SpB (w.drewN n) b x y := ⟨h.blk⟩
theorem bcell {W w1 : World} (hb : Below W.heap.size W w1) : (∀ b o, b < W.heap.size → w1.cell? ⟨b, o, none⟩ = W.cell? ⟨b, o, none⟩) ∧ (∀ b o, b < W.heap.size → w1.frozen? ⟨b, o, none⟩ = W.frozen? ⟨b, o, none⟩) :=
  ⟨fun b o h => hb.cell (p := ⟨b, o, none⟩) h, fun b o h => hb.frozen (p := ⟨b, o, none⟩) h⟩
/-- A contract, said from an older world on. -/
theorem chain_of {W w : World} {f : FuncId} {args : Array Value} {e0 : Ending} (h : Calls Try.prog f args w fun e w' => e = e0 ∧ Below w.heap.size w w') (hw : Below W.heap.size W w) :
    Calls Try.prog f args w fun e w' => e = e0 ∧ Below W.heap.size W w' ∧ Below w.heap.size w w' :=
  h.mono fun _ _ ⟨he, hb⟩ => ⟨he, hw.trans (hb.mono hw.size), hb⟩
theorem ours_chain {W : World} (x y : Int) (w : World) (hw : Below W.heap.size W w) :
    Calls Try.prog 22 #[.agg #[.int .i64 x, .int .i64 y]] w fun e w' => e = .returned (.agg #[.int .i64 x, .int .i64 y]) ∧ Below W.heap.size W w' ∧ Below w.heap.size w w' :=
  chain_of (ours_of x y w) hw
theorem cell_set_same {w : World} {p : Addr} {a u : Value} (h : w.cell? p = some a) : (w.setCell p u).cell? p = some u := World.cell?_setCell_same _ _ _ h
theorem two_c0 {w : World} {b : Nat} {a : Value} (h : w.cell? ⟨b, 0, none⟩ = some a) (u v : Value) : ((w.setCell ⟨b, 0, none⟩ u).setCell ⟨b, 1, none⟩ v).cell? ⟨b, 0, none⟩ = some u := by
  rw [World.cell?_setCell_other _ _ _ _ (by simp)]
  exact cell_set_same h
theorem two_c1 {w : World} {b : Nat} {a : Value} (h : w.cell? ⟨b, 1, none⟩ = some a) (u v : Value) : ((w.setCell ⟨b, 0, none⟩ u).setCell ⟨b, 1, none⟩ v).cell? ⟨b, 1, none⟩ = some v := by
  refine cell_set_same (a := a) ?_
  rw [World.cell?_setCell_other _ _ _ _ (by simp)]
  exact h
theorem boxes (w : World) (x y u v : Int) (o3 o4 : Obj) (n : Nat) :
    let W := ((((w.alloc (Obj.cells #[Value.int IntKind.i64 x, Value.int IntKind.i64 y] 24)).alloc (Obj.cells #[Value.int IntKind.i64 u, Value.int IntKind.i64 v] 24)).alloc o3).drewN n).alloc o4
    Below w.heap.size w W ∧ SpB W w.heap.size x y ∧ SpB W (w.heap.size + 1) u v ∧ W.heap[w.heap.size + 3]? = some o4 ∧ W.heap.size = w.heap.size + 4 := by
  have al : ∀ (w : World) o, Below w.heap.size w (w.alloc o) := fun w o => (Below.refl _ w).alloc (Nat.le_refl _) o
  have e := SpB.new (w.alloc (Obj.cells #[Value.int IntKind.i64 x, Value.int IntKind.i64 y] 24)) u v
  rw [World.size_alloc] at e
  refine ⟨(below_draw1 (((al w _).alloc (by simp) _).alloc (by simp; omega) _) n).alloc (by simp; omega) _, ((((SpB.new w x y).below (al _ _)).below (al _ _)).draw n).below (al _ _), ((e.below (al _ _)).draw n).below (al _ _), ?_, by simp⟩
  have := heap_alloc_new ((((w.alloc (Obj.cells #[Value.int IntKind.i64 x, Value.int IntKind.i64 y] 24)).alloc (Obj.cells #[Value.int IntKind.i64 u, Value.int IntKind.i64 v] 24)).alloc o3).drewN n) o4
  simpa using this

set_option maxHeartbeats 4000000 in
set_option maxRecDepth 100000 in
theorem arenaSpans_walk (x y u v i j : Int) (w : World) (hx : I64 x) (hy : I64 y) (hu : I64 u) (hv : I64 v) (hi : I64 i) (hj : I64 j) (hm : ML w) :
    Calls Try.prog 4 #[.agg #[.int .i64 x, .int .i64 y], .agg #[.int .i64 u, .int .i64 v], .agg #[.int .i64 i, .int .i64 j]] w fun e w' => e = .returned (.bool true) ∧ Below w.heap.size w w' := by
  have HM := Lib.hid hm
  have h0 := hm.1
  have HI := Lib.hid hi
  have HJ := Lib.hid hj
  clear hm hx hy hu hv hi hj
  go_enter Try.func4, Try.ntmps4
  go_wp2_with fail
  go_quiet (fail)
  go_wp2_with fail
  generalize hw0 : ((((w.alloc (Obj.cells #[Value.int IntKind.i64 x, Value.int IntKind.i64 y] 24)).alloc (Obj.cells #[Value.int IntKind.i64 u, Value.int IntKind.i64 v] 24)).alloc (Obj.cells #[Value.int IntKind.i64 i, Value.int IntKind.i64 j] 50)).drewN nq).alloc (Obj.cells #[Value.int IntKind.i64 x, Value.int IntKind.i64 y, Value.int IntKind.i64 u, Value.int IntKind.i64 v] 51) = w0
  obtain ⟨hb, S1, S2, h4, hz⟩ := boxes w x y u v (.cells #[.int .i64 i, .int .i64 j] 50) (.cells #[.int .i64 x, .int .i64 y, .int .i64 u, .int .i64 v] 51) nq
  rw [hw0] at hb S1 S2 h4 hz
  have HB := Lib.hid hb
  have HZ := Lib.hid hz
  have hz' : w.heap.size + 3 < w0.heap.size := by omega
  have H4 := Lib.hid h4
  clear hw0 hb h4 hz
  go_loop [10] (fun q => ∃ k : Nat, k ≤ 4 ∧ q = .int .i64 k ∧ ∀ m, m < k → In40 (l4 x y u v m)) (fun q => 4 - (intOf q).toNat)
  case atStart => exact ⟨0, by omega, rfl, fun m hm => absurd hm (Nat.not_lt_zero _)⟩
  case round =>
    obtain ⟨k, hk, rfl, hin⟩ := hrel
    have HN := Lib.hid hin
    clear hin
    by_cases hlt : k < 4
    · have hc : w0.cell? ⟨w.heap.size + 3, k, none⟩ = some (.int .i64 (l4 x y u v k)) := by
        rw [cell_at H4.out]
        obtain rfl | rfl | rfl | rfl : k = 0 ∨ k = 1 ∨ k = 2 ∨ k = 3 := by omega
        all_goals rfl
      generalize hq : l4 x y u v k = q at hc
      have HQ := Lib.hid hq
      clear hq
      by_cases hg : In40 q
      · have d1 : decide (q < -1099511627776) = false := decide_eq_false (by unfold In40 at hg; omega)
        have d2 : decide (1099511627776 < q) = false := decide_eq_false (by unfold In40 at hg; omega)
        have HG := Lib.hid hg
        clear hg
        go_wp2_with fail
        go_round
        case rel =>
          refine ⟨k + 1, by omega, by go_num, fun m hm => ?_⟩
          by_cases hmk : m < k
          · exact HN.out m hmk
          · have : m = k := by omega
            rw [this, HQ.out]; exact HG.out
        case measure => simp [intOf]; omega
      · have hg' : q < -1099511627776 ∨ 1099511627776 < q := by unfold In40 at hg; omega
        clear hg
        rcases hg' with hg | hg
        · have d1 : decide (q < -1099511627776) = true := decide_eq_true hg
          go_wp2_with fail
          refine (awake3_of _ (HM.out.below HB.out h0)).mono ?_; rintro e w5 ⟨rfl, hb⟩
          have HB5 := Lib.hid (HB.out.trans (hb.mono HB.out.size))
          clear hb
          go_wp2_with fail
          go_ret
          exact ⟨rfl, HB5.out⟩
        · have d1 : decide (q < -1099511627776) = false := decide_eq_false (by omega)
          have d2 : decide (1099511627776 < q) = true := decide_eq_true hg
          go_wp2_with fail
          refine (awake3_of _ (HM.out.below HB.out h0)).mono ?_; rintro e w5 ⟨rfl, hb⟩
          have HB5 := Lib.hid (HB.out.trans (hb.mono HB.out.size))
          clear hb
          go_wp2_with fail
          go_ret
          exact ⟨rfl, HB5.out⟩
    · have hX : In40 x := HN.out 0 (by omega)
      have hY : In40 y := HN.out 1 (by omega)
      have hU : In40 u := HN.out 2 (by omega)
      have hV : In40 v := HN.out 3 (by omega)
      have HJ1 := Lib.hid (fun w => join_of x y u v w hX hY hU hV)
      have HJ2 := Lib.hid (fun w => rjoin_of x y u v w hX hY hU hV)
      have HS1 := Lib.hid (fun w => sub_of x y i j w hX hY HI.out HJ.out)
      have HS2 := Lib.hid (fun w => rsub_of x y i j w hX hY HI.out HJ.out)
      generalize subR x y i j = S at *
      generalize joinR x y u v = J at *
      generalize joinB x y u v = jb at *
      unfold ret2 at HS1 HS2
      unfold retJ at HJ1 HJ2
      have c10 := S1.c0
      have c11 := S1.c1
      have c20 := S2.c0
      have c21 := S2.c1
      have hz1 : w.heap.size < w0.heap.size := by omega
      have hz2 : w.heap.size + 1 < w0.heap.size := by omega
      clear hX hY hU hV HN
      go_wp2_with fail
      refine (HJ1.out _).mono ?_; rintro e w1 ⟨rfl, hb⟩
      have hzz := hb.size
      have HB1 := Lib.hid (HB.out.trans (hb.mono HB.out.size))
      have S3 := S1.below hb
      have S4 := S2.below hb
      clear hb c10 c11 c20 c21
      go_upto_region 9 with fail
      have HO := Lib.hid (ours_chain (W := w1.alloc (Obj.cells #[Value.int IntKind.i64 J.1, Value.int IntKind.i64 J.2] 24)))
      have HR := Lib.hid (fun w hw => chain_of (W := w1.alloc (Obj.cells #[Value.int IntKind.i64 J.1, Value.int IntKind.i64 J.2] 24)) (HJ2.out w) hw)
      have T0 := SpB.new w1 J.1 J.2
      have T3 := S3.below ((Below.refl _ w1).alloc (Nat.le_refl _) (Obj.cells #[Value.int IntKind.i64 J.1, Value.int IntKind.i64 J.2] 24))
      have T4 := S4.below ((Below.refl _ w1).alloc (Nat.le_refl _) (Obj.cells #[Value.int IntKind.i64 J.1, Value.int IntKind.i64 J.2] 24))
      have HB2 := Lib.hid (HB1.out.alloc HB1.out.size (Obj.cells #[Value.int IntKind.i64 J.1, Value.int IntKind.i64 J.2] 24))
      have hsz : w1.heap.size + 1 = (w1.alloc (Obj.cells #[Value.int IntKind.i64 J.1, Value.int IntKind.i64 J.2] 24)).heap.size := by simp
      generalize w1.alloc (Obj.cells #[Value.int IntKind.i64 J.1, Value.int IntKind.i64 J.2] 24) = w2 at *
      have hsz0 : w1.heap.size < w2.heap.size := by omega
      have hsz1 : w.heap.size < w2.heap.size := by omega
      have hsz2 : w.heap.size + 1 < w2.heap.size := by omega
      have HSZ := Lib.hid hsz
      clear hsz
      go_cut [13, 14] (fun s13 s14 wx => ∃ g : Nat, s13 = .pointer (some ⟨g, 0, none⟩) ∧ s14 = .bool jb ∧ Below w2.heap.size w2 wx ∧ wx.cell? ⟨g, 0, none⟩ = some (.int .i64 J.1) ∧ wx.cell? ⟨g, 1, none⟩ = some (.int .i64 J.2))
      case first =>
        have ld1 := fun w' (hb : Below w2.heap.size w2 w') => (T3.below (w' := w') hb).c0
        have ld2 := fun w' (hb : Below w2.heap.size w2 w') => (T3.below (w' := w') hb).c1
        have ld3 := fun w' (hb : Below w2.heap.size w2 w') => (T4.below (w' := w') hb).c0
        have ld4 := fun w' (hb : Below w2.heap.size w2 w') => (T4.below (w' := w') hb).c1
        have hb0 : Below w2.heap.size w2 w2.drew := (Below.refl _ w2).drew
        go_region_held3 (fun w' => Below w2.heap.size w2 w')
          (first | assumption | exact Below.alloc (by assumption) (Below.size (by assumption)) _ | exact below_two (by assumption) (by first | assumption | omega) _ _)
          (first
          | (go_at_call_of 22 (Value.agg #[Value.int IntKind.i64 x, Value.int IntKind.i64 y]); refine (HO.out x y _ (by first | assumption | exact Below.alloc (by assumption) (Below.size (by assumption)) _)).mono ?_; rintro e w' ⟨rfl, hB, hb⟩; have hup := hB.size; have hul := (fun (b : Nat) h => Nat.lt_of_lt_of_le (n := b) h hb.size); (try have hal : w2.heap.size < w'.heap.size := by (have hzs := hb.size; simp only [World.size_drew, World.size_alloc] at hzs; omega)); (try have hal : w2.heap.size < w'.heap.size := by (have hzs := hb.size; omega)); obtain ⟨hcc, hff⟩ := bcell hb; clear hb)
          | (go_at_call_of 22 (Value.agg #[Value.int IntKind.i64 u, Value.int IntKind.i64 v]); refine (HO.out u v _ (by first | assumption | exact Below.alloc (by assumption) (Below.size (by assumption)) _)).mono ?_; rintro e w' ⟨rfl, hB, hb⟩; have hup := hB.size; have hul := (fun (b : Nat) h => Nat.lt_of_lt_of_le (n := b) h hb.size); (try have hal : w2.heap.size < w'.heap.size := by (have hzs := hb.size; simp only [World.size_alloc] at hzs; omega)); (try have hal : w2.heap.size < w'.heap.size := by (have hzs := hb.size; omega)); obtain ⟨hcc, hff⟩ := bcell hb; clear hb)
          | (go_at_call 25; refine (HR.out _ (by first | assumption | exact Below.alloc (by assumption) (Below.size (by assumption)) _)).mono ?_; rintro e w' ⟨rfl, hB, hb⟩; have hup := hB.size; have hul := (fun (b : Nat) h => Nat.lt_of_lt_of_le (n := b) h hb.size); (try have hal : w2.heap.size < w'.heap.size := by (have hzs := hb.size; simp only [World.size_alloc] at hzs; omega)); (try have hal : w2.heap.size < w'.heap.size := by (have hzs := hb.size; omega)); obtain ⟨hcc, hff⟩ := bcell hb; clear hb))
        all_goals go_wp2_with fail
        all_goals go_meet
        all_goals (refine ⟨_, rfl, rfl, ?_, ?_, ?_⟩ <;> first | assumption | (go_simp; done) | (simp; done) | exact two_c0 (a := .int .i64 0) (by go_simp) _ _ | exact two_c1 (a := .int .i64 0) (by go_simp) _ _)
      case rest =>
        obtain ⟨g, rfl, rfl, hbw, hj1, hj2⟩ := hcut
        have hg : g < wc.heap.size := World.block_lt_of_cell? _ _ hj1
        have ld1 := fun w' (hb : Below wc.heap.size wc w') => ((T3.below hbw).below (w' := w') hb).c0
        have ld2 := fun w' (hb : Below wc.heap.size wc w') => ((T3.below hbw).below (w' := w') hb).c1
        have ld3 := fun w' (hb : Below wc.heap.size wc w') => ((T0.below hbw).below (w' := w') hb).c0
        have ld4 := fun w' (hb : Below wc.heap.size wc w') => ((T0.below hbw).below (w' := w') hb).c1
        have ld5 := fun w' (hb : Below wc.heap.size wc w') => (hb.cell (p := ⟨g, 0, none⟩) hg).trans hj1
        have ld6 := fun w' (hb : Below wc.heap.size wc w') => (hb.cell (p := ⟨g, 1, none⟩) hg).trans hj2
        have HBC := Lib.hid (HB2.out.trans (hbw.mono HB2.out.size))
        have HAW := Lib.hid (fun w' (hb : Below wc.heap.size wc w') => chain_of (W := wc) (awake3_of w' (HM.out.below (HBC.out.trans (hb.mono HBC.out.size)) h0)) hb)
        have HO2 := Lib.hid (ours_chain (W := wc))
        have HS1' := Lib.hid (fun w hw => chain_of (W := wc) (HS1.out w) hw)
        have HS2' := Lib.hid (fun w hw => chain_of (W := wc) (HS2.out w) hw)
        have hb0 : Below wc.heap.size wc wc.drew := (Below.refl _ wc).drew
        clear hj1 hj2 hg hbw
        go_wp2_with fail
        go_region_held3 (fun w' => Below wc.heap.size wc w')
          (first | assumption | exact Below.alloc (by assumption) (Below.size (by assumption)) _)
          (first
          | (go_at_call_of 22 (Value.agg #[Value.int IntKind.i64 x, Value.int IntKind.i64 y]); refine (HO2.out x y _ (by first | assumption | exact Below.alloc (by assumption) (Below.size (by assumption)) _)).mono ?_; rintro e w' ⟨rfl, hB, hb⟩; clear hb)
          | (go_at_call_of 22 (Value.agg #[Value.int IntKind.i64 S.1, Value.int IntKind.i64 S.2]); refine (HO2.out S.1 S.2 _ (by first | assumption | exact Below.alloc (by assumption) (Below.size (by assumption)) _)).mono ?_; rintro e w' ⟨rfl, hB, hb⟩; clear hb)
          | (go_at_call_of 22 (Value.agg #[Value.int IntKind.i64 J.1, Value.int IntKind.i64 J.2]); refine (HO2.out J.1 J.2 _ (by first | assumption | exact Below.alloc (by assumption) (Below.size (by assumption)) _)).mono ?_; rintro e w' ⟨rfl, hB, hb⟩; clear hb)
          | (go_at_call 26; refine (HS1'.out _ (by first | assumption | exact Below.alloc (by assumption) (Below.size (by assumption)) _)).mono ?_; rintro e w' ⟨rfl, hB, hb⟩; clear hb)
          | (go_at_call 27; refine (HS2'.out _ (by first | assumption | exact Below.alloc (by assumption) (Below.size (by assumption)) _)).mono ?_; rintro e w' ⟨rfl, hB, hb⟩; clear hb)
          | (go_at_call 14; refine (HAW.out _ (by first | assumption | exact Below.alloc (by assumption) (Below.size (by assumption)) _)).mono ?_; rintro e w' ⟨rfl, hB, hb⟩; clear hb))
        all_goals go_wp2_with fail
        all_goals go_ret
        all_goals exact ⟨rfl, HBC.out.trans (Below.mono (by assumption) HBC.out.size)⟩

end Go.Proofs.Ytkggeknfdjbheaa
