/-
  The example of layer 28; calls of no registers; at this seat's numbers.
-/
import Derived.Test.YteipnllefifgiaaRgL
import Derived.Test.YteipnllefifgiaaRgN
namespace Go.Proofs.Yteipnllefifgiaa
open Go Go.RowKit
set_option linter.unusedVariables false

/-- One row of texts, written out. -/
theorem lit_mx {w : World} {lo hi g1 g2 : Nat} {l : List ByteArray} {n : Nat} (hn : l.length = n) (h1 : w.heap[g1]? = some (.cells (strs l).toArray 9 (0, 0))) (h2 : w.heap[g2]? = some (.cells #[.slice (some ⟨g1, 0, none⟩) n n] 61 (0, 0))) (hm : n ≤ maxLen) (b1 : lo ≤ g1) (b2 : g1 < hi) (b3 : lo ≤ g2) (b4 : g2 < hi) :
    Mx w lo hi (some ⟨g2, 0, none⟩) 1 [((some ⟨g1, 0, none⟩, n, l) : TxM)] := by
  subst hn
  refine ⟨Sl.new (xs := [((some ⟨g1, 0, none⟩, l.length, l) : TxM)].map txV) h2 (by simp [maxLen]) (txV_one _), fun d hd => by cases hd; exact ⟨b3, b4⟩, fun p hp => ?_⟩
  simp only [List.mem_singleton] at hp
  subst hp
  refine ⟨?_, fun d hd => by cases hd; exact ⟨b1, b2⟩⟩
  have := Sl.new (xs := strs l) h1 (by rw [strs_len]; exact hm) (strs_one _)
  rwa [strs_len] at this
theorem rg_new (w : World) (t : TypeId) : Rg (w.alloc (.cells (rvs (List.replicate 27 rv0)).toArray t)) t (w.heap.size + 1) (w.heap.size + 1) w.heap.size (List.replicate 27 rv0) :=
  ⟨rfl, heap_alloc_new w _, fun r hr => by rw [(List.mem_replicate.1 hr).2]; exact Mx.nil _ _ _, fun r hr => by rw [(List.mem_replicate.1 hr).2]; exact ⟨Nat.zero_le _, Nat.zero_le _⟩, Nat.lt_succ_self _, by simp⟩
def S0R : List RV := List.replicate 27 (0, [])
theorem sem_new : sem (List.replicate 27 rv0) = S0R := rfl
def exX : List (List ByteArray) := [[⟨#[120]⟩]]
def exYZ : List (List ByteArray) := [[⟨#[121]⟩, ⟨#[122]⟩]]
def S1R : List RV := (setS S0R 97 1 exX).2
def S2R : List RV := (setS S1R 65 1 exYZ).2
theorem ex1 : setS S0R 97 1 exX = (0, S1R) := by unfold S1R; rfl
theorem ex2 : setS S1R 65 1 exYZ = (0, S2R) := by unfold S2R; rfl
theorem ex3 : S2R[0]? = some (1, exX ++ exYZ) := by rfl
theorem ex4 : totS S2R = 6 := by rfl
theorem ex5 : regI 97 = some 0 := by rfl

set_option maxRecDepth 100000 in
set_option maxHeartbeats 8000000 in
theorem awake28_of (w : World) : Calls Try.prog 10 #[] w fun e w' => e = .returned (.bool true) ∧ Below w.heap.size w w' := by
  have HN := Lib.hid (rnew_of w)
  go_enter Try.func10, Try.ntmps10
  go_wp2_with fail
  refine HN.out.mono ?_; rintro e w1 ⟨rfl, hw1⟩
  have hR1 : Rg w1 57 (w.heap.size + 1) (w.heap.size + 1) w.heap.size (List.replicate 27 rv0) := by rw [hw1]; exact rg_new w _
  have hz1 : w1.heap.size = w.heap.size + 1 := by rw [hw1]; simp
  have hb1 : Below w.heap.size w w1 := by rw [hw1]; exact t_al w _
  clear hw1
  obtain ⟨wa, ea, hba, hza, ga, gb⟩ := two_new w1 (.cells #[.string ⟨#[120]⟩] 9) (.cells #[.slice (some ⟨w1.heap.size, 0, none⟩) 1 1] 61)
  have hMa := lit_mx (lo := w.heap.size + 1) (hi := wa.heap.size) (l := [⟨#[120]⟩]) (n := 1) rfl ga gb (by decide) (by omega) (by omega) (by omega) (by omega)
  have HSA := Lib.hid (set_of (hR1.below hba) (by omega) 97 1 hMa (Nat.le_refl _) (by simp) (show szM exX ≤ 100000 by decide))
  rw [sem_new, show txL [((some ⟨w1.heap.size, 0, none⟩, 1, [⟨#[120]⟩]) : TxM)] = exX from rfl, ex1] at HSA
  unfold SetPost rgV at HSA
  simp only [List.length_singleton] at HSA
  have HZA := Lib.hid (And.intro hz1 hza)
  have HB1 := Lib.hid (hb1.trans (hba.mono hb1.size))
  clear hR1 hba hMa ga gb hz1 hza
  go_wp2_with fail
  refine HSA.out.mono ?_; rintro e w2 ⟨rfl, R2, hs2, hR2, ho2⟩
  have hb2 : Below w.heap.size w w2 := HB1.out.trans ho2.low
  have hz2 : w.heap.size + 1 ≤ w2.heap.size := by
    have h1 := HZA.out.1
    have h2 := HZA.out.2
    have h3 := ho2.size
    omega
  have hbl2 := hR2.lt
  clear ho2 HSA ea
  obtain ⟨wb, eb, hbb, hzb, ga, gb⟩ := two_new w2 (.cells #[.string ⟨#[121]⟩, .string ⟨#[122]⟩] 9) (.cells #[.slice (some ⟨w2.heap.size, 0, none⟩) 2 2] 61)
  have hMa := lit_mx (lo := w.heap.size + 1) (hi := wb.heap.size) (l := [⟨#[121]⟩, ⟨#[122]⟩]) (n := 2) rfl ga gb (by decide) (by omega) (by omega) (by omega) (by omega)
  have HSA := Lib.hid (set_of (hR2.below hbb) (by omega) 65 1 hMa (Nat.le_refl _) (by simp) (show szM exYZ ≤ 100000 by decide))
  rw [hs2, show txL [((some ⟨w2.heap.size, 0, none⟩, 2, [⟨#[121]⟩, ⟨#[122]⟩]) : TxM)] = exYZ from rfl, ex2] at HSA
  unfold SetPost rgV at HSA
  simp only [List.length_singleton] at HSA
  have HZB := Lib.hid hzb
  have HB2 := Lib.hid (hb2.trans (hbb.mono hb2.size))
  clear hR2 hbb hMa ga gb hs2 hb2 hzb hbl2
  go_wp2_with fail
  refine HSA.out.mono ?_; rintro e w3 ⟨rfl, R3, hs3, hR3, ho3⟩
  have hb3 : Below w.heap.size w w3 := HB2.out.trans ho3.low
  obtain ⟨r, hr⟩ := hR3.get (i := 0) (by omega)
  have hrs := sem_at hr
  rw [hs3, ex3] at hrs
  have hrk : r.k = 1 := (congrArg Prod.fst (Option.some.inj hrs)).symm
  have hrT : txL r.T = exX ++ exYZ := (congrArg Prod.snd (Option.some.inj hrs)).symm
  have hrl : r.T.length = 2 := by rw [← txL_len, hrT]; rfl
  have HG := Lib.hid (get_yes hR3 97 ex5 hr (by omega))
  unfold GetPost rgV at HG
  rw [hrk, hrl, hrT] at HG
  have HR3 := Lib.hid hR3
  have HB3 := Lib.hid hb3
  have HS3 := Lib.hid hs3
  clear ho3 HSA eb hr hrs hrk hrT hrl hR3 hb3 hs3
  go_wp2_with fail
  refine HG.out.mono ?_; rintro e w4 ⟨a4, c4, T4, hl4, ht4, rfl, hm4, hb4⟩
  have al4 := t_al w4 (.cells #[.int .i64 1, .slice a4 2 c4] 41)
  have hm5 := hm4.1.below al4
  obtain ⟨p, hp⟩ : ∃ p, T4[1]? = some p := ⟨_, List.getElem?_eq_getElem (by omega)⟩
  obtain ⟨g, o, rfl, hg, c0, hsl, _⟩ := hm5.row hp
  have hp2 := txL_at hp
  rw [ht4] at hp2
  have hp3 : p.2.2 = [⟨#[121]⟩, ⟨#[122]⟩] := (Option.some.inj hp2).symm
  obtain ⟨p1, p2, l⟩ := p
  simp only [] at hp3
  subst hp3
  obtain ⟨g2, o2, rfl, hg2, d0⟩ := hsl.text (k := 1) (x := ⟨#[122]⟩) rfl
  unfold txV at c0
  simp only [List.length_cons, List.length_nil] at c0
  have HSZ := Lib.hid (gsize_of ((HR3.out.below hb4).below al4))
  rw [HS3.out, ex4] at HSZ
  have HB5 := Lib.hid ((HB3.out.trans (hb4.mono HB3.out.size)).trans (al4.mono (HB3.out.trans (hb4.mono HB3.out.size)).size))
  clear hm4 hb4 al4 hm5 hp hsl hp2 hl4 ht4 HG hg hg2
  go_wp2_with fail
  refine HSZ.out.mono ?_; rintro e w6 ⟨rfl, hb6⟩
  have HB6 := Lib.hid (HB5.out.trans (hb6.mono HB5.out.size))
  clear hb6
  go_wp2_with fail
  go_ret
  exact ⟨rfl, HB6.out⟩

theorem drop_nil (x : Int) (w : World) : Calls Try.prog 21 #[.pointer none, .int .i64 x] w fun e w' => e = .returned (.bool false) ∧ w = w' := by
  have HS := Lib.hid (fun w => slot_of x w)
  generalize (if letK x < 0 then 0 else letK x) = k at *
  generalize decide (0 ≤ letK x) = b at *
  go_enter Try.func21, Try.ntmps21
  go_wp2_with fail
  refine (HS.out _).mono ?_; rintro e w2 ⟨rfl, rfl⟩
  go_wp2_with fail
  go_ret
  exact ⟨rfl, rfl⟩
theorem names_nil (w : World) : Calls Try.prog 14 #[.pointer none] w fun e w' => e = .returned (.slice none 0 0) ∧ w = w' := by
  go_enter Try.func14, Try.ntmps14
  go_wp2
  go_ret
  exact ⟨rfl, rfl⟩
theorem gsize_nil (w : World) : Calls Try.prog 22 #[.pointer none] w fun e w' => e = .returned (.int .i64 0) ∧ w = w' := by
  go_enter Try.func22, Try.ntmps22
  go_wp2
  go_ret
  exact ⟨rfl, rfl⟩

end Go.Proofs.Yteipnllefifgiaa
