/-
  The document's Print of a command, at this seat's numbers.
-/
import Derived.Test.YtjmpokgdgnjojaaDoorGrZ
import Derived.BigQuiet
namespace Go.Proofs.YtjmpokgdgnjojaaDoor
open Go Go.RowKit
set_option linter.unusedVariables false

theorem row2Cells {w : World} {b : Nat} {c : Cm} (h : w.heap[b]? = some (cm2O c)) : w.cell? ⟨b, 0, none⟩ = some (.int .i64 c.op) ∧ w.cell? ⟨b, 1, none⟩ = some (.int .i64 c.vb) ∧ w.cell? ⟨b, 2, none⟩ = some (.int .i64 c.ct) ∧ w.cell? ⟨b, 3, none⟩ = some (.int .i64 c.rg) ∧ w.cell? ⟨b, 4, none⟩ = some (.int .i64 c.ch) :=
  ⟨by rw [cell_at h]; rfl, by rw [cell_at h]; rfl, by rw [cell_at h]; rfl, by rw [cell_at h]; rfl, by rw [cell_at h]; rfl⟩
theorem KPost.none {c : Cm} {w w' : World} (h : prL c = []) (hb : Below w.heap.size w w') : KPost (prL c) w (.returned (.slice none 0 0)) w' := ⟨_, _, _, rfl, by rw [h]; rfl, by rw [h]; exact Sl.none _, hb⟩
theorem KPost.all {c : Cm} {w w' : World} {a : Option Addr} {n k : Nat} (h : prL c = spL c) (hn : n = (spL c).length) (hs : Sl w' a k (nums (spL c))) (hb : Below w.heap.size w w') : KPost (prL c) w (.returned (.slice a n k)) w' := ⟨a, n, k, rfl, by rw [h]; exact hn, by rw [h]; exact hs, hb⟩
theorem Sq.take {w : World} {a : Option Addr} {k : Nat} {l : List Int} (h : Sq w a k l) (j : Nat) : Sq w a k (l.take j) :=
  ⟨fun i x hx => h.at_ i x (by rw [List.getElem?_take] at hx; split at hx <;> first | exact hx | cases hx), Nat.le_trans (by rw [List.length_take]; omega) h.cap, h.capm⟩
/-- The document's digits, so many of them. -/
def dgJ (c : Cm) : Nat → List Int
  | 0 => regL c
  | 1 => regL c ++ dgL c.ct 1000
  | 2 => regL c ++ dgL c.ct 1000 ++ dgL c.ct 100
  | 3 => regL c ++ dgL c.ct 1000 ++ dgL c.ct 100 ++ dgL c.ct 10
  | _ => regL c ++ dgL c.ct 1000 ++ dgL c.ct 100 ++ dgL c.ct 10 ++ dgL c.ct 1
def byJ : Nat → Int
  | 0 => 1000
  | 1 => 100
  | 2 => 10
  | 3 => 1
  | _ => 0
theorem dgL_len (n b : Int) : (dgL n b).length ≤ 1 := by unfold dgL; split <;> simp
theorem dgJ_len (c : Cm) (j : Nat) : (dgJ c j).length ≤ 6 := by
  have h0 := regL_len c
  have h1 := dgL_len c.ct 1000
  have h2 := dgL_len c.ct 100
  have h3 := dgL_len c.ct 10
  have h4 := dgL_len c.ct 1
  unfold dgJ
  split <;> (try simp only [List.length_append]) <;> omega
theorem dgJ_all {c : Cm} (h : 0 ≤ c.ct ∧ c.ct ≤ 9999) : dgJ c 4 = regL c ++ cntL c := by
  rw [← docD_cnt h]
  show regL c ++ dgL c.ct 1000 ++ dgL c.ct 100 ++ dgL c.ct 10 ++ dgL c.ct 1 = _
  unfold docD
  simp only [List.append_assoc]
/-- What the loop over a row's beginnings has found. -/
def Fnd (c : Cm) (j : Nat) : Prop := (∀ t, 1 ≤ t → t < j → t < (spL c).length → (runS 0 false none c0M ((spL c).take t)).2.1 = 0) ∧ ((spL c).length < j → (runS 0 false none c0M (spL c)).2.1 = 1 → (runS 0 false none c0M (spL c)).1 = c)
theorem Fnd.more {c : Cm} {j : Nat} (h : Fnd c j) (h1 : 1 ≤ j) (h2 : j ≤ (spL c).length) {T : Cm × Int × Int} (hT : Ag T (runS 0 false none c0M ((spL c).take j))) (h0 : T.2.1 = 0) : Fnd c (j + 1) := by
  refine ⟨fun t ht1 ht2 ht3 => ?_, fun hj hd => ?_⟩
  · rcases Nat.lt_or_ge t j with h' | h'
    · exact h.1 t ht1 h' ht3
    · obtain rfl : t = j := by omega
      rw [← hT.1]; exact h0
  · obtain rfl : j = (spL c).length := by omega
    rw [List.take_length] at hT
    rw [← hT.1, h0] at hd; cases hd
theorem Fnd.made {c : Cm} {j : Nat} (h : Fnd c j) (h2 : j = (spL c).length) {T : Cm × Int × Int} (hT : Ag T (runS 0 false none c0M ((spL c).take j))) (h0 : T.2.1 = 1) (hc : T.1 = c) : Fnd c (j + 1) := by
  refine ⟨fun t ht1 ht2 ht3 => h.1 t ht1 (by omega) ht3, fun hj hd => ?_⟩
  subst h2
  rw [List.take_length] at hT
  rw [← hT.2 h0]; exact hc
theorem not_two {c : Cm} {j : Nat} (h1 : 1 ≤ j) (h2 : j ≤ (spL c).length) {T : Cm × Int × Int} (hT : Ag T (runS 0 false none c0M ((spL c).take j))) (h0 : T.2.1 = 2) : prL c = [] := by
  refine prL_not c (fun h => ?_)
  rcases Nat.lt_or_ge j (spL c).length with hj | hj
  · have := h.2.1.1 j h1 hj
    rw [← hT.1, h0] at this; cases this
  · obtain rfl : j = (spL c).length := by omega
    rw [List.take_length] at hT
    have := h.2.1.2.1
    rw [← hT.1, h0] at this; cases this
theorem not_early {c : Cm} {j : Nat} (h1 : 1 ≤ j) (h2 : j < (spL c).length) {T : Cm × Int × Int} (hT : Ag T (runS 0 false none c0M ((spL c).take j))) (h0 : T.2.1 = 1) : prL c = [] := by
  refine prL_not c (fun h => ?_)
  have := h.2.1.1 j h1 h2
  rw [← hT.1, h0] at this; cases this
theorem not_other {c : Cm} {j : Nat} (h2 : j = (spL c).length) {T : Cm × Int × Int} (hT : Ag T (runS 0 false none c0M ((spL c).take j))) (h0 : T.2.1 = 1) (hc : T.1 ≠ c) : prL c = [] := by
  refine prL_not c (fun h => ?_)
  subst h2
  rw [List.take_length] at hT
  exact hc ((hT.2 h0).trans h.2.1.2.2)
theorem not_last {c : Cm} {T : Cm × Int × Int} (hT : Ag T (runS 0 false none c0M (spL c))) (h0 : T.2.1 ≠ 1) : prL c = [] := by
  refine prL_not c (fun h => h0 ?_)
  rw [hT.1]; exact h.2.1.2.1
theorem not_27 {c : Cm} (h : (27 : Int) ∈ spL c) : prL c = [] := prL_not c (fun k => k.2.2 h)
theorem Fnd.dcd {c : Cm} (h : Fnd c ((spL c).length + 1)) {T : Cm × Int × Int} (hT : Ag T (runS 0 false none c0M (spL c))) (h0 : T.2.1 = 1) : dcd c (spL c) := by
  have h1 : (runS 0 false none c0M (spL c)).2.1 = 1 := by rw [← hT.1]; exact h0
  exact ⟨fun i hi1 hi2 => h.1 i hi1 (by omega) hi2, h1, h.2 (by omega) h1⟩
theorem cm_not2 {C c : Cm} (h : cmEq C c = false) : ¬ (C.op = c.op ∧ C.vb = c.vb ∧ C.ct = c.ct ∧ C.rg = c.rg ∧ C.ch = c.ch) := by
  rintro ⟨h1, h2, h3, h4, h5⟩
  unfold cmEq at h
  rw [h1, h2, h3, h4, h5] at h
  simp at h
theorem rg_what {T : Cm × Int × Int} {l : List Int} (hT : Ag T (runS 0 false none c0M l)) : T.2.1 = 0 ∨ T.2.1 = 1 ∨ T.2.1 = 2 := by
  rw [hT.1]; exact runS_what 0 false l _ _
theorem spL_len (c : Cm) (h : 0 ≤ c.ct ∧ c.ct ≤ 9999) : (spL c).length ≤ 30 := by
  have h1 := regL_len c
  have h2 := cntL_len c (by omega) (by omega)
  have h3 := opL_len c
  have h4 := vbL_len c
  have h5 := chL_len c
  unfold spL; simp only [List.length_append]; omega

theorem rg_field (a : Option Addr) (n k : Nat) (at_ : Int) (c : Cm) (wh er : Int) (W : World) : (Instr.field 39 (rgV a n k at_ c wh er) 3).run Tryd.prog W = .ok (.int .i64 wh) W := by kernel_rfl
theorem Fnd.first (c : Cm) : Fnd c 1 := ⟨fun t h1 h2 => by omega, fun h => absurd (List.length_pos_iff.2 (spL_ne c)) (by omega)⟩
end Go.Proofs.YtjmpokgdgnjojaaDoor
