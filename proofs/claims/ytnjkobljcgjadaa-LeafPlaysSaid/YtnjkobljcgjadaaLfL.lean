/-
  step: one call, of a queue and of a rising row, at this seat's numbers.
-/
import Derived.Test.YtnjkobljcgjadaaLfK
import Derived.Deep.RegionWith
import Derived.Deep.RegionHeld
namespace Go.Proofs.Ytnjkobljcgjadaa
open Go Go.RowKit
set_option linter.unusedVariables false

/-- A queue, and the rising row that has its numbers. -/
structure St (B : Nat) (w : World) (q : Nat) (t : Qt) (R l : List Int) (a : Option Addr) (c : Nat) : Prop where
  qi : QIn w q t R
  pm : R.Perm l
  rs : Rise l
  bs : ∀ b, inQ q t b → B ≤ b
  sl : Sl w a c (nums l)
  lt : Lt w a
  ap : Ap q t a
theorem St.below {B q c : Nat} {w w' : World} {t : Qt} {R l : List Int} {a : Option Addr} (h : St B w q t R l a c) (hb : Below w.heap.size w w') : St B w' q t R l a c :=
  ⟨h.qi.below hb, h.pm, h.rs, h.bs, h.sl.below hb, h.lt.mono hb.size, h.ap⟩
/-- A row that was made of the old one. -/
theorem RowR.ap {w w' : World} {q : Nat} {t : Qt} {R : List Int} {a a' : Option Addr} {c' : Nat} {l : List Int} (h : RowR w w' a a' c' l) (hq : QIn w q t R) (ha : Ap q t a) : Ap q t a' := fun d e hi => by
  rcases h.at' d e with ⟨d0, e0, h0⟩ | h0
  · exact ha d0 e0 (by rw [h0]; exact hi)
  · have := hq.lt _ hi; omega
/-- What one call owes. -/
def StepPost (B : Nat) (w : World) (q : Nat) (t : Qt) (n : Nat) (e : Ending) (w' : World) : Prop :=
  ∃ (t' : Qt) (R' l' : List Int) (a' : Option Addr) (c' : Nat), e = .returned (.tuple #[.slice a' l'.length c', .bool true]) ∧ St B w' q t' R' l' a' c' ∧ l'.length ≤ n + 1 ∧ Mq q t t' w w'
set_option maxRecDepth 100000 in
set_option maxHeartbeats 16000000 in
theorem step_put {B : Nat} {w : World} {q c : Nat} {t : Qt} {R l : List Int} {a : Option Addr} (h : St B w q t R l a c) (hB : B ≤ w.heap.size) (hl : l.length < 1000) {x : Int} (wx : Wf x) {k : Int} (hk : k = 0 ∨ k = 1) :
    Calls Try.prog 9 #[pbox q, .slice a l.length c, .agg #[.int .i64 k, .int .i64 x]] w (StepPost B w q t l.length) := by
  have bw := t_al w (.cells #[.int .i64 k, .int .i64 x] 29)
  have hbx := heap_alloc_new w (.cells #[.int .i64 k, .int .i64 x] 29)
  have hbsz : (w.alloc (.cells #[.int .i64 k, .int .i64 x] 29)).heap.size = w.heap.size + 1 := by simp
  obtain ⟨w0, hw0⟩ : ∃ w0, w.alloc (.cells #[.int .i64 k, .int .i64 x] 29) = w0 := ⟨_, rfl⟩
  rw [hw0] at bw hbx hbsz
  have h0 := h.below bw
  have hnb : ¬ inQ q t w.heap.size := fun e => by have := h.qi.lt _ e; omega
  have hbd : w0.drew.heap[w.heap.size]? = w0.heap[w.heap.size]? := rfl
  have c0 : w0.cell? ⟨w.heap.size, 0, none⟩ = some (.int .i64 k) := by rw [cell_at hbx]; rfl
  have c1 : w0.cell? ⟨w.heap.size, 1, none⟩ = some (.int .i64 x) := by rw [cell_at hbx]; rfl
  have hd : Below w0.heap.size w0 w0.drew := (Below.refl _ _).drew
  have H0 := Lib.hid (h0.below hd)
  have HBW : Hid (Mq q t t w w0.drew) := Lib.hid (Mq.of_below (bw.trans (hd.mono (by omega))))
  have HBX : Hid (w0.drew.heap[w.heap.size]? = some (.cells #[.int .i64 k, .int .i64 x] 29 (0, 0))) := Lib.hid (hbd.trans hbx)
  obtain ⟨n, hn⟩ : ∃ n, l.length = n := ⟨_, rfl⟩
  have HN := Lib.hid hn
  have HNB := Lib.hid hnb
  have HSB : Hid (B ≤ w.heap.size) := Lib.hid (by omega)
  rw [hn] at hl ⊢
  obtain ⟨bx, hbxx⟩ : ∃ bx, decide (x ∈ l) = bx := ⟨_, rfl⟩
  have HXX : Hid (decide (x ∈ R) = bx ∧ decide (x ∈ l) = bx) := Lib.hid ⟨by rw [← hbxx]; simp [h.pm.mem_iff], hbxx⟩
  have HP : Hid (Calls Try.prog 6 #[.slice a n c, .int .i64 x] w0.drew fun e w1 => ∃ a1 c1, e = .returned (.slice a1 (putS l x).length c1) ∧ w1.cell? ⟨w.heap.size, 1, none⟩ = some (.int .i64 x) ∧
      Hid (Calls Try.prog 18 #[pbox q, .int .i64 x] w1 fun e w2 => e = .returned (.bool (!bx)) ∧ w2.cell? ⟨w.heap.size, 1, none⟩ = some (.int .i64 x) ∧
        Hid (Calls Try.prog 13 #[.slice a n c, .int .i64 x] w2 fun e w3 => e = .returned (.bool bx) ∧ w2 = w3) ∧
        Hid (∃ t2 R2, St B w2 q t2 R2 (putS l x) a1 c1 ∧ (putS l x).length ≤ n + 1 ∧ Mq q t t2 w w2))) := Lib.hid (by
    have hp := rput_of H0.out.sl H0.out.lt (by omega) x
    rw [HN.out] at hp
    refine hp.mono ?_
    rintro e w1 ⟨a1, cc1, rfl, hr, hb1⟩
    have hx1 := (hb1.block _ (lt_of_heap HBX.out)).trans HBX.out
    have hl1 := lt_of_heap hx1
    have hBd : B ≤ w0.drew.heap.size := Nat.le_trans HSB.out (Nat.le_of_lt (lt_of_heap HBX.out))
    refine ⟨a1, cc1, rfl, by rw [cell_at hx1]; rfl, Lib.hid ?_⟩
    have hq1 := put_of (H0.out.qi.below hb1) (by rw [H0.out.pm.length_eq, HN.out]; omega) wx
    rw [HXX.out.1] at hq1
    refine hq1.mono ?_
    rintro e w2 ⟨rfl, t2, R2, hq2, hp2, hm2⟩
    have hx2 := (hm2.rest _ hl1 HNB.out).trans hx1
    refine ⟨rfl, by rw [cell_at hx2]; rfl, Lib.hid ?_, Lib.hid ⟨t2, R2, ⟨hq2, perm_put H0.out.pm hp2, put_rise H0.out.rs, hm2.base H0.out.bs (Nat.le_trans hBd hb1.size), hr.sl.mq hr.lt (hr.ap H0.out.qi H0.out.ap) hm2, Lt.mono hr.lt hm2.low.size, (hr.ap H0.out.qi H0.out.ap).mq hr.lt hm2⟩, by rw [← HN.out]; exact put_len l x, (HBW.out.trans (Mq.of_below hb1)).trans hm2⟩⟩
    have hs := rhas_of (Sl.mq (H0.out.sl.below hb1) (H0.out.lt.mono hb1.size) H0.out.ap hm2) (by rw [HN.out]; omega) x
    rw [HN.out, HXX.out.2] at hs
    exact hs)
  obtain ⟨pl, hpl⟩ : ∃ pl, (putS l x).length = pl := ⟨_, rfl⟩
  rw [hpl] at HP
  have HPL := Lib.hid hpl
  clear hpl
  have z1 : ((!bx) == (!bx)) = true := by cases bx <;> rfl
  clear h h0 bw hbx hbsz hbd hd hn hnb hbxx
  go_enter Try.func9, Try.ntmps9
  rcases hk with rfl | rfl
  all_goals
    go_wp2_with fail
    go_region_held (fun w' => w'.cell? ⟨w.heap.size, 1, none⟩ = some (.int .i64 x)) (first | assumption | go_keep) ((first
      | (go_at_call 6; refine HP.out.mono ?_; rintro e w1 ⟨a1, cc1, rfl, c11, HQ⟩)
      | (go_at_call 18; refine HQ.out.mono ?_; rintro e w2 ⟨rfl, c12, HS, HF⟩)
      | (go_at_call 13; refine HS.out.mono ?_; rintro e w3 ⟨rfl, rfl⟩)))
    all_goals
      obtain ⟨t2, R2, hst, hln, hbl⟩ := HF.out
      have HFF := Lib.hid (And.intro hst (And.intro hln hbl))
      clear hst hln hbl HF HS HQ
      go_wp2_with fail
      refine bodyPost_ret (v := .tuple #[.slice a1 pl cc1, .bool true]) (by simp [results, Try.results9, go_sem]) rfl ⟨t2, R2, putS l x, a1, cc1, by rw [HPL.out], HFF.out.1, by rw [HPL.out]; exact HFF.out.2.1, HFF.out.2.2⟩

set_option maxRecDepth 100000 in
set_option maxHeartbeats 16000000 in
theorem step_drop {B : Nat} {w : World} {q c : Nat} {t : Qt} {R l : List Int} {a : Option Addr} (h : St B w q t R l a c) (hB : B ≤ w.heap.size) (hl : l.length < 1000) {x : Int} (wx : Wf x) {k : Int} (hk : k = 2 ∨ k = 3) :
    Calls Try.prog 9 #[pbox q, .slice a l.length c, .agg #[.int .i64 k, .int .i64 x]] w (StepPost B w q t l.length) := by
  have bw := t_al w (.cells #[.int .i64 k, .int .i64 x] 29)
  have hbx := heap_alloc_new w (.cells #[.int .i64 k, .int .i64 x] 29)
  have hbsz : (w.alloc (.cells #[.int .i64 k, .int .i64 x] 29)).heap.size = w.heap.size + 1 := by simp
  obtain ⟨w0, hw0⟩ : ∃ w0, w.alloc (.cells #[.int .i64 k, .int .i64 x] 29) = w0 := ⟨_, rfl⟩
  rw [hw0] at bw hbx hbsz
  have h0 := h.below bw
  have hnb : ¬ inQ q t w.heap.size := fun e => by have := h.qi.lt _ e; omega
  have hbd : w0.drew.heap[w.heap.size]? = w0.heap[w.heap.size]? := rfl
  have c0 : w0.cell? ⟨w.heap.size, 0, none⟩ = some (.int .i64 k) := by rw [cell_at hbx]; rfl
  have c1 : w0.cell? ⟨w.heap.size, 1, none⟩ = some (.int .i64 x) := by rw [cell_at hbx]; rfl
  have hd : Below w0.heap.size w0 w0.drew := (Below.refl _ _).drew
  have H0 := Lib.hid (h0.below hd)
  have HBW : Hid (Mq q t t w w0.drew) := Lib.hid (Mq.of_below (bw.trans (hd.mono (by omega))))
  have HBX : Hid (w0.drew.heap[w.heap.size]? = some (.cells #[.int .i64 k, .int .i64 x] 29 (0, 0))) := Lib.hid (hbd.trans hbx)
  obtain ⟨n, hn⟩ : ∃ n, l.length = n := ⟨_, rfl⟩
  have HN := Lib.hid hn
  have HNB := Lib.hid hnb
  have HSB : Hid (B ≤ w.heap.size) := Lib.hid (by omega)
  rw [hn] at hl ⊢
  obtain ⟨bx, hbxx⟩ : ∃ bx, decide (x ∈ l) = bx := ⟨_, rfl⟩
  have HXX : Hid (decide (x ∈ R) = bx ∧ decide (x ∈ l) = bx) := Lib.hid ⟨by rw [← hbxx]; simp [h.pm.mem_iff], hbxx⟩
  have HP : Hid (Calls Try.prog 22 #[.slice a n c, .int .i64 x] w0.drew fun e w1 => ∃ a1 c1, e = .returned (.slice a1 (dropS l x).length c1) ∧ w1.cell? ⟨w.heap.size, 1, none⟩ = some (.int .i64 x) ∧
      Hid (Calls Try.prog 19 #[pbox q, .int .i64 x] w1 fun e w2 => e = .returned (.bool bx) ∧ w2.cell? ⟨w.heap.size, 1, none⟩ = some (.int .i64 x) ∧
        Hid (Calls Try.prog 13 #[.slice a n c, .int .i64 x] w2 fun e w3 => e = .returned (.bool bx) ∧ w2 = w3) ∧
        Hid (∃ t2 R2, St B w2 q t2 R2 (dropS l x) a1 c1 ∧ (dropS l x).length ≤ n + 1 ∧ Mq q t t2 w w2))) := Lib.hid (by
    have hp := rdrop_of H0.out.sl (by omega) x
    rw [HN.out] at hp
    refine hp.mono ?_
    rintro e w1 ⟨a1, cc1, rfl, hr, hb1⟩
    have hx1 := (hb1.block _ (lt_of_heap HBX.out)).trans HBX.out
    have hl1 := lt_of_heap hx1
    have hBd : B ≤ w0.drew.heap.size := Nat.le_trans HSB.out (Nat.le_of_lt (lt_of_heap HBX.out))
    refine ⟨a1, cc1, rfl, by rw [cell_at hx1]; rfl, Lib.hid ?_⟩
    have hq1 : Calls Try.prog 19 #[pbox q, .int .i64 x] w1 fun e w2 => e = .returned (.bool bx) ∧ ∃ t2 R2, QIn w2 q t2 R2 ∧ R2.Perm (dropS l x) ∧ Mq q t t2 w1 w2 := by
      by_cases hx : x ∈ R
      · have e1 : bx = true := by rw [← HXX.out.1]; exact decide_eq_true hx
        rw [e1]
        refine (drop_yes (H0.out.qi.below hb1) (by rw [H0.out.pm.length_eq, HN.out]; omega) hx).mono ?_
        rintro e w2 ⟨rfl, t2, R2, h1, h2, h3⟩
        exact ⟨rfl, t2, R2, h1, drop_perm (rise_nodup H0.out.rs) (h2.trans H0.out.pm), h3⟩
      · have e1 : bx = false := by rw [← HXX.out.1]; exact decide_eq_false hx
        rw [e1]
        refine (drop_not (.inr ⟨q, t, rfl, H0.out.qi.below hb1⟩) wx hx).mono ?_
        rintro e w2 ⟨rfl, h1⟩
        exact ⟨rfl, t, R, (H0.out.qi.below hb1).below h1, by rw [drop_not_mem (fun e => hx (H0.out.pm.mem_iff.2 e))]; exact H0.out.pm, Mq.of_below h1⟩
    refine hq1.mono ?_
    rintro e w2 ⟨rfl, t2, R2, hq2, hp2, hm2⟩
    have hx2 := (hm2.rest _ hl1 HNB.out).trans hx1
    refine ⟨rfl, by rw [cell_at hx2]; rfl, Lib.hid ?_, Lib.hid ⟨t2, R2, ⟨hq2, hp2, drop_rise H0.out.rs, hm2.base H0.out.bs (Nat.le_trans hBd hb1.size), hr.sl.mq hr.lt (hr.ap H0.out.qi H0.out.ap) hm2, Lt.mono hr.lt hm2.low.size, (hr.ap H0.out.qi H0.out.ap).mq hr.lt hm2⟩, by rw [← HN.out]; have := List.length_filter_le (fun y => decide (y ≠ x)) l; unfold dropS; omega, (HBW.out.trans (Mq.of_below hb1)).trans hm2⟩⟩
    have hs := rhas_of (Sl.mq (H0.out.sl.below hb1) (H0.out.lt.mono hb1.size) H0.out.ap hm2) (by rw [HN.out]; omega) x
    rw [HN.out, HXX.out.2] at hs
    exact hs)
  obtain ⟨pl, hpl⟩ : ∃ pl, (dropS l x).length = pl := ⟨_, rfl⟩
  rw [hpl] at HP
  have HPL := Lib.hid hpl
  clear hpl
  have z1 : (bx == bx) = true := by cases bx <;> rfl
  clear h h0 bw hbx hbsz hbd hd hn hnb hbxx
  go_enter Try.func9, Try.ntmps9
  rcases hk with rfl | rfl
  all_goals
    go_wp2_with fail
    go_region_held (fun w' => w'.cell? ⟨w.heap.size, 1, none⟩ = some (.int .i64 x)) (first | assumption | go_keep) ((first
      | (go_at_call 22; refine HP.out.mono ?_; rintro e w1 ⟨a1, cc1, rfl, c11, HQ⟩)
      | (go_at_call 19; refine HQ.out.mono ?_; rintro e w2 ⟨rfl, c12, HS, HF⟩)
      | (go_at_call 13; refine HS.out.mono ?_; rintro e w3 ⟨rfl, rfl⟩)))
    all_goals
      obtain ⟨t2, R2, hst, hln, hbl⟩ := HF.out
      have HFF := Lib.hid (And.intro hst (And.intro hln hbl))
      clear hst hln hbl HF HS HQ
      go_wp2_with fail
      refine bodyPost_ret (v := .tuple #[.slice a1 pl cc1, .bool true]) (by simp [results, Try.results9, go_sem]) rfl ⟨t2, R2, dropS l x, a1, cc1, by rw [HPL.out], HFF.out.1, by rw [HPL.out]; exact HFF.out.2.1, HFF.out.2.2⟩

set_option maxRecDepth 100000 in
set_option maxHeartbeats 16000000 in
theorem step_pop {B : Nat} {w : World} {q c : Nat} {t : Qt} {R l : List Int} {a : Option Addr} (h : St B w q t R l a c) (hB : B ≤ w.heap.size) (hl : l.length < 1000) (x : Int) :
    Calls Try.prog 9 #[pbox q, .slice a l.length c, .agg #[.int .i64 4, .int .i64 x]] w (StepPost B w q t l.length) := by
  have bw := t_al w (.cells #[.int .i64 4, .int .i64 x] 29)
  have hbx := heap_alloc_new w (.cells #[.int .i64 4, .int .i64 x] 29)
  have hbsz : (w.alloc (.cells #[.int .i64 4, .int .i64 x] 29)).heap.size = w.heap.size + 1 := by simp
  obtain ⟨w0, hw0⟩ : ∃ w0, w.alloc (.cells #[.int .i64 4, .int .i64 x] 29) = w0 := ⟨_, rfl⟩
  rw [hw0] at bw hbx hbsz
  have c0 : w0.cell? ⟨w.heap.size, 0, none⟩ = some (.int .i64 4) := by rw [cell_at hbx]; rfl
  have H0 := Lib.hid (h.below bw)
  have HBW : Hid (Mq q t t w w0) := Lib.hid (Mq.of_below bw)
  have HB0 : Hid (B ≤ w0.heap.size) := Lib.hid (by omega)
  clear h bw hbx hbsz
  rcases l with _ | ⟨y, l⟩
  · have hR : R = [] := List.Perm.eq_nil H0.out.pm
    have HP := Lib.hid (pop_none (w := w0) (v := pbox q) (.inr ⟨q, t, rfl, by have := H0.out.qi; rwa [hR] at this⟩))
    clear hR
    go_enter Try.func9, Try.ntmps9
    go_wp2_with fail
    refine HP.out.mono ?_; rintro e w1 ⟨rfl, hb⟩
    have HB := Lib.hid hb
    clear hb HP
    go_wp2_with fail
    refine bodyPost_ret (v := .tuple #[.slice a 0 c, .bool true]) (by simp [results, Try.results9, go_sem]) rfl ⟨t, R, [], a, c, rfl, H0.out.below HB.out, by simp, HBW.out.trans (Mq.of_below HB.out)⟩
  · have hRl : R.length = l.length + 1 := H0.out.pm.length_eq
    have hhead : gN R 0 = y := by rw [head_eq H0.out.pm H0.out.rs H0.out.qi.heap.1]; rfl
    have HP := pop_some H0.out.qi (by simp at hl; omega) (by omega)
    rw [hhead] at HP
    have HP := Lib.hid HP
    obtain ⟨g, o, rfl⟩ := H0.out.sl.numsome (by simp)
    have hcap := H0.out.sl.cap
    have hcapm := H0.out.sl.capm
    rw [nums_len] at hcap
    have HL : Hid ((y :: l).length = l.length + 1) := Lib.hid rfl
    rw [HL.out] at hcap ⊢
    obtain ⟨n, hn⟩ : ∃ n, l.length = n := ⟨_, rfl⟩
    have HN := Lib.hid hn
    rw [hn] at hcap ⊢
    have z0 : (((n + 1 : Nat) : Int) == 0) = false := by rw [beq_eq_false_iff_ne]; omega
    have z1 : (y == y) = true := by simp
    have e1 : (1 : Int) ≤ ((n + 1 : Nat) : Int) := by omega
    have e2 : (0 : Int) < ((n + 1 : Nat) : Int) := by omega
    have e3 : ((n + 1 : Nat) : Int) - 1 = (n : Int) := by omega
    have HF : Hid (∀ w1 t1 R1, QIn w1 q t1 R1 → (y :: R1).Perm R → Mq q t t1 w0 w1 → w1.cell? ⟨g, o, none⟩ = some (.int .i64 y) ∧ ∀ (d : Addr), (0 < n → d = ⟨g, o + 1, none⟩) → (∃ g' o', d = ⟨g', o', none⟩ ∧ g' = g) → ∀ wz, Below w1.heap.size w1 wz → StepPost B w q t (n + 1) (.returned (.tuple #[.slice (some d) n (c - 1), .bool true])) wz) := Lib.hid (by
      intro w1 t1 R1 hq1 hp1 hm1
      have hs1 := H0.out.sl.mq H0.out.lt H0.out.ap hm1
      refine ⟨(hs1.num (k := 0) (x := y) rfl).1, fun d hd hf wz hz => ?_⟩
      obtain ⟨g', o', rfl, rfl⟩ := hf
      have hd1 := hs1.drop (i := 1) (by rw [nums_len]; simp) ⟨g', o', none⟩ (fun h => hd (by rw [nums_len, HL.out, HN.out] at h; omega)) ⟨g', o', rfl⟩
      rw [nums_drop] at hd1
      have hrs := H0.out.rs
      have hlt : g' < w1.heap.size := Nat.lt_of_lt_of_le (H0.out.lt ⟨g', o, none⟩ rfl) hm1.low.size
      have hap : Ap q t1 (some ⟨g', o', none⟩) := fun d e hi => by cases e; exact (H0.out.ap.mq H0.out.lt hm1) ⟨g', o, none⟩ rfl hi
      have hst : St B w1 q t1 R1 l (some ⟨g', o', none⟩) (c - 1) := ⟨hq1, (hp1.trans H0.out.pm).cons_inv, (List.pairwise_cons.1 hrs).2, hm1.base H0.out.bs HB0.out, hd1, fun d e => by cases e; exact hlt, hap⟩
      refine ⟨t1, R1, l, some ⟨g', o', none⟩, c - 1, by rw [HN.out], hst.below hz, by omega, (HBW.out.trans hm1).trans (Mq.of_below hz)⟩)
    have hc1 : 1 ≤ c := by omega
    clear hRl hhead hn hcapm
    by_cases hcc : c = 1
    · have hn0 : n = 0 := by omega
      subst hcc
      subst hn0
      go_enter Try.func9, Try.ntmps9
      go_wp2_with fail
      refine HP.out.mono ?_; rintro e w1 ⟨rfl, t1, R1, g1, g2, g3⟩
      obtain ⟨cg, hfin⟩ := HF.out w1 t1 R1 g1 g2 g3
      have HFI := Lib.hid (hfin ⟨g, o, none⟩ (by omega) ⟨g, o, rfl, rfl⟩)
      clear g1 g2 g3 hfin HP HF
      go_wp2_with fail
      go_region
      all_goals
        go_wp2_with fail
        exact bodyPost_ret (v := .tuple #[.slice (some ⟨g, o, none⟩) 0 0, .bool true]) (by simp [results, Try.results9, go_sem]) rfl (HFI.out _ (Below.refl _ _).drew)
    · have hc2 : 1 < c := by omega
      go_enter Try.func9, Try.ntmps9
      go_wp2_with fail
      refine HP.out.mono ?_; rintro e w1 ⟨rfl, t1, R1, g1, g2, g3⟩
      obtain ⟨cg, hfin⟩ := HF.out w1 t1 R1 g1 g2 g3
      have HFI := Lib.hid (hfin ⟨g, o + 1, none⟩ (fun _ => rfl) ⟨g, o + 1, rfl, rfl⟩)
      clear g1 g2 g3 hfin HP HF
      go_wp2_with fail
      go_region
      all_goals
        go_wp2_with fail
        exact bodyPost_ret (v := .tuple #[.slice (some ⟨g, o + 1, none⟩) n (c - 1), .bool true]) (by simp [results, Try.results9, go_sem]) rfl (HFI.out _ (Below.refl _ _).drew)

set_option maxRecDepth 100000 in
set_option maxHeartbeats 4000000 in
theorem step_other {B : Nat} {w : World} {q c : Nat} {t : Qt} {R l : List Int} {a : Option Addr} (h : St B w q t R l a c) (hB : B ≤ w.heap.size) (x : Int) {k : Int} (k0 : ¬ k = 0) (k1 : ¬ k = 1) (k2 : ¬ k = 2) (k3 : ¬ k = 3) (k4 : ¬ k = 4) :
    Calls Try.prog 9 #[pbox q, .slice a l.length c, .agg #[.int .i64 k, .int .i64 x]] w (StepPost B w q t l.length) := by
  have bw := t_al w (.cells #[.int .i64 k, .int .i64 x] 29)
  have hbx := heap_alloc_new w (.cells #[.int .i64 k, .int .i64 x] 29)
  obtain ⟨w0, hw0⟩ : ∃ w0, w.alloc (.cells #[.int .i64 k, .int .i64 x] 29) = w0 := ⟨_, rfl⟩
  rw [hw0] at bw hbx
  have c0 : w0.cell? ⟨w.heap.size, 0, none⟩ = some (.int .i64 k) := by rw [cell_at hbx]; rfl
  have H0 := Lib.hid (And.intro (h.below bw) (Mq.of_below (q := q) (t := t) bw))
  have z0 : (k == 0) = false := by rw [beq_eq_false_iff_ne]; exact k0
  have z1 : (k == 1) = false := by rw [beq_eq_false_iff_ne]; exact k1
  have z2 : (k == 2) = false := by rw [beq_eq_false_iff_ne]; exact k2
  have z3 : (k == 3) = false := by rw [beq_eq_false_iff_ne]; exact k3
  have z4 : (k == 4) = false := by rw [beq_eq_false_iff_ne]; exact k4
  clear h bw hbx k0 k1 k2 k3 k4
  obtain ⟨n, hn⟩ : ∃ n, l.length = n := ⟨_, rfl⟩
  have HN := Lib.hid hn
  rw [hn]
  clear hn
  go_enter Try.func9, Try.ntmps9
  go_wp2_with fail
  refine bodyPost_ret (v := .tuple #[.slice a n c, .bool true]) (by simp [results, Try.results9, go_sem]) rfl ⟨t, R, l, a, c, by rw [HN.out], H0.out.1, by have := HN.out; omega, H0.out.2⟩
theorem step_of {B : Nat} {w : World} {q c : Nat} {t : Qt} {R l : List Int} {a : Option Addr} (h : St B w q t R l a c) (hB : B ≤ w.heap.size) (hl : l.length < 1000) {x : Int} (wx : Wf x) (k : Int) :
    Calls Try.prog 9 #[pbox q, .slice a l.length c, .agg #[.int .i64 k, .int .i64 x]] w (StepPost B w q t l.length) := by
  by_cases h01 : k = 0 ∨ k = 1
  · exact step_put h hB hl wx h01
  · by_cases h23 : k = 2 ∨ k = 3
    · exact step_drop h hB hl wx h23
    · by_cases h4 : k = 4
      · rw [h4]; exact step_pop h hB hl x
      · exact step_other h hB x (fun e => h01 (.inl e)) (fun e => h01 (.inr e)) (fun e => h23 (.inl e)) (fun e => h23 (.inr e)) h4
end Go.Proofs.Ytnjkobljcgjadaa
