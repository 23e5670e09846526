/-
  Texts of this seat, put together (a claim holds few texts): FdM.
-/
import Derived.Test.YtkgakgceamafcaaMk39

namespace Go.Proofs.Ytkgakgceamafcaa
open Go Go.RowKit Go.Shelf
set_option linter.unusedVariables false
attribute [local go_sem] Oper.semAt_some

attribute [-go_sem] Builtin.append_
set_option maxRecDepth 100000 in
set_option maxHeartbeats 4000000 in
theorem repl_in (n : Nat) {w : World} {b p o : List UInt8} {ta : Option Addr} {sg so og oo m tc L sc on oc : Nat} (all : Bool) (hb : Rd w 1 (some ⟨sg, so, none⟩) b.length (bc b)) (hp : Rd w 1 ta p.length (bc p)) (ho : Rd w 1 (some ⟨og, oo, none⟩) o.length (bc o)) (hL : b.length = L) (hm : p.length = m) (hon : o.length = on)
    (hml : m ≤ 1000) (hll : L ≤ 1000) (hol : on ≤ 1000) (hLc : L ≤ sc) (hsa : sg < w.heap.size) (hoa : og < w.heap.size) (hta : ∀ d, ta = some d → d.block < w.heap.size) :
    CallsIn Fence.wide n Try.prog 16 #[.slice (some ⟨sg, so, none⟩) L sc, .slice ta m tc, .slice (some ⟨og, oo, none⟩) on oc, .bool all] w fun e w' => ∃ a c, e = .returned (.tuple #[.slice a (repl b o m 0 (chosen all (apart m 0 (allOf p b)))).length c, .int .i64 ((chosen all (apart m 0 (allOf p b))).length : Int)]) ∧
      w'.ownsRow w.heap.size 5 1 (.slice a (repl b o m 0 (chosen all (apart m 0 (allOf p b)))).length c) (repl b o m 0 (chosen all (apart m 0 (allOf p b)))).length (bc (repl b o m 0 (chosen all (apart m 0 (allOf p b))))) ∧ Below w.heap.size w w' := by
  obtain ⟨hb1, hz1', hh⟩ := allocs_w [Obj.cells #[.slice (some ⟨sg, so, none⟩) L sc] 23, Obj.cells #[.slice ta m tc] 23, Obj.cells #[.slice (some ⟨og, oo, none⟩) on oc] 23, Obj.cells #[.bool all] 4, Obj.cells #[.slice none 0 0] 23, Obj.cells #[.int .i64 0] 3, Obj.cells #[.int .i64 0] 3] w
  simp only [List.foldl_cons, List.foldl_nil] at hb1 hz1' hh
  obtain ⟨w1, hw1⟩ : ∃ w1, (((((((w.alloc (Obj.cells #[.slice (some ⟨sg, so, none⟩) L sc] 23)).alloc (Obj.cells #[.slice ta m tc] 23)).alloc (Obj.cells #[.slice (some ⟨og, oo, none⟩) on oc] 23)).alloc (Obj.cells #[.bool all] 4)).alloc (Obj.cells #[.slice none 0 0] 23)).alloc (Obj.cells #[.int .i64 0] 3)).alloc (Obj.cells #[.int .i64 0] 3)) = w1 := ⟨_, rfl⟩
  rw [hw1] at hb1 hz1' hh
  have b0 := (hh 0 (by simp)).trans rfl
  have b1 := (hh 1 (by simp)).trans rfl
  have b2 := (hh 2 (by simp)).trans rfl
  have b3 := (hh 3 (by simp)).trans rfl
  have b4 := (hh 4 (by simp)).trans rfl
  have b5 := (hh 5 (by simp)).trans rfl
  have b6 := (hh 6 (by simp)).trans rfl
  rw [Nat.add_zero] at b0
  simp only [List.length_cons, List.length_nil] at hz1'
  have s5 : w1.cell? ⟨w.heap.size + 1 + 1 + 1 + 1 + 1, 0, none⟩ = some (.int .i64 0) := (cell_at b5 0).trans rfl
  have z5 : w1.frozen? ⟨w.heap.size + 1 + 1 + 1 + 1 + 1, 0, none⟩ = false := unfrozen b5 0
  have s6 : w1.cell? ⟨w.heap.size + 1 + 1 + 1 + 1 + 1 + 1, 0, none⟩ = some (.int .i64 0) := (cell_at b6 0).trans rfl
  have z6 : w1.frozen? ⟨w.heap.size + 1 + 1 + 1 + 1 + 1 + 1, 0, none⟩ = false := unfrozen b6 0
  have T : ∀ w5, w5 = (w1.setCell ⟨w.heap.size + 1 + 1 + 1 + 1 + 1, 0, none⟩ (.int .i64 0)).setCell ⟨w.heap.size + 1 + 1 + 1 + 1 + 1 + 1, 0, none⟩ (.int .i64 0) → Below w.heap.size w w5 ∧ w5.heap.size = w.heap.size + 7 ∧
      w5.heap[w.heap.size]? = some (.cells #[.slice (some ⟨sg, so, none⟩) L sc] 23 (0, 0)) ∧ w5.heap[w.heap.size + 1]? = some (.cells #[.slice ta m tc] 23 (0, 0)) ∧ w5.heap[w.heap.size + 2]? = some (.cells #[.slice (some ⟨og, oo, none⟩) on oc] 23 (0, 0)) ∧ w5.heap[w.heap.size + 3]? = some (.cells #[.bool all] 4 (0, 0)) ∧
      w5.heap[w.heap.size + 4]? = some (.cells #[.slice none 0 0] 23 (0, 0)) ∧ w5.heap[w.heap.size + 5]? = some (.cells #[.int .i64 0] 3 (0, 0)) ∧ w5.heap[w.heap.size + 6]? = some (.cells #[.int .i64 0] 3 (0, 0)) := by
    rintro w5 rfl
    exact ⟨(hb1.setCell (p := ⟨w.heap.size + 5, 0, none⟩) (by show w.heap.size ≤ w.heap.size + 5; omega) _).setCell (p := ⟨w.heap.size + 6, 0, none⟩) (by show w.heap.size ≤ w.heap.size + 6; omega) _, by rw [World.size_setCell, World.size_setCell]; exact hz1', (heap_set_other (by omega)).trans ((heap_set_other (by omega)).trans b0), (heap_set_other (by omega)).trans ((heap_set_other (by omega)).trans b1), (heap_set_other (by omega)).trans ((heap_set_other (by omega)).trans b2), (heap_set_other (by omega)).trans ((heap_set_other (by omega)).trans b3), (heap_set_other (by omega)).trans ((heap_set_other (by omega)).trans b4), (heap_set_other (by omega)).trans ((heap_set_at (o := 0) b5).trans rfl), (heap_set_at (o := 0) ((heap_set_other (by omega)).trans b6)).trans rfl⟩
  have HT0 := Lib.hid T
  have HBd := Lib.hid (And.intro hb (And.intro hp (And.intro ho (And.intro hL (And.intro hm hon)))))
  have HLc := Lib.hid hLc
  have HBl := Lib.hid (And.intro hsa hta)
  have HOg := Lib.hid hoa
  have hmix : Try.prog.follows .mixedOrders = true := by kernel_rfl
  obtain ⟨A, hA⟩ : ∃ A, apart m 0 (allOf p b) = A := ⟨_, rfl⟩
  have HA := Lib.hid hA
  rw [hA]
  clear T hb hp ho hL hm hon hLc hsa hta hoa hh b0 b1 b2 b3 b4 b5 b6 hb1 hz1' hA
  refine callsIn_of_wp_marks Try.func16 rfl trivial ?_ rfl
  simp only [Try.ntmps16, List.size_toArray, List.length_cons, List.length_nil, Nat.reduceAdd, Nat.reduceSub, Array.replicate_succ, Array.replicate_zero, List.push_toArray, List.append_toArray, List.nil_append, List.cons_append]
  gi_wp2
  rename_i KK hKK
  clear hw1 s5 z5 s6 z6
  obtain ⟨w5, hw5⟩ : ∃ w5, w5 = (w1.setCell ⟨w.heap.size + 1 + 1 + 1 + 1 + 1, 0, none⟩ (.int .i64 0)).setCell ⟨w.heap.size + 1 + 1 + 1 + 1 + 1 + 1, 0, none⟩ (.int .i64 0) := ⟨_, rfl⟩
  obtain ⟨hb5, hz5, b0, b1, b2, b3, b4, b5, b6⟩ := HT0.out w5 hw5
  rw [← hw5]
  clear hw5 HT0
  have key : ∀ (bs : List Nat) (ba : Option Addr) (bc' : Nat) (w2 w4 : World), bs.length = m → Tab p bs → Rd w4 1 ba m (ib bs) → (∀ d, ba = some d → w5.heap.size ≤ d.block ∧ d.block < w2.heap.size) → Below w5.heap.size w5 w2 → Below w2.heap.size w2 w4 → w4.heap.size = w2.heap.size + 2 → w4.cell? ⟨w2.heap.size, 0, none⟩ = some (.slice ta m tc) → w4.cell? ⟨w2.heap.size, 1, none⟩ = some (.slice ba m bc') → w4.cell? ⟨w2.heap.size + 1, 0, none⟩ = some (.slice (some ⟨sg, so, none⟩) L sc) →
      KK { tmps := #[.slice (some ⟨sg, so, none⟩) L sc, .slice ta m tc, .slice (some ⟨og, oo, none⟩) on oc, .bool all, pbox w.heap.size, pbox (w.heap.size + 1), pbox (w.heap.size + 2), pbox (w.heap.size + 3), .slice none 0 0, .int .i64 0, pbox (w.heap.size + 4), pbox (w.heap.size + 4 + 1), pbox (w.heap.size + 4 + 2), undef, .slice ta m tc, .agg #[.slice ta m tc, .slice ba m bc'], .slice (some ⟨sg, so, none⟩) L sc, .func (.func 28) #[] #[pbox w2.heap.size, pbox (w2.heap.size + 1)], undef, undef, undef, undef, undef, undef, undef, undef, undef, undef, undef, undef, undef, undef, undef, undef, undef, undef, undef, undef, undef, undef, undef, undef], defers := [] } w4 := by
    intro bs ba bc' w2 w4 hbs hTb hrb hba hb52 hb24 hz4 e0 e1 e2
    have s2 := hb52.size
    have hb54 := hb52.trans (hb24.mono s2)
    have hb4 := hb5.trans (hb54.mono hb5.size)
    have HB4 := Lib.hid hb4
    have hpq : PlQ w2.heap.size (w2.heap.size + 1) p b ta ba (some ⟨sg, so, none⟩) tc m bc' L sc bs w4 := ⟨e0, e1, e2, by omega, by omega, HBd.out.2.1.below hb4, hrb, HBd.out.1.below hb4⟩
    have c0 := (hb54.block _ (lt_of_at b0)).trans b0
    have c1 := (hb54.block _ (lt_of_at b1)).trans b1
    have c2 := (hb54.block _ (lt_of_at b2)).trans b2
    have c3 := (hb54.block _ (lt_of_at b3)).trans b3
    have c4 := (hb54.block _ (lt_of_at b4)).trans b4
    have c5 := (hb54.block _ (lt_of_at b5)).trans b5
    have c6 := (hb54.block _ (lt_of_at b6)).trans b6
    obtain ⟨z, hz⟩ : ∃ z, w2.heap.size = z := ⟨_, rfl⟩
    rw [hz] at hz4 e0 e1 e2 s2 hpq hba ⊢
    refine hKK _ _ ?_
    clear hKK b0 b1 b2 b3 b4 b5 b6 hb54 hb52 hb24
    gi_wp2
    rename_i KT hKT
    have tail : ∀ (d : Nat) (ys : List Nat) (E : Bls) (W3 : World) (a : Option Addr) (c K : Nat), w.heap.size ≤ d → E d → ReS w4 (w.heap.size + 4) (rp b o m 0 ys) (ys.length : Int) (endOf m 0 ys : Int) a c K E W3 → ys <+: A → chosen all A = ys → W3.heap[d]? = some (.deferred (some [])) →
        KT { tmps := #[.slice (some ⟨sg, so, none⟩) L sc, .slice ta m tc, .slice (some ⟨og, oo, none⟩) on oc, .bool all, pbox w.heap.size, pbox (w.heap.size + 1), pbox (w.heap.size + 2), pbox (w.heap.size + 3), .slice none 0 0, .int .i64 0, pbox (w.heap.size + 4), pbox (w.heap.size + 4 + 1), pbox (w.heap.size + 4 + 2), undef, .slice ta m tc, .agg #[.slice ta m tc, .slice ba m bc'], .slice (some ⟨sg, so, none⟩) L sc, .func (.func 28) #[] #[pbox z, pbox (z + 1)], undef, undef, undef, undef, undef, undef, undef, undef, undef, undef, undef, undef, undef, undef, undef, undef, undef, undef, undef, undef, undef, undef, undef, undef], defers := [{ target := .collected d, args := #[] }] } W3 := by
      intro d ys E W3 a c K hd hEd hS hpre hch hK
      obtain ⟨F, hF⟩ : ∃ F, endOf m 0 ys = F := ⟨_, rfl⟩
      have hFl := apart_end (p := p) (b := b) HBd.out.2.2.2.2.1 (s := ys) (by rw [HA.out]; exact hpre)
      rw [hF] at hFl hS
      have hLb := HBd.out.2.2.2.1
      have hyl : ys.length ≤ L := by
        have h1 := hpre.length_le
        have h2 : A.length ≤ L := by rw [← HA.out, ← hLb]; exact Nat.le_trans (apart_len m _ 0) (all_len p b)
        omega
      have hKl := rp_len (b := b) (m := m) (n := on) (o := o) (by rw [HBd.out.2.2.2.2.2]; exact Nat.le_refl _) ys 0
      have hKK2 : K ≤ 1000 * 2000 := by
        rw [← hS.len]
        exact Nat.le_trans hKl (Nat.mul_le_mul (by omega) (by omega))
      have hs := hS.mv.size
      have oth (k : Nat) (hk : k < w4.heap.size) (h1 : k < w.heap.size + 4) : W3.heap[k]? = w4.heap[k]? := hS.mv.block k hk (by omega)
      have q0 : W3.cell? ⟨w.heap.size, 0, none⟩ = some (.slice (some ⟨sg, so, none⟩) L sc) := (cell_at ((oth _ (by omega) (by omega)).trans c0) 0).trans rfl
      have q4 : W3.cell? ⟨w.heap.size + 4, 0, none⟩ = some (.slice a K c) := (cell_at hS.h0 0).trans rfl
      have q5 : W3.cell? ⟨w.heap.size + 4 + 1, 0, none⟩ = some (.int .i64 (ys.length : Int)) := (cell_at hS.h1 0).trans rfl
      have q6 : W3.cell? ⟨w.heap.size + 4 + 2, 0, none⟩ = some (.int .i64 (F : Int)) := (cell_at hS.h2 0).trans rfl
      have hbV : Rd W3 1 (some ⟨sg, so, none⟩) b.length (bc b) := rd_moves (HBd.out.1.below hb4) hS.mv (fun d hd => by cases hd; show ¬ (sg = _ ∨ sg = _ ∨ sg = _); have := HBl.out.1; omega)
      obtain ⟨ad, had, hcs⟩ : ∃ ad, ad = (if sc = F then so else so + F) ∧ ∀ j u, (bc (b.drop F))[j]? = some u → W3.cell? (Addr.add ⟨sg, ad, none⟩ j) = some u := by
        refine ⟨_, rfl, fun j u hu => ?_⟩
        have hlt : j < b.length - F := by have := (List.getElem?_eq_some_iff.1 hu).1; rwa [bc_len, List.length_drop] at this
        rw [if_neg (by have := HLc.out; omega)]
        exact sub_cells hbV F b.length j u (by rw [List.take_of_length_le (by rw [List.length_drop]; omega)]; exact hu)
      obtain ⟨a1, c1', W1, hr1, ho1, hg1, hat1⟩ := app_run (g := sg) (o := ad) (m' := L - F) (cc := sc - F) (s := b.drop F) hS.drew (by omega) (by rw [List.length_drop, hLb]) (fun j u hu => hcs j u hu) (by omega)
      have hrl : repl b o m 0 ys = rp b o m 0 ys ++ b.drop F := by rw [rp_repl, hF]
      have hkl : (repl b o m 0 ys).length = K + (L - F) := by rw [hrl, List.length_append, hS.len, List.length_drop, hLb]
      have hbW3 : Below w.heap.size w W3 := ⟨hS.mv.os.trans hb4.os, hS.mv.tape.trans hb4.tape, hS.mv.output.trans hb4.output, Nat.le_trans hb4.size hs, fun k hk => (hS.mv.block k (by omega) (by omega)).trans (hb4.block k hk)⟩
      have hwW3 := hbW3.size
      have hge1 : ∀ k, (Value.slice a K c).ownBlock = some k → w.heap.size ≤ k := fun k e => by have := (own_blt hS.own e).1; omega
      have hdW1 : W1.heap[d]? = some (.deferred (some [])) := (hg1.block d (lt_of_at hK) (fun e => (hS.ge d hEd).2 e.symm)).trans hK
      have hw41 : w.heap.size ≤ w4.heap.size := hb4.size
      have hdn : (Value.slice a1 (K + (L - F)) c1').ownBlock ≠ some d := fun e => by
        rcases hat1 with h | h
        · exact (hS.ge d hEd).2 (by rw [← h]; exact e)
        · rw [h] at e; injection e with e; have hdl := lt_of_at hK; exact absurd e (by show ¬ (W3.heap.size = d); omega)
      have hfb : Below w.heap.size w (W1.putObj d (.deferred none)) :=
        (hbW3.drew.grown hg1 hwW3 hge1).grown (grownBy_putObj' W1 d _) (Nat.le_trans hwW3 hg1.size) (fun k e => by cases e; omega)
      have hfo : (W1.putObj d (.deferred none)).ownsRow w.heap.size 5 1 (.slice a1 (K + (L - F)) c1') (K + (L - F)) (bc (repl b o m 0 ys)) := by
        rw [hrl]
        exact own_mono9 (own_moves ho1 (fun g hg => World.putObj_heap_other (fun e => hdn (by rw [hg, e])))) hw41
      have n1 := own_ne hS.own hS.h1 (by decide)
      have q5b : W1.cell? ⟨w.heap.size + 4 + 1, 0, none⟩ = some (.int .i64 (ys.length : Int)) := (cell_at ((hg1.block _ (lt_of_at hS.h1) (fun e => n1 e.symm)).trans hS.h1) 0).trans rfl
      have HFin := Lib.hid (And.intro hdW1 (And.intro hfb (And.intro hfo (And.intro hkl hch))))
      have i0 : (0 : Int) ≤ (F : Int) := by omega
      have i1 : (F : Int) ≤ (L : Int) := by omega
      have i2 : (L : Int) ≤ (sc : Int) := by have := HLc.out; omega
      clear n1 hch hS hpre hFl hLb hyl hKl hKK2 hs oth hbV hcs ho1 hg1 hat1 hrl hkl hbW3 hwW3 hge1 hdW1 hw41 hdn hfb hfo hK hb4 c0 c1 c2 c3 c4 c5 c6 hpq e0 e1 e2 hz4 hz hTb hbs hrb hF
      have HAD := Lib.hid had
      clear had
      refine hKT _ _ ?_
      clear hKT
      gi_wp2
      rename_i KK9 hKK9
      have key9 : KK9 { tmps := #[.slice (some ⟨sg, so, none⟩) L sc, .slice ta m tc, .slice (some ⟨og, oo, none⟩) on oc, .bool all, pbox w.heap.size, pbox (w.heap.size + 1), pbox (w.heap.size + 2), pbox (w.heap.size + 3), .slice a1 (K + (L - F)) c1', .int .i64 (ys.length : Int), pbox (w.heap.size + 4), pbox (w.heap.size + 4 + 1), pbox (w.heap.size + 4 + 2), undef, .slice ta m tc, .agg #[.slice ta m tc, .slice ba m bc'], .slice (some ⟨sg, so, none⟩) L sc, .func (.func 28) #[] #[pbox z, pbox (z + 1)], undef, undef, undef, undef, undef, undef, undef, undef, undef, undef, undef, undef, undef, undef, undef, undef, undef, undef, .slice a K c, .slice (some ⟨sg, so, none⟩) L sc, .int .i64 (F : Int), .slice (some ⟨sg, ad, none⟩) (L - F) (sc - F), .slice a1 (K + (L - F)) c1', .int .i64 (ys.length : Int)], defers := [{ target := .collected d, args := #[] }] } W1 := by
        refine hKK9 _ _ ?_
        clear hKK9 hr1 q0 q4 q5 q6 q5b
        gi_wp2
        refine ⟨by simp, .inl ⟨_, _, rfl, run_takeDeferred HFin.out.1, ?_⟩⟩
        rw [HFin.out.2.2.2.2]
        exact ⟨.tuple #[.slice a1 (K + (L - F)) c1', .int .i64 (ys.length : Int)], by simp [results, Try.results16, go_sem], a1, c1', by rw [HFin.out.2.2.2.1], by rw [HFin.out.2.2.2.1]; exact HFin.out.2.2.1, HFin.out.2.1⟩
      clear hKK9
      refine wpIn_mono (Q := Exit.then KK9 (fun _ _ _ => False)) ?_ (fun e a W h => by cases e <;> first | exact h | exact h.elim)
      by_cases hsF : sc = F
      · have had := HAD.out
        rw [if_pos hsF] at had
        clear HAD
        subst hsF
        subst had
        rw [Nat.sub_self] at hr1 key9
        gi_big_region
        all_goals exact key9
      · have had := HAD.out
        rw [if_neg hsF] at had
        clear HAD
        subst had
        gi_big_region
        all_goals exact key9
    clear hKT
    refine range_outerQ (gf := 28) (lb := #[pbox z, pbox (z + 1)]) rfl (fun h => by simp [Fence.wide] at h) rfl trivial (enters_of Try.func28 (by kernel_rfl) rfl)
      (apart_iter (n - 1) 0 z (z + 1) (D0 := fun _ => False) (w := w4) (fun k h => h.elim) hTb HBd.out.2.2.2.2.1 hbs HBd.out.2.2.2.1 (by omega) (by omega)) (Nat.zero_le _) (Below.refl _ _) (fun k h => h.elim) (fun _ => rfl)
      (fun s E W => (∃ a c K, ReS w4 (w.heap.size + 4) (rp b o m 0 s) (s.length : Int) (endOf m 0 s : Int) a c K E W) ∧ s <+: A ∧ (all = false → s = []))
      (fun c s E W => c = .exit 0 ∧ (∃ a c K, ReS w4 (w.heap.size + 4) (rp b o m 0 s) (s.length : Int) (endOf m 0 s : Int) a c K E W) ∧ s <+: A ∧ all = false ∧ s.length = 1)
      (by
        rintro s D D' W W' ⟨⟨a, c, K, h1⟩, h2⟩ hm hd
        exact ⟨⟨a, c, K, h1.go (by omega) hm hd⟩, h2⟩) (fun c => by
        rintro s D D' W W' ⟨h0, ⟨a, c, K, h1⟩, h2⟩ hm hd
        exact ⟨h0, ⟨a, c, K, h1.go (by omega) hm hd⟩, h2⟩) (fun s E V ⟨⟨_, _, _, m2⟩, _⟩ => hpq.moves m2.mv (by omega) (by omega) (fun d hd => by have := HBl.out.2 d hd; omega) (fun d hd => by have := hba d hd; omega) (fun d hd => by cases hd; show ¬ (sg = _ ∨ sg = _ ∨ sg = _); have := HBl.out.1; omega))
      ⟨⟨none, 0, 0, fun k h => h.elim, Moves.refl _ _, c4, c5, c6, ⟨rfl, .inl ⟨rfl, rfl⟩⟩, rfl⟩, List.nil_prefix, fun _ => rfl⟩
      (fun x a' E W' => a' = { tmps := #[.slice (some ⟨sg, so, none⟩) L sc, .slice ta m tc, .slice (some ⟨og, oo, none⟩) on oc, .bool all, pbox w.heap.size, pbox (w.heap.size + 1), pbox (w.heap.size + 2), pbox (w.heap.size + 3), .slice none 0 0, .int .i64 0, pbox (w.heap.size + 4), pbox (w.heap.size + 4 + 1), pbox (w.heap.size + 4 + 2), .int .i64 (x : Int), .slice ta m tc, .agg #[.slice ta m tc, .slice ba m bc'], .slice (some ⟨sg, so, none⟩) L sc, .func (.func 28) #[] #[pbox z, pbox (z + 1)], .int .i64 (x : Int), undef, undef, undef, undef, undef, undef, undef, undef, undef, undef, undef, undef, undef, undef, undef, undef, undef, undef, undef, undef, undef, undef, undef], defers := [] })
      (fun x a' E V l r o h _ => h) ?assign ?body ?done ?stop
    case assign =>
      intro l' pre x E V K hl' hi hE hK
      clear hz4 hz
      simp only [encN]
      gi_wp2
      exact hK _ E _ (fun k h => h) hE (Same.refl _ _) (Below.refl _ _) hi rfl
    case body =>
      rintro lo pre x a' E V hEl ⟨r, hr⟩ hE ⟨⟨a, c, K, hS⟩, hpre, hall⟩ rfl hN
      have hA := HA.out
      rw [hA] at hN
      have hs := hS.mv.size
      obtain ⟨F, hF⟩ : ∃ F, endOf m 0 pre = F := ⟨_, rfl⟩
      have hnx := apart_next HBd.out.2.2.2.2.1 (by rw [hA]; exact hpre) (by rw [hA]; exact hN)
      have hKl := rp_len (b := b) (m := m) (n := on) (o := o) (by rw [HBd.out.2.2.2.2.2]; exact Nat.le_refl _) pre 0
      have hpl : pre.length < A.length := (List.getElem?_eq_some_iff.1 hN).1
      have hAl : A.length ≤ L := by rw [← hA, ← HBd.out.2.2.2.1]; exact Nat.le_trans (apart_len m _ 0) (all_len p b)
      rw [hF] at hnx hS
      have hLb := HBd.out.2.2.2.1
      have hKK2 : K ≤ 1000 * 2000 := by
        rw [← hS.len]
        refine Nat.le_trans hKl (Nat.mul_le_mul (by omega) (by omega))
      have hn1 : ((b.drop F).take (x - F)).length = x - F := by rw [List.length_take, List.length_drop]; omega
      have hxm : 0 < m := by
        have h1 := List.mem_of_getElem? hN
        rw [← hA] at h1
        have := all_lt ((apart_pair (m := m) (allOf p b) 0).2.2 x h1)
        have := HBd.out.2.2.2.2.1
        omega
      have hsF : ¬ sc = F := by have := HLc.out; omega
      have oth (W : World) {l nn f a c K} (h : ReS w4 (w.heap.size + 4) l nn f a c K E W) (k : Nat) (hk : k < w4.heap.size) (h1 : k < w.heap.size + 4) : W.heap[k]? = w4.heap[k]? := h.mv.block k hk (by omega)
      have q0 : V.cell? ⟨w.heap.size, 0, none⟩ = some (.slice (some ⟨sg, so, none⟩) L sc) := (cell_at ((oth V hS _ (by omega) (by omega)).trans c0) 0).trans rfl
      have q4 : V.cell? ⟨w.heap.size + 4, 0, none⟩ = some (.slice a K c) := (cell_at hS.h0 0).trans rfl
      have q6 : V.cell? ⟨w.heap.size + 4 + 2, 0, none⟩ = some (.int .i64 (F : Int)) := (cell_at hS.h2 0).trans rfl
      have hbV : Rd V 1 (some ⟨sg, so, none⟩) b.length (bc b) := rd_moves (HBd.out.1.below hb4) hS.mv (fun d hd => by cases hd; show ¬ (sg = _ ∨ sg = _ ∨ sg = _); have := HBl.out.1; omega)
      -- the first append
      obtain ⟨a1, c1', W1, hr1, cq1, zq1, hS1, hm1, hz1⟩ := app_step (g := sg) (o := so + F) (m' := x - F) (cc := sc - F) (s := (b.drop F).take (x - F)) hS.drew (by omega) (fun k hk => hE k hk) hn1 (fun j u hu => sub_cells hbV F (x - F) j u hu) (by omega)
      obtain ⟨V1, hV1⟩ : ∃ V1, W1.setCell ⟨w.heap.size + 4, 0, none⟩ (.slice a1 (K + (x - F)) c1') = V1 := ⟨_, rfl⟩
      rw [hV1] at hS1 hm1 hz1
      have hm1' : Same E V V1 := hm1
      have hz1' : V.heap.size ≤ V1.heap.size := hz1
      have hE1 : Have E V1 := fun k hk => hm1'.lt hE hk
      have hoV : Rd V1 1 (some ⟨og, oo, none⟩) o.length (bc o) := rd_moves (HBd.out.2.2.1.below hb4) hS1.mv (fun d hd => by cases hd; show ¬ (og = _ ∨ og = _ ∨ og = _); have := HOg.out; omega)
      obtain ⟨a2, c2', W2, hr2, cq2, zq2, hS2, hm2, hz2⟩ := app_step (g := og) (o := oo) (m' := on) (cc := oc) (s := o) hS1 (by omega) hE1 HBd.out.2.2.2.2.2 (fun j u hu => all_cells hoV j u hu) (by omega)
      obtain ⟨V2, hV2⟩ : ∃ V2, W2.setCell ⟨w.heap.size + 4, 0, none⟩ (.slice a2 (K + (x - F) + on) c2') = V2 := ⟨_, rfl⟩
      rw [hV2] at hS2 hm2 hz2
      have hN3 := hS2.nums (by omega) ((pre.length : Int) + 1) ((x : Int) + (m : Int))
      obtain ⟨V3, hV3⟩ : ∃ V3, ((V2.setCell ⟨w.heap.size + 4 + 1, 0, none⟩ (.int .i64 ((pre.length : Int) + 1))).setCell ⟨w.heap.size + 4 + 2, 0, none⟩ (.int .i64 ((x : Int) + (m : Int)))).drew = V3 := ⟨_, rfl⟩
      have hS3 := hN3.1.drew
      have hm3 : Same E V2 V3 := by rw [← hV3]; exact hN3.2
      have hz3 : V2.heap.size ≤ V3.heap.size := by rw [← hV3]; show _ ≤ ((_ : World).setCell _ _).heap.size; rw [World.size_setCell, World.size_setCell]; exact Nat.le_refl _
      rw [hV3] at hS3
      have hsam : Same E V V3 := hm1'.trans (hm2.trans hm3)
      have hbel : Below 0 V V3 := ⟨hS3.mv.os.trans hS.mv.os.symm, hS3.mv.tape.trans hS.mv.tape.symm, hS3.mv.output.trans hS.mv.output.symm, by omega, fun k hk => by omega⟩
      have hfin : ∃ a c K, ReS w4 (w.heap.size + 4) (rp b o m 0 (pre ++ [x])) ((pre ++ [x]).length : Int) (endOf m 0 (pre ++ [x]) : Int) a c K E V3 := ⟨a2, c2', K + (x - F) + on, by
        rw [rp_snoc, hF, endOf_snoc, List.length_append, List.length_singleton, show ((pre.length + 1 : Nat) : Int) = (pre.length : Int) + 1 by omega, show ((x + m : Nat) : Int) = (x : Int) + (m : Int) by omega]
        exact hS3⟩
      have hpn := pre_snoc hpre hN
      have k0 : V1.cell? ⟨w.heap.size + 4, 0, none⟩ = some (.slice a1 (K + (x - F)) c1') := (cell_at hS1.h0 0).trans rfl
      have k2 : V1.cell? ⟨w.heap.size + 2, 0, none⟩ = some (.slice (some ⟨og, oo, none⟩) on oc) := (cell_at ((oth V1 hS1 _ (by omega) (by omega)).trans c2) 0).trans rfl
      have j1 : V2.cell? ⟨w.heap.size + 1, 0, none⟩ = some (.slice ta m tc) := (cell_at ((oth V2 hS2 _ (by omega) (by omega)).trans c1) 0).trans rfl
      have j5 : V2.cell? ⟨w.heap.size + 4 + 1, 0, none⟩ = some (.int .i64 (pre.length : Int)) := (cell_at hS2.h1 0).trans rfl
      have j6 : V2.cell? ⟨w.heap.size + 4 + 2, 0, none⟩ = some (.int .i64 (F : Int)) := (cell_at hS2.h2 0).trans rfl
      have jz5 := unfrozen hS2.h1 0
      have jz6 := unfrozen hS2.h2 0
      have l3 : V3.cell? ⟨w.heap.size + 3, 0, none⟩ = some (.bool all) := (cell_at ((oth V3 hS3 _ (by omega) (by omega)).trans c3) 0).trans rfl
      have i0 : (0 : Int) ≤ (F : Int) := by omega
      have i1 : (F : Int) ≤ (x : Int) := by omega
      have i2 : (x : Int) ≤ (sc : Int) := by have := HLc.out; omega
      have hp1 : pre.length ≤ 1000 := by omega
      have hx1 : x ≤ 1000 := by omega
      have hwp1 : IntKind.i64.wrap ((pre.length : Int) + 1) = (pre.length : Int) + 1 := by rw [IntKind.wrap_i64]; omega
      have hwp2 : IntKind.i64.wrap ((x : Int) + (m : Int)) = (x : Int) + (m : Int) := by rw [IntKind.wrap_i64]; omega
      have HW1 := Lib.hid hwp1
      have HW2 := Lib.hid hwp2
      clear hwp1 hwp2
      have HP := Lib.hid (And.intro hsam (And.intro hbel (And.intro hfin (And.intro hpn hall))))
      have HV3 := Lib.hid hV3
      clear hm1 hm1' hm2 hm3 hz1 hz1' hz2 hz3 hS hS1 hS2 hS3 hN3 hsam hbel hfin hpn hall hpre hN hA hnx hKl hpl hAl hLb hKK2 hn1 hxm oth hbV hoV hE1 c0 c1 c2 c3 c4 c5 c6 hz4 hs e0 e1 e2 hpq hrb hTb hbs hz hb4 hV3
      gi_wp2
      refine wpIn_region_tail 5 hmix (by kernel_rfl) (by kernel_rfl) ?_
      simp only [List.take_succ_cons, List.take_zero, List.drop_succ_cons, List.drop_zero]
      repeat still_step
      refine wpStill_nil ?_
      clear hsF i0 i1 i2 q0 q6
      go_wp2_with fail
      refine ⟨rfl, ?_⟩
      clear hr1 cq1 zq1 q4 hV1
      dsimp only [Exit.then]
      rename_i KK5 hKK5
      refine hKK5 _ _ ?_
      clear hKK5
      gi_wp2
      refine regR7 (w.heap.size + 4 + 1) (w.heap.size + 4 + 2) (w.heap.size + 1) m tc x pre.length ta rfl rfl rfl rfl rfl j5 jz5 (F : Int) j6 jz6 j1 (by omega) (by omega) (by omega) (by omega) (by omega) (by omega) ?_
      rintro a' w' hd' hs' hfr hw'
      have ha := frame_of hd' hs' hfr [28, 29, 30, 31, 32, 33] (by kernel_rfl)
      simp only [List.foldl_cons, List.foldl_nil] at ha
      have hwV : w' = V3 := hw'.trans HV3.out
      clear hd' hs' hfr hw' hr2 cq2 zq2 k0 k2 hV2 j1 j5 j6 jz5 jz6
      rw [ha, hwV]
      clear ha hwV
      generalize a'.tmps.getD 28 undef = u28
      generalize a'.tmps.getD 29 undef = u29
      generalize a'.tmps.getD 30 undef = u30
      generalize a'.tmps.getD 31 undef = u31
      generalize a'.tmps.getD 32 undef = u32
      generalize a'.tmps.getD 33 undef = u33
      simp only [List.setIfInBounds_toArray, List.set_cons_succ, List.set_cons_zero]
      dsimp only [Exit.then]
      rename_i KK7 hKK7
      refine hKK7 _ _ ?_
      clear hKK7
      cases all with
      | true =>
        gi_wp2
        exact ⟨HP.out.1, HP.out.2.1, HP.out.2.2.1, HP.out.2.2.2.1, fun h => by simp at h⟩
      | false =>
        gi_wp2
        exact ⟨HP.out.1, rfl, HP.out.2.2.1, HP.out.2.2.2.1, by simp [HP.out.2.2.2.2]⟩
    case done =>
      rintro d ys E W3 hd hEd hys ⟨⟨a, c, K, hS⟩, hpre, hall⟩ hK
      have hch : chosen all A = ys := by
        have hyA : ys = A := by rw [← HA.out]; exact hys
        rw [hyA] at hall ⊢
        exact chosen_end hall
      exact tail d ys E W3 a c K (by omega) hEd hS hpre hch hK
    case stop =>
      rintro d c0x ys E W3 hd hEd hSp ⟨rfl, ⟨a, c, K, hS⟩, hpre, hal, hln⟩ hK
      have hT := tail d ys E W3 a c K (by omega) hEd hS hpre (chosen_one hpre hal hln) hK
      clear tail hal
      gi_wp2
      exact hT
  clear hKK
  have c05 : w5.cell? ⟨w.heap.size, 0, none⟩ = some (.slice (some ⟨sg, so, none⟩) L sc) := (cell_at b0 0).trans rfl
  have c15 : w5.cell? ⟨w.heap.size + 1, 0, none⟩ = some (.slice ta m tc) := (cell_at b1 0).trans rfl
  have HSe := Lib.hid (seek_of (w := w5.drew) (tc := tc) ((HBd.out.2.1.below hb5).below (Below.refl _ w5).drew) HBd.out.2.2.2.2.1 (by omega))
  refine wpIn_mono (Q := Exit.then KK (fun _ _ _ => False)) ?_ (fun e a W h => by cases e <;> first | exact h | exact h.elim)
  gi_region_with_o (first
    | (refine ⟨trivial, (fun h => by simp [Fence.wide] at h), ((callsIn_wide (n := n - 1)).2 HSe.out).mono ?_⟩; clear HSe; rintro e w2 ⟨bs, ba, bc', rfl, hbs, hTb, hrb, hba, hb2⟩
       have hb52 := (Below.refl _ w5).drew.trans hb2
       have c02 := (hb52.cell (p := ⟨w.heap.size, 0, none⟩) (show w.heap.size < w5.heap.size by omega)).trans c05)
    | (refine ⟨trivial, (fun h => by simp [Fence.wide] at h), ((callsIn_wide (n := n - 1)).2 (apart_call ta ba (some ⟨sg, so, none⟩) m tc bc' L sc)).mono ?_⟩; rintro e w4 ⟨rfl, hb4, hz4, e0, e1, e2⟩))
  all_goals (exact key _ _ _ _ _ hbs hTb (hrb.below hb4) (fun d hd => hba d hd) hb52 hb4 hz4 e0 e1 e2)

end Go.Proofs.Ytkgakgceamafcaa
