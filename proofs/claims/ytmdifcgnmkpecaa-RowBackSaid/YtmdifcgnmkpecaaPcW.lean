/-
  What Keep tells, and the contract of piece's Tidy, at this seat's numbers.
-/
import Derived.Test.YtmdifcgnmkpecaaPcV
namespace Go.Proofs.Ytmdifcgnmkpecaa
open Go Go.RowKit
set_option linter.unusedVariables false

theorem keepR_err (l f : List UInt8) (h : (keepR l f).2.2 ≠ 0) : (keepR l f).2.2 = 6 ∧ keepL l f = l ∧ (16384 : Int) - l.length < f.length := by
  unfold keepR keepL at *
  split at h
  · rename_i hc
    rw [if_pos hc, if_pos hc]
    unfold addR addL at *
    split at h
    · rename_i h1
      rw [if_pos h1, if_pos h1]
      exact ⟨rfl, rfl, h1⟩
    · split at h <;> simp at h
  · simp at h
theorem keepR_ok (l f : List UInt8) (hl : l.length ≤ 16384) (h : (keepR l f).2.2 = 0) :
    ∃ i : Nat, (keepR l f).1 = (i : Int) ∧ (keepR l f).2.1 = (f.length : Int) ∧ i + f.length ≤ (keepL l f).length ∧ (keepL l f).length ≤ 16384 ∧ ((keepL l f).drop i).take f.length = f := by
  unfold keepR keepL at *
  by_cases hc : f.length = 0 ∨ Lib.index l f < 0
  · rw [if_pos hc] at h ⊢
    rw [if_pos hc]
    unfold addR addL at *
    by_cases h1 : (16384 : Int) - l.length < f.length
    · rw [if_pos h1] at h; simp at h
    · rw [if_neg h1]
      rw [if_neg h1]
      by_cases h2 : f.length = 0
      · rw [if_pos h2]
        obtain rfl := List.eq_nil_of_length_eq_zero h2
        exact ⟨0, rfl, by simp, by simp, by simp; omega, by simp⟩
      · rw [if_neg h2]
        exact ⟨l.length, rfl, rfl, by simp, by simp; omega, by simp⟩
  · rw [if_neg hc] at h ⊢
    rw [if_neg hc]
    rcases Lib.index_spec l f with ⟨h1, _⟩ | ⟨i, h1, h2, h3, _⟩
    · omega
    · have hr := Lib.index_room l f (by omega)
      rw [h1] at hr
      refine ⟨i, h1, rfl, by omega, hl, ?_⟩
      unfold Lib.occAt at h3
      have hp := List.isPrefixOf_iff_prefix.1 h3
      exact (List.prefix_iff_eq_take.1 hp).symm

/-- What Tidy tells of a text of many spans. -/
def TidyPost (l f : List UInt8) (B p : Nat) (w : World) (e : Ending) (w' : World) : Prop :=
  Ar w' B p (keepL l f) ∧ Turned B w w' ∧
  (((keepR l f).2.2 ≠ 0 ∧ e = .returned (.tuple #[.agg #[.slice none 0 0], .int .i64 (keepR l f).2.2])) ∨
   ((keepR l f).2.2 = 0 ∧ ∃ a n c, e = .returned (.tuple #[.agg #[.slice a n c], .int .i64 0]) ∧ TxB w.heap.size w' (.slice a n c) (ex [((keepR l f).1, (f.length : Int))])))
theorem sm_kept {i n : Nat} (h : i + n ≤ 16384) : Sm (ex [((i : Int), (n : Int))]) := by
  rw [ex_one, ex1_nat]
  refine ⟨by simp; omega, fun x hx => ?_⟩
  rw [List.mem_map] at hx
  obtain ⟨k, hk, rfl⟩ := hx
  rw [List.mem_range] at hk
  omega
theorem of_one {w : World} {b c : Nat} {fr : Nat × Nat} {ty : TypeId} {i n : Nat} (h : w.heap[b]? = some (.cells #[.int .i64 i, .int .i64 n] ty fr)) (hin : i + n ≤ 16384) :
    Calls Try.prog 24 #[.slice (some ⟨b, 0, none⟩) 1 c] w fun e w' => ∃ a m c', e = .returned (.agg #[.slice a m c']) ∧ TxB w.heap.size w' (.slice a m c') (ex [((i : Int), (n : Int))]) ∧ Below w.heap.size w w' := by
  have hr : Rd w 2 (some ⟨b, 0, none⟩) [((i : Int), (n : Int))].length (spC [((i : Int), (n : Int))]) := ⟨by simp [spC_len], fun _ => ⟨b, 0, rfl, lt_of_heap h, fun j u hj => by rw [Nat.zero_add, cell_at h]; simpa [spC] using hj⟩⟩
  refine (tof_of (c := c) hr (by simp) (by intro s hs; obtain rfl := List.mem_singleton.1 hs; unfold In40; simp only; omega) (sm_kept hin)).mono ?_
  rintro e w' ⟨v', rfl, hx, hb⟩
  have hx2 := hx
  obtain ⟨a, c', rfl, -, -, -, -⟩ := hx2
  exact ⟨a, _, c', rfl, hx, hb⟩

set_option maxRecDepth 100000 in
set_option maxHeartbeats 600000 in
theorem tidy_few {w : World} {v : Value} {t : List Int} (x : Value) (hx : Tx w v t) (hn : (canon t).length ≤ 32) :
    Calls Try.prog 65 #[.agg #[v], x] w fun e w' => e = .returned (.tuple #[.agg #[v], .int .i64 0]) ∧ Below w.heap.size w w' := by
  obtain ⟨a, c, rfl, -, -, -, -⟩ := hx
  generalize (canon t).length = n at *
  have d : decide ((n : Int) ≤ 32) = true := decide_eq_true (by omega)
  have d' : decide (n ≤ 32) = true := decide_eq_true hn
  obtain ⟨w1, hw1⟩ : ∃ w1, w1 = allocs w [Obj.cells #[Value.slice a n c] 48, Obj.cells #[Value.slice none 0 0] 48] := ⟨_, rfl⟩
  have HB1 : Hid (Below w.heap.size w w1) := by rw [hw1]; exact Lib.hid (allocs_below _ w)
  have h0 : w1.heap[w.heap.size]? = some (.cells #[Value.slice a n c] 48 (0, 0)) := by rw [hw1]; exact allocs_at _ w 0 _ rfl
  have h1 : w1.heap[w.heap.size + 1]? = some (.cells #[Value.slice none 0 0] 48 (0, 0)) := by rw [hw1]; exact allocs_at _ w 1 _ rfl
  have k0 : w1.cell? ⟨w.heap.size, 0, none⟩ = some (.slice a n c) := by rw [cell_at h0]; rfl
  have k1 : w1.cell? ⟨w.heap.size + 1, 0, none⟩ = some (.slice none 0 0) := by rw [cell_at h1]; rfl
  have z1 : w1.frozen? ⟨w.heap.size + 1, 0, none⟩ = false := unfrozen h1 0
  clear h0 h1
  go_enter Try.func65, Try.ntmps65
  go_upto_region 1 with fail
  rw [show (w.alloc (Obj.cells #[Value.slice a n c] 48)).alloc (Obj.cells #[Value.slice none 0 0] 48) = w1 from hw1.symm]
  clear hw1
  go_wp2_with fail
  have c5 : (w1.setCell ⟨w.heap.size + 1, 0, none⟩ (.slice a n c)).cell? ⟨w.heap.size + 1, 0, none⟩ = some (.slice a n c) := cell_set_same k1
  refine bodyPost_ret (v := .tuple #[.agg #[.slice a n c], .int .i64 0]) (by simp [results, Try.results65, go_sem, c5]) rfl ⟨rfl, HB1.out.setCell (p := ⟨w.heap.size + 1, 0, none⟩) (by show w.heap.size ≤ w.heap.size + 1; omega) _⟩

set_option maxRecDepth 100000 in
set_option maxHeartbeats 600000 in
theorem tidy_many {w : World} {B p : Nat} {l : List UInt8} {v : Value} {t : List Int} (h : Ar w B p l) (hl : l.length ≤ 16384) (hB : B ≤ w.heap.size) (hB0 : 0 < B) (hm : ML w) (hx : Tx w v t) (hin : InL l t) (hn : 32 < (canon t).length) :
    Calls Try.prog 65 #[.agg #[v], .pointer (some ⟨p, 0, none⟩)] w (TidyPost l (atL l t) B p w) := by
  have HX := Lib.hid hx
  obtain ⟨a, c, rfl, -, hs, -, -⟩ := hx
  have htl := hs.1
  have HA := Lib.hid h
  have HM := Lib.hid hm
  generalize (canon t).length = n at *
  have d : decide ((n : Int) ≤ 32) = false := decide_eq_false (by omega)
  have d' : decide (n ≤ 32) = false := decide_eq_false (by omega)
  obtain ⟨w1, hw1⟩ : ∃ w1, w1 = allocs w [Obj.cells #[Value.slice a n c] 48, Obj.cells #[Value.slice none 0 0] 48] := ⟨_, rfl⟩
  have hz1 : w1.heap.size ≥ w.heap.size + 2 := by rw [hw1, allocs_size]; simp
  have HB1 : Hid (Below w.heap.size w w1) := by rw [hw1]; exact Lib.hid (allocs_below _ w)
  have h0 : w1.heap[w.heap.size]? = some (.cells #[Value.slice a n c] 48 (0, 0)) := by rw [hw1]; exact allocs_at _ w 0 _ rfl
  have h1 : w1.heap[w.heap.size + 1]? = some (.cells #[Value.slice none 0 0] 48 (0, 0)) := by rw [hw1]; exact allocs_at _ w 1 _ rfl
  have k0 : w1.cell? ⟨w.heap.size, 0, none⟩ = some (.slice a n c) := by rw [cell_at h0]; rfl
  have HH1 := Lib.hid h1
  have HFl := Lib.hid (pflat_of (HA.out.below HB1.out) hl (HX.out.below HB1.out) hin)
  have hfl : (atL l t).length ≤ 20000 := by rw [atL_len]; exact htl
  clear h0 h1 h hm hs
  generalize atL l t = f at *
  have HKO := Lib.hid (keepR_ok l f hl)
  have HKC := Lib.hid (fun w' (hA : Ar w' B p l) (hB' : B ≤ w'.heap.size) (af : Option Addr) (cf : Nat) (hr : Rd w' 1 af f.length (bc f)) (hf : f.length ≤ maxLen) (m : Int) (hm : w'.cell? ⟨0, 0, none⟩ = some (.int .i64 m)) (h0 : 0 < w'.heap.size) => keep_of (c := cf) hA hl af hB' hr hf hm h0)
  unfold TidyPost
  unfold ArPost ret3 at HKC
  generalize keepR l f = r at *
  generalize keepL l f = l2 at *
  obtain ⟨r1, r2, r3⟩ := r
  simp only at HKO HKC ⊢
  go_enter Try.func65, Try.ntmps65
  go_upto_region 1 with fail
  rw [show (w.alloc (Obj.cells #[Value.slice a n c] 48)).alloc (Obj.cells #[Value.slice none 0 0] 48) = w1 from hw1.symm]
  clear hw1
  go_wp2_with fail
  refine HFl.out.mono ?_; rintro e w2 ⟨af, cf, rfl, hof, hb2⟩
  have HB2 := Lib.hid (HB1.out.trans (hb2.mono (by omega)))
  have HH2 := Lib.hid ((hb2.block _ (by omega)).trans HH1.out)
  have hz2 := hb2.size
  obtain ⟨m, hmc⟩ := (HM.out.below HB2.out (by omega)).2
  have HK := Lib.hid (HKC.out w2 (HA.out.below HB2.out) (Nat.le_trans hB HB2.out.size) af cf (own_rd hof) (by unfold maxLen; omega) m hmc (by omega))
  clear hof hb2 HFl HH1 k0
  go_wp2_with fail
  refine HK.out.mono ?_; rintro e w3 ⟨rfl, hA3, hT3⟩
  have HA3 := Lib.hid hA3
  have HT3 := Lib.hid ((Turned.of_below HB2.out hB).trans hT3)
  have HH3 := Lib.hid (heap_turned HH2.out hT3 (by decide) (by decide))
  have hz3 := hT3.size
  clear hA3 hT3 HK HKC HH2 hmc
  by_cases he : r3 = 0
  · obtain ⟨i, e1, e2, e3, e4, -⟩ := HKO.out he
    subst he e1 e2
    have al3 := below_al w3 (Obj.cells #[Value.int .i64 i, Value.int .i64 f.length] 39)
    have s0 : (w3.alloc (Obj.cells #[Value.int .i64 i, Value.int .i64 f.length] 39)).cell? ⟨w3.heap.size, 0, none⟩ = some (.int .i64 i) := by rw [cell_at (heap_alloc_new w3 _)]; rfl
    have s1 : (w3.alloc (Obj.cells #[Value.int .i64 i, Value.int .i64 f.length] 39)).cell? ⟨w3.heap.size, 1, none⟩ = some (.int .i64 f.length) := by rw [cell_at (heap_alloc_new w3 _)]; rfl
    have HA4 := Lib.hid (HA3.out.below al3)
    have HT4 := Lib.hid (HT3.out.then_below al3 (by omega))
    have HH4 := Lib.hid ((al3.block _ (by omega)).trans HH3.out)
    have hz4 : (w3.alloc (Obj.cells #[Value.int .i64 i, Value.int .i64 f.length] 39)).heap.size > w3.heap.size := by simp
    clear HA3 HT3 HH3 al3 d d'
    go_upto_region 6 with fail
    generalize w3.alloc (Obj.cells #[Value.int .i64 i, Value.int .i64 f.length] 39) = w4 at *
    have al4 := below_al w4 (Obj.cells #[Value.int .i64 i, Value.int .i64 f.length] 39)
    have HOf := Lib.hid (of_one (c := 1) (heap_alloc_new w4 (Obj.cells #[Value.int .i64 i, Value.int .i64 f.length] 39)) (by omega))
    have hz5 : (w4.alloc (Obj.cells #[Value.int .i64 i, Value.int .i64 f.length] 39)).heap.size > w4.heap.size := by simp
    have HA5 := Lib.hid (HA4.out.below al4)
    have HT5 := Lib.hid (HT4.out.then_below al4 (by omega))
    have HH5 := Lib.hid ((al4.block _ (by omega)).trans HH4.out)
    clear HA4 HT4 HH4 al4
    go_wp2_with fail
    refine HOf.out.mono ?_; rintro e w6 ⟨a6, n6, c6, rfl, hx6, hb6⟩
    have HX6 := Lib.hid hx6
    have h6 := (hb6.block _ (by omega)).trans HH5.out
    have HA6 := Lib.hid (HA5.out.below hb6)
    have HT6 := Lib.hid (HT5.out.then_below hb6 (by omega))
    have k6 : w6.cell? ⟨w.heap.size + 1, 0, none⟩ = some (.slice none 0 0) := by rw [cell_at h6]; rfl
    have z6 : w6.frozen? ⟨w.heap.size + 1, 0, none⟩ = false := unfrozen h6 0
    have H6 := Lib.hid h6
    clear hx6 hb6 h6 HOf HA5 HT5 HH5 s0 s1
    go_wp2_with fail
    have c5 : (w6.setCell ⟨w.heap.size + 1, 0, none⟩ (.slice a6 n6 c6)).cell? ⟨w.heap.size + 1, 0, none⟩ = some (.slice a6 n6 c6) := cell_set_same k6
    refine bodyPost_ret (v := .tuple #[.agg #[.slice a6 n6 c6], .int .i64 0]) (by simp [results, Try.results65, go_sem, c5]) rfl ⟨HA6.out.set H6.out (by decide) (by decide), HT6.out.set_new (by omega) (by omega), ⟨a6, n6, c6, rfl, ?_⟩⟩
    exact (HX6.out.set (by omega)).mono (by omega)
  · have de : (r3 == 0) = false := by simpa using he
    have HE := Lib.hid he
    have HA4 := Lib.hid (HA3.out.below (below_al w3 (Obj.cells #[Value.int .i64 r1, Value.int .i64 r2] 39)))
    have HT4 := Lib.hid (HT3.out.then_below (below_al w3 (Obj.cells #[Value.int .i64 r1, Value.int .i64 r2] 39)) (by omega))
    have h4 := ((below_al w3 (Obj.cells #[Value.int .i64 r1, Value.int .i64 r2] 39)).block _ (by omega)).trans HH3.out
    have H4 := Lib.hid h4
    have k4 : (w3.alloc (Obj.cells #[Value.int .i64 r1, Value.int .i64 r2] 39)).cell? ⟨w.heap.size + 1, 0, none⟩ = some (.slice none 0 0) := by rw [cell_at h4]; rfl
    have z4 : (w3.alloc (Obj.cells #[Value.int .i64 r1, Value.int .i64 r2] 39)).frozen? ⟨w.heap.size + 1, 0, none⟩ = false := unfrozen h4 0
    clear he HA3 HT3 HH3 h4 d d'
    go_wp2_with fail
    generalize w3.alloc (Obj.cells #[Value.int .i64 r1, Value.int .i64 r2] 39) = w4 at *
    have c5 : (w4.setCell ⟨w.heap.size + 1, 0, none⟩ (.slice none 0 0)).cell? ⟨w.heap.size + 1, 0, none⟩ = some (.slice none 0 0) := cell_set_same k4
    refine bodyPost_ret (v := .tuple #[.agg #[.slice none 0 0], .int .i64 r3]) (by simp [results, Try.results65, go_sem, c5]) rfl ⟨HA4.out.set H4.out (by decide) (by decide), HT4.out.set_new (by omega) (by omega), .inl ⟨HE.out, rfl⟩⟩

end Go.Proofs.Ytmdifcgnmkpecaa
