/-
  The keys of a command's parts (spelled), at this seat's numbers.
-/
import Derived.Test.YtjmpokgdgnjojaaDoorGrY
import Derived.Lib.ItoaLen
import Derived.Lib.OthersKept
namespace Go.Proofs.YtjmpokgdgnjojaaDoor
open Go Go.RowKit
set_option linter.unusedVariables false

/-- Go's table of the powers of ten lies as the library's text lays it. -/
def Tens (w : World) : Prop := Lib.TabIs Tryd.prog w "internal/strconv.uint64pow10" .u64 Lib.pow10Tab
def TextPost (n : Int) (w : World) (e : Ending) (w' : World) : Prop := e = .returned (.string ⟨(Lib.itoa n).toArray⟩) ∧ Below w.heap.size w w'
theorem itoa_of (n : Int) (h0 : -9223372036854775808 ≤ n) (h1 : n ≤ 9223372036854775807) (w : World) (ht : Tens w) :
    Calls Tryd.prog 18 #[.int .i64 n] w (TextPost n w) := by
  refine (Tryd.strconv_Itoa n h0 h1 w ht).mono ?_
  rintro e w' ⟨rfl, k, os, rfl⟩
  refine ⟨rfl, ?_⟩
  exact ⟨rfl, rfl, rfl, by simp [Sort.grow], fun i hi => by simp only [Sort.grow]; rw [Array.getElem?_append_left (by exact hi)]; rfl⟩
theorem tens_global : Tryd.prog.globalNamed "internal/strconv.uint64pow10" = some 0 := by kernel_rfl
theorem Tens.at {w : World} (h : Tens w) : 0 < w.heap.size := by
  unfold Tens Lib.TabIs World.var? at h
  rw [tens_global] at h
  simp only [Option.bind_some] at h
  rcases Nat.lt_or_ge 0 w.heap.size with hl | hl
  · exact hl
  · rw [Array.getElem?_eq_none hl] at h
    cases h
theorem Tens.below {w w' : World} (h : Tens w) (hb : Below w.heap.size w w') : Tens w' :=
  var?_below hb tens_global h.at h
theorem dec_ascii : ∀ (n u : Nat), u < n → ∀ b ∈ Lib.decDigits u, b.toNat < 128 := by
  intro n
  induction n with
  | zero => intro u h; omega
  | succ n ih =>
    intro u h b hb
    by_cases h10 : u < 10
    · rw [Lib.decDigits, dif_pos h10] at hb
      rw [List.mem_singleton.1 hb, UInt8.toNat_ofNat']; omega
    · rw [Lib.decDigits, dif_neg h10] at hb
      rcases List.mem_append.1 hb with hb | hb
      · exact ih (u / 10) (by omega) b hb
      · rw [List.mem_singleton.1 hb, UInt8.toNat_ofNat']; omega
theorem itoa_ascii (n : Int) : ∀ b ∈ Lib.itoa n, b.toNat < 128 := by
  unfold Lib.itoa
  split
  · intro b hb
    rcases List.mem_cons.1 hb with rfl | hb
    · decide
    · exact dec_ascii _ _ (Nat.lt_succ_self _) b hb
  · exact fun b hb => dec_ascii _ _ (Nat.lt_succ_self _) b hb

/-- Two numbers behind others. -/
theorem app2 {w : World} {B : Nat} {v : Value} {l : List Int} (ho : w.ownsRow B 3 1 v l.length (nums l)) (hn : l.length ≤ 1000000) (x y : Int) (hB : B ≤ w.heap.size) :
    ∃ a1 k1 W, (Builtin.append_ #[24, 24] 24 #[v, .slice (some ⟨w.heap.size, 0, none⟩) 2 2]).run Tryd.prog (w.alloc (.cells #[.int .i64 x, .int .i64 y] 3)) = .ok (.slice a1 (l.length + 2) k1) W ∧
      W.ownsRow B 3 1 (.slice a1 (l.length + 2) k1) (l ++ [x, y]).length (nums (l ++ [x, y])) ∧ (∀ (k : Nat) (o : Obj), w.heap[k]? = some o → v.ownBlock ≠ some k → W.heap[k]? = some o) ∧ Below B w W := by
  obtain ⟨i0, hi0, hz0, hz1, hz2⟩ := info_parts info_int
  have al := t_al w (.cells #[.int .i64 x, .int .i64 y] 3)
  have hc := heap_alloc_new w (.cells #[.int .i64 x, .int .i64 y] 3)
  have hz : (w.alloc (.cells #[.int .i64 x, .int .i64 y] 3)).heap.size = w.heap.size + 1 := by simp
  obtain ⟨v', W, hr, o1, g1, _, l1⟩ := run_append_own_at (P := Tryd.prog) (w.alloc (.cells #[.int .i64 x, .int .i64 y] 3)) B 24 24 3 i0 (.int .i64 0) 1 8 Tryd.underlying24 hi0 hz0 hz1 hz2 rfl (by decide) v l.length (nums l) (own_below ho al) ⟨w.heap.size, 0, none⟩ 2 2 [.int .i64 x, .int .i64 y] rfl
    (by intro j u hu; rw [Addr.add_lit, Nat.zero_add, cell_at hc]; simpa using hu) (by intro u hu; simp at hu; rcases hu with rfl | rfl <;> rfl) (by unfold maxLen; omega) (by omega) (by omega)
  generalize w.alloc (.cells #[.int .i64 x, .int .i64 y] 3) = w3 at *
  have hf : ∃ a1 k1, v' = .slice a1 (l.length + 2) k1 := by
    rcases o1.2 with ⟨h1, h2'⟩ | ⟨g, cap, cur, h1, _⟩
    · simp at h2'
    · exact ⟨_, _, h1⟩
  obtain ⟨a1, k1, rfl⟩ := hf
  refine ⟨a1, k1, W, hr, ?_, fun k o hk hne => ?_, ?_⟩
  · rw [List.length_append, show nums (l ++ [x, y]) = nums l ++ [.int .i64 x, .int .i64 y] by unfold nums; simp]; exact o1
  · have e1 := al.block k (lt_of_heap hk)
    rw [g1.block k (by have := lt_of_heap hk; omega) (fun e => hne e.symm), e1]; exact hk
  · refine (al.mono hB).grown g1 (by omega) (fun k e => ?_)
    obtain ⟨_, _, _, hge⟩ := own_cells ho e
    exact hge

/-- A row of keys that grows, beside a command's box at b. -/
structure SpI (w0 w : World) (b : Nat) (v : Value) (l : List Int) (o : Obj) : Prop where
  box : w.heap[b]? = some o
  ow : w.ownsRow w0.heap.size 3 1 v l.length (nums l)
  low : Below w0.heap.size w0 w
section
variable {w0 w w' : World} {b : Nat} {v : Value} {l l' : List Int} {o : Obj}
theorem SpI.below (H : SpI w0 w b v l o) (hb : Below w.heap.size w w') : SpI w0 w' b v l o := ⟨(hb.block _ (lt_of_heap H.box)).trans H.box, own_below H.ow hb, H.low.trans (hb.mono H.low.size)⟩
theorem SpI.as (H : SpI w0 w b v l o) (h : l' = l) : SpI w0 w b v l' o := by rw [h]; exact H
theorem SpI.one (H : SpI w0 w b v l o) (hn : l.length ≤ 1000000) {cs : Array Value} {t : TypeId} {fr : Nat × Nat} (ho : o = .cells cs t fr) (ht : 3 ≠ t) (x : Int) (h : l' = l ++ [x]) :
    ∃ a1 n1 k1 W, (Builtin.append_ #[24, 24] 24 #[v, .slice (some ⟨w.heap.size, 0, none⟩) 1 1]).run Tryd.prog (w.alloc (.cells #[.int .i64 x] 3)) = .ok (.slice a1 n1 k1) W ∧ n1 = l'.length ∧ SpI w0 W b (.slice a1 n1 k1) l' o ∧ ∀ (k : Nat) (o : Obj), w.heap[k]? = some o → v.ownBlock ≠ some k → W.heap[k]? = some o := by
  subst ho
  obtain ⟨a1, k1, W, hr, o1, kp, bW, _⟩ := app1 H.ow hn x H.low.size
  exact ⟨a1, _, k1, W, hr, by rw [h]; simp, ⟨kp _ _ H.box (own_ne H.ow H.box ht), by rw [h]; exact o1, H.low.trans bW⟩, kp⟩
theorem SpI.two (H : SpI w0 w b v l o) (hn : l.length ≤ 1000000) {cs : Array Value} {t : TypeId} {fr : Nat × Nat} (ho : o = .cells cs t fr) (ht : 3 ≠ t) (x y : Int) (h : l' = l ++ [x, y]) :
    ∃ a1 n1 k1 W, (Builtin.append_ #[24, 24] 24 #[v, .slice (some ⟨w.heap.size, 0, none⟩) 2 2]).run Tryd.prog (w.alloc (.cells #[.int .i64 x, .int .i64 y] 3)) = .ok (.slice a1 n1 k1) W ∧ n1 = l'.length ∧ SpI w0 W b (.slice a1 n1 k1) l' o ∧ ∀ (k : Nat) (o : Obj), w.heap[k]? = some o → v.ownBlock ≠ some k → W.heap[k]? = some o := by
  subst ho
  obtain ⟨a1, k1, W, hr, o1, kp, bW⟩ := app2 H.ow hn x y H.low.size
  exact ⟨a1, _, k1, W, hr, by rw [h]; simp, ⟨kp _ _ H.box (own_ne H.ow H.box ht), by rw [h]; exact o1, H.low.trans bW⟩, kp⟩
/-- A row of keys that is told. -/
def KPost (l : List Int) (w : World) (e : Ending) (w' : World) : Prop := ∃ a n k, e = .returned (.slice a n k) ∧ n = l.length ∧ Sl w' a k (nums l) ∧ Below w.heap.size w w'
theorem SpI.post {a : Option Addr} {n k : Nat} (H : SpI w0 w b (.slice a n k) l o) (hn : n = l.length) : KPost l w0 (.returned (.slice a n k)) w :=
  ⟨a, n, k, rfl, hn, gm_own_sl (by have := H.ow; rw [← hn] at this; exact this) (gm_nums_one _), H.low⟩
end
theorem regL_len (c : Cm) : (regL c).length ≤ 2 := by unfold regL; split <;> simp
theorem opL_len (c : Cm) : (opL c).length ≤ 1 := by unfold opL; split <;> simp
theorem vbL_len (c : Cm) : (vbL c).length ≤ 2 := by unfold vbL; split <;> simp
theorem chL_len (c : Cm) : (chL c).length ≤ 1 := by unfold chL; split <;> simp
theorem cntL_len (c : Cm) (h0 : -9223372036854775808 ≤ c.ct) (h1 : c.ct ≤ 9223372036854775807) : (cntL c).length ≤ 21 := by
  unfold cntL itB; split
  · simp
  · rw [List.length_map]; exact Lib.itoa_length_le _ h0 h1

attribute [-go_sem] Builtin.append_
set_option maxRecDepth 100000 in
set_option maxHeartbeats 32000000 in
theorem spelled_of (c : Cm) (w : World) (hT : Tens w) (h0 : -9223372036854775808 ≤ c.ct) (h1 : c.ct ≤ 9223372036854775807) (hv : c.vb ≤ 9223372036854775807) : Calls Tryd.prog 11 #[cmV c] w (KPost (spL c) w) := by
  have s0 : SpI w (w.alloc (cmO c)) w.heap.size (.slice none 0 0) [] (cmO c) := ⟨heap_alloc_new w _, t_nil _ _ _ _, t_al w _⟩
  have HT := Lib.hid hT
  have HT0 := Lib.hid (hT.below (t_al w (cmO c)))
  have hz0 : (w.alloc (cmO c)).heap.size = w.heap.size + 1 := by simp
  have hl1 := regL_len c
  have hl2 := cntL_len c h0 h1
  have hl3 := opL_len c
  have hl4 := vbL_len c
  have hl5 := chL_len c
  obtain ⟨d0, d1, d2, d3, d4⟩ := rowCells s0.box
  have HLs : Hid ((regL c).length ≤ 2 ∧ (cntL c).length ≤ 21 ∧ (opL c).length ≤ 1 ∧ (vbL c).length ≤ 2) := ⟨hl1, hl2, hl3, hl4⟩
  have HI := Lib.hid (fun w hw => itoa_of c.ct h0 h1 w hw)
  have HVb := Lib.hid hv
  clear hv hT hl1 hl2 hl3 hl4 hl5 h0 h1
  go_enter Tryd.func11, Tryd.ntmps11
  by_cases hrg : c.rg = 0
  · have z : (c.rg != 0) = false := by rw [hrg]; rfl
    have REGNIL : Hid (0 = (regL c).length) := Lib.hid (by unfold regL; rw [if_pos hrg]; rfl)
    have S0 := Lib.hid (s0.as (l' := regL c) (by unfold regL; rw [if_pos hrg]))
    clear s0 hrg
    by_cases hct : c.ct = 0
    · have z2 : (c.ct != 0) = false := by rw [hct]; rfl
      have S1 := Lib.hid (S0.out.as (l' := regL c ++ cntL c) (by unfold cntL; rw [if_pos hct, List.append_nil]))
      clear hct
      by_cases hop : c.op = 0
      · have z3 : (c.op != 0) = false := by rw [hop]; rfl
        have S2 := Lib.hid (S1.out.as (l' := regL c ++ cntL c ++ opL c) (by unfold opL; rw [if_pos hop, List.append_nil]))
        clear hop
        by_cases hvb : c.vb < 256
        · have z4 : decide (c.vb < 256) = true := decide_eq_true hvb
          obtain ⟨a3, n3, k3, W3, hr3, hn3, s3, kp3⟩ := S2.out.one (l' := regL c ++ cntL c ++ opL c ++ vbL c) (by have := HLs.out; simp only [List.length_append]; omega) rfl (by decide) c.vb (by unfold vbL; rw [if_pos hvb])
          rw [hz0] at hr3
          obtain ⟨e0, e1, e2, e3, e4⟩ := rowCells s3.box
          have S3 := Lib.hid s3
          have N3 := Lib.hid hn3
          clear kp3 s3 hn3 hvb hz0
          by_cases hch : c.ch = 0
          · have z5 : (c.ch != 0) = false := by rw [hch]; rfl
            have SE := Lib.hid (S3.out.as (l' := spL c) (by unfold spL chL; rw [if_pos hch, List.append_nil]))
            have NE : Hid (_ = (spL c).length) := Lib.hid (N3.out.trans (by unfold spL chL; rw [if_pos hch, List.append_nil]))
            clear hch
            go_wp2_with fail
            go_ret
            exact SE.out.post NE.out
          · have z5 : (c.ch != 0) = true := bne_iff_ne.2 hch
            obtain ⟨a4, n4, k4, W4, hr4, hn4, s4, kp4⟩ := S3.out.one (l' := spL c) (by have := HLs.out; simp only [List.length_append]; omega) rfl (by decide) c.ch (by unfold spL chL; rw [if_neg hch])
            have SE := Lib.hid s4
            have NE := Lib.hid hn4
            clear kp4 s4 hn4 hch
            go_wp2_with fail
            go_ret
            exact SE.out.post NE.out
        · have z4 : decide (c.vb < 256) = false := decide_eq_false hvb
          have q1 : (c.vb).tdiv 256 = c.vb / 256 := Int.tdiv_eq_ediv_of_nonneg (by omega)
          have q3 : wrap64 (c.vb / 256) = c.vb / 256 := by have := HVb.out; unfold wrap64; omega
          have q2 : (c.vb).tmod 256 = c.vb % 256 := Int.tmod_eq_emod_of_nonneg (by omega)
          obtain ⟨a5, n5, k5, W5, hr5, hn5, s5, kp5⟩ := S2.out.two (l' := regL c ++ cntL c ++ opL c ++ vbL c) (by have := HLs.out; simp only [List.length_append]; omega) rfl (by decide) (c.vb / 256) (c.vb % 256) (by unfold vbL; rw [if_neg hvb])
          rw [hz0] at hr5
          obtain ⟨e0, e1, e2, e3, e4⟩ := rowCells s5.box
          have S5 := Lib.hid s5
          have N5 := Lib.hid hn5
          clear kp5 s5 hn5 hvb hz0
          by_cases hch : c.ch = 0
          · have z5 : (c.ch != 0) = false := by rw [hch]; rfl
            have SE := Lib.hid (S5.out.as (l' := spL c) (by unfold spL chL; rw [if_pos hch, List.append_nil]))
            have NE : Hid (_ = (spL c).length) := Lib.hid (N5.out.trans (by unfold spL chL; rw [if_pos hch, List.append_nil]))
            clear hch
            go_wp2_with fail
            go_ret
            exact SE.out.post NE.out
          · have z5 : (c.ch != 0) = true := bne_iff_ne.2 hch
            obtain ⟨a6, n6, k6, W6, hr6, hn6, s6, kp6⟩ := S5.out.one (l' := spL c) (by have := HLs.out; simp only [List.length_append]; omega) rfl (by decide) c.ch (by unfold spL chL; rw [if_neg hch])
            have SE := Lib.hid s6
            have NE := Lib.hid hn6
            clear kp6 s6 hn6 hch
            go_wp2_with fail
            go_ret
            exact SE.out.post NE.out
      · have z3 : (c.op != 0) = true := bne_iff_ne.2 hop
        obtain ⟨a7, n7, k7, W7, hr7, hn7, s7, kp7⟩ := S1.out.one (l' := regL c ++ cntL c ++ opL c) (by have := HLs.out; simp only [List.length_append]; omega) rfl (by decide) c.op (by unfold opL; rw [if_neg hop])
        rw [hz0] at hr7
        obtain ⟨e0, e1, e2, e3, e4⟩ := rowCells s7.box
        have S7 := Lib.hid s7
        have N7 := Lib.hid hn7
        clear kp7 s7 hn7 hop hz0
        by_cases hvb : c.vb < 256
        · have z4 : decide (c.vb < 256) = true := decide_eq_true hvb
          obtain ⟨a8, n8, k8, W8, hr8, hn8, s8, kp8⟩ := S7.out.one (l' := regL c ++ cntL c ++ opL c ++ vbL c) (by have := HLs.out; simp only [List.length_append]; omega) rfl (by decide) c.vb (by unfold vbL; rw [if_pos hvb])
          obtain ⟨e0, e1, e2, e3, e4⟩ := rowCells s8.box
          have S8 := Lib.hid s8
          have N8 := Lib.hid hn8
          clear kp8 s8 hn8 hvb
          by_cases hch : c.ch = 0
          · have z5 : (c.ch != 0) = false := by rw [hch]; rfl
            have SE := Lib.hid (S8.out.as (l' := spL c) (by unfold spL chL; rw [if_pos hch, List.append_nil]))
            have NE : Hid (_ = (spL c).length) := Lib.hid (N8.out.trans (by unfold spL chL; rw [if_pos hch, List.append_nil]))
            clear hch
            go_wp2_with fail
            go_ret
            exact SE.out.post NE.out
          · have z5 : (c.ch != 0) = true := bne_iff_ne.2 hch
            obtain ⟨a9, n9, k9, W9, hr9, hn9, s9, kp9⟩ := S8.out.one (l' := spL c) (by have := HLs.out; simp only [List.length_append]; omega) rfl (by decide) c.ch (by unfold spL chL; rw [if_neg hch])
            have SE := Lib.hid s9
            have NE := Lib.hid hn9
            clear kp9 s9 hn9 hch
            go_wp2_with fail
            go_ret
            exact SE.out.post NE.out
        · have z4 : decide (c.vb < 256) = false := decide_eq_false hvb
          have q1 : (c.vb).tdiv 256 = c.vb / 256 := Int.tdiv_eq_ediv_of_nonneg (by omega)
          have q3 : wrap64 (c.vb / 256) = c.vb / 256 := by have := HVb.out; unfold wrap64; omega
          have q2 : (c.vb).tmod 256 = c.vb % 256 := Int.tmod_eq_emod_of_nonneg (by omega)
          obtain ⟨a10, n10, k10, W10, hr10, hn10, s10, kp10⟩ := S7.out.two (l' := regL c ++ cntL c ++ opL c ++ vbL c) (by have := HLs.out; simp only [List.length_append]; omega) rfl (by decide) (c.vb / 256) (c.vb % 256) (by unfold vbL; rw [if_neg hvb])
          obtain ⟨e0, e1, e2, e3, e4⟩ := rowCells s10.box
          have S10 := Lib.hid s10
          have N10 := Lib.hid hn10
          clear kp10 s10 hn10 hvb
          by_cases hch : c.ch = 0
          · have z5 : (c.ch != 0) = false := by rw [hch]; rfl
            have SE := Lib.hid (S10.out.as (l' := spL c) (by unfold spL chL; rw [if_pos hch, List.append_nil]))
            have NE : Hid (_ = (spL c).length) := Lib.hid (N10.out.trans (by unfold spL chL; rw [if_pos hch, List.append_nil]))
            clear hch
            go_wp2_with fail
            go_ret
            exact SE.out.post NE.out
          · have z5 : (c.ch != 0) = true := bne_iff_ne.2 hch
            obtain ⟨a11, n11, k11, W11, hr11, hn11, s11, kp11⟩ := S10.out.one (l' := spL c) (by have := HLs.out; simp only [List.length_append]; omega) rfl (by decide) c.ch (by unfold spL chL; rw [if_neg hch])
            have SE := Lib.hid s11
            have NE := Lib.hid hn11
            clear kp11 s11 hn11 hch
            go_wp2_with fail
            go_ret
            exact SE.out.post NE.out
    · have z2 : (c.ct != 0) = true := bne_iff_ne.2 hct
      go_wp2_with fail
      refine (HI.out _ HT0.out).mono ?_; rintro e w2 ⟨rfl, b2⟩
      have s2 := S0.out.below b2
      have hit : Hid ((w2.iter ⟨(Lib.itoa c.ct).toArray⟩ 0).heap[w2.heap.size]? = some (.stringIter ⟨(Lib.itoa c.ct).toArray⟩ 0)) := Lib.hid (World.iter_heap w2 _ 0)
      have s3 : SpI w (w2.iter ⟨(Lib.itoa c.ct).toArray⟩ 0) w.heap.size _ (regL c) (cmO c) := s2.below (t_al w2 _)
      have HQ : Hid (w.heap.size ≤ w2.heap.size) := Lib.hid s2.low.size
      have HTx : Hid (((⟨(Lib.itoa c.ct).toArray⟩ : ByteArray).data.toList = Lib.itoa c.ct) ∧ (⟨(Lib.itoa c.ct).toArray⟩ : ByteArray).size = (Lib.itoa c.ct).length) := Lib.hid ⟨by simp, by simp [ByteArray.size]⟩
      have HCt : Hid (cntL c = itB c.ct) := Lib.hid (by unfold cntL; rw [if_neg hct])
      have HLn : Hid ((Lib.itoa c.ct).length ≤ 21) := Lib.hid (by have := HLs.out.2.1; rw [HCt.out] at this; unfold itB at this; rwa [List.length_map] at this)
      have S3 := Lib.hid s3
      generalize hsx : (⟨(Lib.itoa c.ct).toArray⟩ : ByteArray) = sx at *
      clear s2 s3 b2 hct hsx d0 d1 d2 d3 d4
      obtain ⟨q, hq⟩ : ∃ q, w2.heap.size = q := ⟨_, rfl⟩
      rw [hq] at hit HQ
      have HQ2 := Lib.hid hq
      go_wp2_with fail
      try rw [hq]
      clear hq
      go_loopw [3] (fun v3 wr => ∃ (i : Nat) (a : Option Addr) (n k : Nat), v3 = .slice a n k ∧ i ≤ sx.size ∧ wr.heap[q]? = some (.stringIter sx i) ∧ n = (regL c ++ (itB c.ct).take i).length ∧ SpI w wr w.heap.size (.slice a n k) (regL c ++ (itB c.ct).take i) (cmO c)) (fun _ wr => sx.size - wr.iterPos q)
      case atStart => exact ⟨0, _, _, _, rfl, Nat.zero_le _, hit.out, by rw [List.take_zero, List.append_nil]; exact REGNIL.out, S3.out.as (by rw [List.take_zero, List.append_nil])⟩
      case round =>
        obtain ⟨i, a, n, k, rfl, hi, hitr, hn, hs⟩ := hrel
        have HS := Lib.hid hs
        have HNn := Lib.hid hn
        by_cases hlt : i < sx.size
        · have hl : i < (Lib.itoa c.ct).length := by rw [← HTx.out.2]; exact hlt
          obtain ⟨b, hbb⟩ : ∃ b, (Lib.itoa c.ct)[i]? = some b := ⟨_, List.getElem?_eq_getElem hl⟩
          have hb128 : b.toNat < 128 := itoa_ascii c.ct b (List.mem_of_getElem? hbb)
          have hge : sx[i]'hlt = b := by
            have e : sx.data.toList[i]? = some (sx[i]'hlt) := List.getElem?_eq_getElem (show i < sx.data.toList.length by simpa using hlt)
            rw [HTx.out.1, hbb] at e; exact (Option.some.inj e).symm
          have hdec : Utf8.decode sx i = (b.toNat, 1) := by rw [decode_ascii sx i hlt (by rw [hge]; exact hb128), hge]
          have hnx : ∀ t, (Instr.next (.pointer (some ⟨q, 0, none⟩)) true t).run Tryd.prog wr = .ok (.tuple #[.bool true, .int .i64 i, .int .i32 b.toNat]) (wr.iterAt q sx (i + 1)) := fun t => by
            have := Lib.run_next_any_at (P := Tryd.prog) wr q sx i t hitr hlt
            rw [hdec] at this; exact this
          have hit2 := Lib.iterAt_heap wr q sx i (i + 1) hitr
          have hqb : w.heap.size ≠ q := fun e => by have := HS.out.box; rw [e, hitr] at this; cases this
          have s4 : SpI w (wr.iterAt q sx (i + 1)) w.heap.size (.slice a n k) (regL c ++ (itB c.ct).take i) (cmO c) := ⟨(Lib.iterAt_other wr q w.heap.size sx (i + 1) hqb).trans HS.out.box, own_same HS.out.ow (fun k hk => Lib.iterAt_other wr q k sx (i + 1) (fun e => by
            obtain ⟨cs, fr, hk2, _⟩ := own_cells HS.out.ow hk
            rw [e, hitr] at hk2; cases hk2)), Lib.below_iterAt HS.out.low HQ.out sx (i + 1)⟩
          have hM1 : sx.size - (wr.iterAt q sx (i + 1)).iterPos q < sx.size - wr.iterPos q := by
            simp only [World.iterPos, hit2, hitr]; omega
          have htk : regL c ++ (itB c.ct).take (i + 1) = (regL c ++ (itB c.ct).take i) ++ [(b.toNat : Int)] := by
            rw [List.append_assoc, List.take_add_one]
            have : (itB c.ct)[i]? = some (b.toNat : Int) := by unfold itB; rw [List.getElem?_map, hbb]; rfl
            rw [this]; rfl
          have hlen : (regL c ++ (itB c.ct).take i).length ≤ 1000000 := by
            have h1 := HLs.out.1
            have h2 := HLn.out
            rw [List.length_append, List.length_take]; omega
          have hwr : wrap64 (b.toNat : Int) = (b.toNat : Int) := by unfold wrap64; omega
          generalize hw4 : wr.iterAt q sx (i + 1) = w4 at *
          obtain ⟨a5, n5, k5, W5, hr5, hn5, s5, kp5⟩ := s4.one (l' := regL c ++ (itB c.ct).take (i + 1)) hlen rfl (by decide) (b.toNat : Int) htk
          have hit5 : W5.heap[q]? = some (.stringIter sx (i + 1)) := kp5 _ _ hit2 (fun e => by obtain ⟨cs, fr, hk2, _⟩ := own_cells s4.ow e; rw [hit2] at hk2; cases hk2)
          have HM1 : Hid (sx.size - W5.iterPos q < sx.size - wr.iterPos q) := Lib.hid (by simp only [World.iterPos, hit2, hit5] at hM1 ⊢; exact hM1)
          have S5 := Lib.hid s5
          have N5 := Lib.hid hn5
          have H5 := Lib.hid hit5
          clear hitr hit2 s4 s5 hn5 hit5 hM1 hw4 htk hlen hdec hge hbb hl hs hn kp5 hqb hb128
          go_wp2_with fail
          go_roundw
          case rel => exact ⟨i + 1, a5, n5, k5, rfl, by omega, H5.out, N5.out, S5.out⟩
          case measure => exact HM1.out
        · obtain rfl : i = sx.size := by omega
          have hnx : ∀ t, (Instr.next (.pointer (some ⟨q, 0, none⟩)) true t).run Tryd.prog wr = .ok (.tuple #[.bool false]) wr := fun t => Lib.run_next_end_at wr q sx sx.size t hitr (by omega)
          have hall : regL c ++ (itB c.ct).take sx.size = regL c ++ cntL c := by
            rw [HCt.out, HTx.out.2, List.take_of_length_le (by unfold itB; rw [List.length_map]; exact Nat.le_refl _)]
          obtain ⟨d0, d1, d2, d3, d4⟩ := rowCells hs.box
          rw [hall] at HS HNn
          clear hitr hs hn hall
          by_cases hop : c.op = 0
          · have z3 : (c.op != 0) = false := by rw [hop]; rfl
            have S13 := Lib.hid (HS.out.as (l' := regL c ++ cntL c ++ opL c) (by unfold opL; rw [if_pos hop, List.append_nil]))
            clear hop
            by_cases hvb : c.vb < 256
            · have z4 : decide (c.vb < 256) = true := decide_eq_true hvb
              obtain ⟨a14, n14, k14, W14, hr14, hn14, s14, kp14⟩ := S13.out.one (l' := regL c ++ cntL c ++ opL c ++ vbL c) (by have := HLs.out; simp only [List.length_append]; omega) rfl (by decide) c.vb (by unfold vbL; rw [if_pos hvb])
              obtain ⟨e0, e1, e2, e3, e4⟩ := rowCells s14.box
              have S14 := Lib.hid s14
              have N14 := Lib.hid hn14
              clear kp14 s14 hn14 hvb
              by_cases hch : c.ch = 0
              · have z5 : (c.ch != 0) = false := by rw [hch]; rfl
                have SE := Lib.hid (S14.out.as (l' := spL c) (by unfold spL chL; rw [if_pos hch, List.append_nil]))
                have NE : Hid (_ = (spL c).length) := Lib.hid (N14.out.trans (by unfold spL chL; rw [if_pos hch, List.append_nil]))
                clear hch
                go_wp2_with fail
                go_ret
                exact SE.out.post NE.out
              · have z5 : (c.ch != 0) = true := bne_iff_ne.2 hch
                obtain ⟨a15, n15, k15, W15, hr15, hn15, s15, kp15⟩ := S14.out.one (l' := spL c) (by have := HLs.out; simp only [List.length_append]; omega) rfl (by decide) c.ch (by unfold spL chL; rw [if_neg hch])
                have SE := Lib.hid s15
                have NE := Lib.hid hn15
                clear kp15 s15 hn15 hch
                go_wp2_with fail
                go_ret
                exact SE.out.post NE.out
            · have z4 : decide (c.vb < 256) = false := decide_eq_false hvb
              have q1 : (c.vb).tdiv 256 = c.vb / 256 := Int.tdiv_eq_ediv_of_nonneg (by omega)
              have q3 : wrap64 (c.vb / 256) = c.vb / 256 := by have := HVb.out; unfold wrap64; omega
              have q2 : (c.vb).tmod 256 = c.vb % 256 := Int.tmod_eq_emod_of_nonneg (by omega)
              obtain ⟨a16, n16, k16, W16, hr16, hn16, s16, kp16⟩ := S13.out.two (l' := regL c ++ cntL c ++ opL c ++ vbL c) (by have := HLs.out; simp only [List.length_append]; omega) rfl (by decide) (c.vb / 256) (c.vb % 256) (by unfold vbL; rw [if_neg hvb])
              obtain ⟨e0, e1, e2, e3, e4⟩ := rowCells s16.box
              have S16 := Lib.hid s16
              have N16 := Lib.hid hn16
              clear kp16 s16 hn16 hvb
              by_cases hch : c.ch = 0
              · have z5 : (c.ch != 0) = false := by rw [hch]; rfl
                have SE := Lib.hid (S16.out.as (l' := spL c) (by unfold spL chL; rw [if_pos hch, List.append_nil]))
                have NE : Hid (_ = (spL c).length) := Lib.hid (N16.out.trans (by unfold spL chL; rw [if_pos hch, List.append_nil]))
                clear hch
                go_wp2_with fail
                go_ret
                exact SE.out.post NE.out
              · have z5 : (c.ch != 0) = true := bne_iff_ne.2 hch
                obtain ⟨a17, n17, k17, W17, hr17, hn17, s17, kp17⟩ := S16.out.one (l' := spL c) (by have := HLs.out; simp only [List.length_append]; omega) rfl (by decide) c.ch (by unfold spL chL; rw [if_neg hch])
                have SE := Lib.hid s17
                have NE := Lib.hid hn17
                clear kp17 s17 hn17 hch
                go_wp2_with fail
                go_ret
                exact SE.out.post NE.out
          · have z3 : (c.op != 0) = true := bne_iff_ne.2 hop
            obtain ⟨a18, n18, k18, W18, hr18, hn18, s18, kp18⟩ := HS.out.one (l' := regL c ++ cntL c ++ opL c) (by have := HLs.out; simp only [List.length_append]; omega) rfl (by decide) c.op (by unfold opL; rw [if_neg hop])
            obtain ⟨e0, e1, e2, e3, e4⟩ := rowCells s18.box
            have S18 := Lib.hid s18
            have N18 := Lib.hid hn18
            clear kp18 s18 hn18 hop
            by_cases hvb : c.vb < 256
            · have z4 : decide (c.vb < 256) = true := decide_eq_true hvb
              obtain ⟨a19, n19, k19, W19, hr19, hn19, s19, kp19⟩ := S18.out.one (l' := regL c ++ cntL c ++ opL c ++ vbL c) (by have := HLs.out; simp only [List.length_append]; omega) rfl (by decide) c.vb (by unfold vbL; rw [if_pos hvb])
              obtain ⟨e0, e1, e2, e3, e4⟩ := rowCells s19.box
              have S19 := Lib.hid s19
              have N19 := Lib.hid hn19
              clear kp19 s19 hn19 hvb
              by_cases hch : c.ch = 0
              · have z5 : (c.ch != 0) = false := by rw [hch]; rfl
                have SE := Lib.hid (S19.out.as (l' := spL c) (by unfold spL chL; rw [if_pos hch, List.append_nil]))
                have NE : Hid (_ = (spL c).length) := Lib.hid (N19.out.trans (by unfold spL chL; rw [if_pos hch, List.append_nil]))
                clear hch
                go_wp2_with fail
                go_ret
                exact SE.out.post NE.out
              · have z5 : (c.ch != 0) = true := bne_iff_ne.2 hch
                obtain ⟨a20, n20, k20, W20, hr20, hn20, s20, kp20⟩ := S19.out.one (l' := spL c) (by have := HLs.out; simp only [List.length_append]; omega) rfl (by decide) c.ch (by unfold spL chL; rw [if_neg hch])
                have SE := Lib.hid s20
                have NE := Lib.hid hn20
                clear kp20 s20 hn20 hch
                go_wp2_with fail
                go_ret
                exact SE.out.post NE.out
            · have z4 : decide (c.vb < 256) = false := decide_eq_false hvb
              have q1 : (c.vb).tdiv 256 = c.vb / 256 := Int.tdiv_eq_ediv_of_nonneg (by omega)
              have q3 : wrap64 (c.vb / 256) = c.vb / 256 := by have := HVb.out; unfold wrap64; omega
              have q2 : (c.vb).tmod 256 = c.vb % 256 := Int.tmod_eq_emod_of_nonneg (by omega)
              obtain ⟨a21, n21, k21, W21, hr21, hn21, s21, kp21⟩ := S18.out.two (l' := regL c ++ cntL c ++ opL c ++ vbL c) (by have := HLs.out; simp only [List.length_append]; omega) rfl (by decide) (c.vb / 256) (c.vb % 256) (by unfold vbL; rw [if_neg hvb])
              obtain ⟨e0, e1, e2, e3, e4⟩ := rowCells s21.box
              have S21 := Lib.hid s21
              have N21 := Lib.hid hn21
              clear kp21 s21 hn21 hvb
              by_cases hch : c.ch = 0
              · have z5 : (c.ch != 0) = false := by rw [hch]; rfl
                have SE := Lib.hid (S21.out.as (l' := spL c) (by unfold spL chL; rw [if_pos hch, List.append_nil]))
                have NE : Hid (_ = (spL c).length) := Lib.hid (N21.out.trans (by unfold spL chL; rw [if_pos hch, List.append_nil]))
                clear hch
                go_wp2_with fail
                go_ret
                exact SE.out.post NE.out
              · have z5 : (c.ch != 0) = true := bne_iff_ne.2 hch
                obtain ⟨a22, n22, k22, W22, hr22, hn22, s22, kp22⟩ := S21.out.one (l' := spL c) (by have := HLs.out; simp only [List.length_append]; omega) rfl (by decide) c.ch (by unfold spL chL; rw [if_neg hch])
                have SE := Lib.hid s22
                have NE := Lib.hid hn22
                clear kp22 s22 hn22 hch
                go_wp2_with fail
                go_ret
                exact SE.out.post NE.out
  · have z : (c.rg != 0) = true := bne_iff_ne.2 hrg
    obtain ⟨a23, n23, k23, W23, hr23, hn23, s23, kp23⟩ := s0.two (l' := regL c) (by simp) rfl (by decide) 34 c.rg (by unfold regL; rw [if_neg hrg]; rfl)
    rw [hz0] at hr23
    have HT23 : Hid (Tens W23) := Lib.hid (HT.out.below s23.low)
    obtain ⟨d0, d1, d2, d3, d4⟩ := rowCells s23.box
    have S23 := Lib.hid s23
    have N23 := Lib.hid hn23
    clear kp23 s23 hn23 hz0 s0 hrg
    by_cases hct : c.ct = 0
    · have z2 : (c.ct != 0) = false := by rw [hct]; rfl
      have S24 := Lib.hid (S23.out.as (l' := regL c ++ cntL c) (by unfold cntL; rw [if_pos hct, List.append_nil]))
      clear hct
      by_cases hop : c.op = 0
      · have z3 : (c.op != 0) = false := by rw [hop]; rfl
        have S25 := Lib.hid (S24.out.as (l' := regL c ++ cntL c ++ opL c) (by unfold opL; rw [if_pos hop, List.append_nil]))
        clear hop
        by_cases hvb : c.vb < 256
        · have z4 : decide (c.vb < 256) = true := decide_eq_true hvb
          obtain ⟨a26, n26, k26, W26, hr26, hn26, s26, kp26⟩ := S25.out.one (l' := regL c ++ cntL c ++ opL c ++ vbL c) (by have := HLs.out; simp only [List.length_append]; omega) rfl (by decide) c.vb (by unfold vbL; rw [if_pos hvb])
          obtain ⟨e0, e1, e2, e3, e4⟩ := rowCells s26.box
          have S26 := Lib.hid s26
          have N26 := Lib.hid hn26
          clear kp26 s26 hn26 hvb
          by_cases hch : c.ch = 0
          · have z5 : (c.ch != 0) = false := by rw [hch]; rfl
            have SE := Lib.hid (S26.out.as (l' := spL c) (by unfold spL chL; rw [if_pos hch, List.append_nil]))
            have NE : Hid (_ = (spL c).length) := Lib.hid (N26.out.trans (by unfold spL chL; rw [if_pos hch, List.append_nil]))
            clear hch
            go_wp2_with fail
            go_ret
            exact SE.out.post NE.out
          · have z5 : (c.ch != 0) = true := bne_iff_ne.2 hch
            obtain ⟨a27, n27, k27, W27, hr27, hn27, s27, kp27⟩ := S26.out.one (l' := spL c) (by have := HLs.out; simp only [List.length_append]; omega) rfl (by decide) c.ch (by unfold spL chL; rw [if_neg hch])
            have SE := Lib.hid s27
            have NE := Lib.hid hn27
            clear kp27 s27 hn27 hch
            go_wp2_with fail
            go_ret
            exact SE.out.post NE.out
        · have z4 : decide (c.vb < 256) = false := decide_eq_false hvb
          have q1 : (c.vb).tdiv 256 = c.vb / 256 := Int.tdiv_eq_ediv_of_nonneg (by omega)
          have q3 : wrap64 (c.vb / 256) = c.vb / 256 := by have := HVb.out; unfold wrap64; omega
          have q2 : (c.vb).tmod 256 = c.vb % 256 := Int.tmod_eq_emod_of_nonneg (by omega)
          obtain ⟨a28, n28, k28, W28, hr28, hn28, s28, kp28⟩ := S25.out.two (l' := regL c ++ cntL c ++ opL c ++ vbL c) (by have := HLs.out; simp only [List.length_append]; omega) rfl (by decide) (c.vb / 256) (c.vb % 256) (by unfold vbL; rw [if_neg hvb])
          obtain ⟨e0, e1, e2, e3, e4⟩ := rowCells s28.box
          have S28 := Lib.hid s28
          have N28 := Lib.hid hn28
          clear kp28 s28 hn28 hvb
          by_cases hch : c.ch = 0
          · have z5 : (c.ch != 0) = false := by rw [hch]; rfl
            have SE := Lib.hid (S28.out.as (l' := spL c) (by unfold spL chL; rw [if_pos hch, List.append_nil]))
            have NE : Hid (_ = (spL c).length) := Lib.hid (N28.out.trans (by unfold spL chL; rw [if_pos hch, List.append_nil]))
            clear hch
            go_wp2_with fail
            go_ret
            exact SE.out.post NE.out
          · have z5 : (c.ch != 0) = true := bne_iff_ne.2 hch
            obtain ⟨a29, n29, k29, W29, hr29, hn29, s29, kp29⟩ := S28.out.one (l' := spL c) (by have := HLs.out; simp only [List.length_append]; omega) rfl (by decide) c.ch (by unfold spL chL; rw [if_neg hch])
            have SE := Lib.hid s29
            have NE := Lib.hid hn29
            clear kp29 s29 hn29 hch
            go_wp2_with fail
            go_ret
            exact SE.out.post NE.out
      · have z3 : (c.op != 0) = true := bne_iff_ne.2 hop
        obtain ⟨a30, n30, k30, W30, hr30, hn30, s30, kp30⟩ := S24.out.one (l' := regL c ++ cntL c ++ opL c) (by have := HLs.out; simp only [List.length_append]; omega) rfl (by decide) c.op (by unfold opL; rw [if_neg hop])
        obtain ⟨e0, e1, e2, e3, e4⟩ := rowCells s30.box
        have S30 := Lib.hid s30
        have N30 := Lib.hid hn30
        clear kp30 s30 hn30 hop
        by_cases hvb : c.vb < 256
        · have z4 : decide (c.vb < 256) = true := decide_eq_true hvb
          obtain ⟨a31, n31, k31, W31, hr31, hn31, s31, kp31⟩ := S30.out.one (l' := regL c ++ cntL c ++ opL c ++ vbL c) (by have := HLs.out; simp only [List.length_append]; omega) rfl (by decide) c.vb (by unfold vbL; rw [if_pos hvb])
          obtain ⟨e0, e1, e2, e3, e4⟩ := rowCells s31.box
          have S31 := Lib.hid s31
          have N31 := Lib.hid hn31
          clear kp31 s31 hn31 hvb
          by_cases hch : c.ch = 0
          · have z5 : (c.ch != 0) = false := by rw [hch]; rfl
            have SE := Lib.hid (S31.out.as (l' := spL c) (by unfold spL chL; rw [if_pos hch, List.append_nil]))
            have NE : Hid (_ = (spL c).length) := Lib.hid (N31.out.trans (by unfold spL chL; rw [if_pos hch, List.append_nil]))
            clear hch
            go_wp2_with fail
            go_ret
            exact SE.out.post NE.out
          · have z5 : (c.ch != 0) = true := bne_iff_ne.2 hch
            obtain ⟨a32, n32, k32, W32, hr32, hn32, s32, kp32⟩ := S31.out.one (l' := spL c) (by have := HLs.out; simp only [List.length_append]; omega) rfl (by decide) c.ch (by unfold spL chL; rw [if_neg hch])
            have SE := Lib.hid s32
            have NE := Lib.hid hn32
            clear kp32 s32 hn32 hch
            go_wp2_with fail
            go_ret
            exact SE.out.post NE.out
        · have z4 : decide (c.vb < 256) = false := decide_eq_false hvb
          have q1 : (c.vb).tdiv 256 = c.vb / 256 := Int.tdiv_eq_ediv_of_nonneg (by omega)
          have q3 : wrap64 (c.vb / 256) = c.vb / 256 := by have := HVb.out; unfold wrap64; omega
          have q2 : (c.vb).tmod 256 = c.vb % 256 := Int.tmod_eq_emod_of_nonneg (by omega)
          obtain ⟨a33, n33, k33, W33, hr33, hn33, s33, kp33⟩ := S30.out.two (l' := regL c ++ cntL c ++ opL c ++ vbL c) (by have := HLs.out; simp only [List.length_append]; omega) rfl (by decide) (c.vb / 256) (c.vb % 256) (by unfold vbL; rw [if_neg hvb])
          obtain ⟨e0, e1, e2, e3, e4⟩ := rowCells s33.box
          have S33 := Lib.hid s33
          have N33 := Lib.hid hn33
          clear kp33 s33 hn33 hvb
          by_cases hch : c.ch = 0
          · have z5 : (c.ch != 0) = false := by rw [hch]; rfl
            have SE := Lib.hid (S33.out.as (l' := spL c) (by unfold spL chL; rw [if_pos hch, List.append_nil]))
            have NE : Hid (_ = (spL c).length) := Lib.hid (N33.out.trans (by unfold spL chL; rw [if_pos hch, List.append_nil]))
            clear hch
            go_wp2_with fail
            go_ret
            exact SE.out.post NE.out
          · have z5 : (c.ch != 0) = true := bne_iff_ne.2 hch
            obtain ⟨a34, n34, k34, W34, hr34, hn34, s34, kp34⟩ := S33.out.one (l' := spL c) (by have := HLs.out; simp only [List.length_append]; omega) rfl (by decide) c.ch (by unfold spL chL; rw [if_neg hch])
            have SE := Lib.hid s34
            have NE := Lib.hid hn34
            clear kp34 s34 hn34 hch
            go_wp2_with fail
            go_ret
            exact SE.out.post NE.out
    · have z2 : (c.ct != 0) = true := bne_iff_ne.2 hct
      go_wp2_with fail
      refine (HI.out _ HT23.out).mono ?_; rintro e w2 ⟨rfl, b2⟩
      have s2 := S23.out.below b2
      have hit : Hid ((w2.iter ⟨(Lib.itoa c.ct).toArray⟩ 0).heap[w2.heap.size]? = some (.stringIter ⟨(Lib.itoa c.ct).toArray⟩ 0)) := Lib.hid (World.iter_heap w2 _ 0)
      have s3 : SpI w (w2.iter ⟨(Lib.itoa c.ct).toArray⟩ 0) w.heap.size _ (regL c) (cmO c) := s2.below (t_al w2 _)
      have HQ : Hid (w.heap.size ≤ w2.heap.size) := Lib.hid s2.low.size
      have HTx : Hid (((⟨(Lib.itoa c.ct).toArray⟩ : ByteArray).data.toList = Lib.itoa c.ct) ∧ (⟨(Lib.itoa c.ct).toArray⟩ : ByteArray).size = (Lib.itoa c.ct).length) := Lib.hid ⟨by simp, by simp [ByteArray.size]⟩
      have HCt : Hid (cntL c = itB c.ct) := Lib.hid (by unfold cntL; rw [if_neg hct])
      have HLn : Hid ((Lib.itoa c.ct).length ≤ 21) := Lib.hid (by have := HLs.out.2.1; rw [HCt.out] at this; unfold itB at this; rwa [List.length_map] at this)
      have S3 := Lib.hid s3
      generalize hsx : (⟨(Lib.itoa c.ct).toArray⟩ : ByteArray) = sx at *
      clear s2 s3 b2 hct hsx d0 d1 d2 d3 d4
      obtain ⟨q, hq⟩ : ∃ q, w2.heap.size = q := ⟨_, rfl⟩
      rw [hq] at hit HQ
      have HQ2 := Lib.hid hq
      go_wp2_with fail
      try rw [hq]
      clear hq
      go_loopw [3] (fun v3 wr => ∃ (i : Nat) (a : Option Addr) (n k : Nat), v3 = .slice a n k ∧ i ≤ sx.size ∧ wr.heap[q]? = some (.stringIter sx i) ∧ n = (regL c ++ (itB c.ct).take i).length ∧ SpI w wr w.heap.size (.slice a n k) (regL c ++ (itB c.ct).take i) (cmO c)) (fun _ wr => sx.size - wr.iterPos q)
      case atStart => exact ⟨0, _, _, _, rfl, Nat.zero_le _, hit.out, by rw [List.take_zero, List.append_nil]; exact N23.out, S3.out.as (by rw [List.take_zero, List.append_nil])⟩
      case round =>
        obtain ⟨i, a, n, k, rfl, hi, hitr, hn, hs⟩ := hrel
        have HS := Lib.hid hs
        have HNn := Lib.hid hn
        by_cases hlt : i < sx.size
        · have hl : i < (Lib.itoa c.ct).length := by rw [← HTx.out.2]; exact hlt
          obtain ⟨b, hbb⟩ : ∃ b, (Lib.itoa c.ct)[i]? = some b := ⟨_, List.getElem?_eq_getElem hl⟩
          have hb128 : b.toNat < 128 := itoa_ascii c.ct b (List.mem_of_getElem? hbb)
          have hge : sx[i]'hlt = b := by
            have e : sx.data.toList[i]? = some (sx[i]'hlt) := List.getElem?_eq_getElem (show i < sx.data.toList.length by simpa using hlt)
            rw [HTx.out.1, hbb] at e; exact (Option.some.inj e).symm
          have hdec : Utf8.decode sx i = (b.toNat, 1) := by rw [decode_ascii sx i hlt (by rw [hge]; exact hb128), hge]
          have hnx : ∀ t, (Instr.next (.pointer (some ⟨q, 0, none⟩)) true t).run Tryd.prog wr = .ok (.tuple #[.bool true, .int .i64 i, .int .i32 b.toNat]) (wr.iterAt q sx (i + 1)) := fun t => by
            have := Lib.run_next_any_at (P := Tryd.prog) wr q sx i t hitr hlt
            rw [hdec] at this; exact this
          have hit2 := Lib.iterAt_heap wr q sx i (i + 1) hitr
          have hqb : w.heap.size ≠ q := fun e => by have := HS.out.box; rw [e, hitr] at this; cases this
          have s4 : SpI w (wr.iterAt q sx (i + 1)) w.heap.size (.slice a n k) (regL c ++ (itB c.ct).take i) (cmO c) := ⟨(Lib.iterAt_other wr q w.heap.size sx (i + 1) hqb).trans HS.out.box, own_same HS.out.ow (fun k hk => Lib.iterAt_other wr q k sx (i + 1) (fun e => by
            obtain ⟨cs, fr, hk2, _⟩ := own_cells HS.out.ow hk
            rw [e, hitr] at hk2; cases hk2)), Lib.below_iterAt HS.out.low HQ.out sx (i + 1)⟩
          have hM1 : sx.size - (wr.iterAt q sx (i + 1)).iterPos q < sx.size - wr.iterPos q := by
            simp only [World.iterPos, hit2, hitr]; omega
          have htk : regL c ++ (itB c.ct).take (i + 1) = (regL c ++ (itB c.ct).take i) ++ [(b.toNat : Int)] := by
            rw [List.append_assoc, List.take_add_one]
            have : (itB c.ct)[i]? = some (b.toNat : Int) := by unfold itB; rw [List.getElem?_map, hbb]; rfl
            rw [this]; rfl
          have hlen : (regL c ++ (itB c.ct).take i).length ≤ 1000000 := by
            have h1 := HLs.out.1
            have h2 := HLn.out
            rw [List.length_append, List.length_take]; omega
          have hwr : wrap64 (b.toNat : Int) = (b.toNat : Int) := by unfold wrap64; omega
          generalize hw4 : wr.iterAt q sx (i + 1) = w4 at *
          obtain ⟨a5, n5, k5, W5, hr5, hn5, s5, kp5⟩ := s4.one (l' := regL c ++ (itB c.ct).take (i + 1)) hlen rfl (by decide) (b.toNat : Int) htk
          have hit5 : W5.heap[q]? = some (.stringIter sx (i + 1)) := kp5 _ _ hit2 (fun e => by obtain ⟨cs, fr, hk2, _⟩ := own_cells s4.ow e; rw [hit2] at hk2; cases hk2)
          have HM1 : Hid (sx.size - W5.iterPos q < sx.size - wr.iterPos q) := Lib.hid (by simp only [World.iterPos, hit2, hit5] at hM1 ⊢; exact hM1)
          have S5 := Lib.hid s5
          have N5 := Lib.hid hn5
          have H5 := Lib.hid hit5
          clear hitr hit2 s4 s5 hn5 hit5 hM1 hw4 htk hlen hdec hge hbb hl hs hn kp5 hqb hb128
          go_wp2_with fail
          go_roundw
          case rel => exact ⟨i + 1, a5, n5, k5, rfl, by omega, H5.out, N5.out, S5.out⟩
          case measure => exact HM1.out
        · obtain rfl : i = sx.size := by omega
          have hnx : ∀ t, (Instr.next (.pointer (some ⟨q, 0, none⟩)) true t).run Tryd.prog wr = .ok (.tuple #[.bool false]) wr := fun t => Lib.run_next_end_at wr q sx sx.size t hitr (by omega)
          have hall : regL c ++ (itB c.ct).take sx.size = regL c ++ cntL c := by
            rw [HCt.out, HTx.out.2, List.take_of_length_le (by unfold itB; rw [List.length_map]; exact Nat.le_refl _)]
          obtain ⟨d0, d1, d2, d3, d4⟩ := rowCells hs.box
          rw [hall] at HS HNn
          clear hitr hs hn hall
          by_cases hop : c.op = 0
          · have z3 : (c.op != 0) = false := by rw [hop]; rfl
            have S36 := Lib.hid (HS.out.as (l' := regL c ++ cntL c ++ opL c) (by unfold opL; rw [if_pos hop, List.append_nil]))
            clear hop
            by_cases hvb : c.vb < 256
            · have z4 : decide (c.vb < 256) = true := decide_eq_true hvb
              obtain ⟨a37, n37, k37, W37, hr37, hn37, s37, kp37⟩ := S36.out.one (l' := regL c ++ cntL c ++ opL c ++ vbL c) (by have := HLs.out; simp only [List.length_append]; omega) rfl (by decide) c.vb (by unfold vbL; rw [if_pos hvb])
              obtain ⟨e0, e1, e2, e3, e4⟩ := rowCells s37.box
              have S37 := Lib.hid s37
              have N37 := Lib.hid hn37
              clear kp37 s37 hn37 hvb
              by_cases hch : c.ch = 0
              · have z5 : (c.ch != 0) = false := by rw [hch]; rfl
                have SE := Lib.hid (S37.out.as (l' := spL c) (by unfold spL chL; rw [if_pos hch, List.append_nil]))
                have NE : Hid (_ = (spL c).length) := Lib.hid (N37.out.trans (by unfold spL chL; rw [if_pos hch, List.append_nil]))
                clear hch
                go_wp2_with fail
                go_ret
                exact SE.out.post NE.out
              · have z5 : (c.ch != 0) = true := bne_iff_ne.2 hch
                obtain ⟨a38, n38, k38, W38, hr38, hn38, s38, kp38⟩ := S37.out.one (l' := spL c) (by have := HLs.out; simp only [List.length_append]; omega) rfl (by decide) c.ch (by unfold spL chL; rw [if_neg hch])
                have SE := Lib.hid s38
                have NE := Lib.hid hn38
                clear kp38 s38 hn38 hch
                go_wp2_with fail
                go_ret
                exact SE.out.post NE.out
            · have z4 : decide (c.vb < 256) = false := decide_eq_false hvb
              have q1 : (c.vb).tdiv 256 = c.vb / 256 := Int.tdiv_eq_ediv_of_nonneg (by omega)
              have q3 : wrap64 (c.vb / 256) = c.vb / 256 := by have := HVb.out; unfold wrap64; omega
              have q2 : (c.vb).tmod 256 = c.vb % 256 := Int.tmod_eq_emod_of_nonneg (by omega)
              obtain ⟨a39, n39, k39, W39, hr39, hn39, s39, kp39⟩ := S36.out.two (l' := regL c ++ cntL c ++ opL c ++ vbL c) (by have := HLs.out; simp only [List.length_append]; omega) rfl (by decide) (c.vb / 256) (c.vb % 256) (by unfold vbL; rw [if_neg hvb])
              obtain ⟨e0, e1, e2, e3, e4⟩ := rowCells s39.box
              have S39 := Lib.hid s39
              have N39 := Lib.hid hn39
              clear kp39 s39 hn39 hvb
              by_cases hch : c.ch = 0
              · have z5 : (c.ch != 0) = false := by rw [hch]; rfl
                have SE := Lib.hid (S39.out.as (l' := spL c) (by unfold spL chL; rw [if_pos hch, List.append_nil]))
                have NE : Hid (_ = (spL c).length) := Lib.hid (N39.out.trans (by unfold spL chL; rw [if_pos hch, List.append_nil]))
                clear hch
                go_wp2_with fail
                go_ret
                exact SE.out.post NE.out
              · have z5 : (c.ch != 0) = true := bne_iff_ne.2 hch
                obtain ⟨a40, n40, k40, W40, hr40, hn40, s40, kp40⟩ := S39.out.one (l' := spL c) (by have := HLs.out; simp only [List.length_append]; omega) rfl (by decide) c.ch (by unfold spL chL; rw [if_neg hch])
                have SE := Lib.hid s40
                have NE := Lib.hid hn40
                clear kp40 s40 hn40 hch
                go_wp2_with fail
                go_ret
                exact SE.out.post NE.out
          · have z3 : (c.op != 0) = true := bne_iff_ne.2 hop
            obtain ⟨a41, n41, k41, W41, hr41, hn41, s41, kp41⟩ := HS.out.one (l' := regL c ++ cntL c ++ opL c) (by have := HLs.out; simp only [List.length_append]; omega) rfl (by decide) c.op (by unfold opL; rw [if_neg hop])
            obtain ⟨e0, e1, e2, e3, e4⟩ := rowCells s41.box
            have S41 := Lib.hid s41
            have N41 := Lib.hid hn41
            clear kp41 s41 hn41 hop
            by_cases hvb : c.vb < 256
            · have z4 : decide (c.vb < 256) = true := decide_eq_true hvb
              obtain ⟨a42, n42, k42, W42, hr42, hn42, s42, kp42⟩ := S41.out.one (l' := regL c ++ cntL c ++ opL c ++ vbL c) (by have := HLs.out; simp only [List.length_append]; omega) rfl (by decide) c.vb (by unfold vbL; rw [if_pos hvb])
              obtain ⟨e0, e1, e2, e3, e4⟩ := rowCells s42.box
              have S42 := Lib.hid s42
              have N42 := Lib.hid hn42
              clear kp42 s42 hn42 hvb
              by_cases hch : c.ch = 0
              · have z5 : (c.ch != 0) = false := by rw [hch]; rfl
                have SE := Lib.hid (S42.out.as (l' := spL c) (by unfold spL chL; rw [if_pos hch, List.append_nil]))
                have NE : Hid (_ = (spL c).length) := Lib.hid (N42.out.trans (by unfold spL chL; rw [if_pos hch, List.append_nil]))
                clear hch
                go_wp2_with fail
                go_ret
                exact SE.out.post NE.out
              · have z5 : (c.ch != 0) = true := bne_iff_ne.2 hch
                obtain ⟨a43, n43, k43, W43, hr43, hn43, s43, kp43⟩ := S42.out.one (l' := spL c) (by have := HLs.out; simp only [List.length_append]; omega) rfl (by decide) c.ch (by unfold spL chL; rw [if_neg hch])
                have SE := Lib.hid s43
                have NE := Lib.hid hn43
                clear kp43 s43 hn43 hch
                go_wp2_with fail
                go_ret
                exact SE.out.post NE.out
            · have z4 : decide (c.vb < 256) = false := decide_eq_false hvb
              have q1 : (c.vb).tdiv 256 = c.vb / 256 := Int.tdiv_eq_ediv_of_nonneg (by omega)
              have q3 : wrap64 (c.vb / 256) = c.vb / 256 := by have := HVb.out; unfold wrap64; omega
              have q2 : (c.vb).tmod 256 = c.vb % 256 := Int.tmod_eq_emod_of_nonneg (by omega)
              obtain ⟨a44, n44, k44, W44, hr44, hn44, s44, kp44⟩ := S41.out.two (l' := regL c ++ cntL c ++ opL c ++ vbL c) (by have := HLs.out; simp only [List.length_append]; omega) rfl (by decide) (c.vb / 256) (c.vb % 256) (by unfold vbL; rw [if_neg hvb])
              obtain ⟨e0, e1, e2, e3, e4⟩ := rowCells s44.box
              have S44 := Lib.hid s44
              have N44 := Lib.hid hn44
              clear kp44 s44 hn44 hvb
              by_cases hch : c.ch = 0
              · have z5 : (c.ch != 0) = false := by rw [hch]; rfl
                have SE := Lib.hid (S44.out.as (l' := spL c) (by unfold spL chL; rw [if_pos hch, List.append_nil]))
                have NE : Hid (_ = (spL c).length) := Lib.hid (N44.out.trans (by unfold spL chL; rw [if_pos hch, List.append_nil]))
                clear hch
                go_wp2_with fail
                go_ret
                exact SE.out.post NE.out
              · have z5 : (c.ch != 0) = true := bne_iff_ne.2 hch
                obtain ⟨a45, n45, k45, W45, hr45, hn45, s45, kp45⟩ := S44.out.one (l' := spL c) (by have := HLs.out; simp only [List.length_append]; omega) rfl (by decide) c.ch (by unfold spL chL; rw [if_neg hch])
                have SE := Lib.hid s45
                have NE := Lib.hid hn45
                clear kp45 s45 hn45 hch
                go_wp2_with fail
                go_ret
                exact SE.out.post NE.out
end Go.Proofs.YtjmpokgdgnjojaaDoor
