/-
  Texts of this seat, put together (a claim holds few texts): QuB, CeA, CeB.
-/
import Derived.Test.YtkgakgceamafcaaGreatMk11
import Derived.Deep.QuietTactic
import Derived.BigQuiet

namespace Go.Proofs.YtkgakgceamafcaaGreat
open Go Go.RowKit
set_option linter.unusedVariables false

theorem dup_take {l : List UInt8} {k : Nat} (h : k < l.length) : (l.take (k + 1)).flatMap dupB = (l.take k).flatMap dupB ++ dupB l[k] := by
  rw [List.take_succ_eq_append_getElem h, List.flatMap_append]; simp
theorem dup_len (l : List UInt8) : (l.flatMap dupB).length ≤ 2 * l.length := by
  induction l with
  | nil => simp
  | cons c l ih =>
    have : (dupB c).length ≤ 2 := by unfold dupB; split <;> simp
    rw [List.flatMap_cons, List.length_append, List.length_cons]; omega
theorem lb_el {l : List UInt8} {k : Nat} (h : k < l.length) : lb l k = (l[k].toNat : Int) := by
  unfold lb; rw [List.getD_eq_getElem?_getD, List.getElem?_eq_getElem h]; rfl
theorem dup_yes {l : List UInt8} {k : Nat} (h : k < l.length) (h2 : lb l k = 34) : bc (dupB l[k]) = [.int .u8 34, .int .u8 34] := by
  rw [lb_el h] at h2
  unfold dupB; rw [if_pos h2]; unfold bc; simp [h2]
theorem dup_no {l : List UInt8} {k : Nat} (h : k < l.length) (h2 : lb l k ≠ 34) : bc (dupB l[k]) = [.int .u8 (lb l k)] := by
  have h3 := lb_el h
  rw [h3] at h2 ⊢
  unfold dupB; rw [if_neg h2]; rfl
theorem own_byte {w : World} {B g : Nat} {e : TypeId} {x : Value} (hB : B ≤ g) (h : w.heap[g]? = some (.cells #[x] e (0, 0))) : w.ownsRow B e 1 (.slice (some ⟨g, 0, none⟩) 1 1) 1 [x] :=
  ⟨rfl, .inr ⟨g, 1, #[x], rfl, hB, h, Nat.le_refl _, (by unfold maxLen; omega), rfl, rfl⟩⟩

/-- What is there at the head of Put's loop. -/
def PutJ (l : List UInt8) (w : World) (v3 v14 : Value) (wr : World) : Prop := ∃ (k n : Nat) (a : Option Addr) (c : Nat) (xs : List Value), v14 = .int .i64 k ∧ k ≤ l.length ∧ v3 = .slice a n c ∧ n = (34 :: (l.take k).flatMap dupB).length ∧ xs = bc (34 :: (l.take k).flatMap dupB) ∧ wr.ownsRow w.heap.size 5 1 (.slice a n c) n xs ∧ Below w.heap.size w wr

set_option maxRecDepth 100000 in
set_option maxHeartbeats 4000000 in
theorem qput_of {w : World} {a : Option Addr} {c : Nat} {l : List UInt8} (hr : Rd w 1 a l.length (bc l)) (hl : l.length ≤ 1000000) :
    Calls Tryz.prog 154 #[.slice a l.length c] w (BytesPost (putP l) w) := by
  have HN := Lib.hid (qneeds_of (c := c) hr hl)
  unfold putP
  by_cases hn : needsP l = true
  · rw [if_pos hn]
    rw [hn] at HN
    obtain ⟨i0, hi0, hz0, hz1, hz2⟩ := info_parts info_u8
    have al := below_al w (Obj.cells #[Value.int IntKind.u8 34] 5)
    have HR := Lib.hid hr
    have HBa := Lib.hid al
    have HOa := Lib.hid (own_byte (Nat.le_refl _) (heap_alloc_new w (Obj.cells #[Value.int IntKind.u8 34] 5)))
    clear hr hn al
    go_enter Tryz.func154, Tryz.ntmps154
    go_wp2_with fail
    refine HN.out.mono ?_; rintro e wx ⟨rfl, rfl⟩
    clear HN
    go_wp2_with fail
    generalize w.alloc (Obj.cells #[Value.int IntKind.u8 34] 5) = w1 at *
    go_loopw [3, 14] (fun v3 v14 wr => PutJ l w v3 v14 wr) (fun _ v14 _ => l.length - (intOf v14).toNat)
    case atStart => exact ⟨0, 1, _, _, _, rfl, by omega, rfl, rfl, rfl, HOa.out, HBa.out⟩
    case round =>
      obtain ⟨k, n, a3, c3, xs, rfl, hk, rfl, hn, hxs, ho, hb⟩ := hrel
      have HNN := Lib.hid hn
      have HXS := Lib.hid hxs
      have HO := Lib.hid ho
      have HB := Lib.hid hb
      have hzr := hb.size
      have hnl : n ≤ 3000000 := by
        have := dup_len (l.take k)
        rw [List.length_take] at this
        rw [hn, List.length_cons]; omega
      clear hn hxs ho hb
      by_cases hlt : k < l.length
      · have dk : decide (k < l.length) = true := decide_eq_true hlt
        obtain ⟨b, off, rfl, hbl, hc0⟩ := rd_at (HR.out.below HB.out) hlt
        have hdt := dup_take hlt
        by_cases h34 : lb l k = 34
        · have hdy := dup_yes hlt h34
          have HE : Hid (n + 1 + 1 = (34 :: (l.take (k + 1)).flatMap dupB).length) := by
            show _ = _
            have h1 := congrArg List.length hdy
            rw [bc_len] at h1
            have h2 := HNN.out
            rw [List.length_cons] at h2
            rw [hdt, List.length_cons, List.length_append, h1]
            simp only [List.length_cons, List.length_nil]; omega
          have HX : Hid (xs ++ [.int .u8 34, .int .u8 34] = bc (34 :: (l.take (k + 1)).flatMap dupB)) := by
            show _ = _
            rw [hdt, HXS.out, show bc (34 :: ((l.take k).flatMap dupB ++ dupB l[k])) = bc (34 :: (l.take k).flatMap dupB) ++ bc (dupB l[k]) by unfold bc; simp, hdy]
          rw [h34] at hc0
          clear hdt hdy h34
          have C1 : Hid (∀ q u, ([.int .u8 34] : List Value)[q]? = some u → (wr.alloc (Obj.cells #[Value.int IntKind.u8 34] 5)).cell? (Addr.add ⟨wr.heap.size, 0, none⟩ q) = some u) := by
            intro q u hq
            rw [Addr.add_lit, Nat.zero_add]
            rw [cell_at (heap_alloc_new wr _)]
            simpa using hq
          have C2 : Hid (∀ u ∈ ([.int .u8 34] : List Value), u.oneCell' = true) := by
            intro u hu
            obtain rfl := List.mem_singleton.1 hu; rfl
          have C3 : Hid (n + 1 ≤ maxLen) := by show _ ≤ _; unfold maxLen; omega
          have C4 : Hid ((n + 1) * 1 ≤ 140737488355328) := by show _ ≤ _; omega
          have C5 : Hid (w.heap.size ≤ (wr.alloc (Obj.cells #[Value.int IntKind.u8 34] 5)).heap.size) := by show _ ≤ _; simp only [World.size_alloc]; omega
          have HOA := Lib.hid (HO.out.alloc (Obj.cells #[Value.int IntKind.u8 34] 5))
          go_wp2_with (first
            | (at_builtin; refine wpList_append_own _ rfl (.tmp 20) (.tmp 22) 32 rfl w.heap.size 5 i0 (.int .u8 0) 1 1 Tryz.underlying32 hi0 hz0 hz1 hz2 rfl (by decide) (.slice a3 n c3) n xs rfl HOA.out ⟨wr.heap.size, 0, none⟩ 1 1 [.int .u8 34] rfl rfl C1.out C2.out C3.out C4.out C5.out ?_)
            | fail)
          intro v7 wB ho7 hg7 _
          obtain ⟨a8, c8, rfl⟩ := own_slice ho7
          have HOB := Lib.hid ho7
          have HBB := Lib.hid ((HB.out.alloc (by have := HB.out.size; omega) _).grown hg7 (by simp only [World.size_alloc]; omega) (fun q hq => (HO.out.lt q hq).1))
          have hzB : w.heap.size ≤ wB.heap.size := HBB.out.size
          clear ho7 hg7 C1 C2 C3 C4 C5 HOA
          have C1 : Hid (∀ q u, ([.int .u8 34] : List Value)[q]? = some u → (wB.alloc (Obj.cells #[Value.int IntKind.u8 34] 5)).cell? (Addr.add ⟨wB.heap.size, 0, none⟩ q) = some u) := by
            intro q u hq
            rw [Addr.add_lit, Nat.zero_add]
            rw [cell_at (heap_alloc_new wB _)]
            simpa using hq
          have C2 : Hid (∀ u ∈ ([.int .u8 34] : List Value), u.oneCell' = true) := by
            intro u hu
            obtain rfl := List.mem_singleton.1 hu; rfl
          have C3 : Hid ((n + 1) + 1 ≤ maxLen) := by show _ ≤ _; unfold maxLen; omega
          have C4 : Hid (((n + 1) + 1) * 1 ≤ 140737488355328) := by show _ ≤ _; omega
          have C5 : Hid (w.heap.size ≤ (wB.alloc (Obj.cells #[Value.int IntKind.u8 34] 5)).heap.size) := by show _ ≤ _; simp only [World.size_alloc]; omega
          have HOA := Lib.hid (HOB.out.alloc (Obj.cells #[Value.int IntKind.u8 34] 5))
          go_wp2_with (first
            | (at_builtin; refine wpList_append_own _ rfl (.tmp 24) (.tmp 26) 32 rfl w.heap.size 5 i0 (.int .u8 0) 1 1 Tryz.underlying32 hi0 hz0 hz1 hz2 rfl (by decide) (.slice a8 (n + 1) c8) (n + 1) (xs ++ [.int .u8 34]) rfl HOA.out ⟨wB.heap.size, 0, none⟩ 1 1 [.int .u8 34] rfl rfl C1.out C2.out C3.out C4.out C5.out ?_)
            | fail)
          intro v7 wC ho7 hg7 _
          obtain ⟨a9, c9, rfl⟩ := own_slice ho7
          have HOC := Lib.hid ho7
          have HBC := Lib.hid ((HBB.out.alloc (by have := HBB.out.size; omega) _).grown hg7 (by simp only [World.size_alloc]; omega) (fun q hq => (HOB.out.lt q hq).1))
          have hzC : w.heap.size ≤ wC.heap.size := HBC.out.size
          clear ho7 hg7 C1 C2 C3 C4 C5 HOA
          go_wp2_with fail
          go_roundw
          case rel => exact ⟨k + 1, n + 1 + 1, a9, c9, _, by go_num, hlt, rfl, HE.out, HX.out, HOC.out, HBC.out⟩
          case measure => simp [intOf]; omega
        · have hdn := dup_no hlt h34
          have d34 : (lb l k == 34) = false := by simpa using h34
          have HE : Hid (n + 1 = (34 :: (l.take (k + 1)).flatMap dupB).length) := by
            show _ = _
            have h1 := congrArg List.length hdn
            rw [bc_len] at h1
            have h2 := HNN.out
            rw [List.length_cons] at h2
            rw [hdt, List.length_cons, List.length_append, h1]
            simp only [List.length_cons, List.length_nil]; omega
          have HX : Hid (xs ++ [.int .u8 (lb l k)] = bc (34 :: (l.take (k + 1)).flatMap dupB)) := by
            show _ = _
            rw [hdt, HXS.out, show bc (34 :: ((l.take k).flatMap dupB ++ dupB l[k])) = bc (34 :: (l.take k).flatMap dupB) ++ bc (dupB l[k]) by unfold bc; simp, hdn]
          clear hdt hdn h34
          generalize lb l k = x at *
          have C1 : Hid (∀ q u, ([.int .u8 x] : List Value)[q]? = some u → (wr.alloc (Obj.cells #[Value.int IntKind.u8 x] 5)).cell? (Addr.add ⟨wr.heap.size, 0, none⟩ q) = some u) := by
            intro q u hq
            rw [Addr.add_lit, Nat.zero_add]
            rw [cell_at (heap_alloc_new wr _)]
            simpa using hq
          have C2 : Hid (∀ u ∈ ([.int .u8 x] : List Value), u.oneCell' = true) := by
            intro u hu
            obtain rfl := List.mem_singleton.1 hu; rfl
          have C3 : Hid (n + 1 ≤ maxLen) := by show _ ≤ _; unfold maxLen; omega
          have C4 : Hid ((n + 1) * 1 ≤ 140737488355328) := by show _ ≤ _; omega
          have C5 : Hid (w.heap.size ≤ (wr.alloc (Obj.cells #[Value.int IntKind.u8 x] 5)).heap.size) := by show _ ≤ _; simp only [World.size_alloc]; omega
          have HOA := Lib.hid (HO.out.alloc (Obj.cells #[Value.int IntKind.u8 x] 5))
          go_wp2_with (first
            | (at_builtin; refine wpList_append_own _ rfl (.tmp 24) (.tmp 26) 32 rfl w.heap.size 5 i0 (.int .u8 0) 1 1 Tryz.underlying32 hi0 hz0 hz1 hz2 rfl (by decide) (.slice a3 n c3) n xs rfl HOA.out ⟨wr.heap.size, 0, none⟩ 1 1 [.int .u8 x] rfl rfl C1.out C2.out C3.out C4.out C5.out ?_)
            | fail)
          intro v7 wB ho7 hg7 _
          obtain ⟨a8, c8, rfl⟩ := own_slice ho7
          have HOB := Lib.hid ho7
          have HBB := Lib.hid ((HB.out.alloc (by have := HB.out.size; omega) _).grown hg7 (by simp only [World.size_alloc]; omega) (fun q hq => (HO.out.lt q hq).1))
          have hzB : w.heap.size ≤ wB.heap.size := HBB.out.size
          clear ho7 hg7 C1 C2 C3 C4 C5 HOA
          go_wp2_with fail
          go_roundw
          case rel => exact ⟨k + 1, n + 1, a8, c8, _, by go_num, hlt, rfl, HE.out, HX.out, HOB.out, HBB.out⟩
          case measure => simp [intOf]; omega
      · have dk : decide (k < l.length) = false := decide_eq_false hlt
        obtain rfl : k = l.length := by omega
        have C1 : Hid (∀ q u, ([.int .u8 34] : List Value)[q]? = some u → (wr.alloc (Obj.cells #[Value.int IntKind.u8 34] 5)).cell? (Addr.add ⟨wr.heap.size, 0, none⟩ q) = some u) := by
          intro q u hq
          rw [Addr.add_lit, Nat.zero_add]
          rw [cell_at (heap_alloc_new wr _)]
          simpa using hq
        have C2 : Hid (∀ u ∈ ([.int .u8 34] : List Value), u.oneCell' = true) := by
          intro u hu
          obtain rfl := List.mem_singleton.1 hu; rfl
        have C3 : Hid (n + 1 ≤ maxLen) := by show _ ≤ _; unfold maxLen; omega
        have C4 : Hid ((n + 1) * 1 ≤ 140737488355328) := by show _ ≤ _; omega
        have C5 : Hid (w.heap.size ≤ (wr.alloc (Obj.cells #[Value.int IntKind.u8 34] 5)).heap.size) := by show _ ≤ _; simp only [World.size_alloc]; omega
        have HOA := Lib.hid (HO.out.alloc (Obj.cells #[Value.int IntKind.u8 34] 5))
        go_wp2_with (first
          | (at_builtin; refine wpList_append_own _ rfl (.tmp 29) (.tmp 30) 32 rfl w.heap.size 5 i0 (.int .u8 0) 1 1 Tryz.underlying32 hi0 hz0 hz1 hz2 rfl (by decide) (.slice a3 n c3) n xs rfl HOA.out ⟨wr.heap.size, 0, none⟩ 1 1 [.int .u8 34] rfl rfl C1.out C2.out C3.out C4.out C5.out ?_)
          | fail)
        intro v7 wB ho7 hg7 _
        obtain ⟨a8, c8, rfl⟩ := own_slice ho7
        have HOB := Lib.hid ho7
        have HBB := Lib.hid ((HB.out.alloc (by have := HB.out.size; omega) _).grown hg7 (by simp only [World.size_alloc]; omega) (fun q hq => (HO.out.lt q hq).1))
        have hzB : w.heap.size ≤ wB.heap.size := HBB.out.size
        clear ho7 hg7 C1 C2 C3 C4 C5 HOA
        go_wp2_with fail
        go_ret
        refine ⟨a8, c8, ?_, ?_, HBB.out⟩
        · rw [List.length_cons, List.length_append]
          have := HNN.out
          rw [List.take_length, List.length_cons] at this
          rw [this]; rfl
        · have h1 := HNN.out
          have h2 := HXS.out
          rw [List.take_length] at h1 h2
          rw [List.length_cons] at h1
          have h3 := HOB.out
          rw [h2] at h3
          rw [h1] at h3
          have e1 : (34 :: (l.flatMap dupB ++ [34])).length = (l.flatMap dupB).length + 1 + 1 := by simp
          have e2 : bc (34 :: (l.flatMap dupB ++ [34])) = bc (34 :: l.flatMap dupB) ++ [.int .u8 34] := by unfold bc; simp
          rw [e1, e2]
          exact h3
  · rw [if_neg hn]
    rw [Bool.eq_false_iff.2 hn] at HN
    have HC := Lib.hid (clone_rd a c hr (by omega))
    clear hr hn
    go_enter Tryz.func154, Tryz.ntmps154
    go_wp2_with fail
    refine HN.out.mono ?_; rintro e wx ⟨rfl, rfl⟩
    go_wp2_with fail
    refine HC.out.mono ?_; rintro e w2 ⟨a2, c2, rfl, ho, hb⟩
    have HO := Lib.hid ho
    have HB := Lib.hid hb
    clear ho hb HC HN
    go_wp2_with fail
    go_ret
    exact ⟨a2, c2, rfl, HO.out, HB.out⟩

end Go.Proofs.YtkgakgceamafcaaGreat

namespace Go.Proofs.YtkgakgceamafcaaGreat
open Go Go.RowKit
set_option linter.unusedVariables false

/-- A cell. -/
abbrev cellV (a : Option Addr) (n c : Nat) (x y : Int) (k : Bool) : Value := .agg #[.slice a n c, .int .i64 x, .int .i64 y, .bool k]
/-- A block of four cells that are written. -/
def set4 (w : World) (b : Nat) (u0 u1 u2 u3 : Value) : World := (((w.setCell ⟨b, 0, none⟩ u0).setCell ⟨b, 1, none⟩ u1).setCell ⟨b, 2, none⟩ u2).setCell ⟨b, 3, none⟩ u3
theorem set4_at {w : World} {b T : Nat} {a0 a1 a2 a3 : Value} (h : w.heap[b]? = some (.cells #[a0, a1, a2, a3] T (0, 0))) (u0 u1 u2 u3 : Value) : (set4 w b u0 u1 u2 u3).heap[b]? = some (.cells #[u0, u1, u2, u3] T (0, 0)) := by
  unfold set4
  rw [heap_set_at (heap_set_at (heap_set_at (heap_set_at h)))]; rfl
theorem set4_below {B b : Nat} {a w : World} (h : Below B a w) (hb : B ≤ b) (u0 u1 u2 u3 : Value) : Below B a (set4 w b u0 u1 u2 u3) := by
  unfold set4
  exact (((h.setCell (p := ⟨b, 0, none⟩) hb _).setCell (p := ⟨b, 1, none⟩) hb _).setCell (p := ⟨b, 2, none⟩) hb _).setCell (p := ⟨b, 3, none⟩) hb _
theorem TxB.set4 {B b : Nat} {w : World} {v : Value} {t : List Int} (h : TxB B w v t) (hb : b < B) (u0 u1 u2 u3 : Value) : TxB B (set4 w b u0 u1 u2 u3) v t := (((h.set hb).set hb).set hb).set hb
theorem Ar.set4 {w : World} {B p b T : Nat} {l : List UInt8} {a0 a1 a2 a3 : Value} (h : Ar w B p l) (hb : w.heap[b]? = some (.cells #[a0, a1, a2, a3] T (0, 0))) (h1 : T ≠ 124) (h2 : T ≠ 5) (u0 u1 u2 u3 : Value) : Ar (set4 w b u0 u1 u2 u3) B p l :=
  (((h.set hb h1 h2).set (heap_set_at hb) h1 h2).set (heap_set_at (heap_set_at hb)) h1 h2).set (heap_set_at (heap_set_at (heap_set_at hb))) h1 h2

set_option maxRecDepth 100000 in
theorem ceof_of {w : World} (a : Option Addr) (n c : Nat) :
    Calls Tryz.prog 206 #[.agg #[.slice a n c]] w fun e w' => e = .returned (cellV a n c 0 0 false) ∧ Below w.heap.size w w' := by
  obtain ⟨w1, hw1⟩ : ∃ w1, w1 = allocs w [Obj.cells #[Value.slice a n c] 57, Obj.cells #[Value.slice none 0 0, Value.int .i64 0, Value.int .i64 0, Value.bool false] 61] := ⟨_, rfl⟩
  have HB1 : Hid (Below w.heap.size w w1) := by rw [hw1]; exact Lib.hid (allocs_below _ w)
  have h0 : w1.heap[w.heap.size]? = some (.cells #[Value.slice a n c] 57 (0, 0)) := by rw [hw1]; exact allocs_at _ w 0 _ rfl
  have h1 : w1.heap[w.heap.size + 1]? = some (.cells #[Value.slice none 0 0, Value.int .i64 0, Value.int .i64 0, Value.bool false] 61 (0, 0)) := by rw [hw1]; exact allocs_at _ w 1 _ rfl
  have k0 : w1.cell? ⟨w.heap.size, 0, none⟩ = some (.slice a n c) := by rw [cell_at h0]; rfl
  have k1 : w1.cell? ⟨w.heap.size + 1, 0, none⟩ = some (.slice none 0 0) := by rw [cell_at h1]; rfl
  have k2 : w1.cell? ⟨w.heap.size + 1, 1, none⟩ = some (.int .i64 0) := by rw [cell_at h1]; rfl
  have k3 : w1.cell? ⟨w.heap.size + 1, 2, none⟩ = some (.int .i64 0) := by rw [cell_at h1]; rfl
  have k4 : w1.cell? ⟨w.heap.size + 1, 3, none⟩ = some (.bool false) := by rw [cell_at h1]; rfl
  have z1 := fun i => unfrozen h1 i
  have H1 := Lib.hid h1
  clear h0 h1
  go_enter Tryz.func206, Tryz.ntmps206
  go_upto_region 1 with fail
  rw [show (w.alloc (Obj.cells #[Value.slice a n c] 57)).alloc (Obj.cells #[Value.slice none 0 0, Value.int .i64 0, Value.int .i64 0, Value.bool false] 61) = w1 from hw1.symm]
  clear hw1
  go_wp2_with fail
  have hs := set4_at H1.out (.slice a n c) (.int .i64 0) (.int .i64 0) (.bool false)
  have hB := set4_below HB1.out (show w.heap.size ≤ w.heap.size + 1 by omega) (.slice a n c) (.int .i64 0) (.int .i64 0) (.bool false)
  have q0 : (set4 w1 (w.heap.size + 1) (.slice a n c) (.int .i64 0) (.int .i64 0) (.bool false)).cell? ⟨w.heap.size + 1, 0, none⟩ = some (.slice a n c) := by rw [cell_at hs]; rfl
  have q1 : (set4 w1 (w.heap.size + 1) (.slice a n c) (.int .i64 0) (.int .i64 0) (.bool false)).cell? ⟨w.heap.size + 1, 1, none⟩ = some (.int .i64 0) := by rw [cell_at hs]; rfl
  have q2 : (set4 w1 (w.heap.size + 1) (.slice a n c) (.int .i64 0) (.int .i64 0) (.bool false)).cell? ⟨w.heap.size + 1, 2, none⟩ = some (.int .i64 0) := by rw [cell_at hs]; rfl
  have q3 : (set4 w1 (w.heap.size + 1) (.slice a n c) (.int .i64 0) (.int .i64 0) (.bool false)).cell? ⟨w.heap.size + 1, 3, none⟩ = some (.bool false) := by rw [cell_at hs]; rfl
  unfold set4 at hB q0 q1 q2 q3
  exact bodyPost_ret (v := cellV a n c 0 0 false) (by simp [results, Tryz.results206, go_sem, q0, q1, q2, q3]) rfl ⟨rfl, hB⟩

set_option maxRecDepth 100000 in
theorem cbytes_of {w : World} {B p : Nat} {l : List UInt8} {a : Option Addr} {n c : Nat} {t : List Int} (x y : Int) (k : Bool) (h : Ar w B p l) (hl : l.length ≤ 16384) (hx : Tx w (.slice a n c) t) (hin : InL l t) :
    Calls Tryz.prog 66 #[cellV a n c x y k, .pointer (some ⟨p, 0, none⟩)] w (BytesPost (atL l t) w) := by
  have al := below_al w (Obj.cells #[Value.slice a n c, Value.int .i64 x, Value.int .i64 y, Value.bool k] 61)
  have HF := Lib.hid (pflat_of (h.below al) hl (hx.below al) hin)
  have HB := Lib.hid al
  have k0 : (w.alloc (Obj.cells #[Value.slice a n c, Value.int .i64 x, Value.int .i64 y, Value.bool k] 61)).cell? ⟨w.heap.size, 0, none⟩ = some (.slice a n c) := by rw [cell_at (heap_alloc_new w _)]; rfl
  have hz : (w.alloc (Obj.cells #[Value.slice a n c, Value.int .i64 x, Value.int .i64 y, Value.bool k] 61)).heap.size ≥ w.heap.size := al.size
  clear h hx al
  generalize atL l t = f at *
  go_enter Tryz.func66, Tryz.ntmps66
  go_wp2_with fail
  refine HF.out.mono ?_; rintro e w2 ⟨a2, c2, rfl, ho2, hb2⟩
  have HO := Lib.hid (own_mono ho2 hz)
  have HB2 := Lib.hid (HB.out.trans (hb2.mono hz))
  clear ho2 hb2
  go_wp2_with fail
  go_ret
  exact ⟨a2, c2, rfl, HO.out, HB2.out⟩

set_option maxRecDepth 100000 in
theorem cprint_kept {w : World} {B p : Nat} {l : List UInt8} {a : Option Addr} {n c : Nat} (x y : Int) (h : Ar w B p l) (hl : l.length ≤ 16384) :
    Calls Tryz.prog 108 #[cellV a n c x y true, .pointer (some ⟨p, 0, none⟩)] w (BytesPost (subL l x y) w) := by
  have al := below_al w (Obj.cells #[Value.slice a n c, Value.int .i64 x, Value.int .i64 y, Value.bool true] 61)
  have HF := Lib.hid (abytes_of (h.below al) hl x y)
  have HB := Lib.hid al
  have k1 : (w.alloc (Obj.cells #[Value.slice a n c, Value.int .i64 x, Value.int .i64 y, Value.bool true] 61)).cell? ⟨w.heap.size, 1, none⟩ = some (.int .i64 x) := by rw [cell_at (heap_alloc_new w _)]; rfl
  have k2 : (w.alloc (Obj.cells #[Value.slice a n c, Value.int .i64 x, Value.int .i64 y, Value.bool true] 61)).cell? ⟨w.heap.size, 2, none⟩ = some (.int .i64 y) := by rw [cell_at (heap_alloc_new w _)]; rfl
  have k3 : (w.alloc (Obj.cells #[Value.slice a n c, Value.int .i64 x, Value.int .i64 y, Value.bool true] 61)).cell? ⟨w.heap.size, 3, none⟩ = some (.bool true) := by rw [cell_at (heap_alloc_new w _)]; rfl
  have hz : (w.alloc (Obj.cells #[Value.slice a n c, Value.int .i64 x, Value.int .i64 y, Value.bool true] 61)).heap.size ≥ w.heap.size := al.size
  clear h al
  generalize subL l x y = f at *
  go_enter Tryz.func108, Tryz.ntmps108
  go_wp2_with fail
  refine HF.out.mono ?_; rintro e w2 ⟨a2, c2, rfl, ho2, hb2⟩
  have HO := Lib.hid (own_mono ho2 hz)
  have HB2 := Lib.hid (HB.out.trans (hb2.mono hz))
  clear ho2 hb2
  go_wp2_with fail
  go_ret
  exact ⟨a2, c2, rfl, HO.out, HB2.out⟩

set_option maxRecDepth 100000 in
theorem cprint_text {w : World} {B p : Nat} {l : List UInt8} {a : Option Addr} {n c : Nat} {t : List Int} (x y : Int) (h : Ar w B p l) (hl : l.length ≤ 16384) (hx : Tx w (.slice a n c) t) (hin : InL l t) :
    Calls Tryz.prog 108 #[cellV a n c x y false, .pointer (some ⟨p, 0, none⟩)] w (BytesPost (putP (atL l t)) w) := by
  have al := below_al w (Obj.cells #[Value.slice a n c, Value.int .i64 x, Value.int .i64 y, Value.bool false] 61)
  have HF := Lib.hid (cbytes_of x y false (h.below al) hl (hx.below al) hin)
  have hfl : (atL l t).length ≤ 20000 := by
    obtain ⟨_, _, _, _, hs, _⟩ := hx
    rw [atL_len]; exact hs.1
  have HB := Lib.hid al
  have k0 : (w.alloc (Obj.cells #[Value.slice a n c, Value.int .i64 x, Value.int .i64 y, Value.bool false] 61)).cell? ⟨w.heap.size, 0, none⟩ = some (.slice a n c) := by rw [cell_at (heap_alloc_new w _)]; rfl
  have k1 : (w.alloc (Obj.cells #[Value.slice a n c, Value.int .i64 x, Value.int .i64 y, Value.bool false] 61)).cell? ⟨w.heap.size, 1, none⟩ = some (.int .i64 x) := by rw [cell_at (heap_alloc_new w _)]; rfl
  have k2 : (w.alloc (Obj.cells #[Value.slice a n c, Value.int .i64 x, Value.int .i64 y, Value.bool false] 61)).cell? ⟨w.heap.size, 2, none⟩ = some (.int .i64 y) := by rw [cell_at (heap_alloc_new w _)]; rfl
  have k3 : (w.alloc (Obj.cells #[Value.slice a n c, Value.int .i64 x, Value.int .i64 y, Value.bool false] 61)).cell? ⟨w.heap.size, 3, none⟩ = some (.bool false) := by rw [cell_at (heap_alloc_new w _)]; rfl
  have hz : (w.alloc (Obj.cells #[Value.slice a n c, Value.int .i64 x, Value.int .i64 y, Value.bool false] 61)).heap.size ≥ w.heap.size := al.size
  clear h hx al
  generalize atL l t = f at *
  go_enter Tryz.func108, Tryz.ntmps108
  go_wp2_with fail
  refine HF.out.mono ?_; rintro e w2 ⟨a2, c2, rfl, ho2, hb2⟩
  have HP := Lib.hid (qput_of (c := c2) (own_rd ho2) (by omega))
  have HB2 := Lib.hid (HB.out.trans (hb2.mono hz))
  have hz2 : w2.heap.size ≥ w.heap.size := HB2.out.size
  clear ho2 hb2 k0 k1 k2 k3
  generalize putP f = g at *
  go_wp2_with fail
  refine HP.out.mono ?_; rintro e w3 ⟨a3, c3, rfl, ho3, hb3⟩
  have HO := Lib.hid (own_mono ho3 hz2)
  have HB3 := Lib.hid (HB2.out.trans (hb3.mono hz2))
  clear ho3 hb3
  go_wp2_with fail
  go_ret
  exact ⟨a3, c3, rfl, HO.out, HB3.out⟩

/-- What a drawn region keeps that ends in a store into one variable of four cells. -/
def SxC (T b : Nat) (w1 w : World) : Prop := Below b w1 w ∧ ∃ x0 x1 x2 x3, w.heap[b]? = some (.cells #[x0, x1, x2, x3] T (0, 0))
theorem SxC.under {T b : Nat} {w1 w w' : World} (h : SxC T b w1 w) (hb : Below w.heap.size w w') : SxC T b w1 w' := by
  obtain ⟨h1, x0, x1, x2, x3, h2⟩ := h
  exact ⟨h1.trans (hb.mono (Nat.le_of_lt (lt_of_heap h2))), x0, x1, x2, x3, (hb.block b (lt_of_heap h2)).trans h2⟩
theorem SxC.set {T b : Nat} {w1 w : World} {u0 u1 u2 u3 : Value} (h : SxC T b w1 w) : SxC T b w1 ((((w.setCell ⟨b, 0, none⟩ u0).setCell ⟨b, 1, none⟩ u1).setCell ⟨b, 2, none⟩ u2).setCell ⟨b, 3, none⟩ u3) := by
  obtain ⟨h1, x0, x1, x2, x3, h2⟩ := h
  exact ⟨set4_below h1 (Nat.le_refl _) _ _ _ _, u0, u1, u2, u3, set4_at h2 _ _ _ _⟩
theorem SxC.cell {T b g o : Nat} {w1 w : World} (h : SxC T b w1 w) (hg : g < b) : w.cell? ⟨g, o, none⟩ = w1.cell? ⟨g, o, none⟩ := h.1.cell (p := ⟨g, o, none⟩) hg

set_option maxRecDepth 100000 in
set_option maxHeartbeats 1000000 in
theorem cload_of {w : World} {x y k : Int} {a : Option Addr} {c : Nat} {L : List Sp} (hr : Rd w 2 a L.length (spC L)) (hl : L.length ≤ 100000) (h40 : ∀ s ∈ L, In40 s.1 ∧ (1 ≤ s.2 → In40 s.2)) (hs : Sm (ex L)) :
    Calls Tryz.prog 99 #[.agg #[.int .i64 x, .int .i64 y, .int .i64 k, .slice a L.length c]] w fun e w' => ∃ a' n' c', e = .returned (cellV a' n' c' x y true) ∧ TxB w.heap.size w' (.slice a' n' c') (ex L) ∧ Below w.heap.size w w' := by
  obtain ⟨w1, hw1⟩ : ∃ w1, w1 = allocs w [Obj.cells #[Value.int .i64 x, Value.int .i64 y, Value.int .i64 k, Value.slice a L.length c] 180, Obj.cells #[Value.slice none 0 0, Value.int .i64 0, Value.int .i64 0, Value.bool false] 61] := ⟨_, rfl⟩
  have HB1 : Hid (Below w.heap.size w w1) := by rw [hw1]; exact Lib.hid (allocs_below _ w)
  have hzw : w1.heap.size > w.heap.size + 1 := by rw [hw1, allocs_size]; simp
  have h0 : w1.heap[w.heap.size]? = some (.cells #[Value.int .i64 x, Value.int .i64 y, Value.int .i64 k, Value.slice a L.length c] 180 (0, 0)) := by rw [hw1]; exact allocs_at _ w 0 _ rfl
  have h1 : w1.heap[w.heap.size + 1]? = some (.cells #[Value.slice none 0 0, Value.int .i64 0, Value.int .i64 0, Value.bool false] 61 (0, 0)) := by rw [hw1]; exact allocs_at _ w 1 _ rfl
  have S0 : SxC 61 (w.heap.size + 1) w1 w1.drew := ⟨(Below.refl _ _).drew, _, _, _, _, h1⟩
  have ld0 := fun w' (h : SxC 61 (w.heap.size + 1) w1 w') => (h.cell (g := w.heap.size) (o := 0) (by omega)).trans (show w1.cell? ⟨w.heap.size, 0, none⟩ = some (.int .i64 x) by rw [cell_at h0]; rfl)
  have ld1 := fun w' (h : SxC 61 (w.heap.size + 1) w1 w') => (h.cell (g := w.heap.size) (o := 1) (by omega)).trans (show w1.cell? ⟨w.heap.size, 1, none⟩ = some (.int .i64 y) by rw [cell_at h0]; rfl)
  have ld3 := fun w' (h : SxC 61 (w.heap.size + 1) w1 w') => (h.cell (g := w.heap.size) (o := 3) (by omega)).trans (show w1.cell? ⟨w.heap.size, 3, none⟩ = some (.slice a L.length c) by rw [cell_at h0]; rfl)
  have HOf : Hid (∀ w', Below (w.heap.size + 1) w1 w' → Calls Tryz.prog 146 #[.slice a L.length c] w' fun e w2 => ∃ a n c, e = .returned (.agg #[.slice a n c]) ∧ TxB w'.heap.size w2 (.slice a n c) (ex L) ∧ Below w'.heap.size w' w2) := fun w' h => by
    refine (tof_of (c := c) (hr.below (HB1.out.trans (h.mono (by omega)))) hl h40 hs).mono ?_
    rintro e w2 ⟨v', rfl, hx, hb⟩
    have hx2 := hx
    obtain ⟨a2, c2, rfl, -, -, -, -⟩ := hx2
    exact ⟨a2, _, c2, rfl, hx, hb⟩
  clear h0 h1 hr
  go_enter Tryz.func99, Tryz.ntmps99
  go_upto_region 1 with fail
  rw [show (w.alloc (Obj.cells #[Value.int .i64 x, Value.int .i64 y, Value.int .i64 k, Value.slice a L.length c] 180)).alloc (Obj.cells #[Value.slice none 0 0, Value.int .i64 0, Value.int .i64 0, Value.bool false] 61) = w1 from hw1.symm]
  clear hw1
  go_region_held_law (fun w' => SxC 61 (w.heap.size + 1) w1 w')
    (first | assumption | exact SxC.set (by assumption))
    ((go_at_call 146; refine (HOf.out w1.drew S0.1).mono ?_; rintro e w2 ⟨a2, n2, c2, rfl, hx2, hb2⟩; have hs2 := S0.under hb2; have HX2 := Lib.hid hx2; have HB2 := Lib.hid hb2; obtain ⟨hlow, y0, y1, y2, y3, hh2⟩ := id hs2; have z2 := fun i => unfrozen hh2 i; have p0 : w2.cell? ⟨w.heap.size + 1, 0, none⟩ = some y0 := (by rw [cell_at hh2]; rfl); have p1 : w2.cell? ⟨w.heap.size + 1, 1, none⟩ = some y1 := (by rw [cell_at hh2]; rfl); have p2 : w2.cell? ⟨w.heap.size + 1, 2, none⟩ = some y2 := (by rw [cell_at hh2]; rfl); have p3 : w2.cell? ⟨w.heap.size + 1, 3, none⟩ = some y3 := (by rw [cell_at hh2]; rfl); have HH2 := Lib.hid hh2; have HLo := Lib.hid hlow; clear hx2 hb2 hh2 hlow))
  all_goals
    go_wp2_with fail
    have hs := set4_at HH2.out (.slice a2 n2 c2) (.int .i64 x) (.int .i64 y) (.bool true)
    have hB := set4_below (HB1.out.trans (HLo.out.mono (by omega))) (show w.heap.size ≤ w.heap.size + 1 by omega) (.slice a2 n2 c2) (.int .i64 x) (.int .i64 y) (.bool true)
    have hX := HX2.out.set4 (b := w.heap.size + 1) (show w.heap.size + 1 < w1.drew.heap.size from hzw) (.slice a2 n2 c2) (.int .i64 x) (.int .i64 y) (.bool true)
    have q0 : (set4 w2 (w.heap.size + 1) (.slice a2 n2 c2) (.int .i64 x) (.int .i64 y) (.bool true)).cell? ⟨w.heap.size + 1, 0, none⟩ = some (.slice a2 n2 c2) := by rw [cell_at hs]; rfl
    have q1 : (set4 w2 (w.heap.size + 1) (.slice a2 n2 c2) (.int .i64 x) (.int .i64 y) (.bool true)).cell? ⟨w.heap.size + 1, 1, none⟩ = some (.int .i64 x) := by rw [cell_at hs]; rfl
    have q2 : (set4 w2 (w.heap.size + 1) (.slice a2 n2 c2) (.int .i64 x) (.int .i64 y) (.bool true)).cell? ⟨w.heap.size + 1, 2, none⟩ = some (.int .i64 y) := by rw [cell_at hs]; rfl
    have q3 : (set4 w2 (w.heap.size + 1) (.slice a2 n2 c2) (.int .i64 x) (.int .i64 y) (.bool true)).cell? ⟨w.heap.size + 1, 3, none⟩ = some (.bool true) := by rw [cell_at hs]; rfl
    unfold set4 at hB q0 q1 q2 q3 hX
    exact bodyPost_ret (v := cellV a2 n2 c2 x y true) (by simp [results, Tryz.results99, go_sem, q0, q1, q2, q3]) rfl ⟨a2, n2, c2, rfl, hX.mono (by show w.heap.size ≤ w1.heap.size; omega), hB⟩

end Go.Proofs.YtkgakgceamafcaaGreat

namespace Go.Proofs.YtkgakgceamafcaaGreat
open Go Go.RowKit
set_option linter.unusedVariables false


end Go.Proofs.YtkgakgceamafcaaGreat
