/-
  The contract of quote's Put, at this seat's numbers.
-/
import Derived.Test.YtmdifcgnmkpecaaQuA
import Derived.Test.YtmdifcgnmkpecaaScF
namespace Go.Proofs.Ytmdifcgnmkpecaa
open Go Go.RowKit
set_option linter.unusedVariables false

theorem dup_take {l : List UInt8} {k : Nat} (h : k < l.length) : (l.take (k + 1)).flatMap dupB = (l.take k).flatMap dupB ++ dupB l[k] := by
  rw [List.take_succ_eq_append_getElem h, List.flatMap_append]; simp
theorem dup_len (l : List UInt8) : (l.flatMap dupB).length ≤ 2 * l.length := by
  induction l with
  | nil => simp
  | cons c l ih =>
    have : (dupB c).length ≤ 2 := by unfold dupB; split <;> simp
    rw [List.flatMap_cons, List.length_append, List.length_cons]; omega
theorem lb_el {l : List UInt8} {k : Nat} (h : k < l.length) : lb l k = (l[k].toNat : Int) := by
  unfold lb; rw [List.getD_eq_getElem?_getD, List.getElem?_eq_getElem h]; rfl
theorem dup_yes {l : List UInt8} {k : Nat} (h : k < l.length) (h2 : lb l k = 34) : bc (dupB l[k]) = [.int .u8 34, .int .u8 34] := by
  rw [lb_el h] at h2
  unfold dupB; rw [if_pos h2]; unfold bc; simp [h2]
theorem dup_no {l : List UInt8} {k : Nat} (h : k < l.length) (h2 : lb l k ≠ 34) : bc (dupB l[k]) = [.int .u8 (lb l k)] := by
  have h3 := lb_el h
  rw [h3] at h2 ⊢
  unfold dupB; rw [if_neg h2]; rfl
theorem own_byte {w : World} {B g : Nat} {e : TypeId} {x : Value} (hB : B ≤ g) (h : w.heap[g]? = some (.cells #[x] e (0, 0))) : w.ownsRow B e 1 (.slice (some ⟨g, 0, none⟩) 1 1) 1 [x] :=
  ⟨rfl, .inr ⟨g, 1, #[x], rfl, hB, h, Nat.le_refl _, (by unfold maxLen; omega), rfl, rfl⟩⟩

/-- What is there at the head of Put's loop. -/
def PutJ (l : List UInt8) (w : World) (v3 v14 : Value) (wr : World) : Prop := ∃ (k n : Nat) (a : Option Addr) (c : Nat) (xs : List Value), v14 = .int .i64 k ∧ k ≤ l.length ∧ v3 = .slice a n c ∧ n = (34 :: (l.take k).flatMap dupB).length ∧ xs = bc (34 :: (l.take k).flatMap dupB) ∧ wr.ownsRow w.heap.size 5 1 (.slice a n c) n xs ∧ Below w.heap.size w wr

set_option maxRecDepth 100000 in
set_option maxHeartbeats 4000000 in
theorem qput_of {w : World} {a : Option Addr} {c : Nat} {l : List UInt8} (hr : Rd w 1 a l.length (bc l)) (hl : l.length ≤ 1000000) :
    Calls Try.prog 54 #[.slice a l.length c] w (BytesPost (putP l) w) := by
  have HN := Lib.hid (qneeds_of (c := c) hr hl)
  unfold putP
  by_cases hn : needsP l = true
  · rw [if_pos hn]
    rw [hn] at HN
    obtain ⟨i0, hi0, hz0, hz1, hz2⟩ := info_parts info_u8
    have al := below_al w (Obj.cells #[Value.int IntKind.u8 34] 5)
    have HR := Lib.hid hr
    have HBa := Lib.hid al
    have HOa := Lib.hid (own_byte (Nat.le_refl _) (heap_alloc_new w (Obj.cells #[Value.int IntKind.u8 34] 5)))
    clear hr hn al
    go_enter Try.func54, Try.ntmps54
    go_wp2_with fail
    refine HN.out.mono ?_; rintro e wx ⟨rfl, rfl⟩
    clear HN
    go_wp2_with fail
    generalize w.alloc (Obj.cells #[Value.int IntKind.u8 34] 5) = w1 at *
    go_loopw [3, 14] (fun v3 v14 wr => PutJ l w v3 v14 wr) (fun _ v14 _ => l.length - (intOf v14).toNat)
    case atStart => exact ⟨0, 1, _, _, _, rfl, by omega, rfl, rfl, rfl, HOa.out, HBa.out⟩
    case round =>
      obtain ⟨k, n, a3, c3, xs, rfl, hk, rfl, hn, hxs, ho, hb⟩ := hrel
      have HNN := Lib.hid hn
      have HXS := Lib.hid hxs
      have HO := Lib.hid ho
      have HB := Lib.hid hb
      have hzr := hb.size
      have hnl : n ≤ 3000000 := by
        have := dup_len (l.take k)
        rw [List.length_take] at this
        rw [hn, List.length_cons]; omega
      clear hn hxs ho hb
      by_cases hlt : k < l.length
      · have dk : decide (k < l.length) = true := decide_eq_true hlt
        obtain ⟨b, off, rfl, hbl, hc0⟩ := rd_at (HR.out.below HB.out) hlt
        have hdt := dup_take hlt
        by_cases h34 : lb l k = 34
        · have hdy := dup_yes hlt h34
          have HE : Hid (n + 1 + 1 = (34 :: (l.take (k + 1)).flatMap dupB).length) := by
            show _ = _
            have h1 := congrArg List.length hdy
            rw [bc_len] at h1
            have h2 := HNN.out
            rw [List.length_cons] at h2
            rw [hdt, List.length_cons, List.length_append, h1]
            simp only [List.length_cons, List.length_nil]; omega
          have HX : Hid (xs ++ [.int .u8 34, .int .u8 34] = bc (34 :: (l.take (k + 1)).flatMap dupB)) := by
            show _ = _
            rw [hdt, HXS.out, show bc (34 :: ((l.take k).flatMap dupB ++ dupB l[k])) = bc (34 :: (l.take k).flatMap dupB) ++ bc (dupB l[k]) by unfold bc; simp, hdy]
          rw [h34] at hc0
          clear hdt hdy h34
          have C1 : Hid (∀ q u, ([.int .u8 34] : List Value)[q]? = some u → (wr.alloc (Obj.cells #[Value.int IntKind.u8 34] 5)).cell? (Addr.add ⟨wr.heap.size, 0, none⟩ q) = some u) := by
            intro q u hq
            rw [Addr.add_lit, Nat.zero_add]
            rw [cell_at (heap_alloc_new wr _)]
            simpa using hq
          have C2 : Hid (∀ u ∈ ([.int .u8 34] : List Value), u.oneCell' = true) := by
            intro u hu
            obtain rfl := List.mem_singleton.1 hu; rfl
          have C3 : Hid (n + 1 ≤ maxLen) := by show _ ≤ _; unfold maxLen; omega
          have C4 : Hid ((n + 1) * 1 ≤ 140737488355328) := by show _ ≤ _; omega
          have C5 : Hid (w.heap.size ≤ (wr.alloc (Obj.cells #[Value.int IntKind.u8 34] 5)).heap.size) := by show _ ≤ _; simp only [World.size_alloc]; omega
          have HOA := Lib.hid (HO.out.alloc (Obj.cells #[Value.int IntKind.u8 34] 5))
          go_wp2_with (first
            | (at_builtin; refine wpList_append_own _ rfl (.tmp 20) (.tmp 22) 27 rfl w.heap.size 5 i0 (.int .u8 0) 1 1 Try.underlying27 hi0 hz0 hz1 hz2 rfl (by decide) (.slice a3 n c3) n xs rfl HOA.out ⟨wr.heap.size, 0, none⟩ 1 1 [.int .u8 34] rfl rfl C1.out C2.out C3.out C4.out C5.out ?_)
            | fail)
          intro v7 wB ho7 hg7 _
          obtain ⟨a8, c8, rfl⟩ := own_slice ho7
          have HOB := Lib.hid ho7
          have HBB := Lib.hid ((HB.out.alloc (by have := HB.out.size; omega) _).grown hg7 (by simp only [World.size_alloc]; omega) (fun q hq => (HO.out.lt q hq).1))
          have hzB : w.heap.size ≤ wB.heap.size := HBB.out.size
          clear ho7 hg7 C1 C2 C3 C4 C5 HOA
          have C1 : Hid (∀ q u, ([.int .u8 34] : List Value)[q]? = some u → (wB.alloc (Obj.cells #[Value.int IntKind.u8 34] 5)).cell? (Addr.add ⟨wB.heap.size, 0, none⟩ q) = some u) := by
            intro q u hq
            rw [Addr.add_lit, Nat.zero_add]
            rw [cell_at (heap_alloc_new wB _)]
            simpa using hq
          have C2 : Hid (∀ u ∈ ([.int .u8 34] : List Value), u.oneCell' = true) := by
            intro u hu
            obtain rfl := List.mem_singleton.1 hu; rfl
          have C3 : Hid ((n + 1) + 1 ≤ maxLen) := by show _ ≤ _; unfold maxLen; omega
          have C4 : Hid (((n + 1) + 1) * 1 ≤ 140737488355328) := by show _ ≤ _; omega
          have C5 : Hid (w.heap.size ≤ (wB.alloc (Obj.cells #[Value.int IntKind.u8 34] 5)).heap.size) := by show _ ≤ _; simp only [World.size_alloc]; omega
          have HOA := Lib.hid (HOB.out.alloc (Obj.cells #[Value.int IntKind.u8 34] 5))
          go_wp2_with (first
            | (at_builtin; refine wpList_append_own _ rfl (.tmp 24) (.tmp 26) 27 rfl w.heap.size 5 i0 (.int .u8 0) 1 1 Try.underlying27 hi0 hz0 hz1 hz2 rfl (by decide) (.slice a8 (n + 1) c8) (n + 1) (xs ++ [.int .u8 34]) rfl HOA.out ⟨wB.heap.size, 0, none⟩ 1 1 [.int .u8 34] rfl rfl C1.out C2.out C3.out C4.out C5.out ?_)
            | fail)
          intro v7 wC ho7 hg7 _
          obtain ⟨a9, c9, rfl⟩ := own_slice ho7
          have HOC := Lib.hid ho7
          have HBC := Lib.hid ((HBB.out.alloc (by have := HBB.out.size; omega) _).grown hg7 (by simp only [World.size_alloc]; omega) (fun q hq => (HOB.out.lt q hq).1))
          have hzC : w.heap.size ≤ wC.heap.size := HBC.out.size
          clear ho7 hg7 C1 C2 C3 C4 C5 HOA
          go_wp2_with fail
          go_roundw
          case rel => exact ⟨k + 1, n + 1 + 1, a9, c9, _, by go_num, hlt, rfl, HE.out, HX.out, HOC.out, HBC.out⟩
          case measure => simp [intOf]; omega
        · have hdn := dup_no hlt h34
          have d34 : (lb l k == 34) = false := by simpa using h34
          have HE : Hid (n + 1 = (34 :: (l.take (k + 1)).flatMap dupB).length) := by
            show _ = _
            have h1 := congrArg List.length hdn
            rw [bc_len] at h1
            have h2 := HNN.out
            rw [List.length_cons] at h2
            rw [hdt, List.length_cons, List.length_append, h1]
            simp only [List.length_cons, List.length_nil]; omega
          have HX : Hid (xs ++ [.int .u8 (lb l k)] = bc (34 :: (l.take (k + 1)).flatMap dupB)) := by
            show _ = _
            rw [hdt, HXS.out, show bc (34 :: ((l.take k).flatMap dupB ++ dupB l[k])) = bc (34 :: (l.take k).flatMap dupB) ++ bc (dupB l[k]) by unfold bc; simp, hdn]
          clear hdt hdn h34
          generalize lb l k = x at *
          have C1 : Hid (∀ q u, ([.int .u8 x] : List Value)[q]? = some u → (wr.alloc (Obj.cells #[Value.int IntKind.u8 x] 5)).cell? (Addr.add ⟨wr.heap.size, 0, none⟩ q) = some u) := by
            intro q u hq
            rw [Addr.add_lit, Nat.zero_add]
            rw [cell_at (heap_alloc_new wr _)]
            simpa using hq
          have C2 : Hid (∀ u ∈ ([.int .u8 x] : List Value), u.oneCell' = true) := by
            intro u hu
            obtain rfl := List.mem_singleton.1 hu; rfl
          have C3 : Hid (n + 1 ≤ maxLen) := by show _ ≤ _; unfold maxLen; omega
          have C4 : Hid ((n + 1) * 1 ≤ 140737488355328) := by show _ ≤ _; omega
          have C5 : Hid (w.heap.size ≤ (wr.alloc (Obj.cells #[Value.int IntKind.u8 x] 5)).heap.size) := by show _ ≤ _; simp only [World.size_alloc]; omega
          have HOA := Lib.hid (HO.out.alloc (Obj.cells #[Value.int IntKind.u8 x] 5))
          go_wp2_with (first
            | (at_builtin; refine wpList_append_own _ rfl (.tmp 24) (.tmp 26) 27 rfl w.heap.size 5 i0 (.int .u8 0) 1 1 Try.underlying27 hi0 hz0 hz1 hz2 rfl (by decide) (.slice a3 n c3) n xs rfl HOA.out ⟨wr.heap.size, 0, none⟩ 1 1 [.int .u8 x] rfl rfl C1.out C2.out C3.out C4.out C5.out ?_)
            | fail)
          intro v7 wB ho7 hg7 _
          obtain ⟨a8, c8, rfl⟩ := own_slice ho7
          have HOB := Lib.hid ho7
          have HBB := Lib.hid ((HB.out.alloc (by have := HB.out.size; omega) _).grown hg7 (by simp only [World.size_alloc]; omega) (fun q hq => (HO.out.lt q hq).1))
          have hzB : w.heap.size ≤ wB.heap.size := HBB.out.size
          clear ho7 hg7 C1 C2 C3 C4 C5 HOA
          go_wp2_with fail
          go_roundw
          case rel => exact ⟨k + 1, n + 1, a8, c8, _, by go_num, hlt, rfl, HE.out, HX.out, HOB.out, HBB.out⟩
          case measure => simp [intOf]; omega
      · have dk : decide (k < l.length) = false := decide_eq_false hlt
        obtain rfl : k = l.length := by omega
        have C1 : Hid (∀ q u, ([.int .u8 34] : List Value)[q]? = some u → (wr.alloc (Obj.cells #[Value.int IntKind.u8 34] 5)).cell? (Addr.add ⟨wr.heap.size, 0, none⟩ q) = some u) := by
          intro q u hq
          rw [Addr.add_lit, Nat.zero_add]
          rw [cell_at (heap_alloc_new wr _)]
          simpa using hq
        have C2 : Hid (∀ u ∈ ([.int .u8 34] : List Value), u.oneCell' = true) := by
          intro u hu
          obtain rfl := List.mem_singleton.1 hu; rfl
        have C3 : Hid (n + 1 ≤ maxLen) := by show _ ≤ _; unfold maxLen; omega
        have C4 : Hid ((n + 1) * 1 ≤ 140737488355328) := by show _ ≤ _; omega
        have C5 : Hid (w.heap.size ≤ (wr.alloc (Obj.cells #[Value.int IntKind.u8 34] 5)).heap.size) := by show _ ≤ _; simp only [World.size_alloc]; omega
        have HOA := Lib.hid (HO.out.alloc (Obj.cells #[Value.int IntKind.u8 34] 5))
        go_wp2_with (first
          | (at_builtin; refine wpList_append_own _ rfl (.tmp 29) (.tmp 30) 27 rfl w.heap.size 5 i0 (.int .u8 0) 1 1 Try.underlying27 hi0 hz0 hz1 hz2 rfl (by decide) (.slice a3 n c3) n xs rfl HOA.out ⟨wr.heap.size, 0, none⟩ 1 1 [.int .u8 34] rfl rfl C1.out C2.out C3.out C4.out C5.out ?_)
          | fail)
        intro v7 wB ho7 hg7 _
        obtain ⟨a8, c8, rfl⟩ := own_slice ho7
        have HOB := Lib.hid ho7
        have HBB := Lib.hid ((HB.out.alloc (by have := HB.out.size; omega) _).grown hg7 (by simp only [World.size_alloc]; omega) (fun q hq => (HO.out.lt q hq).1))
        have hzB : w.heap.size ≤ wB.heap.size := HBB.out.size
        clear ho7 hg7 C1 C2 C3 C4 C5 HOA
        go_wp2_with fail
        go_ret
        refine ⟨a8, c8, ?_, ?_, HBB.out⟩
        · rw [List.length_cons, List.length_append]
          have := HNN.out
          rw [List.take_length, List.length_cons] at this
          rw [this]; rfl
        · have h1 := HNN.out
          have h2 := HXS.out
          rw [List.take_length] at h1 h2
          rw [List.length_cons] at h1
          have h3 := HOB.out
          rw [h2] at h3
          rw [h1] at h3
          have e1 : (34 :: (l.flatMap dupB ++ [34])).length = (l.flatMap dupB).length + 1 + 1 := by simp
          have e2 : bc (34 :: (l.flatMap dupB ++ [34])) = bc (34 :: l.flatMap dupB) ++ [.int .u8 34] := by unfold bc; simp
          rw [e1, e2]
          exact h3
  · rw [if_neg hn]
    rw [Bool.eq_false_iff.2 hn] at HN
    have HC := Lib.hid (clone_rd a c hr (by omega))
    clear hr hn
    go_enter Try.func54, Try.ntmps54
    go_wp2_with fail
    refine HN.out.mono ?_; rintro e wx ⟨rfl, rfl⟩
    go_wp2_with fail
    refine HC.out.mono ?_; rintro e w2 ⟨a2, c2, rfl, ho, hb⟩
    have HO := Lib.hid ho
    have HB := Lib.hid hb
    clear ho hb HC HN
    go_wp2_with fail
    go_ret
    exact ⟨a2, c2, rfl, HO.out, HB.out⟩

end Go.Proofs.Ytmdifcgnmkpecaa
