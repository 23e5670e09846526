/-
  The contracts of the arena's Byte and Bytes, at this seat's numbers.
-/
import Derived.Test.YtmdifcgnmkpecaaArA
import Derived.Laws.CopyOwn
import Derived.Deep.RegionLaw
namespace Go.Proofs.Ytmdifcgnmkpecaa
open Go Go.RowKit
set_option linter.unusedVariables false

theorem info_u8 : (Try.prog.info? 5).map (fun i => (i.zero, i.size, i.bytes)) = some (some (.int .u8 0), 1, 1) := by kernel_rfl

/-- The bytes of a span; none, if it does not lie within. -/
def subL (l : List UInt8) (at_ m : Int) : List UInt8 := if rightB l.length at_ m = true then (l.drop at_.toNat).take m.toNat else []
theorem subL_len (l : List UInt8) (i k : Nat) (h : i + k ≤ l.length) : (subL l i k).length = k := by
  unfold subL rightB
  rw [if_pos (by simp; omega)]; simp; omega

/-- What Bytes hands back. -/
def BytesPost (l : List UInt8) (w : World) (e : Ending) (w' : World) : Prop :=
  ∃ a c, e = .returned (.slice a l.length c) ∧ w'.ownsRow w.heap.size 5 1 (.slice a l.length c) l.length (bc l) ∧ Below w.heap.size w w'

theorem bytes_nil (at_ m : Int) (w : World) : Calls Try.prog 53 #[.pointer none, .agg #[.int .i64 at_, .int .i64 m]] w (BytesPost [] w) := by
  have HC := Lib.hid (fun w => right_nil at_ m w)
  go_enter Try.func53, Try.ntmps53
  go_wp2_with fail
  refine (HC.out _).mono ?_; rintro e w1 ⟨rfl, hb⟩
  have HB := Lib.hid hb
  clear hb HC
  go_wp2_with fail
  go_ret
  exact ⟨none, 0, rfl, ⟨by simp [bc], .inl ⟨rfl, rfl⟩⟩, ((Below.refl _ w).alloc (Nat.le_refl _) _).trans (HB.out.mono (by simp))⟩

set_option maxHeartbeats 800000 in
theorem bytes_no {w : World} {B p : Nat} {l : List UInt8} (h : Ar w B p l) (hl : l.length ≤ 16384) (at_ m : Int) (hn : rightB l.length at_ m = false) : Calls Try.prog 53 #[.pointer (some ⟨p, 0, none⟩), .agg #[.int .i64 at_, .int .i64 m]] w (BytesPost [] w) := by
  have h' : Ar (w.alloc (.cells #[.int .i64 at_, .int .i64 m] 39)) B p l := h.below ((Below.refl _ w).alloc (Nat.le_refl _) _)
  have hc := right_of h' hl at_ m
  rw [hn] at hc
  have HC := Lib.hid hc
  clear hc h' h hn
  go_enter Try.func53, Try.ntmps53
  go_wp2_with fail
  refine HC.out.mono ?_; rintro e w1 ⟨rfl, hb⟩
  have HB := Lib.hid hb
  clear hb HC
  go_wp2_with fail
  go_ret
  exact ⟨none, 0, rfl, ⟨by simp [bc], .inl ⟨rfl, rfl⟩⟩, ((Below.refl _ w).alloc (Nat.le_refl _) _).trans (HB.out.mono (by simp))⟩

theorem below_grown {w w1 w2 : World} {W : World} {row : Option Nat} (h : Below W.heap.size W w1) (g : w1.grownBy w2 none) : Below W.heap.size W w2 :=
  h.grown g h.size (by simp)

set_option maxHeartbeats 1600000 in
theorem bytes_yes {w : World} {B p : Nat} {l : List UInt8} (h : Ar w B p l) (hl : l.length ≤ 16384) (i k : Nat) (hik : i + k ≤ l.length) : Calls Try.prog 53 #[.pointer (some ⟨p, 0, none⟩), .agg #[.int .i64 i, .int .i64 k]] w (BytesPost ((l.drop i).take k) w) := by
  obtain ⟨i0, hi0, hz0, hz1, hz2⟩ := info_parts info_u8
  have h' : Ar (w.alloc (.cells #[.int .i64 i, .int .i64 k] 39)) B p l := h.below ((Below.refl _ w).alloc (Nat.le_refl _) _)
  have hc := right_of h' hl i k
  rw [show rightB l.length i k = true by unfold rightB; simp; omega] at hc
  have HC := Lib.hid hc
  clear hc
  obtain ⟨a, c, hc, hr, hl1, hl2, hp⟩ := h'.cell
  have hlen : ((l.drop i).take k).length = k := by simp; omega
  generalize hw0 : w.alloc (.cells #[.int .i64 i, .int .i64 k] 39) = w0 at *
  have hb0 : Below w.heap.size w w0 := by rw [← hw0]; exact (Below.refl _ w).alloc (Nat.le_refl _) _
  have hs0 : w.heap.size < w0.heap.size := by rw [← hw0]; simp
  have hsp0 : w0.cell? ⟨w.heap.size, 0, none⟩ = some (.int .i64 i) := by rw [← hw0]; simp
  have hsp1 : w0.cell? ⟨w.heap.size, 1, none⟩ = some (.int .i64 k) := by rw [← hw0]; simp
  have HW := Lib.hid hw0
  obtain ⟨sp, hsp⟩ : ∃ sp, (if c = i then a else a.map (·.add i)) = sp := ⟨_, rfl⟩
  have hspc : 0 < k → ∃ ad, sp = some ad ∧ ∀ j v, (bc ((l.drop i).take k))[j]? = some v → w0.cell? (ad.add j) = some v := by
    intro hk
    obtain ⟨b, off, rfl, hb, hcl⟩ := hr.2 (by omega)
    rw [if_neg (by unfold maxLen at hl2; omega)] at hsp
    refine ⟨⟨b, off + i, none⟩, by rw [← hsp]; simp [Addr.add_lit], fun j v hj => ?_⟩
    rw [Addr.add_lit, Nat.add_assoc]
    refine hcl (i + j) v ?_
    unfold bc at hj ⊢
    rw [List.getElem?_map, List.getElem?_take] at hj
    rw [List.getElem?_map]
    split at hj
    · rw [List.getElem?_drop] at hj; exact hj
    · simp at hj
  have HSP := Lib.hid hspc
  have HSE := Lib.hid hsp
  clear hspc h h' hr
  go_enter Try.func53, Try.ntmps53
  go_wp2_with fail
  clear hw0
  refine HC.out.mono ?_; rintro e w1 ⟨rfl, hb⟩
  have hsp01 : w1.cell? ⟨w.heap.size, 0, none⟩ = some (.int .i64 i) := by rw [hb.cell (p := ⟨w.heap.size, 0, none⟩) hs0]; exact hsp0
  have hsp11 : w1.cell? ⟨w.heap.size, 1, none⟩ = some (.int .i64 k) := by rw [hb.cell (p := ⟨w.heap.size, 1, none⟩) hs0]; exact hsp1
  have hc1 : w1.cell? ⟨p, 0, none⟩ = some (.slice a l.length c) := by rw [hb.cell (p := ⟨p, 0, none⟩) hp]; exact hc
  have hz1' := hb.size
  have HB1 := Lib.hid (hb0.trans (hb.mono hb0.size))
  have HBB := Lib.hid hb
  clear hb hc hsp0 hsp1
  go_wp2_with (at_make; refine wpList_make_full _ rfl _ _ 27 rfl w.heap.size 5 i0 (.int .u8 0) 1 Try.underlying27 hi0 hz0 hz1 .i64 .i64 _ _ k rfl rfl rfl rfl ?b2 ?b3 ?b4 ?_)
  case b2 => rw [hz2]; omega
  case b3 => unfold maxLen; omega
  case b4 => omega
  intro w2 hown hgrow
  have hb2 : Below w1.heap.size w1 w2 := (Below.refl _ _).grown hgrow (Nat.le_refl _) (by simp)
  have hg2 : w1.heap.size < w2.heap.size := (hown.lt _ rfl).2
  obtain ⟨cur, hcur, hcs⟩ : ∃ cur : Array Value, w2.heap[w1.heap.size]? = some (.cells cur 5 (0, 0)) ∧ cur.size = k := by
    rcases hown.2 with ⟨e, _⟩ | ⟨g, cap, cur, e, _, h3, _, _, h6, _⟩
    · cases e
    · injection e with e1 _ e2
      injection e1 with e1
      injection e1 with e1
      subst e1 e2
      exact ⟨cur, h3, by omega⟩
  have hsp02 : w2.cell? ⟨w.heap.size, 0, none⟩ = some (.int .i64 i) := by rw [hb2.cell (p := ⟨w.heap.size, 0, none⟩) (by simp; omega)]; exact hsp01
  have hc2 : w2.cell? ⟨p, 0, none⟩ = some (.slice a l.length c) := by rw [hb2.cell (p := ⟨p, 0, none⟩) (by simp; omega)]; exact hc1
  have HS2 : Hid (0 < ((bc ((l.drop i).take k)).length) → ∃ ad, sp = some ad ∧ ∀ j v, (bc ((l.drop i).take k))[j]? = some v → w2.drew.cell? (ad.add j) = some v) := by
    intro hk
    rw [bc_len, hlen] at hk
    obtain ⟨ad, e, hcl⟩ := HSP.out hk
    refine ⟨ad, e, fun j v hj => ?_⟩
    have h0 := hcl j v hj
    have hlt := World.block_lt_of_cell? w0 _ h0
    exact (hb2.cell (p := ad.add j) (by omega)).trans ((HBB.out.cell (p := ad.add j) hlt).trans h0)
  have HG2 : Hid (w2.drew.heap[w1.heap.size]? = some (.cells cur.toList.toArray 5 (0, 0))) := by show w2.heap[w1.heap.size]? = _; simpa using hcur
  have HB2 := Lib.hid ((HB1.out.trans (hb2.mono HB1.out.size)).drew)
  have HN : Hid ((bc ((l.drop i).take k)).length = Nat.min (l.length - i) k) := by
    show _ = min _ _
    rw [bc_len, hlen]; omega
  have HF : Hid (0 + (bc ((l.drop i).take k)).length ≤ cur.toList.length) := by
    show _ ≤ _
    rw [bc_len, hlen]; simp [hcs]
  have HO := Lib.hid (bc_one ((l.drop i).take k))
  have HC2 := Lib.hid hcs
  have HL := Lib.hid hlen
  have hu8 : (Try.prog.info? 5).map (·.size) = some 1 := by kernel_rfl
  have HBW := Lib.hid (show w.heap.size ≤ w1.heap.size by omega)
  have hi1 : (i : Int) ≤ l.length := by omega
  have hi2 : (0 : Int) ≤ i := by omega
  clear hcur hcs hgrow hown hlen hsp01 hsp11 hc1 HSP
  go_wp2_with fail
  go_region_law (refine step_copy_splice rfl (.tmp 13) (.tmp 20) 27 27 rfl 5 Try.underlying27 hu8 (some ⟨w1.heap.size, 0, none⟩) sp k k (l.length - i) (c - i) (by simp [Act.eval, Act.put]) (by simp [Act.eval, Act.put]) w1.heap.size 0 cur.toList 5 HG2.out (bc ((l.drop i).take k)) HN.out (fun hk => ⟨rfl, HS2.out hk⟩) HF.out HO.out w.heap.size w HB2.out HBW.out ?_; intro w3 hg3 hb3)
  all_goals
    go_wp2_with fail
    go_ret
    refine ⟨some ⟨w1.heap.size, 0, none⟩, k, by rw [HL.out] <;> rfl, ⟨by rw [bc_len]; omega, .inr ⟨w1.heap.size, k, _, by rw [HL.out], HBW.out, hg3.out, by rw [HL.out]; omega, by unfold maxLen; omega, ?_, ?_⟩⟩, hb3⟩
    · have := HN.out
      have e := HC2.out
      have e2 := HL.out
      simp only [splice, List.size_toArray, List.take_zero, List.nil_append, List.length_append, bc_len, List.length_drop, Array.length_toList]
      omega
    · have e := HC2.out
      have e2 := HL.out
      have e3 : cur.toList.drop (0 + (bc ((l.drop i).take k)).length) = [] := List.drop_eq_nil_of_le (by rw [bc_len, Array.length_toList]; omega)
      simp only [splice, List.take_zero, List.nil_append]
      rw [e3, List.append_nil]
      exact List.take_of_length_le (by rw [bc_len]; omega)

theorem abytes_of {w : World} {B p : Nat} {l : List UInt8} (h : Ar w B p l) (hl : l.length ≤ 16384) (at_ m : Int) : Calls Try.prog 53 #[.pointer (some ⟨p, 0, none⟩), .agg #[.int .i64 at_, .int .i64 m]] w (BytesPost (subL l at_ m) w) := by
  unfold subL
  by_cases hr : rightB l.length at_ m = true
  · rw [if_pos hr]
    have hr' := hr
    unfold rightB at hr'
    simp only [decide_eq_true_eq] at hr'
    obtain ⟨i, rfl⟩ := Int.eq_ofNat_of_zero_le hr'.1
    obtain ⟨k, rfl⟩ := Int.eq_ofNat_of_zero_le hr'.2.1
    exact bytes_yes h hl i k (by omega)
  · rw [if_neg hr]
    exact bytes_no h hl at_ m (by simpa using hr)

end Go.Proofs.Ytmdifcgnmkpecaa
