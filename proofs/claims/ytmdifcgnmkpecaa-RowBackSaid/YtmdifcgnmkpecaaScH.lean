/-
  The contract of scan's All, at this seat's numbers.
-/
import Derived.Test.YtmdifcgnmkpecaaScG
namespace Go.Proofs.Ytmdifcgnmkpecaa
open Go Go.RowKit
set_option linter.unusedVariables false

/-- A row in memory: its fields, and where they lie. -/
abbrev RowM := Rw × List FdM × Option Addr × Nat
def rwC1 (p : RowM) : List Value := [.slice p.2.2.1 p.2.1.length p.2.2.2, .int .i64 p.1.fin]
def rwC (rs : List RowM) : List Value := rs.flatMap rwC1
theorem rwC_snoc (ps : List RowM) (p : RowM) : rwC (ps ++ [p]) = rwC ps ++ rwC1 p := by unfold rwC; simp
theorem rwC_len : ∀ ps : List RowM, (rwC ps).length = ps.length * 2
  | [] => rfl
  | p :: ps => by
    have := rwC_len ps
    have e : rwC (p :: ps) = rwC1 p ++ rwC ps := by unfold rwC; simp
    rw [e, List.length_append, this, List.length_cons]; show 2 + _ = _; omega
theorem rwC_at : ∀ (ps : List RowM) (k : Nat) (p : RowM) (j : Nat), ps[k]? = some p → j < 2 → (rwC ps)[k * 2 + j]? = (rwC1 p)[j]?
  | [], k, p, j, h, _ => by simp at h
  | q :: ps, 0, p, j, h, hj => by
    obtain rfl : q = p := by simpa using h
    have e : rwC (q :: ps) = rwC1 q ++ rwC ps := by unfold rwC; simp
    rw [e, List.getElem?_append_left (by show _ < 2; omega)]; simp
  | q :: ps, k + 1, p, j, h, hj => by
    have e : rwC (q :: ps) = rwC1 q ++ rwC ps := by unfold rwC; simp
    rw [e, List.getElem?_append_right (by show 2 ≤ _; omega)]
    have := rwC_at ps k p j (by simpa using h) hj
    rw [← this]; congr 1; show (k + 1) * 2 + j - 2 = _; omega
/-- A row's fields, and their parts, lie in memory. -/
structure RowIn (w : World) (B : Nat) (p : RowM) : Prop where
  fs : p.2.1.map (·.1) = p.1.fs
  own : w.ownsRow B 42 4 (.slice p.2.2.1 p.2.1.length p.2.2.2) p.2.1.length (fdC p.2.1)
  parts : PartsIn w B p.2.1
def RowsIn (w : World) (B : Nat) (rs : List RowM) : Prop := ∀ p ∈ rs, RowIn w B p
theorem RowIn.below {w w' : World} {B : Nat} {p : RowM} (h : RowIn w B p) (hb : Below w.heap.size w w') : RowIn w' B p := ⟨h.fs, own_below h.own hb, h.parts.below hb⟩
theorem RowIn.mono {w : World} {B B' : Nat} {p : RowM} (h : RowIn w B' p) (hB : B ≤ B') : RowIn w B p := ⟨h.fs, own_mono h.own hB, h.parts.mono hB⟩
theorem RowIn.grown {w w' : World} {B B' sz n : Nat} {e : TypeId} {v : Value} {xs : List Value} {p : RowM} (h : RowIn w B p) (ho : w.ownsRow B' e sz v n xs) (he : e ≠ 39) (he2 : e ≠ 42) (hg : w.grownBy w' v.ownBlock) : RowIn w' B p :=
  ⟨h.fs, own_grown h.own ho (fun e' => he2 e'.symm) hg, h.parts.grown ho he hg⟩
theorem RowsIn.below {w w' : World} {B : Nat} {ps : List RowM} (h : RowsIn w B ps) (hb : Below w.heap.size w w') : RowsIn w' B ps := fun p hp => (h p hp).below hb
theorem RowsIn.mono {w : World} {B B' : Nat} {ps : List RowM} (h : RowsIn w B' ps) (hB : B ≤ B') : RowsIn w B ps := fun p hp => (h p hp).mono hB
theorem RowsIn.grown {w w' : World} {B B' sz n : Nat} {e : TypeId} {v : Value} {xs : List Value} {ps : List RowM} (h : RowsIn w B ps) (ho : w.ownsRow B' e sz v n xs) (he : e ≠ 39) (he2 : e ≠ 42) (hg : w.grownBy w' v.ownBlock) : RowsIn w' B ps := fun p hp => (h p hp).grown ho he he2 hg
theorem RowsIn.snoc {w : World} {B : Nat} {ps : List RowM} {p : RowM} (h : RowsIn w B ps) (hp : RowIn w B p) : RowsIn w B (ps ++ [p]) := by
  intro q hq
  rcases List.mem_append.1 hq with hq | hq
  · exact h q hq
  · obtain rfl := List.mem_singleton.1 hq; exact hp

/-- What a call hands back that tells all rows. -/
def AllPost (R : List Rw) (w : World) (e : Ending) (w' : World) : Prop :=
  ∃ (rs : List RowM) (a : Option Addr) (c : Nat), e = .returned (.slice a rs.length c) ∧ rs.map (·.1) = R ∧ w'.ownsRow w.heap.size 34 2 (.slice a rs.length c) rs.length (rwC rs) ∧ RowsIn w' w.heap.size rs ∧ Below w.heap.size w w'
theorem info_row : (Try.prog.info? 34).map (fun i => (i.zero, i.size, i.bytes)) = some (some (.agg #[.slice none 0 0, .int .i64 0]), 2, 32) := by kernel_rfl

/-- What holds at the head of All's loop. -/
def AllJ (l : List UInt8) (w : World) (v3 v4 : Value) (wr : World) : Prop := ∃ (rs : List RowM) (k : Nat) (a : Option Addr) (c : Nat), v3 = .slice a rs.length c ∧ v4 = .int .i64 k ∧ k ≤ l.length ∧ rs.length ≤ k ∧
  allP l 0 = rs.map (·.1) ++ allP l k ∧ wr.ownsRow w.heap.size 34 2 (.slice a rs.length c) rs.length (rwC rs) ∧ RowsIn wr w.heap.size rs ∧ Below w.heap.size w wr

set_option maxRecDepth 100000 in
set_option maxHeartbeats 4000000 in
theorem all_of {w : World} {a : Option Addr} {c : Nat} {l : List UInt8} (hr : Rd w 1 a l.length (bc l)) (hl : l.length ≤ 1000000) (hlc : l.length ≤ c) (hc : c ≤ maxLen) :
    Calls Try.prog 13 #[.slice a l.length c] w (AllPost (allP l 0) w) := by
  obtain ⟨i0, hi0, hz0, hz1, hz2⟩ := info_parts info_row
  have HR := Lib.hid hr
  clear hr
  go_enter Try.func13, Try.ntmps13
  go_wp2_with fail
  go_loopw [3, 4] (fun v3 v4 wr => AllJ l w v3 v4 wr) (fun _ v4 _ => l.length - (intOf v4).toNat)
  case atStart => exact ⟨[], 0, none, 0, rfl, rfl, by omega, by simp, by simp, own_nil _ _ _ _, fun p hp => by simp at hp, Below.refl _ _⟩
  case round =>
    obtain ⟨rs, k, a3, c3, rfl, rfl, hkn, hrk, hall, ho, hri, hb⟩ := hrel
    have HA := Lib.hid hall
    have HO := Lib.hid ho
    have HI := Lib.hid hri
    have HB := Lib.hid hb
    have hzr := hb.size
    clear hall ho hri hb
    by_cases hlt : k < l.length
    · have dk : decide (k < l.length) = true := decide_eq_true hlt
      obtain ⟨b, off, rfl, hbl, _⟩ := HR.out.2 (by omega)
      have hn := rowP_next hlt
      have hn1 := hn.1
      have hn2 := hn.2
      have HC := Lib.hid (one_of (c := c) (HR.out.below (HB.out)) (Nat.lt_of_lt_of_le hbl hzr) hl hlc hc k hlt)
      have HM := Lib.hid (allP_more hlt)
      clear hn
      generalize rowP l k = R at *
      go_wp2_with fail
      refine HC.out.mono ?_; rintro e w2 ⟨ps, a5, c5, rfl, hfs, ho2, hpi2, hb2⟩
      have hz2 := hb2.size
      have HFS := Lib.hid hfs
      have HO2 := Lib.hid ho2
      have HP2 := Lib.hid hpi2
      have HOr := Lib.hid (own_below HO.out hb2)
      have HIr := Lib.hid (HI.out.below hb2)
      have HBr := Lib.hid (HB.out.trans (hb2.mono hzr))
      have HLN := Lib.hid (rwC_len rs)
      clear hfs ho2 hpi2 hb2 HC
      go_wp2_with (first
        | (at_builtin; refine wpList_append_own _ rfl (.tmp 17) (.tmp 19) 30 rfl w.heap.size 34 i0 (.agg #[.slice none 0 0, .int .i64 0]) 2 32 Try.underlying30 hi0 hz0 hz1 (by assumption) rfl (by decide) (.slice a3 rs.length c3) rs.length (rwC rs) rfl ((HOr.out.alloc _).alloc _) ⟨w2.heap.size + 1, 0, none⟩ 1 1 (rwC1 (R, ps, a5, c5)) rfl rfl ?c1 ?c2 ?c3 ?c4 ?c5 ?_)
        | fail)
      case c1 =>
        intro j u hj
        rw [Addr.add_lit, Nat.zero_add]
        have hn := heap_alloc_new (w2.alloc (Obj.cells #[Value.slice a5 ps.length c5, Value.int IntKind.i64 R.fin] 34)) (Obj.cells #[Value.slice a5 ps.length c5, Value.int IntKind.i64 R.fin] 34)
        rw [World.size_alloc] at hn
        rw [cell_at hn]
        simpa [rwC1] using hj
      case c2 =>
        intro u hu
        simp only [rwC1, List.mem_cons, List.not_mem_nil, or_false] at hu
        rcases hu with rfl | rfl <;> rfl
      case c3 => unfold maxLen; omega
      case c4 => omega
      case c5 => simp only [World.size_alloc]; omega
      intro v7 wB ho7 hg7 _
      obtain ⟨a8, c8, rfl⟩ := own_slice ho7
      have al := (below_al w2 (Obj.cells #[Value.slice a5 ps.length c5, Value.int IntKind.i64 R.fin] 34)).alloc (by simp) (Obj.cells #[Value.slice a5 ps.length c5, Value.int IntKind.i64 R.fin] 34)
      have HOa := own_below HOr.out al
      have HIB := Lib.hid (((HIr.out.below al).grown HOa (by decide) (by decide) hg7).snoc (p := (R, ps, a5, c5)) (((RowIn.mk HFS.out HO2.out HP2.out : RowIn w2 wr.heap.size (R, ps, a5, c5)).mono hzr).below al |>.grown HOa (by decide) (by decide) hg7))
      have HOB := Lib.hid ho7
      have HBB := Lib.hid ((HBr.out.trans (al.mono (by omega))).grown hg7 (by simp only [World.size_alloc]; omega) (fun q hq => (HOa.lt q hq).1))
      clear ho7 hg7 al HOa
      go_wp2_with fail
      go_roundw
      case rel => exact ⟨rs ++ [(R, ps, a5, c5)], R.next, a8, c8, by simp, rfl, hn2, by simp; omega, by rw [HA.out, HM.out]; simp, by rw [rwC_snoc, List.length_append]; exact HOB.out, HIB.out, HBB.out⟩
      case measure => simp [intOf]; omega
    · have dk : decide (k < l.length) = false := decide_eq_false hlt
      have hend := Lib.hid (allP_end (l := l) (i := k) (by omega))
      go_wp2_with fail
      go_ret
      exact ⟨rs, a3, c3, rfl, by rw [HA.out, hend.out, List.append_nil], HO.out, HI.out, HB.out⟩

end Go.Proofs.Ytmdifcgnmkpecaa
