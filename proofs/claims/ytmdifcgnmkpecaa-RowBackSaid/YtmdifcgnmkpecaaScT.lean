/-
  The contract of the document's own All (layer 5), at this seat's numbers.
-/
import Derived.Test.YtmdifcgnmkpecaaScS
namespace Go.Proofs.Ytmdifcgnmkpecaa
open Go Go.RowKit
set_option linter.unusedVariables false

/-- A row's fields, and their parts, lie in memory. -/
structure RRowIn (w : World) (B : Nat) (p : RowM) : Prop where
  fs : p.2.1.map (·.1) = p.1.fs
  own : w.ownsRow B 46 4 (.slice p.2.2.1 p.2.1.length p.2.2.2) p.2.1.length (rfC p.2.1)
  parts : PlsIn w B p.2.1
def RRowsIn (w : World) (B : Nat) (rs : List RowM) : Prop := ∀ p ∈ rs, RRowIn w B p
theorem RRowIn.below {w w' : World} {B : Nat} {p : RowM} (h : RRowIn w B p) (hb : Below w.heap.size w w') : RRowIn w' B p := ⟨h.fs, own_below h.own hb, h.parts.below hb⟩
theorem RRowIn.mono {w : World} {B B' : Nat} {p : RowM} (h : RRowIn w B' p) (hB : B ≤ B') : RRowIn w B p := ⟨h.fs, own_mono h.own hB, h.parts.mono hB⟩
theorem RRowIn.grown {w w' : World} {B B' sz n : Nat} {e : TypeId} {v : Value} {xs : List Value} {p : RowM} (h : RRowIn w B p) (ho : w.ownsRow B' e sz v n xs) (he : e ≠ 3) (he2 : e ≠ 46) (hg : w.grownBy w' v.ownBlock) : RRowIn w' B p :=
  ⟨h.fs, own_grown h.own ho (fun e' => he2 e'.symm) hg, h.parts.grown ho he hg⟩
theorem RRowsIn.below {w w' : World} {B : Nat} {ps : List RowM} (h : RRowsIn w B ps) (hb : Below w.heap.size w w') : RRowsIn w' B ps := fun p hp => (h p hp).below hb
theorem RRowsIn.mono {w : World} {B B' : Nat} {ps : List RowM} (h : RRowsIn w B' ps) (hB : B ≤ B') : RRowsIn w B ps := fun p hp => (h p hp).mono hB
theorem RRowsIn.grown {w w' : World} {B B' sz n : Nat} {e : TypeId} {v : Value} {xs : List Value} {ps : List RowM} (h : RRowsIn w B ps) (ho : w.ownsRow B' e sz v n xs) (he : e ≠ 3) (he2 : e ≠ 46) (hg : w.grownBy w' v.ownBlock) : RRowsIn w' B ps := fun p hp => (h p hp).grown ho he he2 hg
theorem RRowsIn.snoc {w : World} {B : Nat} {ps : List RowM} {p : RowM} (h : RRowsIn w B ps) (hp : RRowIn w B p) : RRowsIn w B (ps ++ [p]) := by
  intro q hq
  rcases List.mem_append.1 hq with hq | hq
  · exact h q hq
  · obtain rfl := List.mem_singleton.1 hq; exact hp

/-- What a call hands back that tells all rows. -/
def RAllPost (R : List Rw) (w : World) (e : Ending) (w' : World) : Prop :=
  ∃ (rs : List RowM) (a : Option Addr) (c : Nat), e = .returned (.slice a rs.length c) ∧ rs.map (·.1) = R ∧ w'.ownsRow w.heap.size 37 2 (.slice a rs.length c) rs.length (rwC rs) ∧ RRowsIn w' w.heap.size rs ∧ Below w.heap.size w w'
theorem info_rrow : (Try.prog.info? 37).map (fun i => (i.zero, i.size, i.bytes)) = some (some (.agg #[.slice none 0 0, .int .i64 0]), 2, 32) := by kernel_rfl

/-- What holds at the head of All's loop. -/
def RAllJ (l : List UInt8) (w : World) (v3 v4 : Value) (wr : World) : Prop := ∃ (rs : List RowM) (k : Nat) (a : Option Addr) (c : Nat), v3 = .slice a rs.length c ∧ v4 = .int .i64 k ∧ k ≤ l.length ∧ rs.length ≤ k ∧
  allP l 0 = rs.map (·.1) ++ allP l k ∧ wr.ownsRow w.heap.size 37 2 (.slice a rs.length c) rs.length (rwC rs) ∧ RRowsIn wr w.heap.size rs ∧ Below w.heap.size w wr

set_option maxRecDepth 100000 in
set_option maxHeartbeats 4000000 in
theorem rall_of {s : ByteArray} {l : List UInt8} (hs : s.data.toList = l) (hl : l.length ≤ 1000000) (w : World) :
    Calls Try.prog 12 #[.string s] w (RAllPost (allP l 0) w) := by
  obtain ⟨i0, hi0, hz0, hz1, hz2⟩ := info_parts info_rrow
  have HS := Lib.hid hs
  have hsz := sz_of hs
  clear hs
  go_enter Try.func12, Try.ntmps12
  go_wp2_with fail
  go_loopw [3, 4] (fun v3 v4 wr => RAllJ l w v3 v4 wr) (fun _ v4 _ => l.length - (intOf v4).toNat)
  case atStart => exact ⟨[], 0, none, 0, rfl, rfl, by omega, by simp, by simp, own_nil _ _ _ _, fun p hp => by simp at hp, Below.refl _ _⟩
  case round =>
    obtain ⟨rs, k, a3, c3, rfl, rfl, hkn, hrk, hall, ho, hri, hb⟩ := hrel
    have HA := Lib.hid hall
    have HO := Lib.hid ho
    have HI := Lib.hid hri
    have HB := Lib.hid hb
    have hzr := hb.size
    clear hall ho hri hb
    by_cases hlt : k < l.length
    · have dk : decide (k < l.length) = true := decide_eq_true hlt
      have hn := rowP_next hlt
      have hn1 := hn.1
      have hn2 := hn.2
      have HC := Lib.hid (rone_of HS.out hl k hlt wr)
      have HM := Lib.hid (allP_more hlt)
      clear hn
      generalize rowP l k = R at *
      go_wp2_with fail
      refine HC.out.mono ?_; rintro e w2 ⟨ps, a5, c5, rfl, hfs, ho2, hpi2, hb2⟩
      have hz2 := hb2.size
      have HFS := Lib.hid hfs
      have HO2 := Lib.hid ho2
      have HP2 := Lib.hid hpi2
      have HOr := Lib.hid (own_below HO.out hb2)
      have HIr := Lib.hid (HI.out.below hb2)
      have HBr := Lib.hid (HB.out.trans (hb2.mono hzr))
      have HLN := Lib.hid (rwC_len rs)
      clear hfs ho2 hpi2 hb2 HC
      go_wp2_with (first
        | (at_builtin; refine wpList_append_own _ rfl (.tmp 17) (.tmp 19) 28 rfl w.heap.size 37 i0 (.agg #[.slice none 0 0, .int .i64 0]) 2 32 Try.underlying28 hi0 hz0 hz1 (by assumption) rfl (by decide) (.slice a3 rs.length c3) rs.length (rwC rs) rfl ((HOr.out.alloc _).alloc _) ⟨w2.heap.size + 1, 0, none⟩ 1 1 (rwC1 (R, ps, a5, c5)) rfl rfl ?c1 ?c2 ?c3 ?c4 ?c5 ?_)
        | fail)
      case c1 =>
        intro j u hj
        rw [Addr.add_lit, Nat.zero_add]
        have hn := heap_alloc_new (w2.alloc (Obj.cells #[Value.slice a5 ps.length c5, Value.int IntKind.i64 R.fin] 37)) (Obj.cells #[Value.slice a5 ps.length c5, Value.int IntKind.i64 R.fin] 37)
        rw [World.size_alloc] at hn
        rw [cell_at hn]
        simpa [rwC1] using hj
      case c2 =>
        intro u hu
        simp only [rwC1, List.mem_cons, List.not_mem_nil, or_false] at hu
        rcases hu with rfl | rfl <;> rfl
      case c3 => unfold maxLen; omega
      case c4 => omega
      case c5 => simp only [World.size_alloc]; omega
      intro v7 wB ho7 hg7 _
      obtain ⟨a8, c8, rfl⟩ := own_slice ho7
      have al := (below_al w2 (Obj.cells #[Value.slice a5 ps.length c5, Value.int IntKind.i64 R.fin] 37)).alloc (by simp) (Obj.cells #[Value.slice a5 ps.length c5, Value.int IntKind.i64 R.fin] 37)
      have HOa := own_below HOr.out al
      have HIB := Lib.hid (((HIr.out.below al).grown HOa (by decide) (by decide) hg7).snoc (p := (R, ps, a5, c5)) (((RRowIn.mk HFS.out HO2.out HP2.out : RRowIn w2 wr.heap.size (R, ps, a5, c5)).mono hzr).below al |>.grown HOa (by decide) (by decide) hg7))
      have HOB := Lib.hid ho7
      have HBB := Lib.hid ((HBr.out.trans (al.mono (by omega))).grown hg7 (by simp only [World.size_alloc]; omega) (fun q hq => (HOa.lt q hq).1))
      clear ho7 hg7 al HOa
      go_wp2_with fail
      go_roundw
      case rel => exact ⟨rs ++ [(R, ps, a5, c5)], R.next, a8, c8, by simp, rfl, hn2, by simp; omega, by rw [HA.out, HM.out]; simp, by rw [rwC_snoc, List.length_append]; exact HOB.out, HIB.out, HBB.out⟩
      case measure => simp [intOf]; omega
    · have dk : decide (k < l.length) = false := decide_eq_false hlt
      have hend := Lib.hid (allP_end (l := l) (i := k) (by omega))
      go_wp2_with fail
      go_ret
      exact ⟨rs, a3, c3, rfl, by rw [HA.out, hend.out, List.append_nil], HO.out, HI.out, HB.out⟩

end Go.Proofs.Ytmdifcgnmkpecaa
