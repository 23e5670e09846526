/-
  The contracts of quote's Read and of the document's own, at this seat's numbers.
-/
import Derived.Test.YtelnehjmkjpjhaaQuB
import Derived.Test.YtelnehjmkjpjhaaScN
import Derived.Test.YtelnehjmkjpjhaaScI
import Derived.Deep.RegionWith
namespace Go.Proofs.Ytelnehjmkjpjhaa
open Go Go.RowKit
set_option linter.unusedVariables false

theorem one_none (a : Option Addr) (c : Nat) (w : World) :
    Calls Try.prog 52 #[.slice a 0 c, .int .i64 0] w fun e w' => e = .returned (.tuple #[.agg #[.slice none 0 0, .int .i64 0], .int .i64 0]) ∧ Below w.heap.size w w' := by
  go_enter Try.func52, Try.ntmps52
  go_wp2_with fail
  refine bodyPost_ret (v := .tuple #[.agg #[.slice none 0 0, .int .i64 0], .int .i64 0]) (by simp [results, Try.results52, go_sem]) rfl ⟨rfl, ?_⟩
  exact (Below.refl _ _).alloc (Nat.le_refl _) _
theorem rone_none {s : ByteArray} (hs : s.size = 0) (w : World) :
    Calls Try.prog 63 #[.string s, .int .i64 0] w fun e w' => e = .returned (.tuple #[.agg #[.slice none 0 0, .int .i64 0], .int .i64 0]) ∧ Below w.heap.size w w' := by
  go_enter Try.func63, Try.ntmps63
  go_wp2_with fail
  refine bodyPost_ret (v := .tuple #[.agg #[.slice none 0 0, .int .i64 0], .int .i64 0]) (by simp [results, Try.results63, go_sem]) rfl ⟨rfl, ?_⟩
  exact ((Below.refl _ _).alloc (Nat.le_refl _) _).alloc (by simp) _

theorem fieldP_nil : (fieldP [] 0).kind = 0 ∧ (fieldP [] 0).pl = [] := by
  have hq : quAt [] 0 = false := by decide
  obtain ⟨_, k2, k3⟩ := plain_kind hq
  have ht : till [] 0 = 0 := till_stop (by decide)
  rw [ht] at k2 k3
  exact ⟨by rw [k2]; decide, by rw [k3, pls_nil]⟩
/-- What Read hands back. -/
def QrPost (l : List UInt8) (w : World) (e : Ending) (w' : World) : Prop := ∃ a n c, e = .returned (.tuple #[.slice a n c, .int .i64 (fieldP l 0).kind]) ∧ n = (atL l (fieldP l 0).pl).length ∧ w'.ownsRow w.heap.size 5 1 (.slice a n c) n (bc (atL l (fieldP l 0).pl)) ∧ Below w.heap.size w w'

theorem row_first {l : List UInt8} {ps : List FdM} (h : ps.map (·.1) = (rowP l 0).fs) : ∃ f a c rest, ps = (f, a, c) :: rest ∧ f = fieldP l 0 := by
  have hr := fieldsP_rest (l := l) (i := 0) (by omega)
  cases ps with
  | nil => unfold rowP at h; rw [hr] at h; cases h
  | cons p rest =>
    obtain ⟨f, a, c⟩ := p
    unfold rowP at h
    rw [hr] at h
    simp only [List.map_cons] at h
    injection h with h1 h2
    exact ⟨f, a, c, rest, rfl, h1⟩

set_option maxRecDepth 100000 in
set_option maxHeartbeats 4000000 in
theorem qread_of {w : World} {a : Option Addr} {c : Nat} {l : List UInt8} (hr : Rd w 1 a l.length (bc l)) (hl : l.length ≤ 1000000) (hlc : l.length ≤ c) (hc : c ≤ maxLen) :
    Calls Try.prog 56 #[.slice a l.length c] w (QrPost l w) := by
  rcases Nat.eq_zero_or_pos l.length with h0 | h0
  · obtain rfl := List.eq_nil_of_length_eq_zero h0
    have HO := Lib.hid (fun w => one_none a c w)
    clear hr hl hlc hc h0
    go_enter Try.func56, Try.ntmps56
    go_wp2_with fail
    refine (HO.out _).mono ?_; rintro e w2 ⟨rfl, hb⟩
    have HB := Lib.hid hb
    clear hb
    go_wp2_with fail
    go_ret2
    refine ⟨none, 0, 0, by rw [fieldP_nil.1] <;> rfl, by rw [fieldP_nil.2]; rfl, by rw [fieldP_nil.2]; exact own_nil _ _ _ _, HB.out.alloc HB.out.size _⟩
  · obtain ⟨b, off, rfl, hbl, _⟩ := hr.2 h0
    have HO : Hid (Calls Try.prog 52 #[.slice (some ⟨b, off, none⟩) l.length c, .int .i64 0] w (RwPost (rowP l 0) w)) := one_of (c := c) hr hbl hl hlc hc 0 h0
    have HR := Lib.hid hr
    have hrf := fieldP_spec (l := l) (i := 0) (by omega)
    have HF5 := Lib.hid hrf.2.2.2.2.1
    have HF6 := Lib.hid hrf.2.2.2.2.2
    have hf2 := hrf.2.1
    clear hr hrf
    go_enter Try.func56, Try.ntmps56
    go_wp2_with fail
    refine HO.out.mono ?_; rintro e w2 ⟨ps, a5, c5, rfl, hfs, ho, hpi, hb⟩
    obtain ⟨f, fa, fc, rest, rfl, hf⟩ := row_first hfs
    have HFE := Lib.hid hf
    have hp1 := hpi (f, fa, fc) (by simp)
    rcases own_form ho with ⟨_, h00⟩ | ⟨g, rfl, _, hg⟩
    · simp at h00
    have k0 := own_cells ho (rfl : (fdC ((f, fa, fc) :: rest))[0]? = some (.int .i64 f.from_))
    have k1 := own_cells ho (rfl : (fdC ((f, fa, fc) :: rest))[1]? = some (.int .i64 ((f.to_ : Int) - f.from_)))
    have k2 := own_cells ho (rfl : (fdC ((f, fa, fc) :: rest))[2]? = some (.int .i64 f.kind))
    have k3 := own_cells ho (rfl : (fdC ((f, fa, fc) :: rest))[3]? = some (.slice fa (canon f.pl).length fc))
    simp only at hp1
    have HP := Lib.hid hp1
    have HB := Lib.hid hb
    have hz := hb.size
    generalize (rowP l 0).fin = fin at *
    generalize (rowP l 0).next = nx at *
    have hnp : 0 < ((f, fa, fc) :: rest).length := by simp
    generalize ((f, fa, fc) :: rest).length = np at *
    have dn : (np == 0) = false := by simp; omega
    have dn' : ((np : Int) == 0) = false := by simp; omega
    have hnp' : (0 : Int) < (np : Int) := by omega
    have al := (below_al w2 (Obj.cells #[Value.slice (some ⟨g, 0, none⟩) np c5, Value.int IntKind.i64 fin] 73)).alloc (by simp) (Obj.cells #[Value.int IntKind.i64 f.from_, Value.int IntKind.i64 ((f.to_ : Int) - f.from_), Value.int IntKind.i64 f.kind, Value.slice fa (canon f.pl).length fc] 78)
    have hfn := heap_alloc_new (w2.alloc (Obj.cells #[Value.slice (some ⟨g, 0, none⟩) np c5, Value.int IntKind.i64 fin] 73)) (Obj.cells #[Value.int IntKind.i64 f.from_, Value.int IntKind.i64 ((f.to_ : Int) - f.from_), Value.int IntKind.i64 f.kind, Value.slice fa (canon f.pl).length fc] 78)
    rw [World.size_alloc] at hfn
    have HAL := Lib.hid al
    have HFN := Lib.hid hfn
    clear ho hpi hb hfs hf hp1 HO al hfn
    go_upto_region 5 with fail
    clear k0 k1 k2 k3
    generalize (w2.alloc (Obj.cells #[Value.slice (some ⟨g, 0, none⟩) np c5, Value.int IntKind.i64 fin] 73)).alloc (Obj.cells #[Value.int IntKind.i64 f.from_, Value.int IntKind.i64 ((f.to_ : Int) - f.from_), Value.int IntKind.i64 f.kind, Value.slice fa (canon f.pl).length fc] 78) = wf at *
    have hwf : w2.heap.size + 1 < wf.heap.size := lt_of_heap HFN.out
    have hcn := canon_count f.pl
    have hbf := HB.out.trans (HAL.out.mono hz)
    have hcf : (canon f.pl).length ≤ 1000000 := by
      have h1 := HF6.out
      have h2 := hf2
      rw [← HFE.out] at h1 h2
      omega
    have HV := Lib.hid (fun w' (hb : Below wf.heap.size wf w') => value_of (c := c) (HR.out.below (hbf.trans (hb.mono hbf.size))) (Nat.lt_of_lt_of_le hbl (hbf.trans (hb.mono hbf.size)).size) hl hlc hc (pc := fc) (rd_own (own_below (own_below HP.out HAL.out) hb)) hcf f.from_ ((f.to_ : Int) - f.from_) f.kind)
    have HVL : Hid (valL l (canon f.pl) = atL l f.pl) := by
      show _ = _
      refine valL_canon (fun x hx => ?_)
      rw [HFE.out] at hx
      exact HF5.out x hx
    rw [HVL.out] at HV
    have y0 : wf.cell? ⟨w2.heap.size + 1, 0, none⟩ = some (.int .i64 f.from_) := by rw [cell_at HFN.out]; rfl
    have y1 : wf.cell? ⟨w2.heap.size + 1, 1, none⟩ = some (.int .i64 ((f.to_ : Int) - f.from_)) := by rw [cell_at HFN.out]; rfl
    have y2 : wf.cell? ⟨w2.heap.size + 1, 2, none⟩ = some (.int .i64 f.kind) := by rw [cell_at HFN.out]; rfl
    have y3 : wf.cell? ⟨w2.heap.size + 1, 3, none⟩ = some (.slice fa (canon f.pl).length fc) := by rw [cell_at HFN.out]; rfl
    have HBF := Lib.hid hbf
    clear HP HR hcn hbf
    go_region_with ((go_at_call 99; refine (HV.out _ ((Below.refl _ wf).drew)).mono ?_; rintro e w5 ⟨a9, c9, rfl, ho9, hb9⟩; have hO9 := Lib.hid ho9; have hB9 := Lib.hid (HBF.out.trans (((Below.refl _ wf).drew.trans (hb9.mono (Nat.le_refl _))).mono HBF.out.size)); have j2 := (hb9.cell (p := ⟨w2.heap.size + 1, 2, none⟩) (by show w2.heap.size + 1 < _; simpa using hwf)).trans (show wf.drew.cell? _ = _ from y2); clear ho9 hb9))
    all_goals go_wp2_with fail
    all_goals go_ret2
    all_goals
      refine ⟨a9, (atL l f.pl).length, c9, by rw [← HFE.out] <;> rfl, by rw [← HFE.out], ?_, hB9.out⟩
      rw [← HFE.out]
      exact own_mono hO9.out HBF.out.size

/-- What the document's Read hands back. -/
def RrdPost (l : List UInt8) (w : World) (e : Ending) (w' : World) : Prop := e = .returned (.tuple #[.string (strOf (atL l (fieldP l 0).pl)), .int .i64 (fieldP l 0).kind]) ∧ Below w.heap.size w w'

end Go.Proofs.Ytelnehjmkjpjhaa
