/-
  Texts of this seat, put together (a claim holds few texts): ScS, ScT.
-/
import Derived.Test.YtkgakgceamafcaaGreatMk25

namespace Go.Proofs.YtkgakgceamafcaaGreat
open Go Go.RowKit
set_option linter.unusedVariables false

def rfC1 (p : FdM) : List Value := [.int .i64 p.1.from_, .int .i64 ((p.1.to_ : Int) - p.1.from_), .int .i64 p.1.kind, .slice p.2.1 p.1.pl.length p.2.2]
/-- The cells of the document's fields. -/
def rfC (ps : List FdM) : List Value := ps.flatMap rfC1
theorem rfC_snoc (ps : List FdM) (p : FdM) : rfC (ps ++ [p]) = rfC ps ++ rfC1 p := by unfold rfC; simp
theorem rfC_len : ∀ ps : List FdM, (rfC ps).length = ps.length * 4
  | [] => rfl
  | p :: ps => by
    have := rfC_len ps
    have e : rfC (p :: ps) = rfC1 p ++ rfC ps := by unfold rfC; simp
    rw [e, List.length_append, this, List.length_cons]; show 4 + _ = _; omega
theorem rfC_at : ∀ (ps : List FdM) (k : Nat) (p : FdM) (j : Nat), ps[k]? = some p → j < 4 → (rfC ps)[k * 4 + j]? = (rfC1 p)[j]?
  | [], k, p, j, h, _ => by simp at h
  | q :: ps, 0, p, j, h, hj => by
    obtain rfl : q = p := by simpa using h
    have e : rfC (q :: ps) = rfC1 q ++ rfC ps := by unfold rfC; simp
    rw [e, List.getElem?_append_left (by show _ < 4; omega)]; simp
  | q :: ps, k + 1, p, j, h, hj => by
    have e : rfC (q :: ps) = rfC1 q ++ rfC ps := by unfold rfC; simp
    rw [e, List.getElem?_append_right (by show 4 ≤ _; omega)]
    have := rfC_at ps k p j (by simpa using h) hj
    rw [← this]; congr 1; show (k + 1) * 4 + j - 4 = _; omega
/-- Where the places of fields lie. -/
def PlsIn (w : World) (B : Nat) (ps : List FdM) : Prop := ∀ p ∈ ps, w.ownsRow B 3 1 (.slice p.2.1 p.1.pl.length p.2.2) p.1.pl.length (inC p.1.pl)
theorem PlsIn.below {w w' : World} {B : Nat} {ps : List FdM} (h : PlsIn w B ps) (hb : Below w.heap.size w w') : PlsIn w' B ps := fun p hp => own_below (h p hp) hb
theorem PlsIn.set {w : World} {B b o : Nat} {u : Value} {cs : Array Value} {t : TypeId} {fr : Nat × Nat} {ps : List FdM} (h : PlsIn w B ps) (hb : w.heap[b]? = some (.cells cs t fr)) (ht : t ≠ 3) : PlsIn (w.setCell ⟨b, o, none⟩ u) B ps := fun p hp => own_set (h p hp) (own_ne (h p hp) hb (fun e => ht e.symm))
theorem PlsIn.grown {w w' : World} {B B' sz n : Nat} {e : TypeId} {v : Value} {xs : List Value} {ps : List FdM} (h : PlsIn w B ps) (ho : w.ownsRow B' e sz v n xs) (he : e ≠ 3) (hg : w.grownBy w' v.ownBlock) : PlsIn w' B ps := fun p hp => own_grown (h p hp) ho (fun e' => he e'.symm) hg
theorem PlsIn.mono {w : World} {B B' : Nat} {ps : List FdM} (h : PlsIn w B' ps) (hB : B ≤ B') : PlsIn w B ps := fun p hp => own_mono (h p hp) hB
theorem PlsIn.snoc {w : World} {B : Nat} {ps : List FdM} {p : FdM} (h : PlsIn w B ps) (hp : w.ownsRow B 3 1 (.slice p.2.1 p.1.pl.length p.2.2) p.1.pl.length (inC p.1.pl)) : PlsIn w B (ps ++ [p]) := by
  intro q hq
  rcases List.mem_append.1 hq with hq | hq
  · exact h q hq
  · obtain rfl := List.mem_singleton.1 hq; exact hp

/-- What the document's One hands back. -/
def RrPost (R : Rw) (w : World) (e : Ending) (w' : World) : Prop :=
  ∃ (ps : List FdM) (a : Option Addr) (c : Nat), e = .returned (.tuple #[.agg #[.slice a ps.length c, .int .i64 R.fin], .int .i64 R.next]) ∧ ps.map (·.1) = R.fs ∧ w'.ownsRow w.heap.size 190 4 (.slice a ps.length c) ps.length (rfC ps) ∧ PlsIn w' w.heap.size ps ∧ Below w.heap.size w w'
theorem info_rfield : (Tryz.prog.info? 190).map (fun i => (i.zero, i.size, i.bytes)) = some (some (.agg #[.int .i64 0, .int .i64 0, .int .i64 0, .slice none 0 0]), 4, 48) := by kernel_rfl
/-- What holds at the head of the loop over fields. -/
def RoJ (l : List UInt8) (i : Nat) (w : World) (v1 : Value) (wr : World) : Prop := ∃ (p : Nat) (ps : List FdM) (a : Option Addr) (c : Nat), v1 = .int .i64 p ∧ i ≤ p ∧ p ≤ l.length ∧ ps.length ≤ p ∧ fieldsP l i = (ps.map (·.1) ++ (fieldsP l p).1, (fieldsP l p).2) ∧
  wr.heap[w.heap.size]? = some (.cells #[.slice none 0 0, .int .i64 0] 113 (0, 0)) ∧ wr.heap[w.heap.size + 1]? = some (.cells #[.slice a ps.length c, .int .i64 0] 113 (0, 0)) ∧
  wr.ownsRow (w.heap.size + 2) 190 4 (.slice a ps.length c) ps.length (rfC ps) ∧ PlsIn wr (w.heap.size + 2) ps ∧ Below w.heap.size w wr ∧ w.heap.size + 2 ≤ wr.heap.size

theorem rowP_of {l : List UInt8} {i q : Nat} {fs : List Fd} (h : fieldsP l i = (fs, q)) : (rowP l i).fs = fs ∧ (rowP l i).fin = endP l q ∧ (rowP l i).next = q + markN (endP l q) := by
  unfold rowP; rw [h]; exact ⟨rfl, rfl, rfl⟩

set_option maxRecDepth 100000 in
set_option maxHeartbeats 8000000 in
theorem rone_of {s : ByteArray} {l : List UInt8} (hs : s.data.toList = l) (hl : l.length ≤ 1000000) (i : Nat) (hi : i < l.length) (w : World) :
    Calls Tryz.prog 104 #[.string s, .int .i64 i] w (RrPost (rowP l i) w) := by
  obtain ⟨i0, hi0, hz0, hz1, hz2⟩ := info_parts info_rfield
  have HS := Lib.hid hs
  have hsz := sz_of hs
  obtain ⟨b4, b6, hz, hb⟩ := two_fields w (Obj.cells #[Value.slice none 0 0, Value.int IntKind.i64 0] 113) (Obj.cells #[Value.slice none 0 0, Value.int IntKind.i64 0] 113)
  have HJ : Hid (RoJ l i w (.int .i64 i) ((w.alloc (Obj.cells #[Value.slice none 0 0, Value.int IntKind.i64 0] 113)).alloc (Obj.cells #[Value.slice none 0 0, Value.int IntKind.i64 0] 113))) :=
    ⟨i, [], none, 0, rfl, Nat.le_refl _, by omega, by simp, rfl, b4, b6, own_nil _ _ _ _, fun p hp => by simp at hp, hb, by omega⟩
  have d1 : decide ((i : Int) < 0) = false := decide_eq_false (by omega)
  have d2 : decide (l.length ≤ i) = false := decide_eq_false (by omega)
  clear hs b4 b6 hb hz
  go_enter Tryz.func104, Tryz.ntmps104
  go_upto_region 2 with fail
  generalize (w.alloc (Obj.cells #[Value.slice none 0 0, Value.int IntKind.i64 0] 113)).alloc (Obj.cells #[Value.slice none 0 0, Value.int IntKind.i64 0] 113) = w1 at *
  go_wp2_with fail
  go_loopw [1] (fun v1 wr => RoJ l i w v1 wr) (fun v1 _ => l.length + 1 - (intOf v1).toNat)
  case atStart => exact HJ.out
  case round =>
    obtain ⟨p, ps, a, c, rfl, hip, hpl, hps, hfs, h4, h6, ho, hpi, hb, hzr⟩ := hrel
    have H4 := Lib.hid h4
    have H6 := Lib.hid h6
    have HO := Lib.hid ho
    have HPI := Lib.hid hpi
    have HB := Lib.hid hb
    have HFA := Lib.hid hfs
    have HRF := Lib.hid (rfield_of HS.out hl p hpl wr)
    have hf := fieldP_spec (l := l) (i := p) hpl
    have hf1 := hf.1
    have hf2 := hf.2.1
    have HFM := Lib.hid hf.2.2.1
    have hfr := fieldP_from l p
    have HRL := Lib.hid (rfC_len ps)
    have HMORE := Lib.hid (fun h h2 => fieldsP_more (l := l) (i := p) hpl h h2)
    have HLAST := Lib.hid (fun h => fieldsP_last (l := l) (i := p) h)
    clear h4 h6 ho hpi hb hfs HJ hf
    generalize fieldP l p = F at *
    go_wp2_with fail
    refine HRF.out.mono ?_; rintro e w2 ⟨a5, c5, rfl, ho5, hb5⟩
    unfold fdV
    have H4x := Lib.hid ((hb5.block w.heap.size (by omega)).trans H4.out)
    have H6x := Lib.hid ((hb5.block (w.heap.size + 1) (by omega)).trans H6.out)
    have HOx := Lib.hid (own_below HO.out hb5)
    have HPx := Lib.hid ((HPI.out.below hb5).snoc (p := (F, a5, c5)) (own_mono ho5 hzr))
    have HBx := Lib.hid (HB.out.trans (hb5.mono HB.out.size))
    have hzx := hb5.size
    clear ho5 hb5 H4 H6 HO HPI HB HRF
    rw [hfr]
    generalize hN : (F.to_ : Int) - (p : Int) = N at *
    have HN := Lib.hid hN
    have hN0 : 0 ≤ N := by omega
    have hN1 : N ≤ 1000000 := by omega
    have hN2 : (p : Int) + N = (F.to_ : Int) := by omega
    clear hN
    have hq6 : w.heap.size + 1 < w2.heap.size := by omega
    have r0 : w2.cell? ⟨w.heap.size + 1, 0, none⟩ = some (.slice a ps.length c) := by rw [cell_at H6x.out]; rfl
    have al := (below_al w2 (Obj.cells #[Value.int IntKind.i64 p, Value.int IntKind.i64 N, Value.int IntKind.i64 F.kind, Value.slice a5 F.pl.length c5] 190)).alloc (by simp) (Obj.cells #[Value.int IntKind.i64 p, Value.int IntKind.i64 N, Value.int IntKind.i64 F.kind, Value.slice a5 F.pl.length c5] 190)
    have AL := Lib.hid al
    clear al
    go_wp2_with (first
      | (at_builtin; refine wpList_append_own _ rfl (.tmp 23) (.tmp 25) 111 rfl (w.heap.size + 2) 190 i0 (.agg #[.int .i64 0, .int .i64 0, .int .i64 0, .slice none 0 0]) 4 48 Tryz.underlying111 hi0 hz0 hz1 hz2 rfl (by decide) (.slice a ps.length c) ps.length (rfC ps) rfl ((HOx.out.alloc _).alloc _) ⟨w2.heap.size + 1, 0, none⟩ 1 1 [.int .i64 p, .int .i64 N, .int .i64 F.kind, .slice a5 F.pl.length c5] rfl rfl ?c1 ?c2 ?c3 ?c4 ?c5 ?_)
      | fail)
    case c1 =>
      intro j u hj
      rw [Addr.add_lit, Nat.zero_add]
      have hn := heap_alloc_new (w2.alloc (Obj.cells #[Value.int IntKind.i64 p, Value.int IntKind.i64 N, Value.int IntKind.i64 F.kind, Value.slice a5 F.pl.length c5] 190)) (Obj.cells #[Value.int IntKind.i64 p, Value.int IntKind.i64 N, Value.int IntKind.i64 F.kind, Value.slice a5 F.pl.length c5] 190)
      rw [World.size_alloc] at hn
      rw [cell_at hn]
      simpa using hj
    case c2 =>
      intro u hu
      simp only [List.mem_cons, List.not_mem_nil, or_false] at hu
      rcases hu with rfl | rfl | rfl | rfl <;> rfl
    case c3 => unfold maxLen; omega
    case c4 => omega
    case c5 => simp only [World.size_alloc]; omega
    intro v7 wB ho7 hg7 _
    obtain ⟨a8, c8, rfl⟩ := own_slice ho7
    have HOa := own_below HOx.out AL.out
    have H4B := Lib.hid ((hg7.block w.heap.size (by simp only [World.size_alloc]; omega) (fun e => own_ne HOa ((AL.out.block _ (by omega)).trans H4x.out) (by decide) e.symm)).trans ((AL.out.block _ (by omega)).trans H4x.out))
    have H6B := Lib.hid ((hg7.block (w.heap.size + 1) (by simp only [World.size_alloc]; omega) (fun e => own_ne HOa ((AL.out.block _ (by omega)).trans H6x.out) (by decide) e.symm)).trans ((AL.out.block _ (by omega)).trans H6x.out))
    have H7B := Lib.hid ((hg7.block w2.heap.size (by simp only [World.size_alloc]; omega) (fun e => by have := (HOx.out.lt _ e.symm).2; omega)).trans (heap_mid w2 (Obj.cells #[Value.int IntKind.i64 p, Value.int IntKind.i64 N, Value.int IntKind.i64 F.kind, Value.slice a5 F.pl.length c5] 190) (Obj.cells #[Value.int IntKind.i64 p, Value.int IntKind.i64 N, Value.int IntKind.i64 F.kind, Value.slice a5 F.pl.length c5] 190)))
    have HPB := Lib.hid ((HPx.out.below AL.out).grown HOa (by decide) hg7)
    have HBB := Lib.hid ((HBx.out.trans (AL.out.mono HBx.out.size)).grown hg7 (by simp only [World.size_alloc]; omega) (fun q hq => by have := (HOa.lt q hq).1; omega))
    have hzB : w2.heap.size + 2 ≤ wB.heap.size := by have := hg7.size; simp only [World.size_alloc] at this; omega
    have HOB : Hid (wB.ownsRow (w.heap.size + 2) 190 4 (.slice a8 (ps.length + 1) c8) (ps.length + 1) (rfC (ps ++ [(F, a5, c5)]))) := by
      show World.ownsRow _ _ _ _ _ _ _
      rw [rfC_snoc]
      unfold rfC1
      simp only
      rw [hfr, HN.out]
      exact ho7
    clear ho7 hg7 HOa r0 AL H4x H6x HOx HPx HBx hfr
    have r6 : wB.cell? ⟨w.heap.size + 1, 0, none⟩ = some (.slice a ps.length c) := by rw [cell_at H6B.out]; rfl
    have z6 := unfrozen H6B.out 0
    have H4y : Hid ((wB.setCell ⟨w.heap.size + 1, 0, none⟩ (.slice a8 (ps.length + 1) c8)).heap[w.heap.size]? = some (.cells #[.slice none 0 0, .int .i64 0] 113 (0, 0))) := (heap_set_other (by omega)).trans H4B.out
    have H6y : Hid ((wB.setCell ⟨w.heap.size + 1, 0, none⟩ (.slice a8 (ps.length + 1) c8)).heap[w.heap.size + 1]? = some (.cells #[.slice a8 (ps.length + 1) c8, .int .i64 0] 113 (0, 0))) := heap_set_at H6B.out
    have H7y : Hid ((wB.setCell ⟨w.heap.size + 1, 0, none⟩ (.slice a8 (ps.length + 1) c8)).heap[w2.heap.size]? = some (.cells #[.int .i64 p, .int .i64 N, .int .i64 F.kind, .slice a5 F.pl.length c5] 190 (0, 0))) := (heap_set_other (by omega)).trans H7B.out
    have HOy := Lib.hid (own_set (o := 0) (u := .slice a8 (ps.length + 1) c8) HOB.out (own_ne HOB.out H6B.out (by decide)))
    have HPy := Lib.hid (HPB.out.set (o := 0) (u := .slice a8 (ps.length + 1) c8) H6B.out (by decide))
    have HBy := Lib.hid (HBB.out.setCell (p := ⟨w.heap.size + 1, 0, none⟩) (by show w.heap.size ≤ w.heap.size + 1; omega) (.slice a8 (ps.length + 1) c8))
    have hzy : w.heap.size + 2 ≤ (wB.setCell ⟨w.heap.size + 1, 0, none⟩ (.slice a8 (ps.length + 1) c8)).heap.size := by rw [size_set]; omega
    go_upto_region 6 with fail
    clear r6 z6 H4B H6B H7B HOB HPB HBB hzB
    generalize wB.setCell ⟨w.heap.size + 1, 0, none⟩ (.slice a8 (ps.length + 1) c8) = wy at *
    have u0 : wy.cell? ⟨w2.heap.size, 0, none⟩ = some (.int .i64 p) := by rw [cell_at H7y.out]; rfl
    have u1 : wy.cell? ⟨w2.heap.size, 1, none⟩ = some (.int .i64 N) := by rw [cell_at H7y.out]; rfl
    by_cases hc : F.to_ < l.length ∧ lb l F.to_ = 44
    · have hxl : F.to_ < s.size := by omega
      have hb44 := lb_get HS.out (i := F.to_) hxl
      have hc2 := hc.2
      rw [hc2] at hb44
      have dc : decide (l.length ≤ F.to_) = false := decide_eq_false (by omega)
      have HM := Lib.hid (HMORE.out hc.1 hc.2)
      have hcl := hc.1
      clear hc hc2
      go_wp2_with fail
      go_roundw
      case rel => exact ⟨F.to_ + 1, ps ++ [(F, a5, c5)], a8, c8, by go_num, by omega, by omega, by simp; omega, by rw [HFA.out, HM.out]; simp, H4y.out, by rw [H6y.out]; simp, by rw [List.length_append]; exact HOy.out, HPy.out, HBy.out, hzy⟩
      case measure => simp [intOf]; omega
    · have HL := Lib.hid (HLAST.out hc)
      have hes := endP_spec HFM.out hc hf2
      have HE : Hid (fieldsP l i = ((ps ++ [(F, a5, c5)]).map (·.1), F.to_)) := by show _ = _; rw [HFA.out, HL.out]; simp
      obtain ⟨g1, g2, g3⟩ := rowP_of HE.out
      have HFS := Lib.hid g1.symm
      have HNQ : Hid ((ps ++ [(F, a5, c5)]).length = ps.length + 1) := by show _ = _; simp
      clear HE HL hc HMORE HLAST HFA HFM
      rcases hes with ⟨he, hn⟩ | ⟨he, hn, hb1⟩ | ⟨he, hn, hb1, hb2⟩ | ⟨he, hn, hb1, hb2⟩
      · rw [he] at g2 g3
        have HFI := Lib.hid g2
        have HNX : Hid ((rowP l i).next = F.to_) := by show _ = _; rw [g3]; rfl
        have dc : decide (l.length ≤ F.to_) = true := decide_eq_true (by omega)
        have dl : decide (F.to_ < l.length) = false := decide_eq_false (by omega)
        have dl2 : decide (F.to_ + 1 < l.length) = false := decide_eq_false (by omega)
        have dl2' : decide ((F.to_ : Int) + 1 < (l.length : Int)) = false := decide_eq_false (by omega)
        have H4z := H4y
        have H6z := H6y
        have HOz := HOy
        have HPz := HPy
        have HBz := HBy
        clear he g1 g2 g3 hn
        go_upto_region 18 with fail
        clear u0 u1
        have x0 : wy.cell? ⟨w.heap.size, 0, none⟩ = some (.slice none 0 0) := by rw [cell_at H4z.out]; rfl
        have x1 : wy.cell? ⟨w.heap.size, 1, none⟩ = some (.int .i64 0) := by rw [cell_at H4z.out]; rfl
        have o0 := unfrozen H4z.out 0
        have o1 := unfrozen H4z.out 1
        have y0 : wy.cell? ⟨w.heap.size + 1, 0, none⟩ = some (.slice a8 (ps.length + 1) c8) := by rw [cell_at H6z.out]; rfl
        have y1 : wy.cell? ⟨w.heap.size + 1, 1, none⟩ = some (.int .i64 0) := by rw [cell_at H6z.out]; rfl
        have q0 := two_c0 x0 (.slice a8 (ps.length + 1) c8) (.int .i64 0)
        have q1 := two_c1 x1 (.slice a8 (ps.length + 1) c8) (.int .i64 0)
        have Q0 := Lib.hid q0
        have Q1 := Lib.hid q1
        clear q0 q1
        go_wp2_with fail
        have q0 := Q0.out
        have q1 := Q1.out
        refine bodyPost_ret (v := .tuple #[.agg #[.slice a8 (ps.length + 1) c8, .int .i64 0], .int .i64 (F.to_ : Nat)]) (by simp [results, Tryz.results104, go_sem, q0, q1]) rfl ?_
        have h4c := heap_set_at (o := 0) (u := .slice a8 (ps.length + 1) c8) H4z.out
        have hn1 := own_ne HOz.out H4z.out (by decide)
        refine ⟨ps ++ [(F, a5, c5)], a8, c8, ?_, HFS.out, ?_, ?_, below_two HBz.out (Nat.le_refl _) _ _⟩
        · rw [HFI.out, HNX.out, HNQ.out]
        · rw [HNQ.out]; exact own_mono (own_set (own_set HOz.out hn1) hn1) (by omega)
        · exact ((HPz.out.set H4z.out (by decide)).set h4c (by decide)).mono (by omega)
      · rw [he] at g2 g3
        have HFI := Lib.hid g2
        have HNX : Hid (((rowP l i).next : Int) = (F.to_ : Int) + 1) := by show _ = _; rw [g3]; rfl
        have hxl : F.to_ < s.size := by omega
        have hb := lb_get HS.out (i := F.to_) hxl
        rw [hb1] at hb
        have dc : decide (l.length ≤ F.to_) = false := decide_eq_false (by omega)
        have dl : decide (F.to_ < l.length) = true := decide_eq_true hn
        clear he g1 g2 g3 hb1
        have t1 : wy.cell? ⟨w.heap.size + 1, 1, none⟩ = some (.int .i64 0) := by rw [cell_at H6y.out]; rfl
        have z1 := unfrozen H6y.out 1
        have H4z : Hid ((wy.setCell ⟨w.heap.size + 1, 1, none⟩ (.int .i64 1)).heap[w.heap.size]? = some (.cells #[.slice none 0 0, .int .i64 0] 113 (0, 0))) := (heap_set_other (by omega)).trans H4y.out
        have H6z : Hid ((wy.setCell ⟨w.heap.size + 1, 1, none⟩ (.int .i64 1)).heap[w.heap.size + 1]? = some (.cells #[.slice a8 (ps.length + 1) c8, .int .i64 1] 113 (0, 0))) := heap_set_at H6y.out
        have HOz := Lib.hid (own_set (o := 1) (u := .int .i64 1) HOy.out (own_ne HOy.out H6y.out (by decide)))
        have HPz := Lib.hid (HPy.out.set (o := 1) (u := .int .i64 1) H6y.out (by decide))
        have HBz := Lib.hid (HBy.out.setCell (p := ⟨w.heap.size + 1, 1, none⟩) (by show w.heap.size ≤ w.heap.size + 1; omega) (.int .i64 1))
        go_upto_region 11 with fail
        clear t1 z1 u0 u1 H4y H6y H7y HOy HPy HBy
        generalize wy.setCell ⟨w.heap.size + 1, 1, none⟩ (.int .i64 1) = wz at *
        have x0 : wz.cell? ⟨w.heap.size, 0, none⟩ = some (.slice none 0 0) := by rw [cell_at H4z.out]; rfl
        have x1 : wz.cell? ⟨w.heap.size, 1, none⟩ = some (.int .i64 0) := by rw [cell_at H4z.out]; rfl
        have o0 := unfrozen H4z.out 0
        have o1 := unfrozen H4z.out 1
        have y0 : wz.cell? ⟨w.heap.size + 1, 0, none⟩ = some (.slice a8 (ps.length + 1) c8) := by rw [cell_at H6z.out]; rfl
        have y1 : wz.cell? ⟨w.heap.size + 1, 1, none⟩ = some (.int .i64 1) := by rw [cell_at H6z.out]; rfl
        have q0 := two_c0 x0 (.slice a8 (ps.length + 1) c8) (.int .i64 1)
        have q1 := two_c1 x1 (.slice a8 (ps.length + 1) c8) (.int .i64 1)
        have Q0 := Lib.hid q0
        have Q1 := Lib.hid q1
        clear q0 q1
        go_wp2_with fail
        have q0 := Q0.out
        have q1 := Q1.out
        refine bodyPost_ret (v := .tuple #[.agg #[.slice a8 (ps.length + 1) c8, .int .i64 1], .int .i64 ((F.to_ : Int) + 1)]) (by simp [results, Tryz.results104, go_sem, q0, q1]) rfl ?_
        have h4c := heap_set_at (o := 0) (u := .slice a8 (ps.length + 1) c8) H4z.out
        have hn1 := own_ne HOz.out H4z.out (by decide)
        refine ⟨ps ++ [(F, a5, c5)], a8, c8, ?_, HFS.out, ?_, ?_, below_two HBz.out (Nat.le_refl _) _ _⟩
        · rw [HFI.out, HNX.out, HNQ.out]
        · rw [HNQ.out]; exact own_mono (own_set (own_set HOz.out hn1) hn1) (by omega)
        · exact ((HPz.out.set H4z.out (by decide)).set h4c (by decide)).mono (by omega)
      · rw [he] at g2 g3
        have HFI := Lib.hid g2
        have HNX : Hid (((rowP l i).next : Int) = (F.to_ : Int) + 2) := by show _ = _; rw [g3]; rfl
        have hxl : F.to_ < s.size := by omega
        have hb := lb_get HS.out (i := F.to_) hxl
        have hxl' : F.to_ + 1 < s.size := by omega
        have hb' := lb_get HS.out (i := F.to_ + 1) hxl'
        rw [hb1] at hb
        rw [hb2] at hb'
        have dc : decide (l.length ≤ F.to_) = false := decide_eq_false (by omega)
        have dl : decide (F.to_ < l.length) = true := decide_eq_true (by omega)
        have dl2 : decide (F.to_ + 1 < l.length) = true := decide_eq_true hn
        have dl2' : decide ((F.to_ : Int) + 1 < (l.length : Int)) = true := decide_eq_true (by omega)
        clear he g1 g2 g3 hb1 hb2
        have t1 : wy.cell? ⟨w.heap.size + 1, 1, none⟩ = some (.int .i64 0) := by rw [cell_at H6y.out]; rfl
        have z1 := unfrozen H6y.out 1
        have H4z : Hid ((wy.setCell ⟨w.heap.size + 1, 1, none⟩ (.int .i64 2)).heap[w.heap.size]? = some (.cells #[.slice none 0 0, .int .i64 0] 113 (0, 0))) := (heap_set_other (by omega)).trans H4y.out
        have H6z : Hid ((wy.setCell ⟨w.heap.size + 1, 1, none⟩ (.int .i64 2)).heap[w.heap.size + 1]? = some (.cells #[.slice a8 (ps.length + 1) c8, .int .i64 2] 113 (0, 0))) := heap_set_at H6y.out
        have HOz := Lib.hid (own_set (o := 1) (u := .int .i64 2) HOy.out (own_ne HOy.out H6y.out (by decide)))
        have HPz := Lib.hid (HPy.out.set (o := 1) (u := .int .i64 2) H6y.out (by decide))
        have HBz := Lib.hid (HBy.out.setCell (p := ⟨w.heap.size + 1, 1, none⟩) (by show w.heap.size ≤ w.heap.size + 1; omega) (.int .i64 2))
        go_upto_region 14 with fail
        clear t1 z1 u0 u1 H4y H6y H7y HOy HPy HBy
        generalize wy.setCell ⟨w.heap.size + 1, 1, none⟩ (.int .i64 2) = wz at *
        have x0 : wz.cell? ⟨w.heap.size, 0, none⟩ = some (.slice none 0 0) := by rw [cell_at H4z.out]; rfl
        have x1 : wz.cell? ⟨w.heap.size, 1, none⟩ = some (.int .i64 0) := by rw [cell_at H4z.out]; rfl
        have o0 := unfrozen H4z.out 0
        have o1 := unfrozen H4z.out 1
        have y0 : wz.cell? ⟨w.heap.size + 1, 0, none⟩ = some (.slice a8 (ps.length + 1) c8) := by rw [cell_at H6z.out]; rfl
        have y1 : wz.cell? ⟨w.heap.size + 1, 1, none⟩ = some (.int .i64 2) := by rw [cell_at H6z.out]; rfl
        have q0 := two_c0 x0 (.slice a8 (ps.length + 1) c8) (.int .i64 2)
        have q1 := two_c1 x1 (.slice a8 (ps.length + 1) c8) (.int .i64 2)
        have Q0 := Lib.hid q0
        have Q1 := Lib.hid q1
        clear q0 q1
        go_wp2_with fail
        have q0 := Q0.out
        have q1 := Q1.out
        refine bodyPost_ret (v := .tuple #[.agg #[.slice a8 (ps.length + 1) c8, .int .i64 2], .int .i64 ((F.to_ : Int) + 2)]) (by simp [results, Tryz.results104, go_sem, q0, q1]) rfl ?_
        have h4c := heap_set_at (o := 0) (u := .slice a8 (ps.length + 1) c8) H4z.out
        have hn1 := own_ne HOz.out H4z.out (by decide)
        refine ⟨ps ++ [(F, a5, c5)], a8, c8, ?_, HFS.out, ?_, ?_, below_two HBz.out (Nat.le_refl _) _ _⟩
        · rw [HFI.out, HNX.out, HNQ.out]
        · rw [HNQ.out]; exact own_mono (own_set (own_set HOz.out hn1) hn1) (by omega)
        · exact ((HPz.out.set H4z.out (by decide)).set h4c (by decide)).mono (by omega)
      · rw [he] at g2 g3
        have HFI := Lib.hid g2
        have HNX : Hid (((rowP l i).next : Int) = (F.to_ : Int) + 1) := by show _ = _; rw [g3]; rfl
        have hxl : F.to_ < s.size := by omega
        have hb := lb_get HS.out (i := F.to_) hxl
        rw [hb1] at hb
        have dc : decide (l.length ≤ F.to_) = false := decide_eq_false (by omega)
        have dl : decide (F.to_ < l.length) = true := decide_eq_true hn
        clear he g1 g2 g3 hb1
        by_cases hl2 : F.to_ + 1 < l.length
        · have dl2 : decide (F.to_ + 1 < l.length) = true := decide_eq_true hl2
          have dl2' : decide ((F.to_ : Int) + 1 < (l.length : Int)) = true := decide_eq_true (by omega)
          have hxl' : F.to_ + 1 < s.size := by omega
          have hb' := lb_get HS.out (i := F.to_ + 1) hxl'
          have d10 : (lb l (F.to_ + 1) == 10) = false := by simp; exact fun h => hb2 ⟨hl2, h⟩
          clear hb2
          generalize lb l (F.to_ + 1) = x at *
          have t1 : wy.cell? ⟨w.heap.size + 1, 1, none⟩ = some (.int .i64 0) := by rw [cell_at H6y.out]; rfl
          have z1 := unfrozen H6y.out 1
          have H4z : Hid ((wy.setCell ⟨w.heap.size + 1, 1, none⟩ (.int .i64 3)).heap[w.heap.size]? = some (.cells #[.slice none 0 0, .int .i64 0] 113 (0, 0))) := (heap_set_other (by omega)).trans H4y.out
          have H6z : Hid ((wy.setCell ⟨w.heap.size + 1, 1, none⟩ (.int .i64 3)).heap[w.heap.size + 1]? = some (.cells #[.slice a8 (ps.length + 1) c8, .int .i64 3] 113 (0, 0))) := heap_set_at H6y.out
          have HOz := Lib.hid (own_set (o := 1) (u := .int .i64 3) HOy.out (own_ne HOy.out H6y.out (by decide)))
          have HPz := Lib.hid (HPy.out.set (o := 1) (u := .int .i64 3) H6y.out (by decide))
          have HBz := Lib.hid (HBy.out.setCell (p := ⟨w.heap.size + 1, 1, none⟩) (by show w.heap.size ≤ w.heap.size + 1; omega) (.int .i64 3))
          go_upto_region 17 with fail
          clear t1 z1 u0 u1 H4y H6y H7y HOy HPy HBy
          generalize wy.setCell ⟨w.heap.size + 1, 1, none⟩ (.int .i64 3) = wz at *
          have x0 : wz.cell? ⟨w.heap.size, 0, none⟩ = some (.slice none 0 0) := by rw [cell_at H4z.out]; rfl
          have x1 : wz.cell? ⟨w.heap.size, 1, none⟩ = some (.int .i64 0) := by rw [cell_at H4z.out]; rfl
          have o0 := unfrozen H4z.out 0
          have o1 := unfrozen H4z.out 1
          have y0 : wz.cell? ⟨w.heap.size + 1, 0, none⟩ = some (.slice a8 (ps.length + 1) c8) := by rw [cell_at H6z.out]; rfl
          have y1 : wz.cell? ⟨w.heap.size + 1, 1, none⟩ = some (.int .i64 3) := by rw [cell_at H6z.out]; rfl
          have q0 := two_c0 x0 (.slice a8 (ps.length + 1) c8) (.int .i64 3)
          have q1 := two_c1 x1 (.slice a8 (ps.length + 1) c8) (.int .i64 3)
          have Q0 := Lib.hid q0
          have Q1 := Lib.hid q1
          clear q0 q1
          go_wp2_with fail
          have q0 := Q0.out
          have q1 := Q1.out
          refine bodyPost_ret (v := .tuple #[.agg #[.slice a8 (ps.length + 1) c8, .int .i64 3], .int .i64 ((F.to_ : Int) + 1)]) (by simp [results, Tryz.results104, go_sem, q0, q1]) rfl ?_
          have h4c := heap_set_at (o := 0) (u := .slice a8 (ps.length + 1) c8) H4z.out
          have hn1 := own_ne HOz.out H4z.out (by decide)
          refine ⟨ps ++ [(F, a5, c5)], a8, c8, ?_, HFS.out, ?_, ?_, below_two HBz.out (Nat.le_refl _) _ _⟩
          · rw [HFI.out, HNX.out, HNQ.out]
          · rw [HNQ.out]; exact own_mono (own_set (own_set HOz.out hn1) hn1) (by omega)
          · exact ((HPz.out.set H4z.out (by decide)).set h4c (by decide)).mono (by omega)
        · have dl2 : decide (F.to_ + 1 < l.length) = false := decide_eq_false (by omega)
          have dl2' : decide ((F.to_ : Int) + 1 < (l.length : Int)) = false := decide_eq_false (by omega)
          clear hb2
          have t1 : wy.cell? ⟨w.heap.size + 1, 1, none⟩ = some (.int .i64 0) := by rw [cell_at H6y.out]; rfl
          have z1 := unfrozen H6y.out 1
          have H4z : Hid ((wy.setCell ⟨w.heap.size + 1, 1, none⟩ (.int .i64 3)).heap[w.heap.size]? = some (.cells #[.slice none 0 0, .int .i64 0] 113 (0, 0))) := (heap_set_other (by omega)).trans H4y.out
          have H6z : Hid ((wy.setCell ⟨w.heap.size + 1, 1, none⟩ (.int .i64 3)).heap[w.heap.size + 1]? = some (.cells #[.slice a8 (ps.length + 1) c8, .int .i64 3] 113 (0, 0))) := heap_set_at H6y.out
          have HOz := Lib.hid (own_set (o := 1) (u := .int .i64 3) HOy.out (own_ne HOy.out H6y.out (by decide)))
          have HPz := Lib.hid (HPy.out.set (o := 1) (u := .int .i64 3) H6y.out (by decide))
          have HBz := Lib.hid (HBy.out.setCell (p := ⟨w.heap.size + 1, 1, none⟩) (by show w.heap.size ≤ w.heap.size + 1; omega) (.int .i64 3))
          go_upto_region 17 with fail
          clear t1 z1 u0 u1 H4y H6y H7y HOy HPy HBy
          generalize wy.setCell ⟨w.heap.size + 1, 1, none⟩ (.int .i64 3) = wz at *
          have x0 : wz.cell? ⟨w.heap.size, 0, none⟩ = some (.slice none 0 0) := by rw [cell_at H4z.out]; rfl
          have x1 : wz.cell? ⟨w.heap.size, 1, none⟩ = some (.int .i64 0) := by rw [cell_at H4z.out]; rfl
          have o0 := unfrozen H4z.out 0
          have o1 := unfrozen H4z.out 1
          have y0 : wz.cell? ⟨w.heap.size + 1, 0, none⟩ = some (.slice a8 (ps.length + 1) c8) := by rw [cell_at H6z.out]; rfl
          have y1 : wz.cell? ⟨w.heap.size + 1, 1, none⟩ = some (.int .i64 3) := by rw [cell_at H6z.out]; rfl
          have q0 := two_c0 x0 (.slice a8 (ps.length + 1) c8) (.int .i64 3)
          have q1 := two_c1 x1 (.slice a8 (ps.length + 1) c8) (.int .i64 3)
          have Q0 := Lib.hid q0
          have Q1 := Lib.hid q1
          clear q0 q1
          go_wp2_with fail
          have q0 := Q0.out
          have q1 := Q1.out
          refine bodyPost_ret (v := .tuple #[.agg #[.slice a8 (ps.length + 1) c8, .int .i64 3], .int .i64 ((F.to_ : Int) + 1)]) (by simp [results, Tryz.results104, go_sem, q0, q1]) rfl ?_
          have h4c := heap_set_at (o := 0) (u := .slice a8 (ps.length + 1) c8) H4z.out
          have hn1 := own_ne HOz.out H4z.out (by decide)
          refine ⟨ps ++ [(F, a5, c5)], a8, c8, ?_, HFS.out, ?_, ?_, below_two HBz.out (Nat.le_refl _) _ _⟩
          · rw [HFI.out, HNX.out, HNQ.out]
          · rw [HNQ.out]; exact own_mono (own_set (own_set HOz.out hn1) hn1) (by omega)
          · exact ((HPz.out.set H4z.out (by decide)).set h4c (by decide)).mono (by omega)

end Go.Proofs.YtkgakgceamafcaaGreat

namespace Go.Proofs.YtkgakgceamafcaaGreat
open Go Go.RowKit
set_option linter.unusedVariables false

/-- A row's fields, and their parts, lie in memory. -/
structure RRowIn (w : World) (B : Nat) (p : RowM) : Prop where
  fs : p.2.1.map (·.1) = p.1.fs
  own : w.ownsRow B 190 4 (.slice p.2.2.1 p.2.1.length p.2.2.2) p.2.1.length (rfC p.2.1)
  parts : PlsIn w B p.2.1
def RRowsIn (w : World) (B : Nat) (rs : List RowM) : Prop := ∀ p ∈ rs, RRowIn w B p
theorem RRowIn.below {w w' : World} {B : Nat} {p : RowM} (h : RRowIn w B p) (hb : Below w.heap.size w w') : RRowIn w' B p := ⟨h.fs, own_below h.own hb, h.parts.below hb⟩
theorem RRowIn.mono {w : World} {B B' : Nat} {p : RowM} (h : RRowIn w B' p) (hB : B ≤ B') : RRowIn w B p := ⟨h.fs, own_mono h.own hB, h.parts.mono hB⟩
theorem RRowIn.grown {w w' : World} {B B' sz n : Nat} {e : TypeId} {v : Value} {xs : List Value} {p : RowM} (h : RRowIn w B p) (ho : w.ownsRow B' e sz v n xs) (he : e ≠ 3) (he2 : e ≠ 190) (hg : w.grownBy w' v.ownBlock) : RRowIn w' B p :=
  ⟨h.fs, own_grown h.own ho (fun e' => he2 e'.symm) hg, h.parts.grown ho he hg⟩
theorem RRowsIn.below {w w' : World} {B : Nat} {ps : List RowM} (h : RRowsIn w B ps) (hb : Below w.heap.size w w') : RRowsIn w' B ps := fun p hp => (h p hp).below hb
theorem RRowsIn.mono {w : World} {B B' : Nat} {ps : List RowM} (h : RRowsIn w B' ps) (hB : B ≤ B') : RRowsIn w B ps := fun p hp => (h p hp).mono hB
theorem RRowsIn.grown {w w' : World} {B B' sz n : Nat} {e : TypeId} {v : Value} {xs : List Value} {ps : List RowM} (h : RRowsIn w B ps) (ho : w.ownsRow B' e sz v n xs) (he : e ≠ 3) (he2 : e ≠ 190) (hg : w.grownBy w' v.ownBlock) : RRowsIn w' B ps := fun p hp => (h p hp).grown ho he he2 hg
theorem RRowsIn.snoc {w : World} {B : Nat} {ps : List RowM} {p : RowM} (h : RRowsIn w B ps) (hp : RRowIn w B p) : RRowsIn w B (ps ++ [p]) := by
  intro q hq
  rcases List.mem_append.1 hq with hq | hq
  · exact h q hq
  · obtain rfl := List.mem_singleton.1 hq; exact hp

/-- What a call hands back that tells all rows. -/
def RAllPost (R : List Rw) (w : World) (e : Ending) (w' : World) : Prop :=
  ∃ (rs : List RowM) (a : Option Addr) (c : Nat), e = .returned (.slice a rs.length c) ∧ rs.map (·.1) = R ∧ w'.ownsRow w.heap.size 113 2 (.slice a rs.length c) rs.length (rwC rs) ∧ RRowsIn w' w.heap.size rs ∧ Below w.heap.size w w'
theorem info_rrow : (Tryz.prog.info? 113).map (fun i => (i.zero, i.size, i.bytes)) = some (some (.agg #[.slice none 0 0, .int .i64 0]), 2, 32) := by kernel_rfl

/-- What holds at the head of All's loop. -/
def RAllJ (l : List UInt8) (w : World) (v3 v4 : Value) (wr : World) : Prop := ∃ (rs : List RowM) (k : Nat) (a : Option Addr) (c : Nat), v3 = .slice a rs.length c ∧ v4 = .int .i64 k ∧ k ≤ l.length ∧ rs.length ≤ k ∧
  allP l 0 = rs.map (·.1) ++ allP l k ∧ wr.ownsRow w.heap.size 113 2 (.slice a rs.length c) rs.length (rwC rs) ∧ RRowsIn wr w.heap.size rs ∧ Below w.heap.size w wr

set_option maxRecDepth 100000 in
set_option maxHeartbeats 4000000 in
theorem rall_of {s : ByteArray} {l : List UInt8} (hs : s.data.toList = l) (hl : l.length ≤ 1000000) (w : World) :
    Calls Tryz.prog 49 #[.string s] w (RAllPost (allP l 0) w) := by
  obtain ⟨i0, hi0, hz0, hz1, hz2⟩ := info_parts info_rrow
  have HS := Lib.hid hs
  have hsz := sz_of hs
  clear hs
  go_enter Tryz.func49, Tryz.ntmps49
  go_wp2_with fail
  go_loopw [3, 4] (fun v3 v4 wr => RAllJ l w v3 v4 wr) (fun _ v4 _ => l.length - (intOf v4).toNat)
  case atStart => exact ⟨[], 0, none, 0, rfl, rfl, by omega, by simp, by simp, own_nil _ _ _ _, fun p hp => by simp at hp, Below.refl _ _⟩
  case round =>
    obtain ⟨rs, k, a3, c3, rfl, rfl, hkn, hrk, hall, ho, hri, hb⟩ := hrel
    have HA := Lib.hid hall
    have HO := Lib.hid ho
    have HI := Lib.hid hri
    have HB := Lib.hid hb
    have hzr := hb.size
    clear hall ho hri hb
    by_cases hlt : k < l.length
    · have dk : decide (k < l.length) = true := decide_eq_true hlt
      have hn := rowP_next hlt
      have hn1 := hn.1
      have hn2 := hn.2
      have HC := Lib.hid (rone_of HS.out hl k hlt wr)
      have HM := Lib.hid (allP_more hlt)
      clear hn
      generalize rowP l k = R at *
      go_wp2_with fail
      refine HC.out.mono ?_; rintro e w2 ⟨ps, a5, c5, rfl, hfs, ho2, hpi2, hb2⟩
      have hz2 := hb2.size
      have HFS := Lib.hid hfs
      have HO2 := Lib.hid ho2
      have HP2 := Lib.hid hpi2
      have HOr := Lib.hid (own_below HO.out hb2)
      have HIr := Lib.hid (HI.out.below hb2)
      have HBr := Lib.hid (HB.out.trans (hb2.mono hzr))
      have HLN := Lib.hid (rwC_len rs)
      clear hfs ho2 hpi2 hb2 HC
      go_wp2_with (first
        | (at_builtin; refine wpList_append_own _ rfl (.tmp 17) (.tmp 19) 109 rfl w.heap.size 113 i0 (.agg #[.slice none 0 0, .int .i64 0]) 2 32 Tryz.underlying109 hi0 hz0 hz1 (by assumption) rfl (by decide) (.slice a3 rs.length c3) rs.length (rwC rs) rfl ((HOr.out.alloc _).alloc _) ⟨w2.heap.size + 1, 0, none⟩ 1 1 (rwC1 (R, ps, a5, c5)) rfl rfl ?c1 ?c2 ?c3 ?c4 ?c5 ?_)
        | fail)
      case c1 =>
        intro j u hj
        rw [Addr.add_lit, Nat.zero_add]
        have hn := heap_alloc_new (w2.alloc (Obj.cells #[Value.slice a5 ps.length c5, Value.int IntKind.i64 R.fin] 113)) (Obj.cells #[Value.slice a5 ps.length c5, Value.int IntKind.i64 R.fin] 113)
        rw [World.size_alloc] at hn
        rw [cell_at hn]
        simpa [rwC1] using hj
      case c2 =>
        intro u hu
        simp only [rwC1, List.mem_cons, List.not_mem_nil, or_false] at hu
        rcases hu with rfl | rfl <;> rfl
      case c3 => unfold maxLen; omega
      case c4 => omega
      case c5 => simp only [World.size_alloc]; omega
      intro v7 wB ho7 hg7 _
      obtain ⟨a8, c8, rfl⟩ := own_slice ho7
      have al := (below_al w2 (Obj.cells #[Value.slice a5 ps.length c5, Value.int IntKind.i64 R.fin] 113)).alloc (by simp) (Obj.cells #[Value.slice a5 ps.length c5, Value.int IntKind.i64 R.fin] 113)
      have HOa := own_below HOr.out al
      have HIB := Lib.hid (((HIr.out.below al).grown HOa (by decide) (by decide) hg7).snoc (p := (R, ps, a5, c5)) (((RRowIn.mk HFS.out HO2.out HP2.out : RRowIn w2 wr.heap.size (R, ps, a5, c5)).mono hzr).below al |>.grown HOa (by decide) (by decide) hg7))
      have HOB := Lib.hid ho7
      have HBB := Lib.hid ((HBr.out.trans (al.mono (by omega))).grown hg7 (by simp only [World.size_alloc]; omega) (fun q hq => (HOa.lt q hq).1))
      clear ho7 hg7 al HOa
      go_wp2_with fail
      go_roundw
      case rel => exact ⟨rs ++ [(R, ps, a5, c5)], R.next, a8, c8, by simp, rfl, hn2, by simp; omega, by rw [HA.out, HM.out]; simp, by rw [rwC_snoc, List.length_append]; exact HOB.out, HIB.out, HBB.out⟩
      case measure => simp [intOf]; omega
    · have dk : decide (k < l.length) = false := decide_eq_false hlt
      have hend := Lib.hid (allP_end (l := l) (i := k) (by omega))
      go_wp2_with fail
      go_ret
      exact ⟨rs, a3, c3, rfl, by rw [HA.out, hend.out, List.append_nil], HO.out, HI.out, HB.out⟩

end Go.Proofs.YtkgakgceamafcaaGreat
