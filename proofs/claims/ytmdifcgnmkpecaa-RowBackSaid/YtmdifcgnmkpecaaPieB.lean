/-
  The contract of piece.Of, at this seat's numbers.
-/
import Derived.Test.YtmdifcgnmkpecaaPieA
namespace Go.Proofs.Ytmdifcgnmkpecaa
open Go Go.RowKit
set_option linter.unusedVariables false

/-- A span of few bytes, not empty. -/
def Ok1 (q : Int × Int) : Prop := In40 q.1 ∧ In40 q.2 ∧ 1 ≤ q.2

theorem pjoin_of {w : World} {B c : Nat} {a : Option Addr} {l : List (Int × Int)} (ho : w.ownsRow B 39 2 (.slice a l.length c) l.length (spC l)) (hB : B ≤ w.heap.size) (x y : Int)
    (hok : ∀ q ∈ l, Ok1 q) (hx : In40 x) (hy : 1 ≤ y → In40 y) (hl : l.length ≤ 1000000) :
    Calls Try.prog 64 #[.slice a l.length c, .agg #[.int .i64 x, .int .i64 y]] w fun e w' => ∃ v', e = .returned v' ∧ w'.ownsRow B 39 2 v' (joinS l (x, y)).length (spC (joinS l (x, y))) ∧ Below B w w' ∧ w.heap.size ≤ w'.heap.size := by
  unfold joinS
  by_cases h : y < 1
  · rw [if_pos (show (x, y).2 < 1 from h)]
    refine (pjoin_skip x y h).mono ?_
    rintro e w' ⟨rfl, hb⟩
    exact ⟨_, rfl, own_below ho hb, hb.mono hB, hb.size⟩
  · rw [if_neg (show ¬ (x, y).2 < 1 from h)]
    rcases List.eq_nil_or_concat l with rfl | ⟨l0, q, rfl⟩
    · exact pjoin_first ho hB x y (by omega)
    · rw [List.concat_eq_append] at *
      have hq : Ok1 q := hok q (by simp)
      obtain ⟨q1, q2, q3⟩ := hq
      rw [List.length_append] at ho hl ⊢
      rw [glue_snoc]
      by_cases hg : x = q.1 + q.2
      · rw [if_pos (show (x, y).1 = q.1 + q.2 from hg), List.length_append]
        exact pjoin_glue l0 q ho hB x y (by omega) q1 q2 hx (hy (by omega)) (by simp at hl; omega) (by unfold joinB; simp only [decide_eq_true_eq]; omega)
      · rw [if_neg (show ¬ (x, y).1 = q.1 + q.2 from hg), List.length_append, List.length_append, spC_snoc (l0 ++ [q])]
        exact pjoin_more l0 q ho hB x y (by omega) q1 q2 hx (hy (by omega)) (by simp at hl; omega) (by unfold joinB; simp only [decide_eq_false_iff_not]; omega)

theorem joinS_len (l : List (Int × Int)) (s : Int × Int) : (joinS l s).length ≤ l.length + 1 := by
  unfold joinS
  split
  · omega
  · rcases glue_cases l s with ⟨rfl, h⟩ | ⟨l0, q, rfl, h⟩
    · rw [h]; simp
    · rw [h]; split <;> simp

theorem own_mono {w : World} {B B' n s : Nat} {e : TypeId} {v : Value} {xs : List Value} (h : w.ownsRow B' e s v n xs) (hB : B ≤ B') : w.ownsRow B e s v n xs :=
  ⟨h.1, h.2.imp id fun ⟨g, cap, cur, e1, e2, r⟩ => ⟨g, cap, cur, e1, Nat.le_trans hB e2, r⟩⟩
theorem ofS_take {l : List (Int × Int)} {k : Nat} (h : k < l.length) : ofS (l.take (k + 1)) = joinS (ofS (l.take k)) (l[k].1, l[k].2) := by
  rw [List.take_succ_eq_append_getElem h, ofS_snoc]

set_option maxRecDepth 100000 in
set_option maxHeartbeats 4000000 in
theorem pof_of {w : World} {a : Option Addr} {c : Nat} {l : List (Int × Int)} (hr : Rd w 2 a l.length (spC l)) (hl : l.length ≤ 100000)
    (h40 : ∀ s ∈ l, In40 s.1 ∧ (1 ≤ s.2 → In40 s.2)) (hok : ∀ k, ∀ q ∈ ofS (l.take k), Ok1 q) :
    Calls Try.prog 24 #[.slice a l.length c] w fun e w' => ∃ v', e = .returned (.agg #[v']) ∧ w'.ownsRow w.heap.size 39 2 v' (ofS l).length (spC (ofS l)) ∧ Below w.heap.size w w' := by
  have al := below_al w (Obj.cells #[Value.slice none 0 0] 48)
  have HR := Lib.hid (hr.below al)
  have H4 := Lib.hid h40
  have HK := Lib.hid hok
  have HL := Lib.hid hl
  have HB0 := Lib.hid al
  have H69 := Lib.hid (heap_alloc_new w (Obj.cells #[Value.slice none 0 0] 48))
  have hz1 : (w.alloc (Obj.cells #[Value.slice none 0 0] 48)).heap.size = w.heap.size + 1 := by simp
  clear hr h40 hok hl al
  go_enter Try.func24, Try.ntmps24
  go_wp2_with fail
  generalize w.alloc (Obj.cells #[Value.slice none 0 0] 48) = w1 at *
  have HZ := Lib.hid hz1
  clear hz1
  go_loopw [3, 8] (fun v3 i wr => ∃ k : Nat, k ≤ l.length ∧ i = .int .i64 k ∧ wr.ownsRow (w.heap.size + 1) 39 2 v3 (ofS (l.take k)).length (spC (ofS (l.take k))) ∧ (ofS (l.take k)).length ≤ k ∧ Below (w.heap.size + 1) w1 wr ∧ w.heap.size + 1 ≤ wr.heap.size) (fun _ i _ => l.length - (intOf i).toNat)
  case atStart => exact ⟨0, by omega, rfl, own_nil _ _ _ _, by simp [ofS], Below.refl _ _, by rw [HZ.out]; omega⟩
  case round =>
    obtain ⟨k, hk, rfl, ho, hlk, hb, hzr⟩ := hrel
    have HB := Lib.hid hb
    have HO := Lib.hid ho
    obtain ⟨a3, c3, rfl⟩ := own_slice ho
    clear hb ho
    have hk1 : (ofS (l.take (k + 1))).length ≤ (ofS (l.take k)).length + 1 := by
      by_cases h : k < l.length
      · rw [ofS_take h]; exact joinS_len _ _
      · rw [List.take_of_length_le (by omega), List.take_of_length_le (by omega)]; omega
    by_cases hlt : k < l.length
    · have dk : decide (k < l.length) = true := decide_eq_true hlt
      have hln := HL.out
      obtain ⟨b, off, rfl, hbl, hcl⟩ := HR.out.2 (by omega)
      have hsp := spC_at l k l[k] (List.getElem?_eq_getElem hlt)
      have hb1 : b < w.heap.size + 1 := by rw [← HZ.out]; exact hbl
      have f1 : wr.cell? ⟨b, off + k * 2, none⟩ = some (.int .i64 l[k].1) := (HB.out.cell (p := ⟨b, off + k * 2, none⟩) hb1).trans (hcl _ _ hsp.1)
      have f2 : wr.cell? ⟨b, off + k * 2 + 1, none⟩ = some (.int .i64 l[k].2) := (HB.out.cell (p := ⟨b, off + k * 2 + 1, none⟩) hb1).trans (hcl _ _ hsp.2)
      have hin := H4.out l[k] (List.getElem_mem hlt)
      have ht := ofS_take hlt
      have HJ := Lib.hid (pjoin_of (HO.out.alloc (Obj.cells #[Value.int IntKind.i64 l[k].1, Value.int IntKind.i64 l[k].2] 39)) (by simp only [World.size_alloc]; omega) l[k].1 l[k].2 (HK.out k) hin.1 hin.2 (by have := HL.out; omega))
      rw [← ht] at HJ
      clear hbl hcl hsp hin ht HR H4
      generalize l[k].1 = x at *
      generalize l[k].2 = y at *
      generalize (ofS (l.take k)).length = n3 at *
      go_wp2_with fail
      refine HJ.out.mono ?_; rintro e w2 ⟨v', rfl, ho2, hb2, hz2⟩
      have HO2 := Lib.hid ho2
      have HB2 := Lib.hid ((HB.out.alloc hzr (Obj.cells #[Value.int IntKind.i64 x, Value.int IntKind.i64 y] 39)).trans hb2)
      simp only [World.size_alloc] at hz2
      clear ho2 hb2 HJ
      go_wp2_with fail
      go_roundw
      case rel => exact ⟨k + 1, hlt, by go_num, HO2.out, by omega, HB2.out, by omega⟩
      case measure => simp [intOf]; omega
    · have dk : decide (k < l.length) = false := decide_eq_false hlt
      obtain rfl : k = l.length := by omega
      rw [List.take_length] at HO
      have h69 := (HB.out.block w.heap.size (by omega)).trans H69.out
      have c69 : wr.cell? ⟨w.heap.size, 0, none⟩ = some (.slice none 0 0) := by rw [cell_at h69]; rfl
      have z69 := unfrozen h69 0
      clear h69 HR H4 HK
      go_wp2_with fail
      rw [List.take_length] at *
      have hs69 := HO.out.kept (w' := wr.setCell ⟨w.heap.size, 0, none⟩ (.slice a3 (ofS l).length c3)) (row := some w.heap.size) ⟨rfl, rfl, rfl, by rw [size_set]; omega, fun i hi hn => heap_set_other (fun e => hn (by rw [e]))⟩ (.inr (fun e => by have := (HO.out.lt _ e).1; omega))
      have c70 : (wr.setCell ⟨w.heap.size, 0, none⟩ (.slice a3 (ofS l).length c3)).cell? ⟨w.heap.size, 0, none⟩ = some (.slice a3 (ofS l).length c3) := cell_set_same c69
      refine bodyPost_ret (v := .agg #[.slice a3 (ofS l).length c3]) (by simp [results, Try.results24, go_sem, c70]) rfl ⟨_, rfl, own_mono hs69 (by omega), ?_⟩
      exact (HB0.out.trans (HB.out.mono (by omega))).setCell (p := ⟨w.heap.size, 0, none⟩) (Nat.le_refl _) _

theorem lenS_take {l : List (Int × Int)} {k : Nat} (h : k < l.length) : lenS (l.take (k + 1)) = lenS (l.take k) + l[k].2 := by
  rw [List.take_succ_eq_append_getElem h, lenS_append, lenS_one]

set_option maxRecDepth 100000 in
set_option maxHeartbeats 4000000 in
theorem plen_of {w : World} {a : Option Addr} {c : Nat} {l : List (Int × Int)} (hr : Rd w 2 a l.length (spC l)) (hl : l.length ≤ 1000000)
    (hs : ∀ k, 0 ≤ lenS (l.take k) ∧ lenS (l.take k) ≤ 1099511627776) :
    Calls Try.prog 55 #[.agg #[.slice a l.length c]] w fun e w' => e = .returned (.int .i64 (lenS l)) ∧ Below w.heap.size w w' := by
  have al := below_al w (Obj.cells #[Value.slice a l.length c] 48)
  have HR := Lib.hid (hr.below al)
  have HS := Lib.hid hs
  have HL := Lib.hid hl
  have HB0 := Lib.hid al
  have hz0 := al.size
  have c0 : (w.alloc (Obj.cells #[Value.slice a l.length c] 48)).cell? ⟨w.heap.size, 0, none⟩ = some (.slice a l.length c) := by rw [cell_at (heap_alloc_new w _)]; rfl
  clear hr hs hl al
  go_enter Try.func55, Try.ntmps55
  go_wp2_with fail
  clear c0
  generalize w.alloc (Obj.cells #[Value.slice a l.length c] 48) = w1 at *
  go_loopw [3, 9] (fun v3 i wr => ∃ k : Nat, k ≤ l.length ∧ i = .int .i64 k ∧ v3 = .int .i64 (lenS (l.take k)) ∧ Below w1.heap.size w1 wr) (fun _ i _ => l.length - (intOf i).toNat)
  case atStart => exact ⟨0, by omega, rfl, by simp [lenS_nil], Below.refl _ _⟩
  case round =>
    obtain ⟨k, hk, rfl, rfl, hb⟩ := hrel
    have HB := Lib.hid hb
    clear hb
    by_cases hlt : k < l.length
    · have dk : decide (k < l.length) = true := decide_eq_true hlt
      have hln := HL.out
      obtain ⟨b, off, rfl, hbl, hcl⟩ := HR.out.2 (by omega)
      have hsp := spC_at l k l[k] (List.getElem?_eq_getElem hlt)
      have f1 : wr.cell? ⟨b, off + k * 2, none⟩ = some (.int .i64 l[k].1) := (HB.out.cell (p := ⟨b, off + k * 2, none⟩) hbl).trans (hcl _ _ hsp.1)
      have f2 : wr.cell? ⟨b, off + k * 2 + 1, none⟩ = some (.int .i64 l[k].2) := (HB.out.cell (p := ⟨b, off + k * 2 + 1, none⟩) hbl).trans (hcl _ _ hsp.2)
      have ht := lenS_take hlt
      have s1 := (HS.out k)
      have s2 := (HS.out (k + 1))
      rw [ht] at s2
      obtain ⟨s10, s11⟩ := s1
      obtain ⟨s20, s21⟩ := s2
      have HT := Lib.hid ht
      have HBo := Lib.hid (HB.out.alloc HB.out.size (Obj.cells #[Value.int IntKind.i64 l[k].1, Value.int IntKind.i64 l[k].2] 39))
      clear hbl hcl hsp ht HR HS HB
      generalize l[k].1 = x at *
      generalize l[k].2 = y at *
      generalize lenS (l.take k) = sk at *
      go_wp2_with fail
      go_roundw
      case rel => exact ⟨k + 1, hlt, by go_num, by rw [HT.out] <;> rfl, HBo.out⟩
      case measure => simp [intOf]; omega
    · have dk : decide (k < l.length) = false := decide_eq_false hlt
      obtain rfl : k = l.length := by omega
      have hB : Hid (Below w.heap.size w wr) := HB0.out.trans (HB.out.mono hz0)
      rw [List.take_length]
      clear HR HS
      go_wp2_with fail
      go_ret
      exact ⟨rfl, hB.out⟩

end Go.Proofs.Ytmdifcgnmkpecaa
