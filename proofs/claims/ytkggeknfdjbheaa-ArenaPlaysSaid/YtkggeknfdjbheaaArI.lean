/-
  The walk of the statement ArenaStays, at this seat's numbers.
-/
import Derived.Test.YtkggeknfdjbheaaArH
import Derived.Deep.RegionHeld3
import Derived.Deep.DeepCutAuto
namespace Go.Proofs.Ytkggeknfdjbheaa
open Go Go.RowKit
set_option linter.unusedVariables false

/-- An argument that is a slice of texts. -/
structure StrArg (w : World) (a : Option Addr) (c : Nat) (L : List ByteArray) : Prop where
  rd : Rd w 1 a L.length (L.map Value.string)
  fits : L.length ≤ c
  cap : c ≤ maxLen
  size : ∀ s ∈ L, s.size ≤ maxLen

/-- Bytes, and what becomes of them as a text. -/
theorem bytes_str {W w : World} {B p : Nat} {l : List UInt8} (h : Ar w B p l) (hl : l.length ≤ 16384) (x y : Int) (t : List UInt8) (ht : subL l x y = t) (hw : Below W.heap.size W w) :
    Calls Try.prog 23 #[.pointer (some ⟨p, 0, none⟩), .agg #[.int .i64 x, .int .i64 y]] w fun e w' => ∃ a n c, e = .returned (.slice a n c) ∧ (convert 30 9 (.slice a n c)).run Try.prog w' = .ok (.string (strOf t)) w' ∧ Below W.heap.size W w' := by
  refine (abytes_of h hl x y).mono ?_
  rintro e w' ⟨a, c, rfl, ho, hb⟩
  rw [ht] at ho ⊢
  exact ⟨a, _, c, rfl, string_own ho, hw.trans (hb.mono hw.size)⟩

/-- New memory's Span, 'alloc'. -/
theorem below_al (w : World) (o : Obj) : Below w.heap.size w (w.alloc o) := (Below.refl _ w).alloc (Nat.le_refl _) o

set_option maxHeartbeats 8000000 in
set_option maxRecDepth 100000 in
theorem arenaStays_walk (f : ByteArray) (a : Option Addr) (c : Nat) (L : List ByteArray) (w : World) (hf : f.size ≤ maxLen) (hL : StrArg w a c L) (hm : ML w) :
    Calls Try.prog 5 #[.string f, .slice a L.length c] w fun e w' => e = .returned (.bool true) ∧ Below w.heap.size w w' := by
  obtain ⟨i0, hi0, hz0, hz1, hz2⟩ := info_parts info_span
  obtain ⟨j0, gi0, gz0, gz1, gz2⟩ := info_parts info_string
  have HM := Lib.hid hm
  have h0 := hm.1
  have HL := Lib.hid hL
  have HC := Lib.hid (cut_of f 4096 w hf (by decide))
  have hs := cutS_le f 4096
  generalize cutS f 4096 = s at *
  obtain ⟨cap, W1, hconv, hheld, hb1⟩ := held_of s w (by unfold maxLen; omega)
  have HN := Lib.hid (new_of (t := s.data.toList) _ cap (rd_held hheld) hs)
  have HB1 := Lib.hid hb1
  have hLn := hL.fits
  have hLm := hL.cap
  unfold maxLen at hLm
  have hz1' := hb1.size
  clear hm hf hheld hb1 hL
  have hlen : s.size = s.data.toList.length := rfl
  go_enter Try.func5, Try.ntmps5
  go_wp2_with fail
  refine HC.out.mono ?_; rintro e w1 ⟨rfl, rfl⟩
  rw [hlen] at hconv
  clear hlen
  go_wp2_with fail
  refine HN.out.mono ?_; rintro e w2 ⟨p, rfl, hA, hb⟩
  have HA := Lib.hid hA
  have HB2 := Lib.hid (HB1.out.trans (hb.mono hz1'))
  have hz2' := hb.size
  have hsl : s.data.toList.length ≤ 16384 := by have : s.data.toList.length = s.size := rfl; omega
  generalize s.data.toList = l at *
  clear hA hb HC HN hconv
  generalize hB : W1.heap.size = B at *
  clear hB
  go_wp2_with fail
  have HB2z : Hid (B ≤ w2.heap.size) := hz2'
  go_loopw [7, 8, 32] (fun v7 v8 i wr => ∃ (k : Nat) (l' : List UInt8) (sp : List (Int × Int)) (tx : List (List UInt8)), k ≤ L.length ∧ k ≤ 40 ∧ i = .int .i64 k ∧ Ar wr B p l' ∧ l'.length ≤ 16384 ∧ Told l' sp tx ∧ sp.length ≤ k ∧ wr.ownsRow B 24 2 v7 sp.length (spC sp) ∧ wr.ownsRow B 9 1 v8 tx.length (txC tx) ∧ Below w.heap.size w wr ∧ B ≤ wr.heap.size) (fun _ _ i _ => L.length - (intOf i).toNat)
  case atStart => exact ⟨0, l, [], [], by omega, by omega, rfl, HA.out, hsl, told_nil l, by simp, own_nil _ _ _ _, own_nil _ _ _ _, HB2.out, hz2'⟩
  case round =>
    obtain ⟨k, l', sp, tx, hk, hk4, rfl, hA, hl', hT, hspk, ho7, ho8, hbw, hzr⟩ := hrel
    obtain ⟨wo, rfl⟩ : ∃ wo : World, wo = wr := ⟨_, rfl⟩
    have htxk : tx.length ≤ k := by rw [← hT.1]; exact hspk
    have HAr := Lib.hid hA
    have HTo := Lib.hid hT
    have HO7 := Lib.hid ho7
    have HO8 := Lib.hid ho8
    have HBW := Lib.hid hbw
    clear hA hT ho7 ho8 hbw HA HB2
    by_cases hlt : k < L.length ∧ k < 40
    · obtain ⟨hlt, hlt4⟩ := hlt
      obtain ⟨b, off, rfl, hb, hc⟩ := HL.out.rd.2 (by omega)
      have hcell : wo.cell? ⟨b, off + k, none⟩ = some (.string L[k]) := (HBW.out.cell (p := ⟨b, off + k, none⟩) hb).trans (hc k _ (by rw [List.getElem?_map, List.getElem?_eq_getElem hlt]; rfl))
      have htm := HL.out.size L[k] (List.getElem_mem hlt)
      generalize L[k] = t at *
      clear hb hc
      have HCu := Lib.hid (fun w => cut_of t 900 w htm (by decide))
      have hus := cutS_le t 900
      generalize cutS t 900 = u at *
      obtain ⟨cap, W1, hconv, hheld, hb1⟩ := held_of u wo (by unfold maxLen; omega)
      have hzW := hb1.size
      have hul : u.data.toList.length ≤ 900 := hus
      have HAd := Lib.hid (add_of (t := u.data.toList) (HAr.out.below hb1) hl' _ cap (by omega) (rd_held hheld) (by unfold maxLen; omega))
      have HB1 := Lib.hid hb1
      have hlen : u.size = u.data.toList.length := rfl
      have hstr : strOf u.data.toList = u := rfl
      unfold maxLen at htm
      rw [hlen] at hconv
      clear hlen hheld hb1
      go_wp2_with fail
      refine (HCu.out _).mono ?_; rintro e w1 ⟨rfl, rfl⟩
      go_wp2_with fail
      unfold ArPost ret3 at HAd
      refine HAd.out.mono ?_; rintro e w3 ⟨rfl, hA3, hT3⟩
      have hT0 := HTo.out
      have hTn : (addR l' u.data.toList).2.2 = 0 → Told (addL l' u.data.toList) (sp ++ [((addR l' u.data.toList).1, (addR l' u.data.toList).2.1)]) (tx ++ [u.data.toList]) := fun he => told_add hT0 he
      have hTf : (addR l' u.data.toList).2.2 ≠ 0 → Told (addL l' u.data.toList) sp tx := fun he => by rw [told_full he]; exact hT0
      have HTn := Lib.hid hTn
      have HTf := Lib.hid hTf
      clear hT0 hTn hTf HTo HAd HAr hconv
      have hla := hA3.choose_spec.choose_spec.2.2.2
      generalize addR l' u.data.toList = r at *
      generalize addL l' u.data.toList = la at *
      have HA3 := Lib.hid (hA3.below (below_al w3 (Obj.cells #[Value.int IntKind.i64 r.1, Value.int IntKind.i64 r.2.1] 24)))
      have HO7' := Lib.hid ((own_turned (own_below HO7.out HB1.out) hT3 (by decide) (by decide)).alloc (Obj.cells #[Value.int IntKind.i64 r.1, Value.int IntKind.i64 r.2.1] 24))
      have HO8' := Lib.hid ((own_turned (own_below HO8.out HB1.out) hT3 (by decide) (by decide)).alloc (Obj.cells #[Value.int IntKind.i64 r.1, Value.int IntKind.i64 r.2.1] 24))
      have hz3 := hT3.size
      have hl7 : ∀ q, u7.ownBlock = some q → q < wo.heap.size := fun q hq => (HO7.out.lt q hq).2
      have HL7 := Lib.hid hl7
      have HBW3 := Lib.hid ((HBW.out.trans ((HB1.out.mono HBW.out.size).trans (hT3.low.mono (by omega)))).alloc (by have := HBW.out.size; omega) (Obj.cells #[Value.int IntKind.i64 r.1, Value.int IntKind.i64 r.2.1] 24))
      have S11 := SpB.new w3 r.1 r.2.1
      have hzA : w3.heap.size < (w3.alloc (Obj.cells #[Value.int IntKind.i64 r.1, Value.int IntKind.i64 r.2.1] 24)).heap.size := by simp
      clear hA3 hT3 hl7 HO7 HO8 HBW HB1
      by_cases he : r.2.2 = 0
      · have d1 : (r.2.2 == 0) = true := by rw [beq_iff_eq]; exact he
        have HE := Lib.hid he
        clear he
        go_wp2_with (first
          | (at_builtin; refine wpList_append_own _ rfl (.tmp 50) (.tmp 52) 60 rfl B 24 i0 (.agg #[.int .i64 0, .int .i64 0]) 2 16 Try.underlying60 hi0 hz0 hz1 hz2 rfl (by decide) u7 sp.length (spC sp) rfl (HO7'.out.alloc _) ⟨w3.heap.size + 1, 0, none⟩ 1 1 [.int .i64 r.1, .int .i64 r.2.1] rfl rfl ?c1 ?c2 ?c3 ?c4 ?c5 ?_)
          | fail)
        case c1 =>
          intro j u hj
          rw [Addr.add_lit, Nat.zero_add]
          have hn := heap_alloc_new (w3.alloc (Obj.cells #[Value.int IntKind.i64 r.1, Value.int IntKind.i64 r.2.1] 24)) (Obj.cells #[Value.int IntKind.i64 r.1, Value.int IntKind.i64 r.2.1] 24)
          rw [World.size_alloc] at hn
          rw [cell_at hn]
          simpa using hj
        case c2 =>
          intro u hu
          simp only [List.mem_cons, List.not_mem_nil, or_false] at hu
          rcases hu with rfl | rfl <;> rfl
        case c3 => unfold maxLen; omega
        case c4 => omega
        case c5 => simp only [World.size_alloc]; omega
        intro v7 wB ho7 hg7 _
        have HAB := Lib.hid ((HA3.out.below (below_al _ (Obj.cells #[Value.int IntKind.i64 r.1, Value.int IntKind.i64 r.2.1] 24))).grown (HO7'.out.alloc _) (by decide) (by decide) hg7)
        have HO8B := Lib.hid (own_grown (HO8'.out.alloc (Obj.cells #[Value.int IntKind.i64 r.1, Value.int IntKind.i64 r.2.1] 24)) (HO7'.out.alloc (Obj.cells #[Value.int IntKind.i64 r.1, Value.int IntKind.i64 r.2.1] 24)) (by decide) hg7)
        have HBB := Lib.hid ((HBW3.out.alloc (by have := HBW3.out.size; omega) (Obj.cells #[Value.int IntKind.i64 r.1, Value.int IntKind.i64 r.2.1] 24)).grown hg7 (by have := HBW3.out.size; simp only [World.size_alloc] at *; omega) (fun q hq => by have := ((HO7'.out.alloc (Obj.cells #[Value.int IntKind.i64 r.1, Value.int IntKind.i64 r.2.1] 24)).lt q hq).1; omega))
        have S12 : SpB wB w3.heap.size r.1 r.2.1 := ⟨(hg7.block _ (by simp only [World.size_alloc]; omega) (fun e => by have := HL7.out _ e.symm; omega)).trans (S11.below (below_al _ _)).blk⟩
        have hzB := hg7.size
        simp only [World.size_alloc] at hzB
        have HO7B := Lib.hid ho7
        have HG7 := Lib.hid hg7
        clear ho7 hg7 S11
        go_wp2_with (first
          | (at_builtin; refine wpList_append_own _ rfl (.tmp 54) (.tmp 56) 59 rfl B 9 j0 (.string ⟨#[]⟩) 1 16 Try.underlying59 gi0 gz0 gz1 gz2 rfl (by decide) u8 tx.length (txC tx) rfl (HO8B.out.alloc _) ⟨wB.heap.size, 0, none⟩ 1 1 [.string u] rfl rfl ?c1 ?c2 ?c3 ?c4 ?c5 ?_)
          | fail)
        case c1 =>
          intro j u hj
          rw [Addr.add_lit, Nat.zero_add]
          rw [cell_at (heap_alloc_new _ _)]
          simpa using hj
        case c2 =>
          intro u hu
          simp only [List.mem_cons, List.not_mem_nil, or_false] at hu
          subst hu; rfl
        case c3 => unfold maxLen; omega
        case c4 => omega
        case c5 => simp only [World.size_alloc]; omega
        intro v8 wX ho8 hg8 _
        have HAf := Lib.hid ((HAB.out.below (below_al _ (Obj.cells #[Value.string u] 9))).grown (HO8B.out.alloc _) (by decide) (by decide) hg8)
        have HO7f := Lib.hid (own_grown (HO7B.out.alloc (Obj.cells #[Value.string u] 9)) (HO8B.out.alloc (Obj.cells #[Value.string u] 9)) (by decide) hg8)
        have HO8f := Lib.hid ho8
        have HBf := Lib.hid ((HBB.out.alloc (by have := HBB.out.size; omega) (Obj.cells #[Value.string u] 9)).grown hg8 (by have := HBB.out.size; simp only [World.size_alloc]; omega) (fun q hq => by have := ((HO8B.out.alloc (Obj.cells #[Value.string u] 9)).lt q hq).1; omega))
        have SX : SpB wX w3.heap.size r.1 r.2.1 := ⟨(hg8.block _ (by simp only [World.size_alloc]; omega) (fun e => own_ne (HO8B.out.alloc (Obj.cells #[Value.string u] 9)) (S12.below (below_al _ _)).blk (by decide) e.symm)).trans (S12.below (below_al _ _)).blk⟩
        have hzX := hg8.size
        simp only [World.size_alloc] at hzX
        have HO7F : Hid (wX.ownsRow B 24 2 v7 (sp ++ [(r.1, r.2.1)]).length (spC (sp ++ [(r.1, r.2.1)]))) := by
          show wX.ownsRow _ _ _ _ _ _
          rw [spC_snoc, List.length_append]; exact HO7f.out
        have HO8F : Hid (wX.ownsRow B 9 1 v8 (tx ++ [u.data.toList]).length (txC (tx ++ [u.data.toList]))) := by
          show wX.ownsRow _ _ _ _ _ _
          rw [txC_snoc, List.length_append]; exact HO8f.out
        have HTF := Lib.hid (HTn.out HE.out)
        have hspf : (sp ++ [(r.1, r.2.1)]).length ≤ k + 1 := by simp; omega
        generalize sp ++ [(r.1, r.2.1)] = spf at *
        generalize tx ++ [u.data.toList] = txf at *
        have hzX3 : w3.heap.size < wX.heap.size := by omega
        clear ho8 hg8 HO7f HO8f HTn HTf HE S12 HAB HO8B HBB HO7B HG7 HA3 HO7' HO8' HBW3 HL7 hzB hzA d1 hstr
        clear hzX
        have x0 := SX.c0
        have x1 := SX.c1
        have hsbl := subL_le la r.1 r.2.1
        have HBy := Lib.hid (abytes_of HAf.out hla r.1 r.2.1)
        generalize subL la r.1 r.2.1 = sb at *
        go_wp2_with fail
        refine HBy.out.mono ?_; rintro e w5 ⟨a5, c5, rfl, ho5, hb5⟩
        have HB5 := Lib.hid hb5
        have HO5 := Lib.hid ho5
        clear hb5 ho5 x0 x1 HBy
        go_wp2_with fail
        go_loopw [63] (fun i wq => ∃ q : Nat, q ≤ sb.length ∧ i = .int .i64 q ∧ Below wX.heap.size wX wq ∧ (0 < sb.length → ∃ g cur, a5 = some ⟨g, 0, none⟩ ∧ wX.heap.size ≤ g ∧ wq.heap[g]? = some (.cells cur 5 (0, 0)) ∧ sb.length ≤ cur.size)) (fun i _ => sb.length - (intOf i).toNat)
        case atStart =>
          refine ⟨0, by omega, rfl, HB5.out, fun h => ?_⟩
          rcases HO5.out.2 with ⟨_, h0⟩ | ⟨g, cap, cur, e, h1, h2, h3, _, h4, _⟩
          · omega
          · injection e with e1
            exact ⟨g, cur, e1, h1, h2, by omega⟩
        case round =>
          obtain ⟨q, hq, rfl, hbq, hcur⟩ := hrel
          have HBq := Lib.hid hbq
          clear hbq HB5 HO5
          by_cases hql : q < sb.length
          · obtain ⟨g, cur, rfl, hg, hgc, hcs⟩ := hcur (by omega)
            have HG := Lib.hid hgc
            have y0 : wr.cell? ⟨g, q, none⟩ = some (cur[q]'(by omega)) := by rw [cell_at hgc]; exact Array.getElem?_eq_getElem _
            have y1 := unfrozen hgc q
            clear hgc
            go_wp2_with fail
            go_roundw
            case rel => exact ⟨q + 1, by omega, by go_num, HBq.out.setCell (p := ⟨g, q, none⟩) hg _, fun _ => ⟨g, _, rfl, hg, heap_set_at HG.out, by simp; omega⟩⟩
            case measure => simp [intOf]; omega
          · have HLen := Lib.hid (len_of (HAf.out.below HBq.out))
            have d5 : decide (16384 < (la.length : Int)) = false := decide_eq_false (by omega)
            clear hcur
            go_wp2_with fail
            refine HLen.out.mono ?_; rintro e wz ⟨rfl, rfl⟩
            go_wp2_with fail
            go_roundw
            case rel =>
              have hbq := HBq.out
              exact ⟨k + 1, la, spf, txf, by omega, by omega, by go_num, HAf.out.below hbq, hla, HTF.out, hspf, own_below HO7F.out hbq, own_below HO8F.out hbq, HBf.out.trans (hbq.mono HBf.out.size), by have := hbq.size; omega⟩
            case measure => simp [intOf]; omega
      · have d1 : (r.2.2 == 0) = false := by rw [beq_eq_false_iff_ne]; exact he
        have HTF := Lib.hid (HTf.out he)
        clear he
        have hspf : sp.length ≤ k + 1 := by omega
        generalize hwX : w3.alloc (Obj.cells #[Value.int IntKind.i64 r.1, Value.int IntKind.i64 r.2.1] 24) = wX at *
        have SX := S11
        have hzX3 := hzA
        have HAf := HA3
        have HO7F := HO7'
        have HO8F := HO8'
        have HBf := HBW3
        have HWX := Lib.hid hwX
        generalize sp = spf at *
        generalize tx = txf at *
        clear S11 hzA HTn HTf HA3 HO7' HO8' HBW3 HL7 hstr
        have x0 := SX.c0
        have x1 := SX.c1
        have hsbl := subL_le la r.1 r.2.1
        have HBy := Lib.hid (abytes_of HAf.out hla r.1 r.2.1)
        generalize subL la r.1 r.2.1 = sb at *
        go_wp2_with fail
        refine HBy.out.mono ?_; rintro e w5 ⟨a5, c5, rfl, ho5, hb5⟩
        have HB5 := Lib.hid hb5
        have HO5 := Lib.hid ho5
        clear hb5 ho5 x0 x1 HBy
        go_wp2_with fail
        go_loopw [63] (fun i wq => ∃ q : Nat, q ≤ sb.length ∧ i = .int .i64 q ∧ Below wX.heap.size wX wq ∧ (0 < sb.length → ∃ g cur, a5 = some ⟨g, 0, none⟩ ∧ wX.heap.size ≤ g ∧ wq.heap[g]? = some (.cells cur 5 (0, 0)) ∧ sb.length ≤ cur.size)) (fun i _ => sb.length - (intOf i).toNat)
        case atStart =>
          refine ⟨0, by omega, rfl, HB5.out, fun h => ?_⟩
          rcases HO5.out.2 with ⟨_, h0⟩ | ⟨g, cap, cur, e, h1, h2, h3, _, h4, _⟩
          · omega
          · injection e with e1
            exact ⟨g, cur, e1, h1, h2, by omega⟩
        case round =>
          obtain ⟨q, hq, rfl, hbq, hcur⟩ := hrel
          have HBq := Lib.hid hbq
          clear hbq HB5 HO5
          by_cases hql : q < sb.length
          · obtain ⟨g, cur, rfl, hg, hgc, hcs⟩ := hcur (by omega)
            have HG := Lib.hid hgc
            have y0 : wr.cell? ⟨g, q, none⟩ = some (cur[q]'(by omega)) := by rw [cell_at hgc]; exact Array.getElem?_eq_getElem _
            have y1 := unfrozen hgc q
            clear hgc
            go_wp2_with fail
            go_roundw
            case rel => exact ⟨q + 1, by omega, by go_num, HBq.out.setCell (p := ⟨g, q, none⟩) hg _, fun _ => ⟨g, _, rfl, hg, heap_set_at HG.out, by simp; omega⟩⟩
            case measure => simp [intOf]; omega
          · have HLen := Lib.hid (len_of (HAf.out.below HBq.out))
            have d5 : decide (16384 < (la.length : Int)) = false := decide_eq_false (by omega)
            clear hcur
            go_wp2_with fail
            refine HLen.out.mono ?_; rintro e wz ⟨rfl, rfl⟩
            go_wp2_with fail
            go_roundw
            case rel =>
              have hbq := HBq.out
              exact ⟨k + 1, la, spf, txf, by omega, by omega, by go_num, HAf.out.below hbq, hla, HTF.out, hspf, own_below HO7F.out hbq, own_below HO8F.out hbq, HBf.out.trans (hbq.mono HBf.out.size), by have := hbq.size; omega⟩
            case measure => simp [intOf]; omega
    · rcases (show L.length ≤ k ∨ (k < L.length ∧ 40 ≤ k) by omega) with hge | ⟨hge, hge4⟩
      · have dk : decide (k < L.length) = false := decide_eq_false (by omega)
        obtain ⟨a7, c7, hv7⟩ := own_slice HO7.out
        obtain ⟨a8, c8, hv8⟩ := own_slice HO8.out
        subst hv7 hv8
        have hspl : sp.length ≤ 40 := by omega
        have hzw := HBW.out.size
        go_wp2_with fail
        go_loopw [76] (fun i wq => ∃ q : Nat, q ≤ sp.length ∧ i = .int .i64 q ∧ Below wo.heap.size wo wq) (fun i _ => sp.length - (intOf i).toNat)
        case atStart => exact ⟨0, by omega, rfl, Below.refl _ _⟩
        case round =>
          obtain ⟨q, hq, rfl, hbq⟩ := hrel
          have HBq := Lib.hid hbq
          clear hbq
          by_cases hql : q < sp.length
          · have hql8 : q < tx.length := by rw [← HTo.out.1]; exact hql
            rcases own_form HO7.out with ⟨_, h00⟩ | ⟨g7, rfl, hB7, hg7⟩
            · omega
            rcases own_form HO8.out with ⟨_, h00⟩ | ⟨g8, rfl, hB8, hg8⟩
            · omega
            have hto := HTo.out.2 q sp[q] tx[q] (List.getElem?_eq_getElem hql) (List.getElem?_eq_getElem hql8)
            have hs7 := spC_at sp q sp[q] (List.getElem?_eq_getElem hql)
            have e1 := HO7.out.cells (g := g7) rfl _ _ hs7.1
            have e2 := HO7.out.cells (g := g7) rfl _ _ hs7.2
            have e3 := HO8.out.cells (g := g8) rfl q (.string (strOf tx[q])) (by unfold txC; rw [List.getElem?_map, List.getElem?_eq_getElem hql8]; rfl)
            rw [Addr.add_lit, Nat.zero_add] at e1 e2 e3
            have f1 : wr.cell? ⟨g7, q * 2, none⟩ = _ := (HBq.out.cell (p := ⟨g7, q * 2, none⟩) hg7).trans e1
            have f2 : wr.cell? ⟨g7, q * 2 + 1, none⟩ = _ := (HBq.out.cell (p := ⟨g7, q * 2 + 1, none⟩) hg7).trans e2
            have f3 : wr.cell? ⟨g8, q, none⟩ = _ := (HBq.out.cell (p := ⟨g8, q, none⟩) hg8).trans e3
            have hst := hto.2
            clear hto hs7 e1 e2 e3
            generalize sp[q] = sq at *
            generalize tx[q] = tq at *
            have HAq := Lib.hid ((HAr.out.below HBq.out).below (below_al wr (Obj.cells #[Value.int IntKind.i64 sq.1, Value.int IntKind.i64 sq.2] 24)))
            have HB0 := Lib.hid (HBq.out.alloc HBq.out.size (Obj.cells #[Value.int IntKind.i64 sq.1, Value.int IntKind.i64 sq.2] 24))
            have S0 := SpB.new wr sq.1 sq.2
            have f3' : (wr.alloc (Obj.cells #[Value.int IntKind.i64 sq.1, Value.int IntKind.i64 sq.2] 24)).cell? ⟨g8, q, none⟩ = some (.string (strOf tq)) := by
              rw [World.cell?_alloc_lt _ _ ⟨g8, q, none⟩ (Nat.lt_of_lt_of_le hg8 HBq.out.size)]; exact f3
            have hz8 : g8 < (wr.alloc (Obj.cells #[Value.int IntKind.i64 sq.1, Value.int IntKind.i64 sq.2] 24)).heap.size := by have := HBq.out.size; simp only [World.size_alloc]; omega
            have HBy := Lib.hid (fun w' (hb : Below (wr.alloc (Obj.cells #[Value.int IntKind.i64 sq.1, Value.int IntKind.i64 sq.2] 24)).heap.size (wr.alloc (Obj.cells #[Value.int IntKind.i64 sq.1, Value.int IntKind.i64 sq.2] 24)) w') => bytes_str (HAq.out.below hb) hl' sq.1 sq.2 tq hst hb)
            clear hst f3
            go_upto_region 27 with fail
            generalize wr.alloc (Obj.cells #[Value.int IntKind.i64 sq.1, Value.int IntKind.i64 sq.2] 24) = wn at *
            have ld1 := fun w' (hb : Below wn.heap.size wn w') => (S0.below (w' := w') hb).c0
            have ld2 := fun w' (hb : Below wn.heap.size wn w') => (S0.below (w' := w') hb).c1
            have ld3 := fun w' (hb : Below wn.heap.size wn w') => (hb.cell (p := ⟨g8, q, none⟩) hz8).trans f3'
            have hb0 : Below wn.heap.size wn wn.drew := (Below.refl _ wn).drew
            clear f1 f2 f3' hz8 S0
            have hq0 : (0 : Int) ≤ (q : Int) := by omega
            have hq1 : (q : Int) < (tx.length : Int) := by omega
            go_region_with ((go_at_call 23; refine (HBy.out _ (by first | assumption | exact Below.alloc (by assumption) (Below.size (by assumption)) _)).mono ?_; rintro e w' ⟨ab, nb, cb, rfl, hcvt, hB⟩))
            all_goals
              go_wp2_with fail
              go_roundw
              case rel => exact ⟨q + 1, by omega, by go_num, HB0.out.trans (Below.mono (by assumption) HB0.out.size)⟩
              case measure => simp [intOf]; omega
          · have HAW := Lib.hid (awake3_of wr (HM.out.below (HBW.out.trans (HBq.out.mono hzw)) h0))
            go_wp2_with fail
            refine HAW.out.mono ?_; rintro e wz ⟨rfl, hb⟩
            have HBz := Lib.hid ((HBW.out.trans (HBq.out.mono hzw)).trans (hb.mono (Nat.le_trans hzw HBq.out.size)))
            clear hb
            go_wp2_with fail
            go_ret
            exact ⟨rfl, HBz.out⟩
      · have dk : decide (k < L.length) = true := decide_eq_true hge
        have dk2 : decide ((40 : Int) ≤ (k : Int)) = true := decide_eq_true (by omega)
        obtain ⟨bb, off, rfl, hbb, hcc⟩ := HL.out.rd.2 (by omega)
        have hcell : wo.cell? ⟨bb, off + k, none⟩ = some (.string L[k]) := (HBW.out.cell (p := ⟨bb, off + k, none⟩) hbb).trans (hcc k _ (by rw [List.getElem?_map, List.getElem?_eq_getElem hge]; rfl))
        generalize L[k] = t at *
        clear hbb hcc
        obtain ⟨a7, c7, hv7⟩ := own_slice HO7.out
        obtain ⟨a8, c8, hv8⟩ := own_slice HO8.out
        subst hv7 hv8
        have hspl : sp.length ≤ 40 := by omega
        have hzw := HBW.out.size
        go_wp2_with fail
        go_loopw [76] (fun i wq => ∃ q : Nat, q ≤ sp.length ∧ i = .int .i64 q ∧ Below wo.heap.size wo wq) (fun i _ => sp.length - (intOf i).toNat)
        case atStart => exact ⟨0, by omega, rfl, Below.refl _ _⟩
        case round =>
          obtain ⟨q, hq, rfl, hbq⟩ := hrel
          have HBq := Lib.hid hbq
          clear hbq
          by_cases hql : q < sp.length
          · have hql8 : q < tx.length := by rw [← HTo.out.1]; exact hql
            rcases own_form HO7.out with ⟨_, h00⟩ | ⟨g7, rfl, hB7, hg7⟩
            · omega
            rcases own_form HO8.out with ⟨_, h00⟩ | ⟨g8, rfl, hB8, hg8⟩
            · omega
            have hto := HTo.out.2 q sp[q] tx[q] (List.getElem?_eq_getElem hql) (List.getElem?_eq_getElem hql8)
            have hs7 := spC_at sp q sp[q] (List.getElem?_eq_getElem hql)
            have e1 := HO7.out.cells (g := g7) rfl _ _ hs7.1
            have e2 := HO7.out.cells (g := g7) rfl _ _ hs7.2
            have e3 := HO8.out.cells (g := g8) rfl q (.string (strOf tx[q])) (by unfold txC; rw [List.getElem?_map, List.getElem?_eq_getElem hql8]; rfl)
            rw [Addr.add_lit, Nat.zero_add] at e1 e2 e3
            have f1 : wr.cell? ⟨g7, q * 2, none⟩ = _ := (HBq.out.cell (p := ⟨g7, q * 2, none⟩) hg7).trans e1
            have f2 : wr.cell? ⟨g7, q * 2 + 1, none⟩ = _ := (HBq.out.cell (p := ⟨g7, q * 2 + 1, none⟩) hg7).trans e2
            have f3 : wr.cell? ⟨g8, q, none⟩ = _ := (HBq.out.cell (p := ⟨g8, q, none⟩) hg8).trans e3
            have hst := hto.2
            clear hto hs7 e1 e2 e3
            generalize sp[q] = sq at *
            generalize tx[q] = tq at *
            have HAq := Lib.hid ((HAr.out.below HBq.out).below (below_al wr (Obj.cells #[Value.int IntKind.i64 sq.1, Value.int IntKind.i64 sq.2] 24)))
            have HB0 := Lib.hid (HBq.out.alloc HBq.out.size (Obj.cells #[Value.int IntKind.i64 sq.1, Value.int IntKind.i64 sq.2] 24))
            have S0 := SpB.new wr sq.1 sq.2
            have f3' : (wr.alloc (Obj.cells #[Value.int IntKind.i64 sq.1, Value.int IntKind.i64 sq.2] 24)).cell? ⟨g8, q, none⟩ = some (.string (strOf tq)) := by
              rw [World.cell?_alloc_lt _ _ ⟨g8, q, none⟩ (Nat.lt_of_lt_of_le hg8 HBq.out.size)]; exact f3
            have hz8 : g8 < (wr.alloc (Obj.cells #[Value.int IntKind.i64 sq.1, Value.int IntKind.i64 sq.2] 24)).heap.size := by have := HBq.out.size; simp only [World.size_alloc]; omega
            have HBy := Lib.hid (fun w' (hb : Below (wr.alloc (Obj.cells #[Value.int IntKind.i64 sq.1, Value.int IntKind.i64 sq.2] 24)).heap.size (wr.alloc (Obj.cells #[Value.int IntKind.i64 sq.1, Value.int IntKind.i64 sq.2] 24)) w') => bytes_str (HAq.out.below hb) hl' sq.1 sq.2 tq hst hb)
            clear hst f3
            go_upto_region 27 with fail
            generalize wr.alloc (Obj.cells #[Value.int IntKind.i64 sq.1, Value.int IntKind.i64 sq.2] 24) = wn at *
            have ld1 := fun w' (hb : Below wn.heap.size wn w') => (S0.below (w' := w') hb).c0
            have ld2 := fun w' (hb : Below wn.heap.size wn w') => (S0.below (w' := w') hb).c1
            have ld3 := fun w' (hb : Below wn.heap.size wn w') => (hb.cell (p := ⟨g8, q, none⟩) hz8).trans f3'
            have hb0 : Below wn.heap.size wn wn.drew := (Below.refl _ wn).drew
            clear f1 f2 f3' hz8 S0
            have hq0 : (0 : Int) ≤ (q : Int) := by omega
            have hq1 : (q : Int) < (tx.length : Int) := by omega
            go_region_with ((go_at_call 23; refine (HBy.out _ (by first | assumption | exact Below.alloc (by assumption) (Below.size (by assumption)) _)).mono ?_; rintro e w' ⟨ab, nb, cb, rfl, hcvt, hB⟩))
            all_goals
              go_wp2_with fail
              go_roundw
              case rel => exact ⟨q + 1, by omega, by go_num, HB0.out.trans (Below.mono (by assumption) HB0.out.size)⟩
              case measure => simp [intOf]; omega
          · have HAW := Lib.hid (awake3_of wr (HM.out.below (HBW.out.trans (HBq.out.mono hzw)) h0))
            go_wp2_with fail
            refine HAW.out.mono ?_; rintro e wz ⟨rfl, hb⟩
            have HBz := Lib.hid ((HBW.out.trans (HBq.out.mono hzw)).trans (hb.mono (Nat.le_trans hzw HBq.out.size)))
            clear hb
            go_wp2_with fail
            go_ret
            exact ⟨rfl, HBz.out⟩

end Go.Proofs.Ytkggeknfdjbheaa
