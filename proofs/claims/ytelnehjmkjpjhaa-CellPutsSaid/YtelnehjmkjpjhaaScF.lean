/-
  The contract of scan's Value, at this seat's numbers.
-/
import Derived.Test.YtelnehjmkjpjhaaScC
namespace Go.Proofs.Ytelnehjmkjpjhaa
open Go Go.RowKit
set_option linter.unusedVariables false

/-- The bytes of spans, those that do not lie within left out. -/
def valL (l : List UInt8) (ps : List (Int × Int)) : List UInt8 := ps.flatMap fun s => subL l s.1 s.2
theorem valL_snoc (l : List UInt8) (ps : List (Int × Int)) (s : Int × Int) : valL l (ps ++ [s]) = valL l ps ++ subL l s.1 s.2 := by unfold valL; simp
theorem valL_take {l : List UInt8} {ps : List (Int × Int)} {k : Nat} (h : k < ps.length) : valL l (ps.take (k + 1)) = valL l (ps.take k) ++ subL l ps[k].1 ps[k].2 := by
  rw [List.take_succ_eq_append_getElem h, valL_snoc]
theorem valL_len (l : List UInt8) : ∀ ps : List (Int × Int), (valL l ps).length ≤ ps.length * l.length
  | [] => by simp [valL]
  | s :: ps => by
    have h1 := valL_len l ps
    have h2 := subL_le l s.1 s.2
    have h3 : (valL l (s :: ps)).length = (subL l s.1 s.2).length + (valL l ps).length := by unfold valL; simp
    rw [h3, List.length_cons, Nat.add_mul]; omega

theorem bc_append (a b : List UInt8) : bc (a ++ b) = bc a ++ bc b := by unfold bc; simp

set_option maxRecDepth 100000 in
set_option maxHeartbeats 4000000 in
theorem value_of {w : World} {b off : Nat} {c : Nat} {l : List UInt8} (hr : Rd w 1 (some ⟨b, off, none⟩) l.length (bc l)) (hbw : b < w.heap.size) (hl : l.length ≤ 1000000) (hlc : l.length ≤ c) (hc : c ≤ maxLen)
    {pa : Option Addr} {pc : Nat} {ps : List (Int × Int)} (hp : Rd w 2 pa ps.length (spC ps)) (hpl : ps.length ≤ 1000000) (x0 y0 k0 : Int) :
    Calls Try.prog 99 #[.slice (some ⟨b, off, none⟩) l.length c, .agg #[.int .i64 x0, .int .i64 y0, .int .i64 k0, .slice pa ps.length pc]] w (BytesPost (valL l ps) w) := by
  obtain ⟨i0, hi0, hz0, hz1, hz2⟩ := info_parts info_u8
  have al := below_al w (Obj.cells #[Value.int IntKind.i64 x0, Value.int IntKind.i64 y0, Value.int IntKind.i64 k0, Value.slice pa ps.length pc] 78)
  have HB0 := Lib.hid al
  have hz0' := al.size
  have HR := Lib.hid (hr.below al)
  have hbw1 : b < (w.alloc (Obj.cells #[Value.int IntKind.i64 x0, Value.int IntKind.i64 y0, Value.int IntKind.i64 k0, Value.slice pa ps.length pc] 78)).heap.size := by omega
  have HP := Lib.hid (hp.below al)
  clear al hr hp
  go_enter Try.func99, Try.ntmps99
  go_wp2_with fail
  generalize w.alloc (Obj.cells #[Value.int IntKind.i64 x0, Value.int IntKind.i64 y0, Value.int IntKind.i64 k0, Value.slice pa ps.length pc] 78) = w1 at *
  go_loopw [5, 11] (fun v i wr => ∃ k : Nat, k ≤ ps.length ∧ i = .int .i64 k ∧ wr.ownsRow w1.heap.size 5 1 v (valL l (ps.take k)).length (bc (valL l (ps.take k))) ∧ Below w1.heap.size w1 wr) (fun _ i _ => ps.length - (intOf i).toNat)
  case atStart => exact ⟨0, by omega, rfl, by simp [valL, bc]; exact own_nil _ _ _ _, Below.refl _ _⟩
  case round =>
    obtain ⟨k, hk, rfl, ho, hb⟩ := hrel
    have HB := Lib.hid hb
    have HO := Lib.hid ho
    have hzr := hb.size
    obtain ⟨a3, c3, rfl⟩ := own_slice ho
    clear hb ho
    by_cases hlt : k < ps.length
    · have dk : decide (k < ps.length) = true := decide_eq_true hlt
      obtain ⟨pb, poff, rfl, hpb, hcl⟩ := HP.out.2 (by omega)
      have hsp := spC_at ps k ps[k] (List.getElem?_eq_getElem hlt)
      have f1 : wr.cell? ⟨pb, poff + k * 2, none⟩ = some (.int .i64 ps[k].1) := (HB.out.cell (p := ⟨pb, poff + k * 2, none⟩) hpb).trans (hcl _ _ hsp.1)
      have f2 : wr.cell? ⟨pb, poff + k * 2 + 1, none⟩ = some (.int .i64 ps[k].2) := (HB.out.cell (p := ⟨pb, poff + k * 2 + 1, none⟩) hpb).trans (hcl _ _ hsp.2)
      have HT := Lib.hid (valL_take (l := l) hlt)
      have hlen := valL_len l (ps.take k)
      have hlen2 : (ps.take k).length * l.length ≤ 1000000 * 1000000 := Nat.mul_le_mul (by simp; omega) hl
      have hle := Nat.le_trans hlen hlen2
      have hsl := subL_le l ps[k].1 ps[k].2
      clear hpb hcl hsp HP hlen hlen2
      generalize hx : ps[k].1 = x at *
      generalize hy : ps[k].2 = y at *
      clear hx hy
      generalize valL l (ps.take k) = vk at *
      have HLies := Lib.hid (fun w' => lies_of (some ⟨b, off, none⟩) l.length c hl x y w')
      by_cases hR : rightB l.length x y = true
      · have hs : subL l x y = (l.drop x.toNat).take y.toNat := by unfold subL; rw [if_pos hR]
        rw [hR] at HLies
        unfold rightB at hR
        simp only [decide_eq_true_eq] at hR
        obtain ⟨i, rfl⟩ := Int.eq_ofNat_of_zero_le hR.1
        obtain ⟨n, rfl⟩ := Int.eq_ofNat_of_zero_le hR.2.1
        have hin : i + n ≤ l.length := by omega
        simp only [Int.toNat_natCast] at hs
        obtain ⟨ad, had⟩ : ∃ ad : Addr, (if c = i then some ⟨b, off, none⟩ else some ⟨b, off + i, none⟩ : Option Addr) = some ad := by
          by_cases h : c = i
          · exact ⟨_, if_pos h⟩
          · exact ⟨_, if_neg h⟩
        have hsl2 : ((l.drop i).take n).length = n := by simp; omega
        have HSC : Hid (∀ w', Below w1.heap.size w1 w' → ∀ j u, (bc ((l.drop i).take n))[j]? = some u → w'.cell? (ad.add j) = some u) := by
          intro w' hb' j u hj
          have h2 := rd_sub (HR.out.below hb') i (i + n) hin (Nat.le_add_right _ _) (Nat.lt_of_lt_of_le hbw1 hb'.size) (some ad) (fun h => by rw [← had, if_neg (by omega)])
          rw [show i + n - i = n by omega] at h2
          have hn : 0 < ((l.drop i).take n).length := by
            have := (List.getElem?_eq_some_iff.1 hj).1
            rw [bc_len] at this; omega
          obtain ⟨b', off', e, _, hcc⟩ := h2.2 hn
          obtain rfl : ad = ⟨b', off', none⟩ := by simpa using e
          rw [Addr.add_lit]
          exact hcc j u hj
        have HSL2 := Lib.hid hsl2
        have HS := Lib.hid hs
        rw [hs] at HT
        have HBC := Lib.hid (bc_one ((l.drop i).take n))
        have HBL := Lib.hid (bc_len ((l.drop i).take n))
        clear hs hR hsl2 hsl
        generalize (l.drop i).take n = sub at *
        go_wp2_with fail
        refine (HLies.out _).mono ?_; rintro e w2 ⟨rfl, hb2⟩
        have hs2 := hb2.size
        simp only [World.size_alloc] at hs2
        have al2 := below_al wr (Obj.cells #[Value.int IntKind.i64 i, Value.int IntKind.i64 n] 51)
        have HB2 := Lib.hid (HB.out.trans ((al2.trans (hb2.mono al2.size)).mono hzr))
        have HO2 := Lib.hid (own_below HO.out (al2.trans (hb2.mono al2.size)))
        have S0 := (SpB.new wr (i : Int) (n : Int)).below hb2
        have g1 := S0.c0
        have g2 := S0.c1
        clear hb2 al2 S0 HLies
        have hn0 : (i : Int) ≤ (i : Int) + (n : Int) := by omega
        have hin2 : i + n - i = n := by omega
        have hn1 : (i : Int) + (n : Int) ≤ (c : Int) := by omega
        go_wp2_with (first
          | (at_builtin; refine wpList_append_own _ rfl (.tmp 18) (.tmp 27) 55 rfl w1.heap.size 5 i0 (.int .u8 0) 1 1 Try.underlying55 hi0 hz0 hz1 hz2 rfl (by decide) (.slice a3 vk.length c3) vk.length (bc vk) rfl HO2.out ad (i + n - i) (c - i) (bc sub) rfl ?c0 ?c1 HBC.out ?c3 ?c4 ?c5 ?_)
          | fail)
        case c0 => rw [HBL.out, HSL2.out]; omega
        case c1 => exact HSC.out _ HB2.out
        case c3 => unfold maxLen; omega
        case c4 => omega
        case c5 => omega
        intro v7 wB ho7 hg7 _
        have HO7 := Lib.hid ho7
        have HB7 := Lib.hid (HB2.out.grown hg7 (by omega) (fun q hq => (HO2.out.lt q hq).1))
        clear ho7 hg7
        go_wp2_with fail
        go_roundw
        case rel => exact ⟨k + 1, hlt, by go_num, by rw [HT.out, bc_append, List.length_append, HSL2.out]; exact HO7.out, HB7.out⟩
        case measure => simp [intOf]; omega
      · have hs : subL l x y = [] := by unfold subL; rw [if_neg hR]
        have hR' := Bool.eq_false_iff.2 hR
        rw [hR'] at HLies
        rw [hs, List.append_nil] at HT
        clear hR hR' hs hsl
        go_wp2_with fail
        refine (HLies.out _).mono ?_; rintro e w2 ⟨rfl, hb2⟩
        have al2 := below_al wr (Obj.cells #[Value.int IntKind.i64 x, Value.int IntKind.i64 y] 51)
        have HB2 := Lib.hid (HB.out.trans ((al2.trans (hb2.mono al2.size)).mono hzr))
        have HO2 := Lib.hid (own_below HO.out (al2.trans (hb2.mono al2.size)))
        clear hb2 al2 HLies
        go_wp2_with fail
        go_roundw
        case rel => exact ⟨k + 1, hlt, by go_num, by rw [HT.out]; exact HO2.out, HB2.out⟩
        case measure => simp [intOf]; omega
    · have dk : decide (k < ps.length) = false := decide_eq_false hlt
      obtain rfl : k = ps.length := by omega
      rw [List.take_length] at HO
      have hB : Hid (Below w.heap.size w wr) := HB0.out.trans (HB.out.mono hz0')
      clear HR HP HB HB0
      go_wp2_with fail
      rw [List.take_length] at *
      go_ret
      exact ⟨a3, c3, rfl, own_mono HO.out hz0', hB.out⟩

end Go.Proofs.Ytelnehjmkjpjhaa
