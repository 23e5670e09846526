/-
  The walk of the statement ArenaPlays, at this seat's numbers.
-/
import Derived.Test.YtkggeknfdjbheaaArN
namespace Go.Proofs.Ytkggeknfdjbheaa
open Go Go.RowKit
set_option linter.unusedVariables false

/-- The cells of what is put. -/
def putC (l : List (ByteArray × Bool)) : List Value := l.flatMap fun s => [.string s.1, .bool s.2]
theorem putC_at (l : List (ByteArray × Bool)) (k : Nat) (s : ByteArray × Bool) (h : l[k]? = some s) : (putC l)[k * 2]? = some (.string s.1) ∧ (putC l)[k * 2 + 1]? = some (.bool s.2) := by
  induction l generalizing k with
  | nil => simp at h
  | cons a l ih =>
    cases k with
    | zero => simp at h; subst h; simp [putC]
    | succ k =>
      have := ih k (by simpa using h)
      have e : putC (a :: l) = .string a.1 :: .bool a.2 :: putC l := by simp [putC]
      rw [e, show (k + 1) * 2 = (k * 2 + 1) + 1 by omega]
      simpa using this
/-- An argument that is a slice of what is put. -/
structure PutArg (w : World) (a : Option Addr) (c : Nat) (L : List (ByteArray × Bool)) : Prop where
  rd : Rd w 2 a L.length (putC L)
  fits : L.length ≤ c
  cap : c ≤ maxLen
  size : ∀ s ∈ L, s.1.size ≤ maxLen

theorem SpB.low {w w' : World} {b B : Nat} {x y : Int} (h : SpB w b x y) (hb : Below B w w') (hlt : b < B) : SpB w' b x y := ⟨(hb.block b hlt).trans h.blk⟩

/-- put, in the middle of the walk. -/
theorem put_chain {w wn : World} {B p q n0 : Nat} {l l2 : List UInt8} {t : ByteArray} {bb : Bool} {x y : Int} {u : ByteArray} (hA : Ar wn B p l) (hR : RA wn B q l) (hbw : Below w.heap.size w wn) (hS : SpB wn w.heap.size x y) (hwB : w.heap.size < B) (hB : B ≤ wn.heap.size)
    (h12 : wn.heap[n0]? = some (.cells #[.string t, .bool bb] 36 (0, 0))) (hnq : n0 ≠ q) (hm : ML wn) (h0 : 0 < B)
    (hput : ∀ w : World, Ar w B p l → RA w B q l → B ≤ w.heap.size → ML w → Calls Try.prog 15 #[.pointer (some ⟨p, 0, none⟩), .pointer (some ⟨q, 0, none⟩), .string u, .bool bb] w (PutPost l2 B p q w))
    {w' : World} (hb : Below wn.heap.size wn w') :
    Calls Try.prog 15 #[.pointer (some ⟨p, 0, none⟩), .pointer (some ⟨q, 0, none⟩), .string u, .bool bb] w' fun e w'' => e = .returned (.bool true) ∧ Ar w'' B p l2 ∧ RA w'' B q l2 ∧ w''.cell? ⟨q, 0, none⟩ = some (.string (strOf l2)) ∧ w''.cell? ⟨n0, 0, none⟩ = some (.string t) ∧ w''.cell? ⟨n0, 1, none⟩ = some (.bool bb) ∧ Below w.heap.size w w'' ∧ SpB w'' w.heap.size x y ∧ B ≤ w''.heap.size := by
  have hz := hb.size
  refine (hput w' (hA.below hb) (hR.below hb) (by omega) (hm.below hb hm.1)).mono ?_
  rintro e w'' ⟨he, hA', hR', hK⟩
  have h12' := (hb.block _ (lt_of_heap h12)).trans h12
  have hk := (hK.rest n0 (lt_of_heap h12') hnq (fun cs hc => by rw [h12'] at hc; injection hc with hc; injection hc with _ hc; exact absurd hc (by decide)) (fun cs hc => by rw [h12'] at hc; injection hc with hc; injection hc with _ hc; exact absurd hc (by decide))).trans h12'
  refine ⟨he, hA', hR', hR'.c, by rw [cell_at hk]; rfl, by rw [cell_at hk]; rfl, (hbw.trans (hb.mono hbw.size)).trans (hK.low.mono (by omega)), (hS.below hb).low hK.low hwB, by have := hK.size; omega⟩

/-- The calls of the last line, from any world that leaves what was. -/
theorem bytes_chain {W : World} {B p : Nat} {l : List UInt8} (h : Ar W B p l) (hl : l.length ≤ 16384) (x y : Int) (w' : World) (hb : Below W.heap.size W w') :
    Calls Try.prog 23 #[.pointer (some ⟨p, 0, none⟩), .agg #[.int .i64 x, .int .i64 y]] w' fun e w2 => ∃ v, e = .returned v ∧ ((∃ a n c, v = .slice a n c) ∧ ∀ w3, Below w2.heap.size w2 w3 → (convert 30 9 v).run Try.prog w3 = .ok (.string (strOf (subL l x y))) w3) ∧ Below W.heap.size W w2 ∧ Below w'.heap.size w' w2 := by
  refine (abytes_of (h.below hb) hl x y).mono ?_
  rintro e w2 ⟨a, c, rfl, ho, hb2⟩
  exact ⟨_, rfl, ⟨⟨a, _, c, rfl⟩, fun w3 h3 => string_own (own_below ho h3)⟩, hb.trans (hb2.mono hb.size), hb2⟩
theorem one_conv (b : UInt8) (w w' : World) (hb : Below (w.heap.size + 1) (w.alloc (.cells #[.int .u8 (b.toNat : Int)] 5)) w') :
    (convert 30 9 (.slice (some ⟨w.heap.size, 0, none⟩) 1 1)).run Try.prog w' = .ok (.string (strOf [b])) w' := by
  refine string_of (strOf [b]) w' w.heap.size 0 1 (fun j hj => ?_)
  have hj' : j < 1 := hj
  obtain rfl : j = 0 := by omega
  rw [cell_at ((hb.block _ (by omega)).trans (heap_alloc_new w _))]
  rfl
theorem subL_one (l : List UInt8) (i : Nat) (h : i < l.length) (y : Int) : subL l i 1 = [l[i]] := by
  unfold subL rightB
  rw [if_pos (by simp; omega)]
  simp
  rw [List.drop_eq_getElem_cons h]; rfl
theorem subL_none (l : List UInt8) (x : Int) (h : x < 0 ∨ (l.length : Int) ≤ x) : subL l x 1 = [] := by
  unfold subL rightB
  rw [if_neg (by simp; omega)]

set_option maxHeartbeats 8000000 in
set_option maxRecDepth 100000 in
theorem arenaPlays_walk (f : ByteArray) (a : Option Addr) (c : Nat) (L : List (ByteArray × Bool)) (x y : Int) (w : World) (hf : f.size ≤ maxLen) (hL : PutArg w a c L)
    (hx : -9223372036854775808 ≤ x ∧ x ≤ 9223372036854775807) (hy : -9223372036854775808 ≤ y ∧ y ≤ 9223372036854775807) (hm : ML w) :
    Calls Try.prog 3 #[.string f, .slice a L.length c, .agg #[.int .i64 x, .int .i64 y]] w fun e w' => e = .returned (.bool true) ∧ Below w.heap.size w w' := by
  have HM := Lib.hid hm
  have h0 := hm.1
  have HL := Lib.hid hL
  have HX := Lib.hid hx
  have HC := Lib.hid (fun w => cut_of f 5000 w hf (by decide))
  have hs := cutS_le f 5000
  generalize cutS f 5000 = s at *
  have hLn := hL.fits
  have hLm := hL.cap
  unfold maxLen at hLm
  have S0 := SpB.new w x y
  have HB0 := Lib.hid (below_al2 w (Obj.cells #[Value.int IntKind.i64 x, Value.int IntKind.i64 y] 24))
  obtain ⟨cap, W1, hconv, hheld, hb1⟩ := held_of s (w.alloc (Obj.cells #[Value.int IntKind.i64 x, Value.int IntKind.i64 y] 24)) (by unfold maxLen; omega)
  have hzl : s.size = s.data.toList.length := rfl
  have hstr : strOf s.data.toList = s := rfl
  have hrd := rd_held hheld
  have S1 := S0.below hb1
  have HB1 := Lib.hid (HB0.out.trans (hb1.mono HB0.out.size))
  have hz1 : w.heap.size < W1.heap.size := S1.lt
  clear hm hf hL hx hy hheld hb1 S0
  by_cases hbig : 4096 < s.size
  · have HN := Lib.hid (new_big (some ⟨(w.alloc (Obj.cells #[Value.int IntKind.i64 x, Value.int IntKind.i64 y] 24)).heap.size, 0, none⟩) s.size cap W1 (by unfold maxLen; omega) hbig)
    have HR := Lib.hid (rnew_big s W1 (by unfold maxLen; omega) hbig)
    have HAW := Lib.hid (awake3_of W1 (HM.out.below HB1.out h0))
    clear hrd hzl hstr
    rw [World.size_alloc] at hconv HN
    go_enter Try.func3, Try.ntmps3
    go_wp2_with fail
    refine (HC.out _).mono ?_; rintro e w1 ⟨rfl, rfl⟩
    go_wp2_with fail
    refine HN.out.mono ?_; rintro e w1 ⟨rfl, rfl⟩
    go_wp2_with fail
    refine HR.out.mono ?_; rintro e w1 ⟨rfl, rfl⟩
    go_wp2_with fail
    refine HAW.out.mono ?_; rintro e w2 ⟨rfl, hb⟩
    have HB2 := Lib.hid (HB1.out.trans (hb.mono HB1.out.size))
    clear hb
    go_wp2_with fail
    go_ret
    exact ⟨rfl, HB2.out⟩
  · have HN := Lib.hid (new_of (t := s.data.toList) _ cap hrd (by omega))
    have HR := Lib.hid (fun w => rnew_of s.data.toList w (by omega))
    rw [hstr] at HR
    rw [hzl] at hconv
    rw [World.size_alloc] at hconv HN
    clear hrd hzl hstr
    have hsl : s.data.toList.length ≤ 4096 := by have : s.data.toList.length = s.size := rfl; omega
    generalize s.data.toList = l at *
    go_enter Try.func3, Try.ntmps3
    go_wp2_with fail
    refine (HC.out _).mono ?_; rintro e w1 ⟨rfl, rfl⟩
    go_wp2_with fail
    refine HN.out.mono ?_; rintro e w2 ⟨p, rfl, hA, hb⟩
    have HA := Lib.hid hA
    have S2 := S1.below hb
    have HB2 := Lib.hid (HB1.out.trans (hb.mono HB1.out.size))
    have hz2 := hb.size
    clear hA hb HN hconv S1
    go_wp2_with fail
    refine (HR.out _).mono ?_; rintro e w3 ⟨rfl, hR, hb⟩
    have HA3 := Lib.hid (HA.out.below hb)
    have HR3 : Hid (RA w3 W1.heap.size w2.heap.size l) := ⟨hz2, hR.blk⟩
    have S3 := S2.below hb
    have HB3 := Lib.hid (HB2.out.trans (hb.mono HB2.out.size))
    have hz3 : W1.heap.size ≤ w3.heap.size := Nat.le_trans hz2 hb.size
    have hl0 : l.length ≤ 16384 := by omega
    clear hR hb HA S2 HR HC
    generalize W1.heap.size = B at *
    generalize w2.heap.size = q at *
    go_wp2_with fail
    go_loopw [44] (fun i wr => ∃ (k : Nat) (l' : List UInt8), k ≤ L.length ∧ k ≤ 30 ∧ i = .int .i64 k ∧ Ar wr B p l' ∧ RA wr B q l' ∧ l'.length ≤ 16384 ∧ Below w.heap.size w wr ∧ SpB wr w.heap.size x y ∧ B ≤ wr.heap.size) (fun i _ => L.length - (intOf i).toNat)
    case atStart => exact ⟨0, l, by omega, by omega, rfl, HA3.out, HR3.out, hl0, HB3.out, S3, hz3⟩
    case round =>
      obtain ⟨k, l', hk, hk3, rfl, hA, hR, hl', hbw, hS, hzr⟩ := hrel
      have HAr := Lib.hid hA
      have HRr := Lib.hid hR
      have HBW := Lib.hid hbw
      have HS := Lib.hid hS
      clear hA hR hbw hS HA3 HR3 S3 HB3
      by_cases hlt : k < L.length ∧ k < 30
      · obtain ⟨hlt, hlt3⟩ := hlt
        have dk : decide (k < L.length) = true := decide_eq_true hlt
        have dk3 : decide ((30 : Int) ≤ (k : Int)) = false := decide_eq_false (by omega)
        obtain ⟨b, off, rfl, hb, hc⟩ := HL.out.rd.2 (by omega)
        have hpc := putC_at L k L[k] (List.getElem?_eq_getElem hlt)
        have f1 : wr.cell? ⟨b, off + k * 2, none⟩ = some (.string L[k].1) := (HBW.out.cell (p := ⟨b, off + k * 2, none⟩) hb).trans (hc _ _ hpc.1)
        have f2 : wr.cell? ⟨b, off + k * 2 + 1, none⟩ = some (.bool L[k].2) := (HBW.out.cell (p := ⟨b, off + k * 2 + 1, none⟩) hb).trans (hc _ _ hpc.2)
        have htm := HL.out.size L[k] (List.getElem_mem hlt)
        generalize L[k].1 = t at *
        generalize L[k].2 = bb at *
        clear hb hc hpc
        have HCu := Lib.hid (fun w => cut_of t 600 w htm (by decide))
        have hus := cutS_le t 600
        generalize cutS t 600 = u at *
        have hun : u.data.toList.length ≤ 600 := hus
        have hus' : strOf u.data.toList = u := rfl
        obtain ⟨l2, hl2, hput⟩ := put_of B p q l' u.data.toList bb hl' (by omega) (by omega)
        rw [hus'] at hput
        clear hus' hun
        have hwB : w.heap.size < B := by omega
        have al := below_al2 wr (Obj.cells #[Value.string t, Value.bool bb] 36)
        have HPut := Lib.hid (fun w' (hb : Below (wr.alloc (Obj.cells #[Value.string t, Value.bool bb] 36)).heap.size (wr.alloc (Obj.cells #[Value.string t, Value.bool bb] 36)) w') =>
          put_chain (HAr.out.below al) (HRr.out.below al) (HBW.out.trans (al.mono HBW.out.size)) (HS.out.below al) hwB (by simp only [World.size_alloc]; omega) (heap_alloc_new wr _) (Nat.ne_of_gt HRr.out.lt) (HM.out.below (HBW.out.trans (al.mono HBW.out.size)) h0) (by omega) hput hb)
        have ld1 : (wr.alloc (Obj.cells #[Value.string t, Value.bool bb] 36)).cell? ⟨wr.heap.size, 0, none⟩ = some (.string t) := by rw [cell_at (heap_alloc_new wr _)]; rfl
        have ld2 : (wr.alloc (Obj.cells #[Value.string t, Value.bool bb] 36)).cell? ⟨wr.heap.size, 1, none⟩ = some (.bool bb) := by rw [cell_at (heap_alloc_new wr _)]; rfl
        have hsz2 : (strOf l2).size = l2.length := rfl
        clear hput al
        go_upto_region 12 with fail
        clear f1 f2
        generalize hwn : wr.alloc (Obj.cells #[Value.string t, Value.bool bb] 36) = wn at *
        clear hwn
        refine (congrArg (fun c => Code.wp Try.prog c _ _ _) (?_ : _ = Code.region 12 ops12 true)).mpr ?_
        · kernel_rfl
        refine reg12 p q wr.heap.size t u (strOf l2) bb l2.length (fun w' => Ar w' B p l2 ∧ RA w' B q l2 ∧ w'.cell? ⟨wr.heap.size, 0, none⟩ = some (.string t) ∧ w'.cell? ⟨wr.heap.size, 1, none⟩ = some (.bool bb) ∧ Below w.heap.size w w' ∧ SpB w' w.heap.size x y ∧ B ≤ w'.heap.size) rfl rfl rfl rfl ?_ ?_ ?_ ?_ ?_ ?_ ?_ hsz2 hl2 ?_
        · rintro w' (hb | ⟨_, _, h, _⟩)
          · exact (hb.cell (p := ⟨wr.heap.size, 0, none⟩) (World.block_lt_of_cell? _ _ ld1)).trans ld1
          · exact h
        · rintro w' (hb | ⟨_, _, _, h, _⟩)
          · exact (hb.cell (p := ⟨wr.heap.size, 1, none⟩) (World.block_lt_of_cell? _ _ ld2)).trans ld2
          · exact h
        · rintro w' ⟨_, h, _⟩
          exact h.c
        · exact fun w' => HCu.out w'
        · intro w' hb
          refine (HPut.out w' hb).mono ?_
          rintro e w2 ⟨he, h1, h2, _, h4, h5, h6, h7, h8⟩
          exact ⟨he, h1, h2, h4, h5, h6, h7, h8⟩
        · rintro w' ⟨h, _⟩
          exact len_of h
        · rintro w' ⟨h, _⟩
          exact room_of h hl2
        · intro a w' hd hs hfr h80 haft
          have ha := frame_of hd hs hfr [51, 52, 53, 54, 55, 56, 57, 58, 59, 60, 61, 62, 63, 64, 65, 66, 67, 68, 69, 70, 71, 72, 73, 74, 75, 76, 77, 78, 79, 80] (by kernel_rfl)
          simp only [List.foldl_cons, List.foldl_nil] at ha
          rw [h80] at ha
          clear hd hs hfr h80
          generalize a.tmps.getD 51 undef = v51 at ha
          generalize a.tmps.getD 52 undef = v52 at ha
          generalize a.tmps.getD 53 undef = v53 at ha
          generalize a.tmps.getD 54 undef = v54 at ha
          generalize a.tmps.getD 55 undef = v55 at ha
          generalize a.tmps.getD 56 undef = v56 at ha
          generalize a.tmps.getD 57 undef = v57 at ha
          generalize a.tmps.getD 58 undef = v58 at ha
          generalize a.tmps.getD 59 undef = v59 at ha
          generalize a.tmps.getD 60 undef = v60 at ha
          generalize a.tmps.getD 61 undef = v61 at ha
          generalize a.tmps.getD 62 undef = v62 at ha
          generalize a.tmps.getD 63 undef = v63 at ha
          generalize a.tmps.getD 64 undef = v64 at ha
          generalize a.tmps.getD 65 undef = v65 at ha
          generalize a.tmps.getD 66 undef = v66 at ha
          generalize a.tmps.getD 67 undef = v67 at ha
          generalize a.tmps.getD 68 undef = v68 at ha
          generalize a.tmps.getD 69 undef = v69 at ha
          generalize a.tmps.getD 70 undef = v70 at ha
          generalize a.tmps.getD 71 undef = v71 at ha
          generalize a.tmps.getD 72 undef = v72 at ha
          generalize a.tmps.getD 73 undef = v73 at ha
          generalize a.tmps.getD 74 undef = v74 at ha
          generalize a.tmps.getD 75 undef = v75 at ha
          generalize a.tmps.getD 76 undef = v76 at ha
          generalize a.tmps.getD 77 undef = v77 at ha
          generalize a.tmps.getD 78 undef = v78 at ha
          generalize a.tmps.getD 79 undef = v79 at ha
          subst ha
          obtain ⟨h1, h2, h3, h4, h6, h7, h8⟩ := haft
          clear h3 h4
          rename_i Kx hKx
          have REL : ∃ (k2 : Nat) (l' : List UInt8), k2 ≤ L.length ∧ k2 ≤ 30 ∧ Value.int .i64 (k + 1) = .int .i64 k2 ∧ Ar w' B p l' ∧ RA w' B q l' ∧ l'.length ≤ 16384 ∧ Below w.heap.size w w' ∧ SpB w' w.heap.size x y ∧ B ≤ w'.heap.size := ⟨k + 1, l2, hlt, hlt3, rfl, h1, h2, hl2, h6, h7, h8⟩
          clear h1 h2 h6 h7 h8 HPut HCu HAr HRr HBW HS ld1 ld2
          simp only [List.setIfInBounds_toArray, List.set_cons_succ, List.set_cons_zero]
          show Kx _ _
          refine hKx _ _ ?_
          clear hKx
          go_wp2_with fail
          go_roundw
          case rel => exact REL
          case measure => simp [intOf]; omega
      · have HAW := Lib.hid (fun w' (hb : Below w.heap.size w w') => awake3_of w' (HM.out.below hb h0))
        by_cases hge : k < L.length
        · have dk : decide (k < L.length) = true := decide_eq_true hge
          have dk3 : decide ((30 : Int) ≤ (k : Int)) = true := decide_eq_true (by omega)
          obtain ⟨b, off, rfl, hb, hc⟩ := HL.out.rd.2 (by omega)
          have hpc := putC_at L k L[k] (List.getElem?_eq_getElem hge)
          have f1 : wr.cell? ⟨b, off + k * 2, none⟩ = some (.string L[k].1) := (HBW.out.cell (p := ⟨b, off + k * 2, none⟩) hb).trans (hc _ _ hpc.1)
          have f2 : wr.cell? ⟨b, off + k * 2 + 1, none⟩ = some (.bool L[k].2) := (HBW.out.cell (p := ⟨b, off + k * 2 + 1, none⟩) hb).trans (hc _ _ hpc.2)
          generalize L[k].1 = t at *
          generalize L[k].2 = bb at *
          have al := below_al2 wr (Obj.cells #[Value.string t, Value.bool bb] 36)
          have HAo := Lib.hid (HAr.out.below al)
          have HRo := Lib.hid (HRr.out.below al)
          have HBo := Lib.hid (HBW.out.trans (al.mono HBW.out.size))
          have HSo := Lib.hid (HS.out.below al)
          have c0 := HSo.out.c0
          have c1 := HSo.out.c1
          have HRX := Lib.hid (rbytes_of HRo.out hl' x 1)
          clear hb hc hpc al HAr HRr HBW HS hlt
          by_cases hxl : 0 ≤ x ∧ x < l'.length
          · obtain ⟨xn, rfl⟩ : ∃ n : Nat, x = n := ⟨x.toNat, by omega⟩
            have hxl' : xn < l'.length := by omega
            have HByte := Lib.hid (byte_yes HAo.out hl' xn hxl')
            rw [subL_one l' xn hxl' 1] at HRX
            generalize l'[xn] = byt at *
            generalize (xn : Int) = x at *
            clear hxl hxl'
            go_wp2_with fail
            refine HByte.out.mono ?_; rintro e w9 ⟨rfl, rfl⟩
            go_wp2_with fail
            refine HRX.out.mono ?_; rintro e w9 ⟨rfl, hb⟩
            have HA9 := Lib.hid (HAo.out.below hb)
            have HR9 := Lib.hid (HRo.out.below hb)
            have HS9 := Lib.hid (HSo.out.below hb)
            have HB9 := Lib.hid (HBo.out.trans (hb.mono HBo.out.size))
            clear hb HAo HRo HSo HBo HByte HRX
            go_upto_region 17 with fail
            refine (congrArg (fun c => Code.wp Try.prog c _ _ _) (?_ : _ = Code.region 17 ops17 true)).mpr ?_
            · kernel_rfl
            refine reg17_yes p q x y (rightB l'.length x y) (strOf (subL l' x y)) (strOf [byt]) (byt.toNat : Int) w.heap.size rfl rfl rfl rfl rfl rfl rfl (fun w' hb => (HS9.out.below hb).c0) (fun w' hb => (HS9.out.below hb).c1) (fun w' hb => chain_of (right_of (HA9.out.below hb) hl' x y) hb) (fun w' hb => chain_of (rright_of (HR9.out.below hb) hl' x y) hb) (fun w' hb => ours_chain x y w' hb) (fun w' hb => bytes_chain HA9.out hl' x y w' hb) (fun w' hb => chain_of (rbytes_of (HR9.out.below hb) hl' x y) hb) (fun w' hb => chain_of (HAW.out w' (HB9.out.trans (hb.mono HB9.out.size))) hb) rfl (fun w1 w2 hb => one_conv byt w1 w2 hb) ?_
            intro a w' hd hs hfr h6 haft
            have ha := frame_of hd hs hfr [94, 95, 96, 97, 98, 99, 100, 101, 102, 103, 104, 105, 106, 107, 108, 109, 110, 111, 112, 113, 114, 115, 116, 117, 118, 119, 120, 121, 122, 123, 124, 125, 126, 127, 128, 129, 130, 131, 132, 133, 134, 135, 136, 137, 138, 139, 140, 6] (by kernel_rfl)
            simp only [List.foldl_cons, List.foldl_nil] at ha
            rw [h6] at ha
            clear hd hs hfr h6
            generalize a.tmps.getD 94 undef = v94 at ha
            generalize a.tmps.getD 95 undef = v95 at ha
            generalize a.tmps.getD 96 undef = v96 at ha
            generalize a.tmps.getD 97 undef = v97 at ha
            generalize a.tmps.getD 98 undef = v98 at ha
            generalize a.tmps.getD 99 undef = v99 at ha
            generalize a.tmps.getD 100 undef = v100 at ha
            generalize a.tmps.getD 101 undef = v101 at ha
            generalize a.tmps.getD 102 undef = v102 at ha
            generalize a.tmps.getD 103 undef = v103 at ha
            generalize a.tmps.getD 104 undef = v104 at ha
            generalize a.tmps.getD 105 undef = v105 at ha
            generalize a.tmps.getD 106 undef = v106 at ha
            generalize a.tmps.getD 107 undef = v107 at ha
            generalize a.tmps.getD 108 undef = v108 at ha
            generalize a.tmps.getD 109 undef = v109 at ha
            generalize a.tmps.getD 110 undef = v110 at ha
            generalize a.tmps.getD 111 undef = v111 at ha
            generalize a.tmps.getD 112 undef = v112 at ha
            generalize a.tmps.getD 113 undef = v113 at ha
            generalize a.tmps.getD 114 undef = v114 at ha
            generalize a.tmps.getD 115 undef = v115 at ha
            generalize a.tmps.getD 116 undef = v116 at ha
            generalize a.tmps.getD 117 undef = v117 at ha
            generalize a.tmps.getD 118 undef = v118 at ha
            generalize a.tmps.getD 119 undef = v119 at ha
            generalize a.tmps.getD 120 undef = v120 at ha
            generalize a.tmps.getD 121 undef = v121 at ha
            generalize a.tmps.getD 122 undef = v122 at ha
            generalize a.tmps.getD 123 undef = v123 at ha
            generalize a.tmps.getD 124 undef = v124 at ha
            generalize a.tmps.getD 125 undef = v125 at ha
            generalize a.tmps.getD 126 undef = v126 at ha
            generalize a.tmps.getD 127 undef = v127 at ha
            generalize a.tmps.getD 128 undef = v128 at ha
            generalize a.tmps.getD 129 undef = v129 at ha
            generalize a.tmps.getD 130 undef = v130 at ha
            generalize a.tmps.getD 131 undef = v131 at ha
            generalize a.tmps.getD 132 undef = v132 at ha
            generalize a.tmps.getD 133 undef = v133 at ha
            generalize a.tmps.getD 134 undef = v134 at ha
            generalize a.tmps.getD 135 undef = v135 at ha
            generalize a.tmps.getD 136 undef = v136 at ha
            generalize a.tmps.getD 137 undef = v137 at ha
            generalize a.tmps.getD 138 undef = v138 at ha
            generalize a.tmps.getD 139 undef = v139 at ha
            generalize a.tmps.getD 140 undef = v140 at ha
            subst ha
            simp only [List.setIfInBounds_toArray, List.set_cons_succ, List.set_cons_zero]
            have REL := Lib.hid (HB9.out.trans (haft.mono HB9.out.size))
            clear haft HA9 HR9 HS9 HB9
            rename_i Kx hKx
            show Kx _ _
            refine hKx _ _ ?_
            clear hKx
            go_wp2_with fail
            go_ret
            exact ⟨rfl, REL.out⟩
          · have hxn : x < 0 ∨ (l'.length : Int) ≤ x := by omega
            have HByte := Lib.hid (byte_no HAo.out hl' x hxn)
            rw [subL_none l' x hxn] at HRX
            clear hxl hxn
            go_wp2_with fail
            refine HByte.out.mono ?_; rintro e w9 ⟨rfl, rfl⟩
            go_wp2_with fail
            refine HRX.out.mono ?_; rintro e w9 ⟨rfl, hb⟩
            have HA9 := Lib.hid (HAo.out.below hb)
            have HR9 := Lib.hid (HRo.out.below hb)
            have HS9 := Lib.hid (HSo.out.below hb)
            have HB9 := Lib.hid (HBo.out.trans (hb.mono HBo.out.size))
            clear hb HAo HRo HSo HBo HByte HRX
            go_upto_region 17 with fail
            refine (congrArg (fun c => Code.wp Try.prog c _ _ _) (?_ : _ = Code.region 17 ops17 true)).mpr ?_
            · kernel_rfl
            refine reg17_no p q x y (rightB l'.length x y) (strOf (subL l' x y)) (strOf []) 0 w.heap.size rfl rfl rfl rfl rfl rfl rfl (fun w' hb => (HS9.out.below hb).c0) (fun w' hb => (HS9.out.below hb).c1) (fun w' hb => chain_of (right_of (HA9.out.below hb) hl' x y) hb) (fun w' hb => chain_of (rright_of (HR9.out.below hb) hl' x y) hb) (fun w' hb => ours_chain x y w' hb) (fun w' hb => bytes_chain HA9.out hl' x y w' hb) (fun w' hb => chain_of (rbytes_of (HR9.out.below hb) hl' x y) hb) (fun w' hb => chain_of (HAW.out w' (HB9.out.trans (hb.mono HB9.out.size))) hb) rfl ?_
            intro a w' hd hs hfr h6 haft
            have ha := frame_of hd hs hfr [94, 95, 96, 97, 98, 99, 100, 101, 102, 103, 104, 105, 106, 107, 108, 109, 110, 111, 112, 113, 114, 115, 116, 117, 118, 119, 120, 121, 122, 123, 124, 125, 126, 127, 128, 129, 130, 131, 132, 133, 134, 135, 136, 137, 138, 139, 140, 6] (by kernel_rfl)
            simp only [List.foldl_cons, List.foldl_nil] at ha
            rw [h6] at ha
            clear hd hs hfr h6
            generalize a.tmps.getD 94 undef = v94 at ha
            generalize a.tmps.getD 95 undef = v95 at ha
            generalize a.tmps.getD 96 undef = v96 at ha
            generalize a.tmps.getD 97 undef = v97 at ha
            generalize a.tmps.getD 98 undef = v98 at ha
            generalize a.tmps.getD 99 undef = v99 at ha
            generalize a.tmps.getD 100 undef = v100 at ha
            generalize a.tmps.getD 101 undef = v101 at ha
            generalize a.tmps.getD 102 undef = v102 at ha
            generalize a.tmps.getD 103 undef = v103 at ha
            generalize a.tmps.getD 104 undef = v104 at ha
            generalize a.tmps.getD 105 undef = v105 at ha
            generalize a.tmps.getD 106 undef = v106 at ha
            generalize a.tmps.getD 107 undef = v107 at ha
            generalize a.tmps.getD 108 undef = v108 at ha
            generalize a.tmps.getD 109 undef = v109 at ha
            generalize a.tmps.getD 110 undef = v110 at ha
            generalize a.tmps.getD 111 undef = v111 at ha
            generalize a.tmps.getD 112 undef = v112 at ha
            generalize a.tmps.getD 113 undef = v113 at ha
            generalize a.tmps.getD 114 undef = v114 at ha
            generalize a.tmps.getD 115 undef = v115 at ha
            generalize a.tmps.getD 116 undef = v116 at ha
            generalize a.tmps.getD 117 undef = v117 at ha
            generalize a.tmps.getD 118 undef = v118 at ha
            generalize a.tmps.getD 119 undef = v119 at ha
            generalize a.tmps.getD 120 undef = v120 at ha
            generalize a.tmps.getD 121 undef = v121 at ha
            generalize a.tmps.getD 122 undef = v122 at ha
            generalize a.tmps.getD 123 undef = v123 at ha
            generalize a.tmps.getD 124 undef = v124 at ha
            generalize a.tmps.getD 125 undef = v125 at ha
            generalize a.tmps.getD 126 undef = v126 at ha
            generalize a.tmps.getD 127 undef = v127 at ha
            generalize a.tmps.getD 128 undef = v128 at ha
            generalize a.tmps.getD 129 undef = v129 at ha
            generalize a.tmps.getD 130 undef = v130 at ha
            generalize a.tmps.getD 131 undef = v131 at ha
            generalize a.tmps.getD 132 undef = v132 at ha
            generalize a.tmps.getD 133 undef = v133 at ha
            generalize a.tmps.getD 134 undef = v134 at ha
            generalize a.tmps.getD 135 undef = v135 at ha
            generalize a.tmps.getD 136 undef = v136 at ha
            generalize a.tmps.getD 137 undef = v137 at ha
            generalize a.tmps.getD 138 undef = v138 at ha
            generalize a.tmps.getD 139 undef = v139 at ha
            generalize a.tmps.getD 140 undef = v140 at ha
            subst ha
            simp only [List.setIfInBounds_toArray, List.set_cons_succ, List.set_cons_zero]
            have REL := Lib.hid (HB9.out.trans (haft.mono HB9.out.size))
            clear haft HA9 HR9 HS9 HB9
            rename_i Kx hKx
            show Kx _ _
            refine hKx _ _ ?_
            clear hKx
            go_wp2_with fail
            go_ret
            exact ⟨rfl, REL.out⟩
        · have dk : decide (k < L.length) = false := decide_eq_false hge
          have HAo := HAr
          have HRo := HRr
          have HBo := HBW
          have HSo := HS
          have c0 := HSo.out.c0
          have c1 := HSo.out.c1
          have HRX := Lib.hid (rbytes_of HRo.out hl' x 1)
          clear HAr HRr HBW HS hlt
          by_cases hxl : 0 ≤ x ∧ x < l'.length
          · obtain ⟨xn, rfl⟩ : ∃ n : Nat, x = n := ⟨x.toNat, by omega⟩
            have hxl' : xn < l'.length := by omega
            have HByte := Lib.hid (byte_yes HAo.out hl' xn hxl')
            rw [subL_one l' xn hxl' 1] at HRX
            generalize l'[xn] = byt at *
            generalize (xn : Int) = x at *
            clear hxl hxl'
            go_wp2_with fail
            refine HByte.out.mono ?_; rintro e w9 ⟨rfl, rfl⟩
            go_wp2_with fail
            refine HRX.out.mono ?_; rintro e w9 ⟨rfl, hb⟩
            have HA9 := Lib.hid (HAo.out.below hb)
            have HR9 := Lib.hid (HRo.out.below hb)
            have HS9 := Lib.hid (HSo.out.below hb)
            have HB9 := Lib.hid (HBo.out.trans (hb.mono HBo.out.size))
            clear hb HAo HRo HSo HBo HByte HRX
            go_upto_region 17 with fail
            refine (congrArg (fun c => Code.wp Try.prog c _ _ _) (?_ : _ = Code.region 17 ops17 true)).mpr ?_
            · kernel_rfl
            refine reg17_yes p q x y (rightB l'.length x y) (strOf (subL l' x y)) (strOf [byt]) (byt.toNat : Int) w.heap.size rfl rfl rfl rfl rfl rfl rfl (fun w' hb => (HS9.out.below hb).c0) (fun w' hb => (HS9.out.below hb).c1) (fun w' hb => chain_of (right_of (HA9.out.below hb) hl' x y) hb) (fun w' hb => chain_of (rright_of (HR9.out.below hb) hl' x y) hb) (fun w' hb => ours_chain x y w' hb) (fun w' hb => bytes_chain HA9.out hl' x y w' hb) (fun w' hb => chain_of (rbytes_of (HR9.out.below hb) hl' x y) hb) (fun w' hb => chain_of (HAW.out w' (HB9.out.trans (hb.mono HB9.out.size))) hb) rfl (fun w1 w2 hb => one_conv byt w1 w2 hb) ?_
            intro a w' hd hs hfr h6 haft
            have ha := frame_of hd hs hfr [94, 95, 96, 97, 98, 99, 100, 101, 102, 103, 104, 105, 106, 107, 108, 109, 110, 111, 112, 113, 114, 115, 116, 117, 118, 119, 120, 121, 122, 123, 124, 125, 126, 127, 128, 129, 130, 131, 132, 133, 134, 135, 136, 137, 138, 139, 140, 6] (by kernel_rfl)
            simp only [List.foldl_cons, List.foldl_nil] at ha
            rw [h6] at ha
            clear hd hs hfr h6
            generalize a.tmps.getD 94 undef = v94 at ha
            generalize a.tmps.getD 95 undef = v95 at ha
            generalize a.tmps.getD 96 undef = v96 at ha
            generalize a.tmps.getD 97 undef = v97 at ha
            generalize a.tmps.getD 98 undef = v98 at ha
            generalize a.tmps.getD 99 undef = v99 at ha
            generalize a.tmps.getD 100 undef = v100 at ha
            generalize a.tmps.getD 101 undef = v101 at ha
            generalize a.tmps.getD 102 undef = v102 at ha
            generalize a.tmps.getD 103 undef = v103 at ha
            generalize a.tmps.getD 104 undef = v104 at ha
            generalize a.tmps.getD 105 undef = v105 at ha
            generalize a.tmps.getD 106 undef = v106 at ha
            generalize a.tmps.getD 107 undef = v107 at ha
            generalize a.tmps.getD 108 undef = v108 at ha
            generalize a.tmps.getD 109 undef = v109 at ha
            generalize a.tmps.getD 110 undef = v110 at ha
            generalize a.tmps.getD 111 undef = v111 at ha
            generalize a.tmps.getD 112 undef = v112 at ha
            generalize a.tmps.getD 113 undef = v113 at ha
            generalize a.tmps.getD 114 undef = v114 at ha
            generalize a.tmps.getD 115 undef = v115 at ha
            generalize a.tmps.getD 116 undef = v116 at ha
            generalize a.tmps.getD 117 undef = v117 at ha
            generalize a.tmps.getD 118 undef = v118 at ha
            generalize a.tmps.getD 119 undef = v119 at ha
            generalize a.tmps.getD 120 undef = v120 at ha
            generalize a.tmps.getD 121 undef = v121 at ha
            generalize a.tmps.getD 122 undef = v122 at ha
            generalize a.tmps.getD 123 undef = v123 at ha
            generalize a.tmps.getD 124 undef = v124 at ha
            generalize a.tmps.getD 125 undef = v125 at ha
            generalize a.tmps.getD 126 undef = v126 at ha
            generalize a.tmps.getD 127 undef = v127 at ha
            generalize a.tmps.getD 128 undef = v128 at ha
            generalize a.tmps.getD 129 undef = v129 at ha
            generalize a.tmps.getD 130 undef = v130 at ha
            generalize a.tmps.getD 131 undef = v131 at ha
            generalize a.tmps.getD 132 undef = v132 at ha
            generalize a.tmps.getD 133 undef = v133 at ha
            generalize a.tmps.getD 134 undef = v134 at ha
            generalize a.tmps.getD 135 undef = v135 at ha
            generalize a.tmps.getD 136 undef = v136 at ha
            generalize a.tmps.getD 137 undef = v137 at ha
            generalize a.tmps.getD 138 undef = v138 at ha
            generalize a.tmps.getD 139 undef = v139 at ha
            generalize a.tmps.getD 140 undef = v140 at ha
            subst ha
            simp only [List.setIfInBounds_toArray, List.set_cons_succ, List.set_cons_zero]
            have REL := Lib.hid (HB9.out.trans (haft.mono HB9.out.size))
            clear haft HA9 HR9 HS9 HB9
            rename_i Kx hKx
            show Kx _ _
            refine hKx _ _ ?_
            clear hKx
            go_wp2_with fail
            go_ret
            exact ⟨rfl, REL.out⟩
          · have hxn : x < 0 ∨ (l'.length : Int) ≤ x := by omega
            have HByte := Lib.hid (byte_no HAo.out hl' x hxn)
            rw [subL_none l' x hxn] at HRX
            clear hxl hxn
            go_wp2_with fail
            refine HByte.out.mono ?_; rintro e w9 ⟨rfl, rfl⟩
            go_wp2_with fail
            refine HRX.out.mono ?_; rintro e w9 ⟨rfl, hb⟩
            have HA9 := Lib.hid (HAo.out.below hb)
            have HR9 := Lib.hid (HRo.out.below hb)
            have HS9 := Lib.hid (HSo.out.below hb)
            have HB9 := Lib.hid (HBo.out.trans (hb.mono HBo.out.size))
            clear hb HAo HRo HSo HBo HByte HRX
            go_upto_region 17 with fail
            refine (congrArg (fun c => Code.wp Try.prog c _ _ _) (?_ : _ = Code.region 17 ops17 true)).mpr ?_
            · kernel_rfl
            refine reg17_no p q x y (rightB l'.length x y) (strOf (subL l' x y)) (strOf []) 0 w.heap.size rfl rfl rfl rfl rfl rfl rfl (fun w' hb => (HS9.out.below hb).c0) (fun w' hb => (HS9.out.below hb).c1) (fun w' hb => chain_of (right_of (HA9.out.below hb) hl' x y) hb) (fun w' hb => chain_of (rright_of (HR9.out.below hb) hl' x y) hb) (fun w' hb => ours_chain x y w' hb) (fun w' hb => bytes_chain HA9.out hl' x y w' hb) (fun w' hb => chain_of (rbytes_of (HR9.out.below hb) hl' x y) hb) (fun w' hb => chain_of (HAW.out w' (HB9.out.trans (hb.mono HB9.out.size))) hb) rfl ?_
            intro a w' hd hs hfr h6 haft
            have ha := frame_of hd hs hfr [94, 95, 96, 97, 98, 99, 100, 101, 102, 103, 104, 105, 106, 107, 108, 109, 110, 111, 112, 113, 114, 115, 116, 117, 118, 119, 120, 121, 122, 123, 124, 125, 126, 127, 128, 129, 130, 131, 132, 133, 134, 135, 136, 137, 138, 139, 140, 6] (by kernel_rfl)
            simp only [List.foldl_cons, List.foldl_nil] at ha
            rw [h6] at ha
            clear hd hs hfr h6
            generalize a.tmps.getD 94 undef = v94 at ha
            generalize a.tmps.getD 95 undef = v95 at ha
            generalize a.tmps.getD 96 undef = v96 at ha
            generalize a.tmps.getD 97 undef = v97 at ha
            generalize a.tmps.getD 98 undef = v98 at ha
            generalize a.tmps.getD 99 undef = v99 at ha
            generalize a.tmps.getD 100 undef = v100 at ha
            generalize a.tmps.getD 101 undef = v101 at ha
            generalize a.tmps.getD 102 undef = v102 at ha
            generalize a.tmps.getD 103 undef = v103 at ha
            generalize a.tmps.getD 104 undef = v104 at ha
            generalize a.tmps.getD 105 undef = v105 at ha
            generalize a.tmps.getD 106 undef = v106 at ha
            generalize a.tmps.getD 107 undef = v107 at ha
            generalize a.tmps.getD 108 undef = v108 at ha
            generalize a.tmps.getD 109 undef = v109 at ha
            generalize a.tmps.getD 110 undef = v110 at ha
            generalize a.tmps.getD 111 undef = v111 at ha
            generalize a.tmps.getD 112 undef = v112 at ha
            generalize a.tmps.getD 113 undef = v113 at ha
            generalize a.tmps.getD 114 undef = v114 at ha
            generalize a.tmps.getD 115 undef = v115 at ha
            generalize a.tmps.getD 116 undef = v116 at ha
            generalize a.tmps.getD 117 undef = v117 at ha
            generalize a.tmps.getD 118 undef = v118 at ha
            generalize a.tmps.getD 119 undef = v119 at ha
            generalize a.tmps.getD 120 undef = v120 at ha
            generalize a.tmps.getD 121 undef = v121 at ha
            generalize a.tmps.getD 122 undef = v122 at ha
            generalize a.tmps.getD 123 undef = v123 at ha
            generalize a.tmps.getD 124 undef = v124 at ha
            generalize a.tmps.getD 125 undef = v125 at ha
            generalize a.tmps.getD 126 undef = v126 at ha
            generalize a.tmps.getD 127 undef = v127 at ha
            generalize a.tmps.getD 128 undef = v128 at ha
            generalize a.tmps.getD 129 undef = v129 at ha
            generalize a.tmps.getD 130 undef = v130 at ha
            generalize a.tmps.getD 131 undef = v131 at ha
            generalize a.tmps.getD 132 undef = v132 at ha
            generalize a.tmps.getD 133 undef = v133 at ha
            generalize a.tmps.getD 134 undef = v134 at ha
            generalize a.tmps.getD 135 undef = v135 at ha
            generalize a.tmps.getD 136 undef = v136 at ha
            generalize a.tmps.getD 137 undef = v137 at ha
            generalize a.tmps.getD 138 undef = v138 at ha
            generalize a.tmps.getD 139 undef = v139 at ha
            generalize a.tmps.getD 140 undef = v140 at ha
            subst ha
            simp only [List.setIfInBounds_toArray, List.set_cons_succ, List.set_cons_zero]
            have REL := Lib.hid (HB9.out.trans (haft.mono HB9.out.size))
            clear haft HA9 HR9 HS9 HB9
            rename_i Kx hKx
            show Kx _ _
            refine hKx _ _ ?_
            clear hKx
            go_wp2_with fail
            go_ret
            exact ⟨rfl, REL.out⟩

end Go.Proofs.Ytkggeknfdjbheaa
