/-
  The contracts of num.compareBytes, num.Compare and num.Least over slices of bytes that are not nil, at this seat's numbers.
-/
import Derived.Test.YtbankegfmamoiaaDoorNumB
import Derived.Test.YtbankegfmamoiaaDoorShelf
namespace Go.Proofs.YtbankegfmamoiaaDoor
open Go Go.RowKit
set_option linter.unusedVariables false

theorem cmpInt_of (x y : Int) (w : World) : Calls Tryd.prog 55 #[.int .i64 x, .int .i64 y] w fun e w' => e = .returned (.int .i64 (Lib.compareInt x y)) ∧ w = w' :=
  (Tryd.cmp_Compare_int x y w).mono fun _ _ ⟨a, b⟩ => ⟨a, b.symm⟩

/-- How two texts stand from place i on, k bytes of the shorter one being left. -/
def cbFrom (s t : ByteArray) : Nat → Nat → Int
  | 0, _ => Lib.compareInt s.size t.size
  | k + 1, i => if bt s i < bt t i then -1 else if bt t i < bt s i then 1 else cbFrom s t k (i + 1)
def cmpB (s t : ByteArray) : Int := cbFrom s t (min s.size t.size) 0
def CmpBPost (s t : ByteArray) (w : World) (e : Ending) (w' : World) : Prop := e = .returned (.int .i64 (cmpB s t)) ∧ ∃ n, w' = w.drewN n

def AtC (s t : ByteArray) (m k : Nat) : Prop := cbFrom s t (m - k) k = cbFrom s t m 0

theorem atC_step (s t : ByteArray) (m k : Nat) (h : AtC s t m k) (hk : k < m) (h1 : ¬ bt s k < bt t k) (h2 : ¬ bt t k < bt s k) : AtC s t m (k + 1) := by
  unfold AtC at *
  rw [← h, show m - k = (m - (k + 1)) + 1 from by omega]
  conv => rhs; unfold cbFrom
  rw [if_neg h1, if_neg h2]
theorem atC_lt (s t : ByteArray) (m k : Nat) (h : AtC s t m k) (hk : k < m) (h1 : bt s k < bt t k) : cbFrom s t m 0 = -1 := by
  unfold AtC at *
  rw [← h, show m - k = (m - (k + 1)) + 1 from by omega]
  unfold cbFrom
  rw [if_pos h1]
theorem atC_gt (s t : ByteArray) (m k : Nat) (h : AtC s t m k) (hk : k < m) (h1 : ¬ bt s k < bt t k) (h2 : bt t k < bt s k) : cbFrom s t m 0 = 1 := by
  unfold AtC at *
  rw [← h, show m - k = (m - (k + 1)) + 1 from by omega]
  unfold cbFrom
  rw [if_neg h1, if_pos h2]
theorem atC_end (s t : ByteArray) (m : Nat) (h : AtC s t m m) : cbFrom s t m 0 = Lib.compareInt s.size t.size := by
  unfold AtC at *
  rw [← h, Nat.sub_self]
  rfl

set_option maxRecDepth 100000 in
set_option maxHeartbeats 400000 in
theorem compareBytes_of (b off cap : Nat) (b' off' cap' : Nat) (s t : ByteArray) (w : World) (hs : s.size ≤ maxLen) (ht : t.size ≤ maxLen) (hb : Bs w b off s) (hb' : Bs w b' off' t) :
    Calls Tryd.prog 56 #[.slice (some ⟨b, off, none⟩) s.size cap, .slice (some ⟨b', off', none⟩) t.size cap'] w (CmpBPost s t w) := by
  have HB := Lib.hid hb
  have HB' := Lib.hid hb'
  clear hb hb'
  unfold maxLen at hs ht
  obtain ⟨m, hm⟩ : ∃ m, min s.size t.size = m := ⟨_, rfl⟩
  have hms : m ≤ s.size := by omega
  have hmt : m ≤ t.size := by omega
  have hmc : min (s.size : Int) (t.size : Int) = m := by omega
  have HM := Lib.hid hm
  clear hm
  go_enter Tryd.func56, Tryd.ntmps56
  go_wp2_with (first | go_step3 | (go_at_call 55; refine (cmpInt_of _ _ _).mono ?_; rintro e w' ⟨rfl, rfl⟩))
  go_loopw [5, 17] (fun st i wr => ∃ (k n : Nat), k ≤ m ∧ i = .int .i64 k ∧ st = .int .i64 (Lib.compareInt s.size t.size) ∧ wr = w.drewN n ∧ AtC s t m k) (fun _ i _ => m - (intOf i).toNat)
  case atStart => exact ⟨0, 0, Nat.zero_le _, rfl, rfl, rfl, rfl⟩
  case round =>
    obtain ⟨k, n, hk, rfl, rfl, rfl, hat⟩ := hrel
    by_cases hl : k < m
    · have hc := HB.out k (by omega)
      have hc' := HB'.out k (by omega)
      by_cases h1 : bt s k < bt t k
      · have h1' : decide (bt s k < bt t k) = true := by simpa using h1
        go_wp2_with fail
        go_quiet (fail)
        go_wp2_with fail
        rw [Exit.noGoto_ret]
        go_ret
        exact ⟨ret_i (by unfold cmpB; rw [HM.out]; exact atC_lt s t m k hat hl h1), n + nq, by rw [World.drewN_drewN]⟩
      · by_cases h2 : bt t k < bt s k
        · go_wp2_with fail
          go_quiet (fail)
          go_wp2_with fail
          go_quiet (fail)
          go_wp2_with fail
          rw [Exit.noGoto_ret]
          go_ret
          exact ⟨ret_i (by unfold cmpB; rw [HM.out]; exact atC_gt s t m k hat hl (by omega) (by omega)), _, by rw [World.drewN_drewN, World.drewN_drewN]⟩
        · go_wp2_with fail
          go_quiet (fail)
          go_wp2_with fail
          go_quiet (fail)
          go_wp2_with fail
          go_roundw
          case rel => exact ⟨k + 1, _, by omega, by go_num, rfl, rfl, atC_step s t m k hat hl (by omega) (by omega)⟩
          case measure => simp [intOf]; omega
    · obtain rfl : k = m := by omega
      go_wp2_with fail
      rw [Exit.noGoto_ret]
      go_ret
      exact ⟨ret_i (by unfold cmpB; rw [HM.out]; exact atC_end s t _ hat), n, rfl⟩

/-- How two texts stand. -/
def compare (s t : ByteArray) : Int :=
  if (parse s).2 = true ∧ (parse t).2 = true then Lib.compareInt (parse s).1 (parse t).1 else if (parse s).2 = true then -1 else if (parse t).2 = true then 1 else cmpB s t
def ComparePost (s t : ByteArray) (w : World) (e : Ending) (w' : World) : Prop := e = .returned (.int .i64 (compare s t)) ∧ ∃ n, w' = w.drewN n

set_option maxHeartbeats 400000 in
theorem compare_of (b off cap : Nat) (b' off' cap' : Nat) (s t : ByteArray) (w : World) (hs : s.size ≤ maxLen) (ht : t.size ≤ maxLen) (hcap : s.size ≤ cap) (hcm : cap ≤ maxLen) (hcap' : t.size ≤ cap') (hcm' : cap' ≤ maxLen) (hb : Bs w b off s) (hb' : Bs w b' off' t) :
    Calls Tryd.prog 39 #[.slice (some ⟨b, off, none⟩) s.size cap, .slice (some ⟨b', off', none⟩) t.size cap'] w (ComparePost s t w) := by
  have c1 := parse_of b off cap s w hs hcap hcm hb
  have c2 : ∀ n, Calls Tryd.prog 33 #[.slice (some ⟨b', off', none⟩) t.size cap'] (w.drewN n) (ParsePost t (w.drewN n)) := fun n => parse_of b' off' cap' t (w.drewN n) ht hcap' hcm' (hb'.drewN n)
  have c3 : ∀ n, Calls Tryd.prog 56 #[.slice (some ⟨b, off, none⟩) s.size cap, .slice (some ⟨b', off', none⟩) t.size cap'] (w.drewN n) (CmpBPost s t (w.drewN n)) := fun n => compareBytes_of b off cap b' off' cap' s t (w.drewN n) hs ht (hb.drewN n) (hb'.drewN n)
  have hfin : compare s t = if (parse s).2 = true ∧ (parse t).2 = true then Lib.compareInt (parse s).1 (parse t).1 else if (parse s).2 = true then -1 else if (parse t).2 = true then 1 else cmpB s t := rfl
  have H1 := Lib.hid c1
  have H2 := Lib.hid c2
  have H3 := Lib.hid c3
  have HF := Lib.hid hfin
  clear c1 c2 c3 hfin hb hb' hcap hcap' hcm hcm'
  unfold maxLen at hs ht
  go_enter Tryd.func39, Tryd.ntmps39
  go_wp2_with fail
  refine H1.out.mono ?_
  rintro e w1 ⟨rfl, n1, rfl⟩
  go_wp2_with fail
  refine (H2.out n1).mono ?_
  rintro e w2 ⟨rfl, n2, rfl⟩
  rw [World.drewN_drewN]
  cases hp : (parse s).2 <;> cases hq : (parse t).2
  · rw [hp, hq] at HF
    go_wp2_with fail
    refine (H3.out (n1 + n2)).mono ?_
    rintro e w3 ⟨rfl, n3, rfl⟩
    go_wp2_with fail
    go_ret
    exact ⟨ret_i (by rw [HF.out]; rfl), _, rfl⟩
  · rw [hp, hq] at HF
    go_wp2_with fail
    go_ret
    exact ⟨ret_i (by rw [HF.out]; rfl), _, rfl⟩
  · rw [hp, hq] at HF
    go_wp2_with fail
    go_ret
    exact ⟨ret_i (by rw [HF.out]; rfl), _, rfl⟩
  · rw [hp, hq] at HF
    go_wp2_with fail
    refine (cmpInt_of _ _ _).mono ?_
    rintro e w3 ⟨rfl, rfl⟩
    go_wp2_with fail
    go_ret
    exact ⟨ret_i (by rw [HF.out]; rfl), _, rfl⟩

/-- What bytes.Clone hands back of a text. -/
def LeastPost (s : ByteArray) (w : World) (e : Ending) (w' : World) : Prop :=
  ∃ v', e = .returned v' ∧ w'.ownsRow w.heap.size 5 1 v' s.size ((List.range s.size).map fun i => Value.int .u8 (bt s i)) ∧ v' ≠ .slice none 0 0 ∧ Below w.heap.size w w'

theorem clone_of (b off cap : Nat) (s : ByteArray) (w : World) (hs : s.size ≤ 140737488355328) (hb : Bs w b off s) :
    Calls Tryd.prog 57 #[.slice (some ⟨b, off, none⟩) s.size cap] w (LeastPost s w) := by
  refine (Tryd.bytes_Clone_at ⟨b, off, none⟩ s.size cap ((List.range s.size).map (bt s)) w (by simp) hs (fun i hi => ?_)).mono ?_
  · have := hb i hi
    have e : (⟨b, off, none⟩ : Addr).add i = ⟨b, off + i, none⟩ := by unfold Addr.add; split <;> simp_all
    rw [e, this]
    simp [List.getD, hi]
  · rintro e w' ⟨v', h1, h2, h3, h4⟩
    refine ⟨v', h1, ?_, h3, h4⟩
    simpa [List.map_map, Function.comp_def] using h2

theorem LeastPost.draws {s : ByteArray} {w : World} {n : Nat} {e : Ending} {w' : World} (h : LeastPost s (w.drewN n) e w') : LeastPost s w e w' := by
  obtain ⟨v', h1, h2, h3, h4⟩ := h
  exact ⟨v', h1, h2, h3, (Below.trans (b := w.drewN n) ⟨rfl, rfl, rfl, Nat.le_refl _, fun _ _ => rfl⟩ h4)⟩

set_option maxHeartbeats 400000 in
theorem least_of (b off cap : Nat) (b' off' cap' : Nat) (s t : ByteArray) (w : World) (hs : s.size ≤ 140737488355328) (ht : t.size ≤ 140737488355328) (hcap : s.size ≤ cap) (hcm : cap ≤ maxLen) (hcap' : t.size ≤ cap') (hcm' : cap' ≤ maxLen) (hb : Bs w b off s) (hb' : Bs w b' off' t) :
    Calls Tryd.prog 40 #[.slice (some ⟨b, off, none⟩) s.size cap, .slice (some ⟨b', off', none⟩) t.size cap'] w (LeastPost (if compare s t > 0 then t else s) w) := by
  have c1 := compare_of b off cap b' off' cap' s t w (by unfold maxLen; omega) (by unfold maxLen; omega) hcap hcm hcap' hcm' hb hb'
  have c2 : ∀ n, Calls Tryd.prog 57 #[.slice (some ⟨b', off', none⟩) t.size cap'] (w.drewN n) (LeastPost t (w.drewN n)) := fun n => clone_of b' off' cap' t (w.drewN n) ht (hb'.drewN n)
  have c3 : ∀ n, Calls Tryd.prog 57 #[.slice (some ⟨b, off, none⟩) s.size cap] (w.drewN n) (LeastPost s (w.drewN n)) := fun n => clone_of b off cap s (w.drewN n) hs (hb.drewN n)
  have H1 := Lib.hid c1
  have H2 := Lib.hid c2
  have H3 := Lib.hid c3
  clear c1 c2 c3 hb hb' hcap hcap' hcm hcm'
  by_cases hc : compare s t > 0
  · rw [if_pos hc]
    have hc' : 0 < compare s t := hc
    go_enter Tryd.func40, Tryd.ntmps40
    go_wp2_with fail
    refine H1.out.mono ?_
    rintro e w1 ⟨rfl, n1, rfl⟩
    go_wp2_with fail
    refine (H2.out n1).mono ?_
    intro e w2 h
    obtain ⟨v', rfl, h2, h3, h4⟩ := h.draws
    go_wp2_with fail
    go_ret
    exact ⟨v', rfl, h2, h3, h4⟩
  · rw [if_neg hc]
    have hc' : ¬ 0 < compare s t := hc
    go_enter Tryd.func40, Tryd.ntmps40
    go_wp2_with fail
    refine H1.out.mono ?_
    rintro e w1 ⟨rfl, n1, rfl⟩
    go_wp2_with fail
    refine (H3.out n1).mono ?_
    intro e w2 h
    obtain ⟨v', rfl, h2, h3, h4⟩ := h.draws
    go_wp2_with fail
    go_ret
    exact ⟨v', rfl, h2, h3, h4⟩

end Go.Proofs.YtbankegfmamoiaaDoor
