/-
  The document's tens, Compare, put and Sort of layer 15, at this seat's numbers.
-/
import Derived.Test.YtlglenbgaalhiaaMgD
namespace Go.Proofs.Ytlglenbgaalhiaa
open Go Go.RowKit
set_option linter.unusedVariables false

theorem info_int : (Try.prog.info? 3).map (fun i => (i.zero, i.size, i.bytes)) = some (some (.int .i64 0), 1, 8) := by kernel_rfl
theorem c1_one (w : World) (x : Value) (t : TypeId) : ∀ q u, ([x] : List Value)[q]? = some u → (w.alloc (Obj.cells #[x] t)).cell? (Addr.add ⟨w.heap.size, 0, none⟩ q) = some u := by
  intro q u hq
  rw [Addr.add_lit, Nat.zero_add]
  rw [cell_at (heap_alloc_new w _)]
  simpa using hq
theorem c2_one (x : Value) (h : x.oneCell' = true) : ∀ u ∈ ([x] : List Value), u.oneCell' = true := by
  intro u hu
  obtain rfl := List.mem_singleton.1 hu; exact h
theorem app_below {w wr wB : World} {e : TypeId} {sz n : Nat} {v : Value} {xs : List Value} {o : Obj} (hb : Below w.heap.size w wr) (ho : wr.ownsRow w.heap.size e sz v n xs) (hg : (wr.alloc o).grownBy wB v.ownBlock) : Below w.heap.size w wB :=
  (hb.alloc hb.size o).grown hg (by have := hb.size; simp only [World.size_alloc]; omega) (fun q hq => (ho.lt q hq).1)

theorem own_sl {w : World} {B n c : Nat} {e : TypeId} {a : Option Addr} {xs : List Value} (h : w.ownsRow B e 1 (.slice a n c) n xs) (h1 : ∀ u ∈ xs, u.oneCell' = true) : Sl w a c xs := by
  have hn : n = xs.length := by have := h.1; omega
  subst hn
  exact Sl.own h h1
/-- A row of numbers in new memory. -/
def NPost (L : List Int) (w : World) (e : Ending) (w' : World) : Prop :=
  ∃ a c, e = .returned (.slice a L.length c) ∧ w'.ownsRow w.heap.size 3 1 (.slice a L.length c) L.length (nums L) ∧ Below w.heap.size w w'

def tensZ (n : Int) : Int := if n < 0 then (n - 9).tdiv 10 else n / 10
def cmpT (a b : Int) : Int := if tensZ a < tensZ b then -1 else if tensZ b < tensZ a then 1 else 0
theorem cmpT_cm : Cm cmpT := by
  refine ⟨fun a b => ?_, fun a b d => ?_⟩ <;> unfold cmpT
  · generalize tensZ a = x; generalize tensZ b = y
    split <;> split <;> (try split) <;> omega
  · generalize tensZ a = x; generalize tensZ b = y; generalize tensZ d = z
    (repeat' split) <;> omega
def Dm (x : Int) : Prop := -100000 ≤ x ∧ x ≤ 100000

theorem tens_of (n : Int) (w : World) (h : Dm n) : Calls Try.prog 22 #[.int .i64 n] w fun e w' => e = .returned (.int .i64 (tensZ n)) ∧ w = w' := by
  obtain ⟨h1, h2⟩ := h
  by_cases hn : n < 0
  · have d : decide (n < 0) = true := decide_eq_true hn
    have ht : tensZ n = (n - 9).tdiv 10 := by unfold tensZ; rw [if_pos hn]
    have HT := Lib.hid ht
    clear ht
    go_enter Try.func22, Try.ntmps22
    go_wp2_with fail
    go_ret
    exact ⟨by rw [HT.out] <;> rfl, rfl⟩
  · have d : decide (n < 0) = false := decide_eq_false hn
    have ht : tensZ n = n / 10 := by unfold tensZ; rw [if_neg hn]
    have HT := Lib.hid ht
    clear ht
    go_enter Try.func22, Try.ntmps22
    go_wp2_with fail
    go_ret
    exact ⟨by rw [HT.out] <;> rfl, rfl⟩

theorem rcmp_of (a b : Int) (w : World) (ha : Dm a) (hb : Dm b) : Calls Try.prog 10 #[.int .i64 a, .int .i64 b] w fun e w' => e = .returned (.int .i64 (cmpT a b)) ∧ w = w' := by
  have HA := Lib.hid (tens_of a w ha)
  have HB := Lib.hid (tens_of b w hb)
  obtain ⟨s, hs⟩ : ∃ s, cmpT a b = s := ⟨_, rfl⟩
  rw [hs]
  have HS := Lib.hid hs
  unfold cmpT at hs
  generalize tensZ a = x at *
  generalize tensZ b = y at *
  by_cases h1 : x < y
  · rw [if_pos h1] at hs
    subst hs
    have d : decide (x < y) = true := decide_eq_true h1
    go_enter Try.func10, Try.ntmps10
    go_wp2_with fail
    refine HA.out.mono ?_; rintro e w1 ⟨rfl, rfl⟩
    go_wp2_with fail
    refine HB.out.mono ?_; rintro e w1 ⟨rfl, rfl⟩
    go_wp2_with fail
    go_ret
    exact ⟨rfl, rfl⟩
  · rw [if_neg h1] at hs
    have d : decide (x < y) = false := decide_eq_false h1
    by_cases h2 : y < x
    · rw [if_pos h2] at hs
      subst hs
      have d2 : decide (y < x) = true := decide_eq_true h2
      go_enter Try.func10, Try.ntmps10
      go_wp2_with fail
      refine HA.out.mono ?_; rintro e w1 ⟨rfl, rfl⟩
      go_wp2_with fail
      refine HB.out.mono ?_; rintro e w1 ⟨rfl, rfl⟩
      go_wp2_with fail
      refine HA.out.mono ?_; rintro e w1 ⟨rfl, rfl⟩
      go_wp2_with fail
      refine HB.out.mono ?_; rintro e w1 ⟨rfl, rfl⟩
      go_wp2_with fail
      go_ret
      exact ⟨rfl, rfl⟩
    · rw [if_neg h2] at hs
      subst hs
      have d2 : decide (y < x) = false := decide_eq_false h2
      go_enter Try.func10, Try.ntmps10
      go_wp2_with fail
      refine HA.out.mono ?_; rintro e w1 ⟨rfl, rfl⟩
      go_wp2_with fail
      refine HB.out.mono ?_; rintro e w1 ⟨rfl, rfl⟩
      go_wp2_with fail
      refine HA.out.mono ?_; rintro e w1 ⟨rfl, rfl⟩
      go_wp2_with fail
      refine HB.out.mono ?_; rintro e w1 ⟨rfl, rfl⟩
      go_wp2_with fail
      go_ret
      exact ⟨rfl, rfl⟩

/-- The document's comparison as a function value. -/
theorem cv_tens (W : World) : Cv W (.func (.func 10) #[] #[]) Dm cmpT :=
  ⟨10, #[], rfl, callf_of (f := Try.f10) (by kernel_rfl) (of_decide_eq_true (by kernel_rfl)) (by intro h; cases h), fun w a b _ ha hb => (rcmp_of a b w ha hb).mono (fun e w' h => ⟨h.1, h.2 ▸ Below.refl _ _⟩)⟩

theorem own_mono {w : World} {B B' : Nat} {e : TypeId} {sz n : Nat} {v : Value} {xs : List Value} (h : w.ownsRow B e sz v n xs) (hB : B' ≤ B) : w.ownsRow B' e sz v n xs := by
  refine ⟨h.1, ?_⟩
  rcases h.2 with h1 | ⟨g, cap, cur, h1, h2, h3⟩
  · exact .inl h1
  · exact .inr ⟨g, cap, cur, h1, Nat.le_trans hB h2, h3⟩

set_option maxRecDepth 100000 in
set_option maxHeartbeats 4000000 in
theorem rput_of {w : World} {a : Option Addr} {c : Nat} (l : List Int) (x : Int) (H : Sl w a c (nums l)) (hD : ∀ y ∈ l, Dm y) (hx : Dm x) (hn : l.length ≤ 1000000) :
    Calls Try.prog 20 #[.slice a l.length c, .int .i64 x] w (NPost (putL cmpT x l) w) := by
  obtain ⟨i0, hi0, hz0, hz1, hz2⟩ := info_parts info_int
  obtain ⟨n, hnn⟩ : ∃ n, l.length = n := ⟨_, rfl⟩
  have HN := Lib.hid hnn
  have HS := Lib.hid H
  have HD := Lib.hid hD
  have HX := Lib.hid hx
  rw [hnn] at hn ⊢
  clear hnn H hD hx
  go_enter Try.func20, Try.ntmps20
  go_wp2_with fail
  go_loopw [5, 6, 11] (fun v5 v6 v11 wr => ∃ (k : Nat) (out : List Int) (a5 : Option Addr) (c5 : Nat) (laid : Bool), v5 = .slice a5 out.length c5 ∧ v6 = .bool laid ∧ v11 = .int .i64 k ∧ k ≤ n ∧ (laid = false → out.length ≤ k ∧ out ++ putL cmpT x (l.drop k) = putL cmpT x l) ∧ (laid = true → out.length ≤ k + 1 ∧ out ++ l.drop k = putL cmpT x l) ∧ wr.ownsRow w.heap.size 3 1 (.slice a5 out.length c5) out.length (nums out) ∧ Below w.heap.size w wr) (fun _ _ v11 _ => n - (intOf v11).toNat)
  case atStart => exact ⟨0, [], none, 0, false, rfl, rfl, rfl, by omega, fun _ => by simp, fun h => (by cases h), t_nil _ _ _ _, Below.refl _ _⟩
  case round =>
    obtain ⟨wq, rfl⟩ : ∃ wq : World, wq = wr := ⟨_, rfl⟩
    obtain ⟨k, out, a5, c5, laid, rfl, rfl, rfl, hk, h0, h1, ho, hb⟩ := hrel
    have HO := Lib.hid ho
    have HB := Lib.hid hb
    obtain ⟨m, hm⟩ : ∃ m, out.length = m := ⟨_, rfl⟩
    have HM := Lib.hid hm
    rw [hm] at h0 h1 HO ⊢
    clear ho hb hm
    by_cases hlt : k < n
    · have dk : decide (k < n) = true := decide_eq_true hlt
      obtain ⟨g, o, rfl⟩ := HS.out.numsome (by rw [HN.out]; omega)
      obtain ⟨y, hy⟩ : ∃ y, l[k]? = some y := ⟨_, List.getElem?_eq_getElem (by rw [HN.out]; exact hlt)⟩
      have c0 := ((HS.out.below HB.out).num hy).1
      have e0 : (0 : Int) ≤ (k : Int) := by omega
      have e1 : (k : Int) < (n : Int) := by omega
      have hdr : l.drop k = y :: l.drop (k + 1) := by
        obtain ⟨hk', rfl⟩ := List.getElem?_eq_some_iff.1 hy
        exact List.drop_eq_getElem_cons hk'
      have hyD : Dm y := HD.out y (List.mem_of_getElem? hy)
      have HDR := Lib.hid hdr
      have HCm := Lib.hid (fun w' => rcmp_of x y w' HX.out hyD)
      clear hy hdr hyD
      cases laid
      · obtain ⟨hml, h0⟩ := h0 rfl
        have H0 := Lib.hid h0
        clear h0 h1
        obtain ⟨s, hs⟩ : ∃ s, cmpT x y = s := ⟨_, rfl⟩
        rw [hs] at HCm
        have HSs := Lib.hid hs
        clear hs
        go_wp2_with fail
        refine (HCm.out _).mono ?_; rintro e w1 ⟨rfl, rfl⟩
        by_cases q1 : s < 0
        · have d1 : decide (s < 0) = true := decide_eq_true q1
          have C3 : Hid (m + 1 ≤ maxLen) := by show _ ≤ _; unfold maxLen; omega
          have C4 : Hid ((m + 1) * 8 ≤ 140737488355328) := by show _ ≤ _; omega
          have C5 : Hid (w.heap.size ≤ (wq.alloc (Obj.cells #[.int .i64 x] 3)).heap.size) := by show _ ≤ _; have := HB.out.size; simp only [World.size_alloc]; omega
          go_wp2_with (first
            | (at_builtin; refine wpList_append_own _ rfl (.tmp 23) (.tmp 25) 22 rfl w.heap.size 3 i0 (.int .i64 0) 1 8 Try.underlying22 hi0 hz0 hz1 hz2 rfl (by decide) (.slice a5 m c5) (m) (nums out) rfl (HO.out.alloc _) ⟨wq.heap.size, 0, none⟩ 1 1 [.int .i64 x] rfl rfl (c1_one wq _ _) (c2_one _ rfl) C3.out C4.out C5.out ?_)
            | fail)
          intro vN wB hoN hgN _
          obtain ⟨aN, cN, rfl⟩ := own_slice hoN
          have HOB := Lib.hid hoN
          have HBB := Lib.hid (app_below HB.out HO.out hgN)
          clear hoN hgN C3 C4 C5
          have C3 : Hid ((m + 1) + 1 ≤ maxLen) := by show _ ≤ _; unfold maxLen; omega
          have C4 : Hid (((m + 1) + 1) * 8 ≤ 140737488355328) := by show _ ≤ _; omega
          have C5 : Hid (w.heap.size ≤ (wB.alloc (Obj.cells #[.int .i64 y] 3)).heap.size) := by show _ ≤ _; have := HBB.out.size; simp only [World.size_alloc]; omega
          go_wp2_with (first
            | (at_builtin; refine wpList_append_own _ rfl (.tmp 27) (.tmp 29) 22 rfl w.heap.size 3 i0 (.int .i64 0) 1 8 Try.underlying22 hi0 hz0 hz1 hz2 rfl (by decide) (.slice aN (m + 1) cN) ((m + 1)) (nums out ++ [.int .i64 x]) rfl (HOB.out.alloc _) ⟨wB.heap.size, 0, none⟩ 1 1 [.int .i64 y] rfl rfl (c1_one wB _ _) (c2_one _ rfl) C3.out C4.out C5.out ?_)
            | fail)
          intro vN wC hoN hgN _
          obtain ⟨aM, cM, rfl⟩ := own_slice hoN
          have HOC := Lib.hid hoN
          have HBC := Lib.hid (app_below HBB.out HOB.out hgN)
          clear hoN hgN C3 C4 C5
          go_wp2_with fail
          go_roundw
          case rel =>
            refine ⟨k + 1, out ++ [x] ++ [y], aM, cM, true, by simp [HM.out], rfl, by go_num, by omega, fun h => (by cases h), fun _ => ⟨by simp [HM.out]; omega, ?_⟩, ?_, HBC.out⟩
            · rw [← H0.out, HDR.out, putL, if_pos (by rw [HSs.out]; exact q1)]; simp
            · have := HOC.out
              rw [show (out ++ [x] ++ [y]).length = m + 1 + 1 by simp [HM.out]]
              rw [show nums (out ++ [x] ++ [y]) = nums out ++ [.int .i64 x, .int .i64 y] by simp [nums]]
              exact this
          case measure => simp [intOf]; omega
        · have d1 : decide (s < 0) = false := decide_eq_false q1
          have C3 : Hid (m + 1 ≤ maxLen) := by show _ ≤ _; unfold maxLen; omega
          have C4 : Hid ((m + 1) * 8 ≤ 140737488355328) := by show _ ≤ _; omega
          have C5 : Hid (w.heap.size ≤ (wq.alloc (Obj.cells #[.int .i64 y] 3)).heap.size) := by show _ ≤ _; have := HB.out.size; simp only [World.size_alloc]; omega
          go_wp2_with (first
            | (at_builtin; refine wpList_append_own _ rfl (.tmp 27) (.tmp 29) 22 rfl w.heap.size 3 i0 (.int .i64 0) 1 8 Try.underlying22 hi0 hz0 hz1 hz2 rfl (by decide) (.slice a5 m c5) (m) (nums out) rfl (HO.out.alloc _) ⟨wq.heap.size, 0, none⟩ 1 1 [.int .i64 y] rfl rfl (c1_one wq _ _) (c2_one _ rfl) C3.out C4.out C5.out ?_)
            | fail)
          intro vN wB hoN hgN _
          obtain ⟨aN, cN, rfl⟩ := own_slice hoN
          have HOB := Lib.hid hoN
          have HBB := Lib.hid (app_below HB.out HO.out hgN)
          clear hoN hgN C3 C4 C5
          go_wp2_with fail
          go_roundw
          case rel =>
            refine ⟨k + 1, out ++ [y], aN, cN, false, by simp [HM.out], rfl, by go_num, by omega, fun _ => ⟨by simp [HM.out]; omega, ?_⟩, fun h => (by cases h), ?_, HBB.out⟩
            · rw [← H0.out, HDR.out, putL, if_neg (by rw [HSs.out]; omega)]; simp
            · have := HOB.out
              rw [show (out ++ [y]).length = m + 1 by simp [HM.out]]
              rw [show nums (out ++ [y]) = nums out ++ [.int .i64 y] by simp [nums]]
              exact this
          case measure => simp [intOf]; omega
      · obtain ⟨hml, h1⟩ := h1 rfl
        have H1 := Lib.hid h1
        clear h0 h1 HCm
        have C3 : Hid (m + 1 ≤ maxLen) := by show _ ≤ _; unfold maxLen; omega
        have C4 : Hid ((m + 1) * 8 ≤ 140737488355328) := by show _ ≤ _; omega
        have C5 : Hid (w.heap.size ≤ (wq.alloc (Obj.cells #[.int .i64 y] 3)).heap.size) := by show _ ≤ _; have := HB.out.size; simp only [World.size_alloc]; omega
        go_wp2_with (first
          | (at_builtin; refine wpList_append_own _ rfl (.tmp 27) (.tmp 29) 22 rfl w.heap.size 3 i0 (.int .i64 0) 1 8 Try.underlying22 hi0 hz0 hz1 hz2 rfl (by decide) (.slice a5 m c5) (m) (nums out) rfl (HO.out.alloc _) ⟨wq.heap.size, 0, none⟩ 1 1 [.int .i64 y] rfl rfl (c1_one wq _ _) (c2_one _ rfl) C3.out C4.out C5.out ?_)
          | fail)
        intro vN wB hoN hgN _
        obtain ⟨aN, cN, rfl⟩ := own_slice hoN
        have HOB := Lib.hid hoN
        have HBB := Lib.hid (app_below HB.out HO.out hgN)
        clear hoN hgN C3 C4 C5
        go_wp2_with fail
        go_roundw
        case rel =>
          refine ⟨k + 1, out ++ [y], aN, cN, true, by simp [HM.out], rfl, by go_num, by omega, fun h => (by cases h), fun _ => ⟨by simp [HM.out]; omega, ?_⟩, ?_, HBB.out⟩
          · rw [← H1.out, HDR.out]; simp
          · have := HOB.out
            rw [show (out ++ [y]).length = m + 1 by simp [HM.out]]
            rw [show nums (out ++ [y]) = nums out ++ [.int .i64 y] by simp [nums]]
            exact this
        case measure => simp [intOf]; omega
    · have dk : decide (k < n) = false := decide_eq_false hlt
      have hdr : l.drop k = [] := List.drop_eq_nil_of_le (by rw [HN.out]; omega)
      have HDR := Lib.hid hdr
      clear hdr
      cases laid
      · obtain ⟨hml, h0⟩ := h0 rfl
        have HE : Hid (putL cmpT x l = out ++ [x]) := Lib.hid (by rw [← h0, HDR.out, putL])
        clear h0 h1
        have C3 : Hid (m + 1 ≤ maxLen) := by show _ ≤ _; unfold maxLen; omega
        have C4 : Hid ((m + 1) * 8 ≤ 140737488355328) := by show _ ≤ _; omega
        have C5 : Hid (w.heap.size ≤ (wq.alloc (Obj.cells #[.int .i64 x] 3)).heap.size) := by show _ ≤ _; have := HB.out.size; simp only [World.size_alloc]; omega
        go_wp2_with (first
          | (at_builtin; refine wpList_append_own _ rfl (.tmp 34) (.tmp 36) 22 rfl w.heap.size 3 i0 (.int .i64 0) 1 8 Try.underlying22 hi0 hz0 hz1 hz2 rfl (by decide) (.slice a5 m c5) (m) (nums out) rfl (HO.out.alloc _) ⟨wq.heap.size, 0, none⟩ 1 1 [.int .i64 x] rfl rfl (c1_one wq _ _) (c2_one _ rfl) C3.out C4.out C5.out ?_)
          | fail)
        intro vN wB hoN hgN _
        obtain ⟨aN, cN, rfl⟩ := own_slice hoN
        have HOB := Lib.hid hoN
        have HBB := Lib.hid (app_below HB.out HO.out hgN)
        clear hoN hgN C3 C4 C5
        go_wp2_with fail
        go_ret
        refine ⟨aN, cN, ?_, ?_, HBB.out⟩
        · rw [HE.out, List.length_append, HM.out]; rfl
        · rw [HE.out, List.length_append, HM.out, show nums (out ++ [x]) = nums out ++ [.int .i64 x] by simp [nums]]
          exact HOB.out
      · obtain ⟨hml, h1⟩ := h1 rfl
        have HE : Hid (putL cmpT x l = out) := Lib.hid (by rw [← h1, HDR.out, List.append_nil])
        clear h0 h1
        go_wp2_with fail
        go_ret
        refine ⟨a5, c5, ?_, ?_, HB.out⟩
        · rw [HE.out, HM.out]; rfl
        · rw [HE.out, HM.out]; exact HO.out

set_option maxRecDepth 100000 in
set_option maxHeartbeats 4000000 in
theorem rsort_of {w : World} {a : Option Addr} {c : Nat} (l : List Int) (H : Sl w a c (nums l)) (hD : ∀ y ∈ l, Dm y) (hn : l.length ≤ 1000000) :
    Calls Try.prog 8 #[.slice a l.length c] w (NPost (sortL cmpT l) w) := by
  obtain ⟨n, hnn⟩ : ∃ n, l.length = n := ⟨_, rfl⟩
  have HN := Lib.hid hnn
  have HS := Lib.hid H
  have HD := Lib.hid hD
  rw [hnn] at hn ⊢
  clear hnn H hD
  go_enter Try.func8, Try.ntmps8
  go_wp2_with fail
  go_loopw [3, 8] (fun v3 v8 wr => ∃ (k : Nat) (a3 : Option Addr) (c3 : Nat), v3 = .slice a3 k c3 ∧ v8 = .int .i64 k ∧ k ≤ n ∧ wr.ownsRow w.heap.size 3 1 (.slice a3 k c3) k (nums (sortL cmpT (l.take k))) ∧ Below w.heap.size w wr) (fun _ v8 _ => n - (intOf v8).toNat)
  case atStart => exact ⟨0, none, 0, rfl, rfl, by omega, t_nil _ _ _ _, Below.refl _ _⟩
  case round =>
    obtain ⟨wq, rfl⟩ : ∃ wq : World, wq = wr := ⟨_, rfl⟩
    obtain ⟨k, a3, c3, rfl, rfl, hk, ho, hb⟩ := hrel
    have HO := Lib.hid ho
    have HB := Lib.hid hb
    clear ho hb
    by_cases hlt : k < n
    · have dk : decide (k < n) = true := decide_eq_true hlt
      obtain ⟨g, o, rfl⟩ := HS.out.numsome (by rw [HN.out]; omega)
      obtain ⟨y, hy⟩ : ∃ y, l[k]? = some y := ⟨_, List.getElem?_eq_getElem (by rw [HN.out]; exact hlt)⟩
      have c0 := ((HS.out.below HB.out).num hy).1
      have e0 : (0 : Int) ≤ (k : Int) := by omega
      have e1 : (k : Int) < (n : Int) := by omega
      have hlk : (sortL cmpT (l.take k)).length = k := by rw [sort_len, List.length_take, HN.out]; omega
      have htk : sortL cmpT (l.take (k + 1)) = putL cmpT y (sortL cmpT (l.take k)) := by
        rw [List.take_add_one, hy]
        unfold sortL
        rw [sortF_app]; rfl
      have hSl : Sl wq a3 c3 (nums (sortL cmpT (l.take k))) := own_sl HO.out (nums_one _)
      have hP := rput_of _ y hSl (fun z hz => HD.out z (List.mem_of_mem_take ((sort_perm _ _).mem_iff.1 hz))) (HD.out y (List.mem_of_getElem? hy)) (by rw [hlk]; omega)
      rw [hlk] at hP
      have hpl : (putL cmpT y (sortL cmpT (l.take k))).length = k + 1 := by rw [(put_perm _ _ _).length_eq, List.length_cons, hlk]
      have HPu := Lib.hid hP
      have HPL := Lib.hid hpl
      have HTK := Lib.hid htk
      clear hy hlk htk hSl hP hpl
      go_wp2_with fail
      refine HPu.out.mono ?_; rintro e w1 ⟨a1, c1, rfl, ho1, hb1⟩
      rw [HPL.out] at ho1 ⊢
      have HB1 := Lib.hid (HB.out.trans (hb1.mono HB.out.size))
      have HO1 : Hid (w1.ownsRow w.heap.size 3 1 (.slice a1 (k + 1) c1) (k + 1) (nums (sortL cmpT (l.take (k + 1))))) := Lib.hid (by rw [HTK.out]; exact own_mono ho1 HB.out.size)
      clear ho1 hb1 HPu
      go_wp2_with fail
      go_roundw
      case rel => exact ⟨k + 1, a1, c1, rfl, by go_num, by omega, HO1.out, HB1.out⟩
      case measure => simp [intOf]; omega
    · have dk : decide (k < n) = false := decide_eq_false hlt
      have hkn : k = n := by omega
      subst hkn
      have hlt : l.take k = l := List.take_of_length_le (by rw [HN.out]; exact Nat.le_refl _)
      have HL : Hid ((sortL cmpT l).length = k) := Lib.hid (by rw [sort_len, HN.out])
      have HO2 := HO.out
      rw [hlt] at HO2
      have HO3 := Lib.hid HO2
      clear HO2 hlt
      go_wp2_with fail
      go_ret
      exact ⟨a3, c3, by rw [HL.out]; rfl, by rw [HL.out]; exact HO3.out, HB.out⟩

end Go.Proofs.Ytlglenbgaalhiaa
