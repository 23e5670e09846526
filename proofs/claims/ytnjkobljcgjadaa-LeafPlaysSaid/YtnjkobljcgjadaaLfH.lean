/-
  The document's own Has, Put, Drop and Other over rows of numbers; Same; Pop and New of a queue.
-/
import Derived.Test.YtnjkobljcgjadaaLfG
import Derived.Test.YtnjkobljcgjadaaLfN
namespace Go.Proofs.Ytnjkobljcgjadaa
open Go Go.RowKit
set_option linter.unusedVariables false

theorem own_slice {w : World} {B sz n : Nat} {e : TypeId} {v : Value} {xs : List Value} (h : w.ownsRow B e sz v n xs) : ∃ a c, v = .slice a n c := by
  rcases h.2 with ⟨h1, h2⟩ | ⟨g, cap, cur, h1, _⟩
  · exact ⟨none, 0, by rw [h1, h2]⟩
  · exact ⟨_, _, h1⟩
theorem app_below {w wr w1 : World} {B sz n : Nat} {e : TypeId} {v : Value} {xs : List Value} {o : Obj} (hb : Below w.heap.size w wr) (ho : wr.ownsRow w.heap.size e sz v n xs) (hg : (wr.alloc o).grownBy w1 v.ownBlock) : Below w.heap.size w w1 :=
  (hb.alloc hb.size o).grown hg (by have := hb.size; simp only [World.size_alloc]; omega) (fun k hk => (ho.lt k hk).1)
/-- A row that was made, or that came in. -/
structure RowR (w w' : World) (a a' : Option Addr) (c' : Nat) (l : List Int) : Prop where
  sl : Sl w' a' c' (nums l)
  at' : ∀ d, a' = some d → (∃ d0, a = some d0 ∧ d0.block = d.block) ∨ w.heap.size ≤ d.block
  lt : ∀ d, a' = some d → d.block < w'.heap.size
theorem RowR.own {w w' : World} {a a' : Option Addr} {c' : Nat} {l : List Int} (h : w'.ownsRow w.heap.size 3 1 (.slice a' l.length c') l.length (nums l)) : RowR w w' a a' c' l := by
  refine ⟨?_, fun d e => ?_, fun d e => ?_⟩
  · rw [← nums_len l] at h; exact Sl.own h (nums_one l)
  · subst e; exact .inr (h.lt d.block rfl).1
  · subst e; exact (h.lt d.block rfl).2

set_option maxRecDepth 100000 in
set_option maxHeartbeats 2000000 in
theorem rhas_of {w : World} {a : Option Addr} {c : Nat} {l : List Int} (H : Sl w a c (nums l)) (hn : l.length ≤ 1000000) (x : Int) :
    Calls Try.prog 13 #[.slice a l.length c, .int .i64 x] w fun e w' => e = .returned (.bool (decide (x ∈ l))) ∧ w = w' := by
  obtain ⟨n, hnn⟩ : ∃ n, l.length = n := ⟨_, rfl⟩
  have HN := Lib.hid hnn
  have HS := Lib.hid H
  rw [hnn] at hn ⊢
  clear hnn H
  go_enter Try.func13, Try.ntmps13
  go_wp2_with fail
  go_loopw [9] (fun v9 wr => wr = w ∧ ∃ k : Nat, v9 = .int .i64 k ∧ k ≤ n ∧ x ∉ l.take k) (fun v9 _ => n - (intOf v9).toNat)
  case atStart => exact ⟨rfl, 0, rfl, by omega, by simp⟩
  case round =>
    obtain ⟨rfl, k, rfl, hk, hx⟩ := hrel
    by_cases hlt : k < n
    · have dk : decide (k < n) = true := decide_eq_true hlt
      obtain ⟨g, o, rfl⟩ := HS.out.numsome (by rw [HN.out]; omega)
      obtain ⟨y, hy⟩ : ∃ y, l[k]? = some y := ⟨_, List.getElem?_eq_getElem (by rw [HN.out]; exact hlt)⟩
      have c0 := (HS.out.num hy).1
      have e0 : (0 : Int) ≤ (k : Int) := by omega
      have e1 : (k : Int) < (n : Int) := by omega
      by_cases hxy : y = x
      · subst hxy
        have hq : (y == y) = true := by simp
        have HM : Hid (decide (y ∈ l) = true) := Lib.hid (decide_eq_true (List.mem_of_getElem? hy))
        clear hy hx
        go_wp2_with fail
        go_ret
        exact ⟨by rw [HM.out]; rfl, rfl⟩
      · have hq : (y == x) = false := by rw [beq_eq_false_iff_ne]; exact hxy
        have HX : Hid (x ∉ l.take (k + 1)) := Lib.hid (by
          rw [← take_snoc hy]
          intro h
          rcases List.mem_append.1 h with h | h
          · exact hx h
          · exact hxy (List.mem_singleton.1 h).symm)
        clear hy hx
        go_wp2_with fail
        go_roundw
        case rel => exact ⟨trivial, k + 1, by go_num, by omega, HX.out⟩
        case measure => simp [intOf]; omega
    · obtain rfl : k = n := by omega
      have dk : decide (k < k) = false := by simp
      have HX : Hid (decide (x ∈ l) = false) := Lib.hid (by
        rw [List.take_of_length_le (by rw [HN.out]; exact Nat.le_refl _)] at hx
        exact decide_eq_false hx)
      clear hx
      go_wp2_with fail
      go_ret
      exact ⟨by rw [HX.out]; rfl, rfl⟩

set_option maxRecDepth 100000 in
set_option maxHeartbeats 2000000 in
theorem rother_of {w : World} {a : Option Addr} {c : Nat} {l : List Int} (H : Sl w a c (nums l)) (hn : l.length ≤ 1000000) (x : Int) :
    Calls Try.prog 21 #[.slice a l.length c, .int .i64 x] w fun e w' => e = .returned (.tuple #[.int .i64 (otherS l x).1, .bool (otherS l x).2]) ∧ w = w' := by
  obtain ⟨n, hnn⟩ : ∃ n, l.length = n := ⟨_, rfl⟩
  have HN := Lib.hid hnn
  have HS := Lib.hid H
  rw [hnn] at hn ⊢
  clear hnn H
  go_enter Try.func21, Try.ntmps21
  go_wp2_with fail
  go_loopw [10] (fun v10 wr => wr = w ∧ ∃ k : Nat, v10 = .int .i64 k ∧ k ≤ n ∧ ∀ y ∈ l.take k, y = x) (fun v10 _ => n - (intOf v10).toNat)
  case atStart => exact ⟨rfl, 0, rfl, by omega, by simp⟩
  case round =>
    obtain ⟨rfl, k, rfl, hk, hx⟩ := hrel
    by_cases hlt : k < n
    · have dk : decide (k < n) = true := decide_eq_true hlt
      obtain ⟨g, o, rfl⟩ := HS.out.numsome (by rw [HN.out]; omega)
      obtain ⟨y, hy⟩ : ∃ y, l[k]? = some y := ⟨_, List.getElem?_eq_getElem (by rw [HN.out]; exact hlt)⟩
      have c0 := (HS.out.num hy).1
      have e0 : (0 : Int) ≤ (k : Int) := by omega
      have e1 : (k : Int) < (n : Int) := by omega
      by_cases hxy : y = x
      · subst hxy
        have hq : (y == y) = true := by simp
        have hq2 : (y != y) = false := by simp
        have HX : Hid (∀ z ∈ l.take (k + 1), z = y) := Lib.hid (by
          rw [← take_snoc hy]
          intro z h
          rcases List.mem_append.1 h with h | h
          · exact hx z h
          · exact List.mem_singleton.1 h)
        clear hy hx
        go_wp2_with fail
        go_roundw
        case rel => exact ⟨trivial, k + 1, by go_num, by omega, HX.out⟩
        case measure => simp [intOf]; omega
      · have hq : (y == x) = false := by rw [beq_eq_false_iff_ne]; exact hxy
        have hq2 : (y != x) = true := by simp [hxy]
        have HM : Hid (otherS l x = (y, true)) := Lib.hid (by
          have hf : l.find? (fun z => decide (z ≠ x)) = some y := by
            rw [← List.take_append_drop k l, List.find?_append, List.find?_eq_none.2 (fun z hz => by simp [hx z hz]), Option.none_or]
            rw [List.drop_eq_getElem_cons (by rw [HN.out]; exact hlt), List.find?_cons_of_pos]
            · rw [List.getElem?_eq_getElem (by rw [HN.out]; exact hlt)] at hy; exact hy
            · have : l[k]'(by rw [HN.out]; exact hlt) = y := by rw [List.getElem?_eq_getElem (by rw [HN.out]; exact hlt)] at hy; exact Option.some.inj hy
              rw [this]; simp [hxy]
          unfold otherS; rw [hf])
        clear hy hx
        go_wp2_with fail
        refine bodyPost_ret (v := .tuple #[.int .i64 y, .bool true]) (by simp [results, Try.results21, go_sem]) rfl ⟨by rw [HM.out], rfl⟩
    · obtain rfl : k = n := by omega
      have dk : decide (k < k) = false := by simp
      have HX : Hid (otherS l x = (0, false)) := Lib.hid (by
        rw [List.take_of_length_le (by rw [HN.out]; exact Nat.le_refl _)] at hx
        unfold otherS
        rw [List.find?_eq_none.2 (fun z hz => by simp [hx z hz])])
      clear hx
      go_wp2_with fail
      refine bodyPost_ret (v := .tuple #[.int .i64 0, .bool false]) (by simp [results, Try.results21, go_sem]) rfl ⟨by rw [HX.out], rfl⟩

set_option maxRecDepth 100000 in
set_option maxHeartbeats 4000000 in
theorem rdrop_of {w : World} {a : Option Addr} {c : Nat} {l : List Int} (H : Sl w a c (nums l)) (hn : l.length ≤ 1000000) (x : Int) :
    Calls Try.prog 22 #[.slice a l.length c, .int .i64 x] w fun e w' => ∃ a' c', e = .returned (.slice a' (dropS l x).length c') ∧ RowR w w' a a' c' (dropS l x) ∧ Below w.heap.size w w' := by
  obtain ⟨i0, hi0, hz0, hz1, hz2⟩ := info_parts info_int
  obtain ⟨n, hnn⟩ : ∃ n, l.length = n := ⟨_, rfl⟩
  have HN := Lib.hid hnn
  have HS := Lib.hid H
  rw [hnn] at hn ⊢
  clear hnn H
  go_enter Try.func22, Try.ntmps22
  go_wp2_with fail
  go_loopw [5, 10] (fun v5 v10 wr => ∃ (k m : Nat) (a3 : Option Addr) (c3 : Nat), v5 = .slice a3 m c3 ∧ v10 = .int .i64 k ∧ k ≤ n ∧ m = (dropS (l.take k) x).length ∧ wr.ownsRow w.heap.size 3 1 (.slice a3 m c3) m (nums (dropS (l.take k) x)) ∧ Below w.heap.size w wr) (fun _ v10 _ => n - (intOf v10).toNat)
  case atStart => exact ⟨0, 0, none, 0, rfl, rfl, by omega, by simp [dropS], by simp [dropS, nums, t_nil], Below.refl _ _⟩
  case round =>
    obtain ⟨wq, rfl⟩ : ∃ wq : World, wq = wr := ⟨_, rfl⟩
    obtain ⟨k, m, a3, c3, rfl, rfl, hk, hm, ho, hb⟩ := hrel
    have HO := Lib.hid ho
    have HB := Lib.hid hb
    have HM := Lib.hid hm
    have hmk : m ≤ k := by
      rw [hm]; unfold dropS
      have := List.length_filter_le (fun y => decide (y ≠ x)) (l.take k)
      rw [List.length_take] at this; omega
    clear ho hb hm
    by_cases hlt : k < n
    · have dk : decide (k < n) = true := decide_eq_true hlt
      obtain ⟨g, o, rfl⟩ := HS.out.numsome (by rw [HN.out]; omega)
      obtain ⟨y, hy⟩ : ∃ y, l[k]? = some y := ⟨_, List.getElem?_eq_getElem (by rw [HN.out]; exact hlt)⟩
      have c0 := ((HS.out.below HB.out).num hy).1
      have e0 : (0 : Int) ≤ (k : Int) := by omega
      have e1 : (k : Int) < (n : Int) := by omega
      by_cases hxy : y = x
      · subst hxy
        have hq : (y == y) = true := by simp
        have hq2 : (y != y) = false := by simp
        have HX : Hid (dropS (l.take (k + 1)) y = dropS (l.take k) y) := Lib.hid (by rw [← take_snoc hy]; unfold dropS; rw [List.filter_append]; simp)
        clear hy
        go_wp2_with fail
        go_roundw
        case rel => exact ⟨k + 1, m, a3, c3, by go_num, by go_num, by omega, by rw [HX.out]; exact HM.out, by rw [HX.out]; exact HO.out, HB.out⟩
        case measure => simp [intOf]; omega
      · have hq : (y == x) = false := by rw [beq_eq_false_iff_ne]; exact hxy
        have hq2 : (y != x) = true := by simp [hxy]
        have HX : Hid (dropS (l.take (k + 1)) x = dropS (l.take k) x ++ [y]) := Lib.hid (by rw [← take_snoc hy]; unfold dropS; rw [List.filter_append]; simp [hxy])
        have C3 : Hid (m + 1 ≤ maxLen) := by show _ ≤ _; unfold maxLen; omega
        have C4 : Hid ((m + 1) * 8 ≤ 140737488355328) := by show _ ≤ _; omega
        have C5 : Hid (w.heap.size ≤ (wq.alloc (Obj.cells #[.int .i64 y] 3)).heap.size) := by show _ ≤ _; have := HB.out.size; simp only [World.size_alloc]; omega
        clear hy
        go_wp2_with (first
          | (at_builtin; refine wpList_append_own _ rfl (.tmp 17) (.tmp 19) 22 rfl w.heap.size 3 i0 (.int .i64 0) 1 8 Try.underlying22 hi0 hz0 hz1 hz2 rfl (by decide) (.slice a3 m c3) (m) (nums (dropS (l.take k) x)) rfl (HO.out.alloc _) ⟨wq.heap.size, 0, none⟩ 1 1 [.int .i64 y] rfl rfl (c1_one _ _ _) (c2_one _ rfl) C3.out C4.out C5.out ?_)
          | fail)
        intro vN wB hoN hgN _
        obtain ⟨aN, cN, rfl⟩ := own_slice hoN
        have HOB := Lib.hid hoN
        have HBB := Lib.hid (app_below (B := 0) HB.out HO.out hgN)
        clear hoN hgN C3 C4 C5
        go_wp2_with fail
        go_roundw
        case rel => exact ⟨k + 1, m + 1, aN, cN, by go_num, by go_num, by omega, by rw [HX.out, List.length_append, ← HM.out]; rfl, by rw [HX.out, ← nums_app]; exact HOB.out, HBB.out⟩
        case measure => simp [intOf]; omega
    · obtain rfl : k = n := by omega
      have dk : decide (k < k) = false := by simp
      have HX : Hid (dropS (l.take k) x = dropS l x) := Lib.hid (by rw [List.take_of_length_le (by rw [HN.out]; exact Nat.le_refl _)])
      rw [HX.out] at HM HO
      go_wp2_with fail
      go_ret
      exact ⟨a3, c3, by rw [← HM.out]; rfl, RowR.own (by have := HO.out; rwa [HM.out] at this), HB.out⟩

/-- What Put has laid when so many things were gone through. -/
def outP (x : Int) (a : List Int) : List Int := if (∃ z ∈ a, x < z) then ins x a else a
set_option maxRecDepth 100000 in
set_option maxHeartbeats 8000000 in
theorem rput_of {w : World} {a : Option Addr} {c : Nat} {l : List Int} (H : Sl w a c (nums l)) (ha : ∀ d, a = some d → d.block < w.heap.size) (hn : l.length ≤ 1000000) (x : Int) :
    Calls Try.prog 6 #[.slice a l.length c, .int .i64 x] w fun e w' => ∃ a' c', e = .returned (.slice a' (putS l x).length c') ∧ RowR w w' a a' c' (putS l x) ∧ Below w.heap.size w w' := by
  have HH := Lib.hid (rhas_of H hn x)
  by_cases hx : x ∈ l
  · have e1 : putS l x = l := if_pos hx
    rw [e1]
    rw [decide_eq_true hx] at HH
    have HR : Hid (RowR w w a a c l) := Lib.hid ⟨H, fun d e => .inl ⟨d, e, rfl⟩, ha⟩
    clear H e1 hx ha
    generalize l.length = n at *
    go_enter Try.func6, Try.ntmps6
    go_wp2_with fail
    refine HH.out.mono ?_; rintro e w1 ⟨rfl, rfl⟩
    go_wp2_with fail
    go_ret
    exact ⟨a, c, rfl, HR.out, Below.refl _ _⟩
  · have e1 : putS l x = ins x l := if_neg hx
    rw [e1]
    rw [decide_eq_false hx] at HH
    obtain ⟨i0, hi0, hz0, hz1, hz2⟩ := info_parts info_int
    obtain ⟨n, hnn⟩ : ∃ n, l.length = n := ⟨_, rfl⟩
    have HN := Lib.hid hnn
    have HS := Lib.hid H
    rw [hnn] at hn HH ⊢
    clear hnn H e1 hx ha
    go_enter Try.func6, Try.ntmps6
    go_wp2_with fail
    refine HH.out.mono ?_; rintro e w1 ⟨rfl, rfl⟩
    go_wp2_with fail
    go_loopw [5, 6, 15] (fun v5 v6 v15 wr => ∃ (k m : Nat) (a3 : Option Addr) (c3 : Nat) (ld : Bool), v5 = .slice a3 m c3 ∧ v6 = .bool ld ∧ v15 = .int .i64 k ∧ k ≤ n ∧ ((ld = true ∧ (∃ z ∈ l.take k, x < z) ∧ m = (ins x (l.take k)).length ∧ wr.ownsRow w.heap.size 3 1 (.slice a3 m c3) m (nums (ins x (l.take k)))) ∨ (ld = false ∧ (∀ z ∈ l.take k, ¬ x < z) ∧ m = k ∧ wr.ownsRow w.heap.size 3 1 (.slice a3 m c3) m (nums (l.take k)))) ∧ Below w.heap.size w wr) (fun _ _ v15 _ => n - (intOf v15).toNat)
    case atStart => exact ⟨0, 0, none, 0, false, rfl, rfl, rfl, by omega, .inr ⟨rfl, by simp, rfl, by simp [nums, t_nil]⟩, Below.refl _ _⟩
    case round =>
      obtain ⟨wq, rfl⟩ : ∃ wq : World, wq = wr := ⟨_, rfl⟩
      obtain ⟨k, m, a3, c3, ld, rfl, rfl, rfl, hk, hcase, hb⟩ := hrel
      have HB := Lib.hid hb
      clear hb
      by_cases hlt : k < n
      · have dk : decide (k < n) = true := decide_eq_true hlt
        obtain ⟨g, o, rfl⟩ := HS.out.numsome (by rw [HN.out]; omega)
        obtain ⟨y, hy⟩ : ∃ y, l[k]? = some y := ⟨_, List.getElem?_eq_getElem (by rw [HN.out]; exact hlt)⟩
        have c0 := ((HS.out.below HB.out).num hy).1
        have e0 : (0 : Int) ≤ (k : Int) := by omega
        have e1 : (k : Int) < (n : Int) := by omega
        have C5 : ∀ z, Hid (w.heap.size ≤ (wq.alloc (Obj.cells #[.int .i64 z] 3)).heap.size) := by intro z; show _ ≤ _; have := HB.out.size; simp only [World.size_alloc]; omega
        rcases hcase with ⟨rfl, hex, hm, ho⟩ | ⟨rfl, hno, hm, ho⟩
        · have hmk : m = k + 1 := by rw [hm, (ins_perm x _).length_eq, List.length_cons, List.length_take, Nat.min_eq_left (by rw [HN.out]; omega)]
          have HX : Hid (ins x (l.take (k + 1)) = ins x (l.take k) ++ [y]) := Lib.hid (by rw [← take_snoc hy]; exact ins_laid hex)
          have HE : Hid (∃ z ∈ l.take (k + 1), x < z) := Lib.hid (by obtain ⟨z, hz, h⟩ := hex; exact ⟨z, by rw [← take_snoc hy]; simp [hz], h⟩)
          have HM := Lib.hid hm
          have HO := Lib.hid ho
          have C3 : Hid (m + 1 ≤ maxLen) := by show _ ≤ _; unfold maxLen; omega
          have C4 : Hid ((m + 1) * 8 ≤ 140737488355328) := by show _ ≤ _; omega
          clear hy hex hm ho hmk
          go_wp2_with (first
            | (at_builtin; refine wpList_append_own _ rfl (.tmp 30) (.tmp 32) 22 rfl w.heap.size 3 i0 (.int .i64 0) 1 8 Try.underlying22 hi0 hz0 hz1 hz2 rfl (by decide) (.slice a3 m c3) (m) (nums (ins x (l.take k))) rfl (HO.out.alloc _) ⟨wq.heap.size, 0, none⟩ 1 1 [.int .i64 y] rfl rfl (c1_one _ _ _) (c2_one _ rfl) C3.out C4.out (C5 _).out ?_)
            | fail)
          intro vN wB hoN hgN _
          obtain ⟨aN, cN, rfl⟩ := own_slice hoN
          have HOB := Lib.hid hoN
          have HBB := Lib.hid (app_below (B := 0) HB.out HO.out hgN)
          clear hoN hgN C3 C4 C5
          go_wp2_with fail
          go_roundw
          case rel => exact ⟨k + 1, m + 1, aN, cN, true, by go_num, rfl, by go_num, by omega, .inl ⟨rfl, HE.out, by rw [HX.out, List.length_append, ← HM.out]; rfl, by rw [HX.out, ← nums_app]; exact HOB.out⟩, HBB.out⟩
          case measure => simp [intOf]; omega
        · subst hm
          have HO := Lib.hid ho
          by_cases hxy : x < y
          · have hq : decide (x < y) = true := decide_eq_true hxy
            have HX : Hid (ins x (l.take (m + 1)) = l.take m ++ [x] ++ [y]) := Lib.hid (by rw [← take_snoc hy, ins_not _ hno, ins, if_pos hxy]; simp)
            have HE : Hid (∃ z ∈ l.take (m + 1), x < z) := Lib.hid ⟨y, by rw [← take_snoc hy]; simp, hxy⟩
            have HYY := Lib.hid hy
            have HL : Hid ((l.take m).length = m) := Lib.hid (by rw [List.length_take, HN.out]; omega)
            have C3 : Hid (m + 1 ≤ maxLen) := by show _ ≤ _; unfold maxLen; omega
            have C4 : Hid ((m + 1) * 8 ≤ 140737488355328) := by show _ ≤ _; omega
            have D3 : Hid (m + 1 + 1 ≤ maxLen) := by show _ ≤ _; unfold maxLen; omega
            have D4 : Hid ((m + 1 + 1) * 8 ≤ 140737488355328) := by show _ ≤ _; omega
            clear hy hno ho
            go_wp2_with (first
              | (at_builtin; refine wpList_append_own _ rfl (.tmp 26) (.tmp 28) 22 rfl w.heap.size 3 i0 (.int .i64 0) 1 8 Try.underlying22 hi0 hz0 hz1 hz2 rfl (by decide) (.slice a3 m c3) (m) (nums (l.take m)) rfl (HO.out.alloc _) ⟨wq.heap.size, 0, none⟩ 1 1 [.int .i64 x] rfl rfl (c1_one _ _ _) (c2_one _ rfl) C3.out C4.out (C5 _).out ?_)
              | fail)
            intro vN wB hoN hgN _
            obtain ⟨aN, cN, rfl⟩ := own_slice hoN
            have hoN2 : wB.ownsRow w.heap.size 3 1 (.slice aN (m + 1) cN) (m + 1) (nums (l.take m ++ [x])) := by rw [← nums_app]; exact hoN
            have HY : Hid (l[m]? = some y) := HYY
            obtain ⟨S, hS⟩ : ∃ S, l.take m ++ [x] = S := ⟨_, rfl⟩
            rw [hS] at hoN2
            have HSS := Lib.hid hS
            have HOB := Lib.hid hoN2
            have HBB := Lib.hid (app_below (B := 0) HB.out HO.out hgN)
            have c0' := ((HS.out.below HBB.out).num (k := m) (x := y) HY.out).1
            have D5 : Hid (w.heap.size ≤ (wB.alloc (Obj.cells #[.int .i64 y] 3)).heap.size) := by show _ ≤ _; have := HBB.out.size; simp only [World.size_alloc]; omega
            clear hoN hoN2 hgN C3 C4 C5 c0 hS
            go_wp2_with (first
              | (at_builtin; go_loud (refine wpList_append_own _ rfl (.tmp 30) (.tmp 32) 22 rfl w.heap.size 3 i0 (.int .i64 0) 1 8 Try.underlying22 hi0 hz0 hz1 hz2 rfl (by decide) (.slice aN (m + 1) cN) ((m + 1)) (nums (S)) rfl (HOB.out.alloc _) ⟨wB.heap.size, 0, none⟩ 1 1 [.int .i64 y] rfl rfl (c1_one _ _ _) (c2_one _ rfl) D3.out D4.out D5.out ?_))
              | fail)
            intro vM wC hoM hgM _
            obtain ⟨aM, cM, rfl⟩ := own_slice hoM
            have HOC := Lib.hid hoM
            have HBC := Lib.hid (app_below (B := 0) HBB.out HOB.out hgM)
            clear hoM hgM D3 D4 D5
            go_wp2_with fail
            go_roundw
            case rel => exact ⟨m + 1, m + 1 + 1, aM, cM, true, by go_num, rfl, by go_num, by omega, .inl ⟨rfl, HE.out, by rw [HX.out, List.length_append, List.length_append, HL.out]; rfl, by rw [HX.out, HSS.out, ← nums_app]; exact HOC.out⟩, HBC.out⟩
            case measure => simp [intOf]; omega
          · have hq : decide (x < y) = false := decide_eq_false hxy
            have HX : Hid (l.take (m + 1) = l.take m ++ [y]) := Lib.hid (take_snoc hy).symm
            have HE : Hid (∀ z ∈ l.take (m + 1), ¬ x < z) := Lib.hid (by
              rw [← take_snoc hy]; intro z hz
              rcases List.mem_append.1 hz with hz | hz
              · exact hno z hz
              · rw [List.mem_singleton.1 hz]; exact hxy)
            have C3 : Hid (m + 1 ≤ maxLen) := by show _ ≤ _; unfold maxLen; omega
            have C4 : Hid ((m + 1) * 8 ≤ 140737488355328) := by show _ ≤ _; omega
            clear hy hno ho
            go_wp2_with (first
              | (at_builtin; refine wpList_append_own _ rfl (.tmp 30) (.tmp 32) 22 rfl w.heap.size 3 i0 (.int .i64 0) 1 8 Try.underlying22 hi0 hz0 hz1 hz2 rfl (by decide) (.slice a3 m c3) (m) (nums (l.take m)) rfl (HO.out.alloc _) ⟨wq.heap.size, 0, none⟩ 1 1 [.int .i64 y] rfl rfl (c1_one _ _ _) (c2_one _ rfl) C3.out C4.out (C5 _).out ?_)
              | fail)
            intro vN wB hoN hgN _
            obtain ⟨aN, cN, rfl⟩ := own_slice hoN
            have HOB := Lib.hid hoN
            have HBB := Lib.hid (app_below (B := 0) HB.out HO.out hgN)
            clear hoN hgN C3 C4 C5
            go_wp2_with fail
            go_roundw
            case rel => exact ⟨m + 1, m + 1, aN, cN, false, by go_num, rfl, by go_num, by omega, .inr ⟨rfl, (fun z hz => by have := HE.out z hz; omega), rfl, by rw [HX.out, ← nums_app]; exact HOB.out⟩, HBB.out⟩
            case measure => simp [intOf]; omega
      · obtain rfl : k = n := by omega
        have dk : decide (k < k) = false := by simp
        have HT : Hid (l.take k = l) := Lib.hid (List.take_of_length_le (by rw [HN.out]; exact Nat.le_refl _))
        rw [HT.out] at hcase
        rcases hcase with ⟨rfl, hex, hm, ho⟩ | ⟨rfl, hno, hm, ho⟩
        · have HM := Lib.hid hm
          have HO := Lib.hid ho
          clear hex hm ho
          go_wp2_with fail
          go_ret
          exact ⟨a3, c3, by rw [← HM.out]; rfl, RowR.own (by have := HO.out; rwa [HM.out] at this), HB.out⟩
        · subst hm
          have HO := Lib.hid ho
          have HX : Hid (ins x l = l ++ [x]) := Lib.hid (by have := ins_not (x := x) (a := l) [] hno; rw [List.append_nil] at this; rw [this]; rfl)
          have C3 : Hid (m + 1 ≤ maxLen) := by show _ ≤ _; unfold maxLen; omega
          have C4 : Hid ((m + 1) * 8 ≤ 140737488355328) := by show _ ≤ _; omega
          have C5 : Hid (w.heap.size ≤ (wq.alloc (Obj.cells #[.int .i64 x] 3)).heap.size) := by show _ ≤ _; have := HB.out.size; simp only [World.size_alloc]; omega
          clear hno ho
          go_wp2_with (first
            | (at_builtin; refine wpList_append_own _ rfl (.tmp 37) (.tmp 39) 22 rfl w.heap.size 3 i0 (.int .i64 0) 1 8 Try.underlying22 hi0 hz0 hz1 hz2 rfl (by decide) (.slice a3 m c3) (m) (nums (l)) rfl (HO.out.alloc _) ⟨wq.heap.size, 0, none⟩ 1 1 [.int .i64 x] rfl rfl (c1_one _ _ _) (c2_one _ rfl) C3.out C4.out C5.out ?_)
            | fail)
          intro vN wB hoN hgN _
          obtain ⟨aN, cN, rfl⟩ := own_slice hoN
          have HOB := Lib.hid hoN
          have HBB := Lib.hid (app_below (B := 0) HB.out HO.out hgN)
          have HL : Hid ((ins x l).length = m + 1) := Lib.hid (by rw [HX.out, List.length_append, HN.out]; rfl)
          clear hoN hgN C3 C4 C5
          go_wp2_with fail
          go_ret
          exact ⟨aN, cN, by rw [HL.out]; rfl, RowR.own (by rw [HL.out, HX.out, ← nums_app]; exact HOB.out), HBB.out⟩
end Go.Proofs.Ytnjkobljcgjadaa
