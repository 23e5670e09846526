/-
  The contracts of slices.Clone and merge.Runs, at this seat's numbers.
-/
import Derived.Test.YtlglenbgaalhiaaMgH
import Derived.Lib.SliceRun
namespace Go.Proofs.Ytlglenbgaalhiaa
open Go Go.RowKit
set_option linter.unusedVariables false

/-- The runs of the first i things. -/
def runsI (c : Int → Int → Int) (l : List Int) : Nat → List (List Int)
  | 0 => []
  | i + 1 => if i = 0 ∨ 0 < c (l.getD (i - 1) 0) (l.getD i 0) then runsI c l i ++ [[l.getD i 0]] else (runsI c l i).dropLast ++ [(runsI c l i).getLastD [] ++ [l.getD i 0]]
theorem runsI_last (c : Int → Int → Int) (l : List Int) (i : Nat) (h : 0 < i) : ∃ rs p, runsI c l i = rs ++ [p ++ [l.getD (i - 1) 0]] := by
  obtain ⟨k, rfl⟩ : ∃ k, i = k + 1 := ⟨i - 1, by omega⟩
  rw [runsI]
  split
  · exact ⟨runsI c l k, [], rfl⟩
  · exact ⟨(runsI c l k).dropLast, (runsI c l k).getLastD [], rfl⟩
theorem runsI_flat (c : Int → Int → Int) (l : List Int) (i : Nat) (h : i ≤ l.length) : (runsI c l i).flatten = l.take i := by
  induction i with
  | zero => simp [runsI]
  | succ i ih =>
    have hx : l.take (i + 1) = l.take i ++ [l.getD i 0] := by
      rw [List.take_add_one, List.getD_eq_getElem?_getD, List.getElem?_eq_getElem (by omega)]; rfl
    rw [runsI, hx, ← ih (by omega)]
    split
    · simp
    · rename_i hc
      obtain ⟨rs, p, hr⟩ := runsI_last c l i (by omega)
      rw [hr]; simp
theorem runsI_srt {c : Int → Int → Int} (H : Cm c) (l : List Int) (i : Nat) : ∀ r ∈ runsI c l i, Srt c r := by
  induction i with
  | zero => intro r hr; simp [runsI] at hr
  | succ i ih =>
    intro r hr
    rw [runsI] at hr
    split at hr
    · rcases List.mem_append.1 hr with hr | hr
      · exact ih r hr
      · rw [List.mem_singleton.1 hr]; exact List.pairwise_singleton _ _
    · rename_i hc
      obtain ⟨rs, p, hrr⟩ := runsI_last c l i (by omega)
      rw [hrr] at hr ih
      simp only [List.dropLast_concat, List.getLastD_concat] at hr
      rcases List.mem_append.1 hr with hr | hr
      · exact ih r (List.mem_append_left _ hr)
      · rw [List.mem_singleton.1 hr]
        have h1 := ih (p ++ [l.getD (i - 1) 0]) (by simp)
        refine List.pairwise_append.2 ⟨h1, List.pairwise_singleton _ _, fun z hz x hx => ?_⟩
        rw [List.mem_singleton.1 hx]
        have h2 : c (l.getD (i - 1) 0) (l.getD i 0) ≤ 0 := by omega
        rcases List.mem_append.1 hz with hz | hz
        · exact H.trans _ _ _ ((List.pairwise_append.1 h1).2.2 z hz _ (by simp)) h2
        · rw [List.mem_singleton.1 hz]; exact h2
theorem runsI_len (c : Int → Int → Int) (l : List Int) (i : Nat) : (runsI c l i).length ≤ i := by
  induction i with
  | zero => simp [runsI]
  | succ i ih =>
    rw [runsI]
    split
    · simp; exact ih
    · rename_i hc
      simp; omega

/-- Rows of numbers, each in memory of its own. -/
def TOwn (w : World) (B : Nat) (T : List RowM) : Prop := ∀ p ∈ T, w.ownsRow B 3 1 (rowV p) p.2.2.length (nums p.2.2)
theorem TOwn.below {w w' : World} {B : Nat} {T : List RowM} (h : TOwn w B T) (hb : Below w.heap.size w w') : TOwn w' B T := fun p hp => own_below (h p hp) hb
theorem TOwn.grown {w w' : World} {B B' s n : Nat} {T : List RowM} {v : Value} {e : TypeId} {xs : List Value} (h : TOwn w B T) (ho : w.ownsRow B' e s v n xs) (hg : w.grownBy w' v.ownBlock) (he : e ≠ 3) : TOwn w' B T := fun p hp => by
  refine (h p hp).kept hg ?_
  rcases (h p hp).2 with ⟨e1, _⟩ | ⟨g, cap, cur, e1, _, e3, _⟩
  · rw [e1]; exact .inl rfl
  · rw [e1]; exact .inr (fun h => own_ne ho e3 he h.symm)
theorem TOwn.set {w : World} {B b o : Nat} {u : Value} {cs : Array Value} {t : TypeId} {T : List RowM} (h : TOwn w B T) (hb : w.heap[b]? = some (.cells cs t (0, 0))) (ht : t ≠ 3) : TOwn (w.setCell ⟨b, o, none⟩ u) B T := fun p hp => own_set (h p hp) (own_ne (h p hp) hb (fun e => ht e.symm))
theorem TOwn.rd {w : World} {B : Nat} {T : List RowM} (h : TOwn w B T) : ∀ p ∈ T, Sl w p.1 p.2.1 (nums p.2.2) := fun p hp => own_sl (h p hp) (nums_one _)
theorem rowV_one (T : List RowM) : ∀ u ∈ T.map rowV, u.oneCell' = true := fun u hu => by
  obtain ⟨p, _, rfl⟩ := List.mem_map.1 hu; rfl

/-- Rows that are told: in new memory. -/
def RPost (L : List (List Int)) (w : World) (e : Ending) (w' : World) : Prop :=
  ∃ a c T, T.map (fun p : RowM => p.2.2) = L ∧ e = .returned (.slice a T.length c) ∧ w'.ownsRow w.heap.size 22 1 (.slice a T.length c) T.length (T.map rowV) ∧ TOwn w' w.heap.size T ∧ Below w.heap.size w w'

theorem info_rows : (Try.prog.info? 22).map (fun i => (i.zero, i.size, i.bytes)) = some (some (.slice none 0 0), 1, 24) := by kernel_rfl

set_option maxRecDepth 100000 in
theorem clone_of {w : World} {a : Option Addr} {c : Nat} (l : List Int) (H : Sl w a c (nums l)) (h0 : 0 < l.length) (hn : l.length ≤ 1000000) : Calls Try.prog 25 #[.slice a l.length c] w (NPost l w) := by
  obtain ⟨i0, hi0, hz0, hz1, hz2⟩ := info_parts info_int
  obtain ⟨g, o, rfl⟩ := H.numsome h0
  obtain ⟨n, hnn⟩ : ∃ n, l.length = n := ⟨_, rfl⟩
  have HN := Lib.hid hnn
  have HS := Lib.hid H
  rw [hnn] at hn h0 ⊢
  clear hnn H
  have hq : ∀ w' : World, (binOp .eql 22 (.slice (some ⟨g, o, none⟩) n c) (.slice none 0 0)).run Try.prog w' = .ok (.bool false) w' := fun w' => Lib.run_eql_slice_nil w' _ _ (some ⟨g, o, none⟩) n c 0 0 Try.underlying22
  have hal := t_al w (.cells #[] 3)
  have HO : Hid ((w.alloc (.cells #[] 3)).ownsRow w.heap.size 3 1 (.slice (some ⟨w.heap.size, 0, none⟩) 0 0) 0 []) := Lib.hid (t_empty 1 (Nat.le_refl _) (heap_alloc_new _ _))
  have HS1 := Lib.hid (HS.out.below hal)
  have HAL := Lib.hid hal
  have C1 : Hid (∀ q u, (nums l)[q]? = some u → (w.alloc (.cells #[] 3)).cell? (Addr.add ⟨g, o, none⟩ q) = some u) := Lib.hid (fun q u hqu => by
    obtain ⟨g', o', e, hg, hc⟩ := HS1.out.rd.2 (by rw [nums_len, HN.out]; exact h0)
    cases e
    rw [Addr.add_lit]; exact hc q u hqu)
  have C0 : Hid ((nums l).length = n * 1) := Lib.hid (by rw [nums_len, HN.out]; omega)
  have C2 := Lib.hid (nums_one l)
  have C3 : Hid (0 + n ≤ maxLen) := by show _ ≤ _; unfold maxLen; omega
  have C4 : Hid ((0 + n) * 8 ≤ 140737488355328) := by show _ ≤ _; omega
  have C5 : Hid (w.heap.size ≤ (w.alloc (.cells #[] 3)).heap.size) := Lib.hid hal.size
  clear hal
  go_enter Try.func25, Try.ntmps25
  go_wp2_with (first
    | (at_builtin; refine wpList_append_own _ rfl (.tmp 5) (.tmp 6) 22 rfl w.heap.size 3 i0 (.int .i64 0) 1 8 Try.underlying22 hi0 hz0 hz1 hz2 rfl (by decide) (.slice (some ⟨w.heap.size, 0, none⟩) 0 0) 0 [] rfl HO.out ⟨g, o, none⟩ n c (nums l) rfl C0.out C1.out C2.out C3.out C4.out C5.out ?_)
    | fail)
  intro vN wB hoN hgN _
  obtain ⟨aN, cN, rfl⟩ := own_slice hoN
  have HB := Lib.hid (HAL.out.grown hgN C5.out (fun q hq => (HO.out.lt q hq).1))
  have HOB := Lib.hid hoN
  clear hoN hgN
  go_wp2_with fail
  go_ret
  refine ⟨aN, cN, ?_, ?_, HB.out⟩
  · rw [HN.out]; first | rfl | simp
  · rw [HN.out]; exact HOB.out

end Go.Proofs.Ytlglenbgaalhiaa
