/-
  Packs of keys; Push, at this seat's numbers.
-/
import Derived.Test.YtdkgnmomkimpoaaFeB
namespace Go.Proofs.Ytdkgnmomkimpoaa
open Go Go.RowKit
set_option linter.unusedVariables false

theorem close_ch {w : World} {b k s r : Nat} {buf : Array Value} (ats : Array TypeId) (ty : TypeId) (h : w.heap[b]? = some (.chan k buf false s r false)) :
    (Builtin.close_ ats ty #[.chan (some b)]).run Try.prog w = .ok (.tuple #[]) (w.setChan b k buf true s r false) := run_close_open (P := Try.prog) (w := w) ats ty h

/-- What the loop of packed keeps: the channel holds the first i keys. -/
structure PkS (w0 w : World) (b : Nat) (l : List Int) (i : Nat) : Prop where
  ch : ∃ s r, w.heap[b]? = some (.chan l.length (nums (l.take i)).toArray false s r false)
  low : Below w0.heap.size w0 w
  sz : w.heap.size = w0.heap.size + 1
theorem PkS.more {w0 w : World} {b i : Nat} {l : List Int} (h : PkS w0 w b l i) (hi : i < l.length) (hb : b = w0.heap.size) {s r : Nat} :
    PkS w0 (w.setChan b l.length (nums (l.take i) ++ [Value.int .i64 l[i]]).toArray false (s + 1) r false) b l (i + 1) := by
  obtain ⟨_, _, hc⟩ := h.ch
  refine ⟨⟨s + 1, r, ?_⟩, Conc.below_setChan h.low (Nat.le_of_eq hb.symm) _ _ _ _ _ _, by rw [Conc.size_setChan]; exact h.sz⟩
  rw [Conc.heap_setChan _ _ _ _ _ _ _ _ (lt_of_heap hc)]
  rw [List.take_succ_eq_append_getElem hi, ← nums_app]
  rfl

/-- Keys as they lie, wherever that is. -/
structure Sq (w : World) (a : Option Addr) (k : Nat) (l : List Int) : Prop where
  at_ : ∀ j x, l[j]? = some x → ∃ a', a = some a' ∧ w.cell? (a'.add j) = some (.int .i64 x) ∧ (a'.add j).block < w.heap.size
  cap : l.length ≤ k
  capm : k ≤ maxLen
theorem Sl.sq {w : World} {a : Option Addr} {k : Nat} {l : List Int} (h : Sl w a k (nums l)) : Sq w a k l := by
  refine ⟨fun j x hx => ?_, by have := h.cap; rwa [nums_len] at this, h.capm⟩
  obtain ⟨g, o, rfl⟩ := h.numsome (by have := (List.getElem?_eq_some_iff.1 hx).1; omega)
  obtain ⟨h1, h2⟩ := h.num hx
  exact ⟨_, rfl, by rw [Addr.add_lit]; exact h1, by rw [Addr.add_lit]; exact h2⟩
theorem Sq.below {w w' : World} {a : Option Addr} {k : Nat} {l : List Int} (h : Sq w a k l) (hb : Below w.heap.size w w') : Sq w' a k l := by
  refine ⟨fun j x hx => ?_, h.cap, h.capm⟩
  obtain ⟨a', rfl, h1, h2⟩ := h.at_ j x hx
  exact ⟨a', rfl, by rw [hb.cell h2]; exact h1, Nat.lt_of_lt_of_le h2 hb.size⟩

set_option maxRecDepth 100000 in
set_option maxHeartbeats 4000000 in
/-- A pack of keys. -/
theorem packed_of {w : World} {a : Option Addr} {k : Nat} {l : List Int} (H : Sq w a k l) (hl : l.length ≤ 100) :
    Calls Try.prog 37 #[.slice a l.length k] w fun e w' => e = .returned (.chan (some w.heap.size)) ∧ Pk w' w.heap.size l ∧ Below w.heap.size w w' ∧ w'.heap.size = w.heap.size + 1 := by
  have hm := mkch l.length (by omega) w
  have h0 : PkS w (w.alloc (.chan l.length #[] false 0 0 false)) w.heap.size l 0 := ⟨⟨0, 0, heap_alloc_new w _⟩, t_al w _, by simp⟩
  obtain ⟨bb, hbb⟩ : ∃ b, b = w.heap.size := ⟨_, rfl⟩
  rw [← hbb] at hm h0
  rw [← hbb]
  have HS := Lib.hid H
  obtain ⟨n, hn⟩ : ∃ n, n = l.length := ⟨_, rfl⟩
  have HN := Lib.hid hn
  rw [← hn] at hm h0
  rw [← hn]
  have H0 := Lib.hid h0
  have HL := Lib.hid hl
  have HB := Lib.hid hbb
  clear H h0 hl hn hbb
  go_enter Try.func37, Try.ntmps37
  rw [halt_at 5]
  go_wp2_with fail
  go_loopw [11] (fun i wr => ∃ j : Nat, j ≤ n ∧ i = .int .i64 j ∧ PkS w wr bb l j) (fun i _ => n - (intOf i).toNat)
  case atStart => exact ⟨0, Nat.zero_le _, rfl, H0.out⟩
  case round =>
    obtain ⟨j, hj, rfl, hp⟩ := hrel
    obtain ⟨s, r, hc⟩ := hp.ch
    have HP := Lib.hid hp
    have HC := Lib.hid hc
    have h100 : n ≤ 100 := by have := HL.out; have := HN.out; omega
    by_cases hlt : j < n
    · have hjl : j < l.length := by rw [← HN.out]; exact hlt
      obtain ⟨a', rfl, hcell, _⟩ := (HS.out.below hp.low).at_ j _ (List.getElem?_eq_getElem hjl)
      have hroom : (nums (l.take j)).toArray.size < l.length := by rw [nums_size, List.length_take]; omega
      have hm := hp.more hjl HB.out (s := s) (r := r)
      have HM := Lib.hid hm
      clear hp hc hm
      go_wp2_with fail
      refine wp_halt (wp_region_cut 5 2 (by simp) ?_)
      simp only [List.take]
      go_wp2_with fail
      refine comm_at (cases := #[Conc.scase bb (.int .i64 l[j]) (.tuple #[])]) (blocking := true) (shape := .send) rfl rfl ?_ (fun fr cs es h => Conc.step_lone_send_room h HC.out hroom) ?_
      · simp [go_sem, execOp, Conc.scase, Act.eval]
      go_wp2_with fail
      go_roundw
      case rel =>
        refine ⟨j + 1, by omega, int_eq (by omega), ?_⟩
        have := HM.out
        simpa using this
      case measure => simp [intOf]; omega
    · have ej : j = l.length := by rw [← HN.out]; omega
      subst ej
      rw [List.take_length] at hc
      have hcl := close_ch #[65] 0 hc
      have HBl : Hid (Below bb w (wr.setChan bb l.length (nums l).toArray true s r false)) := by rw [HB.out]; exact Conc.below_setChan hp.low (Nat.le_refl _) _ _ _ _ _ _
      have HPk : Hid (Pk (wr.setChan bb l.length (nums l).toArray true s r false) bb l) := ⟨_, _, _, Conc.heap_setChan _ _ _ _ _ _ _ _ (lt_of_heap hc)⟩
      have HSz : Hid ((wr.setChan bb l.length (nums l).toArray true s r false).heap.size = bb + 1) := by show _ = _; rw [Conc.size_setChan, HB.out]; exact hp.sz
      clear hp hc
      go_wp2_with fail
      go_ret
      exact ⟨rfl, HPk.out, HBl.out, HSz.out⟩
end Go.Proofs.Ytdkgnmomkimpoaa
