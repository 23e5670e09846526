/-
  The contracts of num.Text, of cut, and of the chapter's example (awake) of layer 2, at this seat's numbers.
-/
import Derived.Test.YtbankegfmamoiaaDoorNumC
namespace Go.Proofs.YtbankegfmamoiaaDoor
open Go Go.RowKit
set_option linter.unusedVariables false

/-- Go's table of the powers of ten lies as the library's text lays it. -/
def Tens (w : World) : Prop := Lib.TabIs Tryd.prog w "internal/strconv.uint64pow10" .u64 Lib.pow10Tab

def TextPost (n : Int) (w : World) (e : Ending) (w' : World) : Prop := e = .returned (.string ⟨(Lib.itoa n).toArray⟩) ∧ Below w.heap.size w w'

theorem itoa_of (n : Int) (h0 : -9223372036854775808 ≤ n) (h1 : n ≤ 9223372036854775807) (w : World) (ht : Tens w) :
    Calls Tryd.prog 54 #[.int .i64 n] w (TextPost n w) := by
  refine (Tryd.strconv_Itoa n h0 h1 w ht).mono ?_
  rintro e w' ⟨rfl, k, os, rfl⟩
  refine ⟨rfl, ?_⟩
  exact ⟨rfl, rfl, rfl, by simp [Sort.grow], fun i hi => by simp only [Sort.grow]; rw [Array.getElem?_append_left (by exact hi)]; rfl⟩

theorem text_of (n : Int) (h0 : -9223372036854775808 ≤ n) (h1 : n ≤ 9223372036854775807) (w : World) (ht : Tens w) :
    Calls Tryd.prog 35 #[.int .i64 n] w (TextPost n w) := by
  have H := Lib.hid (itoa_of n h0 h1 w ht)
  clear ht
  go_enter Tryd.func35, Tryd.ntmps35
  go_wp2_with fail
  refine H.out.mono ?_
  rintro e w1 ⟨rfl, hb⟩
  go_wp2_with fail
  go_ret
  exact ⟨rfl, hb⟩

theorem tens_global : Tryd.prog.globalNamed "internal/strconv.uint64pow10" = some 2 := by kernel_rfl
theorem Tens.below {w w' : World} (h : Tens w) (hb : Below w.heap.size w w') (hg : 2 < w.heap.size) : Tens w' :=
  var?_below hb tens_global hg h
theorem Tens.at {w : World} (h : Tens w) : 2 < w.heap.size := by
  unfold Tens Lib.TabIs World.var? at h
  rw [tens_global] at h
  simp only [Option.bind_some] at h
  rcases Nat.lt_or_ge 2 w.heap.size with hl | hl
  · exact hl
  · rw [Array.getElem?_eq_none hl] at h
    cases h

theorem parse_below (b off cap : Nat) (s : ByteArray) (w : World) (hs : s.size ≤ maxLen) (hcap : s.size ≤ cap) (hcm : cap ≤ maxLen) (hb : Bs w b off s) (n : Int) (ok : Bool) (hp : parse s = (n, ok)) :
    Calls Tryd.prog 33 #[.slice (some ⟨b, off, none⟩) s.size cap] w fun e w' => e = .returned (.tuple #[.int .i64 n, .bool ok]) ∧ Below w.heap.size w w' := by
  refine (parse_of b off cap s w hs hcap hcm hb).mono ?_
  rintro e w' ⟨rfl, k, rfl⟩
  rw [hp]
  exact ⟨rfl, Below.draws w k⟩
theorem compare_below (b off cap : Nat) (b' off' cap' : Nat) (s t : ByteArray) (w : World) (hs : s.size ≤ maxLen) (ht : t.size ≤ maxLen) (hcap : s.size ≤ cap) (hcm : cap ≤ maxLen) (hcap' : t.size ≤ cap') (hcm' : cap' ≤ maxLen) (hb : Bs w b off s) (hb' : Bs w b' off' t) (n : Int) (hn : compare s t = n) :
    Calls Tryd.prog 39 #[.slice (some ⟨b, off, none⟩) s.size cap, .slice (some ⟨b', off', none⟩) t.size cap'] w fun e w' => e = .returned (.int .i64 n) ∧ Below w.heap.size w w' := by
  refine (compare_of b off cap b' off' cap' s t w hs ht hcap hcm hcap' hcm' hb hb').mono ?_
  rintro e w' ⟨rfl, k, rfl⟩
  rw [hn]
  exact ⟨rfl, Below.draws w k⟩

theorem ex_parse : parse ⟨#[45, 48, 52, 50]⟩ = (-42, true) := by decide +kernel
theorem ex_digits : (digNum ⟨#[49, 50, 48, 120]⟩ 100, digLen ⟨#[49, 50, 48, 120]⟩ 100) = (100, 3) := by decide +kernel
theorem ex_same : compare ⟨#[48, 48, 55]⟩ ⟨#[55]⟩ = 0 := by decide +kernel
theorem ex_ahead : compare ⟨#[49, 48]⟩ ⟨#[45]⟩ = -1 := by decide +kernel
theorem ex_text : Lib.itoa (-7) = [45, 55] := by decide +kernel

theorem awake_of (w : World) (ht : Tens w) : Calls Tryd.prog 37 #[] w fun e w' => e = .returned (.bool true) ∧ Below w.heap.size w w' := by
  have HT := Lib.hid ht
  clear ht
  have hcv := conv_at
  go_enter Tryd.func37, Tryd.ntmps37
  go_wp2_with fail
  refine (parse_below _ 0 4 ⟨#[45, 48, 52, 50]⟩ _ (by decide) (by decide) (by decide) (bs_lit _ _ _ _ _ rfl _ rfl) _ _ ex_parse).mono ?_
  rintro e w1 ⟨rfl, hb1⟩
  go_wp2_with fail
  refine (digits_of ⟨#[49, 50, 48, 120]⟩ 100 _ (by decide) (by decide) (by decide)).mono ?_
  rintro e w2 ⟨rfl, rfl⟩
  rw [show digNum ⟨#[49, 50, 48, 120]⟩ 100 = 100 from congrArg Prod.fst ex_digits, show digLen ⟨#[49, 50, 48, 120]⟩ 100 = 3 from congrArg Prod.snd ex_digits]
  have hs1 := hb1.size
  simp only [World.size_alloc] at hs1
  go_wp2_with fail
  refine (compare_below _ 0 3 _ 0 1 ⟨#[48, 48, 55]⟩ ⟨#[55]⟩ _ (by decide) (by decide) (by decide) (by decide) (by decide) (by decide) ((bs_lit _ _ _ _ _ rfl _ rfl).alloc _ (by simp)) (bs_lit _ _ _ _ _ (by simp) _ rfl) _ ex_same).mono ?_
  rintro e w3 ⟨rfl, hb3⟩
  go_wp2_with fail
  refine (compare_below _ 0 2 _ 0 1 ⟨#[49, 48]⟩ ⟨#[45]⟩ _ (by decide) (by decide) (by decide) (by decide) (by decide) (by decide) ((bs_lit _ _ _ _ _ rfl _ rfl).alloc _ (by simp)) (bs_lit _ _ _ _ _ (by simp) _ rfl) _ ex_ahead).mono ?_
  rintro e w4 ⟨rfl, hb4⟩
  go_wp2_with fail
  have hb : Below w.heap.size w w4 := by
    have a1 := (((Below.refl w.heap.size w).alloc (Nat.le_refl _) _).trans (hb1.mono (by simp)))
    have a3 := ((a1.alloc a1.size _).alloc (by simp; have := a1.size; omega) _).trans (hb3.mono (by simp; have := a1.size; omega))
    exact ((a3.alloc a3.size _).alloc (by simp; have := a3.size; omega) _).trans (hb4.mono (by simp; have := a3.size; omega))
  refine (text_of (-7) (by decide) (by decide) _ (HT.out.below hb HT.out.at)).mono ?_
  rintro e w5 ⟨rfl, hb5⟩
  rw [ex_text]
  go_wp2_with fail
  go_ret
  exact ⟨rfl, hb.trans (hb5.mono hb.size)⟩

end Go.Proofs.YtbankegfmamoiaaDoor
