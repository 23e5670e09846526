/-
  One call of both feeds, at this seat's numbers.
-/
import Derived.Test.YtdkgnmomkimpoaaFeT
namespace Go.Proofs.Ytdkgnmomkimpoaa
open Go Go.RowKit
set_option linter.unusedVariables false

theorem Sq.take {w : World} {a : Option Addr} {c : Nat} {l : List Int} (h : Sq w a c l) (n : Nat) : Sq w a c (l.take n) := by
  refine ⟨fun j x hx => h.at_ j x ?_, by have := h.cap; rw [List.length_take]; omega, h.capm⟩
  rw [List.getElem?_take] at hx
  split at hx
  · exact hx
  · cases hx

/-- Both feeds have S. -/
structure FR (w0 w : World) (f r room : Nat) (tv pv : Value) (S : Fs) (Q : List RwF) : Prop where
  fd : FdS w w0.heap.size f room S
  rf : Rf w0 w w0.heap.size r room tv pv S Q
  sm : ∀ l ∈ S.ps, l.length ≤ 100
  ty : S.ty.length ≤ room ∧ room ≤ 1000
  low : Below w0.heap.size w0 w
/-- Both feeds, and what they have. -/
def FRx (w0 w : World) (f r room : Nat) : Prop := ∃ tv pv S Q, FR w0 w f r room tv pv S Q
abbrev opV (kd x n : Int) (a : Option Addr) (k : Nat) (m : Nat) : Value := .agg #[.int .i64 kd, .int .i64 x, .int .i64 n, .slice a m k]
abbrev opB (kd x n : Int) (a : Option Addr) (k : Nat) (m : Nat) : Obj := .cells #[.int .i64 kd, .int .i64 x, .int .i64 n, .slice a m k] 29

section
variable {w0 w : World} {f r room : Nat} {tv pv : Value} {S : Fs} {Q : List RwF}
theorem FR.few (H : FR w0 w f r room tv pv S Q) : S.ps.length ≤ 8 ∧ S.fu ≤ 200 := by
  obtain ⟨_, _, _, _, _, _, h, h'⟩ := H.fd; exact ⟨h, h'⟩
theorem FR.below {w' : World} (H : FR w0 w f r room tv pv S Q) (hb : Below w.heap.size w w') : FR w0 w' f r room tv pv S Q :=
  ⟨H.fd.below hb, H.rf.below hb, H.sm, H.ty, H.low.trans (hb.mono H.low.size)⟩
theorem FR.next (H : FR w0 w f r room tv pv S Q) {w1 w2 : World} {tv' pv' : Value} {S' : Fs} {Q' : List RwF} (h1 : FdS w1 w0.heap.size f room S') (m1 : FMv w0.heap.size w w1) (h2 : Rf w0 w2 w0.heap.size r room tv' pv' S' Q') (m2 : RMv w0.heap.size w1 w2)
    (hs : ∀ l ∈ S'.ps, l.length ≤ 100) (ht : S'.ty.length ≤ room) : FR w0 w2 f r room tv' pv' S' Q' :=
  ⟨h1.rmv m2, h2, hs, ⟨ht, H.ty.2⟩, H.low.trans (m1.low.trans m2.low)⟩

set_option maxRecDepth 100000 in
set_option maxHeartbeats 8000000 in
theorem step_type (H : FR w0 w f r room tv pv S Q) (x n : Int) (a : Option Addr) (k m : Nat) {kd : Int} (hk : kd = 0 ∨ kd = 1) :
    Calls Try.prog 12 #[pbox f, pbox r, opV kd x n a k m] w fun e w' => e = .returned (.bool true) ∧ FRx w0 w' f r room := by
  have al := t_al w (opB kd x n a k m)
  have H1 := H.below al
  have hd : (w.alloc (opB kd x n a k m)).drew.heap[w.heap.size]? = some (opB kd x n a k m) := heap_alloc_new w _
  have H2 : FR w0 (w.alloc (opB kd x n a k m)).drew f r room tv pv S Q := H1.below (Below.refl _ _).drew
  have HT := Lib.hid (ftype H2.fd x)
  have HR : Hid (∀ w3 : World, FMv w0.heap.size (w.alloc (opB kd x n a k m)).drew w3 → w3.cell? ⟨w.heap.size, 1, none⟩ = some (.int .i64 x) ∧ Calls Try.prog 31 #[pbox r, .int .i64 x] w3 fun e w' => e = .returned (.bool (decide (S.ty.length < room))) ∧ ∃ tv', Rf w0 w' w0.heap.size r room tv' pv ⟨if S.ty.length < room then S.ty ++ [x] else S.ty, S.ps, S.fu⟩ Q ∧ RMv w0.heap.size w3 w') := fun w3 hm =>
    ⟨by rw [cell_at ((hm.oth _ _ _ _ hd (by decide) (by decide) (by decide)).trans hd)]; rfl, rtype (H2.rf.fmv hm) (by have := H2.ty; omega) x (Nat.le_trans H2.low.size hm.low.size)⟩
  have HF : Hid (∀ (w3 w4 : World) tv', FdS w3 w0.heap.size f room ⟨if S.ty.length < room then S.ty ++ [x] else S.ty, S.ps, S.fu⟩ → FMv w0.heap.size (w.alloc (opB kd x n a k m)).drew w3 → Rf w0 w4 w0.heap.size r room tv' pv ⟨if S.ty.length < room then S.ty ++ [x] else S.ty, S.ps, S.fu⟩ Q → RMv w0.heap.size w3 w4 → FRx w0 w4 f r room) := fun w3 w4 tv' h1 m1 h2 m2 =>
    ⟨_, _, _, _, H2.next h1 m1 h2 m2 H2.sm (by
      have := H2.ty.1
      show (if S.ty.length < room then S.ty ++ [x] else S.ty).length ≤ room
      split
      · rw [List.length_append]; simp; omega
      · exact this)⟩
  generalize (if S.ty.length < room then S.ty ++ [x] else S.ty) = ty' at *
  generalize decide (S.ty.length < room) = bb at *
  clear H H1 H2 hd al
  rcases hk with rfl | rfl
  all_goals
    go_enter Try.func12, Try.ntmps12
    go_wp2_with fail
    go_region_with (first
      | (go_at_call 17
         refine HT.out.mono ?_
         rintro e w3 ⟨rfl, F3, m3⟩
         obtain ⟨c3, HR3⟩ := HR.out w3 m3
         have HR3 := Lib.hid HR3
         have HF3 := Lib.hid (HF.out w3 · · F3 m3)
         clear F3 m3)
      | (go_at_call 31
         refine HR3.out.mono ?_
         rintro e w4 ⟨rfl, tv', R4, m4⟩
         have HF4 := Lib.hid (HF3.out w4 tv' R4 m4)
         clear R4 m4))
    all_goals
      go_wp2_with fail
      go_ret
      exact ⟨rfl, HF4.out⟩
end
end Go.Proofs.Ytdkgnmomkimpoaa
