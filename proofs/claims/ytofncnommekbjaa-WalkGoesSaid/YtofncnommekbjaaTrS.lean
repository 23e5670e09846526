/-
  Contracts of layer 9, nodes of ints: join, of any heights; at this seat's numbers.
-/
import Derived.Test.YtofncnommekbjaaTrR
namespace Go.Proofs.Ytofncnommekbjaa
open Go Go.RowKit
set_option linter.unusedVariables false

/-- What join tells. -/
def JPost (lo h : Nat) (L : List Value) (w : World) (e : Ending) (w' : World) : Prop :=
  ∃ (R : List (El (h + 1))) (a : Option Addr) (c : Nat), e = .returned (.slice a R.length c) ∧ Es w' 95 (h + 1) R a c ∧ Jk lo h R L ∧ Below w.heap.size w w'

set_option maxRecDepth 100000 in
set_option maxHeartbeats 1000000 in
theorem jup_i {w : World} {h lo b b' : Nat} {D E : Int} {ts : List (El (h + 1))} {L : List Value} (H : In w 95 (h + 1) ts b) (hlo : 2 ≤ lo) (hok : Ok lo (h + 1) ts)
    (hE : 0 < E) (hD : IntKind.i64.wrap (E - 1) = D) (hf : (flatL (h + 1) ts).length + L.length ≤ 1000000)
    (IH : ∀ w' bl, Below w.heap.size w w' → In w' 95 h (nth ts (ts.length - 1)) bl → Calls Try.prog 59 #[ptr bl, ptr b', .int .i64 D] w' (JPost 3 h (flatL h (nth ts (ts.length - 1)) ++ L) w')) :
    Calls Try.prog 59 #[ptr b, ptr b', .int .i64 E] w (JPost lo (h + 1) (flatL (h + 1) ts ++ L) w) := by
  have hl := hok.len
  obtain ⟨g, o, c, hh, he⟩ := H.es (by omega)
  obtain ⟨bl, hcb, hin⟩ := he.at (x := nth ts (ts.length - 1)) (nth_at (by omega))
  obtain ⟨n, hn⟩ : ∃ n, ts.length = n := ⟨_, rfl⟩
  have hcap := he.cap
  have c0 : w.cell? ⟨b, 0, none⟩ = some (.slice (some ⟨g, o, none⟩) n c) := by rw [cell_at hh, ← hn]; rfl
  have hbl := H.lt
  have hgl : g < w.heap.size := by
    obtain ⟨g', o', e', hg⟩ := (he.has (by omega))
    cases e'; exact hg
  have IH' := Lib.hid (fun w' (hb : Below w.heap.size w w') => IH w' bl hb (hin.below hb))
  have HCt : Hid (∀ w5 (R : List (El (h + 1))) a5 c5, Below w.heap.size w w5 → Es w5 95 (h + 1) R a5 c5 → R.length ≤ 2 →
      Calls Try.prog 81 #[.slice (some ⟨w5.heap.size, 0, none⟩) 2 2] (w5.alloc (Obj.cells #[.slice (some ⟨g, o, none⟩) (n - 1) c, .slice a5 R.length c5] 80)) fun e w6 => ∃ a c', e = .returned (.slice a (n - 1 + R.length) c') ∧ Es w6 95 (h + 1) (ts.take (n - 1) ++ R) a c' ∧ Below w5.heap.size w5 w6) := by
    refine Lib.hid (fun w5 R a5 c5 hb h5 hR => ?_)
    exact etwo_ni (T := 95) (n1 := n - 1) rfl ((he.below hb).take (n - 1)) h5 (by rw [List.length_take]; omega) rfl rfl (by omega)
  have HPk : Hid (∀ w6 (R : List (El (h + 1))) a6 c6, Es w6 95 (h + 1) (ts.take (n - 1) ++ R) a6 c6 → Jk 3 h R (flatL h (nth ts (ts.length - 1)) ++ L) →
      Calls Try.prog 74 #[.func (.func 75) #[] #[], .slice a6 (n - 1 + R.length) c6] w6 (JPost lo (h + 1) (flatL (h + 1) ts ++ L) w6)) := by
    refine Lib.hid (fun w6 R a6 c6 h6 hR => ?_)
    have hj := jk_up (by omega) hok hR
    have hfl := hj.2.2.1
    have hxl : (ts.take (n - 1) ++ R).length = n - 1 + R.length := by rw [List.length_append, List.length_take]; omega
    rw [hn] at hj hfl
    have hfx : flatL (h + 1) (ts.take (n - 1) ++ R) = flatL (h + 1) ts ++ L := by rw [← hfl, flatL_pts]
    have hR2 := hR.2.1
    refine (pack_ni h6 hxl (by omega) (by rw [hfx, List.length_append]; exact hf)).mono ?_
    rintro e w7 ⟨a7, c7, rfl, h7, hb7⟩
    refine ⟨pts (ts.take (n - 1) ++ R), a7, c7, ?_, h7, hj, hb7⟩
    rw [pts_len, hxl]
  have e0 : (0 : Int) ≤ (n : Int) - 1 := by omega
  have e1 : (n : Int) - 1 < (n : Int) := by omega
  have e2 : (n : Int) - 1 ≤ (n : Int) := by omega
  have hwn : IntKind.i64.wrap ((n : Int) - 1) = ((n - 1 : Nat) : Int) := by rw [IntKind.wrap_i64]; omega
  have dE : decide (0 < E) = true := decide_eq_true hE
  have f0 : (0 : Int) ≤ ((n - 1 : Nat) : Int) := by omega
  have f1 : ((n - 1 : Nat) : Int) < (n : Int) := by omega
  have f2 : n - 1 ≤ c := by omega
  have f3 : n - 1 < n := by omega
  rw [hn] at hcb
  have HOK := Lib.hid hok
  obtain ⟨q, hq⟩ : ∃ q, n - 1 = q := ⟨_, rfl⟩
  rw [hq] at hcb HCt HPk hwn f0 f1 f2 f3
  clear H hh he hin IH hf hok hl hcap
  go_enter Try.func59, Try.ntmps59
  go_upto_region 3 with fail
  have ld0 := fun w' (h : Below w.heap.size w w') => (h.cell (p := ⟨b, 0, none⟩) hbl).trans c0
  have ld1 := fun w' (h : Below w.heap.size w w') => (h.cell (p := ⟨g, o + q, none⟩) hgl).trans hcb
  have hb0 : Below w.heap.size w w.drew := (Below.refl _ _).drew
  clear c0 hcb
  go_region_held_law (fun w' => Below w.heap.size w w')
    (first | assumption | exact Below.alloc (by assumption) (Below.size (by assumption)) _)
    ((first
      | (go_at_call 59; refine (IH'.out _ hb0).mono ?_; rintro e w5 ⟨R5, a5, c5, rfl, he5, hj5, hb5⟩; have hs5 := hb0.trans (hb5.mono hb0.size); have HE5 := Lib.hid he5; have HJ5 := Lib.hid hj5; clear hb5 he5 hj5)
      | (go_at_call 81; refine (HCt.out w5 R5 a5 c5 hs5 HE5.out HJ5.out.2.1).mono ?_; rintro e w6 ⟨a6, c6, rfl, he6, hb6⟩; have hs6 := hs5.trans (hb6.mono hs5.size); have HE6 := Lib.hid he6; clear hb6 he6)
      | (go_at_call 74; refine (HPk.out w6 R5 a6 c6 HE6.out HJ5.out).mono ?_; rintro e w7 ⟨R7, a7, c7, rfl, he7, hj7, hb7⟩; have hs7 := hs6.trans (hb7.mono hs6.size); have HE7 := Lib.hid he7; have HJ7 := Lib.hid hj7; clear hb7 he7 hj7)))
  all_goals
    have HS7 := Lib.hid hs7
    clear ld0 ld1 hs7 hs6 hs5 hb0
    go_wp2_with fail
    go_ret
    exact ⟨R7, a7, c7, rfl, HE7.out, HJ7.out, HS7.out⟩

set_option maxRecDepth 100000 in
set_option maxHeartbeats 1000000 in
theorem jdn_i {w : World} {h lo b b' : Nat} {D E : Int} {ts : List (El (h + 1))} {L : List Value} (H : In w 95 (h + 1) ts b') (hlo : 2 ≤ lo) (hok : Ok lo (h + 1) ts)
    (hE : E < 0) (hD : IntKind.i64.wrap (E + 1) = D) (hf : (flatL (h + 1) ts).length + L.length ≤ 1000000)
    (IH : ∀ w' bl, Below w.heap.size w w' → In w' 95 h (nth ts 0) bl → Calls Try.prog 59 #[ptr b, ptr bl, .int .i64 D] w' (JPost 3 h (L ++ flatL h (nth ts 0)) w')) :
    Calls Try.prog 59 #[ptr b, ptr b', .int .i64 E] w (JPost lo (h + 1) (L ++ flatL (h + 1) ts) w) := by
  have hl := hok.len
  obtain ⟨g, o, c, hh, he⟩ := H.es (by omega)
  obtain ⟨bl, hcb, hin⟩ := he.at (x := nth ts 0) (nth_at (by omega))
  rw [Nat.add_zero] at hcb
  obtain ⟨n, hn⟩ : ∃ n, ts.length = n := ⟨_, rfl⟩
  have hcap := he.cap
  have c0 : w.cell? ⟨b', 0, none⟩ = some (.slice (some ⟨g, o, none⟩) n c) := by rw [cell_at hh, ← hn]; rfl
  have hbl := H.lt
  have hgl : g < w.heap.size := by
    obtain ⟨g', o', e', hg⟩ := (he.has (by omega))
    cases e'; exact hg
  have IH' := Lib.hid (fun w' (hb : Below w.heap.size w w') => IH w' bl hb (hin.below hb))
  have HCt : Hid (∀ w5 (R : List (El (h + 1))) a5 c5, Below w.heap.size w w5 → Es w5 95 (h + 1) R a5 c5 → R.length ≤ 2 →
      Calls Try.prog 81 #[.slice (some ⟨w5.heap.size, 0, none⟩) 2 2] (w5.alloc (Obj.cells #[.slice a5 R.length c5, .slice (some ⟨g, o + 1, none⟩) (n - 1) (c - 1)] 80)) fun e w6 => ∃ a c', e = .returned (.slice a (R.length + (n - 1)) c') ∧ Es w6 95 (h + 1) (R ++ ts.drop 1) a c' ∧ Below w5.heap.size w5 w6) := by
    refine Lib.hid (fun w5 R a5 c5 hb h5 hR => ?_)
    exact etwo_ni (T := 95) (n2 := n - 1) rfl h5 ((he.below hb).drop (i := 1) (by omega) ⟨g, o + 1, none⟩ (fun _ => rfl) ⟨g, o + 1, rfl⟩) rfl (by rw [List.length_drop]; omega) rfl (by omega)
  have HPk : Hid (∀ w6 (R : List (El (h + 1))) a6 c6, Es w6 95 (h + 1) (R ++ ts.drop 1) a6 c6 → Jk 3 h R (L ++ flatL h (nth ts 0)) →
      Calls Try.prog 74 #[.func (.func 75) #[] #[], .slice a6 (R.length + (n - 1)) c6] w6 (JPost lo (h + 1) (L ++ flatL (h + 1) ts) w6)) := by
    refine Lib.hid (fun w6 R a6 c6 h6 hR => ?_)
    have hj := jk_dn (by omega) hok hR
    have hfl := hj.2.2.1
    have hxl : (R ++ ts.drop 1).length = R.length + (n - 1) := by rw [List.length_append, List.length_drop]; omega
    have hfx : flatL (h + 1) (R ++ ts.drop 1) = L ++ flatL (h + 1) ts := by rw [← hfl, flatL_pts]
    have hR2 := hR.2.1
    refine (pack_ni h6 hxl (by omega) (by rw [hfx, List.length_append]; omega)).mono ?_
    rintro e w7 ⟨a7, c7, rfl, h7, hb7⟩
    refine ⟨pts (R ++ ts.drop 1), a7, c7, ?_, h7, hj, hb7⟩
    rw [pts_len, hxl]
  have e1 : (0 : Int) < (n : Int) := by omega
  have e2 : (1 : Int) ≤ (n : Int) := by omega
  have dE0 : decide (0 < E) = false := decide_eq_false (by omega)
  have dE : decide (E < 0) = true := decide_eq_true hE
  have f2 : 1 ≤ c := by omega
  have f3 : ¬ (1 = c) := by omega
  have f4 : ¬ (c = 1) := by omega
  have f5 : 1 ≤ n := by omega
  have f6 : n ≤ c := by omega
  have HOK := Lib.hid hok
  clear H hh he hin IH hf hok hl hcap hn
  go_enter Try.func59, Try.ntmps59
  go_upto_region 5 with fail
  have ld0 := fun w' (h : Below w.heap.size w w') => (h.cell (p := ⟨b', 0, none⟩) hbl).trans c0
  have ld1 := fun w' (h : Below w.heap.size w w') => (h.cell (p := ⟨g, o, none⟩) hgl).trans hcb
  have hb0 : Below w.heap.size w w.drew := (Below.refl _ _).drew
  clear c0 hcb
  go_region_held_law (fun w' => Below w.heap.size w w')
    (first | assumption | exact Below.alloc (by assumption) (Below.size (by assumption)) _)
    ((first
      | (go_at_call 59; refine (IH'.out _ hb0).mono ?_; rintro e w5 ⟨R5, a5, c5, rfl, he5, hj5, hb5⟩; have hs5 := hb0.trans (hb5.mono hb0.size); have HE5 := Lib.hid he5; have HJ5 := Lib.hid hj5; clear hb5 he5 hj5)
      | (go_at_call 81; refine (HCt.out w5 R5 a5 c5 hs5 HE5.out HJ5.out.2.1).mono ?_; rintro e w6 ⟨a6, c6, rfl, he6, hb6⟩; have hs6 := hs5.trans (hb6.mono hs5.size); have HE6 := Lib.hid he6; clear hb6 he6)
      | (go_at_call 74; refine (HPk.out w6 R5 a6 c6 HE6.out HJ5.out).mono ?_; rintro e w7 ⟨R7, a7, c7, rfl, he7, hj7, hb7⟩; have hs7 := hs6.trans (hb7.mono hs6.size); have HE7 := Lib.hid he7; have HJ7 := Lib.hid hj7; clear hb7 he7 hj7)))
  all_goals
    have HS7 := Lib.hid hs7
    clear ld0 ld1 hs7 hs6 hs5 hb0
    go_wp2_with fail
    go_ret
    exact ⟨R7, a7, c7, rfl, HE7.out, HJ7.out, HS7.out⟩

theorem jup0_i {w : World} {h lo lo' b b' : Nat} {ts ss : List (El h)} (H : In w 95 h ts b) (H' : In w 95 h ss b') (hlo : 1 ≤ lo) (hlo' : 1 ≤ lo') (hok : Ok lo h ts) (hok' : Ok lo' h ss) (hf : (flatL h ts).length + (flatL h ss).length ≤ 1000000) :
    Calls Try.prog 59 #[ptr b, ptr b', .int .i64 0] w fun e w' => ∃ (R : List (El (h + 1))) (a : Option Addr) (c : Nat), e = .returned (.slice a R.length c) ∧ Es w' 95 (h + 1) R a c ∧ Jk lo h R (flatL h ts ++ flatL h ss) ∧ Jk lo' h R (flatL h ts ++ flatL h ss) ∧ Below w.heap.size w w' := by
  have h1 := hok.len
  have h2 := hok'.len
  refine (join0_i H H' (by omega) (by omega) (by omega) (by rw [flatL_app, List.length_append]; exact hf)).mono ?_
  rintro e w' ⟨a, c, rfl, he, hb⟩
  exact ⟨pts (ts ++ ss), a, c, by rw [pts_len], he, jk_base hlo hok hok', jk_swap hlo' hok hok', hb⟩
theorem joinup_i {h lo' b' : Nat} {ss : List (El h)} (hlo' : 1 ≤ lo') (hok' : Ok lo' h ss) : ∀ (d : Nat) {w : World} {lo b : Nat} {ts : List (El (h + d))}, d < 1000000 → In w 95 (h + d) ts b → In w 95 h ss b' → 1 ≤ lo → (h + d = 0 ∨ 2 ≤ lo) → Ok lo (h + d) ts → (flatL (h + d) ts).length + (flatL h ss).length ≤ 1000000 →
    Calls Try.prog 59 #[ptr b, ptr b', .int .i64 d] w (JPost lo (h + d) (flatL (h + d) ts ++ flatL h ss) w)
  | 0, w, lo, b, ts, _, H, H', hlo, _, hok, hf => by
    refine (jup0_i H H' hlo hlo' hok hok' hf).mono ?_
    rintro e w' ⟨R, a, c, rfl, he, hj, _, hb⟩
    exact ⟨R, a, c, rfl, he, hj, hb⟩
  | d + 1, w, lo, b, ts, hd, H, H', hlo, hlo2, hok, hf => by
    have hl := hok.len
    have hlo3 : 2 ≤ lo := by rcases hlo2 with h | h <;> omega
    refine jup_i (h := h + d) (D := (d : Int)) (E := ((d + 1 : Nat) : Int)) H hlo3 hok (by omega) (by rw [IntKind.wrap_i64]; omega) hf (fun w' bl hb hin => ?_)
    have hfk := nth_flat (h := h + d) (ks := ts) (k := ts.length - 1) (by omega)
    exact joinup_i hlo' hok' d (by omega) hin (H'.below hb) (by omega) (.inr (by omega)) (hok.kid (by omega)) (Nat.le_trans (Nat.add_le_add_right hfk _) hf)
theorem joindn_i {h lo b : Nat} {ss : List (El h)} (hlo : 1 ≤ lo) (hok : Ok lo h ss) : ∀ (d : Nat) {w : World} {lo' b' : Nat} {ts : List (El (h + d))}, d < 1000000 → In w 95 (h + d) ts b' → In w 95 h ss b → 1 ≤ lo' → (h + d = 0 ∨ 2 ≤ lo') → Ok lo' (h + d) ts → (flatL (h + d) ts).length + (flatL h ss).length ≤ 1000000 →
    Calls Try.prog 59 #[ptr b, ptr b', .int .i64 (-(d : Int))] w (JPost lo' (h + d) (flatL h ss ++ flatL (h + d) ts) w)
  | 0, w, lo', b', ts, _, H, H', hlo', _, hok', hf => by
    refine (jup0_i H' H hlo hlo' hok hok' (by rw [Nat.add_comm]; exact hf)).mono ?_
    rintro e w' ⟨R, a, c, rfl, he, _, hj, hb⟩
    exact ⟨R, a, c, rfl, he, hj, hb⟩
  | d + 1, w, lo', b', ts, hd, H, H', hlo', hlo2, hok', hf => by
    have hl := hok'.len
    have hlo3 : 2 ≤ lo' := by rcases hlo2 with h | h <;> omega
    refine jdn_i (h := h + d) (D := -(d : Int)) (E := -((d + 1 : Nat) : Int)) H hlo3 hok' (by omega) (by rw [IntKind.wrap_i64]; omega) hf (fun w' bl hb hin => ?_)
    have hfk := nth_flat (h := h + d) (ks := ts) (k := 0) (by omega)
    exact joindn_i hlo hok d (by omega) hin (H'.below hb) (by omega) (.inr (by omega)) (hok'.kid (by omega)) (Nat.le_trans (Nat.add_le_add_right hfk _) hf)

end Go.Proofs.Ytofncnommekbjaa
