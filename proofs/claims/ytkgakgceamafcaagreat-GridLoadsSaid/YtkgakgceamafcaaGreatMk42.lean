/-
  Texts of this seat, put together (a claim holds few texts): TgH, TgJ, TgK.
-/
import Derived.Test.YtkgakgceamafcaaGreatMk6

namespace Go.Proofs.YtkgakgceamafcaaGreat
open Go Go.RowKit
set_option linter.unusedVariables false

/-- Values that stand for things. -/
def EsU (w : World) (T : TypeId) (h : Nat) (ts : List (El h)) (us : List Value) : Prop := us.length = ts.length ∧ ∀ (i : Nat) (x : El h) (y : Value), ts[i]? = some x → us[i]? = some y → InE w T h x y
theorem EsU.take {w : World} {T : TypeId} {h : Nat} {ts : List (El h)} {us : List Value} (H : EsU w T h ts us) (i : Nat) : EsU w T h (ts.take i) (us.take i) := by
  refine ⟨by rw [List.length_take, List.length_take, H.1], fun j x y hx hy => ?_⟩
  rw [List.getElem?_take] at hx hy
  split at hx
  · rename_i hj; rw [if_pos hj] at hy; exact H.2 j x y hx hy
  · cases hx
theorem EsU.drop {w : World} {T : TypeId} {h : Nat} {ts : List (El h)} {us : List Value} (H : EsU w T h ts us) (i : Nat) : EsU w T h (ts.drop i) (us.drop i) := by
  refine ⟨by rw [List.length_drop, List.length_drop, H.1], fun j x y hx hy => ?_⟩
  rw [List.getElem?_drop] at hx hy
  exact H.2 _ x y hx hy
theorem EsU.app {w : World} {T : TypeId} {h : Nat} {ts ss : List (El h)} {us vs : List Value} (H : EsU w T h ts us) (K : EsU w T h ss vs) : EsU w T h (ts ++ ss) (us ++ vs) := by
  refine ⟨by rw [List.length_append, List.length_append, H.1, K.1], fun j x y hx hy => ?_⟩
  by_cases h1 : j < ts.length
  · rw [List.getElem?_append_left h1] at hx
    rw [List.getElem?_append_left (by rw [H.1]; exact h1)] at hy
    exact H.2 _ x y hx hy
  · rw [List.getElem?_append_right (by omega)] at hx
    rw [List.getElem?_append_right (by rw [H.1]; omega), H.1] at hy
    exact K.2 _ x y hx hy
theorem EsU.below {w w' : World} {T : TypeId} {h : Nat} {ts : List (El h)} {us : List Value} (H : EsU w T h ts us) (hb : Below w.heap.size w w') : EsU w' T h ts us := ⟨H.1, fun i x y hx hy => (H.2 i x y hx hy).below hb⟩
theorem EsU.repl {w : World} {T : TypeId} {h : Nat} {ts ss : List (El h)} {us vs : List Value} (H : EsU w T h ts us) (K : EsU w T h ss vs) (i j : Nat) : EsU w T h (replL ts i j ss) (us.take i ++ vs ++ us.drop j) := ((H.take i).app K).app (H.drop j)
theorem Es.one {w : World} {T E : TypeId} {h : Nat} {t : List (El h)} {b : Nat} (H : In w T h t b) : Es (w.alloc (Obj.cells #[ptr b] E)) T (h + 1) [mk1 t] (some ⟨w.heap.size, 0, none⟩) 1 := by
  have hn : Sl (w.alloc (Obj.cells #[ptr b] E)) (some ⟨w.heap.size, 0, none⟩) [ptr b].length [ptr b] := Sl.new (heap_alloc_new w (Obj.cells #[ptr b] E)) (by unfold maxLen; simp) (fun u hu => by simp at hu; subst hu; rfl)
  refine ⟨[ptr b], hn, rfl, fun i x y hx hy => ?_⟩
  have hi : i = 0 := by
    have := (List.getElem?_eq_some_iff.1 hx).1
    simp at this; omega
  subst hi
  cases hx
  cases hy
  exact (in_of H).below (t_al w _)
theorem In.es {w : World} {T : TypeId} {h : Nat} {t : List (El h)} {b : Nat} (H : In w T h t b) (hn : 0 < t.length) : ∃ g o c, w.heap[b]? = some (.cells (nodeC h (some ⟨g, o, none⟩) t.length c (flatL h t).length) T (0, 0)) ∧ Es w T h t (some ⟨g, o, none⟩) c := by
  obtain ⟨a, c, h1, _, h2⟩ := H
  obtain ⟨g, o, rfl, _⟩ := h2.has hn
  exact ⟨g, o, c, h1, h2⟩
theorem ereplI_i {w : World} {g o c n i j m : Nat} {I J : Int} {a2 : Option Addr} {c2 : Nat} {ts os : List (El 0)} (H : Es w 194 0 ts (some ⟨g, o, none⟩) c) (H2 : Es w 194 0 os a2 c2) (hn : ts.length = n) (hm : os.length = m) (hij : i ≤ j) (hj : j ≤ n) (hl : n + m ≤ 1000000) (eI : I = i) (eJ : J = j) :
    Calls Tryz.prog 179 #[.slice (some ⟨g, o, none⟩) n c, .int .i64 I, .int .i64 J, .slice a2 m c2] w fun e w' => ∃ a c', e = .returned (.slice a (i + m + (n - j)) c') ∧ Es w' 194 0 (replL ts i j os) a c' ∧ Below w.heap.size w w' := by
  subst eI eJ
  obtain ⟨us, h1, h2⟩ := H
  obtain ⟨vs, k1, k2⟩ := H2
  refine (replaced_row h1 k1 (by rw [← hn]; exact h2.1) (by rw [← hm]; exact k2.1) hij hj hl).mono ?_
  rintro e w' ⟨a, c', rfl, hs, hb⟩
  exact ⟨a, c', rfl, ⟨_, hs, (EsU.repl (w := w) h2 k2 i j).below hb⟩, hb⟩
theorem ereplN_i {w : World} {h g o c n i j m : Nat} {I J : Int} {a2 : Option Addr} {c2 : Nat} {ts os : List (El (h + 1))} (H : Es w 194 (h + 1) ts (some ⟨g, o, none⟩) c) (H2 : Es w 194 (h + 1) os a2 c2) (hn : ts.length = n) (hm : os.length = m) (hij : i ≤ j) (hj : j ≤ n) (hl : n + m ≤ 1000000) (eI : I = i) (eJ : J = j) :
    Calls Tryz.prog 180 #[.slice (some ⟨g, o, none⟩) n c, .int .i64 I, .int .i64 J, .slice a2 m c2] w fun e w' => ∃ a c', e = .returned (.slice a (i + m + (n - j)) c') ∧ Es w' 194 (h + 1) (replL ts i j os) a c' ∧ Below w.heap.size w w' := by
  subst eI eJ
  obtain ⟨us, h1, h2⟩ := H
  obtain ⟨vs, k1, k2⟩ := H2
  refine (replaced_ni h1 k1 (by rw [← hn]; exact h2.1) (by rw [← hm]; exact k2.1) hij hj hl).mono ?_
  rintro e w' ⟨a, c', rfl, hs, hb⟩
  exact ⟨a, c', rfl, ⟨_, hs, (EsU.repl (w := w) h2 k2 i j).below hb⟩, hb⟩
/-- leaf of things in memory. -/
theorem eleaf_i {w : World} {a : Option Addr} {c n : Nat} {ts : List (El 0)} (H : Es w 194 0 ts a c) (hn : ts.length = n) (hl : n ≤ 1000000) :
    Calls Tryz.prog 103 #[.slice a n c] w fun e w' => ∃ b, e = .returned (ptr b) ∧ In w' 194 0 ts b ∧ Below w.heap.size w w' := by
  have hs := H.zero
  refine (leaf_i hs hn hl).mono ?_
  rintro e w' ⟨b, rfl, hr, hb⟩
  have h1 : (flatL 0 ts).length = n := by rw [flatLen0]; exact hn
  rw [← h1] at hr
  exact ⟨b, rfl, hr.in rfl hb (fun i x y hx hy => (Option.some.inj (hx.symm.trans hy)).symm), hb⟩
theorem eabove_i {w : World} {h : Nat} {a : Option Addr} {c n : Nat} {ts : List (El (h + 1))} (H : Es w 194 (h + 1) ts a c) (hn : ts.length = n) (hl : n ≤ 1000000) (hf : (flatL (h + 1) ts).length ≤ 1000000) :
    Calls Tryz.prog 148 #[.slice a n c] w fun e w' => ∃ b, e = .returned (ptr b) ∧ In w' 194 (h + 1) ts b ∧ Below w.heap.size w w' := by
  obtain ⟨us, h1, h2, h3⟩ := H
  refine (above_i h1 h2 h3 hn hl hf).mono ?_
  rintro e w' ⟨b, rfl, hr, hb⟩
  exact ⟨b, rfl, hr.in h2 hb h3, hb⟩

end Go.Proofs.YtkgakgceamafcaaGreat

namespace Go.Proofs.YtkgakgceamafcaaGreat
open Go Go.RowKit
set_option linter.unusedVariables false

/-- Two parts as one. -/
theorem two_row {w1 : World} {z n1 n2 N : Nat} {a1 a2 : Option Addr} {c1 c2 : Nat} {xs ys : List Value} (hz : w1.heap.size = z) (h1 : S3 w1 a1 c1 xs) (h2 : S3 w1 a2 c2 ys) (e1 : xs.length = n1) (e2 : ys.length = n2) (eN : n1 + n2 = N) (hl : N ≤ 1000000) :
    Calls Tryz.prog 202 #[.slice (some ⟨z, 0, none⟩) 2 2] (w1.alloc (Obj.cells #[.slice a1 n1 c1, .slice a2 n2 c2] 98)) fun e w' => ∃ a c', e = .returned (.slice a N c') ∧ S3 w' a c' (xs ++ ys) ∧ Below w1.heap.size w1 w' := by
  subst hz e1 e2
  have hS := heap_alloc_new w1 (Obj.cells #[.slice a1 xs.length c1, .slice a2 ys.length c2] 98)
  have hb4 := t_al w1 (Obj.cells #[.slice a1 xs.length c1, .slice a2 ys.length c2] 98)
  have hs2 : (w1.alloc (Obj.cells #[.slice a1 xs.length c1, .slice a2 ys.length c2] 98)).heap.size = w1.heap.size + 1 := by simp
  generalize w1.alloc (Obj.cells #[.slice a1 xs.length c1, .slice a2 ys.length c2] 98) = w3 at *
  have hcat : catP [(a1, c1, xs), (a2, c2, ys)] = xs ++ ys := by simp [catP]
  have hlen : (xs ++ ys).length = N := by simp; omega
  have hc := concat_row (w := w3) (b := w1.heap.size) (cc := 2) (ps := [(a1, c1, xs), (a2, c2, ys)]) (by omega)
    (fun k hk => by
      simp only [List.length_cons, List.length_nil] at hk
      rcases (show k = 0 ∨ k = 1 by omega) with rfl | rfl
      · rw [cell_at hS]; simp [ptV]
      · rw [cell_at hS]; simp [ptV])
    (fun p hp => by
      simp only [List.mem_cons, List.not_mem_nil, or_false] at hp
      rcases hp with rfl | rfl
      · exact h1.below hb4
      · exact h2.below hb4)
    (by rw [hcat, hlen]; exact hl) (by simp)
  rw [hcat, hlen] at hc
  refine hc.mono ?_
  rintro e w' ⟨a, c', rfl, ho, hb⟩
  exact ⟨a, c', rfl, ho, hb4.trans (hb.mono hb4.size)⟩
theorem etwo_row {w1 : World} {T : TypeId} {z n1 n2 N : Nat} {a1 a2 : Option Addr} {c1 c2 : Nat} {ts ss : List (El 0)} (hz : w1.heap.size = z) (H1 : Es w1 T 0 ts a1 c1) (H2 : Es w1 T 0 ss a2 c2) (e1 : ts.length = n1) (e2 : ss.length = n2) (eN : n1 + n2 = N) (hl : N ≤ 1000000) :
    Calls Tryz.prog 202 #[.slice (some ⟨z, 0, none⟩) 2 2] (w1.alloc (Obj.cells #[.slice a1 n1 c1, .slice a2 n2 c2] 98)) fun e w' => ∃ a c', e = .returned (.slice a N c') ∧ Es w' T 0 (ts ++ ss) a c' ∧ Below w1.heap.size w1 w' := by
  obtain ⟨us, h1, h2⟩ := H1
  obtain ⟨vs, k1, k2⟩ := H2
  refine (two_row hz h1 k1 (by rw [← e1]; exact h2.1) (by rw [← e2]; exact k2.1) eN hl).mono ?_
  rintro e w' ⟨a, c', rfl, hs, hb⟩
  exact ⟨a, c', rfl, ⟨_, hs, (EsU.app (w := w1) h2 k2).below hb⟩, hb⟩

/-- Two parts as one. -/
theorem two_ni {w1 : World} {z n1 n2 N : Nat} {a1 a2 : Option Addr} {c1 c2 : Nat} {xs ys : List Value} (hz : w1.heap.size = z) (h1 : Sl w1 a1 c1 xs) (h2 : Sl w1 a2 c2 ys) (e1 : xs.length = n1) (e2 : ys.length = n2) (eN : n1 + n2 = N) (hl : N ≤ 1000000) :
    Calls Tryz.prog 203 #[.slice (some ⟨z, 0, none⟩) 2 2] (w1.alloc (Obj.cells #[.slice a1 n1 c1, .slice a2 n2 c2] 183)) fun e w' => ∃ a c', e = .returned (.slice a N c') ∧ Sl w' a c' (xs ++ ys) ∧ Below w1.heap.size w1 w' := by
  subst hz e1 e2
  have hS := heap_alloc_new w1 (Obj.cells #[.slice a1 xs.length c1, .slice a2 ys.length c2] 183)
  have hb4 := t_al w1 (Obj.cells #[.slice a1 xs.length c1, .slice a2 ys.length c2] 183)
  have hs2 : (w1.alloc (Obj.cells #[.slice a1 xs.length c1, .slice a2 ys.length c2] 183)).heap.size = w1.heap.size + 1 := by simp
  generalize w1.alloc (Obj.cells #[.slice a1 xs.length c1, .slice a2 ys.length c2] 183) = w3 at *
  have hcat : catP [(a1, c1, xs), (a2, c2, ys)] = xs ++ ys := by simp [catP]
  have hlen : (xs ++ ys).length = N := by simp; omega
  have hc := concat_ni (w := w3) (b := w1.heap.size) (cc := 2) (ps := [(a1, c1, xs), (a2, c2, ys)]) (by omega)
    (fun k hk => by
      simp only [List.length_cons, List.length_nil] at hk
      rcases (show k = 0 ∨ k = 1 by omega) with rfl | rfl
      · rw [cell_at hS]; simp [ptV]
      · rw [cell_at hS]; simp [ptV])
    (fun p hp => by
      simp only [List.mem_cons, List.not_mem_nil, or_false] at hp
      rcases hp with rfl | rfl
      · exact h1.below hb4
      · exact h2.below hb4)
    (by rw [hcat, hlen]; exact hl) (by simp)
  rw [hcat, hlen] at hc
  refine hc.mono ?_
  rintro e w' ⟨a, c', rfl, ho, hb⟩
  exact ⟨a, c', rfl, ho, hb4.trans (hb.mono hb4.size)⟩
theorem etwo_ni {w1 : World} {T : TypeId} {h z n1 n2 N : Nat} {a1 a2 : Option Addr} {c1 c2 : Nat} {ts ss : List (El (h + 1))} (hz : w1.heap.size = z) (H1 : Es w1 T (h + 1) ts a1 c1) (H2 : Es w1 T (h + 1) ss a2 c2) (e1 : ts.length = n1) (e2 : ss.length = n2) (eN : n1 + n2 = N) (hl : N ≤ 1000000) :
    Calls Tryz.prog 203 #[.slice (some ⟨z, 0, none⟩) 2 2] (w1.alloc (Obj.cells #[.slice a1 n1 c1, .slice a2 n2 c2] 183)) fun e w' => ∃ a c', e = .returned (.slice a N c') ∧ Es w' T (h + 1) (ts ++ ss) a c' ∧ Below w1.heap.size w1 w' := by
  obtain ⟨us, h1, h2⟩ := H1
  obtain ⟨vs, k1, k2⟩ := H2
  refine (two_ni hz h1 k1 (by rw [← e1]; exact h2.1) (by rw [← e2]; exact k2.1) eN hl).mono ?_
  rintro e w' ⟨a, c', rfl, hs, hb⟩
  exact ⟨a, c', rfl, ⟨_, hs, (EsU.app (w := w1) h2 k2).below hb⟩, hb⟩

set_option maxRecDepth 100000 in
set_option maxHeartbeats 1000000 in
theorem join0l_i {w : World}  {ts ss : List (El 0)} {b b' : Nat} (H : In w 194 0 ts b) (H' : In w 194 0 ss b') (hn1 : 1 ≤ ts.length) (hn2 : 1 ≤ ss.length) (hl : ts.length + ss.length ≤ 100) (hf : (flatL 0 (ts ++ ss)).length ≤ 1000000) :
    Calls Tryz.prog 182 #[ptr b, ptr b', .int .i64 0] w fun e w' => ∃ a' c', e = .returned (.slice a' (fewN (ts ++ ss).length) c') ∧ Es w' 194 (0 + 1) (pts (ts ++ ss)) a' c' ∧ Below w.heap.size w w' := by
  have HL := Lib.hid (isleaf_i H)
  obtain ⟨g, o, c, hh, he⟩ := H.es hn1
  obtain ⟨g', o', c', hh', he'⟩ := H'.es hn2
  obtain ⟨n, hn⟩ : ∃ n, ts.length = n := ⟨_, rfl⟩
  obtain ⟨m, hm⟩ : ∃ m, ss.length = m := ⟨_, rfl⟩
  have c0 : w.cell? ⟨b, 0, none⟩ = some (.slice none 0 0) := by rw [cell_at hh]; first | rfl | (rw [← hn]; rfl)
  have c1 : w.cell? ⟨b, 1, none⟩ = some (.slice (some ⟨g, o, none⟩) n c) := by rw [cell_at hh]; first | rfl | (rw [← hn]; rfl)
  have d0 : w.cell? ⟨b', 0, none⟩ = some (.slice none 0 0) := by rw [cell_at hh']; first | rfl | (rw [← hm]; rfl)
  have d1 : w.cell? ⟨b', 1, none⟩ = some (.slice (some ⟨g', o', none⟩) m c') := by rw [cell_at hh']; first | rfl | (rw [← hm]; rfl)
  have hnm : (ts ++ ss).length = n + m := by rw [List.length_append, hn, hm]
  have HC := Lib.hid (etwo_row (w1 := w.drew) (T := 194) rfl (he.below (Below.refl _ _).drew) (he'.below (Below.refl _ _).drew) hn hm rfl (by omega))
  have HC2 := Lib.hid (etwo_row (w1 := w) (T := 194) rfl he he' hn hm rfl (by omega))
  have HPk := Lib.hid (fun w6 a6 c6 (h6 : Es w6 194 0 (ts ++ ss) a6 c6) => pack_li h6 hnm (by omega) hf)
  have hd := (Below.refl w.heap.size w).drew
  rw [hnm]
  have HD := Lib.hid hd
  clear H H' hh hh' he he' hn hm hnm hf hd
  generalize pts (ts ++ ss) = R at *
  generalize hTS : ts ++ ss = TS at *
  clear hTS hn1 hn2
  go_enter Tryz.func182, Tryz.ntmps182
  go_wp2_with fail
  refine HL.out.mono ?_; rintro e w1 ⟨rfl, rfl⟩
  go_upto_region 7 with fail
  go_region_law (first
    | (go_simp; go_at_call 202; refine (HC.out).mono ?_; rintro e w5 ⟨a5, c5, rfl, ho5, hb5⟩; have HO5 := Lib.hid ho5; have HB5 := Lib.hid (HD.out.trans (hb5.mono HD.out.size)); clear ho5 hb5)
    | (go_simp; go_at_call 202; refine (HC2.out).mono ?_; rintro e w5 ⟨a5, c5, rfl, ho5, hb5⟩; have HO5 := Lib.hid ho5; have HB5 := Lib.hid hb5; clear ho5 hb5)
    | (go_simp; go_at_call 102; refine (HPk.out w5 a5 c5 HO5.out).mono ?_; rintro e w6 ⟨a6, c6, rfl, ho6, hb6⟩; have HO6 := Lib.hid ho6; have HB6 := Lib.hid (HB5.out.trans (hb6.mono HB5.out.size)); clear ho6 hb6))
  all_goals
    go_wp2_with fail
    go_ret
    exact ⟨a6, c6, rfl, HO6.out, HB6.out⟩

set_option maxRecDepth 100000 in
set_option maxHeartbeats 1000000 in
theorem join0n_i {w : World} {h : Nat} {ts ss : List (El (h + 1))} {b b' : Nat} (H : In w 194 (h + 1) ts b) (H' : In w 194 (h + 1) ss b') (hn1 : 1 ≤ ts.length) (hn2 : 1 ≤ ss.length) (hl : ts.length + ss.length ≤ 100) (hf : (flatL (h + 1) (ts ++ ss)).length ≤ 1000000) :
    Calls Tryz.prog 182 #[ptr b, ptr b', .int .i64 0] w fun e w' => ∃ a' c', e = .returned (.slice a' (fewN (ts ++ ss).length) c') ∧ Es w' 194 ((h + 1) + 1) (pts (ts ++ ss)) a' c' ∧ Below w.heap.size w w' := by
  have HL := Lib.hid (notleaf_i H (by omega))
  obtain ⟨g, o, c, hh, he⟩ := H.es hn1
  obtain ⟨g', o', c', hh', he'⟩ := H'.es hn2
  obtain ⟨n, hn⟩ : ∃ n, ts.length = n := ⟨_, rfl⟩
  obtain ⟨m, hm⟩ : ∃ m, ss.length = m := ⟨_, rfl⟩
  have c0 : w.cell? ⟨b, 0, none⟩ = some (.slice (some ⟨g, o, none⟩) n c) := by rw [cell_at hh]; first | rfl | (rw [← hn]; rfl)
  have c1 : w.cell? ⟨b, 1, none⟩ = some (.slice none 0 0) := by rw [cell_at hh]; first | rfl | (rw [← hn]; rfl)
  have d0 : w.cell? ⟨b', 0, none⟩ = some (.slice (some ⟨g', o', none⟩) m c') := by rw [cell_at hh']; first | rfl | (rw [← hm]; rfl)
  have d1 : w.cell? ⟨b', 1, none⟩ = some (.slice none 0 0) := by rw [cell_at hh']; first | rfl | (rw [← hm]; rfl)
  have hnm : (ts ++ ss).length = n + m := by rw [List.length_append, hn, hm]
  have HC := Lib.hid (etwo_ni (w1 := w.drew) (T := 194) rfl (he.below (Below.refl _ _).drew) (he'.below (Below.refl _ _).drew) hn hm rfl (by omega))
  have HC2 := Lib.hid (etwo_ni (w1 := w) (T := 194) rfl he he' hn hm rfl (by omega))
  have HPk := Lib.hid (fun w6 a6 c6 (h6 : Es w6 194 (h + 1) (ts ++ ss) a6 c6) => pack_ni h6 hnm (by omega) hf)
  have hd := (Below.refl w.heap.size w).drew
  rw [hnm]
  have HD := Lib.hid hd
  clear H H' hh hh' he he' hn hm hnm hf hd
  generalize pts (ts ++ ss) = R at *
  generalize hTS : ts ++ ss = TS at *
  clear hTS hn1 hn2
  go_enter Tryz.func182, Tryz.ntmps182
  go_wp2_with fail
  refine HL.out.mono ?_; rintro e w1 ⟨rfl, rfl⟩
  go_upto_region 8 with fail
  go_region_law (first
    | (go_simp; go_at_call 203; refine (HC.out).mono ?_; rintro e w5 ⟨a5, c5, rfl, ho5, hb5⟩; have HO5 := Lib.hid ho5; have HB5 := Lib.hid (HD.out.trans (hb5.mono HD.out.size)); clear ho5 hb5)
    | (go_simp; go_at_call 203; refine (HC2.out).mono ?_; rintro e w5 ⟨a5, c5, rfl, ho5, hb5⟩; have HO5 := Lib.hid ho5; have HB5 := Lib.hid hb5; clear ho5 hb5)
    | (go_simp; go_at_call 147; refine (HPk.out w5 a5 c5 HO5.out).mono ?_; rintro e w6 ⟨a6, c6, rfl, ho6, hb6⟩; have HO6 := Lib.hid ho6; have HB6 := Lib.hid (HB5.out.trans (hb6.mono HB5.out.size)); clear ho6 hb6))
  all_goals
    go_wp2_with fail
    go_ret
    exact ⟨a6, c6, rfl, HO6.out, HB6.out⟩

end Go.Proofs.YtkgakgceamafcaaGreat

namespace Go.Proofs.YtkgakgceamafcaaGreat
open Go Go.RowKit
set_option linter.unusedVariables false

theorem repl_set {α : Type} {l : List α} {k : Nat} {x : α} (hk : k < l.length) : replL l k (k + 1) [x] = l.set k x := by
  unfold replL
  rw [List.set_eq_take_append_cons_drop, if_pos hk]; simp
theorem nth_repl_at {h : Nat} {ks : List (El (h + 1))} {k : Nat} (hk : k < ks.length) (t : List (El h)) : nth (replL ks k (k + 1) [mk1 t]) k = t := by
  rw [repl_set hk]
  exact nth_some (by rw [List.getElem?_set_self (by omega)]; rfl)
theorem nth_repl_ne {h : Nat} {ks : List (El (h + 1))} {k m : Nat} (hk : k < ks.length) (hm : m ≠ k) (t : List (El h)) : nth (replL ks k (k + 1) [mk1 t]) m = nth ks m := by
  rw [repl_set hk]
  unfold nth
  rw [List.getElem?_set_ne (by omega)]
theorem repl_one_len {α : Type} {l : List α} {k : Nat} {x : α} (hk : k < l.length) : (replL l k (k + 1) [x]).length = l.length := by rw [repl_set hk, List.length_set]
theorem ok_raise {h : Nat} {t : List (El h)} (H : Ok 2 h t) (h3 : 3 ≤ t.length) : Ok 3 h t := by cases h with
  | zero => exact ⟨h3, H.2⟩
  | succ h => exact ⟨h3, H.2.1, H.2.2⟩
theorem ok_lower {lo lo' h : Nat} {t : List (El h)} (H : Ok lo h t) (h3 : lo' ≤ lo) : Ok lo' h t := by cases h with
  | zero => exact ⟨Nat.le_trans h3 H.1, H.2⟩
  | succ h => exact ⟨Nat.le_trans h3 H.1, H.2.1, H.2.2⟩
/-- Kids with another k-th one; put together with one beside it, if it is low. -/
def delK {h : Nat} (ks : List (El (h + 1))) (k : Nat) (t : List (El h)) : List (El (h + 1)) :=
  if t.length < 3 then replL (replL ks k (k + 1) [mk1 t]) (k - 1) (k - 1 + 2) (pts (nth (replL ks k (k + 1) [mk1 t]) (k - 1) ++ nth (replL ks k (k + 1) [mk1 t]) (k - 1 + 1))) else replL ks k (k + 1) [mk1 t]
theorem delT_succ {h : Nat} {ks : List (El (h + 1))} {i : Nat} (hk : (kidP (szs h ks) i).1 < ks.length) : delT (h + 1) ks i = delK ks (kidP (szs h ks) i).1 (delT h (nth ks (kidP (szs h ks) i).1) (kidP (szs h ks) i).2) := by
  have e : delT (h + 1) ks i = (if (nth (replL ks (kidP (szs h ks) i).1 ((kidP (szs h ks) i).1 + 1) [mk1 (delT h (nth ks (kidP (szs h ks) i).1) (kidP (szs h ks) i).2)]) (kidP (szs h ks) i).1).length < 3 then replL (replL ks (kidP (szs h ks) i).1 ((kidP (szs h ks) i).1 + 1) [mk1 (delT h (nth ks (kidP (szs h ks) i).1) (kidP (szs h ks) i).2)]) ((kidP (szs h ks) i).1 - 1) ((kidP (szs h ks) i).1 - 1 + 2) (pts (nth (replL ks (kidP (szs h ks) i).1 ((kidP (szs h ks) i).1 + 1) [mk1 (delT h (nth ks (kidP (szs h ks) i).1) (kidP (szs h ks) i).2)]) ((kidP (szs h ks) i).1 - 1) ++ nth (replL ks (kidP (szs h ks) i).1 ((kidP (szs h ks) i).1 + 1) [mk1 (delT h (nth ks (kidP (szs h ks) i).1) (kidP (szs h ks) i).2)]) ((kidP (szs h ks) i).1 - 1 + 1))) else replL ks (kidP (szs h ks) i).1 ((kidP (szs h ks) i).1 + 1) [mk1 (delT h (nth ks (kidP (szs h ks) i).1) (kidP (szs h ks) i).2)]) := rfl
  rw [e, nth_repl_at hk]; rfl
/-- What two beside each other have, of which one is low. -/
theorem pair_len {h : Nat} {ks : List (El (h + 1))} {k : Nat} {t : List (El h)} (hk : k < ks.length) (h2 : 2 ≤ ks.length) (hoks : Oks h ks) (ht : Ok 2 h t) (hlow : t.length < 3) :
    k - 1 + 1 < ks.length ∧ 5 ≤ (nth (replL ks k (k + 1) [mk1 t]) (k - 1)).length + (nth (replL ks k (k + 1) [mk1 t]) (k - 1 + 1)).length ∧ (nth (replL ks k (k + 1) [mk1 t]) (k - 1)).length + (nth (replL ks k (k + 1) [mk1 t]) (k - 1 + 1)).length ≤ 8 ∧ 2 ≤ (nth (replL ks k (k + 1) [mk1 t]) (k - 1)).length ∧ 2 ≤ (nth (replL ks k (k + 1) [mk1 t]) (k - 1 + 1)).length ∧ Ok 2 h (nth (replL ks k (k + 1) [mk1 t]) (k - 1)) ∧ Ok 2 h (nth (replL ks k (k + 1) [mk1 t]) (k - 1 + 1)) := by
  have ht2 := ht.len
  rcases Nat.eq_zero_or_pos k with rfl | hk0
  · have e1 : nth (replL ks 0 (0 + 1) [mk1 t]) (0 - 1) = t := nth_repl_at hk t
    have e2 : nth (replL ks 0 (0 + 1) [mk1 t]) (0 - 1 + 1) = nth ks 1 := nth_repl_ne hk (by omega) t
    have h3 := hoks 1 (by omega)
    have h4 := h3.len
    rw [e1, e2]
    exact ⟨by omega, by omega, by omega, by omega, by omega, ht, ok_lower h3 (by omega)⟩
  · have e1 : nth (replL ks k (k + 1) [mk1 t]) (k - 1) = nth ks (k - 1) := nth_repl_ne hk (by omega) t
    have e2 : nth (replL ks k (k + 1) [mk1 t]) (k - 1 + 1) = t := by rw [show k - 1 + 1 = k by omega]; exact nth_repl_at hk t
    have h3 := hoks (k - 1) (by omega)
    have h4 := h3.len
    rw [e1, e2]
    exact ⟨by omega, by omega, by omega, by omega, by omega, ok_lower h3 (by omega), ht⟩
theorem oks_of_ok {lo h h' : Nat} {t : List (El h)} (H : Ok lo h t) (e : h = h' + 1) : Oks h' (e ▸ t) := by subst e; exact H.oks
theorem oks_cat {h : Nat} {s t : List (El h)} {lo lo' : Nat} (hs : Ok lo h s) (ht : Ok lo' h t) : ∀ h' (e : h = h' + 1), Oks h' (e ▸ (s ++ t)) := by
  intro h' e
  subst e
  exact oks_app hs.oks ht.oks
theorem delK_spec {lo h : Nat} {ks : List (El (h + 1))} {k : Nat} {t : List (El h)} (hk : k < ks.length) (hlo : 2 ≤ lo) (H : Ok lo (h + 1) ks) (ht : Ok 2 h t) :
    flatL (h + 1) (delK ks k t) = flatL (h + 1) (replL ks k (k + 1) [mk1 t]) ∧ Ok (lo - 1) (h + 1) (delK ks k t) := by
  have hl := H.len
  unfold delK
  by_cases hlow : t.length < 3
  · rw [if_pos hlow]
    obtain ⟨p1, p2, p3, _, _, p4, p5⟩ := pair_len hk (by omega) H.oks ht hlow
    have hrl := repl_one_len (x := mk1 t) hk
    refine ⟨flat_pair (by rw [hrl]; exact p1), ?_⟩
    have hpl : (nth (replL ks k (k + 1) [mk1 t]) (k - 1) ++ nth (replL ks k (k + 1) [mk1 t]) (k - 1 + 1)).length = (nth (replL ks k (k + 1) [mk1 t]) (k - 1)).length + (nth (replL ks k (k + 1) [mk1 t]) (k - 1 + 1)).length := List.length_append
    have ho := oks_pts (l := nth (replL ks k (k + 1) [mk1 t]) (k - 1) ++ nth (replL ks k (k + 1) [mk1 t]) (k - 1 + 1)) (by rw [hpl]; omega) (oks_cat p4 p5)
    have hpn := pts_len (nth (replL ks k (k + 1) [mk1 t]) (k - 1) ++ nth (replL ks k (k + 1) [mk1 t]) (k - 1 + 1))
    rw [hpl] at hpn
    have hf : fewN ((nth (replL ks k (k + 1) [mk1 t]) (k - 1)).length + (nth (replL ks k (k + 1) [mk1 t]) (k - 1 + 1)).length) = 1 ∨ fewN ((nth (replL ks k (k + 1) [mk1 t]) (k - 1)).length + (nth (replL ks k (k + 1) [mk1 t]) (k - 1 + 1)).length) = 2 := by unfold fewN; omega
    have hoall : Oks h (replL (replL ks k (k + 1) [mk1 t]) (k - 1) (k - 1 + 2) (pts (nth (replL ks k (k + 1) [mk1 t]) (k - 1) ++ nth (replL ks k (k + 1) [mk1 t]) (k - 1 + 1)))) := by
      have ha : Oks h ((replL ks k (k + 1) [mk1 t]).take (k - 1)) := by
        intro m hm
        rw [List.length_take] at hm
        have e : nth ((replL ks k (k + 1) [mk1 t]).take (k - 1)) m = nth (replL ks k (k + 1) [mk1 t]) m := by unfold nth; rw [List.getElem?_take, if_pos (by omega)]
        rw [e, nth_repl_ne hk (by omega)]
        exact H.oks m (by omega)
      have hb : Oks h ((replL ks k (k + 1) [mk1 t]).drop (k - 1 + 2)) := by
        intro m hm
        rw [List.length_drop] at hm
        have e : nth ((replL ks k (k + 1) [mk1 t]).drop (k - 1 + 2)) m = nth (replL ks k (k + 1) [mk1 t]) (k - 1 + 2 + m) := by unfold nth; rw [List.getElem?_drop]
        rw [e, nth_repl_ne hk (by omega)]
        exact H.oks _ (by omega)
      exact oks_app (oks_app ha ho) hb
    have hlen : (replL (replL ks k (k + 1) [mk1 t]) (k - 1) (k - 1 + 2) (pts (nth (replL ks k (k + 1) [mk1 t]) (k - 1) ++ nth (replL ks k (k + 1) [mk1 t]) (k - 1 + 1)))).length = ks.length - 2 + (pts (nth (replL ks k (k + 1) [mk1 t]) (k - 1) ++ nth (replL ks k (k + 1) [mk1 t]) (k - 1 + 1))).length := by
      rw [replL_len _ _ (by omega) (by omega), hrl]; omega
    exact ok_succ (by omega) (by omega) hoall
  · rw [if_neg hlow]
    refine ⟨rfl, ?_⟩
    have hrl := repl_one_len (x := mk1 t) hk
    exact ok_succ (by omega) (by omega) (oks_repl H.oks (oks_one (ok_raise ht (by omega))) _ _)
theorem del_spec : ∀ {lo : Nat} (h : Nat) (t : List (El h)) (i : Nat), 1 ≤ lo → (h = 0 ∨ 2 ≤ lo) → Ok lo h t → i < (flatL h t).length → flatL h (delT h t i) = replL (flatL h t) i (i + 1) [] ∧ Ok (lo - 1) h (delT h t i)
  | lo, 0, l, i, hlo, _, H, hi => by
    have h2 : (flatL 0 l).length = l.length := flatLen0 l
    have h1 : (replL l i (i + 1) ([] : List (El 0))).length = l.length - 1 := by rw [replL_len l _ (by omega) (by omega)]; simp; omega
    have hl := H.len
    constructor
    · have e1 : flatL 0 (delT 0 l i) = delT 0 l i := flatL_zero _
      have e2 : flatL 0 l = l := flatL_zero _
      rw [e1, e2]; rfl
    · show lo - 1 ≤ (replL l i (i + 1) ([] : List (El 0))).length ∧ (replL l i (i + 1) ([] : List (El 0))).length ≤ 6
      omega
  | lo, h + 1, ks, i, hlo, h2, H, hi => by
    obtain ⟨hk, _, h3, _⟩ := kid_at (Nat.le_trans hlo H.1) i
    have h3 := h3 hi
    obtain ⟨f1, o1⟩ := del_spec h (nth ks (kidP (szs h ks) i).1) (kidP (szs h ks) i).2 (show 1 ≤ 3 by omega) (.inr (by omega)) (H.kid hk) h3
    obtain ⟨g1, g2⟩ := delK_spec hk (by omega) H o1
    rw [delT_succ hk]
    exact ⟨g1.trans (flat_del_kids (Nat.le_trans hlo H.1) i hi _ f1), g2⟩

end Go.Proofs.YtkgakgceamafcaaGreat
