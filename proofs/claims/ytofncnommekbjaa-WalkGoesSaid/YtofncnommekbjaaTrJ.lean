/-
  Contracts of layer 9, nodes of ints: two of one height joined; at this seat's numbers.
-/
import Derived.Test.YtofncnommekbjaaTrI
namespace Go.Proofs.Ytofncnommekbjaa
open Go Go.RowKit
set_option linter.unusedVariables false

/-- Two parts as one. -/
theorem two_int {w1 : World} {z n1 n2 N : Nat} {a1 a2 : Option Addr} {c1 c2 : Nat} {xs ys : List Value} (hz : w1.heap.size = z) (h1 : Sl w1 a1 c1 xs) (h2 : Sl w1 a2 c2 ys) (e1 : xs.length = n1) (e2 : ys.length = n2) (eN : n1 + n2 = N) (hl : N ≤ 1000000) :
    Calls Try.prog 82 #[.slice (some ⟨z, 0, none⟩) 2 2] (w1.alloc (Obj.cells #[.slice a1 n1 c1, .slice a2 n2 c2] 22)) fun e w' => ∃ a c', e = .returned (.slice a N c') ∧ Sl w' a c' (xs ++ ys) ∧ Below w1.heap.size w1 w' := by
  subst hz e1 e2
  have hS := heap_alloc_new w1 (Obj.cells #[.slice a1 xs.length c1, .slice a2 ys.length c2] 22)
  have hb4 := t_al w1 (Obj.cells #[.slice a1 xs.length c1, .slice a2 ys.length c2] 22)
  have hs2 : (w1.alloc (Obj.cells #[.slice a1 xs.length c1, .slice a2 ys.length c2] 22)).heap.size = w1.heap.size + 1 := by simp
  generalize w1.alloc (Obj.cells #[.slice a1 xs.length c1, .slice a2 ys.length c2] 22) = w3 at *
  have hcat : catP [(a1, c1, xs), (a2, c2, ys)] = xs ++ ys := by simp [catP]
  have hlen : (xs ++ ys).length = N := by simp; omega
  have hc := concat_int (w := w3) (b := w1.heap.size) (cc := 2) (ps := [(a1, c1, xs), (a2, c2, ys)]) (by omega)
    (fun k hk => by
      simp only [List.length_cons, List.length_nil] at hk
      rcases (show k = 0 ∨ k = 1 by omega) with rfl | rfl
      · rw [cell_at hS]; simp [ptV]
      · rw [cell_at hS]; simp [ptV])
    (fun p hp => by
      simp only [List.mem_cons, List.not_mem_nil, or_false] at hp
      rcases hp with rfl | rfl
      · exact h1.below hb4
      · exact h2.below hb4)
    (by rw [hcat, hlen]; exact hl) (by simp)
  rw [hcat, hlen] at hc
  refine hc.mono ?_
  rintro e w' ⟨a, c', rfl, ho, hb⟩
  exact ⟨a, c', rfl, ho, hb4.trans (hb.mono hb4.size)⟩
theorem etwo_int {w1 : World} {T : TypeId} {h z n1 n2 N : Nat} {a1 a2 : Option Addr} {c1 c2 : Nat} {ts ss : List (El h)} (hz : w1.heap.size = z) (H1 : Es w1 T h ts a1 c1) (H2 : Es w1 T h ss a2 c2) (e1 : ts.length = n1) (e2 : ss.length = n2) (eN : n1 + n2 = N) (hl : N ≤ 1000000) :
    Calls Try.prog 82 #[.slice (some ⟨z, 0, none⟩) 2 2] (w1.alloc (Obj.cells #[.slice a1 n1 c1, .slice a2 n2 c2] 22)) fun e w' => ∃ a c', e = .returned (.slice a N c') ∧ Es w' T h (ts ++ ss) a c' ∧ Below w1.heap.size w1 w' := by
  obtain ⟨us, h1, h2⟩ := H1
  obtain ⟨vs, k1, k2⟩ := H2
  refine (two_int hz h1 k1 (by rw [← e1]; exact h2.1) (by rw [← e2]; exact k2.1) eN hl).mono ?_
  rintro e w' ⟨a, c', rfl, hs, hb⟩
  exact ⟨a, c', rfl, ⟨_, hs, (EsU.app (w := w1) h2 k2).below hb⟩, hb⟩

/-- Two parts as one. -/
theorem two_ni {w1 : World} {z n1 n2 N : Nat} {a1 a2 : Option Addr} {c1 c2 : Nat} {xs ys : List Value} (hz : w1.heap.size = z) (h1 : Sl w1 a1 c1 xs) (h2 : Sl w1 a2 c2 ys) (e1 : xs.length = n1) (e2 : ys.length = n2) (eN : n1 + n2 = N) (hl : N ≤ 1000000) :
    Calls Try.prog 81 #[.slice (some ⟨z, 0, none⟩) 2 2] (w1.alloc (Obj.cells #[.slice a1 n1 c1, .slice a2 n2 c2] 80)) fun e w' => ∃ a c', e = .returned (.slice a N c') ∧ Sl w' a c' (xs ++ ys) ∧ Below w1.heap.size w1 w' := by
  subst hz e1 e2
  have hS := heap_alloc_new w1 (Obj.cells #[.slice a1 xs.length c1, .slice a2 ys.length c2] 80)
  have hb4 := t_al w1 (Obj.cells #[.slice a1 xs.length c1, .slice a2 ys.length c2] 80)
  have hs2 : (w1.alloc (Obj.cells #[.slice a1 xs.length c1, .slice a2 ys.length c2] 80)).heap.size = w1.heap.size + 1 := by simp
  generalize w1.alloc (Obj.cells #[.slice a1 xs.length c1, .slice a2 ys.length c2] 80) = w3 at *
  have hcat : catP [(a1, c1, xs), (a2, c2, ys)] = xs ++ ys := by simp [catP]
  have hlen : (xs ++ ys).length = N := by simp; omega
  have hc := concat_ni (w := w3) (b := w1.heap.size) (cc := 2) (ps := [(a1, c1, xs), (a2, c2, ys)]) (by omega)
    (fun k hk => by
      simp only [List.length_cons, List.length_nil] at hk
      rcases (show k = 0 ∨ k = 1 by omega) with rfl | rfl
      · rw [cell_at hS]; simp [ptV]
      · rw [cell_at hS]; simp [ptV])
    (fun p hp => by
      simp only [List.mem_cons, List.not_mem_nil, or_false] at hp
      rcases hp with rfl | rfl
      · exact h1.below hb4
      · exact h2.below hb4)
    (by rw [hcat, hlen]; exact hl) (by simp)
  rw [hcat, hlen] at hc
  refine hc.mono ?_
  rintro e w' ⟨a, c', rfl, ho, hb⟩
  exact ⟨a, c', rfl, ho, hb4.trans (hb.mono hb4.size)⟩
theorem etwo_ni {w1 : World} {T : TypeId} {h z n1 n2 N : Nat} {a1 a2 : Option Addr} {c1 c2 : Nat} {ts ss : List (El h)} (hz : w1.heap.size = z) (H1 : Es w1 T h ts a1 c1) (H2 : Es w1 T h ss a2 c2) (e1 : ts.length = n1) (e2 : ss.length = n2) (eN : n1 + n2 = N) (hl : N ≤ 1000000) :
    Calls Try.prog 81 #[.slice (some ⟨z, 0, none⟩) 2 2] (w1.alloc (Obj.cells #[.slice a1 n1 c1, .slice a2 n2 c2] 80)) fun e w' => ∃ a c', e = .returned (.slice a N c') ∧ Es w' T h (ts ++ ss) a c' ∧ Below w1.heap.size w1 w' := by
  obtain ⟨us, h1, h2⟩ := H1
  obtain ⟨vs, k1, k2⟩ := H2
  refine (two_ni hz h1 k1 (by rw [← e1]; exact h2.1) (by rw [← e2]; exact k2.1) eN hl).mono ?_
  rintro e w' ⟨a, c', rfl, hs, hb⟩
  exact ⟨a, c', rfl, ⟨_, hs, (EsU.app (w := w1) h2 k2).below hb⟩, hb⟩

set_option maxRecDepth 100000 in
set_option maxHeartbeats 1000000 in
theorem join0l_i {w : World}  {ts ss : List (El 0)} {b b' : Nat} (H : In w 95 0 ts b) (H' : In w 95 0 ss b') (hn1 : 1 ≤ ts.length) (hn2 : 1 ≤ ss.length) (hl : ts.length + ss.length ≤ 100) (hf : (flatL 0 (ts ++ ss)).length ≤ 1000000) :
    Calls Try.prog 59 #[ptr b, ptr b', .int .i64 0] w fun e w' => ∃ a' c', e = .returned (.slice a' (fewN (ts ++ ss).length) c') ∧ Es w' 95 (0 + 1) (pts (ts ++ ss)) a' c' ∧ Below w.heap.size w w' := by
  have HL := Lib.hid (isleaf_i H)
  obtain ⟨g, o, c, hh, he⟩ := H.es hn1
  obtain ⟨g', o', c', hh', he'⟩ := H'.es hn2
  obtain ⟨n, hn⟩ : ∃ n, ts.length = n := ⟨_, rfl⟩
  obtain ⟨m, hm⟩ : ∃ m, ss.length = m := ⟨_, rfl⟩
  have c0 : w.cell? ⟨b, 0, none⟩ = some (.slice none 0 0) := by rw [cell_at hh]; first | rfl | (rw [← hn]; rfl)
  have c1 : w.cell? ⟨b, 1, none⟩ = some (.slice (some ⟨g, o, none⟩) n c) := by rw [cell_at hh]; first | rfl | (rw [← hn]; rfl)
  have d0 : w.cell? ⟨b', 0, none⟩ = some (.slice none 0 0) := by rw [cell_at hh']; first | rfl | (rw [← hm]; rfl)
  have d1 : w.cell? ⟨b', 1, none⟩ = some (.slice (some ⟨g', o', none⟩) m c') := by rw [cell_at hh']; first | rfl | (rw [← hm]; rfl)
  have hnm : (ts ++ ss).length = n + m := by rw [List.length_append, hn, hm]
  have HC := Lib.hid (etwo_int (w1 := w.drew) (T := 95) rfl (he.below (Below.refl _ _).drew) (he'.below (Below.refl _ _).drew) hn hm rfl (by omega))
  have HC2 := Lib.hid (etwo_int (w1 := w) (T := 95) rfl he he' hn hm rfl (by omega))
  have HPk := Lib.hid (fun w6 a6 c6 (h6 : Es w6 95 0 (ts ++ ss) a6 c6) => pack_li h6 hnm (by omega) hf)
  have hd := (Below.refl w.heap.size w).drew
  rw [hnm]
  have HD := Lib.hid hd
  clear H H' hh hh' he he' hn hm hnm hf hd
  generalize pts (ts ++ ss) = R at *
  generalize hTS : ts ++ ss = TS at *
  clear hTS hn1 hn2
  go_enter Try.func59, Try.ntmps59
  go_wp2_with fail
  refine HL.out.mono ?_; rintro e w1 ⟨rfl, rfl⟩
  go_upto_region 7 with fail
  go_region_law (first
    | (go_simp; go_at_call 82; refine (HC.out).mono ?_; rintro e w5 ⟨a5, c5, rfl, ho5, hb5⟩; have HO5 := Lib.hid ho5; have HB5 := Lib.hid (HD.out.trans (hb5.mono HD.out.size)); clear ho5 hb5)
    | (go_simp; go_at_call 82; refine (HC2.out).mono ?_; rintro e w5 ⟨a5, c5, rfl, ho5, hb5⟩; have HO5 := Lib.hid ho5; have HB5 := Lib.hid hb5; clear ho5 hb5)
    | (go_simp; go_at_call 44; refine (HPk.out w5 a5 c5 HO5.out).mono ?_; rintro e w6 ⟨a6, c6, rfl, ho6, hb6⟩; have HO6 := Lib.hid ho6; have HB6 := Lib.hid (HB5.out.trans (hb6.mono HB5.out.size)); clear ho6 hb6))
  all_goals
    go_wp2_with fail
    go_ret
    exact ⟨a6, c6, rfl, HO6.out, HB6.out⟩

set_option maxRecDepth 100000 in
set_option maxHeartbeats 1000000 in
theorem join0n_i {w : World} {h : Nat} {ts ss : List (El (h + 1))} {b b' : Nat} (H : In w 95 (h + 1) ts b) (H' : In w 95 (h + 1) ss b') (hn1 : 1 ≤ ts.length) (hn2 : 1 ≤ ss.length) (hl : ts.length + ss.length ≤ 100) (hf : (flatL (h + 1) (ts ++ ss)).length ≤ 1000000) :
    Calls Try.prog 59 #[ptr b, ptr b', .int .i64 0] w fun e w' => ∃ a' c', e = .returned (.slice a' (fewN (ts ++ ss).length) c') ∧ Es w' 95 ((h + 1) + 1) (pts (ts ++ ss)) a' c' ∧ Below w.heap.size w w' := by
  have HL := Lib.hid (notleaf_i H (by omega))
  obtain ⟨g, o, c, hh, he⟩ := H.es hn1
  obtain ⟨g', o', c', hh', he'⟩ := H'.es hn2
  obtain ⟨n, hn⟩ : ∃ n, ts.length = n := ⟨_, rfl⟩
  obtain ⟨m, hm⟩ : ∃ m, ss.length = m := ⟨_, rfl⟩
  have c0 : w.cell? ⟨b, 0, none⟩ = some (.slice (some ⟨g, o, none⟩) n c) := by rw [cell_at hh]; first | rfl | (rw [← hn]; rfl)
  have c1 : w.cell? ⟨b, 1, none⟩ = some (.slice none 0 0) := by rw [cell_at hh]; first | rfl | (rw [← hn]; rfl)
  have d0 : w.cell? ⟨b', 0, none⟩ = some (.slice (some ⟨g', o', none⟩) m c') := by rw [cell_at hh']; first | rfl | (rw [← hm]; rfl)
  have d1 : w.cell? ⟨b', 1, none⟩ = some (.slice none 0 0) := by rw [cell_at hh']; first | rfl | (rw [← hm]; rfl)
  have hnm : (ts ++ ss).length = n + m := by rw [List.length_append, hn, hm]
  have HC := Lib.hid (etwo_ni (w1 := w.drew) (T := 95) rfl (he.below (Below.refl _ _).drew) (he'.below (Below.refl _ _).drew) hn hm rfl (by omega))
  have HC2 := Lib.hid (etwo_ni (w1 := w) (T := 95) rfl he he' hn hm rfl (by omega))
  have HPk := Lib.hid (fun w6 a6 c6 (h6 : Es w6 95 (h + 1) (ts ++ ss) a6 c6) => pack_ni h6 hnm (by omega) hf)
  have hd := (Below.refl w.heap.size w).drew
  rw [hnm]
  have HD := Lib.hid hd
  clear H H' hh hh' he he' hn hm hnm hf hd
  generalize pts (ts ++ ss) = R at *
  generalize hTS : ts ++ ss = TS at *
  clear hTS hn1 hn2
  go_enter Try.func59, Try.ntmps59
  go_wp2_with fail
  refine HL.out.mono ?_; rintro e w1 ⟨rfl, rfl⟩
  go_upto_region 8 with fail
  go_region_law (first
    | (go_simp; go_at_call 81; refine (HC.out).mono ?_; rintro e w5 ⟨a5, c5, rfl, ho5, hb5⟩; have HO5 := Lib.hid ho5; have HB5 := Lib.hid (HD.out.trans (hb5.mono HD.out.size)); clear ho5 hb5)
    | (go_simp; go_at_call 81; refine (HC2.out).mono ?_; rintro e w5 ⟨a5, c5, rfl, ho5, hb5⟩; have HO5 := Lib.hid ho5; have HB5 := Lib.hid hb5; clear ho5 hb5)
    | (go_simp; go_at_call 74; refine (HPk.out w5 a5 c5 HO5.out).mono ?_; rintro e w6 ⟨a6, c6, rfl, ho6, hb6⟩; have HO6 := Lib.hid ho6; have HB6 := Lib.hid (HB5.out.trans (hb6.mono HB5.out.size)); clear ho6 hb6))
  all_goals
    go_wp2_with fail
    go_ret
    exact ⟨a6, c6, rfl, HO6.out, HB6.out⟩

end Go.Proofs.Ytofncnommekbjaa
