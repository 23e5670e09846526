/-
  The walk of TreeStays, at this seat's numbers.
-/
import Derived.Test.YtofncnommekbjaaTuE
namespace Go.Proofs.Ytofncnommekbjaa
open Go Go.RowKit
set_option linter.unusedVariables false

/-- What an append to a row of another type leaves as it is. -/
def Far (w : World) (T : TypeId) (row : Option Nat) : Prop := ∀ q, row = some q → ∃ cs t fr, w.heap[q]? = some (.cells cs t fr) ∧ ¬ okT t ∧ t ≠ T
theorem Far.ty {w : World} {T : TypeId} {row : Option Nat} (h : Far w T row) {b : Nat} (hb : TyAt w b) : row ≠ some b := by
  intro e
  obtain ⟨cs, t, fr, h1, h2, h3⟩ := h b e
  obtain ⟨cs', t', fr', k1, k2⟩ := hb
  rw [h1] at k1
  injection k1 with k1
  injection k1 with _ k1
  exact h2 (k1 ▸ k2)
theorem Far.node {w : World} {T : TypeId} {row : Option Nat} (h : Far w T row) {b : Nat} {cs : Array Value} {fr : Nat × Nat} (hb : w.heap[b]? = some (.cells cs T fr)) : row ≠ some b := by
  intro e
  obtain ⟨cs', t, fr', h1, h2, h3⟩ := h b e
  rw [h1] at hb
  injection hb with hb
  injection hb with _ hb
  exact h3 hb
theorem Far.own {w : World} {T B n s : Nat} {e : TypeId} {v : Value} {xs : List Value} (h : w.ownsRow B e s v n xs) (he : ¬ okT e) (hT : e ≠ T) : Far w T v.ownBlock := by
  intro q hq
  rcases h.2 with ⟨rfl, _⟩ | ⟨g, cap, cur, rfl, _, hg, _⟩
  · simp [Value.ownBlock] at hq
  · have : g = q := by simpa [Value.ownBlock] using hq
    subst this
    exact ⟨cur, e, (0, 0), hg, he, hT⟩
theorem InE.far {w w' : World} {T : TypeId} {row : Option Nat} (hg : w.grownBy w' row) (hr : Far w T row) : ∀ {h : Nat} {t : El h} {u : Value}, InE w T h t u → InE w' T h t u
  | 0, t, u, H => H
  | h + 1, t, u, H => by
    obtain ⟨b, a, c, us, rfl, h1, ht, h2, h3, h4⟩ := H
    exact ⟨b, a, c, us, rfl, (hg.block b (lt_of_heap h1) (fun e => hr.node h1 e.symm)).trans h1, fun d hd => (ht d hd).grown hg (hr.ty (ht d hd)), far_sl h2 hg (fun d hd => hr.ty (ht d hd)), h3, fun i x y hx hy => InE.far hg hr (h4 i x y hx hy)⟩
theorem Tin.far {w w' : World} {T : TypeId} {row : Option Nat} {pv : Value} {L : List Value} (H : Tin w T pv L) (hg : w.grownBy w' row) (hr : Far w T row) : Tin w' T pv L := by
  rcases H with h | ⟨b, h, t, rfl, h2, h3, h4⟩
  · exact .inl h
  · obtain ⟨b', e, hin⟩ := of_in (InE.far hg hr (h := h + 1) (t := mk1 t) (in_of h2))
    have : b' = b := by injection e with e; injection e with e; injection e with e; exact e.symm
    subst this
    exact .inr ⟨b', h, t, rfl, hin, h3, h4⟩
/-- A slice of numbers that is an argument's, or the law's own. -/
def LocN (B : Nat) (w : World) (a : Option Addr) : Prop := ∀ d, a = some d → d.block < B ∨ TyAt w d.block
theorem LocN.below {B : Nat} {w w' : World} {a : Option Addr} (h : LocN B w a) (hb : Below w.heap.size w w') : LocN B w' a := fun d hd => (h d hd).imp id (fun h => h.below hb)
theorem LocN.set {B p o : Nat} {u : Value} {w : World} {a : Option Addr} (h : LocN B w a) : LocN B (w.setCell ⟨p, o, none⟩ u) a := fun d hd => (h d hd).imp id (fun h => h.set)
theorem LocN.ne {B T : Nat} {w : World} {a : Option Addr} {row : Option Nat} (h : LocN B w a) (hr : Far w T row) (hB : ∀ q, row = some q → B ≤ q) : ∀ d, a = some d → row ≠ some d.block := fun d hd e => by
  rcases h d hd with h1 | h1
  · have := hB _ e; omega
  · exact hr.ty h1 e
theorem LocN.far {B T : Nat} {w w' : World} {a : Option Addr} {row : Option Nat} (h : LocN B w a) (hg : w.grownBy w' row) (hr : Far w T row) : LocN B w' a := fun d hd => (h d hd).imp id (fun h1 => h1.grown hg (hr.ty h1))
/-- A tree that was, and the row that it had. -/
structure Was where
  y : Option Addr
  a : Option Addr
  c : Nat
  l : List Int
def Was.tv (h : Was) : Value := .pointer h.y
def Was.sv (h : Was) : Value := .slice h.a h.l.length h.c
def WasIn (T B : Nat) (w : World) (h : Was) : Prop := Tin w T (.pointer h.y) (nums h.l) ∧ Sl w h.a h.c (nums h.l) ∧ h.l.length ≤ 400 ∧ LocN B w h.a
theorem WasIn.below {T B : Nat} {w w' : World} {h : Was} (H : WasIn T B w h) (hb : Below w.heap.size w w') : WasIn T B w' h := ⟨H.1.below hb, H.2.1.below hb, H.2.2.1, H.2.2.2.below hb⟩
theorem WasIn.setBox {T B p TT : Nat} {w : World} {u : Value} {x : Option Addr} {h : Was} (H : WasIn T B w h) (hp : w.heap[p]? = some (.cells #[.pointer x] TT (0, 0))) (hT : TT ≠ T) : WasIn T B (w.setCell ⟨p, 0, none⟩ u) h :=
  ⟨H.1.setBox hp hT (nums_np _ _), H.2.1.setBox hp (.inr (nums_np _ _)), H.2.2.1, H.2.2.2.set⟩
theorem WasIn.far {T B : Nat} {w w' : World} {h : Was} {row : Option Nat} (H : WasIn T B w h) (hg : w.grownBy w' row) (hr : Far w T row) (hB : ∀ q, row = some q → B ≤ q) : WasIn T B w' h :=
  ⟨H.1.far hg hr, far_sl H.2.1 hg (H.2.2.2.ne hr hB), H.2.2.1, H.2.2.2.far hg hr⟩
/-- Both rows of what was. -/
def StRel (T TT TS B B0 z N : Nat) (w : World) (v0 v6 v7 v21 : Value) (wr : World) : Prop :=
  ∃ (k : Nat) (q : Was) (hs : List Was), v21 = .int .i64 k ∧ v0 = q.sv ∧ k ≤ N ∧ k ≤ 40 ∧ q.l.length ≤ 300 + k ∧ wr.heap[z]? = some (.cells #[.pointer q.y] TT (0, 0)) ∧ WasIn T B wr q ∧ (∀ h ∈ hs, WasIn T B wr h) ∧
    hs.length = k + 1 ∧ wr.ownsRow B0 TT 1 v6 (k + 1) (hs.map Was.tv) ∧ wr.ownsRow B0 TS 1 v7 (k + 1) (hs.map Was.sv) ∧ Below w.heap.size w wr
theorem info_tree : (Try.prog.info? 27).map (fun i => (i.zero, i.size, i.bytes)) = some (some (.agg #[.pointer none]), 1, 8) := by kernel_rfl
theorem info_nums : (Try.prog.info? 22).map (fun i => (i.zero, i.size, i.bytes)) = some (some (.slice none 0 0), 1, 24) := by kernel_rfl
theorem row_pos {w : World} {B n : Nat} {e : TypeId} {v : Value} {xs : List Value} (h : w.ownsRow B e 1 v n xs) (hn : 0 < n) : ∃ g c, v = .slice (some ⟨g, 0, none⟩) n c ∧ B ≤ g ∧ g < w.heap.size ∧ ∀ j u, xs[j]? = some u → w.cell? ⟨g, j, none⟩ = some u := by
  obtain ⟨g, cap, rfl, hb, hg⟩ := h.form hn
  refine ⟨g, cap, rfl, hb, hg, fun j u hj => ?_⟩
  have := h.cells (g := g) rfl j u hj
  rwa [Addr.add_lit, Nat.zero_add] at this

set_option maxRecDepth 100000 in
set_option maxHeartbeats 8000000 in
theorem treeStays_walk (a : Option Addr) (c : Nat) (l0 : List Int) (b : Option Addr) (d : Nat) (L : List OpM) (w : World) (hl0 : (Sl w a c (l0.map (Value.int .i64)) ∧ ∀ x ∈ l0, I64 x) ∧ ∀ d, a = some d → d.block < w.heap.size) (hop : Rd w 4 b L.length (opC L) ∧ d ≤ maxLen ∧ L.length ≤ d ∧ ∀ o ∈ L, I64 o.kind ∧ I64 o.i ∧ I64 o.x) :
    Calls Try.prog 5 #[.slice a l0.length c, .slice b L.length d] w fun e w' => e = .returned (.bool true) ∧ Below w.heap.size w w' := by
  obtain ⟨i0, hi0, hz0, hz1, hz2⟩ := info_parts info_tree
  obtain ⟨j0, hj0, hy0, hy1, hy2⟩ := info_parts info_nums
  have HF1 := Lib.hid (nfew l0 hl0.1.1)
  have hlen : (l0.take 300).length ≤ 300 := by rw [List.length_take]; omega
  have HLa := Lib.hid hl0.2
  generalize l0.take 300 = l at *
  generalize l0.length = n0 at *
  clear hl0
  have hN1 : L.length ≤ 9223372036854775807 := by have h1 := hop.2.1; have h2 := hop.2.2.1; unfold maxLen at h1; omega
  have HOP := Lib.hid hop
  obtain ⟨N, hN⟩ : ∃ N, L.length = N := ⟨_, rfl⟩
  have HN := Lib.hid hN
  rw [hN] at hN1 ⊢
  clear hN hop
  go_enter Try.func5, Try.ntmps5
  go_wp2_with fail
  refine HF1.out.mono ?_; rintro e w1 ⟨rfl, hS1, rfl⟩
  have HS := Lib.hid hS1
  have HO1 := Lib.hid (tof_i (n := l.length) hS1 (nums_len _) (by omega) (nums_gd _))
  clear hS1 HF1
  go_wp2_with fail
  refine HO1.out.mono ?_; rintro e w2 ⟨x1, rfl, ht1, hb2⟩
  obtain ⟨w3, hw3, hb3, hz3, hh3⟩ := box_eq w2 27 x1
  have c3 : w3.cell? ⟨w2.heap.size, 0, none⟩ = some (.pointer x1) := by rw [cell_at hh3]; rfl
  obtain ⟨w5, hw5, hb5, hz5, hE, hF⟩ := two_blocks w3 (Obj.cells #[Value.pointer x1] 27) (Obj.cells #[Value.slice a l.length c] 22)
  have HB3 := Lib.hid (hb2.trans (hb3.mono hb2.size))
  have HB5 := Lib.hid (HB3.out.trans (hb5.mono HB3.out.size))
  have HT5 := Lib.hid ((ht1.below hb3).below hb5)
  have HS5 := Lib.hid (HS.out.below HB5.out)
  have hzw : w.heap.size ≤ w2.heap.size := hb2.size
  have hz32 : w2.heap.size < w3.heap.size := by omega
  have HH5 := Lib.hid ((hb5.block _ hz32).trans hh3)
  have HO5 : Hid (w5.ownsRow w3.heap.size 27 1 (.slice (some ⟨w3.heap.size, 0, none⟩) 1 1) 1 [.pointer x1]) := Lib.hid ⟨rfl, .inr ⟨w3.heap.size, 1, _, rfl, Nat.le_refl _, hE, Nat.le_refl _, by decide, rfl, rfl⟩⟩
  have HW5 : Hid (w5.ownsRow w3.heap.size 22 1 (.slice (some ⟨w3.heap.size + 1, 0, none⟩) 1 1) 1 [.slice a l.length c]) := Lib.hid ⟨rfl, .inr ⟨w3.heap.size + 1, 1, _, rfl, by omega, hF, Nat.le_refl _, by decide, rfl, rfl⟩⟩
  clear ht1 hb2 hb3 hh3 HO1 hb5 hE hF hz5 hz3
  go_wp2_with fail
  clear hw3 hw5 c3
  have hz23 : w2.heap.size < w3.heap.size := hz32
  go_loopw [0, 6, 7, 21] (fun v0 v6 v7 v21 wr => StRel 95 27 22 w.heap.size w3.heap.size w2.heap.size N w v0 v6 v7 v21 wr) (fun _ _ _ v21 _ => N - (intOf v21).toNat)
  case atStart =>
    have hq : WasIn 95 w.heap.size w5 ⟨x1, a, c, l⟩ := ⟨HT5.out, HS5.out, by show l.length ≤ 400; omega, fun d hd => .inl (HLa.out d hd)⟩
    exact ⟨0, ⟨x1, a, c, l⟩, [⟨x1, a, c, l⟩], rfl, rfl, by omega, by omega, by show l.length ≤ _; omega, HH5.out, hq, fun h hh => by simp at hh; subst hh; exact hq, rfl, HO5.out, HW5.out, HB5.out⟩
  case round =>
    obtain ⟨k, q, hs, rfl, hv0, hk, hk40, hql, hhz, hqw, hall, hsl, hown6, hown7, hB⟩ := hrel
    subst hv0
    have HB := Lib.hid hB
    have HQ := Lib.hid hqw
    have HA := Lib.hid hall
    have HZ := Lib.hid hhz
    have H6 := Lib.hid hown6
    have H7 := Lib.hid hown7
    have HL := Lib.hid hsl
    have cz : wr.cell? ⟨w2.heap.size, 0, none⟩ = some (.pointer q.y) := by rw [cell_at hhz]; rfl
    have hltz := lt_of_heap hhz
    clear hB hqw hall hhz hown6 hown7 hsl
    unfold Was.sv
    by_cases hlt : k < N
    · have dk : decide (k < N) = true := decide_eq_true hlt
      obtain ⟨g, o, rfl⟩ := HOP.out.1.opsome (by rw [HN.out]; omega)
      obtain ⟨op, hop⟩ : ∃ op, L[k]? = some op := ⟨_, List.getElem?_eq_getElem (by rw [HN.out]; exact hlt)⟩
      obtain ⟨⟨q0, q1, q2, q3⟩, hg⟩ := (HOP.out.1.below HB.out).op hop
      have hI := (HOP.out.2.2.2 op (List.mem_of_getElem? hop)).2.1
      have e0 : (0 : Int) ≤ (k : Int) := by omega
      have e1 : (k : Int) < (N : Int) := by omega
      have hh5 := heap_alloc_new wr (Obj.cells #[.int .i64 op.kind, .int .i64 op.i, .int .i64 op.x, .bool op.odd] 31)
      have al5 := t_al wr (Obj.cells #[.int .i64 op.kind, .int .i64 op.i, .int .i64 op.x, .bool op.odd] 31)
      obtain ⟨w6, hw6⟩ : ∃ w6, wr.alloc (Obj.cells #[.int .i64 op.kind, .int .i64 op.i, .int .i64 op.x, .bool op.odd] 31) = w6 := ⟨_, rfl⟩
      rw [hw6] at hh5 al5
      have hz6 := (al5.block _ hltz).trans HZ.out
      have HZ6 := Lib.hid hz6
      have cz6 : w6.cell? ⟨w2.heap.size, 0, none⟩ = some (.pointer q.y) := by rw [cell_at hz6]; rfl
      have hltz6 := lt_of_heap hz6
      have HB6 := Lib.hid (HB.out.trans (al5.mono HB.out.size))
      have HQ6 := Lib.hid (HQ.out.below al5)
      have HA6 := Lib.hid (fun h hh => (HA.out h hh).below al5)
      have H66 := Lib.hid (own_below H6.out al5)
      have H76 := Lib.hid (own_below H7.out al5)
      by_cases h40 : 40 ≤ k
      · have d8 : decide (40 ≤ k) = true := decide_eq_true h40
        have d8i : decide ((40 : Int) ≤ (k : Int)) = true := decide_eq_true (by omega)
        have HBx := HB6
        have HAx := HA6
        have H6x := H66
        have H7x := H76
        clear hh5 al5 hz6
        have hx6 := H6x.out
        have hx7 := H7x.out
        obtain ⟨g6, c6, rfl, _, hlt6, hc6⟩ := row_pos hx6 (by omega)
        obtain ⟨g7, c7, rfl, _, hlt7, hc7⟩ := row_pos hx7 (by omega)
        have HC6 := Lib.hid hc6
        have HC7 := Lib.hid hc7
        clear hx6 hx7 hc6 hc7
        obtain ⟨wo, hwo⟩ : ∃ wo : World, wo = w6 := ⟨_, rfl⟩
        rw [← hwo] at HC6 HC7 HAx HBx hlt6 hlt7
        obtain ⟨K, hK⟩ : ∃ K, k + 1 = K := ⟨_, rfl⟩
        have HKL : Hid (hs.length = K) := Lib.hid (by rw [HL.out, hK])
        have hK41 : K ≤ 41 := by omega
        go_upto_region 13 with fail
        rw [← hwo]
        have hK1 : ((k : Int) + 1) = (K : Int) := by omega
        rw [hK]
        clear hwo hK
        go_wp2_with fail
        go_loopw [47] (fun v47 wq => ∃ i : Nat, v47 = .int .i64 i ∧ i ≤ K ∧ Below wo.heap.size wo wq) (fun v47 _ => K - (intOf v47).toNat)
        case atStart => exact ⟨0, rfl, by omega, Below.refl _ _⟩
        case round =>
          obtain ⟨i, rfl, hi, hbq⟩ := hrel
          have HBQ := Lib.hid hbq
          by_cases hlti : i < K
          · have di : decide (i < K) = true := decide_eq_true hlti
            obtain ⟨h, hh⟩ : ∃ h, hs[i]? = some h := ⟨_, List.getElem?_eq_getElem (by rw [HKL.out]; exact hlti)⟩
            have hm := HAx.out h (List.mem_of_getElem? hh)
            have t0 := HC6.out i h.tv (by rw [List.getElem?_map, hh]; rfl)
            have t1 := HC7.out i h.sv (by rw [List.getElem?_map, hh]; rfl)
            unfold Was.tv at t0
            unfold Was.sv at t1
            have HAl := Lib.hid (fun w' (hb : Below wo.heap.size wo w') => nall (hm.1.below hb) (by have := hm.2.2.1; omega))
            have HSm := Lib.hid (fun w' (b : Option Addr) (d : Nat) (hb : Below wo.heap.size wo w') (hS : Sl w' b d (nums h.l)) => nsame h.l h.l hS (hm.2.1.below hb) (by have := hm.2.2.1; omega))
            rw [show decide (h.l = h.l) = true by simp] at HSm
            have f0 : (0 : Int) ≤ (i : Int) := by omega
            have f1 : (i : Int) < (K : Int) := by omega
            have ld0 := fun w' (hb : Below wo.heap.size wo w') => (hb.cell (p := ⟨g6, i, none⟩) hlt6).trans t0
            have ld1 := fun w' (hb : Below wo.heap.size wo w') => (hb.cell (p := ⟨g7, i, none⟩) hlt7).trans t1
            have ld2 := fun w' (hb : Below wo.heap.size wo w') => (hb.cell (p := ⟨g6, 0 + i, none⟩) hlt6).trans (by rw [Nat.zero_add]; first | done | exact t0)
            have ld3 := fun w' (hb : Below wo.heap.size wo w') => (hb.cell (p := ⟨g7, 0 + i, none⟩) hlt7).trans (by rw [Nat.zero_add]; first | done | exact t1)
            clear hm t0 t1 hbq
            go_upto_region 16 with fail
            have hsB0 : Below wo.heap.size wo wr.drew := HBQ.out.drew
            go_region_held3 (fun w' => Below wo.heap.size wo w')
              (first | assumption)
              ((first
                | (go_at_call 16; refine (HAl.out _ hsB0).mono ?_; rintro e wS ⟨aS, cS, rfl, hSS, hbS⟩; have hsS := hsB0.trans (hbS.mono hsB0.size); have HSS := Lib.hid hSS; clear hSS hbS)
                | (go_at_call 15; refine (HSm.out _ aS cS hsS HSS.out).mono ?_; rintro e wT ⟨rfl, hbT⟩; have hsT := hsS.trans (hbT.mono hsS.size); clear hbT)))
            all_goals
              have HT := Lib.hid hsT
              clear ld0 ld1 ld2 ld3 hsT hsS hsB0
              go_wp2_with fail
              go_roundw
              case rel => exact ⟨i + 1, by go_num, by omega, HT.out⟩
              case measure => simp [intOf]; omega
          · have di : decide (i < K) = false := decide_eq_false hlti
            have HAw := Lib.hid (awake9_of (w := wr))
            have HBz := Lib.hid (HBx.out.trans (hbq.mono HBx.out.size))
            clear hbq
            go_wp2_with fail
            refine HAw.out.mono ?_; rintro e wa ⟨rfl, hba⟩
            have HBa := Lib.hid (HBz.out.trans (hba.mono HBz.out.size))
            clear hba HAw
            go_wp2_with fail
            go_ret
            exact ⟨rfl, HBa.out⟩
      · have d8 : decide (40 ≤ k) = false := decide_eq_false h40
        have d8i : decide ((40 : Int) ≤ (k : Int)) = false := decide_eq_false (by omega)
        have b0 : w6.cell? ⟨wr.heap.size, 0, none⟩ = some (.int .i64 op.kind) := by rw [cell_at hh5]; rfl
        have b1 : w6.cell? ⟨wr.heap.size, 1, none⟩ = some (.int .i64 op.i) := by rw [cell_at hh5]; rfl
        have b2 : w6.cell? ⟨wr.heap.size, 2, none⟩ = some (.int .i64 op.x) := by rw [cell_at hh5]; rfl
        have b3 : w6.cell? ⟨wr.heap.size, 3, none⟩ = some (.bool op.odd) := by rw [cell_at hh5]; rfl
        have HSt := Lib.hid (step_of op HQ6.out.1 HQ6.out.2.1 hI (by omega))
        have HLL := Lib.hid (stL_len q.l op)
        generalize stL q.l op = m at *
        unfold StPost at HSt
        clear hh5 al5 hz6
        go_wp2_with fail
        refine HSt.out.mono ?_; rintro e w7 ⟨y', a7, c7, rfl, hT7, hS7, hty7, hb7⟩
        have hz7 := (hb7.block _ hltz6).trans HZ6.out
        have zz7 := fun i => unfrozen hz7 i
        have cz7 : w7.cell? ⟨w2.heap.size, 0, none⟩ = some (.pointer q.y) := by rw [cell_at hz7]; rfl
        obtain ⟨w8, hw8⟩ : ∃ w8, w7.setCell ⟨w2.heap.size, 0, none⟩ (.pointer y') = w8 := ⟨_, rfl⟩
        have hz8 : w8.heap[w2.heap.size]? = some (.cells #[.pointer y'] 27 (0, 0)) := by rw [← hw8, heap_set_at hz7]; rfl
        have cz8 : w8.cell? ⟨w2.heap.size, 0, none⟩ = some (.pointer y') := by rw [cell_at hz8]; rfl
        have hW7 : WasIn 95 w.heap.size w7 ⟨y', a7, c7, m⟩ := ⟨hT7, hS7, by show m.length ≤ 400; have := HLL.out; omega, fun d hd => by
          rcases hty7 with rfl | h
          · exact (HQ6.out.2.2.2.below hb7) d hd
          · exact .inr (h d hd)⟩
        have HW8 : Hid (WasIn 95 w.heap.size w8 ⟨y', a7, c7, m⟩) := by rw [← hw8]; exact Lib.hid (hW7.setBox hz7 (by decide))
        have HA8 : Hid (∀ h ∈ hs, WasIn 95 w.heap.size w8 h) := by rw [← hw8]; exact Lib.hid (fun h hh => ((HA6.out h hh).below hb7).setBox hz7 (by decide))
        have HB8 : Hid (Below w.heap.size w w8) := by rw [← hw8]; exact Lib.hid ((HB6.out.trans (hb7.mono HB6.out.size)).setCell (p := ⟨w2.heap.size, 0, none⟩) hzw _)
        have H68 : Hid (w8.ownsRow w3.heap.size 27 1 u6 (k + 1) (hs.map Was.tv)) := by
          rw [← hw8]
          refine Lib.hid (own_set (own_below H66.out hb7) (fun e => ?_))
          have := (H6.out.lt _ e).1; omega
        have H78 : Hid (w8.ownsRow w3.heap.size 22 1 u7 (k + 1) (hs.map Was.sv)) := by
          rw [← hw8]
          refine Lib.hid (own_set (own_below H76.out hb7) (fun e => ?_))
          have := (H7.out.lt _ e).1; omega
        have HZ8 := Lib.hid hz8
        have hlt38 : w3.heap.size ≤ w8.heap.size := by have h1 := H68.out; obtain ⟨g1, c1, _, h2, h3, _⟩ := row_pos h1 (by omega); omega
        clear hT7 hS7 hb7 hz7 hz8 hty7 hW7 HSt b0 b1 b2 b3 cz6 hltz6
        go_wp2_with (first
          | (at_builtin; refine wpList_append_own _ rfl _ _ 43 rfl w3.heap.size 27 i0 (.agg #[.pointer none]) 1 8 Try.underlying43 hi0 hz0 hz1 hz2 rfl (by decide) _ _ _ rfl (own_below H68.out (t_al w8 _)) ⟨w8.heap.size, 0, none⟩ 1 1 [.pointer y'] rfl rfl ?c1 ?c2 ?c3 ?c4 ?c5 ?_)
          | fail)
        case c1 =>
          intro j u hj
          match j, hj with
          | 0, hj => simp at hj; subst hj; simp [Addr.add]
        case c2 => intro u hu; simp at hu; subst hu; rfl
        case c3 => unfold maxLen; omega
        case c4 => omega
        case c5 => simp; omega
        intro v9 w9 hown9 hgrow9 _
        have al9 := t_al w8 (Obj.cells #[.pointer y'] 27)
        have hfar : Far (w8.alloc (Obj.cells #[.pointer y'] 27)) 95 u6.ownBlock := Far.own (own_below H68.out al9) (by unfold okT; decide) (by decide)
        have hb3 : ∀ q, u6.ownBlock = some q → w3.heap.size ≤ q := fun q e => (H68.out.lt q e).1
        have hbw : ∀ q, u6.ownBlock = some q → w.heap.size ≤ q := fun q e => by have := hb3 q e; omega
        have HW9 := Lib.hid ((HW8.out.below al9).far hgrow9 hfar hbw)
        have HA9 := Lib.hid (fun h hh => ((HA8.out h hh).below al9).far hgrow9 hfar hbw)
        have HB9 : Hid (Below w.heap.size w w9) := Lib.hid ((HB8.out.alloc HB8.out.size _).grown hgrow9 (by simp; omega) hbw)
        have HZ9 : Hid (w9.heap[w2.heap.size]? = some (.cells #[.pointer y'] 27 (0, 0))) := by
          refine Lib.hid ((hgrow9.block _ (by have := lt_of_heap HZ8.out; simp; omega) (fun e => ?_)).trans ((al9.block _ (lt_of_heap HZ8.out)).trans HZ8.out))
          have := hb3 _ e.symm; omega
        have H79 : Hid (w9.ownsRow w3.heap.size 22 1 u7 (k + 1) (hs.map Was.sv)) := by
          have h1 := own_below H78.out al9
          refine Lib.hid (h1.kept hgrow9 (.inr (fun e => ?_)))
          obtain ⟨g1, c1, e1, _, _, _⟩ := row_pos H68.out (by omega)
          obtain ⟨g2, c2, e2, _, _, _⟩ := row_pos H78.out (by omega)
          rcases (own_below H68.out al9).2 with ⟨h2, h3⟩ | ⟨g3, cap3, cur3, h2, _, h4, _⟩
          · omega
          · exact own_ne h1 h4 (by decide) (by rw [e, h2]; rfl)
        have H69 : Hid (w9.ownsRow w3.heap.size 27 1 v9 (k + 1 + 1) (hs.map Was.tv ++ [.pointer y'])) := Lib.hid hown9
        have hsz9 : w3.heap.size ≤ w9.heap.size := by have := hgrow9.size; simp at this; omega
        clear hown9 hgrow9 al9 hfar hb3 hbw HA8 HW8 H68 H78 HZ8
        go_wp2_with (first
          | (at_builtin; refine wpList_append_own _ rfl _ _ 44 rfl w3.heap.size 22 j0 (.slice none 0 0) 1 24 Try.underlying44 hj0 hy0 hy1 hy2 rfl (by decide) _ _ _ rfl (own_below H79.out (t_al w9 _)) ⟨w9.heap.size, 0, none⟩ 1 1 [.slice a7 m.length c7] rfl rfl ?c1 ?c2 ?c3 ?c4 ?c5 ?_)
          | fail)
        case c1 =>
          intro j u hj
          match j, hj with
          | 0, hj => simp at hj; subst hj; simp [Addr.add]
        case c2 => intro u hu; simp at hu; subst hu; rfl
        case c3 => unfold maxLen; omega
        case c4 => omega
        case c5 => simp; omega
        intro v10 w10 hown10 hgrow10 _
        have al10 := t_al w9 (Obj.cells #[.slice a7 m.length c7] 22)
        have hfar : Far (w9.alloc (Obj.cells #[.slice a7 m.length c7] 22)) 95 u7.ownBlock := Far.own (own_below H79.out al10) (by unfold okT; decide) (by decide)
        have hb3 : ∀ q, u7.ownBlock = some q → w3.heap.size ≤ q := fun q e => (H79.out.lt q e).1
        have hbw : ∀ q, u7.ownBlock = some q → w.heap.size ≤ q := fun q e => by have := hb3 q e; omega
        have HW10 := Lib.hid ((HW9.out.below al10).far hgrow10 hfar hbw)
        have HA10 := Lib.hid (fun h hh => ((HA9.out h hh).below al10).far hgrow10 hfar hbw)
        have HB10 : Hid (Below w.heap.size w w10) := Lib.hid ((HB9.out.alloc HB9.out.size _).grown hgrow10 (by have := HB9.out.size; simp; omega) hbw)
        have HZ10 : Hid (w10.heap[w2.heap.size]? = some (.cells #[.pointer y'] 27 (0, 0))) := by
          refine Lib.hid ((hgrow10.block _ (by have := lt_of_heap HZ9.out; simp; omega) (fun e => ?_)).trans ((al10.block _ (lt_of_heap HZ9.out)).trans HZ9.out))
          have := hb3 _ e.symm; omega
        have H610 : Hid (w10.ownsRow w3.heap.size 27 1 v9 (k + 1 + 1) (hs.map Was.tv ++ [.pointer y'])) := by
          have h1 := own_below H69.out al10
          refine Lib.hid (h1.kept hgrow10 (.inr (fun e => ?_)))
          rcases (own_below H79.out al10).2 with ⟨h2, h3⟩ | ⟨g3, cap3, cur3, h2, _, h4, _⟩
          · omega
          · exact own_ne h1 h4 (by decide) (by rw [e, h2]; rfl)
        have H710 : Hid (w10.ownsRow w3.heap.size 22 1 v10 (k + 1 + 1) (hs.map Was.sv ++ [.slice a7 m.length c7])) := Lib.hid hown10
        clear hown10 hgrow10 al10 hfar hb3 hbw HA9 HW9 H69 H79 HZ9
        go_wp2_with fail
        go_roundw
        case rel =>
          refine ⟨k + 1, ⟨y', a7, c7, m⟩, hs ++ [⟨y', a7, c7, m⟩], by go_num, rfl, by omega, by omega, by show m.length ≤ _; have := HLL.out; omega, HZ10.out, HW10.out, fun h hh => ?_, by rw [List.length_append, HL.out]; rfl, by rw [List.map_append]; exact H610.out, by rw [List.map_append]; exact H710.out, HB10.out⟩
          rcases List.mem_append.1 hh with hh | hh
          · exact HA10.out h hh
          · simp at hh; subst hh; exact HW10.out
        case measure => simp [intOf]; omega
    · have dk : decide (k < N) = false := decide_eq_false hlt
      have HBx := HB
      have HAx := HA
      have H6x := H6
      have H7x := H7
      have hx6 := H6x.out
      have hx7 := H7x.out
      obtain ⟨g6, c6, rfl, _, hlt6, hc6⟩ := row_pos hx6 (by omega)
      obtain ⟨g7, c7, rfl, _, hlt7, hc7⟩ := row_pos hx7 (by omega)
      have HC6 := Lib.hid hc6
      have HC7 := Lib.hid hc7
      clear hx6 hx7 hc6 hc7
      obtain ⟨wo, hwo⟩ : ∃ wo : World, wo = wr := ⟨_, rfl⟩
      rw [← hwo] at HC6 HC7 HAx HBx hlt6 hlt7
      obtain ⟨K, hK⟩ : ∃ K, k + 1 = K := ⟨_, rfl⟩
      have HKL : Hid (hs.length = K) := Lib.hid (by rw [HL.out, hK])
      have hK41 : K ≤ 41 := by omega
      go_upto_region 13 with fail
      rw [← hwo]
      have hK1 : ((k : Int) + 1) = (K : Int) := by omega
      rw [hK]
      clear hwo hK
      go_wp2_with fail
      go_loopw [47] (fun v47 wq => ∃ i : Nat, v47 = .int .i64 i ∧ i ≤ K ∧ Below wo.heap.size wo wq) (fun v47 _ => K - (intOf v47).toNat)
      case atStart => exact ⟨0, rfl, by omega, Below.refl _ _⟩
      case round =>
        obtain ⟨i, rfl, hi, hbq⟩ := hrel
        have HBQ := Lib.hid hbq
        by_cases hlti : i < K
        · have di : decide (i < K) = true := decide_eq_true hlti
          obtain ⟨h, hh⟩ : ∃ h, hs[i]? = some h := ⟨_, List.getElem?_eq_getElem (by rw [HKL.out]; exact hlti)⟩
          have hm := HAx.out h (List.mem_of_getElem? hh)
          have t0 := HC6.out i h.tv (by rw [List.getElem?_map, hh]; rfl)
          have t1 := HC7.out i h.sv (by rw [List.getElem?_map, hh]; rfl)
          unfold Was.tv at t0
          unfold Was.sv at t1
          have HAl := Lib.hid (fun w' (hb : Below wo.heap.size wo w') => nall (hm.1.below hb) (by have := hm.2.2.1; omega))
          have HSm := Lib.hid (fun w' (b : Option Addr) (d : Nat) (hb : Below wo.heap.size wo w') (hS : Sl w' b d (nums h.l)) => nsame h.l h.l hS (hm.2.1.below hb) (by have := hm.2.2.1; omega))
          rw [show decide (h.l = h.l) = true by simp] at HSm
          have f0 : (0 : Int) ≤ (i : Int) := by omega
          have f1 : (i : Int) < (K : Int) := by omega
          have ld0 := fun w' (hb : Below wo.heap.size wo w') => (hb.cell (p := ⟨g6, i, none⟩) hlt6).trans t0
          have ld1 := fun w' (hb : Below wo.heap.size wo w') => (hb.cell (p := ⟨g7, i, none⟩) hlt7).trans t1
          have ld2 := fun w' (hb : Below wo.heap.size wo w') => (hb.cell (p := ⟨g6, 0 + i, none⟩) hlt6).trans (by rw [Nat.zero_add]; first | done | exact t0)
          have ld3 := fun w' (hb : Below wo.heap.size wo w') => (hb.cell (p := ⟨g7, 0 + i, none⟩) hlt7).trans (by rw [Nat.zero_add]; first | done | exact t1)
          clear hm t0 t1 hbq
          go_upto_region 16 with fail
          have hsB0 : Below wo.heap.size wo wr.drew := HBQ.out.drew
          go_region_held3 (fun w' => Below wo.heap.size wo w')
            (first | assumption)
            ((first
              | (go_at_call 16; refine (HAl.out _ hsB0).mono ?_; rintro e wS ⟨aS, cS, rfl, hSS, hbS⟩; have hsS := hsB0.trans (hbS.mono hsB0.size); have HSS := Lib.hid hSS; clear hSS hbS)
              | (go_at_call 15; refine (HSm.out _ aS cS hsS HSS.out).mono ?_; rintro e wT ⟨rfl, hbT⟩; have hsT := hsS.trans (hbT.mono hsS.size); clear hbT)))
          all_goals
            have HT := Lib.hid hsT
            clear ld0 ld1 ld2 ld3 hsT hsS hsB0
            go_wp2_with fail
            go_roundw
            case rel => exact ⟨i + 1, by go_num, by omega, HT.out⟩
            case measure => simp [intOf]; omega
        · have di : decide (i < K) = false := decide_eq_false hlti
          have HAw := Lib.hid (awake9_of (w := wr))
          have HBz := Lib.hid (HBx.out.trans (hbq.mono HBx.out.size))
          clear hbq
          go_wp2_with fail
          refine HAw.out.mono ?_; rintro e wa ⟨rfl, hba⟩
          have HBa := Lib.hid (HBz.out.trans (hba.mono HBz.out.size))
          clear hba HAw
          go_wp2_with fail
          go_ret
          exact ⟨rfl, HBa.out⟩

end Go.Proofs.Ytofncnommekbjaa
