/-
  Texts of this seat, put together (a claim holds few texts): WgI, WgJ, WgK.
-/
import Derived.Test.YtkgakgceamafcaaGreatMk30
import Derived.Sort.LoopGhostIn
import Derived.Maps.OwnIn

namespace Go.Proofs.YtkgakgceamafcaaGreat
open Go Go.RowKit
set_option linter.unusedVariables false

/-- Which function piles kids. -/
def pkOf (d : Bool) : Nat :=
  if d then 122 else 164
/-- The ways that there are here. -/
def dirOk (d : Bool) : Prop :=
  d = d
theorem dirOk_t : dirOk true := rfl

theorem own_pop {w : World} {B c : Nat} {a : Option Addr} {T : TypeId} {rest : List Ent} {e : Ent} (h : w.ownsRow B T 2 (.slice a (rest.length + 1) c) (rest.length + 1) (spQ (rest ++ [e]))) :
    ∃ g, a = some ⟨g, 0, none⟩ ∧ B ≤ g ∧ g < w.heap.size ∧ rest.length + 1 ≤ c ∧ w.cell? ⟨g, rest.length * 2, none⟩ = some (ptr e.b) ∧ w.cell? ⟨g, rest.length * 2 + 1, none⟩ = some (.int .i64 (e.f : Int)) ∧ w.ownsRow B T 2 (.slice a rest.length c) rest.length (spQ rest) := by
  rcases t_form h with ⟨_, h0, _⟩ | ⟨g, rfl, hB, hlt, h1, h2⟩
  · omega
  · have hx : (rest ++ [e])[rest.length]? = some e := by rw [List.getElem?_append_right (Nat.le_refl _), Nat.sub_self]; rfl
    obtain ⟨p1, p2⟩ := spQ_at hx
    have c1 := h.cells (g := g) rfl _ _ p1
    have c2 := h.cells (g := g) rfl _ _ p2
    rw [Addr.add_lit, Nat.zero_add] at c1 c2
    refine ⟨g, rfl, hB, hlt, h1, c1, c2, spQ_len rest, .inr ?_⟩
    rcases h.2 with ⟨hn, _⟩ | ⟨g', cap, cur, e1, e2, e3, e4, e5, e6, e7⟩
    · cases hn
    · simp only [Value.slice.injEq, Option.some.injEq, Addr.mk.injEq] at e1
      obtain ⟨⟨rfl, _⟩, _, rfl⟩ := e1
      refine ⟨g, c, cur, rfl, e2, e3, by omega, e5, e6, ?_⟩
      have : cur.toList.take (rest.length * 2) = (cur.toList.take ((rest.length + 1) * 2)).take (rest.length * 2) := by rw [List.take_take]; congr 1; omega
      rw [this, e7, spQ_app, ← spQ_len rest, List.take_left]

theorem own_blk {W W' : World} {B s g n c : Nat} {e : TypeId} {xs : List Value} (h : W.ownsRow B e s (.slice (some ⟨g, 0, none⟩) n c) n xs) (hb : W'.heap[g]? = W.heap[g]?) : W'.ownsRow B e s (.slice (some ⟨g, 0, none⟩) n c) n xs := by
  refine ⟨h.1, ?_⟩
  rcases h.2 with hn | ⟨g', cap, cur, he, h1, h2, rest⟩
  · exact .inl hn
  · have : g' = g := by injection he with he; injection he with he; injection he with he; exact he.symm
    subst this
    exact .inr ⟨g', cap, cur, he, h1, hb.trans h2, rest⟩
/-- What leaves' loop keeps between two rounds. -/
def LvI (J : List Leaf → Bls → World → Prop) (w0 wC : World) (n₀ : Nat) (D0 : Bls) (d : Bool) (i j : Nat) (R : List Leaf) (gk : Nat) (s : Value) (wr : World) : Prop :=
  ∃ (pre : List Leaf) (D : Bls) (stk : List Ent) (a : Option Addr) (c : Nat), s = .slice a stk.length c ∧ gk = sumM stk ∧ gk ≤ 1000000 ∧ J pre D wr ∧ Have D wr ∧ (∀ k, D0 k → D k) ∧ Same D0 wC wr ∧ Below n₀ wC wr ∧ wC.heap.size ≤ wr.heap.size ∧
    wr.ownsRow wC.heap.size 211 2 (.slice a stk.length c) stk.length (spQ stk) ∧ (∀ q, a = some q → D q.block) ∧ (∀ e ∈ stk, (∃ h, Node w0 194 h e) ∧ e.f + e.n ≤ 1000000) ∧ R = pre ++ remL d i j stk

theorem node_num {w : World} {T : TypeId} {h : Nat} {e : Ent} (H : Node w T h e) : w.cell? ⟨e.b, 2, none⟩ = some (.int .i64 (e.n : Int)) ∧ e.b < w.heap.size := by
  cases h with
  | zero =>
    obtain ⟨t, h1, h2, h3, _⟩ := H
    have := h1.num
    have e0 : (flatL 0 t).length = t.length := by rw [flatL_zero]
    rw [e0] at this
    rw [h3]
    exact ⟨this, h1.lt⟩
  | succ h =>
    obtain ⟨g, o, c, es, _, _, _, h1, _, _, h2, _⟩ := H
    exact ⟨h2, h1⟩
/-- Nothing of the stretch lies below it. -/
theorem skip_ok {w : World} {T : TypeId} {h i j : Nat} {e : Ent} (H : Node w T h e) (d : Bool) (hs : j ≤ e.f ∨ e.f + e.n ≤ i) : dirL d (e.ls.filter (inR i j)) = [] := by
  obtain ⟨h1, h2, _⟩ := node_run H
  rw [run_out h1 (by rw [h2]; exact hs)]
  exact dirL_nil d
/-- A leaf that has something of it. -/
theorem leaf_ok {i j : Nat} {e : Ent} {t : List Value} (hn : e.n = t.length) (hls : e.ls = [(e.b, e.f, t)]) (d : Bool) (h1 : e.f < j) (h2 : i < e.f + e.n) : dirL d (e.ls.filter (inR i j)) = [(e.b, e.f, t)] := by
  rw [hls]
  have : inR i j (e.b, e.f, t) = true := by
    unfold inR
    rw [decide_eq_true (show e.f < j from h1), decide_eq_true (show i < e.f + t.length by omega)]; rfl
  rw [List.filter_cons, this]
  exact dirL_one d _
theorem len_le_sumM {w : World} {T : TypeId} : ∀ {stk : List Ent}, (∀ e ∈ stk, ∃ h, Node w T h e) → stk.length ≤ sumM stk
  | [], _ => Nat.zero_le _
  | e :: stk, h => by
    obtain ⟨h', hn⟩ := h e (List.mem_cons_self ..)
    have := (node_run hn).2.2.2
    have := len_le_sumM (stk := stk) (fun x hx => h x (List.mem_cons_of_mem _ hx))
    show stk.length + 1 ≤ (e.m :: stk.map (·.m)).sum
    rw [List.sum_cons]
    unfold sumM at this
    omega

/-- Kids, in the order in which they are piled. -/
theorem pile_mem {d : Bool} {es : List Ent} {x : Ent} (h : x ∈ pile d es) : x ∈ es := by
  unfold pile dirL at h
  cases d <;> simpa using h
theorem pile_len (d : Bool) (es : List Ent) : (pile d es).length = es.length := dirL_len _ _
theorem pile_sumM (d : Bool) (es : List Ent) : sumM (pile d es) = sumM es := by
  unfold pile dirL
  cases d
  · rfl
  · exact sumM_rev es
/-- Behind an append: where the stack lies. -/
theorem lies_q {w : World} {B g n c : Nat} {T : TypeId} {v' : Value} {xs : List Value} (h : w.ownsRow B T 2 v' n xs) (hn : 0 < n) {H : Nat} (hat : v'.ownBlock = (Value.slice (some ⟨g, 0, none⟩) n c).ownBlock ∨ v'.ownBlock = some H) : ∃ g' c', v' = .slice (some ⟨g', 0, none⟩) n c' ∧ (g' = g ∨ g' = H) ∧ g' < w.heap.size := by
  obtain ⟨g', c', rfl, _, hlt⟩ := h.form hn
  refine ⟨g', c', rfl, ?_, hlt⟩
  simp only [Value.ownBlock, Option.some.injEq] at hat
  exact hat

set_option maxRecDepth 100000 in
/-- The pile that lets kids be. -/
theorem stay_i {w : World} {g m c : Nat} : Calls Tryz.prog 164 #[.slice (some ⟨g, 0, none⟩) m c] w fun e w' => (∃ v, e = .returned v) ∧ w = w' := by
  go_enter Tryz.func164, Tryz.ntmps164
  go_wp2_with fail
  go_end0
  exact ⟨⟨_, rfl⟩, rfl⟩
/-- Whichever pile. -/
theorem pile_i (d : Bool) (hdk : dirOk d) {w : World} {g m c : Nat} {es : List Ent} (hg : w.heap[g]? = some (.cells (spQ es).toArray 211 (0, 0))) (hm : es.length = m) (hl : m ≤ 1000000) :
    Calls Tryz.prog (pkOf d) #[.slice (some ⟨g, 0, none⟩) m c] w fun e w' => (∃ v, e = .returned v) ∧ w'.heap[g]? = some (.cells (spQ (pile d es)).toArray 211 (0, 0)) ∧ Moves (fun k => k = g) w w' := by
  cases d
  · exact stay_i.mono (by rintro e w' ⟨h1, rfl⟩; exact ⟨h1, hg, Moves.refl _ _⟩)
  · exact rev_i hg hm hl

end Go.Proofs.YtkgakgceamafcaaGreat

namespace Go.Proofs.YtkgakgceamafcaaGreat
open Go Go.RowKit Go.Shelf
set_option linter.unusedVariables false
attribute [local go_sem] Oper.semAt_some

set_option maxRecDepth 100000 in
set_option maxHeartbeats 4000000 in
theorem leaves_iter (n n₀ Bi Bj Bt Bp : Nat) (d : Bool) (hdk : dirOk d) {w0 w : World} {e0 : Ent} {L : List Value} {h0 i j : Nat} {D0 : Bls} (hw : Below w0.heap.size w0 w) (hn0 : w0.heap.size ≤ n₀) (hn : n₀ ≤ w.heap.size) (hD0 : Have D0 w) (di : D0 Bi) (dj : D0 Bj) (dt : D0 Bt) (dp : D0 Bp)
    (ci : w.cell? ⟨Bi, 0, none⟩ = some (.int .i64 (i : Int))) (cj : w.cell? ⟨Bj, 0, none⟩ = some (.int .i64 (j : Int))) (ct : w.cell? ⟨Bt, 0, none⟩ = some (ptr e0.b)) (cp : w.cell? ⟨Bp, 0, none⟩ = some (fnv (pkOf d)))
    (HT : Tin w0 194 (ptr e0.b) L) (H : Node w0 194 h0 e0) (hf : e0.f = 0) (hm : e0.m ≤ 1000000) (hl : e0.n ≤ 1000000) (hij : i < j) (hj : j ≤ 2000000) :
    Iter Fence.wide n Tryz.prog 184 #[pbox Bi, pbox Bj, pbox Bt, pbox Bp] (fun x : Leaf => #[spotV x.1 x.2.1]) n₀ (fun ys => ys = remL d i j [e0]) (fun pre => pre <+: remL d i j [e0]) (fun pre x => (remL d i j [e0])[pre.length]? = some x) D0 w := fun l J Jx W hW hJ hJx hY hJ0 => by
  have hlt (k : Nat) (h : D0 k) : k < W.heap.size := Nat.lt_of_lt_of_le (hD0 k h) hW.size
  have ci' := (hW.cell (p := ⟨Bi, 0, none⟩) (hD0 _ di)).trans ci
  have cj' := (hW.cell (p := ⟨Bj, 0, none⟩) (hD0 _ dj)).trans cj
  have ct' := (hW.cell (p := ⟨Bt, 0, none⟩) (hD0 _ dt)).trans ct
  have cp' := (hW.cell (p := ⟨Bp, 0, none⟩) (hD0 _ dp)).trans cp
  have hW0 : Below w0.heap.size w0 W := hw.trans (hW.mono hw.size)
  have hnW : n₀ ≤ W.heap.size := Nat.le_trans hn hW.size
  have HR := Lib.hid ((callsIn_wide (n := n - 1)).2 (root_i (HT.below hW0)))
  have hne : ((i : Int) == (j : Int)) = false := by simp; omega
  have hne2 : decide ((i : Int) = (j : Int)) = false := by simp; omega
  have hne3 : decide (i = j) = false := by simp; omega
  clear ci cj ct cp HT hn
  obtain ⟨R, hR⟩ : ∃ R, remL d i j [e0] = R := ⟨_, rfl⟩
  rw [hR] at hY ⊢
  have CP := Lib.hid cp'
  refine callsIn_of_wp Tryz.func184 rfl trivial ?_ rfl
  simp only [Tryz.ntmps184, List.size_toArray, List.length_cons, List.length_nil, Nat.reduceAdd, Nat.reduceSub, Array.replicate_succ, Array.replicate_zero, List.push_toArray, List.append_toArray, List.nil_append, List.cons_append]
  gi_wp2
  refine ⟨trivial, fun h => by simp [Fence.wide] at h, HR.out.mono ?_⟩
  rintro e w1 ⟨rfl, hb1⟩
  have hh2 := heap_alloc_new w1 (Obj.cells #[ptr e0.b, .int .i64 0] 211)
  have hb2 := t_al w1 (Obj.cells #[ptr e0.b, .int .i64 0] 211)
  have hz2 : (w1.alloc (Obj.cells #[ptr e0.b, .int .i64 0] 211)).heap.size = w1.heap.size + 1 := by simp
  obtain ⟨w2, hw2⟩ : ∃ w2, w1.alloc (Obj.cells #[ptr e0.b, .int .i64 0] 211) = w2 := ⟨_, rfl⟩
  rw [hw2] at hh2 hb2 hz2
  gi_wp2
  have hb02 := hb1.trans (hb2.mono hb1.size)
  have hz1 := hb1.size
  have hst : LvI J w0 W n₀ D0 d i j R (sumM [e0]) (.slice (some ⟨w1.heap.size, 0, none⟩) 1 1) w2 := by
    refine ⟨[], fun k => D0 k ∨ k = w1.heap.size, [e0], some ⟨w1.heap.size, 0, none⟩, 1, rfl, rfl, by rw [sumM_one]; exact hm, hJ _ _ _ _ _ hJ0 (Moves.below hb02) (fun k h => h.elim .inl (fun h => .inr (by omega))), fun k h => h.elim (fun h => by have := hlt k h; omega) (fun h => by omega), fun k h => .inl h, Same.below hb02 hlt, hb02.mono hnW, hb02.size, ⟨rfl, .inr ⟨w1.heap.size, 1, #[ptr e0.b, .int .i64 0], rfl, hz1, hh2, Nat.le_refl _, by unfold maxLen; omega, rfl, ?_⟩⟩, fun q hq => by injection hq with hq; rw [← hq]; exact .inr rfl, fun e he => ?_, by rw [← hR]; rfl⟩
    · show _ = [ptr e0.b, .int .i64 (e0.f : Int)]
      rw [hf]; rfl
    · simp at he; subst he; exact ⟨⟨_, H⟩, by omega⟩
  have HST := Lib.hid hst
  clear hst hb02 hb1 hb2 hh2 hz2 hw2 hne hne2 hne3 ct' HR
  gi_loopg [6] (sumM [e0]) (fun gk s wr => LvI J w0 W n₀ D0 d i j R gk s wr)
  case atStart => exact HST.out
  case round =>
    clear HST
    obtain ⟨pre, D, stk, a, c, rfl, rfl, hm6, hJr, hDr, hDD, hsm, hbr, hzr, hown, hab, hnd, hrem⟩ := hrel
    have hw0r : Below w0.heap.size w0 wr := hW0.trans (hbr.mono hn0)
    have ci2 := (hsm.cell (o := 0) di).trans ci'
    have cj2 := (hsm.cell (o := 0) dj).trans cj'
    have cp2 := (hsm.cell (o := 0) dp).trans CP.out
    rcases List.eq_nil_or_concat stk with rfl | ⟨rest, e, rfl⟩
    · have HE := Lib.hid (And.intro hJr hrem)
      clear hJr hrem hown hsm hbr hnd ci2 cj2 cp2
      simp only [List.length_nil]
      gi_wp2
      go_end0
      have h1 := HE.out.2
      rw [show remL d i j [] = [] from rfl, List.append_nil] at h1
      exact ⟨⟨_, rfl⟩, .inl ⟨_, _, rfl, by rw [h1]; exact HE.out.1⟩⟩
    · rw [List.concat_eq_append] at hown hrem hnd hm6 ⊢
      obtain ⟨⟨he, hN⟩, hfn⟩ := hnd e (by simp)
      have hnr : ∀ x ∈ rest, (∃ h, Node w0 194 h x) ∧ x.f + x.n ≤ 1000000 := fun x hx => hnd x (by simp [hx])
      have hlen : (rest ++ [e]).length = rest.length + 1 := by simp
      have hlm := len_le_sumM (fun x hx => (hnr x hx).1)
      have hsM : sumM (rest ++ [e]) = sumM rest + e.m := by rw [sumM_app, sumM_one]
      rw [hlen] at hown ⊢
      have HSM : Hid (sumM (rest.concat e) = sumM rest + e.m) := by rw [List.concat_eq_append]; exact Lib.hid hsM
      rw [hsM] at hm6
      obtain ⟨g, rfl, hBg, hgl, hgc, q1, q2, hown'⟩ := own_pop hown
      rw [remL_snoc] at hrem
      have hDg : D g := hab _ rfl
      obtain ⟨nb, nl⟩ := node_num hN
      have nb2 := (hw0r.cell (p := ⟨e.b, 2, none⟩) nl).trans nb
      have hJw := Lib.hid (And.intro hJr (And.intro hDr (And.intro hDD (And.intro hsm (And.intro hbr hown')))))
      have hpop : ∀ W', Below wr.heap.size wr W' → R = pre ++ remL d i j rest → LvI J w0 W n₀ D0 d i j R (sumM rest) (.slice (some ⟨g, 0, none⟩) rest.length c) W' := fun W' hb hr =>
        ⟨pre, D, rest, some ⟨g, 0, none⟩, c, rfl, rfl, by omega, hJ.below hJw.out.1 hb, fun k hk => Nat.lt_of_lt_of_le (hJw.out.2.1 k hk) hb.size, hJw.out.2.2.1, hJw.out.2.2.2.1.trans (Same.below hb (fun k hk => hJw.out.2.1 k (hJw.out.2.2.1 k hk))), hJw.out.2.2.2.2.1.trans (hb.mono (Nat.le_trans hnW hzr)), Nat.le_trans hzr hb.size, own_below hJw.out.2.2.2.2.2 hb, fun q hq => by injection hq with hq; rw [← hq]; exact hDg, hnr, hr⟩
      have hh3 := heap_alloc_new wr (Obj.cells #[ptr e.b, .int .i64 (e.f : Int)] 211)
      have hb3 := t_al wr (Obj.cells #[ptr e.b, .int .i64 (e.f : Int)] 211)
      have HE := Lib.hid (And.intro hN (And.intro hrem hpop))
      have hep := (node_run hN).2.2.2
      have ep : 0 < e.m := hep
      obtain ⟨w3, hw3⟩ : ∃ w3, wr.alloc (Obj.cells #[ptr e.b, .int .i64 (e.f : Int)] 211) = w3 := ⟨_, rfl⟩
      have hz3 : (wr.alloc (Obj.cells #[ptr e.b, .int .i64 (e.f : Int)] 211)).heap.size = wr.heap.size + 1 := by simp
      rw [hw3] at hh3 hb3 hz3
      have c03 : w3.cell? ⟨wr.heap.size, 0, none⟩ = some (ptr e.b) := (cell_at hh3 0).trans rfl
      have c13 : w3.cell? ⟨wr.heap.size, 1, none⟩ = some (.int .i64 (e.f : Int)) := (cell_at hh3 1).trans rfl
      have ci3 := (hb3.cell (p := ⟨Bi, 0, none⟩) (show Bi < wr.heap.size by have := hlt _ di; omega)).trans ci2
      have cj3 := (hb3.cell (p := ⟨Bj, 0, none⟩) (show Bj < wr.heap.size by have := hlt _ dj; omega)).trans cj2
      have nb3 := (hb3.cell (p := ⟨e.b, 2, none⟩) (show e.b < wr.heap.size by have := hw0r.size; omega)).trans nb2
      obtain ⟨f, hef⟩ : ∃ f, e.f = f := ⟨_, rfl⟩
      obtain ⟨nn, hen⟩ : ∃ nn, e.n = nn := ⟨_, rfl⟩
      obtain ⟨eb, heb⟩ : ∃ eb, e.b = eb := ⟨_, rfl⟩
      obtain ⟨rl, hrl⟩ : ∃ rl, rest.length = rl := ⟨_, rfl⟩
      have EQ := Lib.hid (And.intro hef (And.intro hen (And.intro heb hrl)))
      rw [heb] at q1 hw3 c03 nb3
      rw [hef] at q2 hw3 c13 hfn
      rw [hen] at nb3 hfn
      rw [hrl] at q1 q2 hgc ⊢
      have hlr : rl + 1 ≤ 1000001 := by omega
      have e1 : (0 : Int) ≤ (rl : Int) := by omega
      have e2 : (rl : Int) < (rl : Int) + 1 := by omega
      have e3 : (rl : Int) ≤ (c : Int) := by omega
      have HB3 := Lib.hid hb3
      have HNR := Lib.hid hnr
      clear hrem hpop hN hnd hnr hown hown' hJr hsm hbr hab hlen hlm hsM hh3 hb3 hef hen heb hrl hep nb2 ci2 cj2 cp2 nb H
      by_cases hA : j ≤ f
      · have hA1 : decide ((j : Int) ≤ (f : Int)) = true := decide_eq_true (by omega)
        have hA2 : decide (j ≤ f) = true := decide_eq_true hA
        have hE := HE.out.2.2 (w3.drewN 0) (HB3.out.trans ⟨rfl, rfl, rfl, Nat.le_refl _, fun _ _ => rfl⟩)
        have HS := Lib.hid (fun nq => HE.out.2.2 (w3.drewN nq) (HB3.out.trans ⟨rfl, rfl, rfl, Nat.le_refl _, fun _ _ => rfl⟩) (by have h1 := HE.out.2.1; rw [skip_ok HE.out.1 d (.inl (by rw [EQ.out.1]; exact hA)), List.nil_append] at h1; exact h1))
        rw [EQ.out.2.2.2] at HS
        clear hE
        gi_wp2
        gi_big_quiet_th (fail)
        gi_wp2
        gi_roundg (sumM rest)
        case measure => have := HSM.out; omega
        case rel => exact HS.out _
      · have hA1 : decide ((j : Int) ≤ (f : Int)) = false := decide_eq_false (by omega)
        have hA2 : decide (j ≤ f) = false := decide_eq_false hA
        by_cases hB : f + nn ≤ i
        · have hB1 : decide ((f : Int) + (nn : Int) ≤ (i : Int)) = true := decide_eq_true (by omega)
          have hB2 : decide (f + nn ≤ i) = true := decide_eq_true hB
          have HS := Lib.hid (fun nq => HE.out.2.2 (w3.drewN nq) (HB3.out.trans ⟨rfl, rfl, rfl, Nat.le_refl _, fun _ _ => rfl⟩) (by have h1 := HE.out.2.1; rw [skip_ok HE.out.1 d (.inr (by rw [EQ.out.1, EQ.out.2.1]; exact hB)), List.nil_append] at h1; exact h1))
          rw [EQ.out.2.2.2] at HS
          gi_wp2
          gi_big_quiet_th (fail)
          gi_wp2
          gi_roundg (sumM rest)
          case measure => have := HSM.out; omega
          case rel => exact HS.out _
        · have hB1 : decide ((f : Int) + (nn : Int) ≤ (i : Int)) = false := decide_eq_false (by omega)
          have hB2 : decide (f + nn ≤ i) = false := decide_eq_false hB
          have hN0 := HE.out.1
          cases he with
          | zero =>
            obtain ⟨tl, hin, htl, hn1, _, hls⟩ := hN0
            have hlk := leaf_ok (i := i) (j := j) hn1 hls d (by rw [EQ.out.1]; omega) (by rw [EQ.out.1, EQ.out.2.1]; omega)
            have hRp := HE.out.2.1
            rw [hlk] at hRp
            obtain ⟨ka, kc, k0, _, _⟩ := hin.items
            have k03 := (HB3.out.cell (p := ⟨e.b, 0, none⟩) (show e.b < wr.heap.size by have := hw0r.size; omega)).trans ((hw0r.cell (p := ⟨e.b, 0, none⟩) nl).trans k0)
            rw [EQ.out.2.2.1] at k03 hRp
            rw [EQ.out.1] at hRp
            have HP := Lib.hid hRp
            have hRat : R[pre.length]? = some (eb, f, tl) := by rw [HP.out, List.getElem?_append_right (Nat.le_refl _), Nat.sub_self]; rfl
            have HY := Lib.hid (fun nq => hY pre (eb, f, tl) D (w3.drewN nq) (hJ.below hJw.out.1 (HB3.out.trans ⟨rfl, rfl, rfl, Nat.le_refl _, fun _ _ => rfl⟩)) (fun k hk => Nat.lt_of_lt_of_le (hJw.out.2.1 k hk) HB3.out.size) hRat)
            clear hRp hRat hin hls hlk k0 hn1
            gi_wp2
            gi_big_quiet_th (fail)
            obtain ⟨fn, tmps, assign, body, hy, hR2⟩ := HY.out nq
            simp only [spotV] at hy
            gi_wp2
            refine ⟨fun h => by simp [Fence.wide] at h, hR2.mono ?_⟩
            rintro e2 W3 ⟨hs3, (⟨rfl, hJ3, hk3⟩ | ⟨rfl, hJx3⟩)⟩
            · gi_wp2
              have hbq : Below wr.heap.size wr (w3.drewN nq) := HB3.out.trans ⟨rfl, rfl, rfl, Nat.le_refl _, fun _ _ => rfl⟩
              have hD3 : Have D (w3.drewN nq) := fun k hk => Nat.lt_of_lt_of_le (hJw.out.2.1 k hk) hbq.size
              gi_roundg (sumM rest)
              case measure => have := HSM.out; omega
              case rel =>
                refine ⟨pre ++ [(eb, f, tl)], D, rest, some ⟨g, 0, none⟩, c, by rw [EQ.out.2.2.2], rfl, by omega, hJ3, fun k hk => hs3.lt hD3 hk, hJw.out.2.2.1, hJw.out.2.2.2.1.trans ((Same.below hbq (fun k hk => hJw.out.2.1 k (hJw.out.2.2.1 k hk))).trans (hs3.mono hJw.out.2.2.1)), hJw.out.2.2.2.2.1.trans ((hbq.mono (Nat.le_trans hnW hzr)).trans hk3), ?_, ?_, fun q hq => by injection hq with hq; rw [← hq]; exact hDg, HNR.out, by rw [HP.out, List.append_assoc]⟩
                · have := hbq.size; have := hk3.size; omega
                · exact own_blk (own_below hJw.out.2.2.2.2.2 hbq) (hs3 g hDg)
            · gi_wp2
              refine bodyPost_ret (results_none rfl _ _ _) rfl ?_
              exact ⟨⟨_, rfl⟩, .inr ⟨_, _, ⟨remL d i j rest, by rw [HP.out, List.append_assoc]⟩, hJx3⟩⟩
          | succ h =>
            obtain ⟨g2, o2, c2, es, hes, hec, hcm, hebl, hg2, k0, _, hsn, hsm2, hls, hkid⟩ := hN0
            have hlsM := len_le_sumM (fun x hx => by obtain ⟨k, hk⟩ := List.mem_iff_getElem?.1 hx; exact ⟨h, (hkid k x hk).2.2⟩)
            have HRp := Lib.hid HE.out.2.1
            have k03 := (HB3.out.cell (p := ⟨e.b, 0, none⟩) (show e.b < wr.heap.size by have := hw0r.size; omega)).trans ((hw0r.cell (p := ⟨e.b, 0, none⟩) nl).trans k0)
            rw [EQ.out.2.2.1] at k03
            have hbx (nq : Nat) : Below wr.heap.size wr (w3.drewN nq) := HB3.out.trans ⟨rfl, rfl, rfl, Nat.le_refl _, fun _ _ => rfl⟩
            have HK := Lib.hid (fun nq => (callsIn_wide (n := n - 1)).2 (kids_i (w := w3.drewN nq) (w0 := w0) (b := eb) (f := f) (h := h) (hw0r.trans ((hbx nq).mono hw0r.size)) (by rw [← EQ.out.2.2.1]; exact nl) hg2 (by rw [← EQ.out.2.2.1]; exact k0) (by omega) hes (by rw [← hsn, EQ.out.2.1]; omega)
              (fun k x hk => by
                obtain ⟨r1, r2, r3⟩ := hkid k x hk
                exact ⟨r1, by rw [← EQ.out.1]; exact r2, node_num r3⟩)))
            obtain ⟨m, hm'⟩ : ∃ m, es.length = m := ⟨_, rfl⟩
            have HMM := Lib.hid (And.intro hm' (And.intro hsn (And.intro hsm2 (And.intro hls hkid))))
            rw [hm'] at k03 HK hes hlsM
            have d0 : decide ((0 : Int) < (m : Int)) = true := decide_eq_true (by omega)
            have d0' : decide (0 < m) = true := decide_eq_true hes
            clear hm' hsn hls hkid k0 hec
            gi_wp2
            gi_big_quiet_th (fail)
            have hVb := Lib.hid (hbx nq)
            have HK2 := Lib.hid (HK.out nq)
            clear hbx HK
            gi_wp2
            refine ⟨trivial, fun h => by simp [Fence.wide] at h, HK2.out.mono ?_⟩
            rintro e4 w5 ⟨g5, rfl, hg5, hh5, hb5⟩
            have hb5w := hVb.out.trans (hb5.mono hVb.out.size)
            have cp5 := (hb5w.cell (p := ⟨Bp, 0, none⟩) (show Bp < wr.heap.size by have := hlt _ dp; omega)).trans ((hJw.out.2.2.2.1.cell (o := 0) dp).trans CP.out)
            have HPi := Lib.hid (pile_i d hdk (c := m) hh5 HMM.out.1 (by omega))
            have hg5w : wr.heap.size ≤ g5 := Nat.le_trans hVb.out.size hg5
            have HB5 := Lib.hid hb5w
            have OW5 := Lib.hid (own_below hJw.out.2.2.2.2.2 hb5w)
            have hlt5 := lt_of_heap hh5
            have hz5 := hb5w.size
            rw [EQ.out.2.2.2] at OW5
            clear HK2 hb5 hb5w hg5 hh5
            rcases Bool.eq_false_or_eq_true d with hd | hd <;>
            ( first
              | (have e7 : pkOf d = 122 := by rw [hd]; rfl
                 rw [e7] at cp5 HPi
                 clear e7)
              | (have e7 : pkOf d = 164 := (by rw [hd]; rfl); rw [e7] at cp5 HPi; clear e7)
              gi_wp2
              refine ⟨trivial, fun h => by simp [Fence.wide] at h, ((callsIn_wide (n := n - 1)).2 HPi.out).mono ?_⟩
              rintro e6 w6 ⟨⟨v6, rfl⟩, hh6, hm6'⟩
              have OW6 := Lib.hid (own_blk OW5.out (hm6'.block g (by omega) (by omega)))
              have hz6 := hm6'.size
              have HH6 := Lib.hid (And.intro hh6 hm6')
              obtain ⟨i0, hi0, hzz0, hzz1, hzz2⟩ := info_parts info_sp
              clear hh6 hm6'
              gi_wp2_with (gi_at_builtin; refine wpListIn_append_own_at _ rfl (.tmp 60) (.tmp 61) 209 rfl W.heap.size 211 i0 (.agg #[.pointer none, .int .i64 0]) 2 16 Tryz.underlying209 hi0 hzz0 hzz1 hzz2 rfl (by decide) (.slice (some ⟨g, 0, none⟩) rl c) rl (spQ rest) rfl OW6.out ⟨g5, 0, none⟩ m m (spQ (pile d es)) rfl ?c0 ?c1 (spQ_one _) ?c3 ?c4 ?c5 ?_)
              case c0 => rw [spQ_len, pile_len, HMM.out.1]
              case c1 => intro j u hu; rw [Addr.add_lit, Nat.zero_add, cell_at HH6.out.1]; simpa using hu
              case c3 => unfold maxLen; omega
              case c4 => omega
              case c5 => omega
              intro v7 w7 ho7 hg7 _ hat7
              obtain ⟨g7, c7, rfl, hlg, hlt7⟩ := lies_q (c := c) ho7 (by omega) hat7
              have kp : ∀ k, k < wr.heap.size → k ≠ g → w7.heap[k]? = wr.heap[k]? := fun k hk hkg =>
                (hg7.block k (by omega) (fun e => by simp only [Value.ownBlock, Option.some.injEq] at e; omega)).trans ((HH6.out.2.block k (by omega) (by omega)).trans (HB5.out.block k hk))
              have kos := hg7.os.trans (HH6.out.2.os.trans HB5.out.os)
              have ktp := hg7.tape.trans (HH6.out.2.tape.trans HB5.out.tape)
              have kou := hg7.output.trans (HH6.out.2.output.trans HB5.out.output)
              have hz7 := hg7.size
              have hz7' : wr.heap.size ≤ w7.heap.size := by omega
              have KP := Lib.hid (And.intro kp (And.intro kos (And.intro ktp (And.intro kou ho7))))
              clear ho7 hg7 hat7 kp kos ktp kou
              gi_wp2
              gi_roundg (sumM rest + sumM es)
              case measure => have := HSM.out; omega
              case rel =>
                refine ⟨pre, fun k => D k ∨ (wr.heap.size ≤ k ∧ k < w7.heap.size), rest ++ pile d es, some ⟨g7, 0, none⟩, c7, by rw [List.length_append, pile_len, HMM.out.1, EQ.out.2.2.2], by rw [sumM_app, pile_sumM], by omega,
                  hJ _ _ _ _ _ hJw.out.1 ⟨KP.out.2.1, KP.out.2.2.1, KP.out.2.2.2.1, hz7', fun k hk hd => KP.out.1 k hk (fun e => hd (by rw [e]; exact hDg))⟩ (fun k hk => hk.elim .inl (fun h => .inr h.1)),
                  fun k hk => hk.elim (fun h => by have := hJw.out.2.1 k h; omega) (fun h => h.2), fun k hk => .inl (hJw.out.2.2.1 k hk),
                  hJw.out.2.2.2.1.trans (fun k hk => KP.out.1 k (by have := hlt k hk; omega) (by have := hlt k hk; omega)),
                  hJw.out.2.2.2.2.1.trans ⟨KP.out.2.1, KP.out.2.2.1, KP.out.2.2.2.1, hz7', fun k hk => KP.out.1 k (by omega) (by omega)⟩, by omega, ?_, fun q hq => by injection hq with hq; rw [← hq]; exact hlg.elim (fun h => .inl (by rw [h]; exact hDg)) (fun h => .inr ⟨by show wr.heap.size ≤ g7; omega, hlt7⟩), ?_, ?_⟩
                · have := KP.out.2.2.2.2
                  rw [List.length_append, pile_len, HMM.out.1, EQ.out.2.2.2, spQ_app, hd]
                  exact this
                · intro x hx
                  rcases List.mem_append.1 hx with hx | hx
                  · exact HNR.out x hx
                  · obtain ⟨k, hk⟩ := List.mem_iff_getElem?.1 (pile_mem hx)
                    obtain ⟨_, r2, r3⟩ := HMM.out.2.2.2.2 k x hk
                    refine ⟨⟨h, r3⟩, ?_⟩
                    have s1 := sumN_succ hk
                    have s2 := sumN_take es (k + 1)
                    have s3 := HMM.out.2.1
                    have s4 := EQ.out.2.1
                    have s5 := EQ.out.1
                    omega
                · rw [HRp.out, remL_app, remL_pile, HMM.out.2.2.2.1] )

end Go.Proofs.YtkgakgceamafcaaGreat

namespace Go.Proofs.YtkgakgceamafcaaGreat
open Go Go.RowKit Go.Shelf
set_option linter.unusedVariables false
attribute [local go_sem] Oper.semAt_some

set_option maxRecDepth 100000 in
set_option maxHeartbeats 2000000 in
theorem sall_iter2 (n n₀ Bs : Nat) {D0 : Bls} {w : World} {a : Option Addr} {c : Nat} {xs : List R3} (hD0 : Have D0 w) (hB : D0 Bs) (hn : n₀ ≤ w.heap.size) (hc : w.cell? ⟨Bs, 0, none⟩ = some (.slice a xs.length c)) (hS : S3 w a c (rws xs)) (hb : ∀ d, a = some d → d.block < n₀) (hlen : xs.length ≤ 1000000) :
    Iter Fence.wide n Tryz.prog 161 #[.pointer (some ⟨Bs, 0, none⟩)] encP n₀ (fun ys => ys = pairs xs) (fun pre => pre <+: pairs xs) (fun pre x => (pairs xs)[pre.length]? = some x) D0 w := fun l J Jx W hW hJ hJx hY h0 => by
  have hc' := (hW.cell (p := ⟨Bs, 0, none⟩) (hD0 _ hB)).trans hc
  have HS := Lib.hid (hS.below hW)
  have hDW : Have D0 W := fun k h => Nat.lt_of_lt_of_le (hD0 k h) hW.size
  have hnW : n₀ ≤ W.heap.size := Nat.le_trans hn hW.size
  have hpl := pairs_len xs
  obtain ⟨len, hl⟩ : ∃ len, xs.length = len := ⟨_, rfl⟩
  have HL := Lib.hid hl
  rw [hl] at hc' hlen hpl
  clear hl hc hS
  refine callsIn_of_wp Tryz.func161 rfl trivial ?_ rfl
  simp only [Tryz.ntmps161, List.size_toArray, List.length_cons, List.length_nil, Nat.reduceAdd, Nat.reduceSub, Array.replicate_succ, Array.replicate_zero, List.push_toArray, List.append_toArray, List.nil_append, List.cons_append]
  gi_wp2
  gi_loopw [7] (fun i wr => ∃ k : Nat, k ≤ len ∧ i = .int .i64 k ∧ J ((pairs xs).take k) D0 wr ∧ Same D0 W wr ∧ Below n₀ W wr) (fun i _ => len - (intOf i).toNat)
  case atStart => exact ⟨0, Nat.zero_le _, rfl, h0, Same.refl _ _, Below.refl _ _⟩
  case round =>
    obtain ⟨k, hk, rfl, hJs, hsm, hnx⟩ := hrel
    by_cases hlt : k < len
    · obtain ⟨x, hx⟩ : ∃ x, xs[k]? = some x := ⟨_, List.getElem?_eq_getElem (by rw [HL.out]; exact hlt)⟩
      obtain ⟨g, o, rfl, _, hc0, hc1, hc2⟩ := HS.out.atR hx
      have hgn : g < n₀ := hb ⟨g, o, none⟩ rfl
      have hcx0 := (hnx.cell (p := ⟨g, o + k * 3, none⟩) hgn).trans hc0
      have hcx1 := (hnx.cell (p := ⟨g, o + k * 3 + 1, none⟩) hgn).trans hc1
      have hcx2 := (hnx.cell (p := ⟨g, o + k * 3 + 2, none⟩) hgn).trans hc2
      obtain ⟨xa, xn, xc, xe, xb⟩ := x
      have hat := pairs_at hx
      have hpk := take_snoc hat
      obtain ⟨wq, hwq, hbq, d0, d1, d2⟩ : ∃ wq, wr.alloc (Obj.cells #[.slice xa xn xc, .int .i64 xe, .bool xb] 103) = wq ∧ Below wr.heap.size wr wq ∧ wq.cell? ⟨wr.heap.size, 0, none⟩ = some (.slice xa xn xc) ∧ wq.cell? ⟨wr.heap.size, 1, none⟩ = some (.int .i64 xe) ∧ wq.cell? ⟨wr.heap.size, 2, none⟩ = some (.bool xb) := ⟨_, rfl, t_al _ _, by rw [cell_at (heap_alloc_new _ _)]; rfl, by rw [cell_at (heap_alloc_new _ _)]; rfl, by rw [cell_at (heap_alloc_new _ _)]; rfl⟩
      have hnq : n₀ ≤ wr.heap.size := Nat.le_trans (Nat.le_trans hn hW.size) hnx.size
      obtain ⟨fn, tmps, assign, body, hy, hR⟩ := hY _ (k, ⟨xa, xn, xc, xe, xb⟩) _ wq (hJ.below hJs hbq) (fun k' h => Nat.lt_of_lt_of_le (hsm.lt hDW h) hbq.size) (by rw [List.length_take, Nat.min_eq_left (by omega)]; exact hat)
      dsimp only [encP, r3V] at hy
      have HP := Lib.hid hpk
      clear hx hpk hat hc0 hc1 hc2
      gi_wp2
      refine ⟨fun h => by simp [Fence.wide] at h, hR.mono ?_⟩
      rintro e W3 ⟨hs3, (⟨rfl, hJ3, hk3⟩ | ⟨rfl, hJx3⟩)⟩
      · gi_wp2
        go_roundw
        case rel => exact ⟨k + 1, by omega, by simp, by rw [← HP.out]; exact hJ3, hsm.trans ((Same.below hbq (fun k h => hsm.lt hDW h)).trans hs3), hnx.trans ((hbq.mono hnq).trans hk3)⟩
        case measure => simp [intOf]; omega
      · gi_wp2
        refine bodyPost_ret (results_none rfl _ _ _) rfl ?_
        exact ⟨⟨_, rfl⟩, .inr ⟨_, _, by rw [HP.out]; exact List.take_prefix _ _, hJx3⟩⟩
    · obtain rfl : k = len := by omega
      have htk : (pairs xs).take k = pairs xs := List.take_of_length_le (by omega)
      rw [htk] at hJs
      have HJ := Lib.hid hJs
      clear htk hJs
      gi_wp2
      go_end0
      exact ⟨⟨_, rfl⟩, .inl ⟨_, _, rfl, HJ.out⟩⟩

set_option maxRecDepth 100000 in
set_option maxHeartbeats 2000000 in
theorem sback_iter (n n₀ Bs : Nat) {D0 : Bls} {w : World} {a : Option Addr} {c : Nat} {xs : List R3} (hD0 : Have D0 w) (hB : D0 Bs) (hn : n₀ ≤ w.heap.size) (hc : w.cell? ⟨Bs, 0, none⟩ = some (.slice a xs.length c)) (hS : S3 w a c (rws xs)) (hb : ∀ d, a = some d → d.block < n₀) (hlen : xs.length ≤ 1000000) :
    Iter Fence.wide n Tryz.prog 191 #[.pointer (some ⟨Bs, 0, none⟩)] encP n₀ (fun ys => ys = (pairs xs).reverse) (fun pre => pre <+: (pairs xs).reverse) (fun pre x => (pairs xs).reverse[pre.length]? = some x) D0 w := fun l J Jx W hW hJ hJx hY h0 => by
  have hc' := (hW.cell (p := ⟨Bs, 0, none⟩) (hD0 _ hB)).trans hc
  have HS := Lib.hid (hS.below hW)
  have hDW : Have D0 W := fun k h => Nat.lt_of_lt_of_le (hD0 k h) hW.size
  have hpl : (pairs xs).reverse.length = xs.length := by rw [List.length_reverse, pairs_len]
  have hat : ∀ k x, k < xs.length → xs[xs.length - 1 - k]? = some x → (pairs xs).reverse[k]? = some (xs.length - 1 - k, x) := fun k x hk hx => by
    rw [List.getElem?_reverse (by rw [pairs_len]; exact hk), pairs_len]
    exact pairs_at hx
  obtain ⟨len, hl⟩ : ∃ len, xs.length = len := ⟨_, rfl⟩
  have HL := Lib.hid hl
  rw [hl] at hc' hlen hpl hat
  obtain ⟨R, hR⟩ : ∃ R, (pairs xs).reverse = R := ⟨_, rfl⟩
  rw [hR] at hY hpl hat ⊢
  have HA := Lib.hid hat
  have CC := Lib.hid hc'
  have hw0 : IntKind.i64.wrap ((len : Int) - 1) = (len : Int) - 1 := by rw [IntKind.wrap_i64]; omega
  clear hl hc hS hR hat
  refine callsIn_of_wp Tryz.func191 rfl trivial ?_ rfl
  simp only [Tryz.ntmps191, List.size_toArray, List.length_cons, List.length_nil, Nat.reduceAdd, Nat.reduceSub, Array.replicate_succ, Array.replicate_zero, List.push_toArray, List.append_toArray, List.nil_append, List.cons_append]
  gi_wp2
  gi_loopw [3] (fun i wr => ∃ k : Nat, k ≤ len ∧ i = .int .i64 ((len : Int) - 1 - k) ∧ J (R.take k) D0 wr ∧ Same D0 W wr ∧ Below n₀ W wr) (fun i _ => (intOf i + 1).toNat)
  case atStart => exact ⟨0, Nat.zero_le _, by simp, h0, Same.refl _ _, Below.refl _ _⟩
  case round =>
    obtain ⟨k, hk, rfl, hJs, hsm, hnx⟩ := hrel
    by_cases hlt : k < len
    · obtain ⟨q, hq⟩ : ∃ q : Nat, len - 1 - k = q := ⟨_, rfl⟩
      have hqi : (len : Int) - 1 - (k : Int) = (q : Int) := by omega
      have hql : q < len := by omega
      obtain ⟨x, hx⟩ : ∃ x, xs[q]? = some x := ⟨_, List.getElem?_eq_getElem (by rw [HL.out]; exact hql)⟩
      obtain ⟨g, o, rfl, _, hc0, hc1, hc2⟩ := HS.out.atR hx
      have hgn : g < n₀ := hb ⟨g, o, none⟩ rfl
      have hcx0 := (hnx.cell (p := ⟨g, o + q * 3, none⟩) hgn).trans hc0
      have hcx1 := (hnx.cell (p := ⟨g, o + q * 3 + 1, none⟩) hgn).trans hc1
      have hcx2 := (hnx.cell (p := ⟨g, o + q * 3 + 2, none⟩) hgn).trans hc2
      have hat := HA.out k x hlt (by rw [hq]; exact hx)
      rw [hq] at hat
      obtain ⟨xa, xn, xc, xe, xb⟩ := x
      have hcB := (hsm.cell (o := 0) hB).trans CC.out
      have hpk := take_snoc hat
      have hnq : n₀ ≤ wr.heap.size := Nat.le_trans (Nat.le_trans hn hW.size) hnx.size
      obtain ⟨fn, tmps, assign, body, hy, hR⟩ := hY _ (q, ⟨xa, xn, xc, xe, xb⟩) _ wr hJs (fun k' h => hsm.lt hDW h) (by rw [List.length_take, Nat.min_eq_left (by omega)]; exact hat)
      dsimp only [encP, r3V] at hy
      have HP := Lib.hid hpk
      have d0 : decide ((0 : Int) ≤ (q : Int)) = true := decide_eq_true (by omega)
      have d1 : decide (0 ≤ q) = true := decide_eq_true (by omega)
      have e0 : (0 : Int) ≤ (q : Int) := by omega
      have e1 : (q : Int) < (len : Int) := by omega
      have HQ := Lib.hid hqi
      rw [hqi]
      clear hx hpk hat hqi hq hc0 hc1 hc2
      gi_wp2
      refine ⟨fun h => by simp [Fence.wide] at h, hR.mono ?_⟩
      rintro e W3 ⟨hs3, (⟨rfl, hJ3, hk3⟩ | ⟨rfl, hJx3⟩)⟩
      · gi_wp2
        go_roundw
        case rel => exact ⟨k + 1, by omega, by have := HQ.out; congr 1; omega, by rw [← HP.out]; exact hJ3, hsm.trans hs3, hnx.trans hk3⟩
        case measure => simp [intOf]
      · gi_wp2
        refine bodyPost_ret (results_none rfl _ _ _) rfl ?_
        exact ⟨⟨_, rfl⟩, .inr ⟨_, _, by rw [HP.out]; exact List.take_prefix _ _, hJx3⟩⟩
    · obtain rfl : k = len := by omega
      have htk : R.take k = R := List.take_of_length_le (by omega)
      rw [htk] at hJs
      have HJ := Lib.hid hJs
      have d0 : decide ((0 : Int) ≤ (k : Int) - 1 - (k : Int)) = false := decide_eq_false (by omega)
      have e0 : (k : Int) - 1 - (k : Int) = -1 := by omega
      rw [e0]
      clear htk hJs e0
      gi_wp2
      go_end0
      exact ⟨⟨_, rfl⟩, .inl ⟨_, _, rfl, HJ.out⟩⟩

end Go.Proofs.YtkgakgceamafcaaGreat
