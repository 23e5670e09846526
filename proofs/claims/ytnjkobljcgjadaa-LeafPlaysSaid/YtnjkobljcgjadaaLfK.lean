/-
  The law LeafRises, at this seat's numbers.
-/
import Derived.Test.YtnjkobljcgjadaaLfJ
import Derived.Test.YtnjkobljcgjadaaLiftL
import Derived.Deep.DeepCutAuto
namespace Go.Proofs.Ytnjkobljcgjadaa
open Go Go.RowKit
set_option linter.unusedVariables false

theorem Sl.same {w w' : World} {a : Option Addr} {c : Nat} {xs : List Value} (h : Sl w a c xs) (hb : ∀ d, a = some d → w'.heap[d.block]? = w.heap[d.block]?) (hs : w.heap.size ≤ w'.heap.size) : Sl w' a c xs := by
  refine ⟨⟨h.rd.1, fun hn => ?_⟩, h.cap, h.capm, h.nil, h.form, h.one⟩
  obtain ⟨g, o, e, hg, hc⟩ := h.rd.2 hn
  refine ⟨g, o, e, by omega, fun j u hj => ?_⟩
  rw [← hc j u hj]
  have := hb _ e
  simp only [World.cell?, this]
/-- A row lies apart from a queue. -/
def Ap (q : Nat) (t : Qt) (a : Option Addr) : Prop := ∀ d, a = some d → ¬ inQ q t d.block
def Lt (w : World) (a : Option Addr) : Prop := ∀ d, a = some d → d.block < w.heap.size
theorem Lt.mono {w w' : World} {a : Option Addr} (h : Lt w a) (hs : w.heap.size ≤ w'.heap.size) : Lt w' a := fun d e => Nat.lt_of_lt_of_le (h d e) hs
theorem Ap.mq {w w' : World} {q : Nat} {t t' : Qt} {a : Option Addr} (h : Ap q t a) (hl : Lt w a) (hm : Mq q t t' w w') : Ap q t' a := fun d e hi => by
  rcases hm.new _ hi with h' | h'
  · exact h d e h'
  · have := hl d e; omega
theorem Sl.mq {w w' : World} {q : Nat} {t t' : Qt} {a : Option Addr} {c : Nat} {xs : List Value} (h : Sl w a c xs) (hl : Lt w a) (ha : Ap q t a) (hm : Mq q t t' w w') : Sl w' a c xs := h.same (fun d e => hm.rest _ (hl d e) (ha d e)) hm.low.size
theorem own_mq {w w' : World} {q B n c : Nat} {t t' : Qt} {a : Option Addr} {xs : List Value} (h : w.ownsRow B 3 1 (.slice a n c) n xs) (ha : Ap q t a) (hm : Mq q t t' w w') : w'.ownsRow B 3 1 (.slice a n c) n xs := own_same h (fun b hb => by
  cases a with
  | none => cases hb
  | some d => cases hb; exact hm.rest _ (h.lt d.block rfl).2 (ha d rfl))
theorem own_lt {w : World} {B n c : Nat} {a : Option Addr} {xs : List Value} (h : w.ownsRow B 3 1 (.slice a n c) n xs) : Lt w a := fun d e => by subst e; exact (h.lt d.block rfl).2
theorem apart_new {w : World} {q : Nat} {t : Qt} {R : List Int} {a : Option Addr} (h : QIn w q t R) (ha : ∀ d, a = some d → w.heap.size ≤ d.block) : Ap q t a := fun d e hi => by have := h.lt _ hi; have := ha d e; omega
theorem wf_of {x : Int} (h : I64 x) : Wf x := WalkArith.wf_i64 (by unfold I64 at h; omega)
theorem rise_drop {L : List Int} {k : Nat} (hk : k < L.length) : L.drop k = gN L k :: L.drop (k + 1) := by
  rw [List.drop_eq_getElem_cons hk]
  congr 1
  unfold gN; rw [List.getD_eq_getElem?_getD, List.getElem?_eq_getElem hk]; rfl
theorem rise_lt {L : List Int} (h : Rise L) {i j : Nat} (hij : i < j) (hj : j < L.length) : gN L i < gN L j := by
  have h1 := gN_at (R := L) (k := i) (by omega)
  have h2 := gN_at hj
  rw [List.getElem?_eq_getElem (by omega)] at h1 h2
  rw [← Option.some.inj h1, ← Option.some.inj h2]
  exact List.pairwise_iff_getElem.1 h i j (by omega) hj hij

set_option maxRecDepth 100000 in
set_option maxHeartbeats 16000000 in
theorem leafRises_law (a : Option Addr) (c : Nat) (l : List Int) (W : World) (h : Sl W a c (nums l) ∧ ∀ x ∈ l, I64 x) :
    Calls Try.prog 4 #[.slice a l.length c] W fun e w' => e = .returned (.bool true) ∧ Below W.heap.size W w' := by
  obtain ⟨h, hi⟩ := h
  obtain ⟨i0, hi0, hz0, hz1, hz2⟩ := info_parts info_int
  have hcap := h.cap
  rw [nums_len] at hcap
  -- the row as it is cut
  have HCUT : Hid (∃ (F : List Int), F.length ≤ 100 ∧ Sl W a c (nums F) ∧ (∀ x ∈ F, Wf x) ∧ ((l.length ≤ 100 ∧ F.length = l.length) ∨ (100 < l.length ∧ F.length = 100))) := Lib.hid (by
    refine ⟨l.take 100, by rw [List.length_take]; omega, by rw [← nums_take]; exact h.take 100, fun x hx => wf_of (hi x (List.mem_of_mem_take hx)), ?_⟩
    rw [List.length_take]
    rcases Nat.lt_or_ge 100 l.length with h1 | h1
    · exact .inr ⟨h1, by omega⟩
    · exact .inl ⟨h1, by omega⟩)
  obtain ⟨F, hF, hs, hw, hcase⟩ := HCUT.out
  obtain ⟨n, hn⟩ : ∃ n, l.length = n := ⟨_, rfl⟩
  obtain ⟨nF, hnF⟩ : ∃ nF, F.length = nF := ⟨_, rfl⟩
  rw [hn] at hcap hcase ⊢
  rw [hnF] at hcase
  have HN := new_of hs (by omega) hw
  rw [hnF] at HN
  have HN := Lib.hid HN
  have HS := Lib.hid hs
  have HF := Lib.hid (And.intro hF hnF)
  have h100 : (100 : Int) ≤ (c : Int) ∨ n ≤ 100 := by omega
  have hnF1 : nF ≤ 100 := by omega
  clear h hi hs hw hF hnF hn HCUT
  obtain ⟨L, hL⟩ : ∃ L, setL F = L := ⟨_, rfl⟩
  have hrise : Rise L := by rw [← hL]; exact setL_rise F
  have hmem : ∀ x, x ∈ F → x ∈ L := fun x hx => by rw [← hL]; exact setL_mem.2 hx
  have hLF : L.length ≤ nF := by rw [← hL, ← HF.out.2]; exact setL_len F
  have HLL := Lib.hid (And.intro hrise hmem)
  rw [hL] at HN
  clear hL hrise hmem
  obtain ⟨N, hN⟩ : ∃ N, L.length = N := ⟨_, rfl⟩
  have HNN := Lib.hid hN
  rw [hN] at hLF
  clear hN
  have HEnd : Hid (∀ (wz : World), Below W.heap.size W wz → Calls Try.prog 10 #[] wz fun e w' => e = .returned (.bool true) ∧ Below W.heap.size W w') := Lib.hid (fun wz hb => (awake_of wz).mono (fun e w' ⟨h1, h2⟩ => ⟨h1, hb.trans (h2.mono hb.size)⟩))
  go_enter Try.func4, Try.ntmps4
  go_upto_if 15 with fail
  go_cut [0] (fun s0 wx => s0 = .slice a nF c ∧ wx = W)
  case first =>
    rcases hcase with ⟨hle, h2⟩ | ⟨hgt, h2⟩
    · have d0 : decide ((n : Int) > 100) = false := decide_eq_false (by omega)
      have d1 : decide ((100 : Int) < (n : Int)) = false := decide_eq_false (by omega)
      have d2 : decide (100 < n) = false := decide_eq_false (by omega)
      go_wp2_with fail
      go_meet
      exact ⟨by rw [h2], rfl⟩
    · have d0 : decide ((n : Int) > 100) = true := decide_eq_true (by omega)
      have d1 : decide ((100 : Int) < (n : Int)) = true := decide_eq_true (by omega)
      have d2 : decide (100 < n) = true := decide_eq_true (by omega)
      have e2 : (100 : Int) ≤ (c : Int) := by omega
      go_wp2_with fail
      go_meet
      exact ⟨by rw [h2], rfl⟩
  case rest =>
    obtain ⟨rfl, hwe⟩ := hcut
    rw [hwe]
    clear hwe wc hcase h100 hcap
    go_wp2_with fail
    refine HN.out.mono ?_; rintro e w1 ⟨q, t0, R0, rfl, hq, hp, hba, hb⟩
    have hlen := hp.length_eq
    rw [HNN.out] at hlen
    have HA := all_of (v := pbox q) (.inr ⟨q, t0, rfl, hq⟩) (by omega)
    rw [srt_eq hp HLL.out.1, hlen] at HA
    have HA := Lib.hid HA
    have HQ := Lib.hid (And.intro hq (And.intro hp (And.intro hba hb)))
    clear hq hp hba hb hlen HN
    go_wp2_with fail
    refine HA.out.mono ?_; rintro e w2 ⟨aw, cw, rfl, ho, hb⟩
    have HW : Hid (Sl w2 aw cw (nums L) ∧ Lt w2 aw ∧ Ap q t0 aw) := Lib.hid ⟨by
        have h1 : (nums L).length = N := by rw [nums_len, HNN.out]
        rw [← h1] at ho; exact Sl.own ho (nums_one L), own_lt ho, apart_new HQ.out.1 (fun d e => by subst e; exact (ho.lt d.block rfl).1)⟩
    have HB2 := Lib.hid (HQ.out.2.2.2.trans (hb.mono HQ.out.2.2.2.size))
    have HQ2 := Lib.hid (HQ.out.1.below hb)
    clear ho hb HA
    go_wp2_with fail
    go_loopw [5, 6] (fun v5 v6 wr => ∃ (k : Nat) (t : Qt) (R : List Int) (ag : Option Addr) (cg : Nat), v5 = .slice ag k cg ∧ v6 = .int .i64 k ∧ k ≤ N ∧ QIn wr q t R ∧ R.Perm (L.drop k) ∧ (∀ b, inQ q t b → W.heap.size ≤ b) ∧ wr.ownsRow W.heap.size 3 1 (.slice ag k cg) k (nums (L.take k)) ∧ Ap q t ag ∧ Sl wr aw cw (nums L) ∧ Lt wr aw ∧ Ap q t aw ∧ (∀ d d', aw = some d → ag = some d' → d.block ≠ d'.block) ∧ Below W.heap.size W wr) (fun _ v6 _ => N - (intOf v6).toNat)
    case atStart => exact ⟨0, t0, R0, none, 0, rfl, rfl, by omega, HQ2.out, HQ.out.2.1, HQ.out.2.2.1, by simp [nums, t_nil], fun d e => (by cases e), HW.out.1, HW.out.2.1, HW.out.2.2, fun d d' _ e => (by cases e), HB2.out⟩
    case round =>
      obtain ⟨wq, rfl⟩ : ∃ wq : World, wq = wr := ⟨_, rfl⟩
      obtain ⟨k, t, R, ag, cg, rfl, rfl, hk, h1, h2, h3, h4, h5, h6, h7, h8, h10, h9⟩ := hrel
      have H1 := Lib.hid h1
      have H2 := Lib.hid h2
      have H3 := Lib.hid h3
      have H4 := Lib.hid h4
      have H5 := Lib.hid h5
      have H6 := Lib.hid (And.intro h6 (And.intro h7 h8))
      have H9 := Lib.hid h9
      have H10 := Lib.hid h10
      clear h1 h2 h3 h4 h5 h6 h7 h8 h9 h10
      by_cases hlt : k < N
      · have dk : decide (k < N) = true := decide_eq_true hlt
        have hkL : k < L.length := by rw [HNN.out]; exact hlt
        have hRl : R.length = N - k := by rw [H2.out.length_eq, List.length_drop, HNN.out]
        have hhead : gN R 0 = gN L k := by
          rw [head_eq H2.out (List.Pairwise.sublist (List.drop_sublist k L) HLL.out.1) H1.out.heap.1, gN_drop]; rfl
        have HP := pop_some H1.out (by omega) (by omega)
        rw [hhead] at HP
        obtain ⟨x, hx⟩ : ∃ x, gN L k = x := ⟨_, rfl⟩
        rw [hx] at HP
        have HP := Lib.hid HP
        have HX := Lib.hid hx
        clear hhead hRl hkL hx
        go_wp2_with fail
        refine HP.out.mono ?_; rintro e w3 ⟨rfl, t', R', g1, g2, g3⟩
        have hkL : k < L.length := by rw [HNN.out]; exact hlt
        have G1 : Hid (QIn w3 q t' R' ∧ R'.Perm (L.drop (k + 1)) ∧ (∀ b, inQ q t' b → W.heap.size ≤ b)) := Lib.hid ⟨g1, by
          have := g2.trans H2.out
          rw [rise_drop hkL, HX.out] at this
          exact this.cons_inv, g3.base H3.out H9.out.size⟩
        have G2 : Hid (w3.ownsRow W.heap.size 3 1 (.slice ag k cg) k (nums (L.take k)) ∧ Ap q t' ag ∧ Lt w3 ag) := Lib.hid ⟨own_mq H4.out H5.out g3, H5.out.mq (own_lt H4.out) g3, (own_lt H4.out).mono g3.low.size⟩
        have G3 : Hid (Sl w3 aw cw (nums L) ∧ Lt w3 aw ∧ Ap q t' aw) := Lib.hid ⟨H6.out.1.mq H6.out.2.1 H6.out.2.2 g3, H6.out.2.1.mono g3.low.size, H6.out.2.2.mq H6.out.2.1 g3⟩
        have G4 := Lib.hid (H9.out.trans (g3.below H3.out H9.out.size))
        have HT : Hid (nums (L.take (k + 1)) = nums (L.take k) ++ [.int .i64 x]) := Lib.hid (by rw [List.take_add_one, gN_at hkL, HX.out, ← nums_app]; rfl)
        have C3 : Hid (k + 1 ≤ maxLen) := by show _ ≤ _; unfold maxLen; omega
        have C4 : Hid ((k + 1) * 8 ≤ 140737488355328) := by show _ ≤ _; omega
        have C5 : Hid (W.heap.size ≤ (w3.alloc (Obj.cells #[.int .i64 x] 3)).heap.size) := by show _ ≤ _; have := G4.out.size; simp only [World.size_alloc]; omega
        clear g1 g2 g3 HP H1 H2 H4 H5 H6
        have FINISH : Hid (∀ (vN : Value) (wB : World), wB.ownsRow W.heap.size 3 1 vN (k + 1) (nums (L.take k) ++ [.int .i64 x]) → (w3.alloc (Obj.cells #[.int .i64 x] 3)).grownBy wB (Value.slice ag k cg).ownBlock → (vN.ownBlock = (Value.slice ag k cg).ownBlock ∨ vN.ownBlock = some (w3.heap.size + 1)) →
            ∃ aN cN, vN = .slice aN (k + 1) cN ∧ QIn wB q t' R' ∧ wB.ownsRow W.heap.size 3 1 (.slice aN (k + 1) cN) (k + 1) (nums (L.take (k + 1))) ∧ Ap q t' aN ∧ Sl wB aw cw (nums L) ∧ Lt wB aw ∧ (∀ d d', aw = some d → aN = some d' → d.block ≠ d'.block) ∧ Below W.heap.size W wB) := Lib.hid (by
          intro vN wB ho hg hl
          obtain ⟨aN, cN, rfl⟩ := own_slice ho
          have hsz : (w3.alloc (Obj.cells #[.int .i64 x] 3)).heap.size = w3.heap.size + 1 := by simp
          have hblk : ∀ b, b < w3.heap.size → (∀ d, ag = some d → d.block ≠ b) → wB.heap[b]? = w3.heap[b]? := fun b hb hne => (hg.block b (by rw [hsz]; omega) (fun e => by
            cases ag with
            | none => cases e
            | some d => exact hne d rfl (Option.some.inj e).symm)).trans ((t_al w3 _).block b hb)
          have hzB : w3.heap.size ≤ wB.heap.size := by have := hg.size; rw [hsz] at this; omega
          have hat : ∀ d, aN = some d → (∃ d0, ag = some d0 ∧ d0.block = d.block) ∨ w3.heap.size < d.block := fun d e => by
            subst e
            rcases hl with h | h
            · cases ag with
              | none => cases h
              | some d0 => exact .inl ⟨d0, rfl, (Option.some.inj h).symm⟩
            · have := Option.some.inj h
              exact .inr (by omega)
          refine ⟨aN, cN, rfl, G1.out.1.same (fun b hb => hblk b (G1.out.1.lt b hb) (fun d e hd => G2.out.2.1 d e (by rw [hd]; exact hb))), by rw [HT.out]; exact ho, fun d e hd => ?_, G3.out.1.same (fun d e => hblk _ (G3.out.2.1 d e) (fun d' e' hd => H10.out d d' e e' hd.symm)) hzB, G3.out.2.1.mono hzB, fun d d' e e' hd => ?_, app_below (B := 0) G4.out G2.out.1 hg⟩
          · rcases hat d e with ⟨d0, e0, h0⟩ | h0
            · exact G2.out.2.1 d0 e0 (by rw [h0]; exact hd)
            · have := G1.out.1.lt _ hd; omega
          · rcases hat d' e' with ⟨d0, e0, h0⟩ | h0
            · exact H10.out d d0 e e0 (hd.trans h0.symm)
            · have := G3.out.2.1 d e; omega)
        have OWN : Hid ((w3.alloc (Obj.cells #[.int .i64 x] 3)).ownsRow W.heap.size 3 1 (.slice ag k cg) k (nums (L.take k))) := Lib.hid (G2.out.1.alloc _)
        have hcell : k = 0 ∨ (0 < k ∧ ∃ g y, ag = some ⟨g, 0, none⟩ ∧ w3.cell? ⟨g, k - 1, none⟩ = some (.int .i64 y) ∧ y < x) := by
          rcases Nat.eq_zero_or_pos k with h0 | h0
          · exact .inl h0
          · right
            rcases t_form G2.out.1 with ⟨_, h1, _⟩ | ⟨g, e, _⟩
            · omega
            · have hy : (L.take k)[k - 1]? = some (gN L (k - 1)) := by rw [List.getElem?_take_of_lt (by omega), gN_at (by omega)]
              have ho := G2.out.1
              rw [e] at ho
              have := ho.cells (g := g) rfl _ _ (nums_at hy)
              rw [Addr.add_lit, Nat.zero_add] at this
              exact ⟨h0, g, _, e, this, by have := rise_lt HLL.out.1 (i := k - 1) (j := k) (by omega) hkL; rwa [HX.out] at this⟩
        clear hkL
        have e0 : (0 : Int) ≤ (k : Int) := by omega
        rcases hcell with h0 | ⟨h0, g, y, rfl, hc, hyx⟩
        · have z1 : decide ((k : Int) > 0) = false := decide_eq_false (by omega)
          have z2 : decide ((0 : Int) < (k : Int)) = false := decide_eq_false (by omega)
          have z3 : decide (0 < k) = false := decide_eq_false (by omega)
          clear h0
          go_wp2_with (at_builtin; refine wpList_append_own_at _ rfl (.tmp 50) (.tmp 52) 22 rfl W.heap.size 3 i0 (.int .i64 0) 1 8 Try.underlying22 hi0 hz0 hz1 hz2 rfl (by decide) _ k (nums (L.take k)) rfl OWN.out ⟨w3.heap.size, 0, none⟩ 1 1 [.int .i64 x] rfl rfl (c1_one _ _ _) (c2_one _ rfl) C3.out C4.out C5.out ?_)
          intro vN wB hoN hgN _ hlN
          obtain ⟨aN, cN, rfl, g1, g2, g3, g4, g5, g6, g7⟩ := FINISH.out vN wB hoN hgN hlN
          have FF := Lib.hid (And.intro g1 (And.intro G1.out.2.1 (And.intro G1.out.2.2 (And.intro g2 (And.intro g3 (And.intro g4 (And.intro g5 (And.intro (g3 : Ap q t' aN) (And.intro g6 g7)))))))))
          have FA : Hid (Ap q t' aw) := Lib.hid G3.out.2.2
          clear hoN hgN hlN g1 g2 g3 g4 g5 g6 g7 C3 C4 C5 FINISH OWN
          go_wp2_with fail
          go_roundw
          case rel => exact ⟨k + 1, t', R', aN, cN, rfl, by go_num, by omega, FF.out.1, FF.out.2.1, FF.out.2.2.1, FF.out.2.2.2.1, FF.out.2.2.2.2.1, FF.out.2.2.2.2.2.1, FF.out.2.2.2.2.2.2.1, FA.out, FF.out.2.2.2.2.2.2.2.2.1, FF.out.2.2.2.2.2.2.2.2.2⟩
          case measure => simp [intOf]; omega
        · have z1 : decide ((k : Int) > 0) = true := decide_eq_true (by omega)
          have z2 : decide ((0 : Int) < (k : Int)) = true := decide_eq_true (by omega)
          have z3 : decide (0 < k) = true := decide_eq_true (by omega)
          have z4 : decide (y ≥ x) = false := decide_eq_false (by omega)
          have z5 : decide (x ≤ y) = false := decide_eq_false (by omega)
          obtain ⟨k1, hk1⟩ : ∃ k1, k - 1 = k1 := ⟨_, rfl⟩
          have hkk : (k : Int) - 1 = (k1 : Int) := by omega
          have z6 : (0 : Int) ≤ (k1 : Int) := by omega
          have z7 : (k1 : Int) < (k : Int) := by omega
          rw [hk1] at hc
          clear hyx hk1
          go_wp2_with (at_builtin; refine wpList_append_own_at _ rfl (.tmp 50) (.tmp 52) 22 rfl W.heap.size 3 i0 (.int .i64 0) 1 8 Try.underlying22 hi0 hz0 hz1 hz2 rfl (by decide) _ k (nums (L.take k)) rfl OWN.out ⟨w3.heap.size, 0, none⟩ 1 1 [.int .i64 x] rfl rfl (c1_one _ _ _) (c2_one _ rfl) C3.out C4.out C5.out ?_)
          intro vN wB hoN hgN _ hlN
          obtain ⟨aN, cN, rfl, g1, g2, g3, g4, g5, g6, g7⟩ := FINISH.out vN wB hoN hgN hlN
          have FF := Lib.hid (And.intro g1 (And.intro G1.out.2.1 (And.intro G1.out.2.2 (And.intro g2 (And.intro g3 (And.intro g4 (And.intro g5 (And.intro (g3 : Ap q t' aN) (And.intro g6 g7)))))))))
          have FA : Hid (Ap q t' aw) := Lib.hid G3.out.2.2
          clear hoN hgN hlN g1 g2 g3 g4 g5 g6 g7 C3 C4 C5 FINISH OWN
          go_wp2_with fail
          go_roundw
          case rel => exact ⟨k + 1, t', R', aN, cN, rfl, by go_num, by omega, FF.out.1, FF.out.2.1, FF.out.2.2.1, FF.out.2.2.2.1, FF.out.2.2.2.2.1, FF.out.2.2.2.2.2.1, FF.out.2.2.2.2.2.2.1, FA.out, FF.out.2.2.2.2.2.2.2.2.1, FF.out.2.2.2.2.2.2.2.2.2⟩
          case measure => simp [intOf]; omega
      · obtain rfl : k = N := by omega
        have dk : decide (k < k) = false := by simp
        have hR : R = [] := by
          have := H2.out.length_eq
          rw [List.length_drop, HNN.out] at this
          exact List.eq_nil_of_length_eq_zero (by omega)
        have HT : Hid (L.take k = L) := Lib.hid (List.take_of_length_le (by rw [HNN.out]; exact Nat.le_refl _))
        rw [HT.out] at H4
        have HG : Hid (Sl wq ag cg (nums L)) := Lib.hid (by
          have h1 : (nums L).length = k := by rw [nums_len, HNN.out]
          have ho := H4.out
          rw [← h1] at ho; exact Sl.own ho (nums_one L))
        subst hR
        have HPop := Lib.hid (pop_none (w := wq) (v := pbox q) (.inr ⟨q, t, rfl, H1.out⟩))
        clear H2 H5 H10
        go_wp2_with fail
        go_loopw [56] (fun v56 wr => wr = wq ∧ ∃ j : Nat, v56 = .int .i64 j ∧ j ≤ nF) (fun v56 _ => nF - (intOf v56).toNat)
        case atStart => exact ⟨rfl, 0, rfl, by omega⟩
        case round =>
          obtain ⟨rfl, j, rfl, hj⟩ := hrel
          by_cases hlt2 : j < nF
          · have dj : decide (j < nF) = true := decide_eq_true hlt2
            obtain ⟨g, o, rfl⟩ := HS.out.numsome (by have := HF.out.2; omega)
            obtain ⟨y, hy⟩ : ∃ y, F[j]? = some y := ⟨_, List.getElem?_eq_getElem (by have := HF.out.2; omega)⟩
            have c0 := ((HS.out.below H9.out).num hy).1
            have e0 : (0 : Int) ≤ (j : Int) := by omega
            have e1 : (j : Int) < (nF : Int) := by omega
            have HH := rhas_of HG.out (by rw [HNN.out]; omega) y
            rw [decide_eq_true (HLL.out.2 y (List.mem_of_getElem? hy)), HNN.out] at HH
            have HH := Lib.hid HH
            clear hy
            go_wp2_with fail
            refine HH.out.mono ?_; rintro e w5 ⟨rfl, rfl⟩
            go_wp2_with fail
            go_roundw
            case rel => exact ⟨trivial, j + 1, by go_num, by omega⟩
            case measure => simp [intOf]; omega
          · obtain rfl : j = nF := by omega
            have dj : decide (j < j) = false := by simp
            go_wp2_with fail
            refine HPop.out.mono ?_; rintro e w5 ⟨rfl, hb5⟩
            have HB5 := Lib.hid (H9.out.trans (hb5.mono H9.out.size))
            have HSm := nsame L L (HG.out.below hb5) (H6.out.1.below hb5) (by rw [HNN.out]; omega)
            rw [decide_eq_true (Eq.refl L), HNN.out] at HSm
            have HSm := Lib.hid HSm
            have HQ5 := Lib.hid (H1.out.below hb5)
            clear hb5 HPop
            go_wp2_with fail
            refine HSm.out.mono ?_; rintro e w6 ⟨rfl, hb6⟩
            have HB6 := Lib.hid (HB5.out.trans (hb6.mono HB5.out.size))
            have HLe := Lib.hid (len_of (v := pbox q) (.inr ⟨q, t, rfl, HQ5.out.below hb6⟩))
            clear hb6 HSm
            go_wp2_with fail
            refine HLe.out.mono ?_; rintro e w7 ⟨rfl, hb7⟩
            have HA := Lib.hid (HEnd.out w7 (HB6.out.trans (hb7.mono HB6.out.size)))
            clear hb7 HLe
            go_wp2_with fail
            refine HA.out.mono ?_; rintro e w8 ⟨rfl, hb8⟩
            have HB8 := Lib.hid hb8
            clear hb8
            go_wp2_with fail
            go_ret
            exact ⟨rfl, HB8.out⟩
end Go.Proofs.Ytnjkobljcgjadaa
