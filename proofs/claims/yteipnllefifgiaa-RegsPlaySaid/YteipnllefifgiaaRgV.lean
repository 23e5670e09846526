/-
  spoil: other texts in the place of all; Ours; at this seat's numbers.
-/
import Derived.Test.YteipnllefifgiaaRgS
import Derived.Deep.Slices
namespace Go.Proofs.Yteipnllefifgiaa
open Go Go.RowKit
set_option linter.unusedVariables false

/-- Nothing changes outside of the blocks from lo on, ahead of hi; no block comes. -/
structure Out (lo hi : Nat) (w w' : World) : Prop where
  low : Below lo w w'
  size : w'.heap.size = w.heap.size
  oth : ∀ b, b < lo ∨ hi ≤ b → w'.heap[b]? = w.heap[b]?
theorem Out.refl (lo hi : Nat) (w : World) : Out lo hi w w := ⟨Below.refl _ _, rfl, fun _ _ => rfl⟩
theorem Out.set {lo hi b o : Nat} {w w' : World} {u : Value} (h : Out lo hi w w') (h1 : lo ≤ b) (h2 : b < hi) : Out lo hi w (w'.setCell ⟨b, o, none⟩ u) :=
  ⟨h.low.setCell (p := ⟨b, o, none⟩) h1 _, by rw [size_set]; exact h.size, fun k hk => (heap_set_other (by omega)).trans (h.oth k hk)⟩
theorem Out.keep {lo hi lo' hi' : Nat} {w w' : World} (h : Out lo hi w w') (hd : hi' ≤ lo ∨ hi ≤ lo') : Keep lo' hi' w w' :=
  ⟨by rw [h.size]; exact Nat.le_refl _, fun b h1 h2 _ => h.oth b (by omega)⟩
/-- The same rows, whatever their texts are. -/
def Alike (T U : List TxM) : Prop := U.map (fun p => (p.1, p.2.1, p.2.2.length)) = T.map (fun p => (p.1, p.2.1, p.2.2.length))
theorem Alike.len {T U : List TxM} (h : Alike T U) : U.length = T.length := by have := congrArg List.length h; simpa using this
theorem Alike.at {T U : List TxM} (h : Alike T U) {k : Nat} {p : TxM} (hp : T[k]? = some p) : ∃ q : TxM, U[k]? = some q ∧ q.1 = p.1 ∧ q.2.1 = p.2.1 ∧ q.2.2.length = p.2.2.length := by
  have h1 := congrArg (fun l => l[k]?) h
  simp only [List.getElem?_map, hp, Option.map_some] at h1
  cases hq : U[k]? with
  | none => rw [hq] at h1; cases h1
  | some q =>
    rw [hq] at h1
    simp only [Option.map_some, Option.some.injEq, Prod.mk.injEq] at h1
    exact ⟨q, rfl, h1.1, h1.2.1, h1.2.2⟩
theorem Alike.refl (T : List TxM) : Alike T T := rfl
theorem Alike.vals {T U : List TxM} (h : Alike T U) : U.map txV = T.map txV := by
  have e : ∀ L : List TxM, L.map txV = (L.map (fun p => (p.1, p.2.1, p.2.2.length))).map (fun q => Value.slice q.1 q.2.2 q.2.1) := fun L => by rw [List.map_map] <;> rfl
  rw [e, e, h]
/-- A row after a text was put into a block: its cells are texts. -/
theorem sl_str {w : World} {a : Option Addr} {c : Nat} {l : List ByteArray} {b o : Nat} {s : ByteArray} (h : Sl w a c (strs l)) : ∃ l' : List ByteArray, l'.length = l.length ∧ Sl (w.setCell ⟨b, o, Option.none⟩ (.string s)) a c (strs l') := by
  by_cases hn : 0 < l.length
  · obtain ⟨g, off, e, hg, hc⟩ := h.rd.2 (by rw [strs_len]; exact hn)
    have each : ∀ j, j < l.length → ∃ x : ByteArray, (w.setCell ⟨b, o, Option.none⟩ (.string s)).cell? ⟨g, off + j, Option.none⟩ = some (.string x) := fun j hj => by
      have h0 := hc j (.string l[j]) (strs_at (List.getElem?_eq_getElem hj))
      by_cases hgb : g = b
      · subst hgb
        obtain ⟨ob, hob⟩ : ∃ ob, w.heap[g]? = some ob := ⟨_, Array.getElem?_eq_getElem hg⟩
        cases ob with
        | cells cs t fr =>
          rw [cell_at hob] at h0
          rw [cell_at (heap_set_at hob), Array.getElem?_setIfInBounds]
          by_cases ho : o = off + j
          · have hlt : off + j < cs.size := (Array.getElem?_eq_some_iff.1 h0).1
            rw [if_pos ho, if_pos (by omega)]
            exact ⟨s, rfl⟩
          · rw [if_neg ho]; exact ⟨_, h0⟩
        | _ => simp [World.cell?, hob] at h0
      · rw [cell_same (heap_set_other hgb)]; exact ⟨_, h0⟩
    obtain ⟨f, hf⟩ := Go.Deep.choose_lt (α := ByteArray) (n := l.length) (p := fun j x => (w.setCell ⟨b, o, Option.none⟩ (.string s)).cell? ⟨g, off + j, Option.none⟩ = some (.string x)) each
    refine ⟨(List.range l.length).map f, by simp, ⟨by simp [strs], fun _ => ⟨g, off, e, by rw [size_set]; exact hg, fun j u hu => ?_⟩⟩, by have := h.cap; simpa [strs] using this, h.capm, h.nil, h.form, strs_one _⟩
    unfold strs at hu
    rw [List.map_map, List.getElem?_map] at hu
    cases hr : (List.range l.length)[j]? with
    | none => rw [hr] at hu; cases hu
    | some j' =>
      have hj : j < l.length := by have := (List.getElem?_eq_some_iff.1 hr).1; simpa using this
      rw [List.getElem?_range hj] at hr
      obtain rfl := Option.some.inj hr
      rw [List.getElem?_range hj] at hu
      simp only [Option.map_some, Function.comp_apply, Option.some.injEq] at hu
      rw [← hu]; exact hf j hj
  · have hl : l = [] := List.eq_nil_of_length_eq_zero (by omega)
    subst hl
    exact ⟨[], rfl, ⟨by simp [strs], fun h0 => absurd h0 (by simp [strs])⟩, h.cap, h.capm, h.nil, h.form, h.one⟩

theorem rows_str {w : World} {lo hi b o : Nat} {s : ByteArray} : ∀ U : List TxM, (∀ p ∈ U, Sl w p.1 p.2.1 (strs p.2.2) ∧ Bt lo hi p.1) → ∃ U' : List TxM, Alike U U' ∧ (∀ p ∈ U', Sl (w.setCell ⟨b, o, none⟩ (.string s)) p.1 p.2.1 (strs p.2.2) ∧ Bt lo hi p.1) ∧ (∀ p ∈ U', ∃ q ∈ U, p.1 = q.1) := by
  intro U
  induction U with
  | nil => intro _; exact ⟨[], rfl, fun p hp => by simp at hp, fun p hp => by simp at hp⟩
  | cons p U ih =>
    intro h
    obtain ⟨U', h1, h2, h3⟩ := ih (fun q hq => h q (List.mem_cons_of_mem _ hq))
    obtain ⟨l', hl, hs⟩ := sl_str (b := b) (o := o) (s := s) (h p List.mem_cons_self).1
    refine ⟨(p.1, p.2.1, l') :: U', ?_, fun q hq => ?_, fun q hq => ?_⟩
    · show (p.1, p.2.1, l'.length) :: _ = (p.1, p.2.1, p.2.2.length) :: _
      rw [hl]; exact congrArg _ h1
    · rcases List.mem_cons.1 hq with rfl | hq
      · exact ⟨hs, (h p List.mem_cons_self).2⟩
      · exact h2 q hq
    · rcases List.mem_cons.1 hq with rfl | hq
      · exact ⟨p, List.mem_cons_self, rfl⟩
      · obtain ⟨r, hr, e⟩ := h3 q hq
        exact ⟨r, List.mem_cons_of_mem _ hr, e⟩
/-- One text is put in a place of a row. -/
theorem Mx.spoil {w : World} {lo hi : Nat} {a : Option Addr} {c : Nat} {U : List TxM} (h : Mx w lo hi a c U) (hw : Wr w a U) {g o : Nat} {s : ByteArray} {p : TxM} (hp : p ∈ U) (hg : p.1 = some ⟨g, o, none⟩) {j : Nat} :
    ∃ U', Alike U U' ∧ Mx (w.setCell ⟨g, j, none⟩ (.string s)) lo hi a c U' ∧ Wr (w.setCell ⟨g, j, none⟩ (.string s)) a U' := by
  obtain ⟨U', h1, h2, h3⟩ := rows_str (b := g) (o := j) (s := s) U h.rd
  refine ⟨U', h1, ⟨?_, h.bt, h2⟩, hw.out.set, fun q hq => ?_⟩
  · rw [h1.vals]
    refine ⟨⟨h.sl.rd.1, fun hn => ?_⟩, h.sl.cap, h.sl.capm, h.sl.nil, h.sl.form, h.sl.one⟩
    obtain ⟨g0, o0, e, hlt, hc⟩ := h.sl.rd.2 hn
    refine ⟨g0, o0, e, by rw [size_set]; exact hlt, fun k u hu => ?_⟩
    have hne : g0 ≠ g := fun e2 => by
      obtain ⟨cs, h4⟩ := hw.out _ e
      obtain ⟨cs', h5⟩ := hw.inn p hp _ hg
      simp only [] at h4 h5
      rw [e2] at h4
      rw [h4] at h5
      simp at h5
    rw [cell_same (heap_set_other hne)]
    exact hc k u hu
  · obtain ⟨r, hr, e⟩ := h3 q hq
    rw [e]; exact (hw.inn r hr).set
theorem Alike.trans {T U V : List TxM} (h : Alike T U) (k : Alike U V) : Alike T V := Eq.trans k h

/-- What spoil leaves. -/
structure SpJ (w0 : World) (lo hi : Nat) (a : Option Addr) (c : Nat) (T U : List TxM) (wr : World) : Prop where
  alike : Alike T U
  mx : Mx wr lo hi a c U
  wr_ : Wr wr a U
  out : Out lo hi w0 wr

set_option maxRecDepth 100000 in
set_option maxHeartbeats 4000000 in
theorem spoil_of {w : World} {lo hi : Nat} {a : Option Addr} {c : Nat} {T : List TxM} (H : Mx w lo hi a c T) (hw : Wr w a T) (hn : T.length ≤ 1000000) (ht : Thin (txL T)) :
    Calls Try.prog 15 #[.slice a T.length c] w fun e w' => e = .returned (.tuple #[]) ∧ ∃ U, SpJ w lo hi a c T U w' := by
  have HJ0 : Hid (SpJ w lo hi a c T T w) := Lib.hid ⟨Alike.refl T, H, hw, Out.refl _ _ _⟩
  have HTH := Lib.hid ht
  obtain ⟨n, hnn⟩ : ∃ n, T.length = n := ⟨_, rfl⟩
  have HN := Lib.hid hnn
  rw [hnn] at hn ⊢
  clear hnn H hw ht
  go_enter Try.func15, Try.ntmps15
  go_wp2_with fail
  go_loopw [7] (fun v7 wr => ∃ (k : Nat) (U : List TxM), v7 = .int .i64 k ∧ k ≤ n ∧ SpJ w lo hi a c T U wr) (fun v7 _ => n - (intOf v7).toNat)
  case atStart => exact ⟨0, T, rfl, Nat.zero_le _, HJ0.out⟩
  case round =>
    obtain ⟨wq, rfl⟩ : ∃ wq : World, wq = wr := ⟨_, rfl⟩
    obtain ⟨k, U, rfl, hk, J⟩ := hrel
    have HJ := Lib.hid J
    clear J
    by_cases hlt : k < n
    · have dk : decide (k < n) = true := decide_eq_true hlt
      obtain ⟨p, hp⟩ : ∃ p, T[k]? = some p := ⟨_, List.getElem?_eq_getElem (by rw [HN.out]; exact hlt)⟩
      obtain ⟨q, hq, q1, q2, q3⟩ := HJ.out.alike.at hp
      obtain ⟨g, o, ha, hg, f1, _, _⟩ := HJ.out.mx.row hq
      have HA := Lib.hid ha
      subst ha
      have hthin := HTH.out _ (List.mem_of_getElem? (txL_at hp))
      obtain ⟨pa, pc, l⟩ := p
      unfold txV at f1
      simp only [] at q1 q2 q3 hthin
      rw [q1, q2, q3] at f1
      obtain ⟨m, hm⟩ : ∃ m, l.length = m := ⟨_, rfl⟩
      rw [hm] at f1 hthin
      have HP := Lib.hid (And.intro hp hm)
      have j0 : (0 : Int) ≤ (k : Int) := by omega
      have j1 : (k : Int) < (n : Int) := by omega
      clear hq q1 q2 q3 hg hp hm HA
      go_wp2_with fail
      go_loopw [13] (fun v13 wz => ∃ (j : Nat) (V : List TxM), v13 = .int .i64 j ∧ j ≤ m ∧ SpJ w lo hi (some ⟨g, o, none⟩) c T V wz) (fun v13 _ => m - (intOf v13).toNat)
      case atStart => exact ⟨0, U, rfl, Nat.zero_le _, HJ.out⟩
      case round =>
        obtain ⟨wv, rfl⟩ : ∃ wv : World, wv = wr := ⟨_, rfl⟩
        obtain ⟨j, V, rfl, hj, J2⟩ := hrel
        have HJ2 := Lib.hid J2
        clear J2
        by_cases hlj : j < m
        · have dj : decide (j < m) = true := decide_eq_true hlj
          obtain ⟨q, hq, q1, q2, q3⟩ := HJ2.out.alike.at HP.out.1
          obtain ⟨_, _, _, _, _, hsl, hbt⟩ := HJ2.out.mx.row hq
          simp only [] at q1 q2 q3
          have hlen : q.2.2.length = m := by rw [q3]; exact HP.out.2
          obtain ⟨x, hx⟩ : ∃ x, q.2.2[j]? = some x := ⟨_, List.getElem?_eq_getElem (by omega)⟩
          obtain ⟨g2, o2, hpa, hg2, d0⟩ := hsl.text hx
          rw [q1] at hpa
          subst hpa
          obtain ⟨cs, hty⟩ := HJ2.out.wr_.inn q (List.mem_of_getElem? hq) _ q1
          have zf := unfrozen hty (o2 + j)
          obtain ⟨hb1, hb2⟩ := hbt _ q1
          obtain ⟨V', a1, a2, a3⟩ := HJ2.out.mx.spoil HJ2.out.wr_ (s := ⟨#[115, 112, 111, 105, 108, 116]⟩) (List.mem_of_getElem? hq) q1 (j := o2 + j)
          have HJ3 : Hid (SpJ w lo hi (some ⟨g, o, none⟩) c T V' (wv.setCell ⟨g2, o2 + j, none⟩ (.string ⟨#[115, 112, 111, 105, 108, 116]⟩))) := Lib.hid ⟨HJ2.out.alike.trans a1, a2, a3, HJ2.out.out.set hb1 hb2⟩
          have e0 : (0 : Int) ≤ (j : Int) := by omega
          have e1 : (j : Int) < (m : Int) := by omega
          clear hq q1 q2 q3 hsl hbt hlen hx hg2 hty hb1 hb2 a1 a2 a3
          go_wp2_with fail
          go_roundw
          case rel => exact ⟨j + 1, V', by go_num, by omega, HJ3.out⟩
          case measure => simp [intOf]; omega
        · have dj : decide (j < m) = false := decide_eq_false hlj
          go_wp2_with fail
          go_roundw
          case rel => exact ⟨k + 1, V, by go_num, by omega, HJ2.out⟩
          case measure => simp [intOf]; omega
    · have dk : decide (k < n) = false := decide_eq_false hlt
      go_wp2_with fail
      first
        | (go_end0; exact ⟨rfl, U, HJ.out⟩)
        | exact bodyPost_ret (results_none rfl _ _ _) rfl ⟨rfl, U, HJ.out⟩

theorem ours_of (k : Int) (a : Option Addr) (n c : Nat) (w : World) : Calls Try.prog 17 #[rgV k a n c] w fun e w' => e = .returned (rgV k a n c) ∧ Below w.heap.size w w' := by
  unfold rgV
  obtain ⟨w1, e1, hb1, hz1, g0, g1⟩ := two_new w (.cells #[.int .i64 k, .slice a n c] 41) (.cells #[.int .i64 0, .slice none 0 0] 28)
  have HB1 := Lib.hid hb1
  have HG1 := Lib.hid g1
  have k0 : w1.cell? ⟨w.heap.size, 0, none⟩ = some (.int .i64 k) := by rw [cell_at g0]; rfl
  have k1 : w1.cell? ⟨w.heap.size, 1, none⟩ = some (.slice a n c) := by rw [cell_at g0]; rfl
  have r0 : w1.cell? ⟨w.heap.size + 1, 0, none⟩ = some (.int .i64 0) := by rw [cell_at g1]; rfl
  have r1 : w1.cell? ⟨w.heap.size + 1, 1, none⟩ = some (.slice none 0 0) := by rw [cell_at g1]; rfl
  have zz := fun j => unfrozen g1 j
  clear hb1 hz1 g0 g1
  go_enter Try.func17, Try.ntmps17
  go_upto_region 1 with fail
  try rw [e1]
  clear e1
  go_wp2_with fail
  have hs := set2_at HG1.out (.int .i64 k) (.slice a n c)
  have q0 : (set2 w1 (w.heap.size + 1) 0 (.int .i64 k) (.slice a n c)).cell? ⟨w.heap.size + 1, 0, none⟩ = some (.int .i64 k) := by rw [cell_at hs]; rfl
  have q1 : (set2 w1 (w.heap.size + 1) 0 (.int .i64 k) (.slice a n c)).cell? ⟨w.heap.size + 1, 1, none⟩ = some (.slice a n c) := by rw [cell_at hs]; rfl
  have hb := set2_below (b := w.heap.size + 1) (o := 0) HB1.out (Nat.le_succ _) (.int .i64 k) (.slice a n c)
  unfold set2 at q0 q1 hb
  exact bodyPost_ret (v := .agg #[.int .i64 k, .slice a n c]) (by simp [results, Try.results17, go_sem, q0, q1]) rfl ⟨rfl, hb⟩

end Go.Proofs.Yteipnllefifgiaa
