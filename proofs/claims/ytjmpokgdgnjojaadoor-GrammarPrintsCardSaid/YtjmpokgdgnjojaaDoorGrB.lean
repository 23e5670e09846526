/-
  Grammar's steps: what each key comes to, at this seat's numbers.
-/
import Derived.Test.YtjmpokgdgnjojaaDoorGrA
namespace Go.Proofs.YtjmpokgdgnjojaaDoor
open Go Go.RowKit
set_option linter.unusedVariables false

/-- A command. -/
structure Cm where
  op : Int
  vb : Int
  ct : Int
  rg : Int
  ch : Int
/-- Who takes the next key. -/
inductive Stp where
  | begin | register | letter | behindOp | behindI | behindG
  | count (a n : Int) (op : Bool)
abbrev prC (bg : Value) (c : Cm) (nx : Value) : Array Value := #[bg, .int .i64 c.op, .int .i64 c.vb, .int .i64 c.ct, .int .i64 c.rg, .int .i64 c.ch, nx]
/-- A parser at p. -/
def Pr (w : World) (p : Nat) (bg : Value) (c : Cm) (nx : Value) : Prop := w.heap[p]? = some (.cells (prC bg c nx) 44 (0, 0))
abbrev thenV (o : Bool) : Value := .func (.func (if o then 53 else 15)) #[] #[]
/-- A step as a value. -/
def StV (w : World) (X : Nat → Prop) (v : Value) : Option Stp → Prop
  | none => v = .nilFunc
  | some .begin => v = .func (.func 15) #[] #[]
  | some .register => v = .func (.func 27) #[] #[]
  | some .letter => v = .func (.func 44) #[] #[]
  | some .behindOp => v = .func (.func 45) #[] #[]
  | some .behindI => v = .func (.func 59) #[] #[]
  | some .behindG => v = .func (.func 52) #[] #[]
  | some (.count a n o) => ∃ b3 b4 b5, v = .func (.func 40) #[] #[pbox b5, pbox b4, pbox b3] ∧ w.heap[b3]? = some (.cells #[.int .i64 a] 3 (0, 0)) ∧ w.heap[b4]? = some (.cells #[.int .i64 n] 3 (0, 0)) ∧ w.heap[b5]? = some (.cells #[thenV o] 42 (0, 0)) ∧ X b3 ∧ X b4 ∧ X b5

/-- What a step leaves as it was: all but the parser at p. -/
structure GMv (p : Nat) (w w' : World) : Prop where
  low : Below 0 w w'
  oth : ∀ k, k < w.heap.size → k ≠ p → w'.heap[k]? = w.heap[k]?
theorem GMv.refl (p : Nat) (w : World) : GMv p w w := ⟨Below.refl _ _, fun _ _ _ => rfl⟩
theorem GMv.trans {p : Nat} {a b c : World} (h : GMv p a b) (k : GMv p b c) : GMv p a c :=
  ⟨h.low.trans k.low, fun i hi hp => (k.oth i (Nat.lt_of_lt_of_le hi h.low.size) hp).trans (h.oth i hi hp)⟩
theorem GMv.of_below {p : Nat} {w w' : World} (h : Below w.heap.size w w') : GMv p w w' := ⟨h.mono (Nat.zero_le _), fun k hk _ => h.block k hk⟩
theorem GMv.set {p o : Nat} {w : World} {u : Value} : GMv p w (w.setCell ⟨p, o, none⟩ u) :=
  ⟨(Below.refl 0 w).setCell (p := ⟨p, o, none⟩) (Nat.zero_le _) u, fun k _ hp => heap_set_other hp⟩
theorem StV.gmv {w w' : World} {p : Nat} {X : Nat → Prop} {v : Value} {st : Option Stp} {cs : Array Value} {fr : Nat × Nat} (h : StV w X v st) (hm : GMv p w w') (hp : w.heap[p]? = some (.cells cs 44 fr)) : StV w' X v st := by
  cases st with
  | none => exact h
  | some st =>
    cases st <;> first
      | exact h
      | (obtain ⟨b3, b4, b5, e, h3, h4, h5, hx⟩ := h
         refine ⟨b3, b4, b5, e, (hm.oth b3 (lt_of_heap h3) (fun e => ?_)).trans h3, (hm.oth b4 (lt_of_heap h4) (fun e => ?_)).trans h4, (hm.oth b5 (lt_of_heap h5) (fun e => ?_)).trans h5, hx⟩
         · subst e; rw [hp] at h3; cases h3
         · subst e; rw [hp] at h4; cases h4
         · subst e; rw [hp] at h5; cases h5)

theorem StV.imp {w : World} {X Y : Nat → Prop} {v : Value} {st : Option Stp} (h : StV w X v st) (hxy : ∀ b, X b → b < w.heap.size → Y b) : StV w Y v st := by
  cases st with
  | none => exact h
  | some st =>
    cases st <;> first
      | exact h
      | (obtain ⟨b3, b4, b5, e, h3, h4, h5, x3, x4, x5⟩ := h
         exact ⟨b3, b4, b5, e, h3, h4, h5, hxy _ x3 (lt_of_heap h3), hxy _ x4 (lt_of_heap h4), hxy _ x5 (lt_of_heap h5)⟩)

abbrev pressO (k way : Int) (r : Bool) : Obj := .cells #[.int .i64 k, .int .i64 way, .bool r] 48
abbrev pressV (k way : Int) (r : Bool) : Value := .agg #[.int .i64 k, .int .i64 way, .bool r]
abbrev cmP (p : Nat) : Value := .pointer (some ⟨p, 1, none⟩)

section
variable {w wi : World} {p : Nat} {bg nx : Value} {c : Cm}
theorem Pr.below (H : Pr w p bg c nx) (hb : Below w.heap.size w wi) : Pr wi p bg c nx := (hb.block p (lt_of_heap H)).trans H
theorem Pr.cs (H : Pr w p bg c nx) : w.cell? ⟨p, 1, none⟩ = some (.int .i64 c.op) ∧ w.cell? ⟨p, 2, none⟩ = some (.int .i64 c.vb) ∧ w.cell? ⟨p, 3, none⟩ = some (.int .i64 c.ct) ∧ w.cell? ⟨p, 4, none⟩ = some (.int .i64 c.rg) ∧ w.cell? ⟨p, 5, none⟩ = some (.int .i64 c.ch) ∧
    w.frozen? ⟨p, 1, none⟩ = false ∧ w.frozen? ⟨p, 2, none⟩ = false ∧ w.frozen? ⟨p, 3, none⟩ = false ∧ w.frozen? ⟨p, 4, none⟩ = false ∧ w.frozen? ⟨p, 5, none⟩ = false :=
  ⟨by rw [cell_at H]; rfl, by rw [cell_at H]; rfl, by rw [cell_at H]; rfl, by rw [cell_at H]; rfl, by rw [cell_at H]; rfl, unfrozen H 1, unfrozen H 2, unfrozen H 3, unfrozen H 4, unfrozen H 5⟩
/-- What lies behind the press's box and some calls that write nothing. -/
theorem Pr.keep (H : Pr w p bg c nx) (k way : Int) (r : Bool) (hb : Below (w.heap.size + 1) (w.alloc (pressO k way r)) wi) :
    (wi.cell? ⟨w.heap.size, 0, none⟩ = some (.int .i64 k) ∧ wi.cell? ⟨w.heap.size, 1, none⟩ = some (.int .i64 way) ∧ wi.cell? ⟨w.heap.size, 2, none⟩ = some (.bool r)) ∧ Pr wi p bg c nx ∧ GMv p w wi := by
  have h1 : wi.heap[w.heap.size]? = some (pressO k way r) := (hb.block _ (by omega)).trans (heap_alloc_new w _)
  have hp := lt_of_heap H
  refine ⟨⟨by rw [cell_at h1]; rfl, by rw [cell_at h1]; rfl, by rw [cell_at h1]; rfl⟩, (hb.block p (by omega)).trans ((t_al w _).block p hp |>.trans H), ?_⟩
  exact (GMv.of_below (t_al w _)).trans (GMv.of_below (by simpa using hb))
end

/-- Which characters are verbs, or the second keys of some. -/
def s_mot : ByteArray := ⟨#[104, 106, 107, 108, 48, 36, 119, 98, 123, 125, 71, 72, 76, 110, 78]⟩
def s_ops : ByteArray := ⟨#[100, 121, 99]⟩
def s_let : ByteArray := ⟨#[113, 64]⟩
def s_wg : ByteArray := ⟨#[45, 43, 105, 97, 100, 104, 108, 106, 107]⟩
def s_wi : ByteArray := ⟨#[99, 114, 108, 98, 116]⟩
def s_na : ByteArray := ⟨#[120, 112, 80, 111, 79, 117, 46, 105, 97, 73, 65, 118, 86, 58, 47]⟩
def s_nc : ByteArray := ⟨#[118, 114, 100, 117]⟩
def s_va : ByteArray := ⟨#[100, 120, 121, 99, 112, 111, 118, 86, 58]⟩
def s_vc : ByteArray := ⟨#[118, 100, 117]⟩
/-- What a step comes to. -/
def SRes (w : World) (p : Nat) (bg nx : Value) (res : Option Stp × Int × Cm) (e : Ending) (w' : World) : Prop :=
  ∃ fv, e = .returned (.tuple #[fv, .int .i64 res.2.1]) ∧ StV w' (w.heap.size ≤ ·) fv res.1 ∧ Pr w' p bg res.2.2 nx ∧ GMv p w w'

section
variable {w : World} {p : Nat} {bg nx : Value} {c : Cm}
theorem whole_of (H : Pr w p bg c nx) (v : Int) : Calls Tryd.prog 42 #[cmP p, .int .i64 v] w (SRes w p bg nx (none, 0, { c with vb := v })) := by
  obtain ⟨c1, c2, c3, c4, c5, f1, f2, f3, f4, f5⟩ := H.cs
  have HP : Hid (Pr (w.setCell ⟨p, 2, none⟩ (.int .i64 v)) p bg { c with vb := v } nx ∧ GMv p w (w.setCell ⟨p, 2, none⟩ (.int .i64 v))) := ⟨heap_set_at H, GMv.set⟩
  clear H
  go_enter Tryd.func42, Tryd.ntmps42
  go_wp2_with fail
  go_ret2
  exact ⟨_, rfl, rfl, HP.out⟩
theorem GMv.then {p : Nat} {w w1 : World} {bg nx : Value} {res : Option Stp × Int × Cm} {e : Ending} {w' : World} (hm : GMv p w w1) (h : SRes w1 p bg nx res e w') : SRes w p bg nx res e w' := by
  obtain ⟨fv, h1, h2, h3, h4⟩ := h
  exact ⟨fv, h1, h2.imp (fun b hb _ => Nat.le_trans hm.low.size hb), h3, hm.trans h4⟩

def motF (c : Cm) (k : Int) : Option Stp × Int × Cm := if mvN k = 103 then (some .behindG, 0, c) else if inS s_mot (mvN k) = true then (none, 0, { c with vb := mvN k }) else (none, 10, c)

set_option maxRecDepth 100000 in
set_option maxHeartbeats 4000000 in
theorem motion_of (H : Pr w p bg c nx) (k way : Int) (r : Bool) : Calls Tryd.prog 43 #[cmP p, pressV k way r] w (SRes w p bg nx (motF c k)) := by
  have B0 : Hid (Below (w.heap.size + 1) (w.alloc (pressO k way r)) (w.alloc (pressO k way r))) := Below.refl _ _
  have S0 : Hid (w.heap.size + 1 ≤ (w.alloc (pressO k way r)).heap.size) := by show _ ≤ _; simp
  obtain ⟨⟨k0, k1, k2⟩, P0, G0⟩ := H.keep k way r B0.out
  obtain ⟨c1, c2, c3, c4, c5, f1, f2, f3, f4, f5⟩ := P0.cs
  have HK := Lib.hid (fun wi (hb : Below (w.heap.size + 1) (w.alloc (pressO k way r)) wi) => H.keep k way r hb)
  have P0 := Lib.hid P0
  have G0 := Lib.hid G0
  unfold motF
  by_cases hg : mvN k = 103
  · have HM := Lib.hid (moving_of k (w.alloc (pressO k way r)))
    rw [if_pos hg]
    rw [hg] at HM
    go_enter Tryd.func43, Tryd.ntmps43
    go_wp2_with fail
    refine HM.out.mono ?_; rintro e _ ⟨rfl, rfl⟩
    go_wp2_with fail
    go_ret2
    exact ⟨_, rfl, rfl, P0.out, G0.out⟩
  · have HM := Lib.hid (moving_of k (w.alloc (pressO k way r)))
    rw [if_neg hg]
    have zg : (mvN k == 103) = false := beq_eq_false_iff_ne.2 hg
    generalize mvN k = m at *
    cases hm : inS s_mot m
    · rw [if_neg (by simp)]
      have HA := Lib.hid (fun w => amongB (s := s_mot) rfl hm w)
      clear hm
      go_enter Tryd.func43, Tryd.ntmps43
      go_wp2_with fail
      refine HM.out.mono ?_; rintro e _ ⟨rfl, rfl⟩
      go_wp2_with fail
      refine (HA.out _).mono ?_; rintro e w1 ⟨rfl, b1⟩
      have B1 := Lib.hid (B0.out.trans (b1.mono S0.out))
      have S1 : Hid (w.heap.size + 1 ≤ w1.heap.size) := Nat.le_trans S0.out b1.size
      obtain ⟨⟨k0, k1, k2⟩, P1, G1⟩ := HK.out w1 B1.out
      obtain ⟨c1, c2, c3, c4, c5, f1, f2, f3, f4, f5⟩ := P1.cs
      have P1 := Lib.hid P1
      have G1 := Lib.hid G1
      clear b1
      go_wp2_with fail
      refine (wrong_of _).mono ?_; rintro e _ ⟨rfl, rfl⟩
      go_wp2_with fail
      go_ret2
      exact ⟨_, rfl, rfl, P1.out, G1.out⟩
    · rw [if_pos rfl]
      have HA := Lib.hid (fun w => amongB (s := s_mot) rfl hm w)
      clear hm
      go_enter Tryd.func43, Tryd.ntmps43
      go_wp2_with fail
      refine HM.out.mono ?_; rintro e _ ⟨rfl, rfl⟩
      go_wp2_with fail
      refine (HA.out _).mono ?_; rintro e w1 ⟨rfl, b1⟩
      have B1 := Lib.hid (B0.out.trans (b1.mono S0.out))
      have S1 : Hid (w.heap.size + 1 ≤ w1.heap.size) := Nat.le_trans S0.out b1.size
      obtain ⟨⟨k0, k1, k2⟩, P1, G1⟩ := HK.out w1 B1.out
      obtain ⟨c1, c2, c3, c4, c5, f1, f2, f3, f4, f5⟩ := P1.cs
      have P1 := Lib.hid P1
      have G1 := Lib.hid G1
      clear b1
      go_wp2_with fail
      refine (whole_of P1.out m).mono ?_; rintro e wf hr
      obtain ⟨fv, rfl, h1, h2, h3⟩ := G1.out.then hr
      have HR := Lib.hid (And.intro h1 (And.intro h2 h3))
      clear hr h1 h2 h3
      go_wp2_with fail
      go_ret2
      exact ⟨_, rfl, HR.out⟩

theorem inS_small {s : ByteArray} {k : Int} (h : inS s k = true) : 0 ≤ k ∧ k < 256 := by
  unfold inS at h
  obtain ⟨b, _, hb⟩ := List.any_eq_true.1 h
  have := of_decide_eq_true hb
  have := b.toNat_lt
  omega
def visF (c : Cm) (k : Int) : Option Stp × Int × Cm := if inS s_va k = true ∨ inC s_vc k = true then (none, 0, { c with vb := k }) else motF c k
def normF (c : Cm) (k : Int) (r : Bool) : Option Stp × Int × Cm :=
  if inS s_na k = true ∨ inC s_nc k = true then (none, 0, { c with vb := k }) else if k = 113 ∧ r = true then (none, 0, { c with vb := k }) else
  if inS s_let k = true then (some .letter, 0, { c with vb := k }) else if inS s_ops k = true then (some .behindOp, 0, { c with op := k }) else motF c k
def letF (c : Cm) (k : Int) : Option Stp × Int × Cm := if 97 ≤ k ∧ k ≤ 122 then (none, 0, { c with ch := k }) else (none, 10, c)
def iF (c : Cm) (k : Int) : Option Stp × Int × Cm := if inS s_wi k = true then (none, 0, { c with vb := 256 * 105 + k }) else (none, 10, c)
def gF (c : Cm) (k way : Int) : Option Stp × Int × Cm := if k = 103 ∨ ((way ≠ 1 ∧ c.op = 0) ∧ inS s_wg k = true) then (none, 0, { c with vb := 256 * 103 + k }) else (none, 10, c)
def opF (c : Cm) (k : Int) : Option Stp × Int × Cm := if k = c.op then (none, 0, { c with vb := k }) else if k = 105 then (some .behindI, 0, c) else motF c k
def regF (c : Cm) (k : Int) : Option Stp × Int × Cm := if (97 ≤ k ∧ k ≤ 122) ∨ (65 ≤ k ∧ k ≤ 90) then (some .begin, 0, { c with rg := k }) else (none, 10, c)

set_option maxRecDepth 100000 in
set_option maxHeartbeats 4000000 in
theorem visual_of (H : Pr w p bg c nx) (k way : Int) (r : Bool) : Calls Tryd.prog 30 #[cmP p, pressV k way r] w (SRes w p bg nx (visF c k)) := by
  have B0 : Hid (Below (w.heap.size + 1) (w.alloc (pressO k way r)) (w.alloc (pressO k way r))) := Below.refl _ _
  have S0 : Hid (w.heap.size + 1 ≤ (w.alloc (pressO k way r)).heap.size) := by show _ ≤ _; simp
  obtain ⟨⟨k0, k1, k2⟩, P0, G0⟩ := H.keep k way r B0.out
  obtain ⟨c1, c2, c3, c4, c5, f1, f2, f3, f4, f5⟩ := P0.cs
  have HK := Lib.hid (fun wi (hb : Below (w.heap.size + 1) (w.alloc (pressO k way r)) wi) => H.keep k way r hb)
  have P0 := Lib.hid P0
  have G0 := Lib.hid G0
  unfold visF
  cases hv : inS s_va k
  · cases hc : inC s_vc k
    · rw [if_neg (by simp)]
      have HA := Lib.hid (fun w => amongB (s := s_va) rfl hv w)
      have HC := Lib.hid (fun w => amongC (s := s_vc) rfl hc w)
      clear hv hc
      go_enter Tryd.func30, Tryd.ntmps30
      go_wp2_with fail
      refine (HA.out _).mono ?_; rintro e w1 ⟨rfl, b1⟩
      have B1 := Lib.hid (B0.out.trans (b1.mono S0.out))
      have S1 : Hid (w.heap.size + 1 ≤ w1.heap.size) := Nat.le_trans S0.out b1.size
      obtain ⟨⟨k0, k1, k2⟩, P1, G1⟩ := HK.out w1 B1.out
      obtain ⟨c1, c2, c3, c4, c5, f1, f2, f3, f4, f5⟩ := P1.cs
      have P1 := Lib.hid P1
      have G1 := Lib.hid G1
      clear b1
      go_wp2_with fail
      refine (HC.out _).mono ?_; rintro e w2 ⟨rfl, b2⟩
      have B2 := Lib.hid (B1.out.trans (b2.mono S1.out))
      have S2 : Hid (w.heap.size + 1 ≤ w2.heap.size) := Nat.le_trans S1.out b2.size
      obtain ⟨⟨k0, k1, k2⟩, P2, G2⟩ := HK.out w2 B2.out
      obtain ⟨c1, c2, c3, c4, c5, f1, f2, f3, f4, f5⟩ := P2.cs
      have P2 := Lib.hid P2
      have G2 := Lib.hid G2
      clear b2
      go_wp2_with fail
      refine (motion_of P2.out k way r).mono ?_; rintro e wf hr
      obtain ⟨fv, rfl, h1, h2, h3⟩ := G2.out.then hr
      have HR := Lib.hid (And.intro h1 (And.intro h2 h3))
      clear hr h1 h2 h3
      go_wp2_with fail
      go_ret2
      exact ⟨_, rfl, HR.out⟩
    · rw [if_pos (.inr rfl)]
      have HA := Lib.hid (fun w => amongB (s := s_va) rfl hv w)
      have HC := Lib.hid (fun w => amongC (s := s_vc) rfl hc w)
      clear hv hc
      go_enter Tryd.func30, Tryd.ntmps30
      go_wp2_with fail
      refine (HA.out _).mono ?_; rintro e w1 ⟨rfl, b1⟩
      have B1 := Lib.hid (B0.out.trans (b1.mono S0.out))
      have S1 : Hid (w.heap.size + 1 ≤ w1.heap.size) := Nat.le_trans S0.out b1.size
      obtain ⟨⟨k0, k1, k2⟩, P1, G1⟩ := HK.out w1 B1.out
      obtain ⟨c1, c2, c3, c4, c5, f1, f2, f3, f4, f5⟩ := P1.cs
      have P1 := Lib.hid P1
      have G1 := Lib.hid G1
      clear b1
      go_wp2_with fail
      refine (HC.out _).mono ?_; rintro e w2 ⟨rfl, b2⟩
      have B2 := Lib.hid (B1.out.trans (b2.mono S1.out))
      have S2 : Hid (w.heap.size + 1 ≤ w2.heap.size) := Nat.le_trans S1.out b2.size
      obtain ⟨⟨k0, k1, k2⟩, P2, G2⟩ := HK.out w2 B2.out
      obtain ⟨c1, c2, c3, c4, c5, f1, f2, f3, f4, f5⟩ := P2.cs
      have P2 := Lib.hid P2
      have G2 := Lib.hid G2
      clear b2
      go_wp2_with fail
      refine (whole_of P2.out k).mono ?_; rintro e wf hr
      obtain ⟨fv, rfl, h1, h2, h3⟩ := G2.out.then hr
      have HR := Lib.hid (And.intro h1 (And.intro h2 h3))
      clear hr h1 h2 h3
      go_wp2_with fail
      go_ret2
      exact ⟨_, rfl, HR.out⟩
  · rw [if_pos (.inl rfl)]
    have HA := Lib.hid (fun w => amongB (s := s_va) rfl hv w)
    clear hv
    go_enter Tryd.func30, Tryd.ntmps30
    go_wp2_with fail
    refine (HA.out _).mono ?_; rintro e w1 ⟨rfl, b1⟩
    have B1 := Lib.hid (B0.out.trans (b1.mono S0.out))
    have S1 : Hid (w.heap.size + 1 ≤ w1.heap.size) := Nat.le_trans S0.out b1.size
    obtain ⟨⟨k0, k1, k2⟩, P1, G1⟩ := HK.out w1 B1.out
    obtain ⟨c1, c2, c3, c4, c5, f1, f2, f3, f4, f5⟩ := P1.cs
    have P1 := Lib.hid P1
    have G1 := Lib.hid G1
    clear b1
    go_wp2_with fail
    refine (whole_of P1.out k).mono ?_; rintro e wf hr
    obtain ⟨fv, rfl, h1, h2, h3⟩ := G1.out.then hr
    have HR := Lib.hid (And.intro h1 (And.intro h2 h3))
    clear hr h1 h2 h3
    go_wp2_with fail
    go_ret2
    exact ⟨_, rfl, HR.out⟩

set_option maxRecDepth 100000 in
set_option maxHeartbeats 16000000 in
theorem normal_of (H : Pr w p bg c nx) (k way : Int) (r : Bool) : Calls Tryd.prog 31 #[cmP p, pressV k way r] w (SRes w p bg nx (normF c k r)) := by
  have B0 : Hid (Below (w.heap.size + 1) (w.alloc (pressO k way r)) (w.alloc (pressO k way r))) := Below.refl _ _
  have S0 : Hid (w.heap.size + 1 ≤ (w.alloc (pressO k way r)).heap.size) := by show _ ≤ _; simp
  obtain ⟨⟨k0, k1, k2⟩, P0, G0⟩ := H.keep k way r B0.out
  obtain ⟨c1, c2, c3, c4, c5, f1, f2, f3, f4, f5⟩ := P0.cs
  have HK := Lib.hid (fun wi (hb : Below (w.heap.size + 1) (w.alloc (pressO k way r)) wi) => H.keep k way r hb)
  have P0 := Lib.hid P0
  have G0 := Lib.hid G0
  unfold normF
  cases ha : inS s_na k
  · cases hc : inC s_nc k
    · rw [if_neg (by simp)]
      by_cases hq : k = 113 ∧ r = true
      · rw [if_pos hq]
        obtain ⟨rfl, rfl⟩ := hq
        have HA := Lib.hid (fun w => amongB (s := s_na) rfl ha w)
        have HC := Lib.hid (fun w => amongC (s := s_nc) rfl hc w)
        clear ha hc
        go_enter Tryd.func31, Tryd.ntmps31
        go_wp2_with fail
        refine (HA.out _).mono ?_; rintro e w1 ⟨rfl, b1⟩
        have B1 := Lib.hid (B0.out.trans (b1.mono S0.out))
        have S1 : Hid (w.heap.size + 1 ≤ w1.heap.size) := Nat.le_trans S0.out b1.size
        obtain ⟨⟨k0, k1, k2⟩, P1, G1⟩ := HK.out w1 B1.out
        obtain ⟨c1, c2, c3, c4, c5, f1, f2, f3, f4, f5⟩ := P1.cs
        have P1 := Lib.hid P1
        have G1 := Lib.hid G1
        clear b1
        go_wp2_with fail
        refine (HC.out _).mono ?_; rintro e w2 ⟨rfl, b2⟩
        have B2 := Lib.hid (B1.out.trans (b2.mono S1.out))
        have S2 : Hid (w.heap.size + 1 ≤ w2.heap.size) := Nat.le_trans S1.out b2.size
        obtain ⟨⟨k0, k1, k2⟩, P2, G2⟩ := HK.out w2 B2.out
        obtain ⟨c1, c2, c3, c4, c5, f1, f2, f3, f4, f5⟩ := P2.cs
        have P2 := Lib.hid P2
        have G2 := Lib.hid G2
        clear b2
        go_wp2_with fail
        refine (whole_of P2.out 113).mono ?_; rintro e wf hr
        obtain ⟨fv, rfl, h1, h2, h3⟩ := G2.out.then hr
        have HR := Lib.hid (And.intro h1 (And.intro h2 h3))
        clear hr h1 h2 h3
        go_wp2_with fail
        go_ret2
        exact ⟨_, rfl, HR.out⟩
      · rw [if_neg hq]
        cases hl : inS s_let k
        · rw [if_neg (by simp)]
          have hk : (k == 113) = false := beq_eq_false_iff_ne.2 (fun e => by subst e; revert hl; decide)
          cases ho : inS s_ops k
          · rw [if_neg (by simp)]
            have HA := Lib.hid (fun w => amongB (s := s_na) rfl ha w)
            have HC := Lib.hid (fun w => amongC (s := s_nc) rfl hc w)
            have HL := Lib.hid (fun w => amongB (s := s_let) rfl hl w)
            have HO := Lib.hid (fun w => amongB (s := s_ops) rfl ho w)
            clear ha hc hl ho hq
            go_enter Tryd.func31, Tryd.ntmps31
            go_wp2_with fail
            refine (HA.out _).mono ?_; rintro e w1 ⟨rfl, b1⟩
            have B1 := Lib.hid (B0.out.trans (b1.mono S0.out))
            have S1 : Hid (w.heap.size + 1 ≤ w1.heap.size) := Nat.le_trans S0.out b1.size
            obtain ⟨⟨k0, k1, k2⟩, P1, G1⟩ := HK.out w1 B1.out
            obtain ⟨c1, c2, c3, c4, c5, f1, f2, f3, f4, f5⟩ := P1.cs
            have P1 := Lib.hid P1
            have G1 := Lib.hid G1
            clear b1
            go_wp2_with fail
            refine (HC.out _).mono ?_; rintro e w2 ⟨rfl, b2⟩
            have B2 := Lib.hid (B1.out.trans (b2.mono S1.out))
            have S2 : Hid (w.heap.size + 1 ≤ w2.heap.size) := Nat.le_trans S1.out b2.size
            obtain ⟨⟨k0, k1, k2⟩, P2, G2⟩ := HK.out w2 B2.out
            obtain ⟨c1, c2, c3, c4, c5, f1, f2, f3, f4, f5⟩ := P2.cs
            have P2 := Lib.hid P2
            have G2 := Lib.hid G2
            clear b2
            go_wp2_with fail
            refine (HL.out _).mono ?_; rintro e w3 ⟨rfl, b3⟩
            have B3 := Lib.hid (B2.out.trans (b3.mono S2.out))
            have S3 : Hid (w.heap.size + 1 ≤ w3.heap.size) := Nat.le_trans S2.out b3.size
            obtain ⟨⟨k0, k1, k2⟩, P3, G3⟩ := HK.out w3 B3.out
            obtain ⟨c1, c2, c3, c4, c5, f1, f2, f3, f4, f5⟩ := P3.cs
            have P3 := Lib.hid P3
            have G3 := Lib.hid G3
            clear b3
            go_wp2_with fail
            refine (HO.out _).mono ?_; rintro e w4 ⟨rfl, b4⟩
            have B4 := Lib.hid (B3.out.trans (b4.mono S3.out))
            have S4 : Hid (w.heap.size + 1 ≤ w4.heap.size) := Nat.le_trans S3.out b4.size
            obtain ⟨⟨k0, k1, k2⟩, P4, G4⟩ := HK.out w4 B4.out
            obtain ⟨c1, c2, c3, c4, c5, f1, f2, f3, f4, f5⟩ := P4.cs
            have P4 := Lib.hid P4
            have G4 := Lib.hid G4
            clear b4
            go_wp2_with fail
            refine (motion_of P4.out k way r).mono ?_; rintro e wf hr
            obtain ⟨fv, rfl, h1, h2, h3⟩ := G4.out.then hr
            have HR := Lib.hid (And.intro h1 (And.intro h2 h3))
            clear hr h1 h2 h3
            go_wp2_with fail
            go_ret2
            exact ⟨_, rfl, HR.out⟩
          · rw [if_pos rfl]
            have HA := Lib.hid (fun w => amongB (s := s_na) rfl ha w)
            have HC := Lib.hid (fun w => amongC (s := s_nc) rfl hc w)
            have HL := Lib.hid (fun w => amongB (s := s_let) rfl hl w)
            have HO := Lib.hid (fun w => amongB (s := s_ops) rfl ho w)
            clear ha hc hl ho hq
            go_enter Tryd.func31, Tryd.ntmps31
            go_wp2_with fail
            refine (HA.out _).mono ?_; rintro e w1 ⟨rfl, b1⟩
            have B1 := Lib.hid (B0.out.trans (b1.mono S0.out))
            have S1 : Hid (w.heap.size + 1 ≤ w1.heap.size) := Nat.le_trans S0.out b1.size
            obtain ⟨⟨k0, k1, k2⟩, P1, G1⟩ := HK.out w1 B1.out
            obtain ⟨c1, c2, c3, c4, c5, f1, f2, f3, f4, f5⟩ := P1.cs
            have P1 := Lib.hid P1
            have G1 := Lib.hid G1
            clear b1
            go_wp2_with fail
            refine (HC.out _).mono ?_; rintro e w2 ⟨rfl, b2⟩
            have B2 := Lib.hid (B1.out.trans (b2.mono S1.out))
            have S2 : Hid (w.heap.size + 1 ≤ w2.heap.size) := Nat.le_trans S1.out b2.size
            obtain ⟨⟨k0, k1, k2⟩, P2, G2⟩ := HK.out w2 B2.out
            obtain ⟨c1, c2, c3, c4, c5, f1, f2, f3, f4, f5⟩ := P2.cs
            have P2 := Lib.hid P2
            have G2 := Lib.hid G2
            clear b2
            go_wp2_with fail
            refine (HL.out _).mono ?_; rintro e w3 ⟨rfl, b3⟩
            have B3 := Lib.hid (B2.out.trans (b3.mono S2.out))
            have S3 : Hid (w.heap.size + 1 ≤ w3.heap.size) := Nat.le_trans S2.out b3.size
            obtain ⟨⟨k0, k1, k2⟩, P3, G3⟩ := HK.out w3 B3.out
            obtain ⟨c1, c2, c3, c4, c5, f1, f2, f3, f4, f5⟩ := P3.cs
            have P3 := Lib.hid P3
            have G3 := Lib.hid G3
            clear b3
            go_wp2_with fail
            refine (HO.out _).mono ?_; rintro e w4 ⟨rfl, b4⟩
            have B4 := Lib.hid (B3.out.trans (b4.mono S3.out))
            obtain ⟨⟨k0, k1, k2⟩, P4, G4⟩ := HK.out w4 B4.out
            obtain ⟨c1, c2, c3, c4, c5, f1, f2, f3, f4, f5⟩ := P4.cs
            have P4 := Lib.hid P4
            have G4 := Lib.hid G4
            have PS : Hid (Pr (w4.setCell ⟨p, 1, none⟩ (.int .i64 k)) p bg { c with op := k } nx ∧ GMv p w (w4.setCell ⟨p, 1, none⟩ (.int .i64 k))) := ⟨heap_set_at P4.out, G4.out.trans GMv.set⟩
            clear b4
            go_wp2_with fail
            go_ret2
            exact ⟨_, rfl, rfl, PS.out⟩
        · rw [if_pos rfl]
          have HA := Lib.hid (fun w => amongB (s := s_na) rfl ha w)
          have HC := Lib.hid (fun w => amongC (s := s_nc) rfl hc w)
          have HL := Lib.hid (fun w => amongB (s := s_let) rfl hl w)
          have hkr : k = 113 → r = false := fun e => by cases r; rfl; exact absurd ⟨e, rfl⟩ hq
          by_cases h113 : k = 113
          · have hr := hkr h113
            subst h113
            subst hr
            clear ha hc hl hq hkr
            go_enter Tryd.func31, Tryd.ntmps31
            go_wp2_with fail
            refine (HA.out _).mono ?_; rintro e w1 ⟨rfl, b1⟩
            have B1 := Lib.hid (B0.out.trans (b1.mono S0.out))
            have S1 : Hid (w.heap.size + 1 ≤ w1.heap.size) := Nat.le_trans S0.out b1.size
            obtain ⟨⟨k0, k1, k2⟩, P1, G1⟩ := HK.out w1 B1.out
            obtain ⟨c1, c2, c3, c4, c5, f1, f2, f3, f4, f5⟩ := P1.cs
            have P1 := Lib.hid P1
            have G1 := Lib.hid G1
            clear b1
            go_wp2_with fail
            refine (HC.out _).mono ?_; rintro e w2 ⟨rfl, b2⟩
            have B2 := Lib.hid (B1.out.trans (b2.mono S1.out))
            have S2 : Hid (w.heap.size + 1 ≤ w2.heap.size) := Nat.le_trans S1.out b2.size
            obtain ⟨⟨k0, k1, k2⟩, P2, G2⟩ := HK.out w2 B2.out
            obtain ⟨c1, c2, c3, c4, c5, f1, f2, f3, f4, f5⟩ := P2.cs
            have P2 := Lib.hid P2
            have G2 := Lib.hid G2
            clear b2
            go_wp2_with fail
            refine (HL.out _).mono ?_; rintro e w3 ⟨rfl, b3⟩
            have B3 := Lib.hid (B2.out.trans (b3.mono S2.out))
            obtain ⟨⟨k0, k1, k2⟩, P3, G3⟩ := HK.out w3 B3.out
            obtain ⟨c1, c2, c3, c4, c5, f1, f2, f3, f4, f5⟩ := P3.cs
            have P3 := Lib.hid P3
            have G3 := Lib.hid G3
            have PS : Hid (Pr (w3.setCell ⟨p, 2, none⟩ (.int .i64 113)) p bg { c with vb := 113 } nx ∧ GMv p w (w3.setCell ⟨p, 2, none⟩ (.int .i64 113))) := ⟨heap_set_at P3.out, G3.out.trans GMv.set⟩
            clear b3
            go_wp2_with fail
            go_ret2
            exact ⟨_, rfl, rfl, PS.out⟩
          · have hk : (k == 113) = false := beq_eq_false_iff_ne.2 h113
            clear ha hc hl hq hkr
            go_enter Tryd.func31, Tryd.ntmps31
            go_wp2_with fail
            refine (HA.out _).mono ?_; rintro e w1 ⟨rfl, b1⟩
            have B1 := Lib.hid (B0.out.trans (b1.mono S0.out))
            have S1 : Hid (w.heap.size + 1 ≤ w1.heap.size) := Nat.le_trans S0.out b1.size
            obtain ⟨⟨k0, k1, k2⟩, P1, G1⟩ := HK.out w1 B1.out
            obtain ⟨c1, c2, c3, c4, c5, f1, f2, f3, f4, f5⟩ := P1.cs
            have P1 := Lib.hid P1
            have G1 := Lib.hid G1
            clear b1
            go_wp2_with fail
            refine (HC.out _).mono ?_; rintro e w2 ⟨rfl, b2⟩
            have B2 := Lib.hid (B1.out.trans (b2.mono S1.out))
            have S2 : Hid (w.heap.size + 1 ≤ w2.heap.size) := Nat.le_trans S1.out b2.size
            obtain ⟨⟨k0, k1, k2⟩, P2, G2⟩ := HK.out w2 B2.out
            obtain ⟨c1, c2, c3, c4, c5, f1, f2, f3, f4, f5⟩ := P2.cs
            have P2 := Lib.hid P2
            have G2 := Lib.hid G2
            clear b2
            go_wp2_with fail
            refine (HL.out _).mono ?_; rintro e w3 ⟨rfl, b3⟩
            have B3 := Lib.hid (B2.out.trans (b3.mono S2.out))
            obtain ⟨⟨k0, k1, k2⟩, P3, G3⟩ := HK.out w3 B3.out
            obtain ⟨c1, c2, c3, c4, c5, f1, f2, f3, f4, f5⟩ := P3.cs
            have P3 := Lib.hid P3
            have G3 := Lib.hid G3
            have PS : Hid (Pr (w3.setCell ⟨p, 2, none⟩ (.int .i64 k)) p bg { c with vb := k } nx ∧ GMv p w (w3.setCell ⟨p, 2, none⟩ (.int .i64 k))) := ⟨heap_set_at P3.out, G3.out.trans GMv.set⟩
            clear b3
            go_wp2_with fail
            go_ret2
            exact ⟨_, rfl, rfl, PS.out⟩
    · rw [if_pos (.inr rfl)]
      have HA := Lib.hid (fun w => amongB (s := s_na) rfl ha w)
      have HC := Lib.hid (fun w => amongC (s := s_nc) rfl hc w)
      clear ha hc
      go_enter Tryd.func31, Tryd.ntmps31
      go_wp2_with fail
      refine (HA.out _).mono ?_; rintro e w1 ⟨rfl, b1⟩
      have B1 := Lib.hid (B0.out.trans (b1.mono S0.out))
      have S1 : Hid (w.heap.size + 1 ≤ w1.heap.size) := Nat.le_trans S0.out b1.size
      obtain ⟨⟨k0, k1, k2⟩, P1, G1⟩ := HK.out w1 B1.out
      obtain ⟨c1, c2, c3, c4, c5, f1, f2, f3, f4, f5⟩ := P1.cs
      have P1 := Lib.hid P1
      have G1 := Lib.hid G1
      clear b1
      go_wp2_with fail
      refine (HC.out _).mono ?_; rintro e w2 ⟨rfl, b2⟩
      have B2 := Lib.hid (B1.out.trans (b2.mono S1.out))
      have S2 : Hid (w.heap.size + 1 ≤ w2.heap.size) := Nat.le_trans S1.out b2.size
      obtain ⟨⟨k0, k1, k2⟩, P2, G2⟩ := HK.out w2 B2.out
      obtain ⟨c1, c2, c3, c4, c5, f1, f2, f3, f4, f5⟩ := P2.cs
      have P2 := Lib.hid P2
      have G2 := Lib.hid G2
      clear b2
      go_wp2_with fail
      refine (whole_of P2.out k).mono ?_; rintro e wf hr
      obtain ⟨fv, rfl, h1, h2, h3⟩ := G2.out.then hr
      have HR := Lib.hid (And.intro h1 (And.intro h2 h3))
      clear hr h1 h2 h3
      go_wp2_with fail
      go_ret2
      exact ⟨_, rfl, HR.out⟩
  · rw [if_pos (.inl rfl)]
    have HA := Lib.hid (fun w => amongB (s := s_na) rfl ha w)
    clear ha
    go_enter Tryd.func31, Tryd.ntmps31
    go_wp2_with fail
    refine (HA.out _).mono ?_; rintro e w1 ⟨rfl, b1⟩
    have B1 := Lib.hid (B0.out.trans (b1.mono S0.out))
    have S1 : Hid (w.heap.size + 1 ≤ w1.heap.size) := Nat.le_trans S0.out b1.size
    obtain ⟨⟨k0, k1, k2⟩, P1, G1⟩ := HK.out w1 B1.out
    obtain ⟨c1, c2, c3, c4, c5, f1, f2, f3, f4, f5⟩ := P1.cs
    have P1 := Lib.hid P1
    have G1 := Lib.hid G1
    clear b1
    go_wp2_with fail
    refine (whole_of P1.out k).mono ?_; rintro e wf hr
    obtain ⟨fv, rfl, h1, h2, h3⟩ := G1.out.then hr
    have HR := Lib.hid (And.intro h1 (And.intro h2 h3))
    clear hr h1 h2 h3
    go_wp2_with fail
    go_ret2
    exact ⟨_, rfl, HR.out⟩

set_option maxRecDepth 100000 in
set_option maxHeartbeats 4000000 in
theorem letter_of (H : Pr w p bg c nx) (k way : Int) (r : Bool) : Calls Tryd.prog 44 #[cmP p, pressV k way r] w (SRes w p bg nx (letF c k)) := by
  have B0 : Hid (Below (w.heap.size + 1) (w.alloc (pressO k way r)) (w.alloc (pressO k way r))) := Below.refl _ _
  have S0 : Hid (w.heap.size + 1 ≤ (w.alloc (pressO k way r)).heap.size) := by show _ ≤ _; simp
  obtain ⟨⟨k0, k1, k2⟩, P0, G0⟩ := H.keep k way r B0.out
  obtain ⟨c1, c2, c3, c4, c5, f1, f2, f3, f4, f5⟩ := P0.cs
  have HK := Lib.hid (fun wi (hb : Below (w.heap.size + 1) (w.alloc (pressO k way r)) wi) => H.keep k way r hb)
  have P0 := Lib.hid P0
  have G0 := Lib.hid G0
  unfold letF
  by_cases h : 97 ≤ k ∧ k ≤ 122
  · rw [if_pos h]
    have HW := Lib.hid (fun w => within_of k 97 122 w)
    rw [decide_eq_true h] at HW
    have PS : Hid (Pr ((w.alloc (pressO k way r)).setCell ⟨p, 5, none⟩ (.int .i64 k)) p bg { c with ch := k } nx ∧ GMv p w ((w.alloc (pressO k way r)).setCell ⟨p, 5, none⟩ (.int .i64 k))) := ⟨heap_set_at P0.out, G0.out.trans GMv.set⟩
    clear h
    go_enter Tryd.func44, Tryd.ntmps44
    go_wp2_with fail
    refine (HW.out _).mono ?_; rintro e _ ⟨rfl, rfl⟩
    go_wp2_with fail
    go_ret2
    exact ⟨_, rfl, rfl, PS.out⟩
  · rw [if_neg h]
    have HW := Lib.hid (fun w => within_of k 97 122 w)
    rw [decide_eq_false h] at HW
    clear h
    go_enter Tryd.func44, Tryd.ntmps44
    go_wp2_with fail
    refine (HW.out _).mono ?_; rintro e _ ⟨rfl, rfl⟩
    go_wp2_with fail
    refine (wrong_of _).mono ?_; rintro e _ ⟨rfl, rfl⟩
    go_wp2_with fail
    go_ret2
    exact ⟨_, rfl, rfl, P0.out, G0.out⟩

set_option maxRecDepth 100000 in
set_option maxHeartbeats 4000000 in
theorem register_of (H : Pr w p bg c nx) (k way : Int) (r : Bool) : Calls Tryd.prog 27 #[cmP p, pressV k way r] w (SRes w p bg nx (regF c k)) := by
  have B0 : Hid (Below (w.heap.size + 1) (w.alloc (pressO k way r)) (w.alloc (pressO k way r))) := Below.refl _ _
  have S0 : Hid (w.heap.size + 1 ≤ (w.alloc (pressO k way r)).heap.size) := by show _ ≤ _; simp
  obtain ⟨⟨k0, k1, k2⟩, P0, G0⟩ := H.keep k way r B0.out
  obtain ⟨c1, c2, c3, c4, c5, f1, f2, f3, f4, f5⟩ := P0.cs
  have HK := Lib.hid (fun wi (hb : Below (w.heap.size + 1) (w.alloc (pressO k way r)) wi) => H.keep k way r hb)
  have P0 := Lib.hid P0
  have G0 := Lib.hid G0
  unfold regF
  by_cases h : 97 ≤ k ∧ k ≤ 122
  · rw [if_pos (.inl h)]
    have HW := Lib.hid (fun w => within_of k 97 122 w)
    rw [decide_eq_true h] at HW
    have PS : Hid (Pr ((w.alloc (pressO k way r)).setCell ⟨p, 4, none⟩ (.int .i64 k)) p bg { c with rg := k } nx ∧ GMv p w ((w.alloc (pressO k way r)).setCell ⟨p, 4, none⟩ (.int .i64 k))) := ⟨heap_set_at P0.out, G0.out.trans GMv.set⟩
    clear h
    go_enter Tryd.func27, Tryd.ntmps27
    go_wp2_with fail
    refine (HW.out _).mono ?_; rintro e _ ⟨rfl, rfl⟩
    go_wp2_with fail
    go_ret2
    exact ⟨_, rfl, rfl, PS.out⟩
  · by_cases h2 : 65 ≤ k ∧ k ≤ 90
    · rw [if_pos (.inr h2)]
      have HW := Lib.hid (fun w => within_of k 97 122 w)
      have HV := Lib.hid (fun w => within_of k 65 90 w)
      rw [decide_eq_false h] at HW
      rw [decide_eq_true h2] at HV
      have PS : Hid (Pr ((w.alloc (pressO k way r)).setCell ⟨p, 4, none⟩ (.int .i64 k)) p bg { c with rg := k } nx ∧ GMv p w ((w.alloc (pressO k way r)).setCell ⟨p, 4, none⟩ (.int .i64 k))) := ⟨heap_set_at P0.out, G0.out.trans GMv.set⟩
      clear h h2
      go_enter Tryd.func27, Tryd.ntmps27
      go_wp2_with fail
      refine (HW.out _).mono ?_; rintro e _ ⟨rfl, rfl⟩
      go_wp2_with fail
      refine (HV.out _).mono ?_; rintro e _ ⟨rfl, rfl⟩
      go_wp2_with fail
      go_ret2
      exact ⟨_, rfl, rfl, PS.out⟩
    · rw [if_neg (fun hh => hh.elim h h2)]
      have HW := Lib.hid (fun w => within_of k 97 122 w)
      have HV := Lib.hid (fun w => within_of k 65 90 w)
      rw [decide_eq_false h] at HW
      rw [decide_eq_false h2] at HV
      clear h h2
      go_enter Tryd.func27, Tryd.ntmps27
      go_wp2_with fail
      refine (HW.out _).mono ?_; rintro e _ ⟨rfl, rfl⟩
      go_wp2_with fail
      refine (HV.out _).mono ?_; rintro e _ ⟨rfl, rfl⟩
      go_wp2_with fail
      refine (wrong_of _).mono ?_; rintro e _ ⟨rfl, rfl⟩
      go_wp2_with fail
      go_ret2
      exact ⟨_, rfl, rfl, P0.out, G0.out⟩

set_option maxRecDepth 100000 in
set_option maxHeartbeats 4000000 in
theorem behindI_of (H : Pr w p bg c nx) (k way : Int) (r : Bool) : Calls Tryd.prog 59 #[cmP p, pressV k way r] w (SRes w p bg nx (iF c k)) := by
  have B0 : Hid (Below (w.heap.size + 1) (w.alloc (pressO k way r)) (w.alloc (pressO k way r))) := Below.refl _ _
  have S0 : Hid (w.heap.size + 1 ≤ (w.alloc (pressO k way r)).heap.size) := by show _ ≤ _; simp
  obtain ⟨⟨k0, k1, k2⟩, P0, G0⟩ := H.keep k way r B0.out
  obtain ⟨c1, c2, c3, c4, c5, f1, f2, f3, f4, f5⟩ := P0.cs
  have HK := Lib.hid (fun wi (hb : Below (w.heap.size + 1) (w.alloc (pressO k way r)) wi) => H.keep k way r hb)
  have P0 := Lib.hid P0
  have G0 := Lib.hid G0
  unfold iF
  cases hi : inS s_wi k
  · rw [if_neg (by simp)]
    have HA := Lib.hid (fun w => amongB (s := s_wi) rfl hi w)
    clear hi
    go_enter Tryd.func59, Tryd.ntmps59
    go_wp2_with fail
    refine (HA.out _).mono ?_; rintro e w1 ⟨rfl, b1⟩
    have B1 := Lib.hid (B0.out.trans (b1.mono S0.out))
    have S1 : Hid (w.heap.size + 1 ≤ w1.heap.size) := Nat.le_trans S0.out b1.size
    obtain ⟨⟨k0, k1, k2⟩, P1, G1⟩ := HK.out w1 B1.out
    obtain ⟨c1, c2, c3, c4, c5, f1, f2, f3, f4, f5⟩ := P1.cs
    have P1 := Lib.hid P1
    have G1 := Lib.hid G1
    clear b1
    go_wp2_with fail
    refine (wrong_of _).mono ?_; rintro e _ ⟨rfl, rfl⟩
    go_wp2_with fail
    go_ret2
    exact ⟨_, rfl, rfl, P1.out, G1.out⟩
  · rw [if_pos rfl]
    have hs := inS_small hi
    have HA := Lib.hid (fun w => amongB (s := s_wi) rfl hi w)
    have HPr := Lib.hid (fun w => pair_of 105 k w (by omega) (by omega))
    clear hi hs
    go_enter Tryd.func59, Tryd.ntmps59
    go_wp2_with fail
    refine (HA.out _).mono ?_; rintro e w1 ⟨rfl, b1⟩
    have B1 := Lib.hid (B0.out.trans (b1.mono S0.out))
    have S1 : Hid (w.heap.size + 1 ≤ w1.heap.size) := Nat.le_trans S0.out b1.size
    obtain ⟨⟨k0, k1, k2⟩, P1, G1⟩ := HK.out w1 B1.out
    obtain ⟨c1, c2, c3, c4, c5, f1, f2, f3, f4, f5⟩ := P1.cs
    have P1 := Lib.hid P1
    have G1 := Lib.hid G1
    clear b1
    go_wp2_with fail
    refine (HPr.out _).mono ?_; rintro e _ ⟨rfl, rfl⟩
    go_wp2_with fail
    refine (whole_of P1.out _).mono ?_; rintro e wf hr
    obtain ⟨fv, rfl, h1, h2, h3⟩ := G1.out.then hr
    have HR := Lib.hid (And.intro h1 (And.intro h2 h3))
    clear hr h1 h2 h3
    go_wp2_with fail
    go_ret2
    exact ⟨_, rfl, HR.out⟩

set_option maxRecDepth 100000 in
set_option maxHeartbeats 16000000 in
theorem behindG_of (H : Pr w p bg c nx) (k way : Int) (r : Bool) : Calls Tryd.prog 52 #[cmP p, pressV k way r] w (SRes w p bg nx (gF c k way)) := by
  have B0 : Hid (Below (w.heap.size + 1) (w.alloc (pressO k way r)) (w.alloc (pressO k way r))) := Below.refl _ _
  have S0 : Hid (w.heap.size + 1 ≤ (w.alloc (pressO k way r)).heap.size) := by show _ ≤ _; simp
  obtain ⟨⟨k0, k1, k2⟩, P0, G0⟩ := H.keep k way r B0.out
  obtain ⟨c1, c2, c3, c4, c5, f1, f2, f3, f4, f5⟩ := P0.cs
  have HK := Lib.hid (fun wi (hb : Below (w.heap.size + 1) (w.alloc (pressO k way r)) wi) => H.keep k way r hb)
  have P0 := Lib.hid P0
  have G0 := Lib.hid G0
  unfold gF
  by_cases hk : k = 103
  · rw [if_pos (.inl hk)]
    subst hk
    have HPr := Lib.hid (fun w => pair_of 103 103 w (by omega) (by omega))
    by_cases hw : way = 1
    · subst hw
      go_enter Tryd.func52, Tryd.ntmps52
      go_wp2_with fail
      refine (HPr.out _).mono ?_; rintro e _ ⟨rfl, rfl⟩
      go_wp2_with fail
      refine (whole_of P0.out _).mono ?_; rintro e wf hr
      obtain ⟨fv, rfl, h1, h2, h3⟩ := G0.out.then hr
      have HR := Lib.hid (And.intro h1 (And.intro h2 h3))
      clear hr h1 h2 h3
      go_wp2_with fail
      go_ret2
      exact ⟨_, rfl, HR.out⟩
    · have zw : (way == 1) = false := beq_eq_false_iff_ne.2 hw
      by_cases ho : c.op = 0
      · rw [ho] at c1
        go_enter Tryd.func52, Tryd.ntmps52
        go_wp2_with fail
        refine (HPr.out _).mono ?_; rintro e _ ⟨rfl, rfl⟩
        go_wp2_with fail
        refine (whole_of P0.out _).mono ?_; rintro e wf hr
        obtain ⟨fv, rfl, h1, h2, h3⟩ := G0.out.then hr
        have HR := Lib.hid (And.intro h1 (And.intro h2 h3))
        clear hr h1 h2 h3
        go_wp2_with fail
        go_ret2
        exact ⟨_, rfl, HR.out⟩
      · have zo : (c.op == 0) = false := beq_eq_false_iff_ne.2 ho
        go_enter Tryd.func52, Tryd.ntmps52
        go_wp2_with fail
        refine (HPr.out _).mono ?_; rintro e _ ⟨rfl, rfl⟩
        go_wp2_with fail
        refine (whole_of P0.out _).mono ?_; rintro e wf hr
        obtain ⟨fv, rfl, h1, h2, h3⟩ := G0.out.then hr
        have HR := Lib.hid (And.intro h1 (And.intro h2 h3))
        clear hr h1 h2 h3
        go_wp2_with fail
        go_ret2
        exact ⟨_, rfl, HR.out⟩
  · have zk : (k == 103) = false := beq_eq_false_iff_ne.2 hk
    by_cases hv : way ≠ 1 ∧ c.op = 0
    · have zw : (way == 1) = false := beq_eq_false_iff_ne.2 hv.1
      rw [hv.2] at c1
      cases hg : inS s_wg k
      · rw [if_neg (fun hh => hh.elim hk (fun h2 => by simp at h2))]
        have HA := Lib.hid (fun w => amongB (s := s_wg) rfl hg w)
        clear hg
        go_enter Tryd.func52, Tryd.ntmps52
        go_wp2_with fail
        refine (HA.out _).mono ?_; rintro e w1 ⟨rfl, b1⟩
        have B1 := Lib.hid (B0.out.trans (b1.mono S0.out))
        have S1 : Hid (w.heap.size + 1 ≤ w1.heap.size) := Nat.le_trans S0.out b1.size
        obtain ⟨⟨k0, k1, k2⟩, P1, G1⟩ := HK.out w1 B1.out
        obtain ⟨c1, c2, c3, c4, c5, f1, f2, f3, f4, f5⟩ := P1.cs
        have P1 := Lib.hid P1
        have G1 := Lib.hid G1
        clear b1
        go_wp2_with fail
        refine (wrong_of _).mono ?_; rintro e _ ⟨rfl, rfl⟩
        go_wp2_with fail
        go_ret2
        exact ⟨_, rfl, rfl, P1.out, G1.out⟩
      · rw [if_pos (.inr ⟨hv, rfl⟩)]
        have hs := inS_small hg
        have HA := Lib.hid (fun w => amongB (s := s_wg) rfl hg w)
        have HPr := Lib.hid (fun w => pair_of 103 k w (by omega) (by omega))
        clear hg hs
        go_enter Tryd.func52, Tryd.ntmps52
        go_wp2_with fail
        refine (HA.out _).mono ?_; rintro e w1 ⟨rfl, b1⟩
        have B1 := Lib.hid (B0.out.trans (b1.mono S0.out))
        have S1 : Hid (w.heap.size + 1 ≤ w1.heap.size) := Nat.le_trans S0.out b1.size
        obtain ⟨⟨k0, k1, k2⟩, P1, G1⟩ := HK.out w1 B1.out
        obtain ⟨c1, c2, c3, c4, c5, f1, f2, f3, f4, f5⟩ := P1.cs
        have P1 := Lib.hid P1
        have G1 := Lib.hid G1
        clear b1
        go_wp2_with fail
        refine (HPr.out _).mono ?_; rintro e _ ⟨rfl, rfl⟩
        go_wp2_with fail
        refine (whole_of P1.out _).mono ?_; rintro e wf hr
        obtain ⟨fv, rfl, h1, h2, h3⟩ := G1.out.then hr
        have HR := Lib.hid (And.intro h1 (And.intro h2 h3))
        clear hr h1 h2 h3
        go_wp2_with fail
        go_ret2
        exact ⟨_, rfl, HR.out⟩
    · rw [if_neg (fun hh => hh.elim hk (fun h2 => hv h2.1))]
      by_cases hw : way = 1
      · subst hw
        go_enter Tryd.func52, Tryd.ntmps52
        go_wp2_with fail
        refine (wrong_of _).mono ?_; rintro e _ ⟨rfl, rfl⟩
        go_wp2_with fail
        go_ret2
        exact ⟨_, rfl, rfl, P0.out, G0.out⟩
      · have zw : (way == 1) = false := beq_eq_false_iff_ne.2 hw
        have zo : (c.op == 0) = false := beq_eq_false_iff_ne.2 (fun e => hv ⟨hw, e⟩)
        go_enter Tryd.func52, Tryd.ntmps52
        go_wp2_with fail
        refine (wrong_of _).mono ?_; rintro e _ ⟨rfl, rfl⟩
        go_wp2_with fail
        go_ret2
        exact ⟨_, rfl, rfl, P0.out, G0.out⟩

set_option maxRecDepth 100000 in
set_option maxHeartbeats 4000000 in
theorem operand_of (H : Pr w p bg c nx) (k way : Int) (r : Bool) : Calls Tryd.prog 53 #[cmP p, pressV k way r] w (SRes w p bg nx (opF c k)) := by
  have B0 : Hid (Below (w.heap.size + 1) (w.alloc (pressO k way r)) (w.alloc (pressO k way r))) := Below.refl _ _
  have S0 : Hid (w.heap.size + 1 ≤ (w.alloc (pressO k way r)).heap.size) := by show _ ≤ _; simp
  obtain ⟨⟨k0, k1, k2⟩, P0, G0⟩ := H.keep k way r B0.out
  obtain ⟨c1, c2, c3, c4, c5, f1, f2, f3, f4, f5⟩ := P0.cs
  have HK := Lib.hid (fun wi (hb : Below (w.heap.size + 1) (w.alloc (pressO k way r)) wi) => H.keep k way r hb)
  have P0 := Lib.hid P0
  have G0 := Lib.hid G0
  unfold opF
  by_cases hk : k = c.op
  · rw [if_pos hk]
    rw [← hk] at c1
    have HW := Lib.hid (whole_of P0.out k)
    clear hk
    go_enter Tryd.func53, Tryd.ntmps53
    go_wp2_with fail
    refine (HW.out).mono ?_; rintro e wf hr
    obtain ⟨fv, rfl, h1, h2, h3⟩ := G0.out.then hr
    have HR := Lib.hid (And.intro h1 (And.intro h2 h3))
    clear hr h1 h2 h3
    go_wp2_with fail
    go_ret2
    exact ⟨_, rfl, HR.out⟩
  · rw [if_neg hk]
    have zk : (k == c.op) = false := beq_eq_false_iff_ne.2 hk
    by_cases h5 : k = 105
    · rw [if_pos h5]
      subst h5
      go_enter Tryd.func53, Tryd.ntmps53
      go_wp2_with fail
      go_ret2
      exact ⟨_, rfl, rfl, P0.out, G0.out⟩
    · rw [if_neg h5]
      have z5 : (k == 105) = false := beq_eq_false_iff_ne.2 h5
      go_enter Tryd.func53, Tryd.ntmps53
      go_wp2_with fail
      refine (motion_of P0.out k way r).mono ?_; rintro e wf hr
      obtain ⟨fv, rfl, h1, h2, h3⟩ := G0.out.then hr
      have HR := Lib.hid (And.intro h1 (And.intro h2 h3))
      clear hr h1 h2 h3
      go_wp2_with fail
      go_ret2
      exact ⟨_, rfl, HR.out⟩
end
end Go.Proofs.YtjmpokgdgnjojaaDoor
