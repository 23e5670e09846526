/-
  The keys of a command: which lists of keys make one, for the parser and for the document; plain lists, at this seat's numbers.
-/
import Derived.Test.YtjmpokgdgnjojaaDoorGrW
import Derived.Lib.ItoaNum
namespace Go.Proofs.YtjmpokgdgnjojaaDoor
open Go Go.RowKit
set_option linter.unusedVariables false

/-- A number's text, as numbers. -/
def itB (n : Int) : List Int := (Lib.itoa n).map fun b => (b.toNat : Int)
def regL (c : Cm) : List Int := if c.rg = 0 then [] else [34, c.rg]
def cntL (c : Cm) : List Int := if c.ct = 0 then [] else itB c.ct
def opL (c : Cm) : List Int := if c.op = 0 then [] else [c.op]
def vbL (c : Cm) : List Int := if c.vb < 256 then [c.vb] else [c.vb / 256, c.vb % 256]
def chL (c : Cm) : List Int := if c.ch = 0 then [] else [c.ch]
/-- A command's parts as keys. -/
def spL (c : Cm) : List Int := regL c ++ cntL c ++ opL c ++ vbL c ++ chL c
def dgL (n by_ : Int) : List Int := if by_ ≤ n then [48 + n / by_ % 10] else []
/-- The document's digits. -/
def docD (n : Int) : List Int := dgL n 1000 ++ dgL n 100 ++ dgL n 10 ++ dgL n 1
theorem dig_u8 {x : Nat} (h : x < 10) : ((UInt8.ofNat (48 + x)).toNat : Int) = 48 + (x : Int) := by
  rw [UInt8.toNat_ofNat']; omega
theorem docD_it {n : Int} (h0 : 0 ≤ n) (h1 : n ≤ 9999) : docD n = if n = 0 then [] else itB n := by
  obtain ⟨u, rfl⟩ : ∃ u : Nat, n = u := ⟨n.toNat, by omega⟩
  by_cases hz : u = 0
  · subst hz; rw [if_pos (by rfl)]; decide
  · rw [if_neg (by omega)]
    have hit : itB (u : Int) = (Lib.decDigits u).map fun b => (b.toNat : Int) := by
      unfold itB Lib.itoa; rw [if_neg (by omega)]; simp
    rw [hit]
    unfold docD dgL
    by_cases h10 : u < 10
    · rw [Lib.decDigits, dif_pos h10, if_neg (by omega), if_neg (by omega), if_neg (by omega), if_pos (by omega)]
      simp only [List.map_cons, List.map_nil, List.nil_append, dig_u8 h10]
      rw [show (48 : Int) + (u : Int) / 1 % 10 = 48 + (u : Int) by omega]
    · by_cases h100 : u < 100
      · rw [Lib.decDigits, dif_neg h10, Lib.decDigits, dif_pos (by omega), if_neg (by omega), if_neg (by omega), if_pos (by omega), if_pos (by omega)]
        simp only [List.map_append, List.map_cons, List.map_nil, List.nil_append, dig_u8 (show u % 10 < 10 by omega), dig_u8 (show u / 10 < 10 by omega)]
        rw [show (48 : Int) + (u : Int) / 10 % 10 = 48 + ((u / 10 : Nat) : Int) by omega, show (48 : Int) + (u : Int) / 1 % 10 = 48 + ((u % 10 : Nat) : Int) by omega]
      · by_cases h1000 : u < 1000
        · rw [Lib.decDigits, dif_neg h10, Lib.decDigits, dif_neg (by omega), Lib.decDigits, dif_pos (by omega), if_neg (by omega), if_pos (by omega), if_pos (by omega), if_pos (by omega)]
          simp only [List.map_append, List.map_cons, List.map_nil, List.nil_append, dig_u8 (show u % 10 < 10 by omega), dig_u8 (show u / 10 % 10 < 10 by omega), dig_u8 (show u / 10 / 10 < 10 by omega)]
          rw [show (48 : Int) + (u : Int) / 100 % 10 = 48 + ((u / 10 / 10 : Nat) : Int) by omega, show (48 : Int) + (u : Int) / 10 % 10 = 48 + ((u / 10 % 10 : Nat) : Int) by omega, show (48 : Int) + (u : Int) / 1 % 10 = 48 + ((u % 10 : Nat) : Int) by omega]
        · rw [Lib.decDigits, dif_neg h10, Lib.decDigits, dif_neg (by omega), Lib.decDigits, dif_neg (by omega), Lib.decDigits, dif_pos (by omega), if_pos (by omega), if_pos (by omega), if_pos (by omega), if_pos (by omega)]
          simp only [List.map_append, List.map_cons, List.map_nil, dig_u8 (show u % 10 < 10 by omega), dig_u8 (show u / 10 % 10 < 10 by omega), dig_u8 (show u / 10 / 10 % 10 < 10 by omega), dig_u8 (show u / 10 / 10 / 10 < 10 by omega)]
          rw [show (48 : Int) + (u : Int) / 1000 % 10 = 48 + ((u / 10 / 10 / 10 : Nat) : Int) by omega, show (48 : Int) + (u : Int) / 100 % 10 = 48 + ((u / 10 / 10 % 10 : Nat) : Int) by omega, show (48 : Int) + (u : Int) / 10 % 10 = 48 + ((u / 10 % 10 : Nat) : Int) by omega, show (48 : Int) + (u : Int) / 1 % 10 = 48 + ((u % 10 : Nat) : Int) by omega]
theorem docD_cnt {c : Cm} (h : 0 ≤ c.ct ∧ c.ct ≤ 9999) : docD c.ct = cntL c := by unfold cntL; exact docD_it h.1 h.2
theorem dgL_mem {n b x : Int} (h : x ∈ dgL n b) : 48 ≤ x ∧ x ≤ 57 := by
  unfold dgL at h
  split at h
  · rw [List.mem_singleton.1 h]; omega
  · cases h
theorem cntL_mem {c : Cm} (h : 0 ≤ c.ct ∧ c.ct ≤ 9999) {x : Int} (hx : x ∈ cntL c) : 48 ≤ x ∧ x ≤ 57 := by
  rw [← docD_cnt h] at hx
  unfold docD at hx
  rcases List.mem_append.1 hx with hx | hx
  · rcases List.mem_append.1 hx with hx | hx
    · rcases List.mem_append.1 hx with hx | hx
      · exact dgL_mem hx
      · exact dgL_mem hx
    · exact dgL_mem hx
  · exact dgL_mem hx

/-- Do keys make a command, with the last one and not ahead of it? -/
def mkG (c : Cm) : Ps → List Int → Bool
  | _, [] => false
  | S, x :: t => if (keyF S x 0 false).1.2.1 = 0 then mkG c (keyF S x 0 false).2 t else decide ((keyF S x 0 false).1.2.1 = 1) && (cmEq (keyF S x 0 false).1.1 c && t.isEmpty)
theorem mkG_nil (c : Cm) (S : Ps) : mkG c S [] = false := by rw [mkG]
theorem mkG_cons (c : Cm) (S : Ps) (x : Int) (t : List Int) : mkG c S (x :: t) = if (keyF S x 0 false).1.2.1 = 0 then mkG c (keyF S x 0 false).2 t else decide ((keyF S x 0 false).1.2.1 = 1) && (cmEq (keyF S x 0 false).1.1 c && t.isEmpty) := by rw [mkG]
theorem cmEq_refl (c : Cm) : cmEq c c = true := by unfold cmEq; simp
/-- What a key comes to, by the step. -/
theorem keyF_cases (S : Ps) (k way : Int) (r : Bool) :
    (k = 27 ∧ keyF S k way r = ((c0M, 0, 0), p0M)) ∨ (k ≠ 27 ∧ ((∃ st c2, stepF S.st S.c k way r = (some st, 0, c2) ∧ keyF S k way r = ((c0M, 0, 0), ⟨S.bg ++ [k], c2, some st⟩)) ∨
      (∃ c2, stepF S.st S.c k way r = (none, 0, c2) ∧ keyF S k way r = ((c2, 1, 0), p0M)) ∨ ∃ er, er ≠ 0 ∧ keyF S k way r = ((c0M, 2, er), p0M))) := by
  unfold keyF
  by_cases h27 : k = 27
  · left; rw [if_pos h27]; exact ⟨h27, rfl⟩
  · right
    rw [if_neg h27]
    refine ⟨h27, ?_⟩
    simp only
    rcases hx : stepF S.st S.c k way r with ⟨so, er, c2⟩
    simp only
    by_cases her : er = 0
    · subst her
      rw [if_pos rfl]
      cases so with
      | none => right; left; exact ⟨c2, rfl, rfl⟩
      | some st => left; exact ⟨st, c2, rfl, rfl⟩
    · rw [if_neg her]; right; right; exact ⟨er, her, rfl⟩
/-- Where keys make a command: each key but the last is begun, the last one makes it. -/
theorem mkG_step {c : Cm} {S : Ps} {x : Int} {t : List Int} (h : mkG c S (x :: t) = true) :
    (t ≠ [] ∧ (keyF S x 0 false).1 = (c0M, 0, 0) ∧ mkG c (keyF S x 0 false).2 t = true) ∨ (t = [] ∧ (keyF S x 0 false).1 = (c, 1, 0)) := by
  rw [mkG_cons] at h
  rcases keyF_cases S x 0 false with ⟨_, e⟩ | ⟨_, ⟨st, c2, _, e⟩ | ⟨c2, _, e⟩ | ⟨er, _, e⟩⟩
  · rw [e] at h ⊢
    left
    simp only [if_true] at h
    refine ⟨fun e => ?_, rfl, h⟩
    rw [e, mkG_nil] at h; cases h
  · rw [e] at h ⊢
    left
    simp only [if_true] at h
    refine ⟨fun e => ?_, rfl, h⟩
    rw [e, mkG_nil] at h; cases h
  · rw [e] at h ⊢
    right
    simp at h
    exact ⟨h.2, by rw [cmEq_eq h.1]⟩
  · rw [e] at h; simp at h

/-- What a parser's command may be, while it is begun, and when it is whole. -/
def OpG (c : Cm) : Prop := (c.op = 0 ∨ c.op = 100 ∨ c.op = 121 ∨ c.op = 99) ∧ (c.rg = 0 ∨ (65 ≤ c.rg ∧ c.rg ≤ 122)) ∧ c.ch = 0
def StG (s : Option Stp) (c : Cm) : Prop := OpG c ∧ (s = some .letter → c.vb = 113 ∨ c.vb = 64)
def VbG (v : Int) : Prop := v ≠ 27 ∧ (256 ≤ v → v / 256 ≠ 27 ∧ v % 256 ≠ 27)
def DnG (c : Cm) : Prop := (c.op = 0 ∨ c.op = 100 ∨ c.op = 121 ∨ c.op = 99) ∧ (c.rg = 0 ∨ (65 ≤ c.rg ∧ c.rg ≤ 122)) ∧ (c.ch = 0 ∨ (97 ≤ c.ch ∧ c.ch ≤ 122)) ∧ VbG c.vb
theorem vb_small {v : Int} (h : v ≠ 27) (h1 : v < 256) : VbG v := ⟨h, fun h2 => by omega⟩
theorem inS_ne {s : ByteArray} {k : Int} (h : inS s k = true) (h27 : inS s 27 = false) : k ≠ 27 := fun e => by rw [e, h27] at h; cases h
/-- What a step says of what it makes. -/
def Said (so : Option Stp) (c c2 : Cm) : Prop := match so with
  | some st => StG (some st) c2
  | none => DnG c2 ∧ c2.ct = c.ct
theorem OpG.dn {c : Cm} (h : OpG c) {v : Int} (hv : VbG v) : DnG { c with vb := v } := ⟨h.1, h.2.1, .inl h.2.2, hv⟩
theorem mot_said {c : Cm} (h : OpG c) {k : Int} {so : Option Stp} {c2 : Cm} (e : motF c k = (so, 0, c2)) : Said so c c2 := by
  unfold motF at e
  split at e
  · cases e; exact ⟨h, fun h => by cases h⟩
  · split at e
    · rename_i hi
      cases e
      exact ⟨h.dn (vb_small (inS_ne hi (by decide)) (inS_small hi).2), rfl⟩
    · simp at e
theorem op_said {c : Cm} (h : OpG c) {k : Int} {so : Option Stp} {c2 : Cm} (e : opF c k = (so, 0, c2)) : Said so c c2 := by
  unfold opF at e
  split at e
  · rename_i hk
    cases e
    have := h.1
    exact ⟨h.dn (vb_small (by omega) (by omega)), rfl⟩
  · split at e
    · cases e; exact ⟨h, fun h => by cases h⟩
    · exact mot_said h e
theorem dig_said {c : Cm} (h : OpG c) {a n : Int} {o : Bool} {k : Int} {so : Option Stp} {c2 : Cm} (e : digF c a n o k = (so, 0, c2)) : Said so c c2 := by
  unfold digF at e
  split at e
  · simp at e
  · cases e; exact ⟨h, fun h => by cases h⟩
theorem beg_said {c : Cm} (h : OpG c) {k : Int} {so : Option Stp} {c2 : Cm} (e : begF c k 0 false = (so, 0, c2)) : Said so c c2 := by
  unfold begF at e
  split at e
  · cases e; exact ⟨h, fun h => by cases h⟩
  · split at e
    · exact dig_said h e
    · rw [if_neg (by decide)] at e
      unfold normF at e
      split at e
      · rename_i hi
        cases e
        have hk : VbG k := by
          rcases hi with hi | hi
          · exact vb_small (inS_ne hi (by decide)) (inS_small hi).2
          · refine vb_small (fun e => ?_) ?_
            · rw [e] at hi; revert hi; decide
            · rcases Int.lt_or_le k 256 with h | h
              · exact h
              · rw [inC_out (.inr h)] at hi; cases hi
        exact ⟨h.dn hk, rfl⟩
      · split at e
        · rename_i hq; exact absurd hq.2 (by decide)
        · split at e
          · rename_i hl
            cases e
            refine ⟨h, fun _ => ?_⟩
            show k = 113 ∨ k = 64
            unfold inS s_let at hl; simp at hl; omega
          · split at e
            · rename_i ho
              cases e
              refine ⟨⟨?_, h.2⟩, fun h => by cases h⟩
              show k = 0 ∨ k = 100 ∨ k = 121 ∨ k = 99
              unfold inS s_ops at ho; simp at ho; omega
            · exact mot_said h e
theorem step_said {s : Option Stp} {c : Cm} (h : StG s c) {k : Int} {so : Option Stp} {c2 : Cm} (e : stepF s c k 0 false = (so, 0, c2)) : Said so c c2 := by
  cases s with
  | none => exact beg_said h.1 e
  | some st =>
    cases st with
    | begin => exact beg_said h.1 e
    | register =>
      simp only [stepF, regF] at e
      split at e
      · rename_i hr; cases e; exact ⟨⟨h.1.1, .inr (by show 65 ≤ k ∧ k ≤ 122; omega), h.1.2.2⟩, fun h => by cases h⟩
      · simp at e
    | letter =>
      simp only [stepF, letF] at e
      split at e
      · rename_i hr
        cases e
        have hv := h.2 rfl
        exact ⟨⟨h.1.1, h.1.2.1, .inr hr, vb_small (by show c.vb ≠ 27; omega) (by show c.vb < 256; omega)⟩, rfl⟩
      · simp at e
    | behindOp =>
      simp only [stepF, bopF] at e
      split at e
      · exact dig_said h.1 e
      · exact op_said h.1 e
    | behindI =>
      simp only [stepF, iF] at e
      split at e
      · rename_i hi
        cases e
        have hs := inS_small hi
        have hn := inS_ne hi (by decide)
        exact ⟨h.1.dn ⟨by omega, fun _ => ⟨by omega, by omega⟩⟩, rfl⟩
      · simp at e
    | behindG =>
      simp only [stepF, gF] at e
      split at e
      · rename_i hi
        cases e
        have hs : (0 ≤ k ∧ k < 256) ∧ k ≠ 27 := by
          rcases hi with hi | hi
          · omega
          · exact ⟨inS_small hi.2, inS_ne hi.2 (by decide)⟩
        exact ⟨h.1.dn ⟨by omega, fun _ => ⟨by omega, by omega⟩⟩, rfl⟩
      · simp at e
    | count a n o =>
      simp only [stepF, cntF] at e
      split at e
      · exact dig_said h.1 e
      · split at e
        · exact op_said h.1 e
        · exact beg_said h.1 e
theorem mk_good {c : Cm} : ∀ (l : List Int) (S : Ps), StG S.st S.c → (0 ≤ S.c.ct ∧ S.c.ct ≤ 9999) → stOk S.st → mkG c S l = true → DnG c ∧ 0 ≤ c.ct ∧ c.ct ≤ 9999 := by
  intro l
  induction l with
  | nil => intro S _ _ _ h; rw [mkG_nil] at h; cases h
  | cons x t ih =>
    intro S hg hc hs h
    rw [mkG_cons] at h
    rcases keyF_cases S x 0 false with ⟨_, e⟩ | ⟨_, ⟨st, c2, hst, e⟩ | ⟨c2, hst, e⟩ | ⟨er, _, e⟩⟩
    · rw [e] at h
      simp only [if_true] at h
      exact ih p0M ⟨⟨.inl rfl, .inl rfl, rfl⟩, fun h => by cases h⟩ ⟨by decide, by decide⟩ trivial h
    · rw [e] at h
      simp only [if_true] at h
      obtain ⟨h1, h2⟩ := step_ok hc hs hst
      exact ih ⟨S.bg ++ [x], c2, some st⟩ (step_said hg hst) h1 h2 h
    · rw [e] at h
      simp at h
      have := cmEq_eq h.1
      subst this
      obtain ⟨h1, h2⟩ := step_said hg hst
      exact ⟨h1, by rw [h2]; exact hc⟩
    · rw [e] at h; simp at h
theorem mk_good0 {c : Cm} {l : List Int} (h : mkG c p0M l = true) : DnG c ∧ 0 ≤ c.ct ∧ c.ct ≤ 9999 :=
  mk_good l p0M ⟨⟨.inl rfl, .inl rfl, rfl⟩, fun h => by cases h⟩ ⟨by decide, by decide⟩ trivial h
theorem sp_no27 {c : Cm} (h : DnG c) (hc : 0 ≤ c.ct ∧ c.ct ≤ 9999) : (27 : Int) ∉ spL c := by
  intro hx
  obtain ⟨h1, h2, h3, h4⟩ := h
  unfold spL at hx
  rcases List.mem_append.1 hx with hx | hx
  · rcases List.mem_append.1 hx with hx | hx
    · rcases List.mem_append.1 hx with hx | hx
      · rcases List.mem_append.1 hx with hx | hx
        · unfold regL at hx
          split at hx
          · cases hx
          · simp at hx; omega
        · have := cntL_mem hc hx; omega
      · unfold opL at hx
        split at hx
        · cases hx
        · simp at hx; omega
    · unfold vbL at hx
      split at hx
      · simp at hx; exact h4.1 hx.symm
      · rename_i hv
        have := h4.2 (by omega)
        simp at hx
        omega
  · unfold chL at hx
    split at hx
    · cases hx
    · simp at hx; omega

/-- The document's condition on keys. -/
def dcd (c : Cm) (l : List Int) : Prop := (∀ i, 1 ≤ i → i < l.length → (runS 0 false none c0M (l.take i)).2.1 = 0) ∧ (runS 0 false none c0M l).2.1 = 1 ∧ (runS 0 false none c0M l).1 = c
theorem mkG_iff {c : Cm} : ∀ (t bg : List Int) (S : Ps), (27 : Int) ∉ t → (∀ u, runS 0 false S.st S.c u = runS 0 false none c0M (bg ++ u)) → t ≠ [] →
    (mkG c S t = true ↔ (∀ i, 1 ≤ i → i < t.length → (runS 0 false none c0M (bg ++ t.take i)).2.1 = 0) ∧ (runS 0 false none c0M (bg ++ t)).2.1 = 1 ∧ (runS 0 false none c0M (bg ++ t)).1 = c) := by
  intro t
  induction t with
  | nil => intro _ _ _ _ h; exact absurd rfl h
  | cons x t ih =>
    intro bg S h27 hrun _
    have hx27 : x ≠ 27 := fun e => h27 (by rw [e]; simp)
    have ht27 : (27 : Int) ∉ t := fun h => h27 (List.mem_cons_of_mem _ h)
    have hk := keyF_run S hx27 0 false
    rw [hrun [x]] at hk
    rw [mkG_cons]
    rcases hk with ⟨h1, h2, h3, h4⟩ | ⟨h1, h2, h3⟩ | ⟨er, h1, h2, h3⟩
    · rw [h1]
      simp only [if_true]
      by_cases htn : t = []
      · subst htn
        rw [mkG_nil]
        constructor
        · intro h; cases h
        · rintro ⟨_, hb, _⟩; rw [h2] at hb; simp at hb
      · have hb : ∀ u, bg ++ [x] ++ u = bg ++ x :: u := fun u => by simp
        rw [ih (bg ++ [x]) _ ht27 (fun u => by rw [h4, hrun, hb]) htn, hb]
        constructor
        · rintro ⟨a1, a2, a3⟩
          refine ⟨fun i hi1 hi2 => ?_, a2, a3⟩
          obtain ⟨j, rfl⟩ : ∃ j, i = j + 1 := ⟨i - 1, by omega⟩
          rw [List.take_succ_cons, ← hb]
          rcases Nat.eq_zero_or_pos j with rfl | hj
          · rw [List.take_zero, List.append_nil, h2]
          · exact a1 j hj (by simp at hi2; omega)
        · rintro ⟨a1, a2, a3⟩
          refine ⟨fun i hi1 hi2 => ?_, a2, a3⟩
          have := a1 (i + 1) (by omega) (by simp; omega)
          rwa [List.take_succ_cons, ← hb] at this
    · rw [h1]
      simp only [Int.one_ne_zero, if_false, decide_true, Bool.true_and]
      by_cases htn : t = []
      · subst htn
        constructor
        · intro h
          simp at h
          exact ⟨fun i hi1 hi2 => by simp at hi2; omega, by rw [h2], cmEq_eq h⟩
        · rintro ⟨_, _, hb⟩
          rw [hb, cmEq_refl]; rfl
      · constructor
        · intro h; simp at h; exact absurd h.2 htn
        · rintro ⟨a1, _, _⟩
          have hp := List.length_pos_iff.2 htn
          have := a1 1 (Nat.le_refl _) (by simp; omega)
          rw [List.take_succ_cons, List.take_zero, h2] at this
          simp at this
    · rw [h1]
      simp only [show ¬ ((2 : Int) = 0) by decide, if_false, show decide ((2 : Int) = 1) = false by decide, Bool.false_and]
      constructor
      · intro h; cases h
      · rintro ⟨a1, a2, _⟩
        exfalso
        by_cases htn : t = []
        · subst htn; rw [h2] at a2; simp at a2
        · have hp := List.length_pos_iff.2 htn
          have := a1 1 (Nat.le_refl _) (by simp; omega)
          rw [List.take_succ_cons, List.take_zero, h2] at this
          simp at this
theorem vbL_ne (c : Cm) : vbL c ≠ [] := by unfold vbL; split <;> simp
theorem spL_ne (c : Cm) : spL c ≠ [] := by
  unfold spL
  intro h
  simp only [List.append_eq_nil_iff] at h
  exact vbL_ne c h.1.2
/-- The keys that the program and the document tell. -/
def prL (c : Cm) : List Int := if mkG c p0M (spL c) = true then spL c else []
theorem prL_doc (c : Cm) (h : (0 ≤ c.ct ∧ c.ct ≤ 9999) ∧ dcd c (spL c) ∧ (27 : Int) ∉ spL c) : prL c = spL c := by
  unfold prL
  rw [if_pos]
  exact (mkG_iff (spL c) [] p0M h.2.2 (fun u => rfl) (spL_ne c)).2 h.2.1
theorem prL_not (c : Cm) (h : ¬ ((0 ≤ c.ct ∧ c.ct ≤ 9999) ∧ dcd c (spL c) ∧ (27 : Int) ∉ spL c)) : prL c = [] := by
  unfold prL
  rw [if_neg]
  intro hm
  obtain ⟨h1, h2⟩ := mk_good0 hm
  have h3 := sp_no27 h1 h2
  exact h ⟨h2, (mkG_iff (spL c) [] p0M h3 (fun u => rfl) (spL_ne c)).1 hm, h3⟩
theorem runS_what (way : Int) (r : Bool) : ∀ (l : List Int) (s : Option Stp) (c : Cm), (runS way r s c l).2.1 = 0 ∨ (runS way r s c l).2.1 = 1 ∨ (runS way r s c l).2.1 = 2 := by
  intro l
  induction l with
  | nil => intro s c; rw [runS_nil]; exact .inl rfl
  | cons x t ih =>
    intro s c
    rw [runS_cons]
    split
    · split
      · exact ih _ _
      · exact .inr (.inl rfl)
    · exact .inr (.inr rfl)
end Go.Proofs.YtjmpokgdgnjojaaDoor
