/-
  Texts of this seat, put together (a claim holds few texts): Ord, Ord2, PcG.
-/
import Derived.Test.YtkgakgceamafcaaGreatMk20
import Derived.Orders
import Derived.RegionTactic

namespace Go.Proofs.YtkgakgceamafcaaGreat
open Go Go.RowKit
set_option linter.unusedVariables false

/-- How many operations have not come up yet. -/
def leftN (n : Nat) (listed : Array Bool) : Nat := ((List.range n).filter fun i => !listed.getD i true).length

theorem ready_spec {md : Region.Mode} {ops : Array Oper} {listed : Array Bool} {i : Nat} (h : i ∈ Region.ready md ops listed) :
    i < ops.size ∧ listed.getD i true = false ∧ ∀ o, ops[i]? = some o → ∀ e ∈ o.after, Region.binds md e = true → listed.getD e.on false = true := by
  unfold Region.ready at h
  rw [List.mem_filter, List.mem_range, Bool.and_eq_true] at h
  obtain ⟨h1, h2, h3⟩ := h
  refine ⟨h1, by simpa using h2, fun o ho e he hb => ?_⟩
  rw [ho, Option.map_some, Option.getD_some, Array.all_eq_true'] at h3
  have := h3 e he
  rw [hb] at this
  simpa using this

theorem leftN_lt {n : Nat} {listed : Array Bool} {i : Nat} (hi : i < n) (h : listed.getD i true = false) : leftN n (listed.setIfInBounds i true) < leftN n listed := by
  unfold leftN
  have hsz : i < listed.size := by
    rcases Nat.lt_or_ge i listed.size with h' | h'
    · exact h'
    · rw [Array.getD_eq_getD_getElem?, Array.getElem?_eq_none h'] at h; cases h
  have hset : ∀ j, (listed.setIfInBounds i true).getD j true = if j = i then true else listed.getD j true := by
    intro j
    rw [Array.getD_eq_getD_getElem?, Array.getD_eq_getD_getElem?, Array.getElem?_setIfInBounds]
    by_cases e : i = j
    · subst e; simp [hsz]
    · rw [if_neg e, if_neg (fun h => e h.symm)]
  have hsub : ∀ l : List Nat, (l.filter fun j => !(listed.setIfInBounds i true).getD j true).length ≤ (l.filter fun j => !listed.getD j true).length ∧ (i ∈ l → (l.filter fun j => !(listed.setIfInBounds i true).getD j true).length < (l.filter fun j => !listed.getD j true).length) := by
    intro l
    induction l with
    | nil => exact ⟨Nat.le_refl _, fun h => by cases h⟩
    | cons a l ih =>
      rw [List.filter_cons, List.filter_cons, hset a]
      by_cases e : a = i
      · subst e
        rw [if_pos rfl, h]
        simp only [Bool.not_true, Bool.false_eq_true, if_false, Bool.not_false, if_true, List.length_cons]
        exact ⟨by omega, fun _ => by omega⟩
      · rw [if_neg e]
        have hm : i ∈ a :: l → i ∈ l := fun hm => by
          rcases List.mem_cons.1 hm with h' | h'
          · exact absurd h'.symm e
          · exact h'
        split
        · exact ⟨by simp only [List.length_cons]; omega, fun hm' => by have := ih.2 (hm hm'); simp only [List.length_cons]; omega⟩
        · exact ⟨ih.1, fun hm' => ih.2 (hm hm')⟩
  exact (hsub _).2 (List.mem_range.2 hi)

/-- THE LAW: what each operation keeps, whenever it comes up, all orders keep. -/
theorem wpAny_inv {P : Program} {md : Region.Mode} {ops : Array Oper} {Q : Exit → Act → World → Prop} (I : Array Bool → Act → World → Prop)
    (hstep : ∀ i listed a w, I listed a w → i ∈ Region.ready md ops listed → wpOp P ops Q i (fun a' w' => I (listed.setIfInBounds i true) a' w') a w)
    (hend : ∀ listed a w, I listed a w → Region.ready md ops listed = [] → Q .normal a w) :
    ∀ (fuel : Nat) (listed : Array Bool) (a : Act) (w : World), leftN ops.size listed ≤ fuel → I listed a w → wpAny P md ops Q fuel listed a w := by
  intro fuel
  induction fuel with
  | zero =>
    intro listed a w hf hI
    have he : Region.ready md ops listed = [] := by
      rw [List.eq_nil_iff_forall_not_mem]
      intro i hi
      obtain ⟨h1, h2, _⟩ := ready_spec hi
      have := leftN_lt h1 h2
      omega
    exact ⟨he, hend listed a w hI he⟩
  | succ fuel ih =>
    intro listed a w hf hI
    refine ⟨hend listed a w hI, fun i hi => ?_⟩
    obtain ⟨h1, h2, _⟩ := ready_spec hi
    have hlt := leftN_lt h1 h2
    have hs := hstep i listed a w hI hi
    unfold wpOp at hs ⊢
    split
    · rename_i e
      rw [e] at hs
      exact ih _ a w (by omega) hs
    · rename_i o e
      rw [e] at hs
      simp only at hs
      split
      · rename_i hw
        rw [if_pos hw] at hs
        rcases hs with hs | hs
        · exact .inl (Oper.wp_mono (fun a' w' h => ih _ a' w' (by omega) h) hs)
        · exact .inr hs
      · rename_i hw
        rw [if_neg hw] at hs
        exact ih _ _ w (by omega) hs

theorem leftN_all (n : Nat) : leftN n (Array.replicate n false) ≤ n := by
  unfold leftN
  exact Nat.le_trans (List.length_filter_le _ _) (by simp)

/-- THE LAW at a region. -/
theorem wp_region_inv {P : Program} {id : Nat} {ops : Array Oper} {Q : Exit → Act → World → Prop} {a : Act} {w : World} (hm : P.follows .mixedOrders = true) (I : Array Bool → Act → World → Prop)
    (h0 : I (Array.replicate ops.size false) a { w with drawn := w.drawn + 1 })
    (hstep : ∀ i listed a w, I listed a w → i ∈ Region.ready .any ops listed → wpOp P ops Q i (fun a' w' => I (listed.setIfInBounds i true) a' w') a w)
    (hend : ∀ listed a w, I listed a w → Region.ready .any ops listed = [] → Q .normal a w) : (Code.region id ops true).wp P Q a w :=
  wp_region_any hm (wpAny_inv I hstep hend _ _ a _ (leftN_all _) h0)

/-- An operation that is carried out. -/
theorem wpOp_want {P : Program} {ops : Array Oper} {Q : Exit → Act → World → Prop} {i : Nat} {o : Oper} {K : Act → World → Prop} {a : Act} {w : World} (ho : ops[i]? = some o) (hw : Region.wanted o (yielded ops a.tmps) = true) (h : o.wp P a w K Q) : wpOp P ops Q i K a w := by
  unfold wpOp
  rw [ho]
  simp only
  rw [if_pos hw]
  exact .inl h
theorem wpOp_skip {P : Program} {ops : Array Oper} {Q : Exit → Act → World → Prop} {i : Nat} {o : Oper} {K : Act → World → Prop} {a : Act} {w : World} (ho : ops[i]? = some o) (hw : Region.wanted o (yielded ops a.tmps) = false) (h : K (a.put o.dst undef) w) : wpOp P ops Q i K a w := by
  unfold wpOp
  rw [ho]
  simp only
  rw [if_neg (by rw [hw]; simp)]
  exact h
/-- Nothing more comes up: all have. -/
theorem all_listed {md : Region.Mode} {ops : Array Oper} {listed : Array Bool} (hr : Region.ready md ops listed = [])
    (hb : ∀ i o, ops[i]? = some o → ∀ e ∈ o.after, Region.binds md e = true → e.on < i) : ∀ i, i < ops.size → listed.getD i true = true := by
  intro i
  induction i using Nat.strongRecOn with
  | _ i ih =>
    intro hi
    cases hl : listed.getD i true with
    | true => rfl
    | false =>
      have hm : i ∈ Region.ready md ops listed := by
        unfold Region.ready
        rw [List.mem_filter, List.mem_range, Bool.and_eq_true]
        refine ⟨hi, by rw [hl]; rfl, ?_⟩
        rw [Array.getElem?_eq_getElem hi, Option.map_some, Option.getD_some, Array.all_eq_true']
        intro e he
        cases hbb : Region.binds md e with
        | false => rfl
        | true =>
          have hlt := hb i _ (Array.getElem?_eq_getElem hi) e he hbb
          have := ih e.on hlt (by omega)
          have hsz : listed.getD e.on false = true := by
            rw [Array.getD_eq_getD_getElem?] at this ⊢
            cases hx : listed[e.on]? with
            | some b => rw [hx] at this; simpa using this
            | none =>
              have h1 := Array.getElem?_eq_none_iff.1 hx
              rw [Array.getD_eq_getD_getElem?, Array.getElem?_eq_none (by omega)] at hl
              cases hl
          simpa using hsz
      rw [hr] at hm
      cases hm

/-- What holds in the middle of a region whose operations leave values: the slots that are not written, and those that are. -/
structure Mid (ops : Array Oper) (a0 : Act) (R : Nat → Value → World → Prop) (Inv : Array Bool → World → Prop) (listed : Array Bool) (a : Act) (w : World) : Prop where
  defers : a.defers = a0.defers
  size : a.tmps.size = a0.tmps.size
  full : listed.size = ops.size
  old : ∀ d : Nat, (∀ (i : Nat) (o : Oper), ops[i]? = some o → o.dst ≠ some d) → a.tmps.getD d undef = a0.tmps.getD d undef
  val : ∀ (i : Nat) (o : Oper) (d : Nat), ops[i]? = some o → o.dst = some d → listed.getD i false = true → R i (a.tmps.getD d undef) w
  inv : Inv listed w

/-- No slot is written twice, none lies outside, and each operation waits for earlier ones alone. -/
def opsFine (md : Region.Mode) (ops : Array Oper) (n : Nat) : Bool :=
  let l := ops.toList
  ((List.range l.length).all fun i => (List.range l.length).all fun j => i == j || (match (l[i]?).bind (·.dst), (l[j]?).bind (·.dst) with | some d, some d' => d != d' | _, _ => true)) &&
  (l.all fun o => match o.dst with | some d => decide (d < n) | none => true) &&
  ((List.range l.length).all fun i => match l[i]? with | some o => o.after.toList.all fun e => !Region.binds md e || decide (e.on < i) | none => true)

theorem fine_one {md : Region.Mode} {ops : Array Oper} {n : Nat} (h : opsFine md ops n = true) {i j : Nat} {o o' : Oper} {d : Nat} (hi : ops[i]? = some o) (hj : ops[j]? = some o') (h1 : o.dst = some d) (h2 : o'.dst = some d) : i = j := by
  unfold opsFine at h
  simp only [Bool.and_eq_true, List.all_eq_true, List.mem_range] at h
  have hil := (Array.getElem?_eq_some_iff.1 hi).1
  have hjl := (Array.getElem?_eq_some_iff.1 hj).1
  have := h.1.1 i (by simpa using hil) j (by simpa using hjl)
  rw [Array.getElem?_toList, Array.getElem?_toList, hi, hj, Option.bind_some, Option.bind_some, h1, h2] at this
  simpa using this
theorem fine_in {md : Region.Mode} {ops : Array Oper} {n : Nat} (h : opsFine md ops n = true) {i : Nat} {o : Oper} {d : Nat} (hi : ops[i]? = some o) (h1 : o.dst = some d) : d < n := by
  unfold opsFine at h
  simp only [Bool.and_eq_true, List.all_eq_true, List.mem_range] at h
  have := h.1.2 o (by rw [List.mem_iff_getElem?]; exact ⟨i, by rw [Array.getElem?_toList]; exact hi⟩)
  rw [h1] at this
  simpa using this
theorem fine_back {md : Region.Mode} {ops : Array Oper} {n : Nat} (h : opsFine md ops n = true) : ∀ i o, ops[i]? = some o → ∀ e ∈ o.after, Region.binds md e = true → e.on < i := by
  intro i o hi e he hb
  unfold opsFine at h
  simp only [Bool.and_eq_true, List.all_eq_true, List.mem_range] at h
  have hil := (Array.getElem?_eq_some_iff.1 hi).1
  have := h.2 i (by simpa using hil)
  rw [Array.getElem?_toList, hi] at this
  simp only [List.all_eq_true] at this
  have := this e (by simpa using he)
  rw [hb] at this
  simpa using this

theorem listed_set {listed : Array Bool} {i j : Nat} (hi : i < listed.size) : (listed.setIfInBounds i true).getD j false = if j = i then true else listed.getD j false := by
  rw [Array.getD_eq_getD_getElem?, Array.getD_eq_getD_getElem?, Array.getElem?_setIfInBounds]
  by_cases e : i = j
  · subst e; simp [hi]
  · rw [if_neg e, if_neg (fun h => e h.symm)]

theorem getD_set {t : Array Value} {d e : Nat} {v : Value} : (t.setIfInBounds d v).getD e undef = if e = d ∧ d < t.size then v else t.getD e undef := by
  rw [Array.getD_eq_getD_getElem?, Array.getD_eq_getD_getElem?, Array.getElem?_setIfInBounds]
  by_cases h : d = e
  · subst h
    by_cases h2 : d < t.size
    · simp [h2]
    · simp [h2]
  · rw [if_neg h, if_neg (fun h' => h h'.1.symm)]

/-- One operation more has come up. -/
theorem Mid.step {md : Region.Mode} {ops : Array Oper} {a0 : Act} {R : Nat → Value → World → Prop} {Inv : Array Bool → World → Prop} {listed : Array Bool} {a : Act} {w w' : World} {i : Nat} {o : Oper} {v : Value}
    (hg : Mid ops a0 R Inv listed a w) (hf : opsFine md ops a0.tmps.size = true) (ho : ops[i]? = some o)
    (hm : ∀ j u, R j u w → R j u w') (hv : R i v w') (hi : Inv (listed.setIfInBounds i true) w') : Mid ops a0 R Inv (listed.setIfInBounds i true) (a.put o.dst v) w' := by
  have hil : i < listed.size := by rw [hg.full]; exact (Array.getElem?_eq_some_iff.1 ho).1
  refine ⟨?_, ?_, by simp [hg.full], fun d hd => ?_, fun j o' d hj hd hl => ?_, hi⟩
  · cases hx : o.dst <;> simp [Act.put, hg.defers]
  · cases hx : o.dst <;> simp [Act.put, hg.size]
  · have hne := hd i o ho
    cases hx : o.dst with
    | none => simp only [Act.put]; exact hg.old d hd
    | some d' =>
      simp only [Act.put, getD_set]
      rw [if_neg (fun h => hne (by rw [hx, h.1]))]
      exact hg.old d hd
  · rw [listed_set hil] at hl
    by_cases hji : j = i
    · subst hji
      rw [ho] at hj
      injection hj with hj
      subst hj
      rw [hd]
      simp only [Act.put, getD_set]
      rw [if_pos ⟨trivial, by rw [hg.size]; exact fine_in hf ho hd⟩]
      exact hv
    · rw [if_neg hji] at hl
      have h0 := hm j _ (hg.val j o' d hj hd hl)
      cases hx : o.dst with
      | none => simp only [Act.put]; exact h0
      | some d' =>
        simp only [Act.put, getD_set]
        rw [if_neg (fun h => hji (fine_one hf hj ho hd (by rw [hx, h.1])))]
        exact h0

/-- What an operation waits for has come up: its value. -/
theorem Mid.dep {ops : Array Oper} {a0 : Act} {R : Nat → Value → World → Prop} {Inv : Array Bool → World → Prop} {listed : Array Bool} {a : Act} {w : World} {i : Nat} {o : Oper} (hg : Mid ops a0 R Inv listed a w) (ho : ops[i]? = some o)
    (hr : i ∈ Region.ready .any ops listed) (j : Nat) (oj : Oper) (d : Nat) (hj : ops[j]? = some oj) (hd : oj.dst = some d) (hw : (o.after.any fun e => Region.binds .any e && e.on == j) = true) : R j (a.tmps.getD d undef) w := by
  refine hg.val j oj d hj hd ?_
  obtain ⟨_, _, h⟩ := ready_spec hr
  rw [Array.any_eq_true'] at hw
  obtain ⟨e, he, hb⟩ := hw
  rw [Bool.and_eq_true, beq_iff_eq] at hb
  rw [← hb.2]
  exact h o ho e he hb.1

/-- The value that a guard looks at. -/
theorem yield_of {ops : Array Oper} {t : Array Value} {j : Nat} {oj : Oper} {d : Nat} {b : Bool} (hj : ops[j]? = some oj) (hd : oj.dst = some d) (hv : t.getD d undef = .bool b) : yielded ops t j = some b := by
  unfold yielded
  rw [hj, Option.bind_some, hd, Option.bind_some]
  rw [Array.getD_eq_getD_getElem?] at hv
  cases hx : t[d]? with
  | none => rw [hx] at hv; cases hv
  | some u => rw [hx, Option.getD_some] at hv; rw [hv]

/-- THE LAW for a region whose operations leave values. -/
theorem wp_region_good {P : Program} {id : Nat} {ops : Array Oper} {Q : Exit → Act → World → Prop} {a0 : Act} {w : World} (hm : P.follows .mixedOrders = true) (R : Nat → Value → World → Prop) (Inv : Array Bool → World → Prop)
    (hf : opsFine .any ops a0.tmps.size = true) (h0 : Inv (Array.replicate ops.size false) w.drew)
    (hstep : ∀ i listed a w, Mid ops a0 R Inv listed a w → i ∈ Region.ready .any ops listed → wpOp P ops Q i (fun a' w' => Mid ops a0 R Inv (listed.setIfInBounds i true) a' w') a w)
    (hend : ∀ listed a w, Mid ops a0 R Inv listed a w → (∀ i, i < ops.size → listed.getD i false = true) → Q .normal a w) : (Code.region id ops true).wp P Q a0 w := by
  refine wp_region_inv hm (Mid ops a0 R Inv) ⟨rfl, rfl, by simp, fun _ _ => rfl, fun i o d hi hd hl => ?_, h0⟩ hstep (fun listed a w hg hr => hend listed a w hg (fun i hi => ?_))
  · have hil := (Array.getElem?_eq_some_iff.1 hi).1
    rw [Array.getD_eq_getD_getElem?] at hl
    simp [hil] at hl
  · have := all_listed hr (fine_back hf) i hi
    rw [Array.getD_eq_getD_getElem?] at this ⊢
    cases hx : listed[i]? with
    | some b => rw [hx] at this; simpa using this
    | none =>
      have h1 := Array.getElem?_eq_none_iff.1 hx
      have := hg.full
      omega

section
variable {P : Program} {ops : Array Oper} {Q : Exit → Act → World → Prop} {a0 : Act} {R : Nat → Value → World → Prop} {Inv : Array Bool → World → Prop} {listed : Array Bool} {a : Act} {w : World} {i : Nat} {o : Oper}
theorem Mid.op (hg : Mid ops a0 R Inv listed a w) (hf : opsFine .any ops a0.tmps.size = true) (ho : ops[i]? = some o) (hw : Region.wanted o (yielded ops a.tmps) = true)
    (h : ∀ K' : Act → World → Prop, Hid (∀ v w', (∀ j u, R j u w → R j u w') → R i v w' → Inv (listed.setIfInBounds i true) w' → K' (a.put o.dst v) w') → Oper.wp P o a w K' Q) :
    wpOp P ops Q i (fun a' w' => Mid ops a0 R Inv (listed.setIfInBounds i true) a' w') a w :=
  wpOp_want ho hw (h _ (fun v w' hm hv hi => hg.step hf ho hm hv hi))
theorem Mid.skip (hg : Mid ops a0 R Inv listed a w) (hf : opsFine .any ops a0.tmps.size = true) (ho : ops[i]? = some o) (hw : Region.wanted o (yielded ops a.tmps) = false)
    (hv : R i undef w) (hi : Inv (listed.setIfInBounds i true) w) : wpOp P ops Q i (fun a' w' => Mid ops a0 R Inv (listed.setIfInBounds i true) a' w') a w :=
  wpOp_skip ho hw (hg.step hf ho (fun _ _ h => h) hv hi)
theorem Mid.was (hg : Mid ops a0 R Inv listed a w) (d : Nat) (h : (ops.all fun o => o.dst != some d) = true) : a.tmps.getD d undef = a0.tmps.getD d undef :=
  hg.old d (fun i o ho he => by
    rw [Array.all_eq_true'] at h
    have := h o (Array.mem_of_getElem? ho)
    rw [he] at this
    simp at this)
theorem want_of {b : Bool} {j : Nat} {oj : Oper} {d : Nat} (hgd : o.guard = some (j, b)) (hj : ops[j]? = some oj) (hd : oj.dst = some d) (hv : a.tmps.getD d undef = .bool b) : Region.wanted o (yielded ops a.tmps) = true := by
  unfold Region.wanted
  rw [hgd]
  simp [yield_of hj hd hv]
theorem unwant_of {b c : Bool} {j : Nat} {oj : Oper} {d : Nat} (hgd : o.guard = some (j, b)) (hj : ops[j]? = some oj) (hd : oj.dst = some d) (hv : a.tmps.getD d undef = .bool c) (hne : c ≠ b) : Region.wanted o (yielded ops a.tmps) = false := by
  unfold Region.wanted
  rw [hgd]
  simp [yield_of hj hd hv, hne]
theorem unwant_undef {b : Bool} {j : Nat} {oj : Oper} {d : Nat} (hgd : o.guard = some (j, b)) (hj : ops[j]? = some oj) (hd : oj.dst = some d) (hv : a.tmps.getD d undef = undef) : Region.wanted o (yielded ops a.tmps) = false := by
  have hy : yielded ops a.tmps j = none := by
    unfold yielded
    rw [hj, Option.bind_some, hd, Option.bind_some]
    rw [Array.getD_eq_getD_getElem?] at hv
    cases hx : a.tmps[d]? with
    | none => rfl
    | some u => rw [hx, Option.getD_some] at hv; rw [hv]; rfl
  unfold Region.wanted
  rw [hgd]
  simp [hy]
end

/-- The frame behind a region, written out: the old one, and the slots that were written. -/
theorem fold_eq {T : Array Value} : ∀ (ds : List Nat) (t : Array Value), t.size = T.size → (∀ j, j ∉ ds → t.getD j undef = T.getD j undef) → ds.foldl (fun t d => t.setIfInBounds d (T.getD d undef)) t = T
  | [], t, hs, h => by
    apply Array.ext hs
    intro i h1 h2
    have := h i (by simp)
    rw [Array.getD_eq_getD_getElem?, Array.getD_eq_getD_getElem?, Array.getElem?_eq_getElem h1, Array.getElem?_eq_getElem h2] at this
    simpa using this
  | d :: ds, t, hs, h => by
    rw [List.foldl_cons]
    refine fold_eq ds _ (by simp [hs]) (fun j hj => ?_)
    rw [getD_set]
    by_cases e : j = d ∧ d < t.size
    · rw [if_pos e, e.1]
    · rw [if_neg e]
      by_cases e2 : j = d
      · subst e2
        have hge : t.size ≤ j := by
          rcases Nat.lt_or_ge j t.size with h' | h'
          · exact absurd ⟨rfl, h'⟩ e
          · exact h'
        rw [Array.getD_eq_getD_getElem?, Array.getD_eq_getD_getElem?, Array.getElem?_eq_none hge, Array.getElem?_eq_none (by omega)]
      · exact h j (fun hm => by
          rcases List.mem_cons.1 hm with h' | h'
          · exact e2 h'
          · exact hj h')
/-- The slots that a region writes. -/
def dsts (ops : Array Oper) : List Nat := ops.toList.filterMap (·.dst)
theorem frame_of {ops : Array Oper} {a a0 : Act} (hd : a.defers = a0.defers) (hs : a.tmps.size = a0.tmps.size) (h : ∀ d : Nat, (ops.all fun o => o.dst != some d) = true → a.tmps.getD d undef = a0.tmps.getD d undef) (ds : List Nat) (he : dsts ops = ds) :
    a = ⟨ds.foldl (fun t d => t.setIfInBounds d (a.tmps.getD d undef)) a0.tmps, a0.defers⟩ := by
  subst he
  have := fold_eq (T := a.tmps) (dsts ops) a0.tmps hs.symm (fun j hj => (h j (by
    rw [Array.all_eq_true']
    intro o ho
    rw [bne_iff_ne]
    intro e
    exact hj (by unfold dsts; rw [List.mem_filterMap]; exact ⟨o, by simpa using ho, e⟩))).symm)
  cases a
  simp only at this hd ⊢
  rw [this, hd]

end Go.Proofs.YtkgakgceamafcaaGreat

namespace Go.Proofs.YtkgakgceamafcaaGreat
open Go Go.RowKit
set_option linter.unusedVariables false

theorem Mid.step2 {md : Region.Mode} {ops : Array Oper} {a0 : Act} {R : Nat → Value → World → Prop} {Inv : Array Bool → World → Prop} {listed : Array Bool} {a : Act} {w w' : World} {i : Nat} {o : Oper} {v : Value}
    (hg : Mid ops a0 R Inv listed a w) (hf : opsFine md ops a0.tmps.size = true) (ho : ops[i]? = some o)
    (hm : ∀ j u, listed.getD j false = true → R j u w → R j u w') (hv : R i v w') (hi : Inv (listed.setIfInBounds i true) w') : Mid ops a0 R Inv (listed.setIfInBounds i true) (a.put o.dst v) w' := by
  have hil : i < listed.size := by rw [hg.full]; exact (Array.getElem?_eq_some_iff.1 ho).1
  refine ⟨?_, ?_, by simp [hg.full], fun d hd => ?_, fun j o' d hj hd hl => ?_, hi⟩
  · cases hx : o.dst <;> simp [Act.put, hg.defers]
  · cases hx : o.dst <;> simp [Act.put, hg.size]
  · have hne := hd i o ho
    cases hx : o.dst with
    | none => simp only [Act.put]; exact hg.old d hd
    | some d' =>
      simp only [Act.put, getD_set]
      rw [if_neg (fun h => hne (by rw [hx, h.1]))]
      exact hg.old d hd
  · rw [listed_set hil] at hl
    by_cases hji : j = i
    · subst hji
      rw [ho] at hj
      injection hj with hj
      subst hj
      rw [hd]
      simp only [Act.put, getD_set]
      rw [if_pos ⟨trivial, by rw [hg.size]; exact fine_in hf ho hd⟩]
      exact hv
    · rw [if_neg hji] at hl
      have h0 := hm j _ hl (hg.val j o' d hj hd hl)
      cases hx : o.dst with
      | none => simp only [Act.put]; exact h0
      | some d' =>
        simp only [Act.put, getD_set]
        rw [if_neg (fun h => hji (fine_one hf hj ho hd (by rw [hx, h.1])))]
        exact h0

theorem Mid.op2 {P : Program} {ops : Array Oper} {Q : Exit → Act → World → Prop} {a0 : Act} {R : Nat → Value → World → Prop} {Inv : Array Bool → World → Prop} {listed : Array Bool} {a : Act} {w : World} {i : Nat} {o : Oper}
    (hg : Mid ops a0 R Inv listed a w) (hf : opsFine .any ops a0.tmps.size = true) (ho : ops[i]? = some o) (hw : Region.wanted o (yielded ops a.tmps) = true)
    (h : ∀ K' : Act → World → Prop, Hid (∀ v w', (∀ j u, listed.getD j false = true → R j u w → R j u w') → R i v w' → Inv (listed.setIfInBounds i true) w' → K' (a.put o.dst v) w') → Oper.wp P o a w K' Q) :
    wpOp P ops Q i (fun a' w' => Mid ops a0 R Inv (listed.setIfInBounds i true) a' w') a w :=
  wpOp_want ho hw (h _ (fun v w' hm hv hi => hg.step2 hf ho hm hv hi))
/-- Another mark than the one that is set. -/
theorem mark_other {L : Array Bool} {i j : Nat} (h : j ≠ i) : (L.setIfInBounds i true).getD j false = L.getD j false := by
  rw [Array.getD_eq_getD_getElem?, Array.getD_eq_getD_getElem?, Array.getElem?_setIfInBounds, if_neg (fun e => h e.symm)]
theorem mark_none (n j : Nat) : (Array.replicate n false).getD j false = false := by
  rw [Array.getD_eq_getD_getElem?, Array.getElem?_replicate]; split <;> rfl
theorem getD_of_ready {L : Array Bool} {j : Nat} (h : L.getD j true = false) : L.getD j false = false := by
  rw [Array.getD_eq_getD_getElem?] at h ⊢
  cases hx : L[j]? with
  | none => rfl
  | some b => rw [hx] at h; simpa using h
/-- The operations of a region. -/
def regOps (n : Nat) : Code → Option (Array Oper)
  | .region id ops _ => if id = n then some ops else none
  | .seq a b => match regOps n a with | some o => some o | none => regOps n b
  | .cond _ a b => match regOps n a with | some o => some o | none => regOps n b
  | .block _ c => regOps n c
  | .loop c => regOps n c
  | .scope c => regOps n c
  | _ => none

end Go.Proofs.YtkgakgceamafcaaGreat

namespace Go.Proofs.YtkgakgceamafcaaGreat
open Go Go.RowKit
set_option linter.unusedVariables false
theorem dep_listed {md : Region.Mode} {ops : Array Oper} {listed : Array Bool} {i : Nat} {o : Oper} (ho : ops[i]? = some o) (hr : i ∈ Region.ready md ops listed) (j : Nat) (hw : (o.after.any fun e => Region.binds md e && e.on == j) = true) : listed.getD j false = true := by
  obtain ⟨_, _, h⟩ := ready_spec hr
  rw [Array.any_eq_true'] at hw
  obtain ⟨e, he, hb⟩ := hw
  rw [Bool.and_eq_true, beq_iff_eq] at hb
  rw [← hb.2]
  exact h o ho e he hb.1
theorem mark_keep {L : Array Bool} {i j : Nat} (h : L.getD j false = true) : (L.setIfInBounds i true).getD j false = true := by
  by_cases e : j = i
  · subst e
    rw [Array.getD_eq_getD_getElem?] at h ⊢
    rw [Array.getElem?_setIfInBounds, if_pos rfl]
    split
    · rfl
    · rename_i hn
      rw [Array.getElem?_eq_none (by omega)] at h
      exact h
  · rw [mark_other e]; exact h
/-- What is to be appended, in a block of its own. -/
def P84 (z : Nat) (q1 q2 : Int) (v : Value) (w : World) : Prop := ∃ b : Nat, v = .slice (some ⟨b, 0, none⟩) 1 1 ∧ z ≤ b ∧ w.heap[b]? = some (.cells #[.int .i64 q1, .int .i64 q2] 59 (0, 0))
theorem P84.below {z : Nat} {q1 q2 : Int} {v : Value} {w w' : World} (h : P84 z q1 q2 v w) (hb : Below w.heap.size w w') : P84 z q1 q2 v w' := by
  obtain ⟨b, h1, h2, h3⟩ := h
  exact ⟨b, h1, h2, (hb.block b (lt_of_heap h3)).trans h3⟩
theorem P84.grown {z bz n c : Nat} {aa : Option Addr} {q1 q2 : Int} {v : Value} {w w' : World} (h : P84 z q1 q2 v w) (hg : w.grownBy w' (Value.slice aa n c).ownBlock) (hk : ∀ k, (Value.slice aa n c).ownBlock = some k → k < bz) (hbz : bz < z) : P84 z q1 q2 v w' := by
  obtain ⟨b, h1, h2, h3⟩ := h
  exact ⟨b, h1, h2, (hg.block b (lt_of_heap h3) (fun e => by have := hk b e.symm; omega)).trans h3⟩
theorem P84.set {z gp : Nat} {q1 q2 : Int} {v u : Value} {w : World} (h : P84 z q1 q2 v w) (hz : gp < z) : P84 z q1 q2 v (w.setCell ⟨gp, 0, none⟩ u) := by
  obtain ⟨b, h1, h2, h3⟩ := h
  exact ⟨b, h1, h2, (heap_set_other (by omega)).trans h3⟩
/-- The row behind it. -/
def O84 (gp n : Nat) (q1 q2 : Int) (xs : List Value) (v : Value) (w : World) : Prop := ∃ a' c', v = .slice a' (n + 1) c' ∧ w.ownsRow (gp + 1) 59 2 (.slice a' (n + 1) c') (n + 1) (xs ++ [.int .i64 q1, .int .i64 q2])
theorem O84.below {gp n : Nat} {q1 q2 : Int} {xs : List Value} {v : Value} {w w' : World} (h : O84 gp n q1 q2 xs v w) (hb : Below w.heap.size w w') : O84 gp n q1 q2 xs v w' := by
  obtain ⟨a, c, h1, h2⟩ := h
  exact ⟨a, c, h1, own_below h2 hb⟩
theorem own_set_var {w : World} {gp n s : Nat} {e : TypeId} {v u : Value} {xs : List Value} (h : w.ownsRow (gp + 1) e s v n xs) : (w.setCell ⟨gp, 0, none⟩ u).ownsRow (gp + 1) e s v n xs :=
  own_set h (fun hk => by have := h.lt gp hk; omega)
theorem O84.set {gp n : Nat} {q1 q2 : Int} {xs : List Value} {v u : Value} {w : World} (h : O84 gp n q1 q2 xs v w) : O84 gp n q1 q2 xs v (w.setCell ⟨gp, 0, none⟩ u) := by
  obtain ⟨a, c, h1, h2⟩ := h
  exact ⟨a, c, h1, own_set_var h2⟩
/-- At the end. -/
def Fin84 (gp n : Nat) (q1 q2 : Int) (xs : List Value) (w : World) : Prop := ∃ a' c', w.heap[gp]? = some (.cells #[.slice a' (n + 1) c'] 55 (0, 0)) ∧ w.ownsRow (gp + 1) 59 2 (.slice a' (n + 1) c') (n + 1) (xs ++ [.int .i64 q1, .int .i64 q2])
structure Inv84 (gp bz n c z : Nat) (aa : Option Addr) (x y q1 q2 : Int) (xs : List Value) (wF : World) (L : Array Bool) (w : World) : Prop where
  below : Below gp wF w
  size : z ≤ w.heap.size
  box : w.heap[bz]? = some (.cells #[.int .i64 x, .int .i64 y] 59 (0, 0))
  var : L.getD 11 false = false → w.heap[gp]? = some (.cells #[.slice aa n c] 55 (0, 0))
  owns : L.getD 10 false = false → w.ownsRow (gp + 1) 59 2 (.slice aa n c) n xs
  ord : L.getD 11 false = true → L.getD 0 false = true ∧ L.getD 10 false = true
  fin : L.getD 11 false = true → Fin84 gp n q1 q2 xs w
  kept : ∀ k, k < z → k ≠ gp → (Value.slice aa n c).ownBlock ≠ some k → w.heap[k]? = wF.heap[k]?
section
variable {gp bz n c z : Nat} {aa : Option Addr} {x y q1 q2 : Int} {xs : List Value} {wF : World} {L : Array Bool} {w w' : World} {i : Nat}
theorem Inv84.keep (h : Inv84 gp bz n c z aa x y q1 q2 xs wF L w) (h1 : 11 ≠ i) (h2 : 10 ≠ i) : Inv84 gp bz n c z aa x y q1 q2 xs wF (L.setIfInBounds i true) w :=
  ⟨h.below, h.size, h.box, fun e => h.var (by rwa [mark_other h1] at e), fun e => h.owns (by rwa [mark_other h2] at e), fun e => ⟨mark_keep (h.ord (by rwa [mark_other h1] at e)).1, mark_keep (h.ord (by rwa [mark_other h1] at e)).2⟩, fun e => h.fin (by rwa [mark_other h1] at e), h.kept⟩
theorem Inv84.under (h : Inv84 gp bz n c z aa x y q1 q2 xs wF L w) (hb : Below w.heap.size w w') (h1 : 11 ≠ i) (h2 : 10 ≠ i) (hgz : gp ≤ z) : Inv84 gp bz n c z aa x y q1 q2 xs wF (L.setIfInBounds i true) w' :=
  ⟨h.below.trans (hb.mono (by have := h.size; omega)), Nat.le_trans h.size hb.size, (hb.block bz (lt_of_heap h.box)).trans h.box, fun e => (hb.block gp (lt_of_heap (h.var (by rwa [mark_other h1] at e)))).trans (h.var (by rwa [mark_other h1] at e)),
    fun e => own_below (h.owns (by rwa [mark_other h2] at e)) hb, fun e => ⟨mark_keep (h.ord (by rwa [mark_other h1] at e)).1, mark_keep (h.ord (by rwa [mark_other h1] at e)).2⟩, fun e => by
      obtain ⟨a, c, h3, h4⟩ := h.fin (by rwa [mark_other h1] at e)
      exact ⟨a, c, (hb.block gp (lt_of_heap h3)).trans h3, own_below h4 hb⟩, fun k h1 h2 h3 => (hb.block k (by have := h.size; omega)).trans (h.kept k h1 h2 h3)⟩
theorem Inv84.early (h : Inv84 gp bz n c z aa x y q1 q2 xs wF L w) (h0 : L.getD 0 false = false) : L.getD 11 false = false := by
  cases e : L.getD 11 false with
  | false => rfl
  | true => rw [(h.ord e).1] at h0; cases h0
theorem Inv84.early2 (h : Inv84 gp bz n c z aa x y q1 q2 xs wF L w) (h0 : L.getD 10 false = false) : L.getD 11 false = false := by
  cases e : L.getD 11 false with
  | false => rfl
  | true => rw [(h.ord e).2] at h0; cases h0
theorem Inv84.load (h : Inv84 gp bz n c z aa x y q1 q2 xs wF L w) (h0 : L.getD 11 false = false) : w.cell? ⟨gp, 0, none⟩ = some (.slice aa n c) := by rw [cell_at (h.var h0)]; rfl
theorem Inv84.unfr (h : Inv84 gp bz n c z aa x y q1 q2 xs wF L w) (h0 : L.getD 11 false = false) : w.frozen? ⟨gp, 0, none⟩ = false := unfrozen (h.var h0) 0
theorem Inv84.box0 (h : Inv84 gp bz n c z aa x y q1 q2 xs wF L w) : w.cell? ⟨bz, 0, none⟩ = some (.int .i64 x) := by rw [cell_at h.box]; rfl
theorem Inv84.box1 (h : Inv84 gp bz n c z aa x y q1 q2 xs wF L w) : w.cell? ⟨bz, 1, none⟩ = some (.int .i64 y) := by rw [cell_at h.box]; rfl
theorem Inv84.appended (h : Inv84 gp bz n c z aa x y q1 q2 xs wF L w) (hg : w.grownBy w' (Value.slice aa n c).ownBlock) (hk : ∀ k, (Value.slice aa n c).ownBlock = some k → k < bz) (hl : L.getD 10 false = false) (ho : w.ownsRow (gp + 1) 59 2 (.slice aa n c) n xs)
    (hlen : 10 < L.size) (h11 : L.getD 11 false = false) (hbz : bz < z) (hgb : gp < bz) : Inv84 gp bz n c z aa x y q1 q2 xs wF (L.setIfInBounds 10 true) w' := by
  have hlt := ho.lt
  refine ⟨h.below.grown hg (by have := h.size; omega) (fun k hk' => by have := hlt k hk'; omega), Nat.le_trans h.size hg.size, (hg.block bz (lt_of_heap h.box) (fun e => by have := hk bz e.symm; omega)).trans h.box,
    fun e => (hg.block gp (lt_of_heap (h.var h11)) (fun e' => by have := hlt gp e'.symm; omega)).trans (h.var h11), fun e => ?_, fun e => ?_, fun e => ?_, fun k h1 h2 h3 => (hg.block k (by have := h.size; omega) (fun e => h3 e.symm)).trans (h.kept k h1 h2 h3)⟩
  · rw [Array.getD_eq_getD_getElem?, Array.getElem?_setIfInBounds, if_pos rfl, if_pos hlen] at e
    cases e
  · rw [mark_other (by decide), h11] at e; cases e
  · rw [mark_other (by decide), h11] at e; cases e
theorem Inv84.stored (h : Inv84 gp bz n c z aa x y q1 q2 xs wF L w) {a' : Option Addr} {c' : Nat} (ho : w.ownsRow (gp + 1) 59 2 (.slice a' (n + 1) c') (n + 1) (xs ++ [.int .i64 q1, .int .i64 q2])) (h0 : L.getD 0 false = true) (h10 : L.getD 10 false = true) (hlen : 11 < L.size)
    (h11 : L.getD 11 false = false) (hgb : gp < bz) : Inv84 gp bz n c z aa x y q1 q2 xs wF (L.setIfInBounds 11 true) (w.setCell ⟨gp, 0, none⟩ (.slice a' (n + 1) c')) := by
  refine ⟨h.below.setCell (p := ⟨gp, 0, none⟩) (Nat.le_refl _) _, by rw [size_set]; exact h.size, (heap_set_other (by omega)).trans h.box, fun e => ?_, fun e => own_set_var (h.owns (by rwa [mark_other (by decide)] at e)), fun _ => ⟨mark_keep h0, mark_keep h10⟩, fun _ => ⟨a', c', ?_, own_set_var ho⟩, fun k h1 h2 h3 => (heap_set_other h2).trans (h.kept k h1 h2 h3)⟩
  · rw [Array.getD_eq_getD_getElem?, Array.getElem?_setIfInBounds, if_pos rfl, if_pos hlen] at e
    cases e
  · rw [heap_set_at (h.var h11)]; rfl
end
noncomputable def R84 (gp gi gj bz n c z : Nat) (aa : Option Addr) (x y f I J q1 q2 : Int) (xs : List Value) (i : Nat) (v : Value) (w : World) : Prop := if i = 9 then (P84 z q1 q2 v w) else if i = 10 then (O84 gp n q1 q2 xs v w) else v = ([.slice aa n c, .agg #[.int .i64 x, .int .i64 y], .int .i64 I, .int .i64 f, .int .i64 (I - f), .int .i64 J, .int .i64 f, .int .i64 (J - f), .agg #[.int .i64 q1, .int .i64 q2], undef, undef, undef] : List Value).getD i undef
theorem R84_mono (gp gi gj bz n c z : Nat) (aa : Option Addr) (x y f I J q1 q2 : Int) (xs : List Value) {w w' : World} {i : Nat} (v : Value) (hm16 : ∀ v, P84 z q1 q2 v w → P84 z q1 q2 v w') (hm17 : i = 10 → ∀ v, O84 gp n q1 q2 xs v w → O84 gp n q1 q2 xs v w') (h : R84 gp gi gj bz n c z aa x y f I J q1 q2 xs i v w) : R84 gp gi gj bz n c z aa x y f I J q1 q2 xs i v w' := by
  unfold R84 at *
  by_cases e16 : i = 9
  · rw [if_pos e16] at h ⊢
    exact hm16 v h
  rw [if_neg e16] at h ⊢
  by_cases e17 : i = 10
  · rw [if_pos e17] at h ⊢
    exact hm17 e17 v h
  rw [if_neg e17] at h ⊢
  exact h
end Go.Proofs.YtkgakgceamafcaaGreat
