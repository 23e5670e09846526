/-
  Channels in a function's body, beside the kit's walk: a region that sends, receives or selects is cut there; what stands ahead of it is walked as ever, the machine's own step is laid in between, and the rest is walked again.
-/
import Derived.Conc.LoneSelect
import Derived.Tactics2
namespace Go.Proofs.YtjmpokgdgnjojaaDoor
open Go Go.Conc

section
variable {P : Program} {ops : Array Oper} {Q : Exit → Act → World → Prop} {a : Act} {w : World}

/-- The operations of a region that are still to come, told by the machine's steps alone. -/
def Reg (P : Program) (ops : Array Oper) (l : List Nat) (Q : Exit → Act → World → Prop) (a : Act) (w : World) : Prop :=
  ∀ (b : Frame) (k : List Item) (cs : List Frame), ∃ e a' w', Q e a' w' ∧ Arrives P (lone (b.at a (.inRegion ops l :: k)) cs w) b k cs e a' w'

theorem Reg.of_ops {l : List Nat} (h : wpOps P ops Q l a w) : Reg P ops l Q a w := wp_ops l a w h

theorem Reg.move {i : Nat} {l : List Nat} {a' : Act} {w' : World}
    (hs : ∀ (b : Frame) (k : List Item) (cs : List Frame), Steps P (lone (b.at a (.inRegion ops (i :: l) :: k)) cs w) (lone (b.at a' (.inRegion ops l :: k)) cs w'))
    (h : Reg P ops l Q a' w') : Reg P ops (i :: l) Q a w := fun b k cs =>
  let ⟨e, a₂, w₂, q, r⟩ := h b k cs
  ⟨e, a₂, w₂, q, .of_steps (hs b k cs) r⟩

/-- The first operations by the kit's walk, the others by whatever serves. -/
theorem Reg.pre {r : List Nat} : ∀ (l : List Nat) (a : Act) (w : World), wpOps P ops (Exit.then (Reg P ops r Q) Q) l a w → Reg P ops (l ++ r) Q a w := by
  intro l
  induction l with
  | nil => intro a w h; exact h
  | cons i l ih =>
    intro a w h
    show Reg P ops (i :: (l ++ r)) Q a w
    simp only [wpOps] at h
    rcases ho : ops[i]? with _ | o
    · simp only [ho] at h
      refine Reg.move (fun b k cs => .one ?_) (ih a w h)
      have := step_op_skip (P := P) (b := b) (a := a) (k := k) (cs := cs) (w := w) (ops := ops) (i := i) (rest := l ++ r) (by simp [ho])
      simpa [ho, Act.put] using this
    · simp only [ho] at h
      have fin (b : Frame) (k : List Item) (v : Value) : (b.at a (.inRegion ops (i :: (l ++ r)) :: k)).finish v = b.at (a.put o.dst v) (.inRegion ops (l ++ r) :: k) := by
        rw [Frame.finish_at, ho]; rfl
      by_cases hw : Region.wanted o (yielded ops a.tmps) = true
      · rw [if_pos hw] at h
        have hg (b : Frame) (k : List Item) (cs : List Frame) := stepG_op (P := P) (b := b) (k := k) (cs := cs) (w := w) (rest := l ++ r) ho hw
        rcases h with h | ⟨hasks, a₀, w₀, hq⟩
        · simp only [Oper.wp, Oper.upon] at h
          split at h
          · rename_i v w' hr
            refine Reg.move (fun b k cs => .one (step_lone_go ?_)) (ih _ _ h)
            rw [hg, ← fin]; simp [stepG.apply, hr]
          · rename_i w' hr
            refine Reg.move (fun b k cs => .one (step_lone_go ?_)) (ih _ _ h)
            rw [hg, ← fin]; simp [stepG.apply, hr]
          · rename_i d w' hr
            refine Reg.move (fun b k cs => .one (step_lone_go ?_)) (ih _ _ h)
            have e : ({ b.at a (.inRegion ops (i :: (l ++ r)) :: k) with defers := d :: a.defers } : Frame).finish undef = b.at ({ a with defers := d :: a.defers }.put o.dst undef) (.inRegion ops (l ++ r) :: k) := by
              have := Frame.finish_at b { a with defers := d :: a.defers } ops i (l ++ r) k undef
              rw [ho] at this; exact this
            rw [hg]; simp only [stepG.apply, Sem.runT_eq, hr, GStep.bare_after]
            exact congrArg (fun fr => GStep.go { frame := fr, callers := cs, status := .running, dying := none } w') e
          · rename_i f args w' hr
            intro b k cs
            obtain ⟨e, w'', fr, hR, hsteps, _, hleave⟩ := h (b.at a (.inRegion ops (i :: (l ++ r)) :: k) :: cs)
            have hin : step P (lone (b.at a (.inRegion ops (i :: (l ++ r)) :: k)) cs w) = .next (lone (Frame.enter P f args .normal) (b.at a (.inRegion ops (i :: (l ++ r)) :: k) :: cs) w') :=
              step_lone_go (by rw [hg]; simp [stepG.apply, hr, Frame.at])
            cases e with
            | returned v =>
              obtain ⟨e, a', w₃, q, arr⟩ := ih _ _ hR b k cs
              refine ⟨e, a', w₃, q, .of_steps (.head hin (hsteps.trans (.one ?_))) arr⟩
              rw [← fin]; exact step_leave_returned hleave
            | panicked chain =>
              refine ⟨.panic chain, a, w'', hR, .inRegion ops (i :: (l ++ r)) :: k, .head hin (hsteps.trans (.one ?_))⟩
              rw [← Frame.raise_at]; exact step_leave_panicked hleave
            | outgrown =>
              obtain ⟨a₀, w₀, hq⟩ := hR
              exact ⟨.outgrown, a₀, w₀, hq, .inr (Outgrown.of_steps (.one hin) hsteps)⟩
          · rename_i row args w' hr
            intro b k cs
            obtain ⟨v, w'', hR, hsteps⟩ := h (b.at a (.inRegion ops (i :: (l ++ r)) :: k)) cs
            have hin : step P (lone (b.at a (.inRegion ops (i :: (l ++ r)) :: k)) cs w) = .next (lone (Frame.ofRow P row args .normal) (b.at a (.inRegion ops (i :: (l ++ r)) :: k) :: cs) w') :=
              step_lone_go (by rw [hg]; simp [stepG.apply, hr, Frame.at])
            obtain ⟨e, a', w₃, q, arr⟩ := ih _ _ hR b k cs
            refine ⟨e, a', w₃, q, .of_steps (.head hin ?_) arr⟩
            rw [← fin]; exact hsteps
          · rename_i v w' hr
            refine fun b k cs => ⟨_, a, w', h, .inRegion ops (i :: (l ++ r)) :: k, .one (step_lone_go ?_)⟩
            rw [hg, ← Frame.raise_at]; simp [stepG.apply, hr]
          · exact h.elim
        · intro b k cs
          by_cases hk : b.kind = .early
          · exact ⟨.outgrown, a₀, w₀, hq, .inl hk⟩
          · exact ⟨.outgrown, a₀, w₀, hq, .inr (asks_outgrown ho hw hk hasks)⟩
      · rw [if_neg hw] at h
        refine Reg.move (fun b k cs => .one ?_) (ih _ _ h)
        have := step_op_skip (P := P) (b := b) (a := a) (k := k) (cs := cs) (w := w) (ops := ops) (i := i) (rest := l ++ r) (by simp [ho]; simpa using hw)
        simpa [ho] using this

theorem ops_of_list : ∀ (l : List Oper) (k : Nat), (∀ j, j < l.length → l[j]? = ops[k + j]?) → wpOps P ops Q (List.range' k l.length) = wpList P ops Q l := by
  intro l
  induction l with
  | nil => intro k _; funext a w; simp [wpOps, wpList]
  | cons o l ih =>
    intro k h
    have h0 : ops[k]? = some o := by simpa using (h 0 (by simp)).symm
    have ih' := ih (k + 1) (fun j hj => by have := h (j + 1) (by simpa using hj); simpa [Nat.add_assoc, Nat.add_comm 1 j] using this)
    funext a w
    simp only [List.length_cons, List.range'_succ, wpOps, h0, wpList, ih']

/-- A region, cut ahead of its operation n. -/
theorem wp_region_cut (id n : Nat) {l : List Oper} (hn : n ≤ l.length)
    (h : wpList P l.toArray (Exit.then (Reg P l.toArray (List.range' n (l.length - n)) Q) Q) (l.take n) a w) : (Code.region id l.toArray false).wp P Q a w := by
  have hl : (l.take n).length = n := by simp [Nat.min_eq_left hn]
  have e : List.range l.toArray.size = List.range' 0 (l.take n).length ++ List.range' n (l.length - n) := by
    rw [hl, List.range_eq_range']
    simp only [List.size_toArray]
    have := List.range'_append_1 (s := 0) (m := n) (n := l.length - n)
    rw [Nat.zero_add] at this
    rw [this, Nat.add_sub_cancel' hn]
  rw [← ops_of_list (P := P) (ops := l.toArray) (l.take n) 0 (fun j hj => by
    rw [hl] at hj
    rw [List.getElem?_take_of_lt hj]; simp)] at h
  have := Reg.pre _ _ _ h
  rw [← e] at this
  intro b k cs
  obtain ⟨e, a', w', q, r⟩ := this b k cs
  exact ⟨e, a', w', q, .of_steps (.one step_region) r⟩

/-- Operation n is a communication that the machine of one can carry out at once: its step, and then the rest of the region by the kit's walk. -/
theorem Reg.comm {n : Nat} {l : List Oper} {o : Oper} {cases : Array CommCase} {blocking : Bool} {shape : CommShape} {w₁ w₂ : World} {v : Value}
    (ho : l[n]? = some o) (hw : Region.wanted o (yielded l.toArray a.tmps) = true) (hr : (execOp a.eval o).run P w = .ok (.comm cases blocking shape) w₁)
    (hs : ∀ fr cs es, stepG P true (G fr cs) w = .comm (G fr cs) cases blocking shape w₁ es → step P (solo (G fr cs) w) = .next (solo (G (fr.finish v) cs) w₂))
    (h : wpList P l.toArray Q (l.drop (n + 1)) (a.put o.dst v) w₂) : Reg P l.toArray (List.range' n (l.length - n)) Q a w := by
  have hn : n < l.length := by
    rcases Nat.lt_or_ge n l.length with h | h
    · exact h
    · rw [List.getElem?_eq_none h] at ho; cases ho
  have ho' : l.toArray[n]? = some o := by simpa using ho
  have e : List.range' n (l.length - n) = n :: List.range' (n + 1) (l.drop (n + 1)).length := by
    have : l.length - n = (l.length - (n + 1)) + 1 := by omega
    rw [this, List.range'_succ, List.length_drop]
  rw [e]
  refine Reg.move (a' := a.put o.dst v) (w' := w₂) (fun b k cs => .one ?_) (Reg.of_ops ?_)
  · have hc : ∃ es, stepG P true (G (b.at a (.inRegion l.toArray (n :: List.range' (n + 1) (l.drop (n + 1)).length) :: k)) cs) w
        = .comm (G (b.at a (.inRegion l.toArray (n :: List.range' (n + 1) (l.drop (n + 1)).length) :: k)) cs) cases blocking shape w₁ es := by
      have := stepG_op (P := P) (b := b) (k := k) (cs := cs) (w := w) (rest := List.range' (n + 1) (l.drop (n + 1)).length) ho' hw
      simp only [G]
      rw [this]
      simp only [stepG.apply, Sem.runT_eq, hr, GStep.after]
      exact ⟨_, rfl⟩
    obtain ⟨es, hc⟩ := hc
    have := hs _ _ _ hc
    rw [Frame.finish_at, ho'] at this
    exact this
  · rw [ops_of_list _ _ (fun j hj => by simp)]
    exact h

/-- Operation n, once those ahead of it have been walked. -/
theorem comm_at {n : Nat} {l : List Oper} {o : Oper} {cases : Array CommCase} {blocking : Bool} {shape : CommShape} {w₂ : World} {v : Value}
    (ho : l[n]? = some o) (hw : Region.wanted o (yielded l.toArray a.tmps) = true) (hr : (execOp a.eval o).run P w = .ok (.comm cases blocking shape) w)
    (hs : ∀ fr cs es, stepG P true (G fr cs) w = .comm (G fr cs) cases blocking shape w es → step P (solo (G fr cs) w) = .next (solo (G (fr.finish v) cs) w₂))
    (h : wpList P l.toArray Q (l.drop (n + 1)) (a.put o.dst v) w₂) : Exit.then (Reg P l.toArray (List.range' n (l.length - n)) Q) Q .normal a w :=
  Reg.comm ho hw hr hs h

/-- A region that the walk is to stop at. -/
def Halt (c : Code) : Code := c
theorem halt_at (id : Nat) (ops : Array Oper) : Code.region id ops false = Halt (Code.region id ops false) := rfl
theorem wp_halt {c : Code} (h : c.wp P Q a w) : (Halt c).wp P Q a w := h

end
end Go.Proofs.YtjmpokgdgnjojaaDoor
