/-
  Texts of this seat, put together (a claim holds few texts): GeQ.
-/
import Derived.Test.YtkgakgceamafcaaGreatMk44

namespace Go.Proofs.YtkgakgceamafcaaGreat
open Go Go.RowKit Go.Shelf
set_option linter.unusedVariables false

theorem cut11_of (s : ByteArray) (n : Nat) (w : World) (hs : s.size ≤ maxLen) (hn : n ≤ maxLen) :
    Calls Tryz.prog 9 #[.string s, .int .i64 n] w fun e w' => e = .returned (.string (cutS s n)) ∧ w = w' := by
  unfold maxLen at hs hn
  by_cases h : n < s.size
  · have e : cutS s n = s.extract 0 n := by unfold cutS; rw [if_pos h]
    rw [e]
    clear e
    go_enter Tryz.func9, Tryz.ntmps9
    go_wp2
    go_ret
    exact ⟨rfl, rfl⟩
  · have e : cutS s n = s := by unfold cutS; rw [if_neg h]
    rw [e]
    clear e
    go_enter Tryz.func9, Tryz.ntmps9
    go_wp2
    go_ret
    exact ⟨rfl, rfl⟩
theorem str_cut11 (s : ByteArray) (n : Nat) : ∃ l, cutS s n = strOf l ∧ l.length ≤ n :=
  ⟨(cutS s n).data.toList, rfl, cutS_le s n⟩
theorem conv_str11 (b : List UInt8) {L : Nat} (w : World) (hL : b.length = L) (hl : L ≤ 100000) :
    ∃ cap W, (convert 9 32 (.string (strOf b))).run Tryz.prog w = .ok (.slice (some ⟨w.heap.size, 0, none⟩) L cap) W ∧ L ≤ cap ∧ cap ≤ maxLen ∧ Rd W 1 (some ⟨w.heap.size, 0, none⟩) b.length (bc b) ∧ Below w.heap.size w W ∧ w.heap.size < W.heap.size := by
  obtain ⟨cap, W, h1, h2, h3⟩ := held_of (strOf b) w (by show b.length ≤ _; rw [hL]; unfold maxLen; omega)
  subst hL
  exact ⟨cap, W, h1, h2.fits, h2.cap, rd_held h2, h3, h2.lies⟩

/-- A grid of a file, or of none. -/
def UP (b l' : List UInt8) (Ls : List R3) (Cs : List (List CelM)) (N : Nat) (tl : Bool) (en : Int) : Prop :=
  (glEr b ≠ 0 ∧ l' = [] ∧ Ls = [] ∧ Cs = [] ∧ N = 0 ∧ tl = false ∧ en = 2) ∨ (glEr b = 0 ∧ l' = b ∧ tl = tailP (allP b 0) ∧ en = frsP (allP b 0) ∧ N = (allP b 0).length ∧ FileOf Ls Cs (allP b 0))
def UD (b : List UInt8) (Es : List R3) (Ns : List (List RCM)) (n : Nat) (td : Bool) (ed : Int) : Prop :=
  (glEr b ≠ 0 ∧ Es = [] ∧ Ns = [] ∧ n = 0 ∧ td = false ∧ ed = 2) ∨ (glEr b = 0 ∧ n = (allP b 0).length ∧ Ns = cellsG b (allP b 0) ∧ EndsAs Es (allP b 0) ∧ td = tailP (allP b 0) ∧ ed = frsP (allP b 0))
theorem UP.use {b l' : List UInt8} {Ls : List R3} {Cs : List (List CelM)} {N : Nat} {tl : Bool} {en : Int} (h : UP b l' Ls Cs N tl en) (hN : Ls.length = N) (hC : Ls.length = Cs.length) : N ≤ 400 ∧ l'.length ≤ 4096 ∧ (∀ ms ∈ Cs, ms.length ≤ 40) ∧ saveP l' Cs N tl en Ls = l' := by
  rcases h with ⟨_, rfl, rfl, rfl, rfl, _, _⟩ | ⟨h0, rfl, rfl, rfl, rfl, hF⟩
  · exact ⟨by decide, by decide, fun ms h => (by cases h), rfl⟩
  · have h3 := glEr_zero h0
    exact ⟨h3.2.1, h3.1, file_len h0 hN hC hF, saveP_file hN hC hF⟩
theorem UD.use {b : List UInt8} {Es : List R3} {Ns : List (List RCM)} {n : Nat} {td : Bool} {ed : Int} (h : UD b Es Ns n td ed) : n ≤ 400 ∧ ∀ M ∈ Ns, M.length ≤ 1000000 := by
  rcases h with ⟨_, rfl, rfl, rfl, _, _⟩ | ⟨h0, rfl, rfl, _, _, _⟩
  · exact ⟨by decide, fun M h => (by cases h)⟩
  · have h3 := glEr_zero h0
    refine ⟨h3.2.1, fun M hM => ?_⟩
    unfold cellsG at hM
    obtain ⟨r, hr, rfl⟩ := List.mem_map.1 hM
    have := h3.2.2 r hr
    rw [List.length_map]; omega
theorem UP.same {b l' : List UInt8} {Ls Ds Es : List R3} {Cs : List (List CelM)} {Ns : List (List RCM)} {N n : Nat} {tl td : Bool} {en ed : Int} (h : UP b l' Ls Cs N tl en) (hN : Ls.length = N) (hC : Ls.length = Cs.length) (hd : UD b Es Ns n td ed) (hE : Es.length = n) (hD : Ds.length = N) (hA : AsRows Ls Ds) :
    tl = td ∧ en = ed ∧ gRow Ds (Cs.map fun ms => ms.map (rc l')) = gRow Es Ns := by
  rcases h with ⟨h0, rfl, rfl, rfl, rfl, rfl, rfl⟩ | ⟨h0, rfl, rfl, rfl, rfl, hF⟩
  · rcases hd with ⟨_, rfl, rfl, rfl, rfl, rfl⟩ | ⟨h1, _⟩
    · exact ⟨rfl, rfl, by rw [List.length_eq_zero_iff.1 hD]; rfl⟩
    · exact absurd h1 h0
  · rcases hd with ⟨h1, _⟩ | ⟨_, rfl, rfl, hN', rfl, rfl⟩
    · exact absurd h0 h1
    · exact ⟨rfl, rfl, same_rows hN hC hD hE hF hA hN'⟩
theorem gload_u {w : World} {b : List UInt8} {a : Option Addr} {L c : Nat} (hrd : Rd w 1 a b.length (bc b)) (hL : b.length = L) (hlc : L ≤ c) (hc : c ≤ maxLen) :
    Calls Tryz.prog 10 #[.slice a L c] w fun e w' => ∃ px tl en p l' N Ls Cs B, e = .returned (.tuple #[.agg #[.pointer px, .bool tl, .int .i64 en], .pointer (some ⟨p, 0, none⟩), .int .i64 (glEr b)]) ∧ Tin w' 194 (.pointer px) (rws Ls) ∧ Ls.length = N ∧ GrIn w' l' Ls Cs ∧ Ar w' B p l' ∧ UP b l' Ls Cs N tl en ∧ Below w.heap.size w w' := by
  refine (gload_of hrd hL hlc hc).mono ?_
  rintro e w' (⟨h0, p, B, rfl, hA, hb⟩ | ⟨h0, px, p, Ls, Cs, rfl, hT, hN, hG, hF, hA, hb⟩)
  · exact ⟨none, false, 2, p, [], 0, [], [], B, rfl, .inl ⟨rfl, rfl⟩, rfl, ⟨rfl, fun k r ms h => by simp at h⟩, hA, .inl ⟨h0, rfl, rfl, rfl, rfl, rfl, rfl⟩, hb⟩
  · rw [h0]
    exact ⟨px, _, _, p, b, _, Ls, Cs, _, rfl, hT, hN, hG, hA, .inr ⟨h0, rfl, rfl, rfl, rfl, hF⟩, hb⟩
theorem rload_u (b : List UInt8) (hl : b.length ≤ 1000000) (w : World) :
    Calls Tryz.prog 11 #[.string (strOf b)] w fun e w' => ∃ a c n td ed Es Ns B, e = .returned (.tuple #[.agg #[.slice a n c, .bool td, .int .i64 ed], .int .i64 (glEr b)]) ∧ Rd w' 3 a n (cs3 (rws Es)) ∧ DgIn w' B Es Ns ∧ Es.length = n ∧ UD b Es Ns n td ed ∧ Below w.heap.size w w' := by
  refine (rgload_of (s := strOf b) (l := b) rfl hl w).mono ?_
  rintro e w' ⟨hb, (⟨h0, rfl⟩ | ⟨h0, a, c, n, Es, hn, hE, rfl, ho, hd, hen⟩)⟩
  · exact ⟨none, 0, 0, false, 2, [], [], 0, rfl, ⟨rfl, fun h => absurd h (by simp)⟩, DgIn.nil _ _, rfl, .inl ⟨h0, rfl, rfl, rfl, rfl, rfl⟩, hb⟩
  · rw [h0]
    exact ⟨a, c, n, _, _, Es, _, _, rfl, rd_own ho, hd, hE, .inr ⟨h0, hn, rfl, hen, rfl, rfl⟩, hb⟩

end Go.Proofs.YtkgakgceamafcaaGreat
