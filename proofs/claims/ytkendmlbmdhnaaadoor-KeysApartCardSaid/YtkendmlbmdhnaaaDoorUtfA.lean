/-
  The contracts of utf's functions over a slice of bytes that is not nil, at this seat's numbers.
-/
import Derived.Test.YtkendmlbmdhnaaaDoorUtfP
import Derived.Test.YtkendmlbmdhnaaaDoorShelf
import Derived.Lib.LaidU8
namespace Go.Proofs.YtkendmlbmdhnaaaDoor
open Go Go.RowKit
set_option linter.unusedVariables false

/-- The two tables of Go's utf8 lie as the library's text lays them. -/
def Tabs (w : World) : Prop := Lib.Utf8Tabs 1 2 w
theorem Tabs.below {w w' : World} (h : Tabs w) (hb : Below w.heap.size w w') : Tabs w' := by
  have key : ∀ a v, w.cell? a = some v → w'.cell? a = some v := fun a v ha => by rw [hb.cell (World.block_lt_of_cell? w a ha)]; exact ha
  exact ⟨fun c hc => key _ _ (h.1 c hc), fun i hi => ⟨key _ _ (h.2 i hi).1, key _ _ (h.2 i hi).2⟩⟩

theorem decodeRune_of (s : ByteArray) (b off cap : Nat) (w : World) (hT : Tabs w) (hb : Bs w b off s) :
    Calls Tryd.prog 36 #[.slice (some ⟨b, off, none⟩) s.size cap] w fun e w' => e = .returned (.tuple #[.int .i32 (Lib.decodeGo s).1, .int .i64 (Lib.decodeGo s).2]) ∧ Below w.heap.size w w' :=
  Any7.utf8_DecodeRune Tryd.lays7_32 s b off cap w hT fun j hj => by rw [hb j hj, bt_get!]

/-- The number of the character at a place, and how many bytes it has. -/
def rn (s : ByteArray) (i : Nat) : Int := if (Utf8.decode s i).1 = 65533 ∧ (Utf8.decode s i).2 = 1 then -1 else ((Utf8.decode s i).1 : Int)
def sizeAt (s : ByteArray) (at_ : Int) : Int := if at_ < 0 ∨ (s.size : Int) ≤ at_ then 0 else (wd s at_.toNat : Int)
def runeAt (s : ByteArray) (at_ : Int) : Int := if at_ < 0 ∨ (s.size : Int) ≤ at_ then -1 else rn s at_.toNat

theorem tail_decode (s : ByteArray) (i : Nat) (h : i < s.size) : Lib.decodeGo (s.extract i s.size) = Utf8.decode s i := by
  unfold Lib.decodeGo
  rw [if_neg (by rw [ByteArray.size_extract]; omega), Lib.decode_at, Lib.decode_at, ByteArray.size_extract]
  simp only [← Lib.tail_get!, Nat.zero_add]
  have e := Lib.tail_get! s i 0
  rw [Nat.add_zero] at e
  rw [e, Nat.min_self, Nat.sub_zero]

theorem dN_rune (n b0 b1 b2 b3 : Nat) : (Lib.decodeN n b0 b1 b2 b3).1 < 1114112 := by
  unfold Lib.decodeN
  repeat' split
  all_goals (simp only []; omega)
theorem rune_lt (s : ByteArray) (i : Nat) : (Utf8.decode s i).1 < 1114112 := by rw [Lib.decode_at]; exact dN_rune _ _ _ _ _

theorem Bs.tail {w : World} {b : Nat} {s : ByteArray} (h : Bs w b 0 s) (i : Nat) : Bs w b i (s.extract i s.size) := fun j hj => by
  rw [ByteArray.size_extract] at hj
  have := h (i + j) (by omega)
  rw [Nat.zero_add] at this
  rw [this, bt_get!, bt_get!, Lib.tail_get!]

set_option maxHeartbeats 400000 in
theorem decode_of (s : ByteArray) (b cap : Nat) (at_ : Int) (w : World) (hh : Held w b cap s) (hT : Tabs w) :
    Calls Tryd.prog 31 #[.slice (some ⟨b, 0, none⟩) s.size cap, .int .i64 at_] w fun e w' => e = .returned (.tuple #[.int .i64 (runeAt s at_), .int .i64 (sizeAt s at_)]) ∧ Below w.heap.size w w' := by
  have hs := hh.size
  have hf := hh.fits
  have hc := hh.cap
  unfold maxLen at hs hc
  by_cases h0 : at_ < 0
  · have e1 : runeAt s at_ = -1 := by unfold runeAt; rw [if_pos (Or.inl h0)]
    have e2 : sizeAt s at_ = 0 := by unfold sizeAt; rw [if_pos (Or.inl h0)]
    rw [e1, e2]
    clear e1 e2
    go_enter Tryd.func31, Tryd.ntmps31
    go_wp2_with fail
    go_ret2
    exact ⟨rfl, Below.refl _ _⟩
  · obtain ⟨i, rfl⟩ := Int.eq_ofNat_of_zero_le (Int.not_lt.1 h0)
    by_cases h1 : i < s.size
    · have e1 : runeAt s i = rn s i := by unfold runeAt; rw [if_neg (by omega)]; rfl
      have e2 : sizeAt s i = wd s i := by unfold sizeAt; rw [if_neg (by omega)]; rfl
      rw [e1, e2]
      clear e1 e2
      have hd := decodeRune_of (s.extract i s.size) b i (cap - i) w hT (hh.bytes.tail i)
      rw [tail_decode s i h1, ByteArray.size_extract, Nat.min_self] at hd
      have HD := Lib.hid hd
      have hr := rune_lt s i
      have hw := (wd_facts s i h1).2.1
      unfold rn
      unfold wd at hw ⊢
      generalize Utf8.decode s i = p at *
      obtain ⟨x, q⟩ := p
      clear hd hh hT
      simp only at hr hw HD ⊢
      by_cases hx : x = 65533 ∧ q = 1
      · obtain ⟨rfl, rfl⟩ := hx
        rw [if_pos ⟨rfl, rfl⟩]
        go_enter Tryd.func31, Tryd.ntmps31
        go_wp2_with fail
        refine HD.out.mono ?_
        rintro e w1 ⟨rfl, hb⟩
        go_wp2_with fail
        go_ret2
        exact ⟨rfl, hb⟩
      · rw [if_neg hx]
        by_cases hx1 : x = 65533
        · have n1 : ((x : Int) == 65533) = true := by rw [beq_iff_eq]; omega
          have n2 : ((q : Int) == 1) = false := by rw [beq_eq_false_iff_ne]; omega
          clear hx hx1
          go_enter Tryd.func31, Tryd.ntmps31
          go_wp2_with fail
          refine HD.out.mono ?_
          rintro e w1 ⟨rfl, hb⟩
          go_wp2_with fail
          go_ret2
          exact ⟨rfl, hb⟩
        · have n1 : ((x : Int) == 65533) = false := by rw [beq_eq_false_iff_ne]; omega
          clear hx hx1
          go_enter Tryd.func31, Tryd.ntmps31
          go_wp2_with fail
          refine HD.out.mono ?_
          rintro e w1 ⟨rfl, hb⟩
          go_wp2_with fail
          go_ret2
          exact ⟨rfl, hb⟩
    · have e1 : runeAt s i = -1 := by unfold runeAt; rw [if_pos (by omega)]
      have e2 : sizeAt s i = 0 := by unfold sizeAt; rw [if_pos (by omega)]
      rw [e1, e2]
      clear e1 e2
      go_enter Tryd.func31, Tryd.ntmps31
      go_wp2_with fail
      go_ret2
      exact ⟨rfl, Below.refl _ _⟩

/-- What utf's functions need, said once for a whole statement: W is where the bytes lie. -/
structure At8 (W : World) (b cap : Nat) (s : ByteArray) : Prop where
  held : Held W b cap s
  tabs : Tabs W

theorem rune_at {W : World} {b cap : Nat} {s : ByteArray} (h : At8 W b cap s) (at_ : Int) (w : World) (hw : Below W.heap.size W w) :
    Calls Tryd.prog 24 #[.slice (some ⟨b, 0, none⟩) s.size cap, .int .i64 at_] w fun e w' => e = .returned (.int .i64 (runeAt s at_)) ∧ Below W.heap.size W w' := by
  have HD := Lib.hid (decode_of s b cap at_ w (h.held.below hw) (h.tabs.below hw))
  have HW := Lib.hid hw
  clear h hw
  go_enter Tryd.func24, Tryd.ntmps24
  go_wp2_with fail
  refine HD.out.mono ?_
  rintro e w1 ⟨rfl, hb⟩
  go_wp2_with fail
  go_ret
  exact ⟨rfl, HW.out.trans (hb.mono HW.out.size)⟩

/-- A boundary, by the three bytes ahead. -/
def bnd (s : ByteArray) (at_ : Int) : Bool := decide (0 ≤ at_ ∧ at_ ≤ s.size ∧ sizeAt s (at_ - 1) ≤ 1 ∧ sizeAt s (at_ - 2) ≤ 2 ∧ sizeAt s (at_ - 3) ≤ 3)
theorem sizeAt_range (s : ByteArray) (i : Int) : 0 ≤ sizeAt s i ∧ sizeAt s i ≤ 4 := by
  unfold sizeAt
  split
  · omega
  · have := wd_facts s i.toNat (by omega)
    omega

theorem sizeAt_in (s : ByteArray) (i : Nat) (h : i < s.size) : sizeAt s i = wd s i := by
  unfold sizeAt; rw [if_neg (by omega)]; rfl
theorem sizeAt_out (s : ByteArray) (i : Int) (h : i < 0 ∨ (s.size : Int) ≤ i) : sizeAt s i = 0 := by
  unfold sizeAt; rw [if_pos h]

/-- The three bytes ahead tell a boundary. -/
theorem bnd_iff (s : ByteArray) (n : Nat) (hn : n ≤ s.size) : bnd s n = true ↔ IsB s n := by
  rw [isB_iff s n hn]
  have key : ∀ k : Nat, 1 ≤ k → k ≤ 3 → (sizeAt s ((n : Int) - k) ≤ k ↔ (k ≤ n → wd s (n - k) ≤ k)) := fun k h1 h2 => by
    by_cases h : k ≤ n
    · rw [show (n : Int) - k = ((n - k : Nat) : Int) from by omega, sizeAt_in s _ (by omega)]
      omega
    · rw [sizeAt_out s _ (by omega)]
      omega
  have k1 := key 1 (by omega) (by omega)
  have k2 := key 2 (by omega) (by omega)
  have k3 := key 3 (by omega) (by omega)
  unfold bnd
  rw [decide_eq_true_iff]
  constructor
  · rintro ⟨_, _, a, b, c⟩ k h1 h2
    have hk : k = 1 ∨ k = 2 ∨ k = 3 := by omega
    rcases hk with rfl | rfl | rfl
    · exact k1.1 a
    · exact k2.1 b
    · exact k3.1 c
  · intro h
    exact ⟨by omega, by omega, k1.2 (h 1 (by omega) (by omega)), k2.2 (h 2 (by omega) (by omega)), k3.2 (h 3 (by omega) (by omega))⟩
theorem bnd_zero (s : ByteArray) : bnd s 0 = true := (bnd_iff s 0 (Nat.zero_le _)).2 ⟨0, rfl⟩
theorem bd_end (s : ByteArray) : ∃ k, bd s k = s.size := by
  obtain ⟨k, hle, hc⟩ := last_below s s.size (Nat.le_refl _)
  rcases hc with hc | ⟨h1, h2⟩
  · exact ⟨k, hc⟩
  · have := (wd_facts s _ h1).2.2.1
    omega
theorem bnd_size (s : ByteArray) : bnd s s.size = true := (bnd_iff s s.size (Nat.le_refl _)).2 (bd_end s)

/-- The first boundary from j on, k places being left. -/
def nf (s : ByteArray) : Nat → Nat → Nat
  | 0, j => j
  | k + 1, j => if bnd s j = true then j else nf s k (j + 1)
def nextAt (s : ByteArray) (at_ : Int) : Int := if at_ < 0 then 0 else if (s.size : Int) ≤ at_ then s.size else nf s (s.size - (at_.toNat + 1)) (at_.toNat + 1)
theorem nf_yes (s : ByteArray) (k j : Nat) (h : bnd s j = true) : nf s k j = j := by
  cases k
  · rfl
  · unfold nf; rw [if_pos h]
theorem nf_no (s : ByteArray) (k j : Nat) (h : bnd s j = false) : nf s (k + 1) j = nf s k (j + 1) := by
  conv => lhs; unfold nf
  rw [if_neg (by rw [h]; decide)]

/-- The last boundary at or below j. -/
def pf (s : ByteArray) : Nat → Nat
  | 0 => 0
  | j + 1 => if bnd s ((j + 1 : Nat) : Int) = true then j + 1 else pf s j
def prevAt (s : ByteArray) (at_ : Int) : Int := if at_ ≤ 0 then 0 else if (s.size : Int) < at_ then s.size else pf s (at_.toNat - 1)
theorem pf_yes (s : ByteArray) (j : Nat) (h : bnd s j = true) : pf s j = j := by
  cases j
  · rfl
  · unfold pf; rw [if_pos h]
theorem pf_no (s : ByteArray) (j : Nat) (h : bnd s ((j + 1 : Nat) : Int) = false) : pf s (j + 1) = pf s j := by
  conv => lhs; unfold pf
  rw [if_neg (by rw [h]; decide)]

end Go.Proofs.YtkendmlbmdhnaaaDoor
