/-
  The walk of QuoteBack, at this seat's numbers.
-/
import Derived.Test.YtelnehjmkjpjhaaDoorQuD
import Derived.Test.YtelnehjmkjpjhaaDoorQuE
import Derived.Test.YtelnehjmkjpjhaaDoorScJ
namespace Go.Proofs.YtelnehjmkjpjhaaDoor
open Go Go.RowKit
set_option linter.unusedVariables false

theorem own_caps {w : World} {B n c s : Nat} {e : TypeId} {a : Option Addr} {xs : List Value} (h : w.ownsRow B e s (.slice a n c) n xs) : n ≤ c ∧ c ≤ maxLen := by
  rcases h.2 with ⟨h', h0⟩ | ⟨g, cap, cur, h', _, _, h1, h2, _⟩
  · injection h' with _ _ h3
    subst h3; unfold maxLen; omega
  · injection h' with _ _ h3
    subst h3; exact ⟨h1, h2⟩
theorem putP_len (l : List UInt8) : (putP l).length ≤ 2 * l.length + 2 := by
  unfold putP
  split
  · have := dup_len l
    rw [List.length_cons, List.length_append]; simp only [List.length_cons, List.length_nil]; omega
  · omega
theorem put_field0 (l : List UInt8) : (fieldP (putP l) 0).kind = (if needsP l = true then 1 else 0) ∧ atL (putP l) (fieldP (putP l) 0).pl = l := by
  have h := put_field l [] (mkAt_out (Nat.le_refl _))
  rw [List.append_nil] at h
  exact ⟨h.1, h.2.1⟩
theorem more_data (p : List UInt8) (m : ByteArray) : (strOf p ++ ⟨#[44]⟩ ++ m).data.toList = p ++ (44 :: m.data.toList) := by
  simp [strOf, ByteArray.data_append]
theorem put_field1 (l : List UInt8) (m : List UInt8) : (fieldP (putP l ++ (44 :: m)) 0).kind = (if needsP l = true then 1 else 0) ∧ atL (putP l ++ (44 :: m)) (fieldP (putP l ++ (44 :: m)) 0).pl = l := by
  have h := put_field l (44 :: m) (by rw [mkAt_in (by simp), show lb (44 :: m) 0 = 44 from rfl]; rfl)
  exact ⟨h.1, h.2.1⟩

/-- A value that Read told, as a text, from here on; its kind. -/
def RdTold (t : ByteArray) (K : Int) (w : World) (e : Ending) (w' : World) : Prop := ∃ a n c, e = .returned (.tuple #[.slice a n c, .int .i64 K]) ∧ (∀ w3, Below w'.heap.size w' w3 → (convert 28 9 (.slice a n c)).run Tryd.prog w3 = .ok (.string t) w3) ∧ Below w.heap.size w w'
theorem rdTold_of {w : World} {a : Option Addr} {c : Nat} {L : List UInt8} (hr : Rd w 1 a L.length (bc L)) (hl : L.length ≤ 1000000) (hlc : L.length ≤ c) (hc : c ≤ maxLen) {t : ByteArray} {l : List UInt8} {K : Int} (ht : strOf l = t) (hk : (fieldP L 0).kind = K) (ha : atL L (fieldP L 0).pl = l) :
    Calls Tryd.prog 18 #[.slice a L.length c] w (RdTold t K w) := by
  refine (qread_of (c := c) hr hl hlc hc).mono ?_
  rintro e w' ⟨a', n, c', rfl, hn, ho, hb⟩
  rw [ha] at hn ho
  rw [hk]
  subst hn
  exact ⟨a', _, c', rfl, fun w3 h3 => by rw [← ht]; exact string_own (own_below ho h3), hb⟩

end Go.Proofs.YtelnehjmkjpjhaaDoor
