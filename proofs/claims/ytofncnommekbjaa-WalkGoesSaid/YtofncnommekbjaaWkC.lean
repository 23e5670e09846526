/-
  The contract of slices.All's iterator over numbers, at this seat's numbers.
-/
import Derived.Test.YtofncnommekbjaaWkB
import Derived.Test.YtofncnommekbjaaTrY
namespace Go.Proofs.Ytofncnommekbjaa
open Go Go.RowKit Go.Shelf
set_option linter.unusedVariables false
attribute [local go_sem] Oper.semAt_some

def pairs (xs : List Int) : List (Nat × Int) := (List.range xs.length).map fun k => (k, xs.getD k 0)
theorem pairs_len (xs : List Int) : (pairs xs).length = xs.length := by simp [pairs]
theorem pairs_at {xs : List Int} {k : Nat} {x : Int} (h : xs[k]? = some x) : (pairs xs)[k]? = some (k, x) := by
  have hk := (List.getElem?_eq_some_iff.1 h).1
  unfold pairs
  rw [List.getElem?_map, List.getElem?_range hk]
  simp [List.getD, h]
theorem take_snoc {α : Type} {l : List α} {k : Nat} {x : α} (h : l[k]? = some x) : l.take k ++ [x] = l.take (k + 1) := by rw [List.take_add_one, h]; rfl
def encP (x : Nat × Int) : Array Value := #[.int .i64 (x.1 : Int), .int .i64 x.2]

set_option maxRecDepth 100000 in
set_option maxHeartbeats 2000000 in
theorem sall_iter (n n₀ Bs : Nat) {w : World} {a : Option Addr} {c : Nat} {xs : List Int} (hB : Bs < w.heap.size) (hn : n₀ ≤ w.heap.size) (hc : w.cell? ⟨Bs, 0, none⟩ = some (.slice a xs.length c)) (hS : Sl w a c (nums xs)) (hb : ∀ d, a = some d → d.block < n₀) (hlen : xs.length ≤ 1000000) :
    Iter Fence.wide n Try.prog 92 #[.pointer (some ⟨Bs, 0, none⟩)] encP n₀ (fun ys => ys = pairs xs) (fun pre => pre <+: pairs xs) (fun pre x => (pairs xs)[pre.length]? = some x) (fun _ => False) w := fun l J Jx W hW hJ hJx hY h0 => by
  have hc' := (hW.cell (p := ⟨Bs, 0, none⟩) hB).trans hc
  have HS := Lib.hid (hS.below hW)
  have hnW : n₀ ≤ W.heap.size := Nat.le_trans hn hW.size
  have hpl := pairs_len xs
  obtain ⟨len, hl⟩ : ∃ len, xs.length = len := ⟨_, rfl⟩
  have HL := Lib.hid hl
  rw [hl] at hc' hlen hpl
  clear hl hc hS
  refine callsIn_of_wp Try.func92 rfl trivial ?_ rfl
  simp only [Try.ntmps92, List.size_toArray, List.length_cons, List.length_nil, Nat.reduceAdd, Nat.reduceSub, Array.replicate_succ, Array.replicate_zero, List.push_toArray, List.append_toArray, List.nil_append, List.cons_append]
  gi_wp2
  gi_loopw [7] (fun i wr => ∃ k : Nat, k ≤ len ∧ i = .int .i64 k ∧ J ((pairs xs).take k) (fun _ => False) wr ∧ Below n₀ W wr) (fun i _ => len - (intOf i).toNat)
  case atStart => exact ⟨0, Nat.zero_le _, rfl, h0, Below.refl _ _⟩
  case round =>
    obtain ⟨k, hk, rfl, hJs, hnx⟩ := hrel
    by_cases hlt : k < len
    · obtain ⟨x, hx⟩ : ∃ x, xs[k]? = some x := ⟨_, List.getElem?_eq_getElem (by rw [HL.out]; exact hlt)⟩
      obtain ⟨g, o, rfl⟩ := HS.out.numsome (by rw [HL.out]; omega)
      have hcx := (hnx.cell (p := ⟨g, o + k, none⟩) (show g < n₀ from hb ⟨g, o, none⟩ rfl)).trans (HS.out.num hx).1
      have hat := pairs_at hx
      have hpk := take_snoc hat
      obtain ⟨fn, tmps, assign, body, hy, hR⟩ := hY _ (k, x) _ wr hJs (fun _ h => h.elim) (by rw [List.length_take, Nat.min_eq_left (by omega)]; exact hat)
      dsimp only [encP] at hy
      have HP := Lib.hid hpk
      clear hx hpk hat
      gi_wp2
      refine ⟨fun h => by simp [Fence.wide] at h, hR.mono ?_⟩
      rintro e W3 ⟨_, (⟨rfl, hJ3, hk3⟩ | ⟨rfl, hJx3⟩)⟩
      · gi_wp2
        go_roundw
        case rel => exact ⟨k + 1, by omega, by simp, by rw [← HP.out]; exact hJ3, hnx.trans hk3⟩
        case measure => simp [intOf]; omega
      · gi_wp2
        refine bodyPost_ret (results_none rfl _ _ _) rfl ?_
        exact ⟨⟨_, rfl⟩, .inr ⟨_, _, by rw [HP.out]; exact List.take_prefix _ _, hJx3⟩⟩
    · obtain rfl : k = len := by omega
      have htk : (pairs xs).take k = pairs xs := List.take_of_length_le (by omega)
      rw [htk] at hJs
      have HJ := Lib.hid hJs
      clear htk hJs
      gi_wp2
      go_end0
      exact ⟨⟨_, rfl⟩, .inl ⟨_, _, rfl, HJ.out⟩⟩

end Go.Proofs.Ytofncnommekbjaa
