/-
  The contracts of utf.Put, utf.Class, the document's own Put and Class, cut, and the chapter's example (awake) of layer 1, at this seat's numbers.
-/
import Derived.Test.YtkendmlbmdhnaaaDoorUtfA
import Derived.Lib.RuneBytes
namespace Go.Proofs.YtkendmlbmdhnaaaDoor
open Go Go.RowKit
set_option linter.unusedVariables false

def good (r : Int) : Prop := 0 ≤ r ∧ r ≤ 1114111 ∧ ¬ (55296 ≤ r ∧ r ≤ 57343)
instance (r : Int) : Decidable (good r) := by unfold good; infer_instance

def cls (r : Int) : Int := if r = 32 ∨ (9 ≤ r ∧ r ≤ 13) then 0 else if 127 < r ∨ r = 95 ∨ (48 ≤ r ∧ r ≤ 57) ∨ (65 ≤ r ∧ r ≤ 90) ∨ (97 ≤ r ∧ r ≤ 122) then 1 else 2

theorem validRune_of (r : Int) (w : World) : Calls Tryd.prog 29 #[.int .i32 r] w fun e w' => e = .returned (.bool (Lib.validRune r)) ∧ w = w' :=
  (Tryd.utf8_ValidRune r w).mono fun _ _ ⟨a, b⟩ => ⟨a, b.symm⟩

theorem put_bad (r : Int) (w : World) (h : ¬ good r) : Calls Tryd.prog 22 #[.int .i64 r] w fun e w' => e = .returned (.slice none 0 0) ∧ w = w' := by
  by_cases h1 : r < 0
  · go_enter Tryd.func22, Tryd.ntmps22
    go_wp2_with fail
    go_ret
    exact ⟨rfl, rfl⟩
  · by_cases h2 : 1114111 < r
    · have h1' : ¬ r < 0 := h1
      go_enter Tryd.func22, Tryd.ntmps22
      go_wp2_with fail
      go_ret
      exact ⟨rfl, rfl⟩
    · have h1' : 0 ≤ r := by omega
      have h2' : r ≤ 1114111 := by omega
      have hv : Lib.validRune r = false := by unfold Lib.validRune; rw [decide_eq_false_iff_not]; intro k; exact h ⟨h1', h2', by omega⟩
      have HV := Lib.hid hv
      clear h hv h1 h2
      go_enter Tryd.func22, Tryd.ntmps22
      go_wp2_with fail
      refine (validRune_of r w).mono ?_
      rintro e w1 ⟨rfl, rfl⟩
      rw [HV.out]
      go_wp2_with fail
      go_ret
      exact ⟨rfl, rfl⟩

theorem below_setCells {B b : Nat} (hb : B ≤ b) {a : World} : ∀ (vs : List Value) (o : Nat) (w : World), Below B a w → Below B a (w.setCells b o vs)
  | [], _, _, h => h
  | v :: r, o, w, h => below_setCells hb r (o + 1) _ (h.setCell (p := ⟨b, o, none⟩) hb v)

theorem enc_bt (r : Int) (j : Nat) (hj : j < (Lib.encodeRuneZ r).length) : bt (strOf (Lib.encodeRune r)) j = (Lib.encodeRuneZ r)[j] := by
  have hb := Lib.encodeRuneZ_byte r _ (List.getElem_mem hj)
  unfold bt strOf Lib.encodeRune
  show ((((Lib.encodeRuneZ r).map fun (x : Int) => x.toNat.toUInt8).getD j 0).toNat : Int) = _
  rw [List.getD_eq_getElem?_getD, List.getElem?_map, List.getElem?_eq_getElem hj]
  simp only [Option.map_some, Option.getD_some]
  have : ((Lib.encodeRuneZ r)[j].toNat.toUInt8).toNat = (Lib.encodeRuneZ r)[j].toNat := by
    rw [Nat.toUInt8_eq, UInt8.toNat_ofNat_of_lt' (by show _ < 256; omega)]
  rw [this]
  omega
theorem enc_len (r : Int) : (strOf (Lib.encodeRune r)).size = (Lib.encodeRuneZ r).length := by unfold Lib.encodeRune; rw [strOf_size, List.length_map]

theorem encodeRune_of (r : Int) (h0 : 0 ≤ r) (h1 : r ≤ 1114111) (w : World) :
    Calls Tryd.prog 30 #[.slice (some ⟨w.heap.size, 0, none⟩) 4 4, .int .i32 r] (w.alloc (.cells #[.int .u8 0, .int .u8 0, .int .u8 0, .int .u8 0] 54)) fun e w' =>
      e = .returned (.int .i64 (strOf (Lib.encodeRune r)).size) ∧ Bs w' w.heap.size 0 (strOf (Lib.encodeRune r)) ∧ Below w.heap.size w w' := by
  have hl := Lib.encodeRuneZ_length r
  have hlen : (Lib.runeCells r).length = (Lib.encodeRuneZ r).length := by unfold Lib.runeCells; rw [List.length_map]
  refine (Any7.utf8_EncodeRune Tryd.lays7_30 w.heap.size 0 4 4 r (by omega) (by omega) _ (by rw [hlen]; omega) (fun j hj => ?_) (fun j hj => ?_)).mono ?_
  · have hj4 : j < 4 := by omega
    rw [Nat.zero_add, World.cell?_alloc_new]
    match j, hj4 with
    | 0, _ => rfl
    | 1, _ => rfl
    | 2, _ => rfl
    | 3, _ => rfl
  · rw [Nat.zero_add]
    exact World.frozen?_alloc_at _ _ _ _ rfl
  · rintro e w' ⟨rfl, rfl⟩
    refine ⟨by rw [hlen, enc_len], fun j hj => ?_, below_setCells (Nat.le_refl _) _ _ _ ((Below.refl _ w).alloc (Nat.le_refl _) _)⟩
    rw [enc_len] at hj
    have hin := World.cell?_setCells_in w.heap.size (Lib.runeCells r) 0 (w.alloc (.cells #[.int .u8 0, .int .u8 0, .int .u8 0, .int .u8 0] 54)) (fun j hj => by
      have hj4 : j < 4 := by omega
      rw [Nat.zero_add, World.cell?_alloc_new]
      match j, hj4 with
      | 0, _ => rfl
      | 1, _ => rfl
      | 2, _ => rfl
      | 3, _ => rfl) j (by omega)
    rw [hin, enc_bt r j hj]
    simp only [Lib.runeCells, List.getElem_map]

theorem arr_len : Tryd.prog.arrayLen 54 = 4 := by kernel_rfl
theorem slice_room (b n : Nat) (hn : n ≤ 4) (W : World) :
    (Instr.sliceAt 54 (.pointer (some ⟨b, 0, none⟩)) none (some (.int .i64 n)) (some (.int .i64 n))).run Tryd.prog W = .ok (.slice (some ⟨b, 0, none⟩) n n) W := by
  rw [run_sliceAt_array_hm W 54 ⟨b, 0, none⟩ (by kernel_rfl) .i64 .i64 n n (by omega) (by omega) (by rw [arr_len]; omega)]
  have : (sizeOf (Tryd.prog.elem 54)).run Tryd.prog W = .ok 1 W := by kernel_rfl
  rw [this]
  simp only [Result.andThen, slicedAt]
  split <;> simp [Addr.add]

theorem put_good (r : Int) (w : World) (h : good r) : Calls Tryd.prog 22 #[.int .i64 r] w fun e w' =>
    ∃ g, e = .returned (.slice (some ⟨g, 0, none⟩) (strOf (Lib.encodeRune r)).size (strOf (Lib.encodeRune r)).size) ∧ Bs w' g 0 (strOf (Lib.encodeRune r)) ∧ Below w.heap.size w w' := by
  obtain ⟨h1, h2, h3⟩ := h
  have hv : Lib.validRune r = true := by unfold Lib.validRune; rw [decide_eq_true_iff]; omega
  have HV := Lib.hid hv
  have he := encodeRune_of r h1 h2 w
  have hle : (strOf (Lib.encodeRune r)).size ≤ 4 := by rw [enc_len]; exact (Lib.encodeRuneZ_length r).2
  generalize strOf (Lib.encodeRune r) = s at *
  have HE := Lib.hid he
  clear hv h3 he
  go_enter Tryd.func22, Tryd.ntmps22
  go_wp2_with fail
  refine (validRune_of r w).mono ?_
  rintro e w1 ⟨rfl, rfl⟩
  rw [HV.out]
  go_wp2_with fail
  refine HE.out.mono ?_
  rintro e w2 ⟨rfl, hbs, hb⟩
  have HBS := Lib.hid hbs
  have HB := Lib.hid hb
  clear hbs hb
  have hsl := slice_room w.heap.size s.size hle
  go_wp2_with fail
  go_ret
  exact ⟨_, rfl, HBS.out, HB.out⟩

theorem ex_count : Lib.runeCount ⟨#[195, 164, 176]⟩ = 2 := by decide +kernel
theorem ex_rune0 : runeAt ⟨#[195, 164, 176]⟩ 0 = 228 := by decide +kernel
theorem ex_rune2 : runeAt ⟨#[195, 164, 176]⟩ 2 = -1 := by decide +kernel
theorem ex_size0 : sizeAt ⟨#[195, 164, 176]⟩ 0 = 2 := by decide +kernel
theorem ex_put : strOf (Lib.encodeRune 8364) = ⟨#[226, 130, 172]⟩ := by decide +kernel

end Go.Proofs.YtkendmlbmdhnaaaDoor
