/- The walks of texts that are scaled: the program's and the document's. -/
import Derived.Test.YteanbflbclmeeaaGreatGMul
import Derived.Test.YteanbflbclmeeaaGreatRLast
import Derived.Test.YteanbflbclmeeaaGreatRRow
import Derived.RegionTactic
namespace Go.Proofs.YteanbflbclmeeaaGreat
open Go.RowKit

/-- The byte of a string at a place. -/
def strAt (s : ByteArray) (i : Nat) : UInt8 := s.data.toList.getD i 0
theorem strAt_eq (s : ByteArray) (i : Nat) : strAt s i = s.data.toList.getD i 0 := rfl
attribute [irreducible] strAt
theorem run_index_byte {P : Program} (w : World) (t : TypeId) (s : ByteArray) (k : IntKind) (i : Nat) (h : P.underlying t = some .string) (hi : i < s.size) :
    (Instr.index t (.string s) (.int k (i : Int))).run P w = .ok (.int .u8 ((strAt s i).toNat : Int)) w := by
  rw [strAt_eq, run_index_string w t s k i h, dif_pos (by omega)]
  have hl : i < s.data.toList.length := by rw [size_toList]; exact hi
  simp only [List.getD, List.getElem?_eq_getElem hl]
  rfl
theorem infoByte : (Tryz.prog.info? 5).map (fun i => (i.zero, i.size, i.bytes)) = some (some (.int .u8 0), 1, 1) := by kernel_rfl
theorem ginfo_parts {x : Option TypeInfo} {a : Option Value} {b c : Nat} (h : x.map (fun i => (i.zero, i.size, i.bytes)) = some (a, b, c)) : ∃ i, x = some i ∧ i.zero = a ∧ i.size = b ∧ i.bytes = c := by
  cases x with
  | none => simp at h
  | some i => simp only [Option.map_some, Option.some.injEq, Prod.mk.injEq] at h; exact ⟨i, rfl, h.1, h.2.1, h.2.2⟩
theorem RowS.set {w : World} {B g n cap : Nat} {xs : List Value} (h : RowS w B g n cap xs) (i : Nat) (hi : i < n) (v : Value) : RowS (w.setCell ⟨g, i, none⟩ v) B g n cap (xs.set i v) := by
  refine ⟨by rw [List.length_set]; exact h.len, h.low, by rw [World.size_setCell]; exact h.lt, h.le, h.max, fun j u hu => ?_, fun j hj => ?_, fun j hj => by rw [World.frozen?_setCell]; exact h.free j hj⟩
  · by_cases hj : i = j
    · subst hj
      rw [List.getElem?_set_self (by rw [h.len]; exact hi)] at hu
      rw [World.cell?_setCell_same' _ _ _ (h.room i (by have := h.le; omega)), hu]
    · rw [List.getElem?_set_ne hj] at hu
      rw [World.cell?_setCell_other _ _ _ _ (fun e => hj (by injection e))]
      exact h.told j u hu
  · by_cases hij : i = j
    · subst hij
      rw [World.cell?_setCell_same' _ _ _ (h.room i hj)]; rfl
    · rw [World.cell?_setCell_other _ _ _ _ (fun e => hij (by injection e))]
      exact h.room j hj
/-- A text whose first i bytes are f's. -/
@[irreducible] def mixTo (f : Nat → UInt8) (s : ByteArray) (i : Nat) : List Value := (List.range s.size).map fun k => u8v (if k < i then f k else strAt s k)
theorem mixTo_get (f : Nat → UInt8) (s : ByteArray) (i k : Nat) (hk : k < s.size) : (mixTo f s i)[k]? = some (u8v (if k < i then f k else strAt s k)) := by
  unfold mixTo
  rw [List.getElem?_map, List.getElem?_range hk]; rfl
theorem length_mixTo (f : Nat → UInt8) (s : ByteArray) (i : Nat) : (mixTo f s i).length = s.size := by unfold mixTo; simp
theorem mixTo_zero (f : Nat → UInt8) (s : ByteArray) : mixTo f s 0 = s.data.toList.map u8v := by
  apply List.ext_getElem?
  intro k
  by_cases hk : k < s.size
  · rw [mixTo_get f s 0 k hk, if_neg (by omega), List.getElem?_map, strAt_eq, List.getD]
    have : k < s.data.toList.length := by rw [size_toList]; exact hk
    rw [List.getElem?_eq_getElem this]; rfl
  · rw [List.getElem?_eq_none (by rw [length_mixTo]; omega), List.getElem?_eq_none (by rw [List.length_map, size_toList]; omega)]
theorem mixTo_step (f : Nat → UInt8) (s : ByteArray) (i : Nat) (x : UInt8) (hx : f i = x) : (mixTo f s i).set i (u8v x) = mixTo f s (i + 1) := by
  apply List.ext_getElem?
  intro k
  by_cases hk : k < s.size
  · rw [mixTo_get f s (i + 1) k hk]
    by_cases hki : k = i
    · subst hki
      rw [List.getElem?_set_self (by rw [length_mixTo]; exact hk), if_pos (by omega), hx]
    · rw [List.getElem?_set_ne (by omega), mixTo_get f s i k hk]
      by_cases h : k < i
      · rw [if_pos h, if_pos (by omega)]
      · rw [if_neg h, if_neg (by omega)]
  · rw [List.getElem?_eq_none (by rw [List.length_set, length_mixTo]; omega), List.getElem?_eq_none (by rw [length_mixTo]; omega)]
/-- The text of n bytes. -/
@[irreducible] def textOf (f : Nat → UInt8) (n : Nat) : List UInt8 := (List.range n).map f
theorem length_textOf (f : Nat → UInt8) (n : Nat) : (textOf f n).length = n := by unfold textOf; simp
theorem rowTo_text (f : Nat → UInt8) (n : Nat) : rowTo f n n = (textOf f n).map u8v := by
  unfold rowTo textOf
  rw [List.map_map]
  apply List.map_congr_left
  intro k hk
  rw [if_pos (List.mem_range.1 hk)]; rfl
theorem mixTo_text (f : Nat → UInt8) (s : ByteArray) : mixTo f s s.size = (textOf f s.size).map u8v := by
  unfold mixTo textOf
  rw [List.map_map]
  apply List.map_congr_left
  intro k hk
  rw [if_pos (List.mem_range.1 hk)]; rfl
/-- What a text becomes to which another one is added, so many times. -/
@[irreducible] def scF (to of : ByteArray) (t : UInt8) (k : Nat) : UInt8 := xr (strAt to k) (tm t (strAt of k))
theorem scF_eq (to of : ByteArray) (t : UInt8) (k : Nat) : scF to of t k = xr (strAt to k) (tm t (strAt of k)) := by unfold scF; rfl
@[irreducible] def scaled (to of : ByteArray) (t : UInt8) : ByteArray := ⟨(textOf (scF to of t) to.size).toArray⟩
theorem range_S {w : World} {B g n cap : Nat} {xs : List Value} (h : RowS w B g n cap xs) : w.rangeAt g 0 xs := fun j v hv => by rw [Nat.zero_add]; exact h.told j v hv
attribute [local go_sem high] run_index_byte
theorem Add_q (a b : UInt8) (w : World) : Calls Tryz.prog 75 #[.int .u8 a.toNat, .int .u8 b.toNat] w fun e w' => e = .returned (.int .u8 (xr a b).toNat) ∧ ∃ m, w' = w.drewN m :=
  (Add_any a b w).mono fun _ _ ⟨he, hw⟩ => ⟨he, 0, hw.symm⟩
theorem rMul_q (a b : UInt8) (w : World) : Calls Tryz.prog 71 #[.int .u8 a.toNat, .int .u8 b.toNat] w fun e w' => e = .returned (.int .u8 (tm a b).toNat) ∧ ∃ m, w' = w.drewN m :=
  (rMul_any a b w).mono fun _ _ ⟨he, hw⟩ => ⟨he, 0, hw.symm⟩
set_option maxRecDepth 20000 in
set_option maxHeartbeats 1000000 in
theorem Scale_no (to of : ByteArray) (t : UInt8) (h : to.size ≠ of.size) (w : World) :
    Calls Tryz.prog 80 #[.string to, .string of, .int .u8 t.toNat] w fun e w' => e = .returned (.tuple #[.string .empty, .bool false]) ∧ Below w.heap.size w w' := by
  go_enter Tryz.func80, Tryz.ntmps80
  go_wp2_with fail
  go_ret2
  exact ⟨rfl, Below.refl _ _⟩
set_option maxRecDepth 20000 in
set_option maxHeartbeats 1000000 in
theorem rScale_no (to of : ByteArray) (t : UInt8) (h : to.size ≠ of.size) (w : World) :
    Calls Tryz.prog 47 #[.string to, .string of, .int .u8 t.toNat] w fun e w' => e = .returned (.tuple #[.string .empty, .bool false]) ∧ Below w.heap.size w w' := by
  go_enter Tryz.func47, Tryz.ntmps47
  go_wp2_with fail
  go_ret2
  exact ⟨rfl, Below.refl _ _⟩
end Go.Proofs.YteanbflbclmeeaaGreat
