/- The walks of the field's tables: the powers of 2, the products with a number; logs. -/
import Derived.Test.YteanbflbclmeeaaGreatGRef3
import Derived.Test.YteanbflbclmeeaaGreatDLaws
namespace Go.Proofs.YteanbflbclmeeaaGreat
open Go.RowKit

theorem tm_two (a : UInt8) : tm a 2 = dbl a := by
  rw [tm_eq]
  exact eq_of_beq (all_u8 (fun a => tmF 8 0 a 2 == dbl a) (by decide +kernel) a)
theorem dbl_E (n : Nat) : dbl (E n) = E (n + 1) := by rw [← tm_two, E_succ]
/-- The first i of n numbers of a row; 0 behind them. -/
@[irreducible] def rowTo (f : Nat → UInt8) (n i : Nat) : List Value := (List.range n).map fun k => if k < i then u8v (f k) else .int .u8 0
theorem length_rowTo (f : Nat → UInt8) (n i : Nat) : (rowTo f n i).length = n := by unfold rowTo; simp
theorem rowTo_get (f : Nat → UInt8) (n i k : Nat) (hk : k < n) : (rowTo f n i)[k]? = some (if k < i then u8v (f k) else .int .u8 0) := by
  unfold rowTo
  rw [List.getElem?_map, List.getElem?_range hk]; rfl
theorem rowTo_got (f : Nat → UInt8) (n i k : Nat) (hi : i ≤ n) (hk : k < i) : (rowTo f n i)[k]? = some (u8v (f k)) := by
  rw [rowTo_get f n i k (by omega), if_pos hk]
theorem rowTo_zero (f : Nat → UInt8) (n : Nat) : rowTo f n 0 = List.replicate n (.int .u8 0) := by
  unfold rowTo
  apply List.ext_getElem?
  intro k
  by_cases hk : k < n
  · simp [hk]
  · simp [hk]
theorem rowTo_step (f : Nat → UInt8) (n i : Nat) (x : UInt8) (hx : f i = x) : (rowTo f n i).set i (u8v x) = rowTo f n (i + 1) := by
  apply List.ext_getElem?
  intro k
  by_cases hk : k < n
  · rw [rowTo_get f n (i + 1) k hk]
    by_cases hki : k = i
    · subst hki
      rw [List.getElem?_set_self (by rw [length_rowTo]; exact hk), if_pos (by omega), hx]
    · rw [List.getElem?_set_ne (by omega), rowTo_get f n i k hk]
      by_cases h : k < i
      · rw [if_pos h, if_pos (by omega)]
      · rw [if_neg h, if_neg (by omega)]
  · rw [List.getElem?_eq_none (by rw [List.length_set, length_rowTo]; omega), List.getElem?_eq_none (by rw [length_rowTo]; omega)]
theorem rowTo_ones (f : Nat → UInt8) (n i : Nat) : ∀ v ∈ rowTo f n i, v.oneCell' = true := by
  intro v hv
  unfold rowTo at hv
  obtain ⟨k, _, rfl⟩ := List.mem_map.1 hv
  split <;> rfl
theorem alloc256 (w : World) : (Instr.alloc 139 true (.tuple #[])).run Tryz.prog w = .ok (.pointer (some ⟨w.heap.size, 0, none⟩)) (w.alloc (.cells (List.replicate 256 (Value.int .u8 0)).toArray 139)) := by kernel_rfl
@[irreducible] def powRow : List Value := rowTo E 255 255
theorem row_step {f : Nat → UInt8} {n i : Nat} {x : UInt8} {w w0 : World} {b B : Nat} {T : TypeId} (hx : f i = x) (hT : w.heap[b]? = some (.cells (rowTo f n i).toArray T (0, 0))) (hB : Below B w0 w) (hb : B ≤ b) :
    (w.setCell ⟨b, i, none⟩ (.int .u8 x.toNat)).heap[b]? = some (.cells (rowTo f n (i + 1)).toArray T (0, 0)) ∧ Below B w0 (w.setCell ⟨b, i, none⟩ (.int .u8 x.toNat)) :=
  ⟨by rw [set_list hT, show Value.int .u8 x.toNat = u8v x from rfl, rowTo_step f n i x hx], hB.setCell (p := ⟨b, i, none⟩) hb _⟩
theorem length_powRow : powRow.length = 255 := by unfold powRow; exact length_rowTo _ _ _
theorem powRow_get (i : Nat) (h : i < 255) : powRow[i]? = some (u8v (E i)) := by unfold powRow; exact rowTo_got E 255 255 i (by omega) h
end Go.Proofs.YteanbflbclmeeaaGreat
