/- The walk of the statement DiskTears. -/
import Derived.Test.YtjkigndhbbeolaaDTurns
import Derived.BigQuiet
import Derived.Deep.QuietTactic
namespace Go.Proofs.Ytjkigndhbbeolaa
open Go.RowKit

/-- The first j writes, all to the sector 5. -/
def tearPs (ss : List ByteArray) (j : Nat) : List Dk.Wr := (ss.take j).map fun s => (5, Dk.sector s.data.toList)
theorem tearPs_zero (ss : List ByteArray) : tearPs ss 0 = [] := rfl
theorem tearPs_succ {ss : List ByteArray} {j : Nat} (h : j < ss.length) : tearPs ss (j + 1) = tearPs ss j ++ [(5, Dk.sector (ss.getD j ByteArray.empty).data.toList)] := by
  rw [tearPs, List.take_succ_eq_append_getElem h, List.map_append, List.getD, List.getElem?_eq_getElem h]; rfl
theorem length_tearPs {ss : List ByteArray} {j : Nat} (h : j ≤ ss.length) : (tearPs ss j).length = j := by rw [tearPs, List.length_map, List.length_take]; omega
theorem tearPs_at {ss : List ByteArray} {L j : Nat} (hj : j < L) (hL : L ≤ ss.length) : (tearPs ss L).getD j (0, []) = (5, Dk.sector (ss.getD j ByteArray.empty).data.toList) := by
  rw [tearPs, List.getD, List.getElem?_map, List.getElem?_take_of_lt hj, List.getD, List.getElem?_eq_getElem (by omega)]; rfl
/-- What the sector is to have behind the first j. -/
def tearW (ss : List ByteArray) (keep : List Bool) (k L j : Nat) : List UInt8 := (Dk.settleTo (blankS 8) (tearPs ss L) (Dk.keptAt keep k) j).getD 5 []
/-- Were the first j all kept? -/
def firstB (keep : List Bool) : Nat → Bool
  | 0 => true
  | j + 1 => firstB keep j && keep.getD j false
theorem firstB_zero (keep : List Bool) : firstB keep 0 = true := rfl
theorem firstB_kept {keep : List Bool} {j : Nat} (h : keep.getD j false = true) : firstB keep (j + 1) = firstB keep j := by rw [firstB, h, Bool.and_true]
theorem firstB_lost {keep : List Bool} {j : Nat} (h : keep.getD j false = false) : firstB keep (j + 1) = false := by rw [firstB, h, Bool.and_false]
theorem torn_first (keep : List Bool) (k : Nat) : ∀ j, Dk.tornAt keep k j = if firstB keep j then k else 0
  | 0 => by rw [Dk.tornAt_zero, firstB_zero]; rfl
  | j + 1 => by
    cases h : keep.getD j false with
    | true => rw [Dk.tornAt_kept h, torn_first keep k j, firstB_kept h]
    | false => rw [Dk.tornAt_lost h, firstB_lost h]; rfl
theorem blank_len : (blankS 8).length = 8 := rfl
theorem blank_wide : ∀ x ∈ blankS 8, x.length = 64 := fun x hx => by rw [blankS] at hx; rw [List.eq_of_mem_replicate hx, List.length_replicate]
theorem tearPs_ok (ss : List ByteArray) (L : Nat) : ∀ x ∈ tearPs ss L, x.1 < (blankS 8).length ∧ x.2.length = 64 := by
  intro x hx
  rw [tearPs] at hx
  obtain ⟨s, _, rfl⟩ := List.mem_map.1 hx
  exact ⟨by rw [blank_len]; show 5 < 8; omega, Dk.length_sector _⟩
theorem tearW_zero (ss : List ByteArray) (keep : List Bool) (k L : Nat) : tearW ss keep k L 0 = List.replicate 64 0 := by rw [tearW, Dk.settleTo_zero]; rfl
theorem length_tearW {ss : List ByteArray} {keep : List Bool} {k L j : Nat} (hL : L ≤ ss.length) (hj : j ≤ L) : (tearW ss keep k L j).length = 64 := by
  have hl : 5 < (Dk.settleTo (blankS 8) (tearPs ss L) (Dk.keptAt keep k) j).length := by rw [Dk.length_settleTo, blank_len]; decide
  rw [tearW, getD_in hl]
  exact Dk.settleTo_wide _ blank_wide (tearPs_ok ss L) j (by rw [length_tearPs hL]; exact hj) _ (List.getElem_mem _)
theorem tearW_succ {ss : List ByteArray} {keep : List Bool} {k L j : Nat} (hL : L ≤ ss.length) (hj : j < L) :
    tearW ss keep k L (j + 1) = (Dk.sector (ss.getD j ByteArray.empty).data.toList).take (Dk.keptAt keep k j) ++ (tearW ss keep k L j).drop (Dk.keptAt keep k j) := by
  rw [tearW, Dk.settleTo_succ, tearPs_at hj hL, Dk.put_at _ _ _ _ (by rw [Dk.length_settleTo, blank_len]; show 5 < 8; omega), if_pos rfl]; rfl
theorem tearW_kept {ss : List ByteArray} {keep : List Bool} {k L j : Nat} (hL : L ≤ ss.length) (hj : j < L) (h : keep.getD j false = true) : tearW ss keep k L (j + 1) = Dk.sector (ss.getD j ByteArray.empty).data.toList := by
  have h1 := length_tearW (keep := keep) (k := k) hL (Nat.le_of_lt hj)
  have h2 := Dk.length_sector (ss.getD j ByteArray.empty).data.toList
  rw [tearW_succ hL hj, Dk.keptAt_kept h, List.take_of_length_le (by omega), List.drop_eq_nil_of_le (by omega), List.append_nil]
theorem tearW_first {ss : List ByteArray} {keep : List Bool} {k L j : Nat} (hL : L ≤ ss.length) (hj : j < L) (h : keep.getD j false = false) (hf : firstB keep j = true) :
    tearW ss keep k L (j + 1) = (Dk.sector (ss.getD j ByteArray.empty).data.toList).take k ++ (tearW ss keep k L j).drop k := by
  rw [tearW_succ hL hj, Dk.keptAt_lost h, torn_first, hf]; rfl
theorem tearW_later {ss : List ByteArray} {keep : List Bool} {k L j : Nat} (hL : L ≤ ss.length) (hj : j < L) (h : keep.getD j false = false) (hf : firstB keep j = false) : tearW ss keep k L (j + 1) = tearW ss keep k L j := by
  rw [tearW_succ hL hj, Dk.keptAt_lost h, torn_first, hf]; rfl
theorem tear_other (ss : List ByteArray) (keep : List Bool) (k L : Nat) (hL : L ≤ ss.length) : ∀ j, j ≤ L → (Dk.settleTo (blankS 8) (tearPs ss L) (Dk.keptAt keep k) j).getD 4 [] = List.replicate 64 0
  | 0, _ => by rw [Dk.settleTo_zero]; rfl
  | j + 1, hj => by
    rw [Dk.settleTo_succ, tearPs_at hj hL, Dk.put_at _ _ _ _ (by rw [Dk.length_settleTo, blank_len]; show 5 < 8; omega), if_neg (show ¬ (4 : Nat) = 5 by omega)]
    exact tear_other ss keep k L hL j (by omega)
theorem tearW_eq (ss : List ByteArray) (keep : List Bool) (k L j : Nat) : tearW ss keep k L j = (Dk.settleTo (blankS 8) (tearPs ss L) (Dk.keptAt keep k) j).getD 5 [] := rfl
attribute [irreducible] tearPs tearW firstB
end Go.Proofs.Ytjkigndhbbeolaa
