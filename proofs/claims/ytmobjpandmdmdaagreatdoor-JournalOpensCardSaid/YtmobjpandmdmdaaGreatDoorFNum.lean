/- The walks of layer 3's numbers as bytes. -/
import Derived.Test.YtmobjpandmdmdaaGreatDoorFSum
namespace Go.Proofs.YtmobjpandmdmdaaGreatDoor
open Go.RowKit
attribute [local go_sem high] run_index_byte

/-- The bytes that are laid, of a number. -/
def laidBe (k n j : Nat) : List UInt8 := (Fr.be k n).take j ++ Fr.zero (k - j)
theorem laidBe_0 (k n : Nat) : laidBe k n 0 = Fr.zero k := by rw [laidBe, List.take_zero, List.nil_append, Nat.sub_zero]
theorem laidBe_end (k n : Nat) : laidBe k n k = Fr.be k n := by
  rw [laidBe, Nat.sub_self, show Fr.zero 0 = [] from by unfold Fr.zero; rfl, List.append_nil, List.take_of_length_le (by rw [Fr.length_be]; omega)]
theorem length_laidBe {k n j : Nat} (h : j ≤ k) : (laidBe k n j).length = k := by rw [laidBe, List.length_append, List.length_take, Fr.length_be, Fr.length_zero]; omega
theorem laidBe_succ {k n j : Nat} (h : j < k) : (laidBe k n j).set j (Fr.byteAt n (k - 1 - j)) = laidBe k n (j + 1) := by
  have hl : ((Fr.be k n).take j).length = j := by rw [List.length_take, Fr.length_be]; omega
  rw [laidBe, laidBe, Fr.take_be _ _ _ h, List.set_append_right _ _ (by omega), hl, Nat.sub_self]
  have e : Fr.zero (k - j) = 0 :: Fr.zero (k - (j + 1)) := by
    unfold Fr.zero
    rw [show k - j = (k - (j + 1)) + 1 by omega, List.replicate_succ]
  rw [e, List.set_cons_zero, List.append_assoc, List.singleton_append]
theorem byteAt_mod (n k : Nat) : (n : Int) / 2 ^ (8 * k) % 256 = ((Fr.byteAt n k).toNat : Int) := by
  rw [Fr.byteAt_eq, UInt8.toNat_ofNat']
  simp
theorem or_shift (n : Nat) (c : UInt8) (h : n < 72057594037927936) : bits .or .u64 (IntKind.u64.wrap ((n : Int) * 256)) (IntKind.u64.wrap (c.toNat : Int)) = ((n * 256 + c.toNat : Nat) : Int) := by
  have hc := c.toNat_lt
  have e1 : IntKind.u64.wrap ((n : Int) * 256) = ((n * 256 : Nat) : Int) := by rw [IntKind.wrap_u64]; omega
  have e2 : IntKind.u64.wrap (c.toNat : Int) = (c.toNat : Int) := by rw [IntKind.wrap_u64]; omega
  rw [e1, e2, u64_or_nat _ _ (by omega) (by omega)]
  have := Nat.shiftLeft_add_eq_or_of_lt (i := 8) (b := c.toNat) (by omega) n
  rw [Nat.shiftLeft_eq] at this
  rw [← this]
theorem num_lt4 (l : List UInt8) (j : Nat) (h : j ≤ 4) : Fr.num (l.take j) < 4294967296 := by
  have := Fr.num_lt (l.take j)
  have h2 : (l.take j).length ≤ 4 := by rw [List.length_take]; omega
  have h3 : 256 ^ (l.take j).length ≤ 256 ^ 4 := Nat.pow_le_pow_right (by decide) h2
  have h4 : (256 : Nat) ^ 4 = 4294967296 := by decide
  omega
set_option maxHeartbeats 1000000 in
theorem bytesOf_any (n k : Nat) (hk : k ≤ 8) (w : World) :
    Calls Tryz.prog 97 #[.int .u64 n, .int .i64 k] w fun e w' => e = .returned (.string ⟨(Fr.be k n).toArray⟩) ∧ Below w.heap.size w w' := by
  have mk := make_bytes k (by omega)
  have HK := Lib.hid hk
  go_enter Tryz.func97, Tryz.ntmps97
  go_wp2_with fail
  go_loopw [11] (fun i wr => ∃ j : Nat, j ≤ k ∧ i = .int .i64 j ∧ wr.heap[w.heap.size]? = some (.cells ((laidBe k n j).map u8v).toArray 5 (0, 0)) ∧ Below w.heap.size w wr) (fun i _ => k - (intOf i).toNat)
  case atStart => exact ⟨0, by omega, rfl, by rw [laidBe_0]; unfold zb; exact heap_alloc_new _ _, (Below.refl _ _).alloc (Nat.le_refl _) _⟩
  case round =>
    obtain ⟨j, hj, rfl, hh, hB⟩ := hrel
    by_cases hlt : j < k
    · have c0 : ∃ x, wr.cell? ⟨w.heap.size, j, none⟩ = some x := ⟨_, by rw [cell_of_list hh, List.getElem?_eq_getElem (by rw [List.length_map, length_laidBe hj]; exact hlt)]⟩
      obtain ⟨x, c0⟩ := c0
      have f0 := free_of_list hh j
      have HH := Lib.hid hh
      have HB := Lib.hid hB
      clear hh hB
      go_wp2_with fail
      go_roundw
      case rel =>
        refine ⟨j + 1, by omega, by go_num, ?_, HB.out.setCell (Nat.le_refl _) _⟩
        rw [byteAt_mod, set_list HH.out, ← laidBe_succ hlt, List.map_set]; rfl
      case measure => simp [intOf]; omega
    · obtain rfl : j = k := by omega
      rw [laidBe_end] at hh
      have HR := Lib.hid (range_of_list hh)
      have HB := Lib.hid hB
      have HL := Lib.hid (Fr.length_be j n)
      clear hh hB
      go_wp2_with (refine wpList_bytes_string rfl 57 9 _ rfl 5 w.heap.size 0 j j rfl (Fr.be j n) HL.out Tryz.underlying57 Tryz.underlying5 Tryz.underlying9 HR.out ?_; go_frame)
      go_ret
      exact ⟨rfl, HB.out⟩
set_option maxHeartbeats 1000000 in
theorem numberOf_any (s : ByteArray) (hs : s.size ≤ 4) (w : World) :
    Calls Tryz.prog 87 #[.string s] w fun e w' => e = .returned (.int .u64 (Fr.num s.data.toList)) ∧ w = w' := by
  go_enter Tryz.func87, Tryz.ntmps87
  go_wp2_with fail
  go_loopw [3, 7] (fun r i wr => ∃ j : Nat, j ≤ s.size ∧ i = .int .i64 j ∧ r = .int .u64 (Fr.num (s.data.toList.take j)) ∧ wr = w) (fun _ i _ => s.size - (intOf i).toNat)
  case atStart => exact ⟨0, by omega, rfl, by rw [List.take_zero, Fr.num_nil]; rfl, rfl⟩
  case round =>
    obtain ⟨j, hj, rfl, rfl, rfl⟩ := hrel
    by_cases hlt : j < s.size
    · obtain ⟨N, hN⟩ : ∃ N, N = Fr.num (s.data.toList.take j) := ⟨_, rfl⟩
      rw [← hN]
      go_wp2_with fail
      go_roundw
      case rel => exact ⟨j + 1, by omega, by go_num, (by rw [or_shift _ _ (by have := num_lt4 s.data.toList j (by omega); omega), List.take_succ_eq_append_getElem (by rw [size_toList]; omega), Fr.num_snoc, strAt_eq, List.getD, List.getElem?_eq_getElem (by rw [size_toList]; omega)]; rfl), trivial⟩
      case measure => simp [intOf]; omega
    · obtain rfl : j = s.size := by omega
      go_wp2_with fail
      go_ret
      exact ⟨by rw [List.take_of_length_le (by rw [size_toList]; omega)]; rfl, rfl⟩
end Go.Proofs.YtmobjpandmdmdaaGreatDoor
