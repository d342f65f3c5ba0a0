/- The bytes of a text; what a byte's type is. -/
import Derived.Test.YtmobjpandmdmdaaGreatDoorRows
import Derived.Test.YtmobjpandmdmdaaGreatDoorFSpec
import Derived.Test.YtmobjpandmdmdaaGreatDoorDLaws
import Derived.RegionTactic
namespace Go.Proofs.YtmobjpandmdmdaaGreatDoor
open Go.RowKit

/-- The byte of a string at a place. -/
def strAt (s : ByteArray) (i : Nat) : UInt8 := s.data.toList.getD i 0
theorem strAt_eq (s : ByteArray) (i : Nat) : strAt s i = s.data.toList.getD i 0 := rfl
attribute [irreducible] strAt
theorem run_index_byte {P : Program} (w : World) (t : TypeId) (s : ByteArray) (k : IntKind) (i : Nat) (h : P.underlying t = some .string) (hi : i < s.size) :
    (Instr.index t (.string s) (.int k (i : Int))).run P w = .ok (.int .u8 ((strAt s i).toNat : Int)) w := by
  rw [strAt_eq, run_index_string w t s k i h, dif_pos (by omega)]
  have hl : i < s.data.toList.length := by rw [size_toList]; exact hi
  simp only [List.getD, List.getElem?_eq_getElem hl]
  rfl
theorem infoByte : (Tryz.prog.info? 5).map (fun i => (i.zero, i.size, i.bytes)) = some (some (.int .u8 0), 1, 1) := by kernel_rfl
theorem made_same (u : Value) (m n : Nat) (hm : 0 < m) : madeCells (Array.replicate m u) n = (List.replicate n u).toArray := by
  apply Array.toList_inj.1
  apply List.ext_getElem?
  intro j
  by_cases hj : j < n
  · have : j % m < m := Nat.mod_lt _ hm
    simp [madeCells, hj, this]
  · simp [madeCells, hj]
def zb (n : Nat) : List Value := (Fr.zero n).map u8v
theorem zb_eq (n : Nat) : zb n = List.replicate n (.int .u8 0) := by unfold zb Fr.zero; rw [List.map_replicate]; rfl
theorem length_zb (n : Nat) : (zb n).length = n := by rw [zb_eq, List.length_replicate]
theorem make_bytes (n : Nat) (hn : n ≤ 70368744177664) (w : World) : (Instr.makeSlice 57 (.int .i64 (n : Int)) (.int .i64 (n : Int))).run Tryz.prog w = .ok (.slice (some ⟨w.heap.size, 0, none⟩) n n) (w.alloc (.cells (zb n).toArray 5)) := by
  obtain ⟨i0, hi, hz0, hz1, hz2⟩ := info_parts infoByte
  have h := run_make (P := Tryz.prog) w 57 5 i0 _ Tryz.underlying57 hi hz0 .i64 .i64 (n : Int) (n : Int) (by omega) (by omega) (by rw [hz2]; omega) (by omega)
  rw [hz1] at h
  have e : madeCells (Value.int .u8 0).cells ((n : Int).toNat * 1) = (zb n).toArray := by
    have := made_same (Value.int .u8 0) 1 ((n : Int).toNat * 1) (by omega)
    rw [show (Value.int .u8 0).cells = Array.replicate 1 (Value.int .u8 0) from rfl, this, zb_eq]; simp
  rw [e] at h
  simpa using h
attribute [irreducible] zb
end Go.Proofs.YtmobjpandmdmdaaGreatDoor
