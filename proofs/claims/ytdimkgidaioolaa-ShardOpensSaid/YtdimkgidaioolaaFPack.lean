/- The walks of records: the head, the sum, the record. -/
import Derived.Test.YtdimkgidaioolaaFLaws
namespace Go.Proofs.Ytdimkgidaioolaa
open Go.RowKit

theorem bytesOf_bs (n k : Nat) (hk : k ≤ 8) (w : World) : Calls Try.prog 45 #[.int .u64 n, .int .i64 k] w fun e w' => e = .returned (.string (bs (Fr.be k n))) ∧ Below w.heap.size w w' := by
  rw [← bs_eq]; exact bytesOf_any n k hk w
theorem bytesOf4 (n : Nat) (w : World) : Calls Try.prog 45 #[.int .u64 n, .int .i64 4] w fun e w' => e = .returned (.string (bs (Fr.be 4 n))) ∧ Below w.heap.size w w' := bytesOf_bs n 4 (by omega) w
theorem bytesOf8 (n : Nat) (w : World) : Calls Try.prog 45 #[.int .u64 n, .int .i64 8] w fun e w' => e = .returned (.string (bs (Fr.be 8 n))) ∧ Below w.heap.size w w' := bytesOf_bs n 8 (by omega) w
theorem Num_ok (n : Nat) (hn : n ≤ 4294967295) (w : World) : Calls Try.prog 38 #[.int .i64 n] w fun e w' => e = .returned (.tuple #[.string (bs (Fr.be 4 n)), .nilIface]) ∧ Below w.heap.size w w' := by
  go_enter Try.func38, Try.ntmps38
  go_wp2_with (go_at_call 45; refine (bytesOf_bs n 4 (by omega) _).mono ?_; rintro e w' ⟨rfl, hb⟩; have HB := Lib.hid hb; clear hb)
  go_ret2
  exact ⟨rfl, HB.out⟩
theorem Num_low (n : Int) (hn : n < 0) (w : World) : Calls Try.prog 38 #[.int .i64 n] w (Refused 1 0 (fun v => .tuple #[.string ⟨#[]⟩, v]) w) := by
  go_enter Try.func38, Try.ntmps38
  go_wp2_with (go_at_call 44; refine (fault_is 1 0 _).mono ?_; rintro e w' ⟨g, hg, rfl, hf, hb⟩; have HF := Lib.hid hf; have HB := Lib.hid hb; clear hf hb)
  go_ret2
  exact ⟨g, hg, rfl, HF.out, HB.out⟩
attribute [local go_sem] bs_size Fr.length_be Fr.length_headOf Fr.length_sumOf
def BadHead (e n s : Int) : Prop := e < 0 ∨ 4611686018427387904 < e ∨ n < 0 ∨ 4294967295 < n ∨ 60000 < s
def headL (e n : Nat) (p : List UInt8) : List UInt8 := Fr.headOf e n p.length
theorem below_kept {w a b : World} {g : Nat} (h : Below w.heap.size w a) (hk : Kept a.heap.size [g] a b) (hg : w.heap.size ≤ g) : Below w.heap.size w b :=
  ⟨hk.os.trans h.os, hk.tape.trans h.tape, hk.output.trans h.output, Nat.le_trans h.size hk.size, fun i hi => by
    rw [hk.block i (by have := h.size; omega) (by simp; omega), h.block i hi]⟩
theorem split_0 {w : World} {g N : Nat} (h : 1 ≤ N) (hg : w.heap[g]? = some (.cells ((Fr.zero N).map u8v).toArray 5 (0, 0))) : w.heap[g]? = some (.cells (Value.int .u8 0 :: (Fr.zero (N - 1)).map u8v).toArray 5 (0, 0)) := by
  rw [hg, zero_split (show N = 1 + (N - 1) by omega)]
  rw [show Fr.zero 1 = [0] from by unfold Fr.zero; rfl]
  rfl
def u4 : List UInt8 := [1, 0, 0, 0]
def put3 (a b : List UInt8) (n : Nat) : List Value := a.map u8v ++ (b.map u8v ++ (Fr.zero n).map u8v)
theorem put3_eq (a b : List UInt8) (n : Nat) : put3 a b n = a.map u8v ++ (b.map u8v ++ (Fr.zero n).map u8v) := rfl
theorem stored_0 {w : World} {g N : Nat} (h : 20 ≤ N) (hg : w.heap[g]? = some (.cells (Value.int .u8 0 :: (Fr.zero (N - 1)).map u8v).toArray 5 (0, 0))) :
    (w.setCell ⟨g, 0, none⟩ (.int .u8 1)).heap[g]? = some (.cells (u4.map u8v ++ ((Fr.zero 16).map u8v ++ (Fr.zero (N - 20)).map u8v)).toArray 5 (0, 0)) := by
  rw [set_list hg, zero_split (show N - 1 = 3 + (16 + (N - 20)) by omega), zero_add 16]
  rw [show Fr.zero 3 = [0, 0, 0] from by unfold Fr.zero; rfl]
  simp [u4]; rfl
theorem next_zero {w : World} {g n a b : Nat} {x y : List UInt8} {T : TypeId} (h : n = a + b) (hg : w.heap[g]? = some (.cells (x.map u8v ++ (y.map u8v ++ (Fr.zero n).map u8v)).toArray T (0, 0))) :
    w.heap[g]? = some (.cells ((x ++ y).map u8v ++ ((Fr.zero a).map u8v ++ (Fr.zero b).map u8v)).toArray T (0, 0)) := by
  rw [hg, zero_split h]; simp
theorem last_row {w : World} {g : Nat} {x y z : List UInt8} {T : TypeId} {fr : Nat × Nat} (h : w.heap[g]? = some (.cells (x.map u8v ++ (y.map u8v ++ z.map u8v)).toArray T fr)) : w.rangeAt g 0 ((x ++ y ++ z).map u8v) := by
  refine range_of_list (t := T) (fr := fr) ?_
  rw [h]; simp
theorem map_zero_length (n : Nat) {m : Nat} (h : n = m) : ((Fr.zero n).map u8v).length = m := by rw [List.length_map, Fr.length_zero, h]
end Go.Proofs.Ytdimkgidaioolaa
