/- The walks of lists that are taken apart. -/
import Derived.Test.YtdimkgidaioolaaFPack
namespace Go.Proofs.Ytdimkgidaioolaa
open Go.RowKit

theorem cnt_parts (s : ByteArray) (a : Nat) : ∃ q : ByteArray, q = s.extract a s.size ∧ q.data.toList = s.data.toList.drop a ∧ q.size = s.size - a := by
  refine ⟨_, rfl, extract_from s a, ?_⟩
  rw [← size_toList, extract_from, List.length_drop, size_toList]
theorem run_from {s q : ByteArray} {a : Nat} (ha : a ≤ s.size) (hq : q = s.extract a s.size) (w : World) : (Instr.slice 9 (.string s) (some (.int .i64 (a : Int))) none none).run Try.prog w = .ok (.string q) w := by
  rw [run_slice_string_from_if w 9 s .i64 (a : Int) Try.underlying9, if_pos (by omega), hq]; simp
theorem run_to4 {q q4 : ByteArray} (h4 : 4 ≤ q.size) (hq : q4 = q.extract 0 4) (w : World) : (Instr.slice 9 (.string q) none (some (.int .i64 4)) none).run Try.prog w = .ok (.string q4) w := by
  rw [run_slice_string_to_if w 9 q .i64 4 Try.underlying9, if_pos (by omega), hq]; rfl
end Go.Proofs.Ytdimkgidaioolaa
