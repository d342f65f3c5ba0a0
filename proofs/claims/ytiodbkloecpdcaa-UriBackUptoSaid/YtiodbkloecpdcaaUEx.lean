/- The chapter's examples. -/
import Derived.Test.YtiodbkloecpdcaaUCanon
import Derived.Test.YtiodbkloecpdcaaUTarget
import Derived.Laws.StructEq
namespace Go.Proofs.Ytiodbkloecpdcaa
open Go.RowKit

theorem eq_pair (a b c d : ByteArray) (w : World) : (binOp .eql 32 (.agg #[.string a, .string b]) (.agg #[.string c, .string d])).run Try.prog w = .ok (.bool (a.toList == c.toList && b.toList == d.toList)) w := by
  have u9 := Try.underlying9
  have a9 := Try.isAgg9
  have z9 := Try.sizeOf9
  have hS : Try.prog.underlying 32 = some (.struct (Try.prog.fieldsOf 32)) := by kernel_rfl
  have hp : Try.prog.stoodInHeld 32 = false := by kernel_rfl
  rw [run_eql_struct, show (10000 : Nat) = 9999 + 1 from rfl, run_equalIn_agg w 9999 32 _ _ hS hp]
  simp only [Program.fieldsOf, Try.underlying32]
  go_simp
  by_cases h1 : a.toList = c.toList <;> by_cases h2 : b.toList = d.toList <;> simp [h1, h2]
theorem ne_pair (a b c d : ByteArray) (w : World) : (binOp .neq 32 (.agg #[.string a, .string b]) (.agg #[.string c, .string d])).run Try.prog w = .ok (.bool (!(a.toList == c.toList && b.toList == d.toList))) w := by
  have u9 := Try.underlying9
  have a9 := Try.isAgg9
  have z9 := Try.sizeOf9
  have hS : Try.prog.underlying 32 = some (.struct (Try.prog.fieldsOf 32)) := by kernel_rfl
  have hp : Try.prog.stoodInHeld 32 = false := by kernel_rfl
  rw [run_neq_struct, show (10000 : Nat) = 9999 + 1 from rfl, run_equalIn_agg w 9999 32 _ _ hS hp]
  simp only [Program.fieldsOf, Try.underlying32]
  go_simp
  by_cases h1 : a.toList = c.toList <;> by_cases h2 : b.toList = d.toList <;> simp [h1, h2]
theorem gd_pair (op : BinOp) (x y : Operand) (a b c d : ByteArray) (w : World) : (eqGuard op 32 x y (.agg #[.string a, .string b]) (.agg #[.string c, .string d])).run Try.prog w = .ok () w := run_eqGuard_agg w op 32 x y _ _ (by kernel_rfl)
theorem ex_t1 : Ur.target [47, 98, 47, 97, 37, 50, 48, 98, 63, 118, 101, 114, 115, 105, 111, 110, 115, 38, 112, 114, 101, 102, 105, 120, 61, 120, 37, 50, 70, 38] = .ok [47, 98, 47, 97, 32, 98] [([118, 101, 114, 115, 105, 111, 110, 115], []), ([112, 114, 101, 102, 105, 120], [120, 47])] := by decide +kernel
theorem ex_t2 : Ur.target [47, 63, 97, 61, 37, 52, 38, 98, 61, 49] = .bad 52 4 := by decide +kernel
theorem ex_s1 : Ur.bucketOf [47, 98, 47, 107, 47, 108] = [98] := by decide +kernel
theorem ex_s2 : Ur.keyOf [47, 98, 47, 107, 47, 108] = [107, 47, 108] := by decide +kernel
theorem ex_e1 : Ur.enc Ur.fre [97, 32, 98, 47] = [97, 37, 50, 48, 98, 37, 50, 70] := by decide +kernel
theorem ex_e2 : Ur.enc Ur.freP [97, 32, 98, 47] = [97, 37, 50, 48, 98, 47] := by decide +kernel
theorem ex_b1 : Ur.bkt [109, 121, 45, 98, 46, 49] = true := by decide +kernel
theorem ex_b2 : Ur.bkt [49, 46, 50, 46, 51, 46, 52] = false := by decide +kernel
theorem ex_srt : srt ([([118, 101, 114, 115, 105, 111, 110, 115], []), ([112, 114, 101, 102, 105, 120], [120, 47])].map ep) = [([112, 114, 101, 102, 105, 120], [120, 37, 50, 70]), ([118, 101, 114, 115, 105, 111, 110, 115], [])] := by
  have e : [([118, 101, 114, 115, 105, 111, 110, 115], []), ([112, 114, 101, 102, 105, 120], [120, 47])].map ep = [(([118, 101, 114, 115, 105, 111, 110, 115] : List UInt8), ([] : List UInt8)), ([112, 114, 101, 102, 105, 120], [120, 37, 50, 70])] := by decide +kernel
  rw [e]
  refine (srt_of_sorted (List.Perm.swap _ _ _) ?_).symm
  decide +kernel
theorem ex_c : canon [([118, 101, 114, 115, 105, 111, 110, 115], []), ([112, 114, 101, 102, 105, 120], [120, 47])] = [112, 114, 101, 102, 105, 120, 61, 120, 37, 50, 70, 38, 118, 101, 114, 115, 105, 111, 110, 115, 61] := by
  unfold canon
  rw [ex_srt]
  decide +kernel
end Go.Proofs.Ytiodbkloecpdcaa
