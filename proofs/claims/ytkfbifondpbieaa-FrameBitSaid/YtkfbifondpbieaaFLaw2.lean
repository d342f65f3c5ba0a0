/- The walk of FrameJoins. -/
import Derived.Test.YtkfbifondpbieaaFLaw1
import Derived.Test.YtkfbifondpbieaaFLin
namespace Go.Proofs.Ytkfbifondpbieaa
open Go.RowKit

set_option maxRecDepth 100000 in
set_option maxHeartbeats 1000000 in
theorem Joins_walk (a b : ByteArray) (w : World) : Calls Try.prog 5 #[.string a, .string b] w fun e w' => e = .returned (.bool true) ∧ Below w.heap.size w w' := by
  have hc1 : ∀ v : World, Calls Try.prog 10 #[.string a, .int .i64 5000] v fun e w' => e = .returned (.string (bs (a.data.toList.take 5000))) ∧ v = w' := cut_any a 5000 (by omega)
  have hc2 : ∀ v : World, Calls Try.prog 10 #[.string b, .int .i64 5000] v fun e w' => e = .returned (.string (bs (b.data.toList.take 5000))) ∧ v = w' := cut_any b 5000 (by omega)
  have hz1 := cut_size a 5000
  have hz2 := cut_size b 5000
  obtain ⟨q1, hq1⟩ : ∃ q, q = bs (a.data.toList.take 5000) := ⟨_, rfl⟩
  obtain ⟨q2, hq2⟩ : ∃ q, q = bs (b.data.toList.take 5000) := ⟨_, rfl⟩
  rw [← hq1] at hc1 hz1
  rw [← hq2] at hc2 hz2
  obtain ⟨T, hT⟩ : ∃ T, T = Fr.sum (q1 ++ q2).data.toList := ⟨_, rfl⟩
  have hTa : T = Fr.sum (q1.data.toList ++ q2.data.toList) := by rw [hT]; simp
  obtain ⟨S1, hS1⟩ : ∃ S, S = Fr.sum q1.data.toList := ⟨_, rfl⟩
  obtain ⟨S2, hS2⟩ : ∃ S, S = Fr.sum q2.data.toList := ⟨_, rfl⟩
  have hM : Fr.more S1 q2.data.toList = T := by rw [hS1, Fr.sum_append, hTa]
  have hJ : Fr.join S1 S2 q2.size = T := by rw [hS1, hS2, ← size_toList, Fr.join_sum, hTa]
  have hz12 : (q1 ++ q2).size = q1.size + q2.size := ByteArray.size_append
  have C1 := Lib.hid hc1
  have C2 := Lib.hid hc2
  have D1 := Lib.hid (fun v : World => Sum_any q1 (by omega) v)
  have D2 := Lib.hid (fun v : World => Sum_any q2 (by omega) v)
  have D3 := Lib.hid (fun v : World => Sum_any (q1 ++ q2) (by rw [ByteArray.size_append]; omega) v)
  have D4 := Lib.hid (fun v : World => More_any S1 q2 (by omega) v)
  have D5 := Lib.hid (fun v : World => Join_in S1 S2 q2.size (by omega) v)
  rw [← hS1] at D1
  rw [← hS2] at D2
  rw [← hT] at D3
  rw [hM] at D4
  rw [hJ] at D5
  clear hc1 hc2 hq1 hq2 hT hTa hS1 hS2 hM hJ
  go_enter Try.func5, Try.ntmps5
  go_wp2_with fail
  refine (known_any _).mono ?_
  rintro e w1 ⟨rfl, hb⟩
  have HB := Lib.hid hb
  clear hb
  go_wp2_with (first | (go_at_call 10; (first | with_reducible refine (C1.out _).mono ?_ | with_reducible refine (C2.out _).mono ?_); rintro e w' ⟨rfl, rfl⟩) | (go_at_call 11; (first | with_reducible refine (D3.out _).mono ?_ | with_reducible refine (D1.out _).mono ?_ | with_reducible refine (D2.out _).mono ?_); rintro e w' ⟨rfl, rfl⟩) | (go_at_call 13; refine (D4.out _).mono ?_; rintro e w' ⟨rfl, rfl⟩) | (go_at_call 15; refine (D5.out _).mono ?_; rintro e w' ⟨rfl, rfl⟩))
  go_ret
  exact ⟨rfl, HB.out⟩
end Go.Proofs.Ytkfbifondpbieaa
