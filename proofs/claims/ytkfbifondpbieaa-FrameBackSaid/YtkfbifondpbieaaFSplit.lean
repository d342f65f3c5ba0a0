/- The walks of lists that are taken apart. -/
import Derived.Test.YtkfbifondpbieaaFPack
namespace Go.Proofs.Ytkfbifondpbieaa
open Go.RowKit

theorem cnt_parts (s : ByteArray) (a : Nat) : ∃ q : ByteArray, q = s.extract a s.size ∧ q.data.toList = s.data.toList.drop a ∧ q.size = s.size - a := by
  refine ⟨_, rfl, extract_from s a, ?_⟩
  rw [← size_toList, extract_from, List.length_drop, size_toList]
theorem run_from {s q : ByteArray} {a : Nat} (ha : a ≤ s.size) (hq : q = s.extract a s.size) (w : World) : (Instr.slice 9 (.string s) (some (.int .i64 (a : Int))) none none).run Try.prog w = .ok (.string q) w := by
  rw [run_slice_string_from_if w 9 s .i64 (a : Int) Try.underlying9, if_pos (by omega), hq]; simp
theorem run_to4 {q q4 : ByteArray} (h4 : 4 ≤ q.size) (hq : q4 = q.extract 0 4) (w : World) : (Instr.slice 9 (.string q) none (some (.int .i64 4)) none).run Try.prog w = .ok (.string q4) w := by
  rw [run_slice_string_to_if w 9 q .i64 4 Try.underlying9, if_pos (by omega), hq]; rfl
set_option maxHeartbeats 1000000 in
theorem countAt_short (s : ByteArray) (a : Nat) (ha : a ≤ s.size) (h : s.size - a < 4) (w : World) :
    Calls Try.prog 38 #[.string s, .int .i64 a] w fun e w' => e = .returned (.tuple #[.int .i64 0, .bool false]) ∧ w = w' := by
  obtain ⟨q, hq, hql, hqs⟩ := cnt_parts s a
  have h1 := run_from ha hq
  have hq4 : (q.size : Int) < 4 := by omega
  clear hq hql hqs h
  go_enter Try.func38, Try.ntmps38
  go_wp2
  go_ret2
  exact ⟨rfl, rfl⟩
set_option maxHeartbeats 1000000 in
theorem countAt_full (s : ByteArray) (a n : Nat) (b : Bool) (ha : a ≤ s.size) (hs : s.size ≤ 300000000000000) (h : 4 ≤ s.size - a) (hn : n = Fr.num ((s.data.toList.drop a).take 4)) (hb : b = decide (n ≤ s.size - a - 4)) (w : World) :
    Calls Try.prog 38 #[.string s, .int .i64 a] w fun e w' => e = .returned (.tuple #[.int .i64 n, .bool b]) ∧ w = w' := by
  obtain ⟨q, hq, hql, hqs⟩ := cnt_parts s a
  have h1 := run_from ha hq
  obtain ⟨q4, hq4⟩ : ∃ q4, q4 = q.extract 0 4 := ⟨_, rfl⟩
  have h2 := run_to4 (by omega) hq4
  have hq4l : q4.data.toList = q.data.toList.take 4 := by rw [hq4, extract_to]
  have hq4s : q4.size ≤ 4 := by rw [← size_toList, hq4l, List.length_take]; omega
  have e4 : Fr.num q4.data.toList = n := by rw [hq4l, hql, hn]
  have hn4 : n < 4294967296 := by rw [hn]; exact num_lt4 _ 4 (by omega)
  have hq4' : ¬ (q.size : Int) < 4 := by omega
  have hqm : q.size ≤ 300000000000000 := by omega
  have hd : decide ((n : Int) ≤ (q.size : Int) - 4) = b := by rw [hb]; congr 1; apply propext; omega
  have E4 := Lib.hid e4
  clear hq hql hqs h hn hb hq4 hq4l e4
  go_enter Try.func38, Try.ntmps38
  go_wp2_with (go_at_call 40; refine (numberOf_any q4 hq4s _).mono ?_; rw [E4.out]; rintro e w' ⟨rfl, rfl⟩)
  go_ret2
  exact ⟨by rw [← hd]; rfl, rfl⟩
theorem countAt_some (s : ByteArray) (a n : Nat) (ha : a ≤ s.size) (hs : s.size ≤ 300000000000000) (h : Fr.cntIn (s.data.toList.drop a) = some n) (w : World) :
    Calls Try.prog 38 #[.string s, .int .i64 a] w fun e w' => e = .returned (.tuple #[.int .i64 n, .bool true]) ∧ w = w' := by
  obtain ⟨h1, h2⟩ := Fr.cntIn_some h
  rw [List.length_drop, size_toList] at h1
  exact countAt_full s a n true ha hs (by omega) h2 (by rw [eq_comm, decide_eq_true_iff]; omega) w
theorem countAt_none (s : ByteArray) (a : Nat) (ha : a ≤ s.size) (hs : s.size ≤ 300000000000000) (h : Fr.cntIn (s.data.toList.drop a) = none) (w : World) :
    Calls Try.prog 38 #[.string s, .int .i64 a] w fun e w' => (∃ v : Nat, e = .returned (.tuple #[.int .i64 v, .bool false])) ∧ w = w' := by
  by_cases h4 : s.size - a < 4
  · refine (countAt_short s a ha h4 w).mono ?_
    rintro e w' ⟨rfl, rfl⟩
    exact ⟨⟨0, rfl⟩, rfl⟩
  · unfold Fr.cntIn at h
    rw [List.length_drop, size_toList, if_neg h4] at h
    split at h
    · cases h
    · refine (countAt_full s a _ false ha hs (by omega) rfl (by rw [eq_comm, decide_eq_false_iff_not]; omega) w).mono ?_
      rintro e w' ⟨rfl, rfl⟩
      exact ⟨⟨_, rfl⟩, rfl⟩
end Go.Proofs.Ytkfbifondpbieaa
