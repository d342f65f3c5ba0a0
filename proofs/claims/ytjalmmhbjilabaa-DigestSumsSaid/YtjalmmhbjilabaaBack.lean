/- The walk of the statement DigestBack: what is written is read again. -/
import Derived.Test.YtjalmmhbjilabaaExam
namespace Go.Proofs.Ytjalmmhbjilabaa
open Go.RowKit

theorem bytes_eq {a b : ByteArray} (h : a.data.toList = b.data.toList) : a = b := by
  cases a; cases b; simp at h; simp [h]
theorem mk_list (s : ByteArray) : (⟨s.data.toList.toArray⟩ : ByteArray) = s := by simp
theorem Base64_q (q : ByteArray) (hs : q.size ≤ 140737488355328) (w : World) : Calls Try.prog 19 #[.string q] w fun e w' => ∃ r : ByteArray, e = .returned (.string r) ∧ Hid (r.data.toList = Dig.enc q.data.toList) ∧ Below w.heap.size w w' := by
  refine (Base64_any q hs w).mono ?_
  rintro e w' ⟨rfl, hb⟩
  exact ⟨_, rfl, Lib.hid rfl, hb⟩
theorem Unhex_back (s q : ByteArray) (hs : s.size ≤ 140737488355328) (hq : q.data.toList = Dig.hex s.data.toList) (w : World) : Calls Try.prog 16 #[.string q] w fun e w' => e = .returned (.tuple #[.string s, .int .i64 0, .int .i64 0]) ∧ Below w.heap.size w w' := by
  have hl : q.size = 2 * s.size := by rw [← size_toList, hq, Dig.length_hex, size_toList]
  refine (Unhex_any q (by omega) w).mono ?_
  rintro e w' ⟨rfl, hb⟩
  exact ⟨by rw [ansOf_ok (l := s.data.toList) (by rw [hq, Dig.unhex_hex]), mk_list], hb⟩
theorem Unbase64_back (s q : ByteArray) (hs : s.size ≤ 140737488355328) (hq : q.data.toList = Dig.enc s.data.toList) (w : World) : Calls Try.prog 18 #[.string q] w fun e w' => e = .returned (.tuple #[.string s, .int .i64 0, .int .i64 0]) ∧ Below w.heap.size w w' := by
  have hl : q.size = (s.size + 2) / 3 * 4 := by rw [← size_toList, hq, Dig.length_enc _ _ (Nat.le_refl _), size_toList]
  refine (Unbase64_any q (by omega) w).mono ?_
  rintro e w' ⟨rfl, hb⟩
  exact ⟨by rw [ansOf_ok (l := s.data.toList) (by rw [hq, Dig.dec_enc]), mk_list], hb⟩
theorem Unhex_res (s : ByteArray) (hs : s.size ≤ 140737488355328) (w : World) : Calls Try.prog 16 #[.string s] w fun e w' =>
    ((∃ i : Nat, e = .returned (.tuple #[.string ⟨#[]⟩, .int .i64 50, .int .i64 i])) ∨ (∃ q : ByteArray, e = .returned (.tuple #[.string q, .int .i64 0, .int .i64 0]) ∧ Hid (Dig.hex q.data.toList = s.data.toList) ∧ q.size ≤ s.size)) ∧ Below w.heap.size w w' := by
  refine (Unhex_any s (by omega) w).mono ?_
  rintro e w' ⟨rfl, hb⟩
  refine ⟨?_, hb⟩
  cases h : Dig.unhex s.data.toList with
  | error i => exact .inl ⟨i, rfl⟩
  | ok l =>
    refine .inr ⟨⟨l.toArray⟩, rfl, Lib.hid (Dig.hex_unhex h), ?_⟩
    have := congrArg List.length (Dig.hex_unhex h)
    rw [Dig.length_hex, size_toList] at this
    rw [size_mk]; omega
theorem Unbase64_res (s : ByteArray) (hs : s.size ≤ 140737488355328) (w : World) : Calls Try.prog 18 #[.string s] w fun e w' =>
    ((∃ i : Nat, e = .returned (.tuple #[.string ⟨#[]⟩, .int .i64 50, .int .i64 i])) ∨ (∃ q : ByteArray, e = .returned (.tuple #[.string q, .int .i64 0, .int .i64 0]) ∧ Hid (Dig.enc q.data.toList = s.data.toList) ∧ q.size ≤ s.size)) ∧ Below w.heap.size w w' := by
  refine (Unbase64_any s (by omega) w).mono ?_
  rintro e w' ⟨rfl, hb⟩
  refine ⟨?_, hb⟩
  cases h : Dig.dec s.data.toList with
  | error i => exact .inl ⟨i, rfl⟩
  | ok l =>
    have he := Dig.enc_dec _ _ _ (Nat.le_refl _) h
    refine .inr ⟨⟨l.toArray⟩, rfl, Lib.hid he, ?_⟩
    have := congrArg List.length he
    rw [Dig.length_enc _ _ (Nat.le_refl _), size_toList] at this
    rw [size_mk]; omega
theorem Hex_back (s q : ByteArray) (hq : Dig.hex q.data.toList = s.data.toList) (hs : q.size ≤ 140737488355328) (w : World) : Calls Try.prog 17 #[.string q] w fun e w' => e = .returned (.string s) ∧ Below w.heap.size w w' := by
  refine (Hex_any q hs w).mono ?_
  rintro e w' ⟨rfl, hb⟩
  exact ⟨by rw [hq, mk_list], hb⟩
theorem Base64_back (s q : ByteArray) (hq : Dig.enc q.data.toList = s.data.toList) (hs : q.size ≤ 140737488355328) (w : World) : Calls Try.prog 19 #[.string q] w fun e w' => e = .returned (.string s) ∧ Below w.heap.size w w' := by
  refine (Base64_any q hs w).mono ?_
  rintro e w' ⟨rfl, hb⟩
  exact ⟨by rw [hq, mk_list], hb⟩

set_option maxRecDepth 100000 in
set_option maxHeartbeats 1000000 in
theorem Back_true (s : ByteArray) (hs : s.size ≤ 140737488355328) (w : World) :
    Calls Try.prog 4 #[.string s] w fun e w' => e = .returned (.bool true) ∧ Below w.heap.size w w' := by
  go_enter Try.func4, Try.ntmps4
  go_wp2_with (first | (go_at_call 16; fail) | (go_at_call 8; refine (examples_true _).mono ?_; rintro e w1 ⟨rfl, hb1⟩) | (go_at_call 17; refine (Hex_q s hs _).mono ?_; rintro e w2 ⟨q1, rfl, hq1, hb2⟩))
  refine (Unhex_back s q1 hs hq1.out _).mono ?_
  rintro e w3 ⟨rfl, hb3⟩
  go_wp2_with (first | (go_at_call 18; fail) | (go_at_call 19; refine (Base64_q s hs _).mono ?_; rintro e w4 ⟨q2, rfl, hq2, hb4⟩))
  refine (Unbase64_back s q2 hs hq2.out _).mono ?_
  rintro e w5 ⟨rfl, hb5⟩
  have b2 := hb1.trans (hb2.mono hb1.size)
  have b3 := b2.trans (hb3.mono b2.size)
  have b4 := b3.trans (hb4.mono b3.size)
  have B5 := Lib.hid (b4.trans (hb5.mono b4.size))
  clear hb1 hb2 hb3 hb4 hb5 b2 b3 b4
  go_wp2_with (first | (go_at_call 16; fail))
  refine (Unhex_res s hs _).mono ?_
  rintro e w6 ⟨⟨i, rfl⟩ | ⟨q3, rfl, hq3, hz3⟩, hb6⟩
  · have B6 := Lib.hid (B5.out.trans (hb6.mono B5.out.size))
    clear hb6
    go_wp2_with (first | (go_at_call 18; fail))
    refine (Unbase64_res s hs _).mono ?_
    rintro e w7 ⟨⟨i', rfl⟩ | ⟨q4, rfl, hq4, hz4⟩, hb7⟩
    · have B7 := Lib.hid (B6.out.trans (hb7.mono B6.out.size))
      clear hb7
      go_wp2_with fail
      go_ret
      exact ⟨rfl, B7.out⟩
    · have B7 := Lib.hid (B6.out.trans (hb7.mono B6.out.size))
      clear hb7
      go_wp2_with (go_at_call 19; refine (Base64_back s q4 hq4.out (by omega) _).mono ?_; rintro e w8 ⟨rfl, hb8⟩)
      go_ret
      exact ⟨rfl, B7.out.trans (hb8.mono B7.out.size)⟩
  · have B6 := Lib.hid (B5.out.trans (hb6.mono B5.out.size))
    clear hb6
    go_wp2_with (first | (go_at_call 18; fail))
    refine (Unbase64_res s hs _).mono ?_
    rintro e w7 ⟨⟨i', rfl⟩ | ⟨q4, rfl, hq4, hz4⟩, hb7⟩
    · have B7 := Lib.hid (B6.out.trans (hb7.mono B6.out.size))
      clear hb7
      go_wp2_with (go_at_call 17; refine (Hex_back s q3 hq3.out (by omega) _).mono ?_; rintro e w8 ⟨rfl, hb8⟩)
      go_ret
      exact ⟨rfl, B7.out.trans (hb8.mono B7.out.size)⟩
    · have B7 := Lib.hid (B6.out.trans (hb7.mono B6.out.size))
      clear hb7
      go_wp2_with (first | (go_at_call 17; refine (Hex_back s q3 hq3.out (by omega) _).mono ?_; rintro e w8 ⟨rfl, hb8⟩) | (go_at_call 19; refine (Base64_back s q4 hq4.out (by omega) _).mono ?_; rintro e w9 ⟨rfl, hb9⟩))
      go_ret
      have b8 := B7.out.trans (hb8.mono B7.out.size)
      exact ⟨rfl, b8.trans (hb9.mono b8.size)⟩
end Go.Proofs.Ytjalmmhbjilabaa
