/- The walk of the chapter's examples: they are so. -/
import Derived.Test.YtjalmmhbjilabaaUnb64
namespace Go.Proofs.Ytjalmmhbjilabaa
open Go.RowKit

set_option maxRecDepth 1000000
theorem ex_256 : Dig.hex (Dig.sum256 [97, 98, 99]) = [98, 97, 55, 56, 49, 54, 98, 102, 56, 102, 48, 49, 99, 102, 101, 97, 52, 49, 52, 49, 52, 48, 100, 101, 53, 100, 97, 101, 50, 50, 50, 51, 98, 48, 48, 51, 54, 49, 97, 51, 57, 54, 49, 55, 55, 97, 57, 99, 98, 52, 49, 48, 102, 102, 54, 49, 102, 50, 48, 48, 49, 53, 97, 100] := by decide +kernel
theorem ex_5 : Dig.hex (Dig.sum5 [97, 98, 99]) = [57, 48, 48, 49, 53, 48, 57, 56, 51, 99, 100, 50, 52, 102, 98, 48, 100, 54, 57, 54, 51, 102, 55, 100, 50, 56, 101, 49, 55, 102, 55, 50] := by decide +kernel
theorem ex_mac : (Dig.hex (Dig.mac [74, 101, 102, 101] [119, 104, 97, 116, 32, 100, 111, 32, 121, 97, 32, 119, 97, 110, 116, 32, 102, 111, 114, 32, 110, 111, 116, 104, 105, 110, 103, 63])).take 8 = [53, 98, 100, 99, 99, 49, 52, 54] := by decide +kernel
theorem ex_unhex : Dig.unhex [48, 103] = .error 1 := by
  have e : Dig.bad16 [48, 103] = 1 := by decide +kernel
  rw [Dig.unhex_bad (by left; rw [e]; decide), e]
theorem ex_unbase : Dig.dec [89, 82, 61, 61] = .error 1 := by
  rw [Dig.dec_step (by simp), Dig.decStep_bad (i := 1) (by decide +kernel)]
theorem ex_base : Dig.enc [97, 98] = [89, 87, 73, 61] := by decide +kernel

theorem mac_length (k s : List UInt8) : (Dig.mac k s).length = 32 := by rw [Dig.mac_eq]; exact Dig.length_sum256 _
theorem bytes_of_list {s : ByteArray} {l : List UInt8} (h : s.data.toList = l) : s = ⟨l.toArray⟩ := by subst h; simp
theorem Sum256_abc (w : World) : Calls Try.prog 12 #[.string ⟨#[97, 98, 99]⟩] w fun e w' => ∃ q : ByteArray, e = .returned (.string q) ∧ Hid (q.data.toList = Dig.sum256 [97, 98, 99]) ∧ Below w.heap.size w w' := by
  refine (Sum256_any ⟨#[97, 98, 99]⟩ (by decide) w).mono ?_
  rintro e w' ⟨rfl, hb⟩
  exact ⟨_, rfl, Lib.hid rfl, hb⟩
theorem Sum5_abc (w : World) : Calls Try.prog 14 #[.string ⟨#[97, 98, 99]⟩] w fun e w' => ∃ q : ByteArray, e = .returned (.string q) ∧ Hid (q.data.toList = Dig.sum5 [97, 98, 99]) ∧ Below w.heap.size w w' := by
  refine (Sum5_any ⟨#[97, 98, 99]⟩ (by decide) w).mono ?_
  rintro e w' ⟨rfl, hb⟩
  exact ⟨_, rfl, Lib.hid rfl, hb⟩
def jefe : ByteArray := ⟨#[74, 101, 102, 101]⟩
def what : ByteArray := ⟨#[119, 104, 97, 116, 32, 100, 111, 32, 121, 97, 32, 119, 97, 110, 116, 32, 102, 111, 114, 32, 110, 111, 116, 104, 105, 110, 103, 63]⟩
theorem MAC_jefe (w : World) : Calls Try.prog 20 #[.string ⟨#[74, 101, 102, 101]⟩, .string ⟨#[119, 104, 97, 116, 32, 100, 111, 32, 121, 97, 32, 119, 97, 110, 116, 32, 102, 111, 114, 32, 110, 111, 116, 104, 105, 110, 103, 63]⟩] w fun e w' =>
    ∃ q : ByteArray, e = .returned (.string q) ∧ Hid (q.data.toList = Dig.mac jefe.data.toList what.data.toList) ∧ Below w.heap.size w w' := by
  refine (MAC_any jefe what (by decide) (by decide) w).mono ?_
  rintro e w' ⟨rfl, hb⟩
  exact ⟨_, rfl, Lib.hid rfl, hb⟩
theorem Hex_q (q : ByteArray) (hs : q.size ≤ 140737488355328) (w : World) : Calls Try.prog 17 #[.string q] w fun e w' => ∃ r : ByteArray, e = .returned (.string r) ∧ Hid (r.data.toList = Dig.hex q.data.toList) ∧ Below w.heap.size w w' := by
  refine (Hex_any q hs w).mono ?_
  rintro e w' ⟨rfl, hb⟩
  exact ⟨_, rfl, Lib.hid rfl, hb⟩
theorem Unhex_0g (w : World) : Calls Try.prog 16 #[.string ⟨#[48, 103]⟩] w fun e w' => e = .returned (.tuple #[.string ⟨#[]⟩, .int .i64 50, .int .i64 1]) ∧ Below w.heap.size w w' := by
  refine (Unhex_any ⟨#[48, 103]⟩ (by decide) w).mono ?_
  rintro e w' ⟨rfl, hb⟩
  exact ⟨by rw [ansOf_error ex_unhex]; rfl, hb⟩
theorem Unbase64_yr (w : World) : Calls Try.prog 18 #[.string ⟨#[89, 82, 61, 61]⟩] w fun e w' => e = .returned (.tuple #[.string ⟨#[]⟩, .int .i64 50, .int .i64 1]) ∧ Below w.heap.size w w' := by
  refine (Unbase64_any ⟨#[89, 82, 61, 61]⟩ (by decide) w).mono ?_
  rintro e w' ⟨rfl, hb⟩
  exact ⟨by rw [ansOf_error ex_unbase]; rfl, hb⟩
theorem Base64_ab (w : World) : Calls Try.prog 19 #[.string ⟨#[97, 98]⟩] w fun e w' => e = .returned (.string ⟨#[89, 87, 73, 61]⟩) ∧ Below w.heap.size w w' := by
  refine (Base64_any ⟨#[97, 98]⟩ (by decide) w).mono ?_
  rintro e w' ⟨rfl, hb⟩
  exact ⟨by rw [show (ByteArray.mk #[97, 98]).data.toList = [97, 98] from rfl, ex_base], hb⟩

set_option maxHeartbeats 1000000 in
theorem examples_true (w : World) : Calls Try.prog 8 #[] w fun e w' => e = .returned (.bool true) ∧ Below w.heap.size w w' := by
  go_enter Try.func8, Try.ntmps8
  go_wp2_with (first | (go_at_call 17; fail) | (go_at_call 12; refine (Sum256_abc _).mono ?_; rintro e w1 ⟨q1, rfl, hq1, hb1⟩))
  refine (Hex_q q1 (by rw [← size_toList, hq1.out, Dig.length_sum256]; decide) _).mono ?_
  rintro e w2 ⟨r1, rfl, hr1, hb2⟩
  have B2 := Lib.hid (hb1.trans (hb2.mono hb1.size))
  clear hb1 hb2
  go_wp2_with (first | (go_at_call 17; fail) | (go_at_call 14; refine (Sum5_abc _).mono ?_; rintro e w3 ⟨q2, rfl, hq2, hb3⟩))
  refine (Hex_q q2 (by rw [← size_toList, hq2.out, Dig.length_sum5]; decide) _).mono ?_
  rintro e w4 ⟨r2, rfl, hr2, hb4⟩
  have b3 := B2.out.trans (hb3.mono B2.out.size)
  have B4 := Lib.hid (b3.trans (hb4.mono b3.size))
  clear hb3 hb4 b3
  go_wp2_with (first | (go_at_call 17; fail) | (go_at_call 20; refine (MAC_jefe _).mono ?_; rintro e w5 ⟨q3, rfl, hq3, hb5⟩))
  refine (Hex_q q3 (by rw [← size_toList, hq3.out, mac_length]; decide) _).mono ?_
  rintro e w6 ⟨r3, rfl, hr3, hb6⟩
  have b5 := B4.out.trans (hb5.mono B4.out.size)
  have B6 := Lib.hid (b5.trans (hb6.mono b5.size))
  clear hb5 hb6 b5
  have h64 : r3.size = 64 := by rw [← size_toList, hr3.out, Dig.length_hex, hq3.out, mac_length]
  have h8 : r3.extract 0 8 = ⟨#[53, 98, 100, 99, 99, 49, 52, 54]⟩ := by
    have e : (r3.extract 0 8).data.toList = [53, 98, 100, 99, 99, 49, 52, 54] := by
      rw [show (r3.extract 0 8).data.toList = r3.data.toList.take 8 from by simp [ByteArray.data_extract, Array.toList_extract], hr3.out, hq3.out]; exact ex_mac
    exact bytes_of_list e
  have c1 : (r1.toList == [98, 97, 55, 56, 49, 54, 98, 102, 56, 102, 48, 49, 99, 102, 101, 97, 52, 49, 52, 49, 52, 48, 100, 101, 53, 100, 97, 101, 50, 50, 50, 51, 98, 48, 48, 51, 54, 49, 97, 51, 57, 54, 49, 55, 55, 97, 57, 99, 98, 52, 49, 48, 102, 102, 54, 49, 102, 50, 48, 48, 49, 53, 97, 100]) = true := by rw [ByteArray.toList_eq, hr1.out, hq1.out, ex_256]; exact beq_self_eq_true _
  have c2 : (r2.toList == [57, 48, 48, 49, 53, 48, 57, 56, 51, 99, 100, 50, 52, 102, 98, 48, 100, 54, 57, 54, 51, 102, 55, 100, 50, 56, 101, 49, 55, 102, 55, 50]) = true := by rw [ByteArray.toList_eq, hr2.out, hq2.out, ex_5]; exact beq_self_eq_true _
  go_wp2_with (first | (go_at_call 16; refine (Unhex_0g _).mono ?_; rintro e w7 ⟨rfl, hb7⟩) | (go_at_call 18; refine (Unbase64_yr _).mono ?_; rintro e w8 ⟨rfl, hb8⟩) | (go_at_call 19; refine (Base64_ab _).mono ?_; rintro e w9 ⟨rfl, hb9⟩))
  go_ret
  have b7 := B6.out.trans (hb7.mono B6.out.size)
  have b8 := b7.trans (hb8.mono b7.size)
  exact ⟨rfl, b8.trans (hb9.mono b8.size)⟩
end Go.Proofs.Ytjalmmhbjilabaa
