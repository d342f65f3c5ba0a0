/- The walk of the statement DigestCodes: the texts in sixteenths and in base 64, written and read, are as the document's own. -/
import Derived.Test.YtckfmkokdghinaaRUnb64
import Derived.Test.YtckfmkokdghinaaExam
namespace Go.Proofs.Ytckfmkokdghinaa
open Go.RowKit

theorem ansOf_form (r : Except Nat (List UInt8)) : ∃ (q : ByteArray) (a b : Int), ansOf r = .tuple #[.string q, .int .i64 a, .int .i64 b] := by
  cases r with
  | ok l => exact ⟨_, _, _, rfl⟩
  | error i => exact ⟨_, _, _, rfl⟩
theorem Unhex_is (s : ByteArray) (v : Value) (hv : ansOf (Dig.unhex s.data.toList) = v) (hs : s.size ≤ 1048576) (w : World) : Calls Try.prog 16 #[.string s] w fun e w' => e = .returned v ∧ Below w.heap.size w w' := by
  rw [← hv]; exact Unhex_any s (by omega) w
theorem rUnhex_is (s : ByteArray) (v : Value) (hv : ansOf (Dig.unhex s.data.toList) = v) (hs : s.size ≤ 1048576) (w : World) : Calls Try.prog 24 #[.string s] w fun e w' => e = .returned v ∧ Below w.heap.size w w' := by
  rw [← hv]; exact rUnhex_any s (by omega) w
theorem Unbase64_is (s : ByteArray) (v : Value) (hv : ansOf (Dig.dec s.data.toList) = v) (hs : s.size ≤ 1048576) (w : World) : Calls Try.prog 18 #[.string s] w fun e w' => e = .returned v ∧ Below w.heap.size w w' := by
  rw [← hv]; exact Unbase64_any s (by omega) w
theorem rUnbase64_is (s : ByteArray) (v : Value) (hv : ansOf (Dig.dec s.data.toList) = v) (hs : s.size ≤ 1048576) (w : World) : Calls Try.prog 25 #[.string s] w fun e w' => e = .returned v ∧ Below w.heap.size w w' := by
  rw [← hv]; exact rUnbase64_any s (by omega) w
theorem Hex_is (s q : ByteArray) (hq : (⟨(Dig.hex s.data.toList).toArray⟩ : ByteArray) = q) (hs : s.size ≤ 1048576) (w : World) : Calls Try.prog 17 #[.string s] w fun e w' => e = .returned (.string q) ∧ Below w.heap.size w w' := by
  rw [← hq]; exact Hex_any s (by omega) w
theorem rHex_is (s q : ByteArray) (hq : (⟨(Dig.hex s.data.toList).toArray⟩ : ByteArray) = q) (hs : s.size ≤ 1048576) (w : World) : Calls Try.prog 26 #[.string s] w fun e w' => e = .returned (.string q) ∧ Below w.heap.size w w' := by
  rw [← hq]; exact rHex_any s (by omega) w
theorem Base64_is (s q : ByteArray) (hq : (⟨(Dig.enc s.data.toList).toArray⟩ : ByteArray) = q) (hs : s.size ≤ 1048576) (w : World) : Calls Try.prog 19 #[.string s] w fun e w' => e = .returned (.string q) ∧ Below w.heap.size w w' := by
  rw [← hq]; exact Base64_any s (by omega) w
theorem rBase64_is (s q : ByteArray) (hq : (⟨(Dig.enc s.data.toList).toArray⟩ : ByteArray) = q) (hs : s.size ≤ 1048576) (w : World) : Calls Try.prog 27 #[.string s] w fun e w' => e = .returned (.string q) ∧ Below w.heap.size w w' := by
  rw [← hq]; exact rBase64_any s (by omega) w

set_option maxRecDepth 100000 in
set_option maxHeartbeats 1000000 in
theorem Codes_true (s : ByteArray) (hs : s.size ≤ 1048576) (w : World) :
    Calls Try.prog 7 #[.string s] w fun e w' => e = .returned (.bool true) ∧ Below w.heap.size w w' := by
  obtain ⟨q1, a1, b1, h1⟩ := ansOf_form (Dig.unhex s.data.toList)
  obtain ⟨q2, a2, b2, h2⟩ := ansOf_form (Dig.dec s.data.toList)
  obtain ⟨q3, h3⟩ : ∃ q : ByteArray, (⟨(Dig.hex s.data.toList).toArray⟩ : ByteArray) = q := ⟨_, rfl⟩
  obtain ⟨q4, h4⟩ : ∃ q : ByteArray, (⟨(Dig.enc s.data.toList).toArray⟩ : ByteArray) = q := ⟨_, rfl⟩
  have H1 := Lib.hid h1
  have H2 := Lib.hid h2
  have H3 := Lib.hid h3
  have H4 := Lib.hid h4
  clear h1 h2 h3 h4
  go_enter Try.func7, Try.ntmps7
  go_wp2_with (first | (go_at_call 8; refine (examples_true _).mono ?_; rintro e w1 ⟨rfl, hb1⟩) | (go_at_call 16; refine (Unhex_is s _ H1.out hs _).mono ?_; rintro e w2 ⟨rfl, hb2⟩) | (go_at_call 24; refine (rUnhex_is s _ H1.out hs _).mono ?_; rintro e w3 ⟨rfl, hb3⟩) | (go_at_call 18; refine (Unbase64_is s _ H2.out hs _).mono ?_; rintro e w4 ⟨rfl, hb4⟩) | (go_at_call 25; refine (rUnbase64_is s _ H2.out hs _).mono ?_; rintro e w5 ⟨rfl, hb5⟩) | (go_at_call 17; refine (Hex_is s _ H3.out hs _).mono ?_; rintro e w6 ⟨rfl, hb6⟩) | (go_at_call 26; refine (rHex_is s _ H3.out hs _).mono ?_; rintro e w7 ⟨rfl, hb7⟩) | (go_at_call 19; refine (Base64_is s _ H4.out hs _).mono ?_; rintro e w8 ⟨rfl, hb8⟩) | (go_at_call 27; refine (rBase64_is s _ H4.out hs _).mono ?_; rintro e w9 ⟨rfl, hb9⟩))
  go_ret
  have b2 := hb1.trans (hb2.mono hb1.size)
  have b3 := b2.trans (hb3.mono b2.size)
  have b4 := b3.trans (hb4.mono b3.size)
  have b5 := b4.trans (hb5.mono b4.size)
  have b6 := b5.trans (hb6.mono b5.size)
  have b7 := b6.trans (hb7.mono b6.size)
  have b8 := b7.trans (hb8.mono b7.size)
  exact ⟨rfl, b8.trans (hb9.mono b8.size)⟩
end Go.Proofs.Ytckfmkokdghinaa
