/- The walks of FrameSums and FrameAgain. -/
import Derived.Test.YtkfbifondpbieaaFKnown
namespace Go.Proofs.Ytkfbifondpbieaa
open Go.RowKit

set_option maxHeartbeats 1000000 in
theorem cut_any (s : ByteArray) (n : Nat) (hn : n ≤ 20000) (w : World) : Calls Try.prog 10 #[.string s, .int .i64 n] w fun e w' => e = .returned (.string (bs (s.data.toList.take n))) ∧ w = w' := by
  by_cases h : n < s.size
  · have e : s.extract 0 n = bs (s.data.toList.take n) := bs_of (extract_to s n)
    have HE := Lib.hid e
    clear e
    go_enter Try.func10, Try.ntmps10
    go_wp2
    go_ret
    exact ⟨by rw [← HE.out]; rfl, rfl⟩
  · have e : s = bs (s.data.toList.take n) := bs_of (by rw [List.take_of_length_le (by rw [size_toList]; omega)])
    have HE := Lib.hid e
    clear e
    go_enter Try.func10, Try.ntmps10
    go_wp2
    go_ret
    exact ⟨by rw [← HE.out]; rfl, rfl⟩
theorem cut_size (s : ByteArray) (n : Nat) : (bs (s.data.toList.take n)).size ≤ n := by rw [bs_size, List.length_take]; omega
set_option maxRecDepth 100000 in
set_option maxHeartbeats 1000000 in
theorem Sums_walk (s : ByteArray) (x b : UInt32) (n : Int) (w : World) : Calls Try.prog 3 #[.string s, .int .u32 x.toNat, .int .u32 b.toNat, .int .i64 n] w fun e w' => e = .returned (.bool true) ∧ Below w.heap.size w w' := by
  have hc := cut_any s 20000 (by omega)
  have hz := cut_size s 20000
  obtain ⟨q, hq⟩ : ∃ q, q = bs (s.data.toList.take 20000) := ⟨_, rfl⟩
  rw [← hq] at hc hz
  have HC := Lib.hid hc
  clear hc hq
  go_enter Try.func3, Try.ntmps3
  go_wp2_with (first | (go_at_call 9; refine (known_any _).mono ?_; rintro e w1 ⟨rfl, hb⟩; have HB := Lib.hid hb; clear hb) | (go_at_call 10; refine (HC.out _).mono ?_; rintro e w' ⟨rfl, rfl⟩) | (go_at_call 11; refine (Sum_any q (by omega) _).mono ?_; rintro e w' ⟨rfl, rfl⟩) | (go_at_call 12; refine (rSum_any q (by omega) _).mono ?_; rintro e w' ⟨rfl, rfl⟩) | (go_at_call 13; refine (More_any x q (by omega) _).mono ?_; rintro e w' ⟨rfl, rfl⟩) | (go_at_call 14; refine (rMore_any x q (by omega) _).mono ?_; rintro e w' ⟨rfl, rfl⟩) | (go_at_call 15; refine (Join_any x b n _).mono ?_; rintro e w' ⟨rfl, rfl⟩) | (go_at_call 16; refine (rJoin_any x b n _).mono ?_; rintro e w' ⟨rfl, rfl⟩))
  go_ret
  exact ⟨rfl, HB.out⟩
set_option maxRecDepth 100000 in
set_option maxHeartbeats 1000000 in
theorem Again_walk (s : ByteArray) (hs : s.size ≤ 281474976710656) (w : World) : Calls Try.prog 7 #[.string s] w fun e w' => e = .returned (.bool true) ∧ Below w.heap.size w w' := by
  go_enter Try.func7, Try.ntmps7
  go_wp2_with (go_at_call 9; refine (known_any _).mono ?_; rintro e w1 ⟨rfl, hb⟩; have HB := Lib.hid hb; clear hb)
  refine (Split_any s hs _).mono ?_
  rintro e w2 (⟨p, hsp, g, hg, rfl, hf, hb⟩ | ⟨ts, v, hsp, rfl, hown, hb⟩)
  · replace HB := Lib.hid (HB.out.trans (hb.mono HB.out.size))
    clear hsp hg hf hb
    go_wp2_with fail
    go_ret
    exact ⟨rfl, HB.out⟩
  · replace HB := Lib.hid (HB.out.trans (hb.mono HB.out.size))
    obtain ⟨hback, hlong⟩ := Fr.split_back hsp
    obtain ⟨b, g, cap, rfl, hrow⟩ := RowAt.of_own hown
    have e : bs (Fr.list ts) = s := (bs_of hback.symm).symm
    have hL := List_ok b g ts.length cap ts (by rw [hback]; exact hlong) _ hrow
    rw [e] at hL
    have HL := Lib.hid hL
    clear hsp hown hb hrow hback hL e hlong
    go_wp2_with (go_at_call 20; refine HL.out.mono ?_; rintro e w3 ⟨rfl, hb⟩; replace HB := Lib.hid (HB.out.trans (hb.mono HB.out.size)); clear hb)
    go_ret
    exact ⟨rfl, HB.out⟩
end Go.Proofs.Ytkfbifondpbieaa
