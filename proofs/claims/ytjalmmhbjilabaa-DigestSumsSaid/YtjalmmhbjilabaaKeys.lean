/- The walk of the statement DigestKeys: a long key counts as its sum, and a key with noughts behind it as itself. -/
import Derived.Test.YtjalmmhbjilabaaBack
namespace Go.Proofs.Ytjalmmhbjilabaa
open Go.RowKit

theorem keyBlock_noughts (l : List UInt8) (n : Nat) (h : l.length + n ≤ 64) : Dig.keyBlock (l ++ List.replicate n 0) = Dig.keyBlock l := by
  rw [Dig.keyBlock_eq, Dig.keyBlock_eq, List.append_assoc, List.replicate_append_replicate, List.length_append, List.length_replicate]
  congr 2; omega
theorem mac_noughts (l s : List UInt8) (n : Nat) (h : l.length + n ≤ 64) : Dig.mac (l ++ List.replicate n 0) s = Dig.mac l s := by
  rw [Dig.mac_eq, Dig.mac_eq, show Dig.shortKey (l ++ List.replicate n 0) = l ++ List.replicate n 0 from by rw [Dig.shortKey, if_neg (by rw [List.length_append, List.length_replicate]; omega)], show Dig.shortKey l = l from by rw [Dig.shortKey, if_neg (by omega)]]
  simp only [Dig.masked_eq, keyBlock_noughts l n h]
theorem mac_long (l s : List UInt8) (h : 64 < l.length) : Dig.mac (Dig.sum256 l) s = Dig.mac l s := by
  rw [Dig.mac_eq, Dig.mac_eq, show Dig.shortKey l = Dig.sum256 l from by rw [Dig.shortKey, if_pos h], show Dig.shortKey (Dig.sum256 l) = Dig.sum256 l from by rw [Dig.shortKey, if_neg (by rw [Dig.length_sum256]; omega)]]
theorem MAC_is (k s m : ByteArray) (hm : m.data.toList = Dig.mac k.data.toList s.data.toList) (hk : k.size ≤ 300000000000000) (hs : s.size ≤ 300000000000000) (w : World) :
    Calls Try.prog 20 #[.string k, .string s] w fun e w' => e = .returned (.string m) ∧ Below w.heap.size w w' := by
  refine (MAC_any k s hk hs w).mono ?_
  rintro e w' ⟨rfl, hb⟩
  exact ⟨by rw [← hm, mk_list], hb⟩
theorem append_list (a b : ByteArray) : (a ++ b).data.toList = a.data.toList ++ b.data.toList := by simp

set_option maxRecDepth 100000 in
set_option maxHeartbeats 1000000 in
theorem Keys_long (k s : ByteArray) (n : Int) (hl : 64 < k.size) (hk : k.size ≤ 300000000000000) (hs : s.size ≤ 300000000000000) (w : World) :
    Calls Try.prog 5 #[.string k, .string s, .int .i64 n] w fun e w' => e = .returned (.bool true) ∧ Below w.heap.size w w' := by
  obtain ⟨m, hm⟩ : ∃ m : ByteArray, m.data.toList = Dig.mac k.data.toList s.data.toList := ⟨⟨(Dig.mac k.data.toList s.data.toList).toArray⟩, rfl⟩
  have HM := Lib.hid hm
  clear hm
  go_enter Try.func5, Try.ntmps5
  go_wp2_with (first | (go_at_call 20; fail) | (go_at_call 8; refine (examples_true _).mono ?_; rintro e w1 ⟨rfl, hb1⟩))
  refine (MAC_is k s m HM.out hk hs _).mono ?_
  rintro e w2 ⟨rfl, hb2⟩
  go_wp2_with (first | (go_at_call 20; fail) | (go_at_call 12; refine (Sum256_q k (by omega) _).mono ?_; rintro e w3 ⟨q, rfl, hq, hqz, hb3⟩))
  refine (MAC_is q s m (by rw [hq.out, HM.out, show (ByteArray.mk (Dig.sum256 k.data.toList).toArray).data.toList = Dig.sum256 k.data.toList from rfl, mac_long _ _ (by rw [size_toList]; exact hl)]) (by omega) hs _).mono ?_
  rintro e w4 ⟨rfl, hb4⟩
  go_wp2_with fail
  go_ret
  have b2 := hb1.trans (hb2.mono hb1.size)
  have b3 := b2.trans (hb3.mono b2.size)
  exact ⟨rfl, b3.trans (hb4.mono b3.size)⟩

set_option maxRecDepth 100000 in
set_option maxHeartbeats 1000000 in
theorem Keys_short (k s : ByteArray) (n : Int) (hl : k.size ≤ 64) (hs : s.size ≤ 300000000000000) (w : World) :
    Calls Try.prog 5 #[.string k, .string s, .int .i64 n] w fun e w' => e = .returned (.bool true) ∧ Below w.heap.size w w' := by
  obtain ⟨m, hm⟩ : ∃ m : ByteArray, m.data.toList = Dig.mac k.data.toList s.data.toList := ⟨⟨(Dig.mac k.data.toList s.data.toList).toArray⟩, rfl⟩
  have HM := Lib.hid hm
  clear hm
  go_enter Try.func5, Try.ntmps5
  go_wp2_with (first | (go_at_call 20; fail) | (go_at_call 8; refine (examples_true _).mono ?_; rintro e w1 ⟨rfl, hb1⟩))
  go_loopw [8, 9] (fun v i wr => ∃ (j : Nat) (q : ByteArray), k.size + j ≤ 64 ∧ i = .int .i64 j ∧ v = .string q ∧ q.size = k.size + j ∧ Hid (q.data.toList = k.data.toList ++ List.replicate j 0) ∧ w1 = wr) (fun _ i _ => 64 - (intOf i).toNat)
  case atStart => exact ⟨0, k, by omega, rfl, rfl, rfl, Lib.hid (by simp), rfl⟩
  case round =>
    obtain ⟨j, q, hj, rfl, rfl, hz, hq, rfl⟩ := hrel
    by_cases hn : (j : Int) < n
    · by_cases h64 : k.size + j < 64
      · have hz' : (q.size : Int) < 64 := by omega
        have hsum : ¬ 9223372036854775807 < q.size + 1 := by omega
        have HZ := Lib.hid hz
        clear hz
        go_wp2_with fail
        go_roundw
        case rel =>
          refine ⟨j + 1, q ++ ⟨#[0]⟩, by omega, by go_num, rfl, ?_, Lib.hid ?_, trivial⟩
          · rw [ByteArray.size_append, HZ.out]; rfl
          · rw [append_list, hq.out, List.append_assoc, show ((ByteArray.mk #[0]).data.toList) = List.replicate 1 0 from rfl, List.replicate_append_replicate]
        case measure => simp [intOf]; omega
      · have hz' : ¬ (q.size : Int) < 64 := by omega
        have HZ := Lib.hid hz
        clear hz
        go_wp2_with (first | (go_at_call 20; fail))
        refine (MAC_is q s m (by rw [HM.out, hq.out, mac_noughts _ _ _ (by rw [size_toList]; exact hj)]) (by have := HZ.out; omega) hs _).mono ?_
        rintro e w2 ⟨rfl, hb2⟩
        go_wp2_with (first | (go_at_call 20; fail))
        refine (MAC_is k s m HM.out (by omega) hs _).mono ?_
        rintro e w3 ⟨rfl, hb3⟩
        go_wp2_with fail
        go_ret
        have b2 := hb1.trans (hb2.mono hb1.size)
        exact ⟨rfl, b2.trans (hb3.mono b2.size)⟩
    · by_cases h64 : k.size + j < 64
      · have HZ := Lib.hid hz
        clear hz
        go_wp2_with (first | (go_at_call 20; fail))
        refine (MAC_is q s m (by rw [HM.out, hq.out, mac_noughts _ _ _ (by rw [size_toList]; exact hj)]) (by have := HZ.out; omega) hs _).mono ?_
        rintro e w2 ⟨rfl, hb2⟩
        go_wp2_with (first | (go_at_call 20; fail))
        refine (MAC_is k s m HM.out (by omega) hs _).mono ?_
        rintro e w3 ⟨rfl, hb3⟩
        go_wp2_with fail
        go_ret
        have b2 := hb1.trans (hb2.mono hb1.size)
        exact ⟨rfl, b2.trans (hb3.mono b2.size)⟩
      · have HZ := Lib.hid hz
        clear hz
        go_wp2_with (first | (go_at_call 20; fail))
        refine (MAC_is q s m (by rw [HM.out, hq.out, mac_noughts _ _ _ (by rw [size_toList]; exact hj)]) (by have := HZ.out; omega) hs _).mono ?_
        rintro e w2 ⟨rfl, hb2⟩
        go_wp2_with (first | (go_at_call 20; fail))
        refine (MAC_is k s m HM.out (by omega) hs _).mono ?_
        rintro e w3 ⟨rfl, hb3⟩
        go_wp2_with fail
        go_ret
        have b2 := hb1.trans (hb2.mono hb1.size)
        exact ⟨rfl, b2.trans (hb3.mono b2.size)⟩
end Go.Proofs.Ytjalmmhbjilabaa
