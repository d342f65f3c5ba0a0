/- The walk of the statement DigestSums: any text's sums are those that the document's own packages reckon, and so is its sum with a key. -/
import Derived.Test.YtjalmmhbjilabaaKeys
import Derived.Test.YtjalmmhbjilabaaRMac
import Derived.Test.YtjalmmhbjilabaaRSum
import Derived.Test.YtjalmmhbjilabaaRSum5
namespace Go.Proofs.Ytjalmmhbjilabaa
open Go.RowKit
section
set_option maxRecDepth 100000 in
set_option maxHeartbeats 2000000 in
theorem rSum256_any (s : ByteArray) (hs : s.size ≤ 140737488355200) (w : World) :
    Calls Try.prog 21 #[.string s] w fun e w' => e = .returned (.string ⟨(Dig.sum256 s.data.toList).toArray⟩) ∧ Below w.heap.size w w' := by
  have hrl := length_rW
  have HRL := Lib.hid hrl
  clear hrl
  go_enter Try.func21, Try.ntmps21
  go_wp2_with fail
  refine (rwords_rW _).mono ?_
  rintro e w1 ⟨rfl, hb1⟩
  have HB1 := Lib.hid hb1
  clear hb1
  go_wp2_with (first | (refine wpList_alloc rfl 69 rfl (zeros 72) alloc72 ?_; go_frame) | (refine wpList_store_whole rfl 69 _ _ rfl w1.heap.size rW (zeros 72) 69 rfl rfl (heap_alloc_new _ _) (by rw [HRL.out, length_zeros]) (by rw [HRL.out]; kernel_rfl) rW_ones ?_; intro w2 h2 k2 s2; go_frame) | (refine wpList_load_mid rfl 69 _ rfl w1.heap.size 0 rfl rW _ (range_of_list h2.out) Try.underlying69 rfl (by rw [HRL.out]; kernel_rfl) ?_; go_frame) | fail)
  have HBW := Lib.hid (below_kept ((HB1.out.alloc HB1.out.size _)) k2.out HB1.out.size (by simp; have := HB1.out.size; omega))
  clear h2 k2
  refine (rsum_any s hs _).mono ?_
  rintro e w3 ⟨rfl, hb3⟩
  go_wp2_with fail
  go_ret
  exact ⟨rfl, HBW.out.trans (hb3.mono HBW.out.size)⟩
end
theorem told_is {f : FuncId} {args : Array Value} {w : World} {l : List UInt8} {m : ByteArray} (hm : m.data.toList = l) (h : Calls Try.prog f args w fun e w' => e = .returned (.string ⟨l.toArray⟩) ∧ Below w.heap.size w w') :
    Calls Try.prog f args w fun e w' => e = .returned (.string m) ∧ Below w.heap.size w w' := by
  refine h.mono ?_
  rintro e w' ⟨rfl, hb⟩
  exact ⟨by rw [← hm, mk_list], hb⟩
set_option maxRecDepth 100000 in
set_option maxHeartbeats 1000000 in
theorem Sums_are (s k : ByteArray) (hs : s.size ≤ 140737488355000) (hk : k.size ≤ 140737488355000) (w : World) :
    Calls Try.prog 6 #[.string s, .string k] w fun e w' => e = .returned (.bool true) ∧ Below w.heap.size w w' := by
  obtain ⟨a, ha⟩ : ∃ m : ByteArray, m.data.toList = Dig.sum256 s.data.toList := ⟨⟨(Dig.sum256 s.data.toList).toArray⟩, rfl⟩
  obtain ⟨b, hb⟩ : ∃ m : ByteArray, m.data.toList = Dig.sum5 s.data.toList := ⟨⟨(Dig.sum5 s.data.toList).toArray⟩, rfl⟩
  obtain ⟨c, hc⟩ : ∃ m : ByteArray, m.data.toList = Dig.mac k.data.toList s.data.toList := ⟨⟨(Dig.mac k.data.toList s.data.toList).toArray⟩, rfl⟩
  have C1 := Lib.hid (fun v : World => told_is ha (Sum256_any s (by omega) v))
  have C2 := Lib.hid (fun v : World => told_is ha (rSum256_any s (by omega) v))
  have C3 := Lib.hid (fun v : World => told_is hb (Sum5_any s (by omega) v))
  have C4 := Lib.hid (fun v : World => told_is hb (rSum5_any s (by omega) v))
  have C5 := Lib.hid (fun v : World => MAC_is k s c hc (by omega) (by omega) v)
  have C6 := Lib.hid (fun v : World => told_is hc (rMAC_any (fun s w h => rsum_any s h w) k s (by omega) hs v))
  have HB := Lib.hid (Below.refl w.heap.size w)
  clear ha hb hc
  go_enter Try.func6, Try.ntmps6
  go_wp2_with (first | (go_at_call 8; refine (examples_true _).mono ?_; rintro e w1 ⟨rfl, hb⟩; replace HB := Lib.hid (HB.out.trans (hb.mono HB.out.size)); clear hb) | (go_at_call 12; refine (C1.out _).mono ?_; rintro e w1 ⟨rfl, hb⟩; replace HB := Lib.hid (HB.out.trans (hb.mono HB.out.size)); clear hb) | (go_at_call 21; refine (C2.out _).mono ?_; rintro e w1 ⟨rfl, hb⟩; replace HB := Lib.hid (HB.out.trans (hb.mono HB.out.size)); clear hb) | (go_at_call 14; refine (C3.out _).mono ?_; rintro e w1 ⟨rfl, hb⟩; replace HB := Lib.hid (HB.out.trans (hb.mono HB.out.size)); clear hb) | (go_at_call 22; refine (C4.out _).mono ?_; rintro e w1 ⟨rfl, hb⟩; replace HB := Lib.hid (HB.out.trans (hb.mono HB.out.size)); clear hb) | (go_at_call 20; refine (C5.out _).mono ?_; rintro e w1 ⟨rfl, hb⟩; replace HB := Lib.hid (HB.out.trans (hb.mono HB.out.size)); clear hb) | (go_at_call 23; refine (C6.out _).mono ?_; rintro e w1 ⟨rfl, hb⟩; replace HB := Lib.hid (HB.out.trans (hb.mono HB.out.size)); clear hb) | fail)
  go_ret
  exact ⟨rfl, HB.out⟩
end Go.Proofs.Ytjalmmhbjilabaa
