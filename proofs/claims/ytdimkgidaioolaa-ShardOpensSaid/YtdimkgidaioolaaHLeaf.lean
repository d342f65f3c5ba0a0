/- The walks of layer 9's small functions: a number as bytes, a sum of some texts, a seal, the size, the length in a head. -/
import Derived.Test.YtdimkgidaioolaaFList
import Derived.Test.YtdimkgidaioolaaSum2
import Derived.Test.YtdimkgidaioolaaHSpec
import Derived.Deep.RegionHeld3
import Derived.Shelf.Strings.Prefix
namespace Go.Proofs.Ytdimkgidaioolaa
open Go.RowKit

theorem Hfault_any (c a : Int) (w : World) : Calls Try.prog 15 #[.int .i64 c, .int .i64 a] w fun e w' => e = .returned (.iface 55 (.pointer (some ⟨w.heap.size, 0, none⟩))) ∧ FaultAt w.heap.size c a w' ∧ Below w.heap.size w w' := by
  go_enter Try.func15, Try.ntmps15
  go_wp2
  go_ret
  exact ⟨rfl, heap_alloc_new _ _, (Below.refl _ _).alloc (Nat.le_refl _) _⟩
theorem HNum_ok (n : Nat) (hn : n ≤ 4294967295) (w : World) : Calls Try.prog 38 #[.int .i64 n] w fun e w' => e = .returned (.tuple #[.string (bs (Fr.be 4 n)), .nilIface]) ∧ Below w.heap.size w w' := by
  have e1 : IntKind.u64.wrap (n : Int) = (n : Int) := by rw [IntKind.wrap_u64]; omega
  go_enter Try.func38, Try.ntmps38
  go_wp2_with (go_at_call 45; refine (bytesOf_any n 4 (by omega) _).mono ?_; rintro e w' ⟨rfl, hb⟩; have HB := Lib.hid hb; clear hb)
  go_ret2
  exact ⟨by rw [← bs_eq]; rfl, HB.out⟩
theorem word_any (n : Nat) (hn : n ≤ 4294967295) (w : World) : Calls Try.prog 28 #[.int .i64 n] w fun e w' => e = .returned (.string (bs (Fr.be 4 n))) ∧ Below w.heap.size w w' := by
  go_enter Try.func28, Try.ntmps28
  go_wp2_with (go_at_call 38; refine (HNum_ok n hn _).mono ?_; rintro e w' ⟨rfl, hb⟩; have HB := Lib.hid hb; clear hb)
  go_ret
  exact ⟨rfl, HB.out⟩
theorem Hsum_any (b : Option Addr) (g n cap : Nat) (l : List (List UInt8)) (hl : (Fr.list l).length ≤ 60000) (w : World) (h : RowAt b g n l w) :
    Calls Try.prog 30 #[.slice b n cap] w fun e w' => e = .returned (.string (bs (Shd.hash l))) ∧ Below w.heap.size w w' := by
  have H := Lib.hid h
  have HL := Lib.hid hl
  have HE := Lib.hid (Shd.hash_eq l)
  have C2 := Lib.hid (fun v : World => Sum256_any (bs (Fr.list l)) (by rw [bs_size]; omega) v)
  clear h hl
  go_enter Try.func30, Try.ntmps30
  go_wp2_with (first | (go_at_call 40; refine (List_ok b g n cap l HL.out _ H.out).mono ?_; rintro e w' ⟨rfl, hb⟩; have HB := Lib.hid hb; clear hb) | (go_at_call 41; refine (C2.out _).mono ?_; rintro e w' ⟨rfl, hb⟩; have HB2 := Lib.hid (HB.out.trans (hb.mono HB.out.size)); clear hb; rw [bs_list, HE.out, bs_eq]))
  go_ret
  exact ⟨rfl, HB2.out⟩
/-- A seal, of a name and a length. -/
def sealV (nm : List UInt8) (L : Nat) : Value := .agg #[.string (bs nm), .string (bs (Fr.be 4 L))]
theorem two_ones (a b : ByteArray) : ∀ v ∈ [Value.string a, Value.string b], v.oneCell' = true := by intro v hv; simp at hv; rcases hv with rfl | rfl <;> rfl
set_option maxHeartbeats 1000000 in
theorem sealOf_any (nm : List UInt8) (L : Nat) (hL : L ≤ 4294967295) (w : World) : Calls Try.prog 16 #[.string (bs nm), .int .i64 L] w fun e w' => e = .returned (.agg #[.string (bs nm), .string (bs (Fr.be 4 L))]) ∧ Below w.heap.size w w' := by
  go_enter Try.func16, Try.ntmps16
  go_wp2_with (first | (go_at_call 28; refine (word_any L hL _).mono ?_; rintro e w1 ⟨rfl, hb⟩; have HB := Lib.hid (((Below.refl w.heap.size w).alloc (Nat.le_refl _) _).trans (hb.mono (by simp))); have HX := Lib.hid ((hb.block w.heap.size (by simp)).trans (heap_alloc_new w (.cells [Value.string ⟨#[]⟩, .string ⟨#[]⟩].toArray 41 (0, 0)))); clear hb) | (refine wpList_store_whole rfl 41 _ _ rfl w.heap.size [.string (bs nm), .string (bs (Fr.be 4 L))] [Value.string ⟨#[]⟩, .string ⟨#[]⟩] 41 rfl rfl HX.out rfl (by kernel_rfl) (two_ones _ _) ?_; intro w2 h2 k2 s2; go_frame))
  refine bodyPost_ret (results_mid Try.results16 _ _ w.heap.size 0 [.string (bs nm), .string (bs (Fr.be 4 L))] _ rfl (range_of_list h2.out) Try.underlying41 rfl (by kernel_rfl)) rfl ⟨rfl, ?_⟩
  exact below_kept HB.out k2.out (Nat.le_refl _)
set_option maxRecDepth 100000 in
theorem Size_ok (L : Nat) (h : L ≤ 10000) (w : World) : Calls Try.prog 11 #[.int .i64 L] w fun e w' => e = .returned (.int .i64 (Shd.size L)) ∧ w = w' := by
  have e1 : (36 : Int) + (L : Int) + ((L : Int) + 200 - 1) / 200 * 32 = (Shd.size L : Int) := by unfold Shd.size Shd.many; omega
  have e2 : ((L : Int) + 200 - 1).tdiv 200 = ((L : Int) + 200 - 1) / 200 := Int.tdiv_eq_ediv_of_nonneg (by omega)
  have HE := Lib.hid e1
  clear e1
  go_enter Try.func11, Try.ntmps11
  go_wp2
  go_ret
  exact ⟨by rw [← HE.out]; rfl, rfl⟩
theorem Size_bad (L : Int) (h : L < 0 ∨ 10000 < L) (w : World) : Calls Try.prog 11 #[.int .i64 L] w fun e w' => e = .returned (.int .i64 0) ∧ w = w' := by
  by_cases h1 : L < 0
  · clear h
    go_enter Try.func11, Try.ntmps11
    go_wp2
    go_ret
    exact ⟨rfl, rfl⟩
  · have h2 : 10000 < L := by omega
    clear h
    go_enter Try.func11, Try.ntmps11
    go_wp2
    go_ret
    exact ⟨rfl, rfl⟩
end Go.Proofs.Ytdimkgidaioolaa
