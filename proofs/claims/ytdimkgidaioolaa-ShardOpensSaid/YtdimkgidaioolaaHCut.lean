/- The walk of layer 9's iterator: a text cut into pieces, told one behind the other. -/
import Derived.Test.YtdimkgidaioolaaHHead
import Derived.Test.YtdimkgidaioolaaHRange
import Derived.Shelf.Abstract
import Derived.Shelf.RegionOpen
import Derived.WalkKit
import Derived.OwnWalkIn
import Derived.TacticsInMore
import Derived.LoopNIn
import Derived.LoopIn
namespace Go.Proofs.Ytdimkgidaioolaa
open Go.RowKit Go.Shelf
attribute [local go_sem] Oper.semAt_some

theorem cut_any (s : ByteArray) (k : Int) (w : World) : Calls Try.prog 19 #[.string s, .int .i64 k] w fun e w' => e = .returned (.func (.func 31) #[] #[.pointer (some ⟨w.heap.size, 0, none⟩), .pointer (some ⟨w.heap.size + 1, 0, none⟩)]) ∧ w' = (w.alloc (.cells #[.string s] 9)).alloc (.cells #[.int .i64 k] 3) := by
  go_enter Try.func19, Try.ntmps19
  go_wp2
  go_ret
  exact ⟨rfl, rfl⟩
set_option maxRecDepth 100000 in
set_option maxHeartbeats 1000000 in
theorem cut1_stops (F : Fence) (n : Nat) (hF : F.fn 31) (hro : F.round = none) (hn : 1 ≤ n) (k : Nat) (hk : 1 ≤ k) (hk2 : k ≤ 1000) (t : List UInt8) (htl : t.length ≤ 1000000) (Bt Bs : Nat) (hne : Bt ≠ Bs) (w : World)
    (hT : w.heap[Bt]? = some (.cells #[.string (bs t)] 9 (0, 0))) (hS : w.heap[Bs]? = some (.cells #[.int .i64 k] 3 (0, 0))) :
    CutStops F n Try.prog 31 #[.pointer (some ⟨Bt, 0, none⟩), .pointer (some ⟨Bs, 0, none⟩)] (fun j => #[.int .i64 j, .string (bs (Shd.piece k t j))]) 9 Bt Bs (Shd.many k t.length) w := by
  intro l J Jx W hWt hWs hJ hY h0
  rw [hT] at hWt
  rw [hS] at hWs
  refine callsIn_of_wp Try.func31 rfl hF ?_ hro
  simp only [Try.ntmps31, List.size_toArray, List.length_cons, List.length_nil, Nat.reduceAdd, Nat.reduceSub, Array.replicate_succ, Array.replicate_zero, List.push_toArray, List.append_toArray, List.nil_append, List.cons_append]
  gi_wp2
  gi_loopw [4] (fun p wr => ∃ j : Nat, p = .int .i64 j ∧ j ≤ Shd.many k t.length ∧ wr.heap[Bt]? = some (.cells #[.string (bs (t.drop (k * j)))] 9 (0, 0)) ∧ wr.heap[Bs]? = some (.cells #[.int .i64 k] 3 (0, 0)) ∧ J j wr)
    (fun p _ => Shd.many k t.length - (intOf p).toNat)
  case atStart =>
    exact ⟨0, rfl, by omega, by simpa using hWt, hWs, h0⟩
  case round =>
    obtain ⟨j, rfl, hj, ht, hs, hJs⟩ := hrel
    obtain ⟨r, hr⟩ : ∃ r, r = t.drop (k * j) := ⟨_, rfl⟩
    have hrl : r.length = t.length - k * j := by rw [hr, List.length_drop]
    rw [← hr] at ht
    have c1 : wr.cell? ⟨Bt, 0, none⟩ = some (.string (bs r)) := by rw [cell_of_list (cs := [_]) ht]; rfl
    have c2 : wr.cell? ⟨Bs, 0, none⟩ = some (.int .i64 k) := by rw [cell_of_list (cs := [_]) hs]; rfl
    have hz : (bs r).size = r.length := bs_size r
    by_cases hlt : j < Shd.many k t.length
    · have hpos : 0 < r.length := by
        rw [hrl]
        unfold Shd.many at hlt
        have h1 : (j + 1) * k ≤ t.length + (k - 1) := (Nat.le_div_iff_mul_le (by omega)).1 hlt
        rw [Nat.add_mul, Nat.one_mul, Nat.mul_comm] at h1
        omega
      have he : (bs r).toList.isEmpty = false := by
        rw [ByteArray.toList_eq, bs_list]
        cases r with
        | nil => simp at hpos
        | cons a l => rfl
      have hmn : (min (k : Int) ((bs r).size : Int)).toNat = min k r.length := by rw [hz]; omega
      have hpc : bs (Shd.piece k t j) = (bs r).extract 0 (min (k : Int) ((bs r).size : Int)).toNat := by
        refine (bs_of ?_).symm
        rw [extract_to, bs_list, hmn]
        unfold Shd.piece
        rw [← hr]
        by_cases hkr : k ≤ r.length
        · rw [Nat.min_eq_left hkr]
        · rw [Nat.min_eq_right (by omega), List.take_of_length_le (Nat.le_refl _), List.take_of_length_le (by omega)]
      have hrest : (bs r).extract (min (k : Int) ((bs r).size : Int)).toNat (bs r).size = bs (t.drop (k * (j + 1))) := by
        refine bs_of ?_
        rw [extract_from, bs_list, hmn, Nat.mul_succ, ← List.drop_drop, ← hr]
        by_cases hkr : k ≤ r.length
        · rw [Nat.min_eq_left hkr]
        · rw [Nat.min_eq_right (by omega), List.drop_of_length_le (Nat.le_refl _), List.drop_of_length_le (by omega)]
      obtain ⟨fn, tmps, assign, body, hy, hR⟩ := hY j wr hlt hJs
      rw [hpc] at hy
      have HR := Lib.hid hrest
      have HT := Lib.hid ht
      have HS := Lib.hid hs
      clear hpc hrest hr hrl hmn ht hs hz
      gi_wp2
      refine hR.mono ?_
      rintro e W3 (⟨rfl, hJ3, ht3, hs3⟩ | ⟨rfl, hJx3⟩)
      · rw [HT.out] at ht3
        rw [HS.out] at hs3
        have d1 : W3.cell? ⟨Bt, 0, none⟩ = some (.string (bs r)) := by rw [cell_of_list (cs := [_]) ht3]; rfl
        have f1 : W3.frozen? ⟨Bt, 0, none⟩ = false := free_of_list (cs := [_]) ht3 0
        have HT3 := Lib.hid ht3
        have HS3 := Lib.hid hs3
        clear ht3 hs3
        gi_wp2
        have hw : wrap64 ((j : Int) + 1) = ((j + 1 : Nat) : Int) := by
          have := Nat.div_le_self (t.length + (k - 1)) k
          unfold Shd.many at hlt
          unfold wrap64; omega
        rw [hw]
        refine ⟨⟨j + 1, rfl, hlt, ?_, ?_, ?_⟩, by simp [intOf]; omega⟩
        · rw [HR.out, set_list (cs := [_]) HT3.out]; rfl
        · exact (Below.heap_setCell _ _ _ _ (fun e => hne e.symm)).trans HS3.out
        · exact hJ _ _ _ _ HT3.out hJ3
      · gi_wp2
        refine bodyPost_ret (results_none rfl _ _ _) rfl ?_
        exact ⟨⟨_, rfl⟩, .inr ⟨j, hlt, hJx3⟩⟩
    · obtain rfl : j = Shd.many k t.length := by omega
      have hnil : r = [] := by
        refine List.length_eq_zero_iff.1 ?_
        rw [hrl]
        unfold Shd.many
        have h1 := Nat.div_add_mod (t.length + (k - 1)) k
        have h2 := Nat.mod_lt (t.length + (k - 1)) (show 0 < k by omega)
        omega
      have he : (bs r).toList.isEmpty = true := by rw [ByteArray.toList_eq, bs_list, hnil]; rfl
      clear hrl hr hnil
      gi_wp2
      go_end0
      exact ⟨⟨_, rfl⟩, .inl hJs⟩
end Go.Proofs.Ytdimkgidaioolaa
