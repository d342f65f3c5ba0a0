/- The walks of the sums' leaves: a word turned; a block's words. -/
import Derived.Test.YtdimkgidaioolaaRows
import Derived.Test.YtdimkgidaioolaaSpec
import Derived.Test.YtdimkgidaioolaaWord
namespace Go.Proofs.Ytdimkgidaioolaa
open Go.RowKit

theorem and31 (k : Int) : bits .and .u64 (IntKind.u64.wrap k) 31 = k % 32 := by
  have h0 : IntKind.u64.wrap k = k % 18446744073709551616 := by simp [IntKind.wrap, IntKind.bits, IntKind.signed]
  rw [h0, u64_and _ _ (by omega) (by omega) (by omega) (by omega)]
  rw [show ((31 : Int).toNat) = 2 ^ 5 - 1 from rfl, Nat.and_two_pow_sub_one_eq_mod]
  omega

theorem rot_fold (x : UInt32) (n : Nat) : bits .or .u32 ((x.toNat : Int) * 2 ^ n % 4294967296) ((x.toNat : Int) / 2 ^ (32 - n)) = ((Dig.rotl x n).toNat : Int) := by
  have h1 : ((x.toNat : Int) * 2 ^ n % 4294967296) = ((UInt32.ofNat (x.toNat * 2 ^ n)).toNat : Int) := by
    rw [← fold_ofNat]; simp
  have h2 : ((x.toNat : Int) / 2 ^ (32 - n)) = ((UInt32.ofNat (x.toNat / 2 ^ (32 - n))).toNat : Int) := by
    have hl : x.toNat / 2 ^ (32 - n) < 4294967296 := Nat.lt_of_le_of_lt (Nat.div_le_self _ _) (u32_lt x)
    rw [← fold_ofNat]
    generalize hq : x.toNat / 2 ^ (32 - n) = q at hl
    rw [show ((x.toNat : Int) / 2 ^ (32 - n)) = ((x.toNat / 2 ^ (32 - n) : Nat) : Int) from by simp, hq]
    omega
  rw [h1, h2, fold_or, Dig.rotl_eq]

theorem shr_fold (x : UInt32) (n : Nat) : ((x.toNat : Int) / 2 ^ n) = ((Dig.shr x n).toNat : Int) := by
  have hl : x.toNat / 2 ^ n < 4294967296 := Nat.lt_of_le_of_lt (Nat.div_le_self _ _) (u32_lt x)
  rw [Dig.shr_eq, ← fold_ofNat]
  generalize hq : x.toNat / 2 ^ n = q at hl
  rw [show ((x.toNat : Int) / 2 ^ n) = ((x.toNat / 2 ^ n : Nat) : Int) from by simp, hq]
  omega
theorem go_add (a b : UInt32) : IntKind.u32.wrap ((a.toNat : Int) + (b.toNat : Int)) = ((Dig.ad a b).toNat : Int) := fold_add a b |>.trans (by rw [Dig.ad_eq])
theorem go_add' (a b : UInt32) : ((a.toNat : Int) + (b.toNat : Int)) % 4294967296 = ((Dig.ad a b).toNat : Int) := by rw [← go_add, IntKind.wrap_u32']
theorem go_xor (a b : UInt32) : bits .xor .u32 (a.toNat : Int) (b.toNat : Int) = ((Dig.xr a b).toNat : Int) := fold_xor a b |>.trans (by rw [Dig.xr_eq])
theorem go_and (a b : UInt32) : bits .and .u32 (a.toNat : Int) (b.toNat : Int) = ((Dig.an a b).toNat : Int) := fold_and a b |>.trans (by rw [Dig.an_eq])
theorem go_or (a b : UInt32) : bits .or .u32 (a.toNat : Int) (b.toNat : Int) = ((Dig.oR a b).toNat : Int) := fold_or a b |>.trans (by rw [Dig.oR_eq])
theorem go_not (a : UInt32) : bits .xor .u32 4294967295 (a.toNat : Int) = ((Dig.nt a).toNat : Int) := fold_not a |>.trans (by rw [Dig.nt_eq])
theorem go_not' (a : UInt32) : bits .xor .u32 IntKind.u32.max (a.toNat : Int) = ((Dig.nt a).toNat : Int) := go_not a
theorem u32_signed : IntKind.u32.signed = false := rfl
theorem fold_shr10 (x : UInt32) : ((x.toNat : Int) / 1024) = ((Dig.shr x 10).toNat : Int) := shr_fold x 10
theorem fold_shr3 (x : UInt32) : ((x.toNat : Int) / 8) = ((Dig.shr x 3).toNat : Int) := shr_fold x 3

set_option maxHeartbeats 400000 in
theorem rot_any (x : UInt32) (k : Int) (n : Nat) (hn : n ≤ 31) (hk : k % 32 = n) (w : World) :
    Calls Try.prog 56 #[.int .u32 x.toNat, .int .i64 k] w fun e w' => e = .returned (.int .u32 (Dig.rotl x n).toNat) ∧ w = w' := by
  have H := and31 k
  rw [hk] at H
  have F := Lib.hid (rot_fold x n)
  clear hk
  go_enter Try.func56, Try.ntmps56
  go_wp2
  go_ret
  exact ⟨ret_int F.out, rfl⟩

/-- The turn's count, as Go takes it. -/
def rn (k : Int) : Nat := (k % 32).toNat
theorem rot_lit (x : UInt32) (k : Int) (w : World) :
    Calls Try.prog 56 #[.int .u32 x.toNat, .int .i64 k] w fun e w' => e = .returned (.int .u32 (Dig.rotl x (rn k)).toNat) ∧ w = w' :=
  rot_any x k (rn k) (by unfold rn; omega) (by unfold rn; omega) w

theorem word_or (x : UInt32) (b : UInt8) (n : Nat) : bits .or .u32 (x.toNat : Int) ((b.toNat : Int) % 4294967296 * 2 ^ n % 4294967296) = ((x ||| UInt32.ofNat (b.toNat * 2 ^ n)).toNat : Int) := by
  have hb := u8_lt b
  rw [show ((b.toNat : Int) % 4294967296 * 2 ^ n % 4294967296) = ((UInt32.ofNat (b.toNat * 2 ^ n)).toNat : Int) from ?_, fold_or]
  rw [← fold_ofNat, show ((b.toNat : Int) % 4294967296) = (b.toNat : Int) from by omega]
  simp

theorem words_step {w wr : World} {low : Bool} {bs : List UInt8} {k : Nat} {B : Nat} {T : TypeId} {v : Value} (hB : Below B w wr)
    (hW : wr.heap[B + 1]? = some (.cells ((Dig.wordsTo low bs k).map u32v).toArray T (0, 0))) (hZ : wr.heap[B]? = some (.cells ((Dig.wordsTo low bs 0).map u32v).toArray T (0, 0)))
    (hv : v = u32v ((Dig.wordsTo low bs k).getD (k / 4) 0 ||| UInt32.ofNat ((bs.getD k 0).toNat * 2 ^ (8 * Dig.place low k)))) :
    (wr.setCell ⟨B + 1, k / 4, none⟩ v).drew.drew.heap[B + 1]? = some (.cells ((Dig.wordsTo low bs (k + 1)).map u32v).toArray T (0, 0)) ∧
    (wr.setCell ⟨B + 1, k / 4, none⟩ v).drew.drew.heap[B]? = some (.cells ((Dig.wordsTo low bs 0).map u32v).toArray T (0, 0)) ∧
    Below B w (wr.setCell ⟨B + 1, k / 4, none⟩ v).drew.drew := by
  refine ⟨?_, ?_, ((hB.setCell (by simp) _).drew).drew⟩
  · rw [heap_drew, heap_drew, set_list hW, hv, ← List.map_set, Dig.wordsTo_succ]; rfl
  · rw [heap_drew, heap_drew, heap_setCell_other _ _ _ _ (by simp)]; exact hZ

set_option maxHeartbeats 800000 in
theorem words_any (g o : Nat) (b : Bool) (bs : List UInt8) (C : List Value) (T : TypeId) (fr : Nat × Nat) (w : World)
    (hg : w.heap[g]? = some (.cells C.toArray T fr)) (hC : ∀ i, i < 64 → C[o + i]? = some (u8v (bs.getD i 0))) :
    Calls Try.prog 60 #[.pointer (some ⟨g, o, none⟩), .bool b] w fun e w' => e = .returned (.agg ((Dig.words b bs).map u32v).toArray) ∧ Below w.heap.size w w' := by
  go_enter Try.func60, Try.ntmps60
  go_wp2
  go_loopw [10] (fun i wr => ∃ k : Nat, k ≤ 64 ∧ i = .int .i64 k ∧ wr.heap[w.heap.size + 1]? = some (.cells ((Dig.wordsTo b bs k).map u32v).toArray 120 (0, 0)) ∧ wr.heap[w.heap.size]? = some (.cells ((Dig.wordsTo b bs 0).map u32v).toArray 120 (0, 0)) ∧ Below w.heap.size w wr) (fun i _ => 64 - (intOf i).toNat)
  case atStart => exact ⟨0, by omega, rfl, by rw [Dig.wordsTo_zero]; exact heap_alloc2_new _ _ _, by rw [Dig.wordsTo_zero]; exact heap_alloc2_old _ _ _, ((Below.refl _ _).alloc (Nat.le_refl _) _).alloc (by simp) _⟩
  case round =>
    obtain ⟨k, hk, rfl, hW, hZ, hB⟩ := hrel
    by_cases hlt : k < 64
    · have hcell : wr.cell? ⟨g, o + k, none⟩ = some (u8v (bs.getD k 0)) := by
        rw [hB.cell (p := ⟨g, o + k, none⟩) (lt_of_heap hg), cell_of_list hg, hC k hlt]
      have hcell2 : wr.cell? ⟨w.heap.size + 1, k / 4, none⟩ = some (u32v ((Dig.wordsTo b bs k).getD (k / 4) 0)) := by
        exact getD_cell (Dig.length_wordsTo b bs k) (by omega) hW
      have hfr2 : wr.frozen? ⟨w.heap.size + 1, k / 4, none⟩ = false := free_of_list hW _
      obtain ⟨y, hy⟩ : ∃ y, y = bs.getD k 0 := ⟨_, rfl⟩
      obtain ⟨x, hx⟩ : ∃ x, x = (Dig.wordsTo b bs k).getD (k / 4) 0 := ⟨_, rfl⟩
      have R := Lib.hid (fun (v : Value) => words_step (v := v) hB hW hZ)
      rw [← hy] at hcell
      rw [← hx] at hcell2
      have Hy := Lib.hid hy
      have Hx := Lib.hid hx
      have F := Lib.hid (word_or x y)
      clear hW hZ hC hg hx hy hB
      unfold u8v at hcell
      unfold u32v at hcell2
      go_wp2
      go_region
      cases b
      · go_wp2
        go_region
        go_wp2
        go_roundw
        case rel =>
          refine ⟨k + 1, by omega, by go_num, R.out _ ?_⟩
          exact int_eq_u32v (by rw [← Hx.out, ← Hy.out]; exact F.out _)
        case measure => simp [intOf]; omega
      · go_wp2
        go_region
        go_wp2
        go_roundw
        case rel =>
          refine ⟨k + 1, by omega, by go_num, R.out _ ?_⟩
          exact int_eq_u32v (by rw [← Hx.out, ← Hy.out]; exact F.out _)
        case measure => simp [intOf]; omega
    · have hk64 : k = 64 := by omega
      subst hk64
      rw [Dig.words_eq] at hW
      have hr := range_of_list hW
      have hw : wr.there w.heap.size 0 16 := there_of_list hZ (by simp [Dig.length_wordsTo])
      have hlen : ((Dig.words b bs).map u32v).length = 16 := by simp [Dig.length_words]
      have hsz : ((Dig.words b bs).map u32v).toArray.size = 16 := hlen
      go_wp2_with (first | (refine wpList_load_mid rfl 120 _ rfl _ _ rfl _ _ hr Try.underlying120 rfl (by rw [hlen]; kernel_rfl) ?_) | (refine wpList_store_mid rfl 120 _ _ rfl _ _ _ rfl rfl (by rw [hsz]; exact hw) (by rw [hsz]; kernel_rfl) (u32v_one _) ?_))
      refine bodyPost_ret (v := .agg ((Dig.words b bs).map u32v).toArray) ?_ rfl ⟨rfl, below_setCells hB (Nat.le_refl _) _ _⟩
      exact results_mid Try.results60 _ _ w.heap.size 0 _ _ rfl (World.rangeAt_setCells_same _ _ _ _ (by rw [hlen]; exact hw)) Try.underlying120 rfl (by rw [hlen]; kernel_rfl)

end Go.Proofs.Ytdimkgidaioolaa
