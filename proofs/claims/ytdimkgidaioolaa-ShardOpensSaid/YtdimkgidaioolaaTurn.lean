/- The walks of SHA-256's block: the constants, the words that are made of a block's, the rounds. -/
import Derived.Test.YtdimkgidaioolaaHash
import Derived.Deep.RegionLaw
import Derived.Maps.RangeWalk
namespace Go.Proofs.Ytdimkgidaioolaa
open Go.RowKit

def zeros (n : Nat) : List Value := List.replicate n (.int .u32 0)
theorem length_zeros (n : Nat) : (zeros n).length = n := by simp [zeros]

theorem alloc64 (w : World) : (Instr.alloc 81 true (.tuple #[])).run Try.prog w = .ok (.pointer (some ⟨w.heap.size, 0, none⟩)) (w.alloc (.cells (zeros 64).toArray 81)) := by kernel_rfl
theorem alloc16 (w : World) : (Instr.alloc 120 true (.tuple #[])).run Try.prog w = .ok (.pointer (some ⟨w.heap.size, 0, none⟩)) (w.alloc (.cells (zeros 16).toArray 120)) := by kernel_rfl

theorem alloc8 (w : World) : (Instr.alloc 104 true (.tuple #[])).run Try.prog w = .ok (.pointer (some ⟨w.heap.size, 0, none⟩)) (w.alloc (.cells (zeros 8).toArray 104)) := by kernel_rfl

theorem addends256_any (w : World) : Calls Try.prog 54 #[] w fun e w' => e = .returned (.agg (Dig.k256.map u32v).toArray) ∧ Below w.heap.size w w' := by
  go_enter Try.func54, Try.ntmps54
  go_wp2_with (first | (refine wpList_alloc rfl 81 rfl (zeros 64) alloc64 ?_) | (refine wpList_build rfl 81 _ rfl (Dig.k256.map u32v) (by kernel_rfl) ?_) | (refine wpList_store_new rfl 81 _ _ rfl w.heap.size (Dig.k256.map u32v) (zeros 64) 81 rfl rfl (heap_alloc_new _ _) (by simp [length_zeros, Dig.length_k256]) (by kernel_rfl) (u32_ones _) ?_))
  refine bodyPost_ret (v := .agg (Dig.k256.map u32v).toArray) ?_ rfl ⟨rfl, below_setCells ((Below.refl _ _).alloc (Nat.le_refl _) _) (Nat.le_refl _) _ _⟩
  exact results_mid Try.results54 _ _ w.heap.size 0 _ _ rfl (World.rangeAt_setCells_same _ _ _ _ (there_of_list (heap_alloc_new _ _) (by simp [length_zeros, Dig.length_k256]))) Try.underlying81 rfl (by kernel_rfl)
theorem start256_any (w : World) : Calls Try.prog 47 #[] w fun e w' => e = .returned (.agg (Dig.h256.map u32v).toArray) ∧ Below w.heap.size w w' := by
  go_enter Try.func47, Try.ntmps47
  go_wp2_with (first | (refine wpList_alloc rfl 104 rfl (zeros 8) alloc8 ?_) | (refine wpList_build rfl 104 _ rfl (Dig.h256.map u32v) (by kernel_rfl) ?_) | (refine wpList_store_new rfl 104 _ _ rfl w.heap.size (Dig.h256.map u32v) (zeros 8) 104 rfl rfl (heap_alloc_new _ _) (by simp [length_zeros, Dig.length_h256]) (by kernel_rfl) (u32_ones _) ?_))
  refine bodyPost_ret (v := .agg (Dig.h256.map u32v).toArray) ?_ rfl ⟨rfl, below_setCells ((Below.refl _ _).alloc (Nat.le_refl _) _) (Nat.le_refl _) _ _⟩
  exact results_mid Try.results47 _ _ w.heap.size 0 _ _ rfl (World.rangeAt_setCells_same _ _ _ _ (there_of_list (heap_alloc_new _ _) (by simp [length_zeros, Dig.length_h256]))) Try.underlying104 rfl (by kernel_rfl)

theorem laid_front (vs r : List Value) : ∀ (h : List Value), laid (h ++ (List.replicate vs.length (.int .u32 0) ++ r)) h.length vs = h ++ (vs ++ r) := by
  induction vs with
  | nil => intro h; simp [laid]
  | cons v vs ih =>
    intro h
    have := ih (h ++ [v])
    simp only [List.length_append, List.length_cons, List.length_nil, Nat.zero_add, List.append_assoc, List.cons_append, List.nil_append] at this
    rw [laid]
    refine Eq.trans ?_ (this.trans (by simp))
    congr 1
    simp [List.replicate_succ]
theorem zeros_add (n m : Nat) : List.replicate n (Value.int .u32 0) ++ List.replicate m (.int .u32 0) = zeros (n + m) := by
  rw [zeros, List.replicate_append_replicate]
theorem u32v_zero : u32v 0 = .int .u32 0 := rfl
theorem laid_zeros (vs : List Value) (m n : Nat) (hn : n = vs.length + m) : laid (zeros n) 0 vs = vs ++ List.replicate m (.int .u32 0) := by
  subst hn
  have h := laid_front vs (List.replicate m (.int .u32 0)) []
  simp only [List.nil_append, List.length_nil] at h
  rw [zeros_add] at h
  exact h
theorem spread_start (bs : List UInt8) : laid (zeros 64) 0 ((Dig.words false bs).map u32v) = (Dig.spreadTo bs 0).map u32v := by
  rw [laid_zeros _ 48 64 (by rw [List.length_map, Dig.length_words]), Dig.spreadTo_zero, List.map_append, List.map_replicate, u32v_zero]
theorem spread_step {w wr : World} {bs : List UInt8} {j : Nat} {B : Nat} {T : TypeId} {v : Value} (hB : Below B w wr) (hj : 16 ≤ j)
    (hZ : wr.heap[B + 1]? = some (.cells ((Dig.spreadTo bs (j - 16)).map u32v).toArray T (0, 0))) (hY : wr.heap[B]? = some (.cells (zeros 64).toArray T (0, 0)))
    (hv : v = u32v (Dig.ad (Dig.ad (Dig.ad (Dig.near ((Dig.spreadTo bs (j - 16)).getD (j - 2) 0)) ((Dig.spreadTo bs (j - 16)).getD (j - 7) 0)) (Dig.far ((Dig.spreadTo bs (j - 16)).getD (j - 15) 0))) ((Dig.spreadTo bs (j - 16)).getD (j - 16) 0))) :
    (wr.setCell ⟨B + 1, j, none⟩ v).drew.drew.heap[B + 1]? = some (.cells ((Dig.spreadTo bs (j + 1 - 16)).map u32v).toArray T (0, 0)) ∧
    (wr.setCell ⟨B + 1, j, none⟩ v).drew.drew.heap[B]? = some (.cells (zeros 64).toArray T (0, 0)) ∧
    Below B w (wr.setCell ⟨B + 1, j, none⟩ v).drew.drew := by
  obtain ⟨k, rfl⟩ : ∃ k, j = 16 + k := ⟨j - 16, by omega⟩
  refine ⟨?_, ?_, ((hB.setCell (by simp) _).drew).drew⟩
  · rw [heap_drew, heap_drew, set_list hZ, hv, ← List.map_set]
    rw [show 16 + k - 16 = k from by omega, show 16 + k + 1 - 16 = k + 1 from by omega, Dig.spreadTo_succ, Dig.spreadStep,
      show 16 + k - 2 = 14 + k from by omega, show 16 + k - 7 = 9 + k from by omega, show 16 + k - 15 = 1 + k from by omega]
  · rw [heap_drew, heap_drew, heap_setCell_other _ _ _ _ (by simp)]; exact hY
attribute [local go_sem] go_add go_add' go_xor fold_shr10 fold_shr3
set_option maxHeartbeats 800000 in
theorem spread256_any (g o : Nat) (bs : List UInt8) (C : List Value) (T : TypeId) (fr : Nat × Nat) (w : World)
    (hg : w.heap[g]? = some (.cells C.toArray T fr)) (hC : ∀ i, i < 64 → C[o + i]? = some (u8v (bs.getD i 0))) :
    Calls Try.prog 55 #[.pointer (some ⟨g, o, none⟩)] w fun e w' => e = .returned (.agg ((Dig.spread bs).map u32v).toArray) ∧ Below w.heap.size w w' := by
  have hgB := lt_of_heap hg
  go_enter Try.func55, Try.ntmps55
  go_wp2_with (first | (refine wpList_alloc rfl 81 rfl (zeros 64) alloc64 ?_) | fail)
  refine (words_any g o false bs C T fr _ (by rw [heap_alloc_old _ _ (by simp; omega), heap_alloc_old _ _ hgB]; exact hg) hC).mono ?_
  rintro e w1 ⟨rfl, hb1⟩
  go_wp2_with (first | (refine wpList_alloc rfl 120 rfl (zeros 16) alloc16 ?_) | (refine wpList_store_new rfl 120 _ _ rfl w1.heap.size ((Dig.words false bs).map u32v) (zeros 16) 120 rfl rfl (heap_alloc_new _ _) (by simp [length_zeros, Dig.length_words]) (by rw [List.length_map, Dig.length_words]; kernel_rfl) (u32_ones _) ?_; go_frame) | fail)
  obtain ⟨w2, hw2⟩ : ∃ w2, w2 = (w1.alloc (.cells (zeros 16).toArray 120)).setCells w1.heap.size 0 ((Dig.words false bs).map u32v) := ⟨_, rfl⟩
  rw [← hw2]
  have hsz1 := hb1.size
  simp only [World.size_alloc] at hsz1
  have hlw : ((Dig.words false bs).map u32v).length = 16 := by rw [List.length_map, Dig.length_words]
  have hr2 : w2.rangeAt w1.heap.size 0 ((Dig.words false bs).map u32v) := by
    rw [hw2]; exact World.rangeAt_setCells_same _ _ _ _ (there_of_list (heap_alloc_new _ _) (by rw [length_zeros, hlw]; omega))
  have hz2 : w2.heap[w.heap.size + 1]? = some (.cells (zeros 64).toArray 81 (0, 0)) := by
    rw [hw2, setCells_other (by omega), heap_alloc_old _ _ (by omega), hb1.block _ (by simp)]; exact heap_alloc2_new _ _ _
  have hy2 : w2.heap[w.heap.size]? = some (.cells (zeros 64).toArray 81 (0, 0)) := by
    rw [hw2, setCells_other (by omega), heap_alloc_old _ _ (by omega), hb1.block _ (by simp; omega)]; exact heap_alloc2_old _ _ _
  have hb2 : Below w.heap.size w w2 := by
    rw [hw2]; exact below_setCells ((((Below.refl _ _).alloc (Nat.le_refl _) _).alloc (by simp) _ |>.trans (hb1.mono (by simp; omega))).alloc (by omega) _) (by omega) _ _
  have ht2 : w2.there (w.heap.size + 1) 0 ((Dig.words false bs).map u32v).length := there_of_list hz2 (by rw [hlw, length_zeros]; omega)
  have Hz := Lib.hid hz2
  have Hy := Lib.hid hy2
  clear hw2 hz2 hy2
  go_region_law (first | (refine step_copy_cells rfl (.tmp 10) (.tmp 11) 118 118 rfl 79 Try.underlying118 (by kernel_rfl) (w.heap.size + 1) 0 64 64 w1.heap.size 0 16 16 rfl rfl ((Dig.words false bs).map u32v) (by rw [hlw]; rfl) hr2 ht2 (u32_ones _) ?_; go_frame) | fail)
  go_wp2
  obtain ⟨w3, hw3⟩ : ∃ w3, w3 = w2.drew.setCells (w.heap.size + 1) 0 ((Dig.words false bs).map u32v) := ⟨_, rfl⟩
  rw [← hw3]
  have hZ3 : w3.heap[w.heap.size + 1]? = some (.cells ((Dig.spreadTo bs 0).map u32v).toArray 81 (0, 0)) := by
    rw [hw3, setCells_list _ _ _ _ (by rw [heap_drew]; exact Hz.out), spread_start]
  have hY3 : w3.heap[w.heap.size]? = some (.cells (zeros 64).toArray 81 (0, 0)) := by
    rw [hw3, setCells_other (by omega), heap_drew]; exact Hy.out
  have hB3 : Below w.heap.size w w3 := by rw [hw3]; exact below_setCells hb2.drew (by omega) _ _
  clear hw3 Hz Hy hb2 ht2 hr2 hlw hsz1 hb1 hg hC hgB
  go_loopw [5] (fun i wr => ∃ j : Nat, 16 ≤ j ∧ j ≤ 64 ∧ i = .int .i64 j ∧ wr.heap[w.heap.size + 1]? = some (.cells ((Dig.spreadTo bs (j - 16)).map u32v).toArray 81 (0, 0)) ∧ wr.heap[w.heap.size]? = some (.cells (zeros 64).toArray 81 (0, 0)) ∧ Below w.heap.size w wr) (fun i _ => 64 - (intOf i).toNat)
  case atStart => exact ⟨16, by omega, by omega, rfl, hZ3, hY3, hB3⟩
  case round =>
    clear hZ3 hY3 hB3
    obtain ⟨j, hj1, hj2, rfl, hZ, hY, hB⟩ := hrel
    by_cases hlt : j < 64
    · have hl := Dig.length_spreadTo bs (j - 16)
      have c1 := getD_cell hl (i := j - 2) (by omega) hZ
      have c2 := getD_cell hl (i := j - 15) (by omega) hZ
      have c3 := getD_cell hl (i := j - 7) (by omega) hZ
      have c4 := getD_cell hl (i := j - 16) (by omega) hZ
      have f1 : wr.frozen? ⟨w.heap.size + 1, j, none⟩ = false := free_of_list hZ _
      have c5 := getD_cell hl (i := j) (by omega) hZ
      obtain ⟨x1, hx1⟩ : ∃ x, x = (Dig.spreadTo bs (j - 16)).getD (j - 2) 0 := ⟨_, rfl⟩
      obtain ⟨x2, hx2⟩ : ∃ x, x = (Dig.spreadTo bs (j - 16)).getD (j - 15) 0 := ⟨_, rfl⟩
      obtain ⟨x3, hx3⟩ : ∃ x, x = (Dig.spreadTo bs (j - 16)).getD (j - 7) 0 := ⟨_, rfl⟩
      obtain ⟨x4, hx4⟩ : ∃ x, x = (Dig.spreadTo bs (j - 16)).getD (j - 16) 0 := ⟨_, rfl⟩
      obtain ⟨x5, hx5⟩ : ∃ x, x = (Dig.spreadTo bs (j - 16)).getD j 0 := ⟨_, rfl⟩
      rw [← hx1] at c1
      rw [← hx2] at c2
      rw [← hx3] at c3
      rw [← hx4] at c4
      rw [← hx5] at c5
      unfold u32v at c1 c2 c3 c4 c5
      have H1 := Lib.hid hx1
      have H2 := Lib.hid hx2
      have H3 := Lib.hid hx3
      have H4 := Lib.hid hx4
      have HZ := Lib.hid hZ
      have HY := Lib.hid hY
      clear hx1 hx2 hx3 hx4 hx5 hZ hY hl
      go_wp2
      go_region
      go_wp2_with (go_at_call 56; refine (rot_lit _ _ _).mono ?_; rintro e w' ⟨rfl, rfl⟩)
      go_region
      go_wp2
      go_roundw
      case rel =>
        refine ⟨j + 1, by omega, by omega, by go_num, spread_step hB hj1 HZ.out HY.out ?_⟩
        rw [← H1.out, ← H2.out, ← H3.out, ← H4.out, Dig.near_eq, Dig.far_eq]
        rfl
      case measure => simp [intOf]; omega
    · obtain rfl : j = 64 := by omega
      rw [Dig.spread_eq] at hZ
      have hlen : ((Dig.spread bs).map u32v).length = 64 := by rw [List.length_map, Dig.length_spread]
      go_wp2_with (first | (refine wpList_load_mid rfl 81 _ rfl _ _ rfl _ _ (range_of_list hZ) Try.underlying81 rfl (by rw [hlen]; kernel_rfl) ?_) | (refine wpList_store_new rfl 81 _ _ rfl _ ((Dig.spread bs).map u32v) (zeros 64) 81 rfl rfl hY (by rw [hlen, length_zeros]) (by rw [hlen]; kernel_rfl) (u32_ones _) ?_))
      refine bodyPost_ret (v := .agg ((Dig.spread bs).map u32v).toArray) ?_ rfl ⟨rfl, below_setCells hB (Nat.le_refl _) _ _⟩
      exact results_mid Try.results55 _ _ w.heap.size 0 _ _ rfl (World.rangeAt_setCells_same _ _ _ _ (there_of_list hY (by rw [hlen, length_zeros]; omega))) Try.underlying81 rfl (by rw [hlen]; kernel_rfl)

end Go.Proofs.Ytdimkgidaioolaa
