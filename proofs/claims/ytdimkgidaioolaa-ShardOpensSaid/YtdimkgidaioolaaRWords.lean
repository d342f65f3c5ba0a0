/- The walks of the document's own constants of SHA-256 and MD5. -/
import Derived.Test.YtdimkgidaioolaaRPad
import Derived.Test.YtdimkgidaioolaaTurn2
import Derived.Test.YtdimkgidaioolaaTurn5
namespace Go.Proofs.Ytdimkgidaioolaa
open Go.RowKit

theorem alloc72 (w : World) : (Instr.alloc 83 true (.tuple #[])).run Try.prog w = .ok (.pointer (some ⟨w.heap.size, 0, none⟩)) (w.alloc (.cells (zeros 72).toArray 83)) := by kernel_rfl
theorem rwords_any (w : World) : Calls Try.prog 42 #[] w fun e w' => e = .returned (.agg ((Dig.h256 ++ Dig.k256).map u32v).toArray) ∧ Below w.heap.size w w' := by
  go_enter Try.func42, Try.ntmps42
  go_wp2_with (first | (refine wpList_alloc rfl 83 rfl (zeros 72) alloc72 ?_) | (refine wpList_build rfl 80 _ rfl (Dig.h256.map u32v) (by kernel_rfl) ?_) | (refine wpList_build rfl 81 _ rfl (Dig.k256.map u32v) (by kernel_rfl) ?_) | (refine wpList_build rfl 83 _ rfl ((Dig.h256 ++ Dig.k256).map u32v) (by kernel_rfl) ?_) | (refine wpList_store_new rfl 83 _ _ rfl w.heap.size ((Dig.h256 ++ Dig.k256).map u32v) (zeros 72) 83 rfl rfl (heap_alloc_new _ _) (by simp [length_zeros, Dig.length_k256, Dig.length_h256]) (by kernel_rfl) (u32_ones _) ?_))
  refine bodyPost_ret (v := .agg ((Dig.h256 ++ Dig.k256).map u32v).toArray) ?_ rfl ⟨rfl, below_setCells ((Below.refl _ _).alloc (Nat.le_refl _) _) (Nat.le_refl _) _ _⟩
  exact results_mid Try.results42 _ _ w.heap.size 0 _ _ rfl (World.rangeAt_setCells_same _ _ _ _ (there_of_list (heap_alloc_new _ _) (by simp [length_zeros, Dig.length_k256, Dig.length_h256]))) Try.underlying83 rfl (by kernel_rfl)
end Go.Proofs.Ytdimkgidaioolaa
