/- The walks of SHA-256 and MD5 of a text. -/
import Derived.Test.YtdimkgidaioolaaSum
namespace Go.Proofs.Ytdimkgidaioolaa
open Go.RowKit

def emptyTail : List Value := tailCells 0 (List.replicate 64 0) []
theorem allocTail (w : World) : (Instr.alloc 103 true (.tuple #[])).run Try.prog w = .ok (.pointer (some ⟨w.heap.size, 0, none⟩)) (w.alloc (.cells emptyTail.toArray 103)) := by kernel_rfl
theorem told_empty {g : Nat} {T : TypeId} {I : List UInt8 → List Value → World → Prop} {w : World} (hg : w.heap[g]? = some (.cells emptyTail.toArray T (0, 0))) (hI : I [] [] w) : Told g T I [] w :=
  ⟨List.replicate 64 0, [], by simp, by simp, hg, hI⟩

set_option maxHeartbeats 1000000 in
theorem Sum256_any (s : ByteArray) (hs : s.size ≤ 400000000000000) (w : World) :
    Calls Try.prog 41 #[.string s] w fun e w' => e = .returned (.string ⟨(Dig.sum256 s.data.toList).toArray⟩) ∧ Below w.heap.size w w' := by
  obtain ⟨et, het⟩ : ∃ et, et = emptyTail := ⟨_, rfl⟩
  have HE := Lib.hid het
  have ha := allocTail
  rw [← het] at ha
  clear het
  go_enter Try.func41, Try.ntmps41
  go_wp2_with (first | (go_at_call 47; refine (start256_any _).mono ?_; rintro e w1 ⟨rfl, hb1⟩; have hz := hb1.size) | (refine wpList_alloc rfl 103 rfl et ha ?_; go_frame; (try simp only [World.size_alloc])) | (refine wpList_alloc rfl 104 rfl (zeros 8) alloc8 ?_; go_frame) | (refine wpList_store_new rfl 104 _ _ rfl w1.heap.size (Dig.h256.map u32v) (zeros 8) 104 rfl rfl (heap_alloc_new _ _) (by simp [length_zeros, Dig.length_h256]) (by rw [List.length_map, Dig.length_h256]; kernel_rfl) (u32_ones _) ?_; go_frame) | fail)
  obtain ⟨w2, hw2⟩ : ∃ w2, w2 = (w1.alloc (.cells (zeros 8).toArray 104)).setCells w1.heap.size 0 (Dig.h256.map u32v) := ⟨_, rfl⟩
  rw [← hw2]
  have hz' : w.heap.size + 1 ≤ w1.heap.size := by simpa using hz
  have g0 : w2.heap[w.heap.size]? = some (.cells et.toArray 103 (0, 0)) := by
    rw [hw2, setCells_other (by omega), heap_alloc_old _ _ (by omega), hb1.block _ (by simp)]; exact heap_alloc_new _ _
  have g1 : w2.heap[w1.heap.size]? = some (.cells (Dig.h256.map u32v).toArray 104 (0, 0)) := by
    rw [hw2, setCells_list _ _ _ _ (heap_alloc_new _ _), laid_whole _ _ (by simp [length_zeros, Dig.length_h256])]
  have hb2 : Below w.heap.size w w2 := by
    rw [hw2]; exact below_setCells ((((Below.refl _ _).alloc (Nat.le_refl _) _).trans (hb1.mono (by simp))).alloc (by omega) _) (by omega) _ _
  have hT : Told w.heap.size 103 (Made256 w1.heap.size) [] w2 := told_empty (by rw [← HE.out]; exact g0) ⟨rfl, by rw [Dig.fold_nil]; exact g1⟩
  clear hw2 g0 g1 hb1 hz
  refine (add_any 49 _ _ _ _ _ _ (takes256 w.heap.size w1.heap.size 103 (by omega)) [] s (by simp; omega) _ hT).mono ?_
  rintro e w3 ⟨rfl, hT3, hk3⟩
  obtain ⟨rs, R, hrs, ht, hg, hR, hS⟩ := hT3
  subst hR
  rw [List.nil_append] at ht hg hS
  have hb3 : Below w.heap.size w w3 := hb2.trans ((hk3.mono (B := w.heap.size) (ws := [w.heap.size, w1.heap.size]) (hb2.size) (fun _ _ h => h)).below (by simp; omega))
  obtain ⟨told, htold⟩ : ∃ told, told = s.data.toList := ⟨_, rfl⟩
  rw [← htold] at ht hg hS
  obtain ⟨tc, htc⟩ : ∃ tc, tc = tailCells told.length rs [] := ⟨_, rfl⟩
  rw [← htc] at hg
  obtain ⟨W, hWd⟩ : ∃ W, W = Dig.fold Dig.turn256 Dig.h256 (told.take (told.length / 64 * 64)) := ⟨_, rfl⟩
  have hWl : (W.map u32v).length = 8 := by rw [List.length_map, hWd]; exact Dig.length_fold256 _
  rw [← hWd] at hS
  have htl : tc.length = 65 := by rw [htc]; simp [tailCells, hrs]
  have htb : told.length ≤ 500000000000000 := by rw [htold, size_toList]; omega
  have H1 := Lib.hid htold
  have H2 := Lib.hid htc
  have H3 := Lib.hid hWd
  have HS := Lib.hid hS
  have HG := Lib.hid hg
  have HT := Lib.hid ht
  have HB := Lib.hid hb3
  have HW := Lib.hid hWl
  have HC := Lib.hid htl
  have HR := Lib.hid hrs
  clear htold htc hWd hS hg ht hb3 hWl htl hrs hk3 hb2 hT ha
  go_wp2_with (first | (go_at_call 50; rw [H3.out, H2.out]; refine (end256_any told rs htb HR.out HT.out _).mono ?_; rintro e w4 ⟨rfl, hb4⟩) | (refine wpList_load_mid rfl 104 _ rfl _ _ rfl _ _ (range_of_list HS.out) Try.underlying104 rfl (by rw [HW.out]; kernel_rfl) ?_; go_frame) | (refine wpList_load_mid rfl 103 _ rfl _ _ rfl _ _ (range_of_list HG.out) Try.underlying103 rfl (by rw [HC.out]; kernel_rfl) ?_; go_frame))
  go_ret
  refine ⟨?_, HB.out.trans (hb4.mono HB.out.size)⟩
  rw [← H1.out]; rfl
end Go.Proofs.Ytdimkgidaioolaa
