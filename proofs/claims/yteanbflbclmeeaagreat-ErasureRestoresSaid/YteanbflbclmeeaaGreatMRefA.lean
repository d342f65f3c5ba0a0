/- The document's own small functions of layer 7: Right, matrices of noughts, Identity, Cauchy. -/
import Derived.Test.YteanbflbclmeeaaGreatMCall
namespace Go.Proofs.YteanbflbclmeeaaGreat
open Go.RowKit

/-- A box with a matrix of cells of its own, and the place of the answer. -/
structure BoxR (B g r c N : Nat) (M : Mat) (w0 v : World) : Prop where
  box : v.heap[B]? = some (.cells (tabRow g r c N).toArray 62 (0, 0))
  tab : Tab g M r c v
  res : ResAt w0.heap.size 62 v
  old : Below w0.heap.size w0 v
  gl : w0.heap.size < g
  bl : w0.heap.size < B
  ne : B ≠ g
theorem BoxR.c2 {B g r c N : Nat} {M : Mat} {w0 v : World} (h : BoxR B g r c N M w0 v) : v.cell? ⟨B, 2, none⟩ = some (.slice (some ⟨g, 0, none⟩) N N) := by rw [cell_of_list h.box]; rfl
theorem BoxR.c0 {B g r c N : Nat} {M : Mat} {w0 v : World} (h : BoxR B g r c N M w0 v) : v.cell? ⟨B, 0, none⟩ = some (.int .i64 r) := by rw [cell_of_list h.box]; rfl
theorem BoxR.c1 {B g r c N : Nat} {M : Mat} {w0 v : World} (h : BoxR B g r c N M w0 v) : v.cell? ⟨B, 1, none⟩ = some (.int .i64 c) := by rw [cell_of_list h.box]; rfl
theorem BoxR.set {B g r c N : Nat} {M : Mat} {w0 v : World} (h : BoxR B g r c N M w0 v) {i j : Nat} (hi : i < r) (hj : j < c) (x : UInt8) : BoxR B g r c N (setM i j x M) w0 (v.setCell ⟨g, i * c + j, none⟩ (.int .u8 x.toNat)) := by
  have hk : Kept v.heap.size [g] v (v.setCell ⟨g, i * c + j, none⟩ (.int .u8 x.toNat)) := (Kept.refl _ _ _).setCell (p := ⟨g, i * c + j, none⟩) (by simp) _
  have := h.ne
  have := h.gl
  exact ⟨(hk.block B (lt_of_heap h.box) (by simp; exact h.ne)).trans h.box, h.tab.set hi hj x, (hk.block _ h.res.lt (by simp; omega)).trans h.res, below_kept h.old hk (by omega) h.old.size, h.gl, h.bl, h.ne⟩
theorem BoxR.alike {B g r c N : Nat} {M M' : Mat} {w0 v : World} (h : BoxR B g r c N M w0 v) (ha : Alike r c M M') : BoxR B g r c N M' w0 v := ⟨h.box, h.tab.alike ha, h.res, h.old, h.gl, h.bl, h.ne⟩
theorem mul_wrap {r c N : Nat} (hN : r * c = N) (hmax : N ≤ 1000000) : wrap64 ((r : Int) * (c : Int)) = (N : Int) := by
  have : (r : Int) * (c : Int) = (N : Int) := by rw [← hN]; simp
  rw [this]; unfold wrap64; omega
theorem nought_any (r c N : Nat) (hN : r * c = N) (hmax : N ≤ 1000000) (w : World) :
    Calls Tryz.prog 45 #[.int .i64 r, .int .i64 c] w fun e w' => ∃ g, w.heap.size ≤ g ∧ e = .returned (mv g r c N) ∧ Tab g zeroM r c w' ∧ Below w.heap.size w w' := by
  have hx := mul_wrap hN hmax
  have hm := make_zeros N hmax
  have HN := Lib.hid hN
  clear hN
  go_enter Tryz.func45, Tryz.ntmps45
  go_wp2_with (refine wpList_store_whole rfl 62 _ _ rfl w.heap.size (tabRow (w.heap.size + 1) r c N) zeroRow 62 rfl rfl (by first | exact heap_alloc2_old _ _ _ | exact heap_alloc_old _ _ (by simp)) rfl (by kernel_rfl) (tabRow_ones _ _ _ _) ?_; intro w2 h2 k2 s2; go_frame)
  have hnew := heap_alloc2_new w (.cells zeroRow.toArray 62) (.cells (List.replicate N (Value.int .u8 0)).toArray 5)
  refine bodyPost_ret (results_mid Tryz.results45 _ _ w.heap.size 0 (tabRow (w.heap.size + 1) r c N) _ rfl (range_of_list h2.out) Tryz.underlying62 rfl (by kernel_rfl)) rfl ⟨w.heap.size + 1, by omega, rfl, ?_, ?_⟩
  · exact (tab_zero HN.out hnew).keep (k2.out.block _ (by simp) (by simp))
  · exact below_kept (((Below.refl _ _).alloc (Nat.le_refl _) _).alloc (by simp) _) k2.out (Nat.le_refl _) (by simp; omega)
theorem boxedR {w0 w1 w2 : World} {o : Obj} {g r c N : Nat} {M : Mat} (h2 : w2.heap[w1.heap.size]? = some (.cells (tabRow g r c N).toArray 62 (0, 0))) (k2 : Kept (w1.alloc o).heap.size [w1.heap.size] (w1.alloc o) w2) (hT : Tab g M r c w1) (hR : ResAt w0.heap.size 62 w1) (hK : Below w0.heap.size w0 w1) (hg : w0.heap.size < g) :
    BoxR w1.heap.size g r c N M w0 w2 := by
  have hB2 : Below w1.heap.size w1 w2 := below_kept ((Below.refl _ _).alloc (Nat.le_refl _) _) k2 (Nat.le_refl _) (by simp)
  exact ⟨h2, hT.below hB2 hT.lt, hR.below hB2 hR.lt, hK.trans (hB2.mono hK.size), hg, by have := hT.lt; omega, by have := hT.lt; omega⟩
set_option maxRecDepth 20000 in
set_option maxHeartbeats 2000000 in
theorem rIdent_any (n N : Nat) (hN : n * n = N) (hn1 : 1 ≤ n) (hn : n ≤ 255) (w : World) :
    Calls Tryz.prog 42 #[.int .i64 n] w fun e w' => ∃ g, e = .returned (.tuple #[mv g n n N, .int .i64 0]) ∧ Tab g dl n n w' ∧ Below w.heap.size w w' := by
  have hmax : N ≤ 1000000 := by rw [← hN]; exact Nat.le_trans (Nat.mul_le_mul hn hn) (by decide)
  have HN := Lib.hid hN
  clear hN
  go_enter Tryz.func42, Tryz.ntmps42
  go_wp2_with fail
  refine (nought_any n n N HN.out hmax _).mono ?_
  rintro e w1 ⟨g, hg, rfl, hT, hb⟩
  have hR : ResAt w.heap.size 62 w1 := (hb.block _ (by simp)).trans (heap_alloc_new _ _)
  have hb1 : Below w.heap.size w w1 := ((Below.refl _ _).alloc (Nat.le_refl _) _).trans (hb.mono (by simp))
  have hg1 : w.heap.size < g := by simp at hg; omega
  have HT := Lib.hid hT
  have HR := Lib.hid hR
  have HB := Lib.hid hb1
  clear hT hR hb hb1 hg
  go_wp2_with (refine wpList_store_whole rfl 62 _ _ rfl w1.heap.size (tabRow g n n N) zeroRow 62 rfl rfl (heap_alloc_new _ _) rfl (by kernel_rfl) (tabRow_ones _ _ _ _) ?_; intro w2 h2 k2 s2; go_frame)
  have HB2 : Hid (BoxR w1.heap.size g n n N (identTo 0) w w2) := Lib.hid (by rw [identTo_zero]; exact boxedR h2.out k2.out HT.out HR.out HB.out hg1)
  obtain ⟨b, hbe⟩ : ∃ b, b = w1.heap.size := ⟨_, rfl⟩
  rw [← hbe] at HB2 ⊢
  clear h2 k2 s2 HT HR HB hbe
  go_loopw [5] (fun iv wr => ∃ i : Nat, i ≤ n ∧ iv = .int .i64 i ∧ BoxR b g n n N (identTo i) w wr) (fun iv _ => n - (intOf iv).toNat)
  case atStart => exact ⟨0, by omega, rfl, HB2.out⟩
  case round =>
    clear HB2
    obtain ⟨i, hi, rfl, hB⟩ := hrel
    have d2 := hB.c2
    have H1 := Lib.hid hB
    clear hB
    by_cases hlt : i < n
    · obtain ⟨A, hA⟩ : ∃ A, i * n = A := ⟨_, rfl⟩
      have fA := row_fits HN.out hA hlt
      have hx := mul_wrap hA (show A ≤ 1000000 by omega)
      have hcell : ∃ x, wr.cell? ⟨g, A + i, none⟩ = some x := by
        have := H1.out.tab.src.cell hlt hlt
        rw [Nat.zero_add, hA] at this; exact ⟨_, this⟩
      obtain ⟨x, hcell⟩ := hcell
      have hfree := free_of_list H1.out.tab (A + i)
      have HX : Hid (BoxR b g n n N (identTo (i + 1)) w (wr.setCell ⟨g, A + i, none⟩ (.int .u8 1))) := Lib.hid (by
        have := H1.out.set hlt hlt 1
        rw [hA, identTo_step] at this; exact this)
      clear hA
      go_wp2_with fail
      go_roundw
      case rel => exact ⟨i + 1, by omega, by go_num, HX.out⟩
      case measure => simp [intOf]; omega
    · obtain rfl : i = n := by omega
      have d0 := H1.out.c0
      have d1 := H1.out.c1
      go_wp2_with (refine wpList_store_whole rfl 62 _ _ rfl w.heap.size (tabRow g i i N) zeroRow 62 rfl rfl H1.out.res rfl (by kernel_rfl) (tabRow_ones _ _ _ _) ?_; intro w4 h4 k4 s4; go_frame)
      have hgl := H1.out.gl
      refine bodyPost_ret (results_mid2 Tryz.results42 _ _ w.heap.size 0 (tabRow g i i N) _ rfl (range_of_list h4.out) Tryz.underlying62 rfl (by kernel_rfl)) rfl ⟨g, rfl, ?_, ?_⟩
      · exact (H1.out.tab.alike (identTo_all _ _)).keep (k4.out.block _ H1.out.tab.lt (by simp; omega))
      · exact below_kept H1.out.old k4.out (Nat.le_refl _) H1.out.old.size
end Go.Proofs.YteanbflbclmeeaaGreat
