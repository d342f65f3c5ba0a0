/- What wraps an error of the project's own kind. -/
import Derived.Test.YtafhkpmfcmlbfaaGreatDoorJWrap
namespace Go.Proofs.YtafhkpmfcmlbfaaGreatDoor
open Go.RowKit

/-- The cell that errors.As reads is as main's init lays it. -/
def ErrCell (w : World) : Prop := w.cell? ⟨0, 0, none⟩ = some (.iface 162 (.agg #[.pointer (some ⟨2, 37, none⟩)]))
theorem ErrCell.lt {w : World} (h : ErrCell w) : 0 < w.heap.size := by
  rcases Nat.eq_zero_or_pos w.heap.size with h0 | h1
  · unfold ErrCell at h; simp [World.cell?, h0] at h
  · exact h1
theorem ErrCell.keep {w w' : World} (h : ErrCell w) (hk : w'.heap[0]? = w.heap[0]?) : ErrCell w' := by
  unfold ErrCell World.cell? at *
  rw [← h]
  simp only [hk]
theorem ErrCell.below {w w' : World} (h : ErrCell w) (hb : Below w.heap.size w w') : ErrCell w' := h.keep (hb.block 0 h.lt)
theorem allocPF (w : World) : (Instr.alloc 108 true (.tuple #[])).run Tryz.prog w = .ok (.pointer (some ⟨w.heap.size, 0, none⟩)) (w.alloc (.cells [Value.pointer none].toArray 108)) := by kernel_rfl
theorem As_fault (g t : Nat) (v w : World) (ht : t = v.heap.size) (hw : w = v.alloc (.cells [Value.pointer none].toArray 108)) (hg : ErrCell v) :
    Calls Tryz.prog 63 #[.iface 108 (.pointer (some ⟨g, 0, none⟩)), .iface 113 (.pointer (some ⟨t, 0, none⟩))] w fun e w' => e = .returned (.bool true) ∧ w'.cell? ⟨t, 0, none⟩ = some (.pointer (some ⟨g, 0, none⟩)) ∧ Below v.heap.size v w' := by
  have hbw : Below v.heap.size v w := by rw [hw]; exact (Below.refl _ _).alloc (Nat.le_refl _) _
  have hs : w.heap.size = t + 1 := by rw [hw, ht]; simp
  refine (As_hit ⟨g, 0, none⟩ ⟨t, 0, none⟩ (.pointer none) w (hg.below hbw) ?_ ?_).mono ?_
  · rw [hw, ht]; simp
  · rw [hw, ht]; rw [frozen?_alloc_cells]; simp [World.frozen?]
  · rintro e w' ⟨rfl, rfl⟩
    refine ⟨rfl, ?_, ?_⟩
    · obtain ⟨v5, hv5⟩ : ∃ x, x = (((w.alloc (.cells #[.pointer (some ⟨t, 0, none⟩)] 113)).alloc (.cells #[.pointer (some ⟨2, 113, none⟩), .pointer (some ⟨w.heap.size, 0, none⟩), .int .u64 150] 151)).alloc (.cells #[.pointer (some ⟨2, 113, none⟩), .pointer (some ⟨w.heap.size, 0, none⟩), .int .u64 150] 151)).alloc (.cells #[.pointer (some ⟨g, 0, none⟩)] 108) := ⟨_, rfl⟩
      rw [← hv5]
      have hb5 : Below w.heap.size w v5 := by
        rw [hv5]
        exact ((((Below.refl _ _).alloc (Nat.le_refl _) _).alloc (by simp; try omega) _).alloc (by simp; try omega) _).alloc (by simp; try omega) _
      have h1 : v5.cell? ⟨t, 0, none⟩ = some (.pointer none) := by rw [hb5.cell (by show t < _; omega), hw, ht]; simp
      exact World.cell?_setCell_same _ _ _ h1
    · refine hbw.trans (Below.setCell ?_ (by show _ ≤ t; omega) _)
      have hh : v.heap.size ≤ w.heap.size := by omega
      exact ((((Below.refl _ _).mono (Nat.le_refl _)).alloc (Nat.le_refl _) _).alloc (by simp; try omega) _).alloc (by simp; try omega) _ |>.alloc (by simp; try omega) _ |>.mono hh
set_option maxHeartbeats 1000000 in
theorem wrapped_fault (g : Nat) (w : World) (hg : ErrCell w) (h : FaultAt g 10 0 w) :
    Calls Tryz.prog 80 #[faultV g] w fun e w' => ∃ g' : Nat, w.heap.size ≤ g' ∧ e = .returned (faultV g') ∧ w'.heap[g']? = some (.cells [Value.int .i64 10, .int .i64 0, faultV g].toArray 111 (0, 0)) ∧ Below w.heap.size w w' := by
  unfold faultV
  have HG := Lib.hid hg
  have H := Lib.hid h
  clear hg h
  go_enter Tryz.func80, Tryz.ntmps80
  go_wp2_with (first | (refine wpList_alloc rfl 108 rfl _ allocPF ?_; go_frame) | fail)
  obtain ⟨t, ht⟩ : ∃ t, t = w.heap.size := ⟨_, rfl⟩
  obtain ⟨w1, hw1⟩ : ∃ x, x = w.alloc (.cells [Value.pointer none].toArray 108) := ⟨_, rfl⟩
  rw [← ht, ← hw1]
  have HA := Lib.hid (As_fault g t w w1 ht hw1 HG.out)
  have HT := Lib.hid ht
  clear hw1 ht
  go_wp2_with fail
  refine HA.out.mono ?_
  rintro e w2 ⟨rfl, c0, hb⟩
  have hF := H.out.keep (hb.block g H.out.lt)
  have c1 : w2.cell? ⟨g, 0, none⟩ = some (.int .i64 10) := by rw [cell_of_list hF]; rfl
  have HB := Lib.hid hb
  clear hF hb HA
  go_wp2_with fail
  go_region
  go_wp2_with fail
  go_ret
  have hFg := heap_alloc_new w2 (.cells [Value.int .i64 10, .int .i64 0, faultV g].toArray 111)
  exact ⟨w2.heap.size, HB.out.size, rfl, hFg, (HB.out.alloc HB.out.size _).drew⟩
end Go.Proofs.YtafhkpmfcmlbfaaGreatDoor
