/- The walks of Rank and Invert. -/
import Derived.Test.YteanbflbclmeeaaGreatMHand
namespace Go.Proofs.YteanbflbclmeeaaGreat
open Go.RowKit

/-- A box that has just been made for a table. -/
theorem boxed {w0 w1 w2 : World} {o : Obj} {g r c N : Nat} {M : Mat} (h2 : w2.heap[w1.heap.size]? = some (.cells (tabRow g r c N).toArray 104 (0, 0))) (k2 : Kept (w1.alloc o).heap.size [w1.heap.size] (w1.alloc o) w2) (hT : Tab g M r c w1) (hK : Kept w0.heap.size [g] w0 w1) :
    BoxS w1.heap.size g r c N M w0 w2 ∧ Below w1.heap.size w1 w2 := by
  have hB2 : Below w1.heap.size w1 w2 := below_kept ((Below.refl _ _).alloc (Nat.le_refl _) _) k2 (Nat.le_refl _) (by simp)
  exact ⟨⟨h2, hT.below hB2 hT.lt, hK.trans (Kept.of_below (hB2.mono hK.size)), by have := hT.lt; omega⟩, hB2⟩
theorem layM_whole (r c : Nat) (X : Mat) : Alike r c (layM 0 0 c r X zeroM) X := fun a b ha hb => by
  unfold layM
  rw [if_pos (by omega), Nat.sub_zero, Nat.sub_zero]
/-- A box with a matrix that was handed in. -/
def BoxM (B : Nat) (r c : Nat) (b o len cap : Nat) (w : World) : Prop := w.heap[B]? = some (.cells [Value.int .i64 r, .int .i64 c, .slice (some ⟨b, o, none⟩) len cap].toArray 62 (0, 0))
theorem BoxM.below {B r c b o len cap B0 : Nat} {w w' : World} (h : BoxM B r c b o len cap w) (hb : Below B0 w w') (hB : B < B0) : BoxM B r c b o len cap w' := (hb.block B hB).trans h
theorem BoxM.kept {B r c b o len cap g : Nat} {w w' : World} (h : BoxM B r c b o len cap w) (hk : Kept w.heap.size [g] w w') (hB : B ≠ g) : BoxM B r c b o len cap w' := (hk.block B (lt_of_heap h) (by simp; exact hB)).trans h
theorem BoxM.lt {B r c b o len cap : Nat} {w : World} (h : BoxM B r c b o len cap w) : B < w.heap.size := lt_of_heap h
/-- What an error leaves, behind the block for what is answered. -/
theorem fail_post {w w1 w2 : World} {R g code : Nat} (hc : code ≠ 0) (hB : Below w.heap.size w w1) (hR : w.heap.size ≤ R) (hg : w.heap.size ≤ g) (hF : FaultAt g code 0 w1) (hne : g ≠ R) (k2 : Kept w1.heap.size [R] w1 w2) :
    PA w.heap.size code 0 0 zeroM noneV (faultV g) w2 ∧ Below w.heap.size w w2 := by
  exact ⟨PA.err hc hg (hF.keep (k2.block g hF.lt (by simp; exact hne))), below_kept hB k2 hR hB.size⟩
/-- Boxes at the beginning of a call with one matrix: the matrix, and a block for the answer. -/
theorem start2 (w : World) (x : Obj) : ResAt (w.heap.size + 1) 62 ((w.alloc x).alloc (.cells zeroRow.toArray 62)) ∧ Below w.heap.size w ((w.alloc x).alloc (.cells zeroRow.toArray 62)) ∧ ((w.alloc x).alloc (.cells zeroRow.toArray 62)).heap[w.heap.size]? = (w.alloc x).heap[w.heap.size]? :=
  ⟨heap_alloc2_new _ _ _, ((Below.refl _ _).alloc (Nat.le_refl _) _).alloc (by simp) _, heap_alloc_old _ _ (by simp)⟩
set_option maxHeartbeats 1000000 in
theorem Invert_bad (r c : Int) (a0 : Option Addr) (len cap : Nat) (hr : rightB r c len = false) (w : World) : Calls Tryz.prog 39 #[.agg #[.int .i64 r, .int .i64 c, .slice a0 len cap]] w fun e w' => ∃ V E, e = .returned (.tuple #[V, E]) ∧ PA w.heap.size 1 0 0 zeroM V E w' ∧ Below w.heap.size w w' := by
  obtain ⟨s1, s2, _⟩ := start2 w (.cells #[.int .i64 r, .int .i64 c, .slice a0 len cap] 62)
  have S1 := Lib.hid s1
  have S2 := Lib.hid s2
  clear s1 s2
  go_enter Tryz.func39, Tryz.ntmps39
  go_wp2_with fail
  refine (Right_any r c a0 len cap _).mono ?_
  rintro e w1 ⟨rfl, hb1⟩
  rw [hr]
  have R1 := Lib.hid (S1.out.below hb1 S1.out.lt)
  have B1 := Lib.hid (S2.out.trans (hb1.mono S2.out.size))
  clear hb1
  go_wp2_with fail
  refine (nothing_any 1 _).mono ?_
  rintro e w2 ⟨g, hg, rfl, hF, hb2⟩
  have R2 := Lib.hid (R1.out.below hb2 R1.out.lt)
  have B2 := Lib.hid (B1.out.trans (hb2.mono B1.out.size))
  have HF := Lib.hid hF
  have hgr : g ≠ w.heap.size + 1 := by have := R1.out.lt; omega
  clear hb2 hF
  unfold noneV faultV
  go_wp2_with (refine wpList_store_whole rfl 62 _ _ rfl (w.heap.size + 1) zeroRow zeroRow 62 rfl rfl R2.out rfl (by kernel_rfl) (by decide) ?_; intro w3 h3 k3 s3; go_frame)
  have := fail_post (code := 1) (by decide) B2.out (Nat.le_succ _) (Nat.le_trans B1.out.size hg) HF.out hgr k3.out
  exact bodyPost_ret (results_mid2 Tryz.results39 _ _ (w.heap.size + 1) 0 zeroRow _ rfl (range_of_list h3.out) Tryz.underlying62 rfl (by kernel_rfl)) rfl ⟨_, _, rfl, this.1, this.2⟩
set_option maxHeartbeats 1000000 in
theorem Invert_shape (rn cn b o len cap : Nat) (hr : rightB rn cn len = true) (hne : rn ≠ cn) (w : World) :
    Calls Tryz.prog 39 #[.agg #[.int .i64 rn, .int .i64 cn, .slice (some ⟨b, o, none⟩) len cap]] w fun e w' => ∃ V E, e = .returned (.tuple #[V, E]) ∧ PA w.heap.size 19 0 0 zeroM V E w' ∧ Below w.heap.size w w' := by
  obtain ⟨s1, s2, s3⟩ := start2 w (.cells #[.int .i64 rn, .int .i64 cn, .slice (some ⟨b, o, none⟩) len cap] 62)
  have S1 := Lib.hid s1
  have S2 := Lib.hid s2
  have S3 := Lib.hid s3
  have hnb := nat_ne_B (i := cn) (p := rn) (fun h => hne h.symm)
  clear s1 s2 s3 hne
  go_enter Tryz.func39, Tryz.ntmps39
  go_wp2_with fail
  refine (Right_any _ _ _ len cap _).mono ?_
  rintro e w1 ⟨rfl, hb1⟩
  rw [hr]
  have R1 := Lib.hid (S1.out.below hb1 S1.out.lt)
  have B1 := Lib.hid (S2.out.trans (hb1.mono S2.out.size))
  have hM1 : BoxM w.heap.size rn cn b o len cap w1 := ((hb1.block _ (by simp; omega)).trans S3.out).trans (heap_alloc_new _ _)
  have d0 := (heap_cell0 hM1).1
  have d1 := (heap_cell0 hM1).2.1
  clear hb1 hM1
  go_wp2_with fail
  refine (nothing_any 19 _).mono ?_
  rintro e w2 ⟨g, hg, rfl, hF, hb2⟩
  have R2 := Lib.hid (R1.out.below hb2 R1.out.lt)
  have B2 := Lib.hid (B1.out.trans (hb2.mono B1.out.size))
  have HF := Lib.hid hF
  have hgr : g ≠ w.heap.size + 1 := by have := R1.out.lt; omega
  clear hb2 hF d0 d1
  unfold noneV faultV
  go_wp2_with (refine wpList_store_whole rfl 62 _ _ rfl (w.heap.size + 1) zeroRow zeroRow 62 rfl rfl R2.out rfl (by kernel_rfl) (by decide) ?_; intro w3 h3 k3 s3; go_frame)
  have := fail_post (code := 19) (by decide) B2.out (Nat.le_succ _) (Nat.le_trans B1.out.size hg) HF.out hgr k3.out
  exact bodyPost_ret (results_mid2 Tryz.results39 _ _ (w.heap.size + 1) 0 zeroRow _ rfl (range_of_list h3.out) Tryz.underlying62 rfl (by kernel_rfl)) rfl ⟨_, _, rfl, this.1, this.2⟩
theorem lay_aug (n m : Nat) (hm : m = 2 * n) (X : Mat) : Alike n m (layM 0 n n n dl (layM 0 0 n n X zeroM)) (aug n X) := fun a b ha hb => by
  unfold layM aug
  by_cases h : b < n
  · rw [if_neg (by omega), if_pos (by omega), if_pos h, Nat.sub_zero, Nat.sub_zero]
  · rw [if_pos (by omega), if_neg h, Nat.sub_zero]
def invTo (n : Nat) (W : Mat) (i : Nat) : Mat := fun a b => if a < i then W a (n + b) else 0
theorem invTo_zero (n : Nat) (W : Mat) : invTo n W 0 = zeroM := by funext a b; unfold invTo; rw [if_neg (by omega)]
theorem invTo_step (n : Nat) (W : Mat) (i : Nat) : setRow i (fun b => W i (n + b)) (invTo n W i) = invTo n W (i + 1) := by
  funext a b
  unfold setRow invTo
  by_cases h : a = i
  · subst h; rw [if_pos rfl, if_pos (by omega)]
  · rw [if_neg h]
    by_cases h2 : a < i
    · rw [if_pos h2, if_pos (by omega)]
    · rw [if_neg h2, if_neg (by omega)]
theorem text_from (f : Nat → UInt8) (n k c : Nat) (h : n + k = c) : (textOf f c).drop n = textOf (fun b => f (n + b)) k := by
  apply List.ext_getElem?
  intro j
  rw [List.getElem?_drop]
  by_cases hj : j < k
  · rw [textOf_get _ _ _ (by omega), textOf_get _ _ _ hj]
  · rw [List.getElem?_eq_none (by rw [length_textOf]; omega), List.getElem?_eq_none (by rw [length_textOf]; omega)]
theorem range_drop {w : World} {b o : Nat} {cs : List Value} (h : w.rangeAt b o cs) (n : Nat) : w.rangeAt b (o + n) (cs.drop n) := fun j v hv => by
  rw [List.getElem?_drop] at hv
  rw [Nat.add_assoc]; exact h (n + j) v hv
end Go.Proofs.YteanbflbclmeeaaGreat
