/- The walk of Under. -/
import Derived.Test.YteanbflbclmeeaaGreatMInv
namespace Go.Proofs.YteanbflbclmeeaaGreat
open Go.RowKit

/-- Boxes with two matrices, and a block for the answer. -/
structure Two (B : Nat) (x1 y1 z1 x2 y2 z2 : Value) (w0 v : World) : Prop where
  a : v.heap[B]? = some (.cells [x1, y1, z1].toArray 62 (0, 0))
  b : v.heap[B + 1]? = some (.cells [x2, y2, z2].toArray 62 (0, 0))
  r : ResAt (B + 2) 62 v
  old : Below w0.heap.size w0 v
theorem Two.below {B : Nat} {x1 y1 z1 x2 y2 z2 : Value} {w0 v v' : World} (h : Two B x1 y1 z1 x2 y2 z2 w0 v) (hb : Below v.heap.size v v') : Two B x1 y1 z1 x2 y2 z2 w0 v' :=
  ⟨(hb.block _ (lt_of_heap h.a)).trans h.a, (hb.block _ (lt_of_heap h.b)).trans h.b, h.r.below hb h.r.lt, h.old.trans (hb.mono h.old.size)⟩
theorem Two.kept {B g : Nat} {x1 y1 z1 x2 y2 z2 : Value} {w0 v v' : World} (h : Two B x1 y1 z1 x2 y2 z2 w0 v) (hk : Kept v.heap.size [g] v v') (h0 : w0.heap.size ≤ g) (h1 : B + 2 < g) : Two B x1 y1 z1 x2 y2 z2 w0 v' :=
  ⟨(hk.block _ (lt_of_heap h.a) (by simp; omega)).trans h.a, (hk.block _ (lt_of_heap h.b) (by simp; omega)).trans h.b, h.r.kept hk (by omega), below_kept h.old hk h0 h.old.size⟩
theorem Two.drew {B : Nat} {x1 y1 z1 x2 y2 z2 : Value} {w0 v : World} (h : Two B x1 y1 z1 x2 y2 z2 w0 v) : Two B x1 y1 z1 x2 y2 z2 w0 v.drew := ⟨h.a, h.b, h.r, h.old.drew⟩
theorem Two.start (w : World) (x1 y1 z1 x2 y2 z2 : Value) : Two w.heap.size x1 y1 z1 x2 y2 z2 w (((w.alloc (.cells #[x1, y1, z1] 62)).alloc (.cells #[x2, y2, z2] 62)).alloc (.cells #[.int .i64 0, .int .i64 0, .slice none 0 0] 62)) := by
  refine ⟨?_, ?_, ?_, (((Below.refl _ _).alloc (Nat.le_refl _) _).alloc (by simp) _).alloc (by simp; omega) _⟩
  · rw [heap_alloc_old _ _ (by simp; omega), heap_alloc_old _ _ (by simp)]; exact heap_alloc_new _ _
  · rw [heap_alloc_old _ _ (by simp)]; exact heap_alloc2_new _ _ _
  · have := heap_alloc_new ((w.alloc (.cells #[x1, y1, z1] 62)).alloc (.cells #[x2, y2, z2] 62)) (.cells #[.int .i64 0, .int .i64 0, .slice none 0 0] 62)
    simp only [World.size_alloc] at this; exact this
theorem right_parts {r c : Int} {len : Nat} (h : rightB r c len = true) : (1 ≤ r ∧ r ≤ 255) ∧ (1 ≤ c ∧ c ≤ 255) ∧ (len : Int) = r * c := by
  rw [rightB_eq, decide_eq_true_eq] at h; exact ⟨⟨h.1, h.2.1⟩, ⟨h.2.2.1, h.2.2.2.1⟩, h.2.2.2.2⟩
theorem int_ne_B {a b : Int} (h : a ≠ b) : (a != b) = true := by simp; exact h
theorem int_eq_B {a b : Int} (h : a = b) : (a != b) = false := by simp [h]
set_option maxHeartbeats 1000000 in
theorem Under_bad1 (ra ca : Int) (a0 : Option Addr) (la capa : Nat) (rb cb : Int) (b0 : Option Addr) (lb capb : Nat) (hA : rightB ra ca la = false) (w : World) : Calls Tryz.prog 62 #[.agg #[.int .i64 ra, .int .i64 ca, .slice a0 la capa], .agg #[.int .i64 rb, .int .i64 cb, .slice b0 lb capb]] w fun e w' => ∃ V E, e = .returned (.tuple #[V, E]) ∧ PA w.heap.size 1 0 0 zeroM V E w' ∧ Below w.heap.size w w' := by
  have T0 := Lib.hid (Two.start w (.int .i64 ra) (.int .i64 ca) (.slice a0 la capa) (.int .i64 rb) (.int .i64 cb) (.slice b0 lb capb))
  have HRA := Lib.hid hA
  clear hA
  go_enter Tryz.func62, Tryz.ntmps62
  go_wp2_with fail
  refine (Right_any ra ca a0 la capa _).mono ?_
  rintro e w1 ⟨rfl, hb1⟩
  rw [HRA.out]
  have T1 := Lib.hid (T0.out.below hb1)
  obtain ⟨p0, p1, p2⟩ := heap_cell0 T1.out.a
  obtain ⟨q0, q1, q2⟩ := heap_cell0 T1.out.b
  clear hb1 T0
  go_wp2_with fail
  refine (nothing_any 1 _).mono ?_
  rintro e w8 ⟨g, hg, rfl, hF, hb8⟩
  have T8 := Lib.hid (T1.out.below hb8)
  have HF := Lib.hid hF
  have hgr : g ≠ w.heap.size + 2 := by have := T1.out.r.lt; omega
  have hgw : w.heap.size ≤ g := Nat.le_trans T1.out.old.size hg
  clear hb8 hF
  unfold noneV faultV
  go_wp2_with (refine wpList_store_whole rfl 62 _ _ rfl (w.heap.size + 2) zeroRow zeroRow 62 rfl rfl T8.out.r rfl (by kernel_rfl) (by decide) ?_; intro w9 h9 k9 s9; go_frame)
  have := fail_post (code := 1) (by decide) T8.out.old (Nat.le_add_right _ 2) hgw HF.out hgr k9.out
  exact bodyPost_ret (results_mid2 Tryz.results62 _ _ (w.heap.size + 2) 0 zeroRow _ rfl (range_of_list h9.out) Tryz.underlying62 rfl (by kernel_rfl)) rfl ⟨_, _, rfl, this.1, this.2⟩
set_option maxHeartbeats 1000000 in
theorem Under_bad2 (ra ca : Int) (a0 : Option Addr) (la capa : Nat) (rb cb : Int) (b0 : Option Addr) (lb capb : Nat) (hA : rightB ra ca la = true) (hB : rightB rb cb lb = false) (w : World) : Calls Tryz.prog 62 #[.agg #[.int .i64 ra, .int .i64 ca, .slice a0 la capa], .agg #[.int .i64 rb, .int .i64 cb, .slice b0 lb capb]] w fun e w' => ∃ V E, e = .returned (.tuple #[V, E]) ∧ PA w.heap.size 1 0 0 zeroM V E w' ∧ Below w.heap.size w w' := by
  have T0 := Lib.hid (Two.start w (.int .i64 ra) (.int .i64 ca) (.slice a0 la capa) (.int .i64 rb) (.int .i64 cb) (.slice b0 lb capb))
  have HRA := Lib.hid hA
  have HRB := Lib.hid hB
  clear hA hB
  go_enter Tryz.func62, Tryz.ntmps62
  go_wp2_with fail
  refine (Right_any ra ca a0 la capa _).mono ?_
  rintro e w1 ⟨rfl, hb1⟩
  rw [HRA.out]
  have T1 := Lib.hid (T0.out.below hb1)
  obtain ⟨p0, p1, p2⟩ := heap_cell0 T1.out.a
  obtain ⟨q0, q1, q2⟩ := heap_cell0 T1.out.b
  clear hb1 T0
  go_wp2_with fail
  refine (Right_any rb cb b0 lb capb _).mono ?_
  rintro e w2 ⟨rfl, hb2⟩
  rw [HRB.out]
  have T2 := Lib.hid (T1.out.below hb2)
  clear p0 p1 p2 q0 q1 q2
  obtain ⟨p0, p1, p2⟩ := heap_cell0 T2.out.a
  obtain ⟨q0, q1, q2⟩ := heap_cell0 T2.out.b
  clear hb2 T1
  go_wp2_with fail
  refine (nothing_any 1 _).mono ?_
  rintro e w8 ⟨g, hg, rfl, hF, hb8⟩
  have T8 := Lib.hid (T2.out.below hb8)
  have HF := Lib.hid hF
  have hgr : g ≠ w.heap.size + 2 := by have := T2.out.r.lt; omega
  have hgw : w.heap.size ≤ g := Nat.le_trans T2.out.old.size hg
  clear hb8 hF
  unfold noneV faultV
  go_wp2_with (refine wpList_store_whole rfl 62 _ _ rfl (w.heap.size + 2) zeroRow zeroRow 62 rfl rfl T8.out.r rfl (by kernel_rfl) (by decide) ?_; intro w9 h9 k9 s9; go_frame)
  have := fail_post (code := 1) (by decide) T8.out.old (Nat.le_add_right _ 2) hgw HF.out hgr k9.out
  exact bodyPost_ret (results_mid2 Tryz.results62 _ _ (w.heap.size + 2) 0 zeroRow _ rfl (range_of_list h9.out) Tryz.underlying62 rfl (by kernel_rfl)) rfl ⟨_, _, rfl, this.1, this.2⟩
set_option maxHeartbeats 1000000 in
theorem Under_bad3 (ra ca : Int) (a0 : Option Addr) (la capa : Nat) (rb cb : Int) (b0 : Option Addr) (lb capb : Nat) (hA : rightB ra ca la = true) (hB : rightB rb cb lb = true) (hs : mayB (ra + rb) = false) (w : World) : Calls Tryz.prog 62 #[.agg #[.int .i64 ra, .int .i64 ca, .slice a0 la capa], .agg #[.int .i64 rb, .int .i64 cb, .slice b0 lb capb]] w fun e w' => ∃ V E, e = .returned (.tuple #[V, E]) ∧ PA w.heap.size 1 0 0 zeroM V E w' ∧ Below w.heap.size w w' := by
  have T0 := Lib.hid (Two.start w (.int .i64 ra) (.int .i64 ca) (.slice a0 la capa) (.int .i64 rb) (.int .i64 cb) (.slice b0 lb capb))
  obtain ⟨⟨x1, x2⟩, _, _⟩ := right_parts hA
  obtain ⟨⟨y1, y2⟩, _, _⟩ := right_parts hB
  have HRA := Lib.hid hA
  have HRB := Lib.hid hB
  have HS := Lib.hid hs
  clear hA hB hs
  go_enter Tryz.func62, Tryz.ntmps62
  go_wp2_with fail
  refine (Right_any ra ca a0 la capa _).mono ?_
  rintro e w1 ⟨rfl, hb1⟩
  rw [HRA.out]
  have T1 := Lib.hid (T0.out.below hb1)
  obtain ⟨p0, p1, p2⟩ := heap_cell0 T1.out.a
  obtain ⟨q0, q1, q2⟩ := heap_cell0 T1.out.b
  clear hb1 T0
  go_wp2_with fail
  refine (Right_any rb cb b0 lb capb _).mono ?_
  rintro e w2 ⟨rfl, hb2⟩
  rw [HRB.out]
  have T2 := Lib.hid (T1.out.below hb2)
  clear p0 p1 p2 q0 q1 q2
  obtain ⟨p0, p1, p2⟩ := heap_cell0 T2.out.a
  obtain ⟨q0, q1, q2⟩ := heap_cell0 T2.out.b
  clear hb2 T1
  go_wp2_with fail
  refine (mayBe_any _ _).mono ?_
  rintro e w' ⟨rfl, rfl⟩
  rw [HS.out]
  go_wp2_with fail
  refine (nothing_any 1 _).mono ?_
  rintro e w8 ⟨g, hg, rfl, hF, hb8⟩
  have T8 := Lib.hid (T2.out.below hb8)
  have HF := Lib.hid hF
  have hgr : g ≠ w.heap.size + 2 := by have := T2.out.r.lt; omega
  have hgw : w.heap.size ≤ g := Nat.le_trans T2.out.old.size hg
  clear hb8 hF
  unfold noneV faultV
  go_wp2_with (refine wpList_store_whole rfl 62 _ _ rfl (w.heap.size + 2) zeroRow zeroRow 62 rfl rfl T8.out.r rfl (by kernel_rfl) (by decide) ?_; intro w9 h9 k9 s9; go_frame)
  have := fail_post (code := 1) (by decide) T8.out.old (Nat.le_add_right _ 2) hgw HF.out hgr k9.out
  exact bodyPost_ret (results_mid2 Tryz.results62 _ _ (w.heap.size + 2) 0 zeroRow _ rfl (range_of_list h9.out) Tryz.underlying62 rfl (by kernel_rfl)) rfl ⟨_, _, rfl, this.1, this.2⟩
set_option maxHeartbeats 1000000 in
theorem Under_shape (ra ca : Int) (a0 : Option Addr) (la capa : Nat) (rb cb : Int) (b0 : Option Addr) (lb capb : Nat) (hA : rightB ra ca la = true) (hB : rightB rb cb lb = true) (hs : mayB (ra + rb) = true) (hne : ca ≠ cb) (w : World) : Calls Tryz.prog 62 #[.agg #[.int .i64 ra, .int .i64 ca, .slice a0 la capa], .agg #[.int .i64 rb, .int .i64 cb, .slice b0 lb capb]] w fun e w' => ∃ V E, e = .returned (.tuple #[V, E]) ∧ PA w.heap.size 19 0 0 zeroM V E w' ∧ Below w.heap.size w w' := by
  have T0 := Lib.hid (Two.start w (.int .i64 ra) (.int .i64 ca) (.slice a0 la capa) (.int .i64 rb) (.int .i64 cb) (.slice b0 lb capb))
  obtain ⟨⟨x1, x2⟩, _, _⟩ := right_parts hA
  obtain ⟨⟨y1, y2⟩, _, _⟩ := right_parts hB
  have HRA := Lib.hid hA
  have HRB := Lib.hid hB
  have HS := Lib.hid hs
  have hneb := int_ne_B hne
  clear hA hB hs hne
  go_enter Tryz.func62, Tryz.ntmps62
  go_wp2_with fail
  refine (Right_any ra ca a0 la capa _).mono ?_
  rintro e w1 ⟨rfl, hb1⟩
  rw [HRA.out]
  have T1 := Lib.hid (T0.out.below hb1)
  obtain ⟨p0, p1, p2⟩ := heap_cell0 T1.out.a
  obtain ⟨q0, q1, q2⟩ := heap_cell0 T1.out.b
  clear hb1 T0
  go_wp2_with fail
  refine (Right_any rb cb b0 lb capb _).mono ?_
  rintro e w2 ⟨rfl, hb2⟩
  rw [HRB.out]
  have T2 := Lib.hid (T1.out.below hb2)
  clear p0 p1 p2 q0 q1 q2
  obtain ⟨p0, p1, p2⟩ := heap_cell0 T2.out.a
  obtain ⟨q0, q1, q2⟩ := heap_cell0 T2.out.b
  clear hb2 T1
  go_wp2_with fail
  refine (mayBe_any _ _).mono ?_
  rintro e w' ⟨rfl, rfl⟩
  rw [HS.out]
  go_wp2_with fail
  refine (nothing_any 19 _).mono ?_
  rintro e w8 ⟨g, hg, rfl, hF, hb8⟩
  have T8 := Lib.hid (T2.out.below hb8)
  have HF := Lib.hid hF
  have hgr : g ≠ w.heap.size + 2 := by have := T2.out.r.lt; omega
  have hgw : w.heap.size ≤ g := Nat.le_trans T2.out.old.size hg
  clear hb8 hF
  unfold noneV faultV
  go_wp2_with (refine wpList_store_whole rfl 62 _ _ rfl (w.heap.size + 2) zeroRow zeroRow 62 rfl rfl T8.out.r rfl (by kernel_rfl) (by decide) ?_; intro w9 h9 k9 s9; go_frame)
  have := fail_post (code := 19) (by decide) T8.out.old (Nat.le_add_right _ 2) hgw HF.out hgr k9.out
  exact bodyPost_ret (results_mid2 Tryz.results62 _ _ (w.heap.size + 2) 0 zeroRow _ rfl (range_of_list h9.out) Tryz.underlying62 rfl (by kernel_rfl)) rfl ⟨_, _, rfl, this.1, this.2⟩
def underM (r1 : Nat) (X Y : Mat) : Mat := fun i j => if i < r1 then X i j else Y (i - r1) j
theorem lay_under (r1 r2 c : Nat) (X Y : Mat) : Alike (r1 + r2) c (layM r1 0 c r2 Y (layM 0 0 c r1 X zeroM)) (underM r1 X Y) := fun a b ha hb => by
  unfold layM underM
  by_cases h : a < r1
  · rw [if_neg (by omega), if_pos (by omega), if_pos h, Nat.sub_zero, Nat.sub_zero]
  · rw [if_pos (by omega), if_neg h, Nat.sub_zero]
set_option maxHeartbeats 4000000 in
theorem Under_good (r1 r2 c b1 o1 l1 cap1 b2 o2 l2 cap2 : Nat) (X Y : Mat) (h1 : 1 ≤ r1) (h2 : 1 ≤ r2) (hrr : r1 + r2 ≤ 255) (hc1 : 1 ≤ c) (hc2 : c ≤ 255) (hl1 : r1 * c = l1) (hl2 : r2 * c = l2) (hp1 : l1 ≤ cap1) (hp2 : l2 ≤ cap2)
    (w : World) (hX : Src b1 o1 X r1 c w) (hb1 : b1 < w.heap.size) (hY : Src b2 o2 Y r2 c w) (hb2 : b2 < w.heap.size) :
    Calls Tryz.prog 62 #[.agg #[.int .i64 r1, .int .i64 c, .slice (some ⟨b1, o1, none⟩) l1 cap1], .agg #[.int .i64 r2, .int .i64 c, .slice (some ⟨b2, o2, none⟩) l2 cap2]] w fun e w' => ∃ V E, e = .returned (.tuple #[V, E]) ∧ PA w.heap.size 0 (r1 + r2) c (underM r1 X Y) V E w' ∧ Below w.heap.size w w' := by
  have T0 := Lib.hid (Two.start w (.int .i64 r1) (.int .i64 c) (.slice (some ⟨b1, o1, none⟩) l1 cap1) (.int .i64 r2) (.int .i64 c) (.slice (some ⟨b2, o2, none⟩) l2 cap2))
  have HRA : Hid (rightB r1 c l1 = true) := Lib.hid (by rw [rightB_eq]; exact decide_eq_true ⟨by omega, by omega, by omega, by omega, by rw [← hl1]; simp⟩)
  have HRB : Hid (rightB r2 c l2 = true) := Lib.hid (by rw [rightB_eq]; exact decide_eq_true ⟨by omega, by omega, by omega, by omega, by rw [← hl2]; simp⟩)
  obtain ⟨m, hm⟩ : ∃ m, m = r1 + r2 := ⟨_, rfl⟩
  have hsum : (r1 : Int) + (r2 : Int) = (m : Int) := by omega
  have HS : Hid (mayB m = true) := Lib.hid (by rw [mayB_eq]; exact decide_eq_true ⟨by omega, by omega⟩)
  have hneb := int_eq_B (a := (c : Int)) (b := c) rfl
  obtain ⟨N, hN⟩ : ∃ N, m * c = N := ⟨_, rfl⟩
  have hNm : N ≤ 1000000 := by rw [← hN]; exact Nat.le_trans (Nat.mul_le_mul (show m ≤ 255 by omega) hc2) (by decide)
  have hl1m : l1 ≤ 1000000 := by rw [← hl1]; exact Nat.le_trans (Nat.mul_le_mul (show r1 ≤ 255 by omega) hc2) (by decide)
  have hl2m : l2 ≤ 1000000 := by rw [← hl2]; exact Nat.le_trans (Nat.mul_le_mul (show r2 ≤ 255 by omega) hc2) (by decide)
  have HN := Lib.hid hN
  have HL1 := Lib.hid hl1
  have HL2 := Lib.hid hl2
  have HX := Lib.hid hX
  have HY := Lib.hid hY
  have HM := Lib.hid hm
  clear hN hl1 hl2 hX hY hm
  go_enter Tryz.func62, Tryz.ntmps62
  go_wp2_with fail
  refine (Right_any _ _ _ l1 cap1 _).mono ?_
  rintro e w1 ⟨rfl, hb1⟩
  rw [HRA.out]
  have T1 := Lib.hid (T0.out.below hb1)
  obtain ⟨p0, p1, p2⟩ := heap_cell0 T1.out.a
  obtain ⟨q0, q1, q2⟩ := heap_cell0 T1.out.b
  clear hb1 T0
  go_wp2_with fail
  refine (Right_any _ _ _ l2 cap2 _).mono ?_
  rintro e w2 ⟨rfl, hb2⟩
  rw [HRB.out]
  have T2 := Lib.hid (T1.out.below hb2)
  clear p0 p1 p2 q0 q1 q2
  obtain ⟨p0, p1, p2⟩ := heap_cell0 T2.out.a
  obtain ⟨q0, q1, q2⟩ := heap_cell0 T2.out.b
  clear hb2 T1
  go_wp2_with fail
  refine (mayBe_any _ _).mono ?_
  rintro e w' ⟨rfl, rfl⟩
  rw [HS.out]
  go_wp2_with fail
  refine (blank_any m c N HN.out hNm _).mono ?_
  rintro e w3 ⟨g, hg, rfl, hT, hb3⟩
  have T3 := Lib.hid (T2.out.below hb3)
  have HT3 := Lib.hid hT
  have hgw : w.heap.size ≤ g := Nat.le_trans T2.out.old.size hg
  have hgR : w.heap.size + 2 < g := by have := T2.out.r.lt; omega
  clear hT hb3 p0 p1 p2 q0 q1 q2 T2 hg
  unfold tabV
  go_wp2_with (refine wpList_store_whole rfl 104 _ _ rfl w3.heap.size (tabRow g m c N) zeroRow 104 rfl rfl (heap_alloc_new _ _) rfl (by kernel_rfl) (tabRow_ones _ _ _ _) ?_; intro w4 h4 k4 s4; have HS4 := Lib.hid (boxed (w0 := w) h4.out k4.out HT3.out (Kept.of_below T3.out.old)); have T4 := Lib.hid (T3.out.below HS4.out.2); have d0 := HS4.out.1.c0; have d1 := HS4.out.1.c1; have d2 := HS4.out.1.c2; obtain ⟨p0, p1, p2⟩ := heap_cell0 T4.out.a; obtain ⟨q0, q1, q2⟩ := heap_cell0 T4.out.b; go_frame)
  obtain ⟨HS4, _⟩ : Hid (BoxS w3.heap.size g m c N zeroM w w4) ∧ True := ⟨Lib.hid HS4.out.1, trivial⟩
  refine (lay_any g m c N b1 o1 r1 c l1 cap1 0 0 X zeroM HN.out hNm hc1 (by omega) (by omega) HL1.out hp1 hl1m (by omega) _ HS4.out.tab (HX.out.keep (T4.out.old.block b1 hb1)) (Nat.lt_of_lt_of_le hb1 T4.out.old.size)).mono ?_
  rintro e w5 ⟨rfl, hT, hK⟩
  have HS5 := Lib.hid (HS4.out.change hT hK)
  have T5 := Lib.hid (T4.out.kept hK hgw hgR)
  clear hT hK d0 d1 d2 p0 p1 p2 q0 q1 q2 h4 k4 s4 HS4 T4 T3 HT3
  have d0 := HS5.out.c0
  have d1 := HS5.out.c1
  have d2 := HS5.out.c2
  obtain ⟨p0, p1, p2⟩ := heap_cell0 T5.out.a
  obtain ⟨q0, q1, q2⟩ := heap_cell0 T5.out.b
  go_wp2_with fail
  refine (lay_any g m c N b2 o2 r2 c l2 cap2 r1 0 Y _ HN.out hNm hc1 (by have := HM.out; omega) (by omega) HL2.out hp2 hl2m (by omega) _ HS5.out.tab (HY.out.keep (T5.out.old.block b2 hb2)) (Nat.lt_of_lt_of_le hb2 T5.out.old.size)).mono ?_
  rintro e w6 ⟨rfl, hT, hK⟩
  have HS6 := Lib.hid (HS5.out.change hT hK)
  have T6 := Lib.hid (T5.out.kept hK hgw hgR)
  clear hT hK d0 d1 d2 p0 p1 p2 q0 q1 q2 HS5 T5
  have d0 := HS6.out.c0
  have d1 := HS6.out.c1
  have d2 := HS6.out.c2
  go_wp2_with (refine wpList_store_whole rfl 62 _ _ rfl (w.heap.size + 2) (tabRow g m c N) zeroRow 62 rfl rfl T6.out.r rfl (by kernel_rfl) (tabRow_ones _ _ _ _) ?_; intro w7 h7 k7 s7; go_frame)
  have hal := lay_under r1 r2 c X Y
  rw [← HM.out] at hal ⊢
  have hTf : Tab g (underM r1 X Y) m c w7 := (HS6.out.tab.alike hal).keep (k7.out.block _ HS6.out.tab.lt (by simp; omega))
  exact bodyPost_ret (results_mid2 Tryz.results62 _ _ (w.heap.size + 2) 0 (tabRow g m c N) _ rfl (range_of_list h7.out) Tryz.underlying62 rfl (by kernel_rfl)) rfl ⟨_, _, rfl, PA.ok HN.out hgw hTf, below_kept T6.out.old k7.out (by omega) T6.out.old.size⟩
end Go.Proofs.YteanbflbclmeeaaGreat
