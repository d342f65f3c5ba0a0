/- The walk of Mul. -/
import Derived.Test.YtnaeekjocaecmaaMUnder
import Derived.Deep.RegionHeld3
namespace Go.Proofs.Ytnaeekjocaecmaa
open Go.RowKit

set_option maxHeartbeats 1000000 in
theorem Mul_bad1 (ra ca : Int) (a0 : Option Addr) (la capa : Nat) (rb cb : Int) (b0 : Option Addr) (lb capb : Nat) (hA : rightB ra ca la = false) (w : World) : Calls Try.prog 21 #[.agg #[.int .i64 ra, .int .i64 ca, .slice a0 la capa], .agg #[.int .i64 rb, .int .i64 cb, .slice b0 lb capb]] w fun e w' => ∃ V E, e = .returned (.tuple #[V, E]) ∧ PA w.heap.size 1 0 0 zeroM V E w' ∧ Below w.heap.size w w' := by
  have T0 := Lib.hid (Two.start w (.int .i64 ra) (.int .i64 ca) (.slice a0 la capa) (.int .i64 rb) (.int .i64 cb) (.slice b0 lb capb))
  have HRA := Lib.hid hA
  clear hA
  go_enter Try.func21, Try.ntmps21
  go_wp2_with fail
  refine (Right_any ra ca a0 la capa _).mono ?_
  rintro e w1 ⟨rfl, hb1⟩
  rw [HRA.out]
  have T1 := Lib.hid (T0.out.below hb1)
  obtain ⟨p0, p1, p2⟩ := heap_cell0 T1.out.a
  obtain ⟨q0, q1, q2⟩ := heap_cell0 T1.out.b
  clear hb1 T0
  go_wp2_with fail
  refine (nothing_any 1 _).mono ?_
  rintro e w8 ⟨g, hg, rfl, hF, hb8⟩
  have T8 := Lib.hid (T1.out.below hb8)
  have HF := Lib.hid hF
  have hgr : g ≠ w.heap.size + 2 := by have := T1.out.r.lt; omega
  have hgw : w.heap.size ≤ g := Nat.le_trans T1.out.old.size hg
  clear hb8 hF
  unfold noneV faultV
  go_wp2_with (refine wpList_store_whole rfl 24 _ _ rfl (w.heap.size + 2) zeroRow zeroRow 24 rfl rfl T8.out.r rfl (by kernel_rfl) (by decide) ?_; intro w9 h9 k9 s9; go_frame)
  have := fail_post (code := 1) (by decide) T8.out.old (Nat.le_add_right _ 2) hgw HF.out hgr k9.out
  exact bodyPost_ret (results_mid2 Try.results21 _ _ (w.heap.size + 2) 0 zeroRow _ rfl (range_of_list h9.out) Try.underlying24 rfl (by kernel_rfl)) rfl ⟨_, _, rfl, this.1, this.2⟩
set_option maxHeartbeats 1000000 in
theorem Mul_bad2 (ra ca : Int) (a0 : Option Addr) (la capa : Nat) (rb cb : Int) (b0 : Option Addr) (lb capb : Nat) (hA : rightB ra ca la = true) (hB : rightB rb cb lb = false) (w : World) : Calls Try.prog 21 #[.agg #[.int .i64 ra, .int .i64 ca, .slice a0 la capa], .agg #[.int .i64 rb, .int .i64 cb, .slice b0 lb capb]] w fun e w' => ∃ V E, e = .returned (.tuple #[V, E]) ∧ PA w.heap.size 1 0 0 zeroM V E w' ∧ Below w.heap.size w w' := by
  have T0 := Lib.hid (Two.start w (.int .i64 ra) (.int .i64 ca) (.slice a0 la capa) (.int .i64 rb) (.int .i64 cb) (.slice b0 lb capb))
  have HRA := Lib.hid hA
  have HRB := Lib.hid hB
  clear hA hB
  go_enter Try.func21, Try.ntmps21
  go_wp2_with fail
  refine (Right_any ra ca a0 la capa _).mono ?_
  rintro e w1 ⟨rfl, hb1⟩
  rw [HRA.out]
  have T1 := Lib.hid (T0.out.below hb1)
  obtain ⟨p0, p1, p2⟩ := heap_cell0 T1.out.a
  obtain ⟨q0, q1, q2⟩ := heap_cell0 T1.out.b
  clear hb1 T0
  go_wp2_with fail
  refine (Right_any rb cb b0 lb capb _).mono ?_
  rintro e w2 ⟨rfl, hb2⟩
  rw [HRB.out]
  have T2 := Lib.hid (T1.out.below hb2)
  clear p0 p1 p2 q0 q1 q2
  obtain ⟨p0, p1, p2⟩ := heap_cell0 T2.out.a
  obtain ⟨q0, q1, q2⟩ := heap_cell0 T2.out.b
  clear hb2 T1
  go_wp2_with fail
  refine (nothing_any 1 _).mono ?_
  rintro e w8 ⟨g, hg, rfl, hF, hb8⟩
  have T8 := Lib.hid (T2.out.below hb8)
  have HF := Lib.hid hF
  have hgr : g ≠ w.heap.size + 2 := by have := T2.out.r.lt; omega
  have hgw : w.heap.size ≤ g := Nat.le_trans T2.out.old.size hg
  clear hb8 hF
  unfold noneV faultV
  go_wp2_with (refine wpList_store_whole rfl 24 _ _ rfl (w.heap.size + 2) zeroRow zeroRow 24 rfl rfl T8.out.r rfl (by kernel_rfl) (by decide) ?_; intro w9 h9 k9 s9; go_frame)
  have := fail_post (code := 1) (by decide) T8.out.old (Nat.le_add_right _ 2) hgw HF.out hgr k9.out
  exact bodyPost_ret (results_mid2 Try.results21 _ _ (w.heap.size + 2) 0 zeroRow _ rfl (range_of_list h9.out) Try.underlying24 rfl (by kernel_rfl)) rfl ⟨_, _, rfl, this.1, this.2⟩
set_option maxHeartbeats 1000000 in
theorem Mul_shape (ra ca : Int) (a0 : Option Addr) (la capa : Nat) (rb cb : Int) (b0 : Option Addr) (lb capb : Nat) (hA : rightB ra ca la = true) (hB : rightB rb cb lb = true) (hne : ca ≠ rb) (w : World) : Calls Try.prog 21 #[.agg #[.int .i64 ra, .int .i64 ca, .slice a0 la capa], .agg #[.int .i64 rb, .int .i64 cb, .slice b0 lb capb]] w fun e w' => ∃ V E, e = .returned (.tuple #[V, E]) ∧ PA w.heap.size 19 0 0 zeroM V E w' ∧ Below w.heap.size w w' := by
  have T0 := Lib.hid (Two.start w (.int .i64 ra) (.int .i64 ca) (.slice a0 la capa) (.int .i64 rb) (.int .i64 cb) (.slice b0 lb capb))
  have HRA := Lib.hid hA
  have HRB := Lib.hid hB
  have hneb := int_ne_B hne
  clear hA hB hne
  go_enter Try.func21, Try.ntmps21
  go_wp2_with fail
  refine (Right_any ra ca a0 la capa _).mono ?_
  rintro e w1 ⟨rfl, hb1⟩
  rw [HRA.out]
  have T1 := Lib.hid (T0.out.below hb1)
  obtain ⟨p0, p1, p2⟩ := heap_cell0 T1.out.a
  obtain ⟨q0, q1, q2⟩ := heap_cell0 T1.out.b
  clear hb1 T0
  go_wp2_with fail
  refine (Right_any rb cb b0 lb capb _).mono ?_
  rintro e w2 ⟨rfl, hb2⟩
  rw [HRB.out]
  have T2 := Lib.hid (T1.out.below hb2)
  clear p0 p1 p2 q0 q1 q2
  obtain ⟨p0, p1, p2⟩ := heap_cell0 T2.out.a
  obtain ⟨q0, q1, q2⟩ := heap_cell0 T2.out.b
  clear hb2 T1
  go_wp2_with fail
  refine (nothing_any 19 _).mono ?_
  rintro e w8 ⟨g, hg, rfl, hF, hb8⟩
  have T8 := Lib.hid (T2.out.below hb8)
  have HF := Lib.hid hF
  have hgr : g ≠ w.heap.size + 2 := by have := T2.out.r.lt; omega
  have hgw : w.heap.size ≤ g := Nat.le_trans T2.out.old.size hg
  clear hb8 hF
  unfold noneV faultV
  go_wp2_with (refine wpList_store_whole rfl 24 _ _ rfl (w.heap.size + 2) zeroRow zeroRow 24 rfl rfl T8.out.r rfl (by kernel_rfl) (by decide) ?_; intro w9 h9 k9 s9; go_frame)
  have := fail_post (code := 19) (by decide) T8.out.old (Nat.le_add_right _ 2) hgw HF.out hgr k9.out
  exact bodyPost_ret (results_mid2 Try.results21 _ _ (w.heap.size + 2) 0 zeroRow _ rfl (range_of_list h9.out) Try.underlying24 rfl (by kernel_rfl)) rfl ⟨_, _, rfl, this.1, this.2⟩
def mulTo (P : Mat) (i : Nat) : Mat := fun a b => if a < i then P a b else 0
theorem mulTo_zero (P : Mat) : mulTo P 0 = zeroM := by funext a b; unfold mulTo; rw [if_neg (by omega)]
theorem mulTo_step (P : Mat) (i : Nat) : setRow i (P i) (mulTo P i) = mulTo P (i + 1) := by
  funext a b
  unfold setRow mulTo
  by_cases h : a = i
  · subst h; rw [if_pos rfl, if_pos (by omega)]
  · rw [if_neg h]
    by_cases h2 : a < i
    · rw [if_pos h2, if_pos (by omega)]
    · rw [if_neg h2, if_neg (by omega)]
theorem mulTo_all (P : Mat) (r c : Nat) : Alike r c (mulTo P r) P := fun a b ha _ => by unfold mulTo; rw [if_pos ha]
theorem Strs.col {h n m : Nat} {X : Mat} {w : World} (H : Strs h n (fun i => txt (X i) m) n w) : Col h 0 n m X w := fun j hj => by rw [Nat.zero_add]; exact H.got hj hj
set_option maxRecDepth 20000 in
set_option maxHeartbeats 4000000 in
theorem Mul_good (r k c b1 o1 l1 cap1 b2 o2 l2 cap2 : Nat) (X Y : Mat) (h1 : 1 ≤ r) (h2 : r ≤ 255) (hk1 : 1 ≤ k) (hk2 : k ≤ 255) (hc1 : 1 ≤ c) (hc2 : c ≤ 255) (hl1 : r * k = l1) (hl2 : k * c = l2) (hp1 : l1 ≤ cap1) (hp2 : l2 ≤ cap2)
    (w : World) (hX : Src b1 o1 X r k w) (hb1 : b1 < w.heap.size) (hY : Src b2 o2 Y k c w) (hb2 : b2 < w.heap.size) :
    Calls Try.prog 21 #[.agg #[.int .i64 r, .int .i64 k, .slice (some ⟨b1, o1, none⟩) l1 cap1], .agg #[.int .i64 k, .int .i64 c, .slice (some ⟨b2, o2, none⟩) l2 cap2]] w fun e w' => ∃ V E, e = .returned (.tuple #[V, E]) ∧ PA w.heap.size 0 r c (mm k X Y) V E w' ∧ Below w.heap.size w w' := by
  have T0 := Lib.hid (Two.start w (.int .i64 r) (.int .i64 k) (.slice (some ⟨b1, o1, none⟩) l1 cap1) (.int .i64 k) (.int .i64 c) (.slice (some ⟨b2, o2, none⟩) l2 cap2))
  have HRA : Hid (rightB r k l1 = true) := Lib.hid (by rw [rightB_eq]; exact decide_eq_true ⟨by omega, by omega, by omega, by omega, by rw [← hl1]; simp⟩)
  have HRB : Hid (rightB k c l2 = true) := Lib.hid (by rw [rightB_eq]; exact decide_eq_true ⟨by omega, by omega, by omega, by omega, by rw [← hl2]; simp⟩)
  have hneb := int_eq_B (a := (k : Int)) (b := k) rfl
  obtain ⟨N, hN⟩ : ∃ N, r * c = N := ⟨_, rfl⟩
  have hNm : N ≤ 1000000 := by rw [← hN]; exact Nat.le_trans (Nat.mul_le_mul h2 hc2) (by decide)
  have hl1m : l1 ≤ 1000000 := by rw [← hl1]; exact Nat.le_trans (Nat.mul_le_mul h2 hk2) (by decide)
  have hl2m : l2 ≤ 1000000 := by rw [← hl2]; exact Nat.le_trans (Nat.mul_le_mul hk2 hc2) (by decide)
  obtain ⟨P, hP⟩ : ∃ P, P = mm k X Y := ⟨_, rfl⟩
  have CT : Hid (∀ v : World, Below w.heap.size w v → Calls Try.prog 48 #[.agg #[.int .i64 k, .int .i64 c, .slice (some ⟨b2, o2, none⟩) l2 cap2]] v fun e w' => ∃ h, v.heap.size ≤ h ∧ e = .returned (.slice (some ⟨h, 0, none⟩) k k) ∧ Strs h k (fun i => txt (Y i) c) k w' ∧ Below v.heap.size v w') := Lib.hid (fun v hb =>
    texts_any k c b2 o2 l2 cap2 Y hc1 hl2 hp2 hl2m v (hY.keep (hb.block b2 hb2)) (Nat.lt_of_lt_of_le hb2 hb.size))
  have CA : Hid (∀ (h : Nat) (v : World), Below w.heap.size w v → Strs h k (fun i => txt (Y i) c) k v → Calls Try.prog 47 #[.agg #[.int .i64 r, .int .i64 k, .slice (some ⟨b1, o1, none⟩) l1 cap1], .slice (some ⟨h, 0, none⟩) k k] v fun e w' => ∃ h2, v.heap.size ≤ h2 ∧ e = .returned (.slice (some ⟨h2, 0, none⟩) r r) ∧ Strs h2 r (fun i => txt (P i) c) r w' ∧ Below v.heap.size v w') := Lib.hid (fun h v hb hs => by
    rw [hP]; exact applied_any r k b1 o1 l1 cap1 h 0 k c X Y hk1 hl1 hp1 hl1m (by omega) v (hX.keep (hb.block b1 hb1)) (Nat.lt_of_lt_of_le hb1 hb.size) hs.col hs.lt)
  have HN := Lib.hid hN
  have HP := Lib.hid hP
  rw [← hP]
  clear hN hl1 hl2 hX hY hP
  go_enter Try.func21, Try.ntmps21
  go_wp2_with fail
  refine (Right_any _ _ _ l1 cap1 _).mono ?_
  rintro e w1 ⟨rfl, hb1⟩
  rw [HRA.out]
  have T1 := Lib.hid (T0.out.below hb1)
  obtain ⟨p0, p1, p2⟩ := heap_cell0 T1.out.a
  obtain ⟨q0, q1, q2⟩ := heap_cell0 T1.out.b
  clear hb1 T0
  go_wp2_with fail
  refine (Right_any _ _ _ l2 cap2 _).mono ?_
  rintro e w2 ⟨rfl, hb2⟩
  rw [HRB.out]
  have T2 := Lib.hid (T1.out.below hb2)
  clear p0 p1 p2 q0 q1 q2
  obtain ⟨p0, p1, p2⟩ := heap_cell0 T2.out.a
  obtain ⟨q0, q1, q2⟩ := heap_cell0 T2.out.b
  clear hb2 T1
  go_wp2_with fail
  refine (blank_any r c N HN.out hNm _).mono ?_
  rintro e w3 ⟨g, hg, rfl, hT, hb3⟩
  have T3 := Lib.hid (T2.out.below hb3)
  have HT3 := Lib.hid hT
  have hgw : w.heap.size ≤ g := Nat.le_trans T2.out.old.size hg
  have hgR : w.heap.size + 2 < g := by have := T2.out.r.lt; omega
  clear hT hb3 p0 p1 p2 q0 q1 q2 T2 hg
  unfold tabV
  go_wp2_with (refine wpList_store_whole rfl 66 _ _ rfl w3.heap.size (tabRow g r c N) zeroRow 66 rfl rfl (heap_alloc_new _ _) rfl (by kernel_rfl) (tabRow_ones _ _ _ _) ?_; intro w4 h4 k4 s4; have HS4 := Lib.hid (boxed (w0 := w) h4.out k4.out HT3.out (Kept.of_below T3.out.old)); have T4 := Lib.hid (T3.out.below HS4.out.2); go_frame)
  obtain ⟨B, hBe⟩ : ∃ B, B = w3.heap.size := ⟨_, rfl⟩
  have HS4' := Lib.hid (HS4.out.1)
  rw [← hBe] at HS4' ⊢
  have S4 : w4.cell? ⟨w.heap.size, 0, none⟩ = some (.int .i64 r) ∧ w4.cell? ⟨w.heap.size, 1, none⟩ = some (.int .i64 k) ∧ w4.cell? ⟨w.heap.size, 2, none⟩ = some (.slice (some ⟨b1, o1, none⟩) l1 cap1) ∧ w4.cell? ⟨w.heap.size + 1, 0, none⟩ = some (.int .i64 k) ∧ w4.cell? ⟨w.heap.size + 1, 1, none⟩ = some (.int .i64 c) ∧ w4.cell? ⟨w.heap.size + 1, 2, none⟩ = some (.slice (some ⟨b2, o2, none⟩) l2 cap2) := by
    obtain ⟨p0, p1, p2⟩ := heap_cell0 T4.out.a
    obtain ⟨q0, q1, q2⟩ := heap_cell0 T4.out.b
    exact ⟨p0, p1, p2, q0, q1, q2⟩
  have SS : Hid (∀ v, Below w4.heap.size w4 v → v.cell? ⟨w.heap.size, 0, none⟩ = some (.int .i64 r) ∧ v.cell? ⟨w.heap.size, 1, none⟩ = some (.int .i64 k) ∧ v.cell? ⟨w.heap.size, 2, none⟩ = some (.slice (some ⟨b1, o1, none⟩) l1 cap1) ∧ v.cell? ⟨w.heap.size + 1, 0, none⟩ = some (.int .i64 k) ∧ v.cell? ⟨w.heap.size + 1, 1, none⟩ = some (.int .i64 c) ∧ v.cell? ⟨w.heap.size + 1, 2, none⟩ = some (.slice (some ⟨b2, o2, none⟩) l2 cap2)) := Lib.hid (fun v hb => by
    obtain ⟨p0, p1, p2⟩ := heap_cell0 (T4.out.below hb).a
    obtain ⟨q0, q1, q2⟩ := heap_cell0 (T4.out.below hb).b
    exact ⟨p0, p1, p2, q0, q1, q2⟩)
  have B4 : Hid (Below w4.heap.size w4 w4.drew) := Lib.hid (Below.refl _ _).drew
  have O4 : Hid (Below w.heap.size w w4.drew) := Lib.hid T4.out.old.drew
  clear h4 k4 s4 HS4 T3 HT3 hBe
  go_region_held3 (fun v => v.cell? ⟨w.heap.size, 0, none⟩ = some (.int .i64 r) ∧ v.cell? ⟨w.heap.size, 1, none⟩ = some (.int .i64 k) ∧ v.cell? ⟨w.heap.size, 2, none⟩ = some (.slice (some ⟨b1, o1, none⟩) l1 cap1) ∧ v.cell? ⟨w.heap.size + 1, 0, none⟩ = some (.int .i64 k) ∧ v.cell? ⟨w.heap.size + 1, 1, none⟩ = some (.int .i64 c) ∧ v.cell? ⟨w.heap.size + 1, 2, none⟩ = some (.slice (some ⟨b2, o2, none⟩) l2 cap2)) (first | exact S4 | exact S5 | exact S6) (first | (go_at_call 48; refine (CT.out _ O4.out).mono ?_; rintro e w5 ⟨h5, _, rfl, hs5, hb5⟩; have H5 := Lib.hid hs5; have B5 := Lib.hid (B4.out.trans (hb5.mono B4.out.size)); have O5 := Lib.hid (O4.out.trans (hb5.mono O4.out.size)); have S5 := SS.out _ B5.out; clear hs5 hb5) | (go_at_call 47; refine (CA.out h5 _ O5.out H5.out).mono ?_; rintro e w6 ⟨h6, hh6, rfl, hs6, hb6⟩; have H6 := Lib.hid hs6; have B6 := Lib.hid (B5.out.trans (hb6.mono B5.out.size)); have hh6' := Nat.le_trans B5.out.size hh6; have S6 := SS.out _ B6.out; clear hs6 hb6 hh6) | fail)
  have HS6 := Lib.hid (HS4'.out.below B6.out)
  have T6 := Lib.hid (T4.out.below B6.out)
  have hg6 : h6 ≠ g := by have := HS4'.out.tab.lt; omega
  have hB6 : h6 ≠ B := by have := lt_of_heap HS4'.out.box; omega
  clear S4 S5 S6 SS B4 B5 B6 O4 O5 H5 CT CA HS4' T4 hh6'
  go_wp2_with fail
  go_loopw [38] (fun iv wr => ∃ i : Nat, i ≤ r ∧ iv = .int .i64 i ∧ (BoxS B g r c N (mulTo P i) w wr ∧ Strs h6 r (fun i => txt (P i) c) r wr ∧ Two w.heap.size (.int .i64 r) (.int .i64 k) (.slice (some ⟨b1, o1, none⟩) l1 cap1) (.int .i64 k) (.int .i64 c) (.slice (some ⟨b2, o2, none⟩) l2 cap2) w wr)) (fun iv _ => r - (intOf iv).toNat)
  case atStart => exact ⟨0, by omega, rfl, by rw [mulTo_zero]; exact HS6.out, H6.out, T6.out⟩
  case round =>
    clear HS6 H6 T6
    obtain ⟨i, hi, rfl, hA⟩ := hrel
    have H1 := Lib.hid hA
    have d0 := hA.1.c0
    have d1 := hA.1.c1
    have d2 := hA.1.c2
    clear hA
    by_cases hlt : i < r
    · obtain ⟨A, hA2⟩ : ∃ A, i * c = A := ⟨_, rfl⟩
      have fA := row_fits HN.out hA2 hlt
      have HA := Lib.hid hA2
      obtain ⟨x, hx⟩ : ∃ x, x = txt (P i) c := ⟨_, rfl⟩
      have hcell : wr.cell? ⟨h6, i, none⟩ = some (.string x) := by rw [hx]; exact H1.out.2.1.got hlt hlt
      have HX2 := Lib.hid hx
      clear hA2 hx
      go_wp2_with fail
      refine (trow_any g r c N i A HA.out fA hNm hc1 _).mono ?_
      rintro e w7 ⟨rfl, hb7⟩
      have H7 := Lib.hid (And.intro (H1.out.1.below hb7) (And.intro (H1.out.2.1.below hb7 H1.out.2.1.lt) (H1.out.2.2.below hb7)))
      clear d0 d1 d2 hb7 hcell
      go_wp2_with (refine wpList_copy_row rfl (.tmp 45) (.tmp 46) 22 9 rfl 5 Try.underlying22 (by kernel_rfl) g A c (N - A) x rfl rfl (by rw [HX2.out, txt_size]) _ _ _ 5 (H7.out.1.tab.parts hlt) (by rw [u8v_len, length_ahead _ hlt, HA.out]) (by rw [u8v_len, length_textOf]) ?_; intro w8 hg8 hk8 hs8; go_frame)
      have hT : Tab g (mulTo P (i + 1)) r c w8 := by
        have := hg8.out
        rw [HX2.out, txt_list] at this
        rw [← mulTo_step]
        exact Tab.of_parts hlt _ this
      have H8 := Lib.hid (And.intro (H7.out.1.change hT hk8.out) (And.intro (H7.out.2.1.keep (hk8.out.block _ H7.out.2.1.lt (by simp; exact hg6))) (H7.out.2.2.kept hk8.out hgw hgR)))
      clear hT hg8 hk8 hs8
      go_wp2_with fail
      go_roundw
      case rel => exact ⟨i + 1, by omega, by go_num, H8.out⟩
      case measure => simp [intOf]; omega
    · obtain rfl : i = r := by omega
      go_wp2_with (refine wpList_store_whole rfl 24 _ _ rfl (w.heap.size + 2) (tabRow g i c N) zeroRow 24 rfl rfl H1.out.2.2.r rfl (by kernel_rfl) (tabRow_ones _ _ _ _) ?_; intro w7 h7 k7 s7; go_frame)
      have hTf : Tab g P i c w7 := (H1.out.1.tab.alike (mulTo_all _ _ _)).keep (k7.out.block _ H1.out.1.tab.lt (by simp; omega))
      exact bodyPost_ret (results_mid2 Try.results21 _ _ (w.heap.size + 2) 0 (tabRow g i c N) _ rfl (range_of_list h7.out) Try.underlying24 rfl (by kernel_rfl)) rfl ⟨_, _, rfl, PA.ok HN.out hgw hTf, below_kept H1.out.2.2.old k7.out (by omega) H1.out.2.2.old.size⟩
end Go.Proofs.Ytnaeekjocaecmaa
