/- MatrixMakes: the walks of one case of n. -/
import Derived.Test.YtnaeekjocaecmaaMMakesC
namespace Go.Proofs.Ytnaeekjocaecmaa
open Go.RowKit

set_option maxRecDepth 20000 in
set_option maxHeartbeats 4000000 in
theorem Makes_cg (r c : Nat) (n : Nat) (hn0 : 1 ≤ n) (hn1 : n ≤ 40) (hr0 : 1 ≤ r) (hr1 : r ≤ 40) (hr2 : 41 ≤ c) (hr3 : c ≤ 255) (hr4 : r + c ≤ 256) (ra ca : Int) (a0 : Option Addr) (len cap : Nat) (w : World) :
    Calls Try.prog 3 #[.int .i64 r, .int .i64 c, .int .i64 n, .agg #[.int .i64 ra, .int .i64 ca, .slice a0 len cap]] w fun e w' => e = .returned (.bool true) ∧ Below w.heap.size w w' := by
  obtain ⟨q, hq⟩ : ∃ q, rightB ra ca len = q := ⟨_, rfl⟩
  have HQ1 := Lib.hid (Right_any ra ca a0 len cap)
  have HQ2 := Lib.hid (rRight_any ra ca a0 len cap)
  rw [hq] at HQ1 HQ2
  clear hq
  have qq := bool_self q
  obtain ⟨N, hN⟩ : ∃ N, n * n = N := ⟨_, rfl⟩
  have HN := Lib.hid hN
  obtain ⟨m, hm⟩ : ∃ m, n + n = m := ⟨_, rfl⟩
  obtain ⟨N3, hN3⟩ : ∃ N, m * n = N := ⟨_, rfl⟩
  have hN3m : N3 ≤ 1000000 := by rw [← hN3]; exact Nat.le_trans (Nat.mul_le_mul (show m ≤ 254 by omega) (show n ≤ 127 by omega)) (by decide)
  have hw1 : (2 : Int) * (n : Int) = (m : Int) := by omega
  have hw2 := mul_wrap hN3 hN3m
  have HM := Lib.hid hm
  have HN3 := Lib.hid hN3
  have HW1 := Lib.hid hw1
  have HW2 := Lib.hid hw2
  clear hm hN3 hw1 hw2
  clear hN
  obtain ⟨N2, hN2⟩ : ∃ N, r * c = N := ⟨_, rfl⟩
  have HN2 := Lib.hid hN2
  clear hN2
  obtain ⟨wa, hwa⟩ : ∃ wa, wa = w.alloc (.cells #[.int .i64 ra, .int .i64 ca, .slice a0 len cap] 24) := ⟨_, rfl⟩
  have B_0 : Hid (Below w.heap.size w wa) := Lib.hid (by rw [hwa]; exact below_alloc _ _)
  have P_0 : Hid (BoxV w.heap.size ra ca a0 len cap wa) := Lib.hid ⟨by rw [hwa]; exact heap_alloc_new _ _⟩
  have HWA := Lib.hid hwa
  clear hwa
  go_enter Try.func3, Try.ntmps3
  go_wp2_with fail
  rw [← HWA.out]
  clear HWA
  refine (known_any _).mono ?_
  rintro e w1 ⟨rfl, hb1⟩
  have B_1 := Lib.hid (B_0.out.trans ((hb1).mono B_0.out.size))
  have P_2 := Lib.hid (P_0.out.below (hb1))
  clear B_0 P_0 hb1
  go_wp2_with fail
  refine (tIdent n N (by omega) (by omega) HN.out _).mono ?_
  rintro e w2 ⟨g1, rfl, t0_2, hb2⟩
  have B_3 := Lib.hid (B_1.out.trans ((hb2).mono B_1.out.size))
  have P_4 := Lib.hid (P_2.out.below (hb2))
  have It_5 := Lib.hid t0_2
  clear B_1 P_2 t0_2 hb2
  go_wp2_with (refine wpList_store_whole rfl 24 _ _ rfl w2.heap.size [.int .i64 n, .int .i64 n, .slice (some ⟨g1, 0, none⟩) N N] zeroRow 24 rfl rfl (heap_alloc_new _ _) rfl (by kernel_rfl) (mv_ones _ _ _ _) ?_; intro w3 h3 k3 s3; have hs3 := after_box k3.out; have i_6 := Lib.hid ((BoxT.of h3.out k3.out It_5.out).1); have B_7 := Lib.hid (B_3.out.trans ((hs3).mono B_3.out.size)); have P_8 := Lib.hid (P_4.out.below (hs3)); clear B_3 P_4 It_5 hs3; go_frame)
  clear h3 k3 s3
  refine (tCauchy r c N2 (by omega) (by omega) (by omega) (by omega) (by omega) HN2.out _).mono ?_
  rintro e w4 ⟨g2, rfl, t0_4, hb4⟩
  have B_9 := Lib.hid (B_7.out.trans ((hb4).mono B_7.out.size))
  have P_10 := Lib.hid (P_8.out.below (hb4))
  have i_11 := Lib.hid (i_6.out.below (hb4))
  have Ct_12 := Lib.hid t0_4
  clear B_7 P_8 i_6 t0_4 hb4
  go_wp2_with (refine wpList_store_whole rfl 24 _ _ rfl w4.heap.size [.int .i64 r, .int .i64 c, .slice (some ⟨g2, 0, none⟩) N2 N2] zeroRow 24 rfl rfl (heap_alloc_new _ _) rfl (by kernel_rfl) (mv_ones _ _ _ _) ?_; intro w5 h5 k5 s5; have hs5 := after_box k5.out; have c_13 := Lib.hid ((BoxT.of h5.out k5.out Ct_12.out).1); have B_14 := Lib.hid (B_9.out.trans ((hs5).mono B_9.out.size)); have P_15 := Lib.hid (P_10.out.below (hs5)); have i_16 := Lib.hid (i_11.out.below (hs5)); obtain ⟨c0_17, c1_17, c2_17⟩ := heap_cell0 P_15.out.box; clear B_9 P_10 i_11 Ct_12 hs5; go_frame)
  clear h5 k5 s5
  refine (HQ2.out _).mono ?_
  rintro e w6 ⟨rfl, hb6⟩
  have B_18 := Lib.hid (B_14.out.trans ((hb6).mono B_14.out.size))
  have P_19 := Lib.hid (P_15.out.below (hb6))
  have i_20 := Lib.hid (i_16.out.below (hb6))
  have c_21 := Lib.hid (c_13.out.below (hb6))
  clear B_14 P_15 i_16 c_13 hb6 c0_17 c1_17 c2_17
  go_wp2_with fail
  refine (is_none _).mono ?_
  rintro e w' ⟨rfl, rfl⟩
  go_wp2_with fail
  refine (is_none _).mono ?_
  rintro e w' ⟨rfl, rfl⟩
  go_wp2_with fail
  refine (rIdent_any n N HN.out (by omega) (by omega) _).mono ?_
  rintro e w7 ⟨g3, rfl, t0_7, hb7⟩
  have B_22 := Lib.hid (B_18.out.trans ((hb7).mono B_18.out.size))
  have P_23 := Lib.hid (P_19.out.below (hb7))
  have i_24 := Lib.hid (i_20.out.below (hb7))
  have c_25 := Lib.hid (c_21.out.below (hb7))
  have Jt_26 := Lib.hid t0_7
  clear B_18 P_19 i_20 c_21 t0_7 hb7
  go_wp2_with (refine wpList_store_whole rfl 24 _ _ rfl w7.heap.size [.int .i64 n, .int .i64 n, .slice (some ⟨g3, 0, none⟩) N N] zeroRow 24 rfl rfl (heap_alloc_new _ _) rfl (by kernel_rfl) (mv_ones _ _ _ _) ?_; intro w8 h8 k8 s8; have hs8 := after_box k8.out; have j_27 := Lib.hid ((BoxT.of h8.out k8.out Jt_26.out).1); have B_28 := Lib.hid (B_22.out.trans ((hs8).mono B_22.out.size)); have P_29 := Lib.hid (P_23.out.below (hs8)); have i_30 := Lib.hid (i_24.out.below (hs8)); have c_31 := Lib.hid (c_25.out.below (hs8)); obtain ⟨c0_32, c1_32, c2_32⟩ := heap_cell0 i_30.out.box; obtain ⟨c0_33, c1_33, c2_33⟩ := heap_cell0 j_27.out.box; clear B_22 P_23 i_24 c_25 Jt_26 hs8; go_frame)
  clear h8 k8 s8
  refine (tSame g1 g3 n n N _ _ HN.out (by have := mul_le (show n ≤ 255 by omega) (show n ≤ 255 by omega) HN.out; omega) (fun _ _ _ _ => rfl) _ i_30.out.tab j_27.out.tab).mono ?_
  rintro e w9 ⟨rfl, hb9⟩
  have B_34 := Lib.hid (B_28.out.trans ((hb9).mono B_28.out.size))
  have P_35 := Lib.hid (P_29.out.below (hb9))
  have i_36 := Lib.hid (i_30.out.below (hb9))
  have c_37 := Lib.hid (c_31.out.below (hb9))
  have j_38 := Lib.hid (j_27.out.below (hb9))
  clear B_28 P_29 i_30 c_31 j_27 hb9 c0_32 c0_33 c1_32 c1_33 c2_32 c2_33
  obtain ⟨c0_39, c1_39, c2_39⟩ := heap_cell0 i_36.out.box
  go_wp2_with fail
  refine (tUnder g1 g1 n n m n N N N3 _ _ (by omega) (by omega) HM.out (by have := HM.out; omega) (by omega) (by omega) HN.out HN.out HN3.out _ i_36.out.tab i_36.out.tab).mono ?_
  rintro e w10 ⟨g5, rfl, t0_10, hb10⟩
  have B_40 := Lib.hid (B_34.out.trans ((hb10).mono B_34.out.size))
  have P_41 := Lib.hid (P_35.out.below (hb10))
  have i_42 := Lib.hid (i_36.out.below (hb10))
  have c_43 := Lib.hid (c_37.out.below (hb10))
  have j_44 := Lib.hid (j_38.out.below (hb10))
  have Ut_45 := Lib.hid t0_10
  clear B_34 P_35 i_36 c_37 j_38 t0_10 hb10 c0_39 c1_39 c2_39
  go_wp2_with (refine wpList_store_whole rfl 24 _ _ rfl w10.heap.size [.int .i64 m, .int .i64 n, .slice (some ⟨g5, 0, none⟩) N3 N3] zeroRow 24 rfl rfl (heap_alloc_new _ _) rfl (by kernel_rfl) (mv_ones _ _ _ _) ?_; intro w11 h11 k11 s11; have hs11 := after_box k11.out; have u_46 := Lib.hid ((BoxT.of h11.out k11.out Ut_45.out).1); have B_47 := Lib.hid (B_40.out.trans ((hs11).mono B_40.out.size)); have P_48 := Lib.hid (P_41.out.below (hs11)); have i_49 := Lib.hid (i_42.out.below (hs11)); have c_50 := Lib.hid (c_43.out.below (hs11)); have j_51 := Lib.hid (j_44.out.below (hs11)); obtain ⟨c0_52, c1_52, c2_52⟩ := heap_cell0 u_46.out.box; clear B_40 P_41 i_42 c_43 j_44 Ut_45 hs11; go_frame)
  clear h11 k11 s11
  have hw1 := HW1.out
  have hw2 := HW2.out
  refine (is_none _).mono ?_
  rintro e w' ⟨rfl, rfl⟩
  obtain ⟨c0_53, c1_53, c2_53⟩ := heap_cell0 P_48.out.box
  go_wp2_with fail
  refine (HQ1.out _).mono ?_
  rintro e w12 ⟨rfl, hb12⟩
  have B_54 := Lib.hid (B_47.out.trans ((hb12).mono B_47.out.size))
  have P_55 := Lib.hid (P_48.out.below (hb12))
  have i_56 := Lib.hid (i_49.out.below (hb12))
  have c_57 := Lib.hid (c_50.out.below (hb12))
  have j_58 := Lib.hid (j_51.out.below (hb12))
  have u_59 := Lib.hid (u_46.out.below (hb12))
  clear B_47 P_48 i_49 c_50 j_51 u_46 hb12 c0_52 c0_53 c1_52 c1_53 c2_52 c2_53
  go_wp2_with fail
  go_ret
  exact ⟨rfl, B_54.out⟩
set_option maxRecDepth 20000 in
set_option maxHeartbeats 4000000 in
theorem Makes_ch (r c : Nat) (n : Nat) (hn0 : 1 ≤ n) (hn1 : n ≤ 40) (hr0 : 41 ≤ r) (hr1 : r ≤ 255) (hr2 : 1 ≤ c) (hr3 : c ≤ 255) (hr4 : r + c ≤ 256) (ra ca : Int) (a0 : Option Addr) (len cap : Nat) (w : World) :
    Calls Try.prog 3 #[.int .i64 r, .int .i64 c, .int .i64 n, .agg #[.int .i64 ra, .int .i64 ca, .slice a0 len cap]] w fun e w' => e = .returned (.bool true) ∧ Below w.heap.size w w' := by
  obtain ⟨q, hq⟩ : ∃ q, rightB ra ca len = q := ⟨_, rfl⟩
  have HQ1 := Lib.hid (Right_any ra ca a0 len cap)
  have HQ2 := Lib.hid (rRight_any ra ca a0 len cap)
  rw [hq] at HQ1 HQ2
  clear hq
  have qq := bool_self q
  obtain ⟨N, hN⟩ : ∃ N, n * n = N := ⟨_, rfl⟩
  have HN := Lib.hid hN
  obtain ⟨m, hm⟩ : ∃ m, n + n = m := ⟨_, rfl⟩
  obtain ⟨N3, hN3⟩ : ∃ N, m * n = N := ⟨_, rfl⟩
  have hN3m : N3 ≤ 1000000 := by rw [← hN3]; exact Nat.le_trans (Nat.mul_le_mul (show m ≤ 254 by omega) (show n ≤ 127 by omega)) (by decide)
  have hw1 : (2 : Int) * (n : Int) = (m : Int) := by omega
  have hw2 := mul_wrap hN3 hN3m
  have HM := Lib.hid hm
  have HN3 := Lib.hid hN3
  have HW1 := Lib.hid hw1
  have HW2 := Lib.hid hw2
  clear hm hN3 hw1 hw2
  clear hN
  obtain ⟨N2, hN2⟩ : ∃ N, r * c = N := ⟨_, rfl⟩
  have HN2 := Lib.hid hN2
  clear hN2
  obtain ⟨wa, hwa⟩ : ∃ wa, wa = w.alloc (.cells #[.int .i64 ra, .int .i64 ca, .slice a0 len cap] 24) := ⟨_, rfl⟩
  have B_0 : Hid (Below w.heap.size w wa) := Lib.hid (by rw [hwa]; exact below_alloc _ _)
  have P_0 : Hid (BoxV w.heap.size ra ca a0 len cap wa) := Lib.hid ⟨by rw [hwa]; exact heap_alloc_new _ _⟩
  have HWA := Lib.hid hwa
  clear hwa
  go_enter Try.func3, Try.ntmps3
  go_wp2_with fail
  rw [← HWA.out]
  clear HWA
  refine (known_any _).mono ?_
  rintro e w1 ⟨rfl, hb1⟩
  have B_1 := Lib.hid (B_0.out.trans ((hb1).mono B_0.out.size))
  have P_2 := Lib.hid (P_0.out.below (hb1))
  clear B_0 P_0 hb1
  go_wp2_with fail
  refine (tIdent n N (by omega) (by omega) HN.out _).mono ?_
  rintro e w2 ⟨g1, rfl, t0_2, hb2⟩
  have B_3 := Lib.hid (B_1.out.trans ((hb2).mono B_1.out.size))
  have P_4 := Lib.hid (P_2.out.below (hb2))
  have It_5 := Lib.hid t0_2
  clear B_1 P_2 t0_2 hb2
  go_wp2_with (refine wpList_store_whole rfl 24 _ _ rfl w2.heap.size [.int .i64 n, .int .i64 n, .slice (some ⟨g1, 0, none⟩) N N] zeroRow 24 rfl rfl (heap_alloc_new _ _) rfl (by kernel_rfl) (mv_ones _ _ _ _) ?_; intro w3 h3 k3 s3; have hs3 := after_box k3.out; have i_6 := Lib.hid ((BoxT.of h3.out k3.out It_5.out).1); have B_7 := Lib.hid (B_3.out.trans ((hs3).mono B_3.out.size)); have P_8 := Lib.hid (P_4.out.below (hs3)); clear B_3 P_4 It_5 hs3; go_frame)
  clear h3 k3 s3
  refine (tCauchy r c N2 (by omega) (by omega) (by omega) (by omega) (by omega) HN2.out _).mono ?_
  rintro e w4 ⟨g2, rfl, t0_4, hb4⟩
  have B_9 := Lib.hid (B_7.out.trans ((hb4).mono B_7.out.size))
  have P_10 := Lib.hid (P_8.out.below (hb4))
  have i_11 := Lib.hid (i_6.out.below (hb4))
  have Ct_12 := Lib.hid t0_4
  clear B_7 P_8 i_6 t0_4 hb4
  go_wp2_with (refine wpList_store_whole rfl 24 _ _ rfl w4.heap.size [.int .i64 r, .int .i64 c, .slice (some ⟨g2, 0, none⟩) N2 N2] zeroRow 24 rfl rfl (heap_alloc_new _ _) rfl (by kernel_rfl) (mv_ones _ _ _ _) ?_; intro w5 h5 k5 s5; have hs5 := after_box k5.out; have c_13 := Lib.hid ((BoxT.of h5.out k5.out Ct_12.out).1); have B_14 := Lib.hid (B_9.out.trans ((hs5).mono B_9.out.size)); have P_15 := Lib.hid (P_10.out.below (hs5)); have i_16 := Lib.hid (i_11.out.below (hs5)); obtain ⟨c0_17, c1_17, c2_17⟩ := heap_cell0 P_15.out.box; clear B_9 P_10 i_11 Ct_12 hs5; go_frame)
  clear h5 k5 s5
  refine (HQ2.out _).mono ?_
  rintro e w6 ⟨rfl, hb6⟩
  have B_18 := Lib.hid (B_14.out.trans ((hb6).mono B_14.out.size))
  have P_19 := Lib.hid (P_15.out.below (hb6))
  have i_20 := Lib.hid (i_16.out.below (hb6))
  have c_21 := Lib.hid (c_13.out.below (hb6))
  clear B_14 P_15 i_16 c_13 hb6 c0_17 c1_17 c2_17
  go_wp2_with fail
  refine (is_none _).mono ?_
  rintro e w' ⟨rfl, rfl⟩
  go_wp2_with fail
  refine (is_none _).mono ?_
  rintro e w' ⟨rfl, rfl⟩
  go_wp2_with fail
  refine (rIdent_any n N HN.out (by omega) (by omega) _).mono ?_
  rintro e w7 ⟨g3, rfl, t0_7, hb7⟩
  have B_22 := Lib.hid (B_18.out.trans ((hb7).mono B_18.out.size))
  have P_23 := Lib.hid (P_19.out.below (hb7))
  have i_24 := Lib.hid (i_20.out.below (hb7))
  have c_25 := Lib.hid (c_21.out.below (hb7))
  have Jt_26 := Lib.hid t0_7
  clear B_18 P_19 i_20 c_21 t0_7 hb7
  go_wp2_with (refine wpList_store_whole rfl 24 _ _ rfl w7.heap.size [.int .i64 n, .int .i64 n, .slice (some ⟨g3, 0, none⟩) N N] zeroRow 24 rfl rfl (heap_alloc_new _ _) rfl (by kernel_rfl) (mv_ones _ _ _ _) ?_; intro w8 h8 k8 s8; have hs8 := after_box k8.out; have j_27 := Lib.hid ((BoxT.of h8.out k8.out Jt_26.out).1); have B_28 := Lib.hid (B_22.out.trans ((hs8).mono B_22.out.size)); have P_29 := Lib.hid (P_23.out.below (hs8)); have i_30 := Lib.hid (i_24.out.below (hs8)); have c_31 := Lib.hid (c_25.out.below (hs8)); obtain ⟨c0_32, c1_32, c2_32⟩ := heap_cell0 i_30.out.box; obtain ⟨c0_33, c1_33, c2_33⟩ := heap_cell0 j_27.out.box; clear B_22 P_23 i_24 c_25 Jt_26 hs8; go_frame)
  clear h8 k8 s8
  refine (tSame g1 g3 n n N _ _ HN.out (by have := mul_le (show n ≤ 255 by omega) (show n ≤ 255 by omega) HN.out; omega) (fun _ _ _ _ => rfl) _ i_30.out.tab j_27.out.tab).mono ?_
  rintro e w9 ⟨rfl, hb9⟩
  have B_34 := Lib.hid (B_28.out.trans ((hb9).mono B_28.out.size))
  have P_35 := Lib.hid (P_29.out.below (hb9))
  have i_36 := Lib.hid (i_30.out.below (hb9))
  have c_37 := Lib.hid (c_31.out.below (hb9))
  have j_38 := Lib.hid (j_27.out.below (hb9))
  clear B_28 P_29 i_30 c_31 j_27 hb9 c0_32 c0_33 c1_32 c1_33 c2_32 c2_33
  obtain ⟨c0_39, c1_39, c2_39⟩ := heap_cell0 i_36.out.box
  go_wp2_with fail
  refine (tUnder g1 g1 n n m n N N N3 _ _ (by omega) (by omega) HM.out (by have := HM.out; omega) (by omega) (by omega) HN.out HN.out HN3.out _ i_36.out.tab i_36.out.tab).mono ?_
  rintro e w10 ⟨g5, rfl, t0_10, hb10⟩
  have B_40 := Lib.hid (B_34.out.trans ((hb10).mono B_34.out.size))
  have P_41 := Lib.hid (P_35.out.below (hb10))
  have i_42 := Lib.hid (i_36.out.below (hb10))
  have c_43 := Lib.hid (c_37.out.below (hb10))
  have j_44 := Lib.hid (j_38.out.below (hb10))
  have Ut_45 := Lib.hid t0_10
  clear B_34 P_35 i_36 c_37 j_38 t0_10 hb10 c0_39 c1_39 c2_39
  go_wp2_with (refine wpList_store_whole rfl 24 _ _ rfl w10.heap.size [.int .i64 m, .int .i64 n, .slice (some ⟨g5, 0, none⟩) N3 N3] zeroRow 24 rfl rfl (heap_alloc_new _ _) rfl (by kernel_rfl) (mv_ones _ _ _ _) ?_; intro w11 h11 k11 s11; have hs11 := after_box k11.out; have u_46 := Lib.hid ((BoxT.of h11.out k11.out Ut_45.out).1); have B_47 := Lib.hid (B_40.out.trans ((hs11).mono B_40.out.size)); have P_48 := Lib.hid (P_41.out.below (hs11)); have i_49 := Lib.hid (i_42.out.below (hs11)); have c_50 := Lib.hid (c_43.out.below (hs11)); have j_51 := Lib.hid (j_44.out.below (hs11)); obtain ⟨c0_52, c1_52, c2_52⟩ := heap_cell0 u_46.out.box; clear B_40 P_41 i_42 c_43 j_44 Ut_45 hs11; go_frame)
  clear h11 k11 s11
  have hw1 := HW1.out
  have hw2 := HW2.out
  refine (is_none _).mono ?_
  rintro e w' ⟨rfl, rfl⟩
  obtain ⟨c0_53, c1_53, c2_53⟩ := heap_cell0 P_48.out.box
  go_wp2_with fail
  refine (HQ1.out _).mono ?_
  rintro e w12 ⟨rfl, hb12⟩
  have B_54 := Lib.hid (B_47.out.trans ((hb12).mono B_47.out.size))
  have P_55 := Lib.hid (P_48.out.below (hb12))
  have i_56 := Lib.hid (i_49.out.below (hb12))
  have c_57 := Lib.hid (c_50.out.below (hb12))
  have j_58 := Lib.hid (j_51.out.below (hb12))
  have u_59 := Lib.hid (u_46.out.below (hb12))
  clear B_47 P_48 i_49 c_50 j_51 u_46 hb12 c0_52 c0_53 c1_52 c1_53 c2_52 c2_53
  go_wp2_with fail
  go_ret
  exact ⟨rfl, B_54.out⟩
set_option maxRecDepth 20000 in
set_option maxHeartbeats 4000000 in
theorem Makes_ci (r c : Int) (n : Nat) (hn0 : 1 ≤ n) (hn1 : n ≤ 40) (hr0 : 41 ≤ r) (hr1 : r ≤ 255) (hr2 : c < 1) (hrb : -9223372036854775808 ≤ r ∧ r ≤ 9223372036854775807) (hcb : -9223372036854775808 ≤ c ∧ c ≤ 9223372036854775807) (ra ca : Int) (a0 : Option Addr) (len cap : Nat) (w : World) :
    Calls Try.prog 3 #[.int .i64 r, .int .i64 c, .int .i64 n, .agg #[.int .i64 ra, .int .i64 ca, .slice a0 len cap]] w fun e w' => e = .returned (.bool true) ∧ Below w.heap.size w w' := by
  have hbb := And.intro hrb hcb
  clear hbb
  obtain ⟨q, hq⟩ : ∃ q, rightB ra ca len = q := ⟨_, rfl⟩
  have HQ1 := Lib.hid (Right_any ra ca a0 len cap)
  have HQ2 := Lib.hid (rRight_any ra ca a0 len cap)
  rw [hq] at HQ1 HQ2
  clear hq
  have qq := bool_self q
  obtain ⟨N, hN⟩ : ∃ N, n * n = N := ⟨_, rfl⟩
  have HN := Lib.hid hN
  obtain ⟨m, hm⟩ : ∃ m, n + n = m := ⟨_, rfl⟩
  obtain ⟨N3, hN3⟩ : ∃ N, m * n = N := ⟨_, rfl⟩
  have hN3m : N3 ≤ 1000000 := by rw [← hN3]; exact Nat.le_trans (Nat.mul_le_mul (show m ≤ 254 by omega) (show n ≤ 127 by omega)) (by decide)
  have hw1 : (2 : Int) * (n : Int) = (m : Int) := by omega
  have hw2 := mul_wrap hN3 hN3m
  have HM := Lib.hid hm
  have HN3 := Lib.hid hN3
  have HW1 := Lib.hid hw1
  have HW2 := Lib.hid hw2
  clear hm hN3 hw1 hw2
  clear hN
  obtain ⟨wa, hwa⟩ : ∃ wa, wa = w.alloc (.cells #[.int .i64 ra, .int .i64 ca, .slice a0 len cap] 24) := ⟨_, rfl⟩
  have B_0 : Hid (Below w.heap.size w wa) := Lib.hid (by rw [hwa]; exact below_alloc _ _)
  have P_0 : Hid (BoxV w.heap.size ra ca a0 len cap wa) := Lib.hid ⟨by rw [hwa]; exact heap_alloc_new _ _⟩
  have HWA := Lib.hid hwa
  clear hwa
  go_enter Try.func3, Try.ntmps3
  go_wp2_with fail
  rw [← HWA.out]
  clear HWA
  refine (known_any _).mono ?_
  rintro e w1 ⟨rfl, hb1⟩
  have B_1 := Lib.hid (B_0.out.trans ((hb1).mono B_0.out.size))
  have P_2 := Lib.hid (P_0.out.below (hb1))
  clear B_0 P_0 hb1
  go_wp2_with fail
  refine (tIdent n N (by omega) (by omega) HN.out _).mono ?_
  rintro e w2 ⟨g1, rfl, t0_2, hb2⟩
  have B_3 := Lib.hid (B_1.out.trans ((hb2).mono B_1.out.size))
  have P_4 := Lib.hid (P_2.out.below (hb2))
  have It_5 := Lib.hid t0_2
  clear B_1 P_2 t0_2 hb2
  go_wp2_with (refine wpList_store_whole rfl 24 _ _ rfl w2.heap.size [.int .i64 n, .int .i64 n, .slice (some ⟨g1, 0, none⟩) N N] zeroRow 24 rfl rfl (heap_alloc_new _ _) rfl (by kernel_rfl) (mv_ones _ _ _ _) ?_; intro w3 h3 k3 s3; have hs3 := after_box k3.out; have i_6 := Lib.hid ((BoxT.of h3.out k3.out It_5.out).1); have B_7 := Lib.hid (B_3.out.trans ((hs3).mono B_3.out.size)); have P_8 := Lib.hid (P_4.out.below (hs3)); clear B_3 P_4 It_5 hs3; go_frame)
  clear h3 k3 s3
  refine (tCauchy_no r c (by omega) _).mono ?_
  rintro e w4 ⟨g2, rfl, t0_4, hb4⟩
  have B_9 := Lib.hid (B_7.out.trans ((hb4).mono B_7.out.size))
  have P_10 := Lib.hid (P_8.out.below (hb4))
  have i_11 := Lib.hid (i_6.out.below (hb4))
  have Fc_12 := Lib.hid t0_4
  clear B_7 P_8 i_6 t0_4 hb4
  unfold noneV faultV
  go_wp2_with (refine wpList_store_whole rfl 24 _ _ rfl w4.heap.size zeroRow zeroRow 24 rfl rfl (heap_alloc_new _ _) rfl (by kernel_rfl) (by decide) ?_; intro w5 h5 k5 s5; have hs5 := after_box k5.out; have c_13 : Hid (BoxV w4.heap.size 0 0 none 0 0 w5) := Lib.hid ⟨h5.out⟩; have B_14 := Lib.hid (B_9.out.trans ((hs5).mono B_9.out.size)); have P_15 := Lib.hid (P_10.out.below (hs5)); have i_16 := Lib.hid (i_11.out.below (hs5)); have Fc_17 := Lib.hid (Fc_12.out.keep ((hs5).block _ Fc_12.out.lt)); obtain ⟨c0_18, c1_18, c2_18⟩ := heap_cell0 P_15.out.box; clear B_9 P_10 i_11 Fc_12 hs5; go_frame)
  clear h5 k5 s5
  refine (HQ2.out _).mono ?_
  rintro e w6 ⟨rfl, hb6⟩
  have B_19 := Lib.hid (B_14.out.trans ((hb6).mono B_14.out.size))
  have P_20 := Lib.hid (P_15.out.below (hb6))
  have i_21 := Lib.hid (i_16.out.below (hb6))
  have Fc_22 := Lib.hid (Fc_17.out.keep ((hb6).block _ Fc_17.out.lt))
  have c_23 := Lib.hid (c_13.out.below (hb6))
  clear B_14 P_15 i_16 Fc_17 c_13 hb6 c0_18 c1_18 c2_18
  go_wp2_with fail
  refine (is_none _).mono ?_
  rintro e w' ⟨rfl, rfl⟩
  go_wp2_with fail
  refine (is_not0 g2 _).mono ?_
  rintro e w' ⟨rfl, rfl⟩
  obtain ⟨c0_24, c1_24, c2_24⟩ := heap_cell0 c_23.out.box
  go_wp2_with fail
  refine (is_fault g2 1 (by decide) _ Fc_22.out).mono ?_
  rintro e w' ⟨rfl, rfl⟩
  go_wp2_with fail
  refine (rIdent_any n N HN.out (by omega) (by omega) _).mono ?_
  rintro e w7 ⟨g3, rfl, t0_7, hb7⟩
  have B_25 := Lib.hid (B_19.out.trans ((hb7).mono B_19.out.size))
  have P_26 := Lib.hid (P_20.out.below (hb7))
  have i_27 := Lib.hid (i_21.out.below (hb7))
  have Fc_28 := Lib.hid (Fc_22.out.keep ((hb7).block _ Fc_22.out.lt))
  have c_29 := Lib.hid (c_23.out.below (hb7))
  have Jt_30 := Lib.hid t0_7
  clear B_19 P_20 i_21 Fc_22 c_23 t0_7 hb7 c0_24 c1_24 c2_24
  go_wp2_with (refine wpList_store_whole rfl 24 _ _ rfl w7.heap.size [.int .i64 n, .int .i64 n, .slice (some ⟨g3, 0, none⟩) N N] zeroRow 24 rfl rfl (heap_alloc_new _ _) rfl (by kernel_rfl) (mv_ones _ _ _ _) ?_; intro w8 h8 k8 s8; have hs8 := after_box k8.out; have j_31 := Lib.hid ((BoxT.of h8.out k8.out Jt_30.out).1); have B_32 := Lib.hid (B_25.out.trans ((hs8).mono B_25.out.size)); have P_33 := Lib.hid (P_26.out.below (hs8)); have i_34 := Lib.hid (i_27.out.below (hs8)); have Fc_35 := Lib.hid (Fc_28.out.keep ((hs8).block _ Fc_28.out.lt)); have c_36 := Lib.hid (c_29.out.below (hs8)); obtain ⟨c0_37, c1_37, c2_37⟩ := heap_cell0 i_34.out.box; obtain ⟨c0_38, c1_38, c2_38⟩ := heap_cell0 j_31.out.box; clear B_25 P_26 i_27 Fc_28 c_29 Jt_30 hs8; go_frame)
  clear h8 k8 s8
  refine (tSame g1 g3 n n N _ _ HN.out (by have := mul_le (show n ≤ 255 by omega) (show n ≤ 255 by omega) HN.out; omega) (fun _ _ _ _ => rfl) _ i_34.out.tab j_31.out.tab).mono ?_
  rintro e w9 ⟨rfl, hb9⟩
  have B_39 := Lib.hid (B_32.out.trans ((hb9).mono B_32.out.size))
  have P_40 := Lib.hid (P_33.out.below (hb9))
  have i_41 := Lib.hid (i_34.out.below (hb9))
  have Fc_42 := Lib.hid (Fc_35.out.keep ((hb9).block _ Fc_35.out.lt))
  have c_43 := Lib.hid (c_36.out.below (hb9))
  have j_44 := Lib.hid (j_31.out.below (hb9))
  clear B_32 P_33 i_34 Fc_35 c_36 j_31 hb9 c0_37 c0_38 c1_37 c1_38 c2_37 c2_38
  obtain ⟨c0_45, c1_45, c2_45⟩ := heap_cell0 i_41.out.box
  go_wp2_with fail
  refine (tUnder g1 g1 n n m n N N N3 _ _ (by omega) (by omega) HM.out (by have := HM.out; omega) (by omega) (by omega) HN.out HN.out HN3.out _ i_41.out.tab i_41.out.tab).mono ?_
  rintro e w10 ⟨g5, rfl, t0_10, hb10⟩
  have B_46 := Lib.hid (B_39.out.trans ((hb10).mono B_39.out.size))
  have P_47 := Lib.hid (P_40.out.below (hb10))
  have i_48 := Lib.hid (i_41.out.below (hb10))
  have Fc_49 := Lib.hid (Fc_42.out.keep ((hb10).block _ Fc_42.out.lt))
  have c_50 := Lib.hid (c_43.out.below (hb10))
  have j_51 := Lib.hid (j_44.out.below (hb10))
  have Ut_52 := Lib.hid t0_10
  clear B_39 P_40 i_41 Fc_42 c_43 j_44 t0_10 hb10 c0_45 c1_45 c2_45
  go_wp2_with (refine wpList_store_whole rfl 24 _ _ rfl w10.heap.size [.int .i64 m, .int .i64 n, .slice (some ⟨g5, 0, none⟩) N3 N3] zeroRow 24 rfl rfl (heap_alloc_new _ _) rfl (by kernel_rfl) (mv_ones _ _ _ _) ?_; intro w11 h11 k11 s11; have hs11 := after_box k11.out; have u_53 := Lib.hid ((BoxT.of h11.out k11.out Ut_52.out).1); have B_54 := Lib.hid (B_46.out.trans ((hs11).mono B_46.out.size)); have P_55 := Lib.hid (P_47.out.below (hs11)); have i_56 := Lib.hid (i_48.out.below (hs11)); have Fc_57 := Lib.hid (Fc_49.out.keep ((hs11).block _ Fc_49.out.lt)); have c_58 := Lib.hid (c_50.out.below (hs11)); have j_59 := Lib.hid (j_51.out.below (hs11)); obtain ⟨c0_60, c1_60, c2_60⟩ := heap_cell0 u_53.out.box; clear B_46 P_47 i_48 Fc_49 c_50 j_51 Ut_52 hs11; go_frame)
  clear h11 k11 s11
  have hw1 := HW1.out
  have hw2 := HW2.out
  refine (is_none _).mono ?_
  rintro e w' ⟨rfl, rfl⟩
  obtain ⟨c0_61, c1_61, c2_61⟩ := heap_cell0 P_55.out.box
  go_wp2_with fail
  refine (HQ1.out _).mono ?_
  rintro e w12 ⟨rfl, hb12⟩
  have B_62 := Lib.hid (B_54.out.trans ((hb12).mono B_54.out.size))
  have P_63 := Lib.hid (P_55.out.below (hb12))
  have i_64 := Lib.hid (i_56.out.below (hb12))
  have Fc_65 := Lib.hid (Fc_57.out.keep ((hb12).block _ Fc_57.out.lt))
  have c_66 := Lib.hid (c_58.out.below (hb12))
  have j_67 := Lib.hid (j_59.out.below (hb12))
  have u_68 := Lib.hid (u_53.out.below (hb12))
  clear B_54 P_55 i_56 Fc_57 c_58 j_59 u_53 hb12 c0_60 c0_61 c1_60 c1_61 c2_60 c2_61
  go_wp2_with fail
  go_ret
  exact ⟨rfl, B_62.out⟩
set_option maxRecDepth 20000 in
set_option maxHeartbeats 4000000 in
theorem Makes_cj (r c : Int) (n : Nat) (hn0 : 1 ≤ n) (hn1 : n ≤ 40) (hr0 : 41 ≤ r) (hr1 : r ≤ 255) (hr2 : 255 < c) (hrb : -9223372036854775808 ≤ r ∧ r ≤ 9223372036854775807) (hcb : -9223372036854775808 ≤ c ∧ c ≤ 9223372036854775807) (ra ca : Int) (a0 : Option Addr) (len cap : Nat) (w : World) :
    Calls Try.prog 3 #[.int .i64 r, .int .i64 c, .int .i64 n, .agg #[.int .i64 ra, .int .i64 ca, .slice a0 len cap]] w fun e w' => e = .returned (.bool true) ∧ Below w.heap.size w w' := by
  have hbb := And.intro hrb hcb
  clear hbb
  obtain ⟨q, hq⟩ : ∃ q, rightB ra ca len = q := ⟨_, rfl⟩
  have HQ1 := Lib.hid (Right_any ra ca a0 len cap)
  have HQ2 := Lib.hid (rRight_any ra ca a0 len cap)
  rw [hq] at HQ1 HQ2
  clear hq
  have qq := bool_self q
  obtain ⟨N, hN⟩ : ∃ N, n * n = N := ⟨_, rfl⟩
  have HN := Lib.hid hN
  obtain ⟨m, hm⟩ : ∃ m, n + n = m := ⟨_, rfl⟩
  obtain ⟨N3, hN3⟩ : ∃ N, m * n = N := ⟨_, rfl⟩
  have hN3m : N3 ≤ 1000000 := by rw [← hN3]; exact Nat.le_trans (Nat.mul_le_mul (show m ≤ 254 by omega) (show n ≤ 127 by omega)) (by decide)
  have hw1 : (2 : Int) * (n : Int) = (m : Int) := by omega
  have hw2 := mul_wrap hN3 hN3m
  have HM := Lib.hid hm
  have HN3 := Lib.hid hN3
  have HW1 := Lib.hid hw1
  have HW2 := Lib.hid hw2
  clear hm hN3 hw1 hw2
  clear hN
  obtain ⟨wa, hwa⟩ : ∃ wa, wa = w.alloc (.cells #[.int .i64 ra, .int .i64 ca, .slice a0 len cap] 24) := ⟨_, rfl⟩
  have B_0 : Hid (Below w.heap.size w wa) := Lib.hid (by rw [hwa]; exact below_alloc _ _)
  have P_0 : Hid (BoxV w.heap.size ra ca a0 len cap wa) := Lib.hid ⟨by rw [hwa]; exact heap_alloc_new _ _⟩
  have HWA := Lib.hid hwa
  clear hwa
  go_enter Try.func3, Try.ntmps3
  go_wp2_with fail
  rw [← HWA.out]
  clear HWA
  refine (known_any _).mono ?_
  rintro e w1 ⟨rfl, hb1⟩
  have B_1 := Lib.hid (B_0.out.trans ((hb1).mono B_0.out.size))
  have P_2 := Lib.hid (P_0.out.below (hb1))
  clear B_0 P_0 hb1
  go_wp2_with fail
  refine (tIdent n N (by omega) (by omega) HN.out _).mono ?_
  rintro e w2 ⟨g1, rfl, t0_2, hb2⟩
  have B_3 := Lib.hid (B_1.out.trans ((hb2).mono B_1.out.size))
  have P_4 := Lib.hid (P_2.out.below (hb2))
  have It_5 := Lib.hid t0_2
  clear B_1 P_2 t0_2 hb2
  go_wp2_with (refine wpList_store_whole rfl 24 _ _ rfl w2.heap.size [.int .i64 n, .int .i64 n, .slice (some ⟨g1, 0, none⟩) N N] zeroRow 24 rfl rfl (heap_alloc_new _ _) rfl (by kernel_rfl) (mv_ones _ _ _ _) ?_; intro w3 h3 k3 s3; have hs3 := after_box k3.out; have i_6 := Lib.hid ((BoxT.of h3.out k3.out It_5.out).1); have B_7 := Lib.hid (B_3.out.trans ((hs3).mono B_3.out.size)); have P_8 := Lib.hid (P_4.out.below (hs3)); clear B_3 P_4 It_5 hs3; go_frame)
  clear h3 k3 s3
  refine (tCauchy_no r c (by omega) _).mono ?_
  rintro e w4 ⟨g2, rfl, t0_4, hb4⟩
  have B_9 := Lib.hid (B_7.out.trans ((hb4).mono B_7.out.size))
  have P_10 := Lib.hid (P_8.out.below (hb4))
  have i_11 := Lib.hid (i_6.out.below (hb4))
  have Fc_12 := Lib.hid t0_4
  clear B_7 P_8 i_6 t0_4 hb4
  unfold noneV faultV
  go_wp2_with (refine wpList_store_whole rfl 24 _ _ rfl w4.heap.size zeroRow zeroRow 24 rfl rfl (heap_alloc_new _ _) rfl (by kernel_rfl) (by decide) ?_; intro w5 h5 k5 s5; have hs5 := after_box k5.out; have c_13 : Hid (BoxV w4.heap.size 0 0 none 0 0 w5) := Lib.hid ⟨h5.out⟩; have B_14 := Lib.hid (B_9.out.trans ((hs5).mono B_9.out.size)); have P_15 := Lib.hid (P_10.out.below (hs5)); have i_16 := Lib.hid (i_11.out.below (hs5)); have Fc_17 := Lib.hid (Fc_12.out.keep ((hs5).block _ Fc_12.out.lt)); obtain ⟨c0_18, c1_18, c2_18⟩ := heap_cell0 P_15.out.box; clear B_9 P_10 i_11 Fc_12 hs5; go_frame)
  clear h5 k5 s5
  refine (HQ2.out _).mono ?_
  rintro e w6 ⟨rfl, hb6⟩
  have B_19 := Lib.hid (B_14.out.trans ((hb6).mono B_14.out.size))
  have P_20 := Lib.hid (P_15.out.below (hb6))
  have i_21 := Lib.hid (i_16.out.below (hb6))
  have Fc_22 := Lib.hid (Fc_17.out.keep ((hb6).block _ Fc_17.out.lt))
  have c_23 := Lib.hid (c_13.out.below (hb6))
  clear B_14 P_15 i_16 Fc_17 c_13 hb6 c0_18 c1_18 c2_18
  go_wp2_with fail
  refine (is_none _).mono ?_
  rintro e w' ⟨rfl, rfl⟩
  go_wp2_with fail
  refine (is_not0 g2 _).mono ?_
  rintro e w' ⟨rfl, rfl⟩
  obtain ⟨c0_24, c1_24, c2_24⟩ := heap_cell0 c_23.out.box
  go_wp2_with fail
  refine (is_fault g2 1 (by decide) _ Fc_22.out).mono ?_
  rintro e w' ⟨rfl, rfl⟩
  go_wp2_with fail
  refine (rIdent_any n N HN.out (by omega) (by omega) _).mono ?_
  rintro e w7 ⟨g3, rfl, t0_7, hb7⟩
  have B_25 := Lib.hid (B_19.out.trans ((hb7).mono B_19.out.size))
  have P_26 := Lib.hid (P_20.out.below (hb7))
  have i_27 := Lib.hid (i_21.out.below (hb7))
  have Fc_28 := Lib.hid (Fc_22.out.keep ((hb7).block _ Fc_22.out.lt))
  have c_29 := Lib.hid (c_23.out.below (hb7))
  have Jt_30 := Lib.hid t0_7
  clear B_19 P_20 i_21 Fc_22 c_23 t0_7 hb7 c0_24 c1_24 c2_24
  go_wp2_with (refine wpList_store_whole rfl 24 _ _ rfl w7.heap.size [.int .i64 n, .int .i64 n, .slice (some ⟨g3, 0, none⟩) N N] zeroRow 24 rfl rfl (heap_alloc_new _ _) rfl (by kernel_rfl) (mv_ones _ _ _ _) ?_; intro w8 h8 k8 s8; have hs8 := after_box k8.out; have j_31 := Lib.hid ((BoxT.of h8.out k8.out Jt_30.out).1); have B_32 := Lib.hid (B_25.out.trans ((hs8).mono B_25.out.size)); have P_33 := Lib.hid (P_26.out.below (hs8)); have i_34 := Lib.hid (i_27.out.below (hs8)); have Fc_35 := Lib.hid (Fc_28.out.keep ((hs8).block _ Fc_28.out.lt)); have c_36 := Lib.hid (c_29.out.below (hs8)); obtain ⟨c0_37, c1_37, c2_37⟩ := heap_cell0 i_34.out.box; obtain ⟨c0_38, c1_38, c2_38⟩ := heap_cell0 j_31.out.box; clear B_25 P_26 i_27 Fc_28 c_29 Jt_30 hs8; go_frame)
  clear h8 k8 s8
  refine (tSame g1 g3 n n N _ _ HN.out (by have := mul_le (show n ≤ 255 by omega) (show n ≤ 255 by omega) HN.out; omega) (fun _ _ _ _ => rfl) _ i_34.out.tab j_31.out.tab).mono ?_
  rintro e w9 ⟨rfl, hb9⟩
  have B_39 := Lib.hid (B_32.out.trans ((hb9).mono B_32.out.size))
  have P_40 := Lib.hid (P_33.out.below (hb9))
  have i_41 := Lib.hid (i_34.out.below (hb9))
  have Fc_42 := Lib.hid (Fc_35.out.keep ((hb9).block _ Fc_35.out.lt))
  have c_43 := Lib.hid (c_36.out.below (hb9))
  have j_44 := Lib.hid (j_31.out.below (hb9))
  clear B_32 P_33 i_34 Fc_35 c_36 j_31 hb9 c0_37 c0_38 c1_37 c1_38 c2_37 c2_38
  obtain ⟨c0_45, c1_45, c2_45⟩ := heap_cell0 i_41.out.box
  go_wp2_with fail
  refine (tUnder g1 g1 n n m n N N N3 _ _ (by omega) (by omega) HM.out (by have := HM.out; omega) (by omega) (by omega) HN.out HN.out HN3.out _ i_41.out.tab i_41.out.tab).mono ?_
  rintro e w10 ⟨g5, rfl, t0_10, hb10⟩
  have B_46 := Lib.hid (B_39.out.trans ((hb10).mono B_39.out.size))
  have P_47 := Lib.hid (P_40.out.below (hb10))
  have i_48 := Lib.hid (i_41.out.below (hb10))
  have Fc_49 := Lib.hid (Fc_42.out.keep ((hb10).block _ Fc_42.out.lt))
  have c_50 := Lib.hid (c_43.out.below (hb10))
  have j_51 := Lib.hid (j_44.out.below (hb10))
  have Ut_52 := Lib.hid t0_10
  clear B_39 P_40 i_41 Fc_42 c_43 j_44 t0_10 hb10 c0_45 c1_45 c2_45
  go_wp2_with (refine wpList_store_whole rfl 24 _ _ rfl w10.heap.size [.int .i64 m, .int .i64 n, .slice (some ⟨g5, 0, none⟩) N3 N3] zeroRow 24 rfl rfl (heap_alloc_new _ _) rfl (by kernel_rfl) (mv_ones _ _ _ _) ?_; intro w11 h11 k11 s11; have hs11 := after_box k11.out; have u_53 := Lib.hid ((BoxT.of h11.out k11.out Ut_52.out).1); have B_54 := Lib.hid (B_46.out.trans ((hs11).mono B_46.out.size)); have P_55 := Lib.hid (P_47.out.below (hs11)); have i_56 := Lib.hid (i_48.out.below (hs11)); have Fc_57 := Lib.hid (Fc_49.out.keep ((hs11).block _ Fc_49.out.lt)); have c_58 := Lib.hid (c_50.out.below (hs11)); have j_59 := Lib.hid (j_51.out.below (hs11)); obtain ⟨c0_60, c1_60, c2_60⟩ := heap_cell0 u_53.out.box; clear B_46 P_47 i_48 Fc_49 c_50 j_51 Ut_52 hs11; go_frame)
  clear h11 k11 s11
  have hw1 := HW1.out
  have hw2 := HW2.out
  refine (is_none _).mono ?_
  rintro e w' ⟨rfl, rfl⟩
  obtain ⟨c0_61, c1_61, c2_61⟩ := heap_cell0 P_55.out.box
  go_wp2_with fail
  refine (HQ1.out _).mono ?_
  rintro e w12 ⟨rfl, hb12⟩
  have B_62 := Lib.hid (B_54.out.trans ((hb12).mono B_54.out.size))
  have P_63 := Lib.hid (P_55.out.below (hb12))
  have i_64 := Lib.hid (i_56.out.below (hb12))
  have Fc_65 := Lib.hid (Fc_57.out.keep ((hb12).block _ Fc_57.out.lt))
  have c_66 := Lib.hid (c_58.out.below (hb12))
  have j_67 := Lib.hid (j_59.out.below (hb12))
  have u_68 := Lib.hid (u_53.out.below (hb12))
  clear B_54 P_55 i_56 Fc_57 c_58 j_59 u_53 hb12 c0_60 c0_61 c1_60 c1_61 c2_60 c2_61
  go_wp2_with fail
  go_ret
  exact ⟨rfl, B_62.out⟩
set_option maxRecDepth 20000 in
set_option maxHeartbeats 4000000 in
theorem Makes_ck (r c : Int) (n : Nat) (hn0 : 1 ≤ n) (hn1 : n ≤ 40) (hr0 : 41 ≤ r) (hr1 : r ≤ 255) (hr2 : 1 ≤ c) (hr3 : c ≤ 255) (hr4 : 256 < r + c) (hrb : -9223372036854775808 ≤ r ∧ r ≤ 9223372036854775807) (hcb : -9223372036854775808 ≤ c ∧ c ≤ 9223372036854775807) (ra ca : Int) (a0 : Option Addr) (len cap : Nat) (w : World) :
    Calls Try.prog 3 #[.int .i64 r, .int .i64 c, .int .i64 n, .agg #[.int .i64 ra, .int .i64 ca, .slice a0 len cap]] w fun e w' => e = .returned (.bool true) ∧ Below w.heap.size w w' := by
  have hbb := And.intro hrb hcb
  clear hbb
  obtain ⟨q, hq⟩ : ∃ q, rightB ra ca len = q := ⟨_, rfl⟩
  have HQ1 := Lib.hid (Right_any ra ca a0 len cap)
  have HQ2 := Lib.hid (rRight_any ra ca a0 len cap)
  rw [hq] at HQ1 HQ2
  clear hq
  have qq := bool_self q
  obtain ⟨N, hN⟩ : ∃ N, n * n = N := ⟨_, rfl⟩
  have HN := Lib.hid hN
  obtain ⟨m, hm⟩ : ∃ m, n + n = m := ⟨_, rfl⟩
  obtain ⟨N3, hN3⟩ : ∃ N, m * n = N := ⟨_, rfl⟩
  have hN3m : N3 ≤ 1000000 := by rw [← hN3]; exact Nat.le_trans (Nat.mul_le_mul (show m ≤ 254 by omega) (show n ≤ 127 by omega)) (by decide)
  have hw1 : (2 : Int) * (n : Int) = (m : Int) := by omega
  have hw2 := mul_wrap hN3 hN3m
  have HM := Lib.hid hm
  have HN3 := Lib.hid hN3
  have HW1 := Lib.hid hw1
  have HW2 := Lib.hid hw2
  clear hm hN3 hw1 hw2
  clear hN
  obtain ⟨wa, hwa⟩ : ∃ wa, wa = w.alloc (.cells #[.int .i64 ra, .int .i64 ca, .slice a0 len cap] 24) := ⟨_, rfl⟩
  have B_0 : Hid (Below w.heap.size w wa) := Lib.hid (by rw [hwa]; exact below_alloc _ _)
  have P_0 : Hid (BoxV w.heap.size ra ca a0 len cap wa) := Lib.hid ⟨by rw [hwa]; exact heap_alloc_new _ _⟩
  have HWA := Lib.hid hwa
  clear hwa
  go_enter Try.func3, Try.ntmps3
  go_wp2_with fail
  rw [← HWA.out]
  clear HWA
  refine (known_any _).mono ?_
  rintro e w1 ⟨rfl, hb1⟩
  have B_1 := Lib.hid (B_0.out.trans ((hb1).mono B_0.out.size))
  have P_2 := Lib.hid (P_0.out.below (hb1))
  clear B_0 P_0 hb1
  go_wp2_with fail
  refine (tIdent n N (by omega) (by omega) HN.out _).mono ?_
  rintro e w2 ⟨g1, rfl, t0_2, hb2⟩
  have B_3 := Lib.hid (B_1.out.trans ((hb2).mono B_1.out.size))
  have P_4 := Lib.hid (P_2.out.below (hb2))
  have It_5 := Lib.hid t0_2
  clear B_1 P_2 t0_2 hb2
  go_wp2_with (refine wpList_store_whole rfl 24 _ _ rfl w2.heap.size [.int .i64 n, .int .i64 n, .slice (some ⟨g1, 0, none⟩) N N] zeroRow 24 rfl rfl (heap_alloc_new _ _) rfl (by kernel_rfl) (mv_ones _ _ _ _) ?_; intro w3 h3 k3 s3; have hs3 := after_box k3.out; have i_6 := Lib.hid ((BoxT.of h3.out k3.out It_5.out).1); have B_7 := Lib.hid (B_3.out.trans ((hs3).mono B_3.out.size)); have P_8 := Lib.hid (P_4.out.below (hs3)); clear B_3 P_4 It_5 hs3; go_frame)
  clear h3 k3 s3
  refine (tCauchy_no r c (by omega) _).mono ?_
  rintro e w4 ⟨g2, rfl, t0_4, hb4⟩
  have B_9 := Lib.hid (B_7.out.trans ((hb4).mono B_7.out.size))
  have P_10 := Lib.hid (P_8.out.below (hb4))
  have i_11 := Lib.hid (i_6.out.below (hb4))
  have Fc_12 := Lib.hid t0_4
  clear B_7 P_8 i_6 t0_4 hb4
  unfold noneV faultV
  go_wp2_with (refine wpList_store_whole rfl 24 _ _ rfl w4.heap.size zeroRow zeroRow 24 rfl rfl (heap_alloc_new _ _) rfl (by kernel_rfl) (by decide) ?_; intro w5 h5 k5 s5; have hs5 := after_box k5.out; have c_13 : Hid (BoxV w4.heap.size 0 0 none 0 0 w5) := Lib.hid ⟨h5.out⟩; have B_14 := Lib.hid (B_9.out.trans ((hs5).mono B_9.out.size)); have P_15 := Lib.hid (P_10.out.below (hs5)); have i_16 := Lib.hid (i_11.out.below (hs5)); have Fc_17 := Lib.hid (Fc_12.out.keep ((hs5).block _ Fc_12.out.lt)); obtain ⟨c0_18, c1_18, c2_18⟩ := heap_cell0 P_15.out.box; clear B_9 P_10 i_11 Fc_12 hs5; go_frame)
  clear h5 k5 s5
  refine (HQ2.out _).mono ?_
  rintro e w6 ⟨rfl, hb6⟩
  have B_19 := Lib.hid (B_14.out.trans ((hb6).mono B_14.out.size))
  have P_20 := Lib.hid (P_15.out.below (hb6))
  have i_21 := Lib.hid (i_16.out.below (hb6))
  have Fc_22 := Lib.hid (Fc_17.out.keep ((hb6).block _ Fc_17.out.lt))
  have c_23 := Lib.hid (c_13.out.below (hb6))
  clear B_14 P_15 i_16 Fc_17 c_13 hb6 c0_18 c1_18 c2_18
  go_wp2_with fail
  refine (is_none _).mono ?_
  rintro e w' ⟨rfl, rfl⟩
  go_wp2_with fail
  refine (is_not0 g2 _).mono ?_
  rintro e w' ⟨rfl, rfl⟩
  obtain ⟨c0_24, c1_24, c2_24⟩ := heap_cell0 c_23.out.box
  go_wp2_with fail
  refine (is_fault g2 1 (by decide) _ Fc_22.out).mono ?_
  rintro e w' ⟨rfl, rfl⟩
  go_wp2_with fail
  refine (rIdent_any n N HN.out (by omega) (by omega) _).mono ?_
  rintro e w7 ⟨g3, rfl, t0_7, hb7⟩
  have B_25 := Lib.hid (B_19.out.trans ((hb7).mono B_19.out.size))
  have P_26 := Lib.hid (P_20.out.below (hb7))
  have i_27 := Lib.hid (i_21.out.below (hb7))
  have Fc_28 := Lib.hid (Fc_22.out.keep ((hb7).block _ Fc_22.out.lt))
  have c_29 := Lib.hid (c_23.out.below (hb7))
  have Jt_30 := Lib.hid t0_7
  clear B_19 P_20 i_21 Fc_22 c_23 t0_7 hb7 c0_24 c1_24 c2_24
  go_wp2_with (refine wpList_store_whole rfl 24 _ _ rfl w7.heap.size [.int .i64 n, .int .i64 n, .slice (some ⟨g3, 0, none⟩) N N] zeroRow 24 rfl rfl (heap_alloc_new _ _) rfl (by kernel_rfl) (mv_ones _ _ _ _) ?_; intro w8 h8 k8 s8; have hs8 := after_box k8.out; have j_31 := Lib.hid ((BoxT.of h8.out k8.out Jt_30.out).1); have B_32 := Lib.hid (B_25.out.trans ((hs8).mono B_25.out.size)); have P_33 := Lib.hid (P_26.out.below (hs8)); have i_34 := Lib.hid (i_27.out.below (hs8)); have Fc_35 := Lib.hid (Fc_28.out.keep ((hs8).block _ Fc_28.out.lt)); have c_36 := Lib.hid (c_29.out.below (hs8)); obtain ⟨c0_37, c1_37, c2_37⟩ := heap_cell0 i_34.out.box; obtain ⟨c0_38, c1_38, c2_38⟩ := heap_cell0 j_31.out.box; clear B_25 P_26 i_27 Fc_28 c_29 Jt_30 hs8; go_frame)
  clear h8 k8 s8
  refine (tSame g1 g3 n n N _ _ HN.out (by have := mul_le (show n ≤ 255 by omega) (show n ≤ 255 by omega) HN.out; omega) (fun _ _ _ _ => rfl) _ i_34.out.tab j_31.out.tab).mono ?_
  rintro e w9 ⟨rfl, hb9⟩
  have B_39 := Lib.hid (B_32.out.trans ((hb9).mono B_32.out.size))
  have P_40 := Lib.hid (P_33.out.below (hb9))
  have i_41 := Lib.hid (i_34.out.below (hb9))
  have Fc_42 := Lib.hid (Fc_35.out.keep ((hb9).block _ Fc_35.out.lt))
  have c_43 := Lib.hid (c_36.out.below (hb9))
  have j_44 := Lib.hid (j_31.out.below (hb9))
  clear B_32 P_33 i_34 Fc_35 c_36 j_31 hb9 c0_37 c0_38 c1_37 c1_38 c2_37 c2_38
  obtain ⟨c0_45, c1_45, c2_45⟩ := heap_cell0 i_41.out.box
  go_wp2_with fail
  refine (tUnder g1 g1 n n m n N N N3 _ _ (by omega) (by omega) HM.out (by have := HM.out; omega) (by omega) (by omega) HN.out HN.out HN3.out _ i_41.out.tab i_41.out.tab).mono ?_
  rintro e w10 ⟨g5, rfl, t0_10, hb10⟩
  have B_46 := Lib.hid (B_39.out.trans ((hb10).mono B_39.out.size))
  have P_47 := Lib.hid (P_40.out.below (hb10))
  have i_48 := Lib.hid (i_41.out.below (hb10))
  have Fc_49 := Lib.hid (Fc_42.out.keep ((hb10).block _ Fc_42.out.lt))
  have c_50 := Lib.hid (c_43.out.below (hb10))
  have j_51 := Lib.hid (j_44.out.below (hb10))
  have Ut_52 := Lib.hid t0_10
  clear B_39 P_40 i_41 Fc_42 c_43 j_44 t0_10 hb10 c0_45 c1_45 c2_45
  go_wp2_with (refine wpList_store_whole rfl 24 _ _ rfl w10.heap.size [.int .i64 m, .int .i64 n, .slice (some ⟨g5, 0, none⟩) N3 N3] zeroRow 24 rfl rfl (heap_alloc_new _ _) rfl (by kernel_rfl) (mv_ones _ _ _ _) ?_; intro w11 h11 k11 s11; have hs11 := after_box k11.out; have u_53 := Lib.hid ((BoxT.of h11.out k11.out Ut_52.out).1); have B_54 := Lib.hid (B_46.out.trans ((hs11).mono B_46.out.size)); have P_55 := Lib.hid (P_47.out.below (hs11)); have i_56 := Lib.hid (i_48.out.below (hs11)); have Fc_57 := Lib.hid (Fc_49.out.keep ((hs11).block _ Fc_49.out.lt)); have c_58 := Lib.hid (c_50.out.below (hs11)); have j_59 := Lib.hid (j_51.out.below (hs11)); obtain ⟨c0_60, c1_60, c2_60⟩ := heap_cell0 u_53.out.box; clear B_46 P_47 i_48 Fc_49 c_50 j_51 Ut_52 hs11; go_frame)
  clear h11 k11 s11
  have hw1 := HW1.out
  have hw2 := HW2.out
  refine (is_none _).mono ?_
  rintro e w' ⟨rfl, rfl⟩
  obtain ⟨c0_61, c1_61, c2_61⟩ := heap_cell0 P_55.out.box
  go_wp2_with fail
  refine (HQ1.out _).mono ?_
  rintro e w12 ⟨rfl, hb12⟩
  have B_62 := Lib.hid (B_54.out.trans ((hb12).mono B_54.out.size))
  have P_63 := Lib.hid (P_55.out.below (hb12))
  have i_64 := Lib.hid (i_56.out.below (hb12))
  have Fc_65 := Lib.hid (Fc_57.out.keep ((hb12).block _ Fc_57.out.lt))
  have c_66 := Lib.hid (c_58.out.below (hb12))
  have j_67 := Lib.hid (j_59.out.below (hb12))
  have u_68 := Lib.hid (u_53.out.below (hb12))
  clear B_54 P_55 i_56 Fc_57 c_58 j_59 u_53 hb12 c0_60 c0_61 c1_60 c1_61 c2_60 c2_61
  go_wp2_with fail
  go_ret
  exact ⟨rfl, B_62.out⟩
end Go.Proofs.Ytnaeekjocaecmaa
