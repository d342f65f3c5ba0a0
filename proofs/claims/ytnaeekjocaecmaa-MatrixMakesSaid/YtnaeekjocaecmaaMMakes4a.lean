/- MatrixMakes: the walks of one case of n. -/
import Derived.Test.YtnaeekjocaecmaaMMakesC
namespace Go.Proofs.Ytnaeekjocaecmaa
open Go.RowKit

set_option maxRecDepth 20000 in
set_option maxHeartbeats 4000000 in
theorem Makes_ea (r c : Int) (n : Nat) (hn0 : 128 ≤ n) (hn1 : n ≤ 255) (hr0 : r < 1) (hrb : -9223372036854775808 ≤ r ∧ r ≤ 9223372036854775807) (hcb : -9223372036854775808 ≤ c ∧ c ≤ 9223372036854775807) (ra ca : Int) (a0 : Option Addr) (len cap : Nat) (w : World) :
    Calls Try.prog 3 #[.int .i64 r, .int .i64 c, .int .i64 n, .agg #[.int .i64 ra, .int .i64 ca, .slice a0 len cap]] w fun e w' => e = .returned (.bool true) ∧ Below w.heap.size w w' := by
  have hbb := And.intro hrb hcb
  clear hbb
  obtain ⟨q, hq⟩ : ∃ q, rightB ra ca len = q := ⟨_, rfl⟩
  have HQ1 := Lib.hid (Right_any ra ca a0 len cap)
  have HQ2 := Lib.hid (rRight_any ra ca a0 len cap)
  rw [hq] at HQ1 HQ2
  clear hq
  have qq := bool_self q
  obtain ⟨N, hN⟩ : ∃ N, n * n = N := ⟨_, rfl⟩
  have HN := Lib.hid hN
  clear hN
  obtain ⟨wa, hwa⟩ : ∃ wa, wa = w.alloc (.cells #[.int .i64 ra, .int .i64 ca, .slice a0 len cap] 24) := ⟨_, rfl⟩
  have B_0 : Hid (Below w.heap.size w wa) := Lib.hid (by rw [hwa]; exact below_alloc _ _)
  have P_0 : Hid (BoxV w.heap.size ra ca a0 len cap wa) := Lib.hid ⟨by rw [hwa]; exact heap_alloc_new _ _⟩
  have HWA := Lib.hid hwa
  clear hwa
  go_enter Try.func3, Try.ntmps3
  go_wp2_with fail
  rw [← HWA.out]
  clear HWA
  refine (known_any _).mono ?_
  rintro e w1 ⟨rfl, hb1⟩
  have B_1 := Lib.hid (B_0.out.trans ((hb1).mono B_0.out.size))
  have P_2 := Lib.hid (P_0.out.below (hb1))
  clear B_0 P_0 hb1
  go_wp2_with fail
  refine (tIdent n N (by omega) (by omega) HN.out _).mono ?_
  rintro e w2 ⟨g1, rfl, t0_2, hb2⟩
  have B_3 := Lib.hid (B_1.out.trans ((hb2).mono B_1.out.size))
  have P_4 := Lib.hid (P_2.out.below (hb2))
  have It_5 := Lib.hid t0_2
  clear B_1 P_2 t0_2 hb2
  go_wp2_with (refine wpList_store_whole rfl 24 _ _ rfl w2.heap.size [.int .i64 n, .int .i64 n, .slice (some ⟨g1, 0, none⟩) N N] zeroRow 24 rfl rfl (heap_alloc_new _ _) rfl (by kernel_rfl) (mv_ones _ _ _ _) ?_; intro w3 h3 k3 s3; have hs3 := after_box k3.out; have i_6 := Lib.hid ((BoxT.of h3.out k3.out It_5.out).1); have B_7 := Lib.hid (B_3.out.trans ((hs3).mono B_3.out.size)); have P_8 := Lib.hid (P_4.out.below (hs3)); clear B_3 P_4 It_5 hs3; go_frame)
  clear h3 k3 s3
  refine (tCauchy_no r c (by omega) _).mono ?_
  rintro e w4 ⟨g2, rfl, t0_4, hb4⟩
  have B_9 := Lib.hid (B_7.out.trans ((hb4).mono B_7.out.size))
  have P_10 := Lib.hid (P_8.out.below (hb4))
  have i_11 := Lib.hid (i_6.out.below (hb4))
  have Fc_12 := Lib.hid t0_4
  clear B_7 P_8 i_6 t0_4 hb4
  unfold noneV faultV
  go_wp2_with (refine wpList_store_whole rfl 24 _ _ rfl w4.heap.size zeroRow zeroRow 24 rfl rfl (heap_alloc_new _ _) rfl (by kernel_rfl) (by decide) ?_; intro w5 h5 k5 s5; have hs5 := after_box k5.out; have c_13 : Hid (BoxV w4.heap.size 0 0 none 0 0 w5) := Lib.hid ⟨h5.out⟩; have B_14 := Lib.hid (B_9.out.trans ((hs5).mono B_9.out.size)); have P_15 := Lib.hid (P_10.out.below (hs5)); have i_16 := Lib.hid (i_11.out.below (hs5)); have Fc_17 := Lib.hid (Fc_12.out.keep ((hs5).block _ Fc_12.out.lt)); obtain ⟨c0_18, c1_18, c2_18⟩ := heap_cell0 P_15.out.box; clear B_9 P_10 i_11 Fc_12 hs5; go_frame)
  clear h5 k5 s5
  refine (HQ2.out _).mono ?_
  rintro e w6 ⟨rfl, hb6⟩
  have B_19 := Lib.hid (B_14.out.trans ((hb6).mono B_14.out.size))
  have P_20 := Lib.hid (P_15.out.below (hb6))
  have i_21 := Lib.hid (i_16.out.below (hb6))
  have Fc_22 := Lib.hid (Fc_17.out.keep ((hb6).block _ Fc_17.out.lt))
  have c_23 := Lib.hid (c_13.out.below (hb6))
  clear B_14 P_15 i_16 Fc_17 c_13 hb6 c0_18 c1_18 c2_18
  go_wp2_with fail
  refine (is_none _).mono ?_
  rintro e w' ⟨rfl, rfl⟩
  go_wp2_with fail
  refine (is_not0 g2 _).mono ?_
  rintro e w' ⟨rfl, rfl⟩
  obtain ⟨c0_24, c1_24, c2_24⟩ := heap_cell0 c_23.out.box
  go_wp2_with fail
  refine (is_fault g2 1 (by decide) _ Fc_22.out).mono ?_
  rintro e w' ⟨rfl, rfl⟩
  obtain ⟨c0_25, c1_25, c2_25⟩ := heap_cell0 i_21.out.box
  go_wp2_with fail
  refine (tUnder_much g1 n N (by omega) (by omega) HN.out _).mono ?_
  rintro e w7 ⟨g5, rfl, t0_7, hb7⟩
  have B_26 := Lib.hid (B_19.out.trans ((hb7).mono B_19.out.size))
  have P_27 := Lib.hid (P_20.out.below (hb7))
  have i_28 := Lib.hid (i_21.out.below (hb7))
  have Fc_29 := Lib.hid (Fc_22.out.keep ((hb7).block _ Fc_22.out.lt))
  have c_30 := Lib.hid (c_23.out.below (hb7))
  have Fu_31 := Lib.hid t0_7
  clear B_19 P_20 i_21 Fc_22 c_23 t0_7 hb7 c0_24 c0_25 c1_24 c1_25 c2_24 c2_25
  unfold noneV faultV
  go_wp2_with (refine wpList_store_whole rfl 24 _ _ rfl w7.heap.size zeroRow zeroRow 24 rfl rfl (heap_alloc_new _ _) rfl (by kernel_rfl) (by decide) ?_; intro w8 h8 k8 s8; have hs8 := after_box k8.out; have u_32 : Hid (BoxV w7.heap.size 0 0 none 0 0 w8) := Lib.hid ⟨h8.out⟩; have B_33 := Lib.hid (B_26.out.trans ((hs8).mono B_26.out.size)); have P_34 := Lib.hid (P_27.out.below (hs8)); have i_35 := Lib.hid (i_28.out.below (hs8)); have Fc_36 := Lib.hid (Fc_29.out.keep ((hs8).block _ Fc_29.out.lt)); have c_37 := Lib.hid (c_30.out.below (hs8)); have Fu_38 := Lib.hid (Fu_31.out.keep ((hs8).block _ Fu_31.out.lt)); clear B_26 P_27 i_28 Fc_29 c_30 Fu_31 hs8; go_frame)
  clear h8 k8 s8
  refine (is_not0 g5 _).mono ?_
  rintro e w' ⟨rfl, rfl⟩
  obtain ⟨c0_39, c1_39, c2_39⟩ := heap_cell0 u_32.out.box
  go_wp2_with fail
  refine (is_fault g5 1 (by decide) _ Fu_38.out).mono ?_
  rintro e w' ⟨rfl, rfl⟩
  obtain ⟨c0_40, c1_40, c2_40⟩ := heap_cell0 P_34.out.box
  go_wp2_with fail
  refine (HQ1.out _).mono ?_
  rintro e w9 ⟨rfl, hb9⟩
  have B_41 := Lib.hid (B_33.out.trans ((hb9).mono B_33.out.size))
  have P_42 := Lib.hid (P_34.out.below (hb9))
  have i_43 := Lib.hid (i_35.out.below (hb9))
  have Fc_44 := Lib.hid (Fc_36.out.keep ((hb9).block _ Fc_36.out.lt))
  have c_45 := Lib.hid (c_37.out.below (hb9))
  have Fu_46 := Lib.hid (Fu_38.out.keep ((hb9).block _ Fu_38.out.lt))
  have u_47 := Lib.hid (u_32.out.below (hb9))
  clear B_33 P_34 i_35 Fc_36 c_37 Fu_38 u_32 hb9 c0_39 c0_40 c1_39 c1_40 c2_39 c2_40
  go_wp2_with fail
  go_ret
  exact ⟨rfl, B_41.out⟩
set_option maxRecDepth 20000 in
set_option maxHeartbeats 4000000 in
theorem Makes_eb (r c : Int) (n : Nat) (hn0 : 128 ≤ n) (hn1 : n ≤ 255) (hr0 : 255 < r) (hrb : -9223372036854775808 ≤ r ∧ r ≤ 9223372036854775807) (hcb : -9223372036854775808 ≤ c ∧ c ≤ 9223372036854775807) (ra ca : Int) (a0 : Option Addr) (len cap : Nat) (w : World) :
    Calls Try.prog 3 #[.int .i64 r, .int .i64 c, .int .i64 n, .agg #[.int .i64 ra, .int .i64 ca, .slice a0 len cap]] w fun e w' => e = .returned (.bool true) ∧ Below w.heap.size w w' := by
  have hbb := And.intro hrb hcb
  clear hbb
  obtain ⟨q, hq⟩ : ∃ q, rightB ra ca len = q := ⟨_, rfl⟩
  have HQ1 := Lib.hid (Right_any ra ca a0 len cap)
  have HQ2 := Lib.hid (rRight_any ra ca a0 len cap)
  rw [hq] at HQ1 HQ2
  clear hq
  have qq := bool_self q
  obtain ⟨N, hN⟩ : ∃ N, n * n = N := ⟨_, rfl⟩
  have HN := Lib.hid hN
  clear hN
  obtain ⟨wa, hwa⟩ : ∃ wa, wa = w.alloc (.cells #[.int .i64 ra, .int .i64 ca, .slice a0 len cap] 24) := ⟨_, rfl⟩
  have B_0 : Hid (Below w.heap.size w wa) := Lib.hid (by rw [hwa]; exact below_alloc _ _)
  have P_0 : Hid (BoxV w.heap.size ra ca a0 len cap wa) := Lib.hid ⟨by rw [hwa]; exact heap_alloc_new _ _⟩
  have HWA := Lib.hid hwa
  clear hwa
  go_enter Try.func3, Try.ntmps3
  go_wp2_with fail
  rw [← HWA.out]
  clear HWA
  refine (known_any _).mono ?_
  rintro e w1 ⟨rfl, hb1⟩
  have B_1 := Lib.hid (B_0.out.trans ((hb1).mono B_0.out.size))
  have P_2 := Lib.hid (P_0.out.below (hb1))
  clear B_0 P_0 hb1
  go_wp2_with fail
  refine (tIdent n N (by omega) (by omega) HN.out _).mono ?_
  rintro e w2 ⟨g1, rfl, t0_2, hb2⟩
  have B_3 := Lib.hid (B_1.out.trans ((hb2).mono B_1.out.size))
  have P_4 := Lib.hid (P_2.out.below (hb2))
  have It_5 := Lib.hid t0_2
  clear B_1 P_2 t0_2 hb2
  go_wp2_with (refine wpList_store_whole rfl 24 _ _ rfl w2.heap.size [.int .i64 n, .int .i64 n, .slice (some ⟨g1, 0, none⟩) N N] zeroRow 24 rfl rfl (heap_alloc_new _ _) rfl (by kernel_rfl) (mv_ones _ _ _ _) ?_; intro w3 h3 k3 s3; have hs3 := after_box k3.out; have i_6 := Lib.hid ((BoxT.of h3.out k3.out It_5.out).1); have B_7 := Lib.hid (B_3.out.trans ((hs3).mono B_3.out.size)); have P_8 := Lib.hid (P_4.out.below (hs3)); clear B_3 P_4 It_5 hs3; go_frame)
  clear h3 k3 s3
  refine (tCauchy_no r c (by omega) _).mono ?_
  rintro e w4 ⟨g2, rfl, t0_4, hb4⟩
  have B_9 := Lib.hid (B_7.out.trans ((hb4).mono B_7.out.size))
  have P_10 := Lib.hid (P_8.out.below (hb4))
  have i_11 := Lib.hid (i_6.out.below (hb4))
  have Fc_12 := Lib.hid t0_4
  clear B_7 P_8 i_6 t0_4 hb4
  unfold noneV faultV
  go_wp2_with (refine wpList_store_whole rfl 24 _ _ rfl w4.heap.size zeroRow zeroRow 24 rfl rfl (heap_alloc_new _ _) rfl (by kernel_rfl) (by decide) ?_; intro w5 h5 k5 s5; have hs5 := after_box k5.out; have c_13 : Hid (BoxV w4.heap.size 0 0 none 0 0 w5) := Lib.hid ⟨h5.out⟩; have B_14 := Lib.hid (B_9.out.trans ((hs5).mono B_9.out.size)); have P_15 := Lib.hid (P_10.out.below (hs5)); have i_16 := Lib.hid (i_11.out.below (hs5)); have Fc_17 := Lib.hid (Fc_12.out.keep ((hs5).block _ Fc_12.out.lt)); obtain ⟨c0_18, c1_18, c2_18⟩ := heap_cell0 P_15.out.box; clear B_9 P_10 i_11 Fc_12 hs5; go_frame)
  clear h5 k5 s5
  refine (HQ2.out _).mono ?_
  rintro e w6 ⟨rfl, hb6⟩
  have B_19 := Lib.hid (B_14.out.trans ((hb6).mono B_14.out.size))
  have P_20 := Lib.hid (P_15.out.below (hb6))
  have i_21 := Lib.hid (i_16.out.below (hb6))
  have Fc_22 := Lib.hid (Fc_17.out.keep ((hb6).block _ Fc_17.out.lt))
  have c_23 := Lib.hid (c_13.out.below (hb6))
  clear B_14 P_15 i_16 Fc_17 c_13 hb6 c0_18 c1_18 c2_18
  go_wp2_with fail
  refine (is_none _).mono ?_
  rintro e w' ⟨rfl, rfl⟩
  go_wp2_with fail
  refine (is_not0 g2 _).mono ?_
  rintro e w' ⟨rfl, rfl⟩
  obtain ⟨c0_24, c1_24, c2_24⟩ := heap_cell0 c_23.out.box
  go_wp2_with fail
  refine (is_fault g2 1 (by decide) _ Fc_22.out).mono ?_
  rintro e w' ⟨rfl, rfl⟩
  obtain ⟨c0_25, c1_25, c2_25⟩ := heap_cell0 i_21.out.box
  go_wp2_with fail
  refine (tUnder_much g1 n N (by omega) (by omega) HN.out _).mono ?_
  rintro e w7 ⟨g5, rfl, t0_7, hb7⟩
  have B_26 := Lib.hid (B_19.out.trans ((hb7).mono B_19.out.size))
  have P_27 := Lib.hid (P_20.out.below (hb7))
  have i_28 := Lib.hid (i_21.out.below (hb7))
  have Fc_29 := Lib.hid (Fc_22.out.keep ((hb7).block _ Fc_22.out.lt))
  have c_30 := Lib.hid (c_23.out.below (hb7))
  have Fu_31 := Lib.hid t0_7
  clear B_19 P_20 i_21 Fc_22 c_23 t0_7 hb7 c0_24 c0_25 c1_24 c1_25 c2_24 c2_25
  unfold noneV faultV
  go_wp2_with (refine wpList_store_whole rfl 24 _ _ rfl w7.heap.size zeroRow zeroRow 24 rfl rfl (heap_alloc_new _ _) rfl (by kernel_rfl) (by decide) ?_; intro w8 h8 k8 s8; have hs8 := after_box k8.out; have u_32 : Hid (BoxV w7.heap.size 0 0 none 0 0 w8) := Lib.hid ⟨h8.out⟩; have B_33 := Lib.hid (B_26.out.trans ((hs8).mono B_26.out.size)); have P_34 := Lib.hid (P_27.out.below (hs8)); have i_35 := Lib.hid (i_28.out.below (hs8)); have Fc_36 := Lib.hid (Fc_29.out.keep ((hs8).block _ Fc_29.out.lt)); have c_37 := Lib.hid (c_30.out.below (hs8)); have Fu_38 := Lib.hid (Fu_31.out.keep ((hs8).block _ Fu_31.out.lt)); clear B_26 P_27 i_28 Fc_29 c_30 Fu_31 hs8; go_frame)
  clear h8 k8 s8
  refine (is_not0 g5 _).mono ?_
  rintro e w' ⟨rfl, rfl⟩
  obtain ⟨c0_39, c1_39, c2_39⟩ := heap_cell0 u_32.out.box
  go_wp2_with fail
  refine (is_fault g5 1 (by decide) _ Fu_38.out).mono ?_
  rintro e w' ⟨rfl, rfl⟩
  obtain ⟨c0_40, c1_40, c2_40⟩ := heap_cell0 P_34.out.box
  go_wp2_with fail
  refine (HQ1.out _).mono ?_
  rintro e w9 ⟨rfl, hb9⟩
  have B_41 := Lib.hid (B_33.out.trans ((hb9).mono B_33.out.size))
  have P_42 := Lib.hid (P_34.out.below (hb9))
  have i_43 := Lib.hid (i_35.out.below (hb9))
  have Fc_44 := Lib.hid (Fc_36.out.keep ((hb9).block _ Fc_36.out.lt))
  have c_45 := Lib.hid (c_37.out.below (hb9))
  have Fu_46 := Lib.hid (Fu_38.out.keep ((hb9).block _ Fu_38.out.lt))
  have u_47 := Lib.hid (u_32.out.below (hb9))
  clear B_33 P_34 i_35 Fc_36 c_37 Fu_38 u_32 hb9 c0_39 c0_40 c1_39 c1_40 c2_39 c2_40
  go_wp2_with fail
  go_ret
  exact ⟨rfl, B_41.out⟩
set_option maxRecDepth 20000 in
set_option maxHeartbeats 4000000 in
theorem Makes_ec (r c : Int) (n : Nat) (hn0 : 128 ≤ n) (hn1 : n ≤ 255) (hr0 : 1 ≤ r) (hr1 : r ≤ 40) (hr2 : c < 1) (hrb : -9223372036854775808 ≤ r ∧ r ≤ 9223372036854775807) (hcb : -9223372036854775808 ≤ c ∧ c ≤ 9223372036854775807) (ra ca : Int) (a0 : Option Addr) (len cap : Nat) (w : World) :
    Calls Try.prog 3 #[.int .i64 r, .int .i64 c, .int .i64 n, .agg #[.int .i64 ra, .int .i64 ca, .slice a0 len cap]] w fun e w' => e = .returned (.bool true) ∧ Below w.heap.size w w' := by
  have hbb := And.intro hrb hcb
  clear hbb
  obtain ⟨q, hq⟩ : ∃ q, rightB ra ca len = q := ⟨_, rfl⟩
  have HQ1 := Lib.hid (Right_any ra ca a0 len cap)
  have HQ2 := Lib.hid (rRight_any ra ca a0 len cap)
  rw [hq] at HQ1 HQ2
  clear hq
  have qq := bool_self q
  obtain ⟨N, hN⟩ : ∃ N, n * n = N := ⟨_, rfl⟩
  have HN := Lib.hid hN
  clear hN
  obtain ⟨wa, hwa⟩ : ∃ wa, wa = w.alloc (.cells #[.int .i64 ra, .int .i64 ca, .slice a0 len cap] 24) := ⟨_, rfl⟩
  have B_0 : Hid (Below w.heap.size w wa) := Lib.hid (by rw [hwa]; exact below_alloc _ _)
  have P_0 : Hid (BoxV w.heap.size ra ca a0 len cap wa) := Lib.hid ⟨by rw [hwa]; exact heap_alloc_new _ _⟩
  have HWA := Lib.hid hwa
  clear hwa
  go_enter Try.func3, Try.ntmps3
  go_wp2_with fail
  rw [← HWA.out]
  clear HWA
  refine (known_any _).mono ?_
  rintro e w1 ⟨rfl, hb1⟩
  have B_1 := Lib.hid (B_0.out.trans ((hb1).mono B_0.out.size))
  have P_2 := Lib.hid (P_0.out.below (hb1))
  clear B_0 P_0 hb1
  go_wp2_with fail
  refine (tIdent n N (by omega) (by omega) HN.out _).mono ?_
  rintro e w2 ⟨g1, rfl, t0_2, hb2⟩
  have B_3 := Lib.hid (B_1.out.trans ((hb2).mono B_1.out.size))
  have P_4 := Lib.hid (P_2.out.below (hb2))
  have It_5 := Lib.hid t0_2
  clear B_1 P_2 t0_2 hb2
  go_wp2_with (refine wpList_store_whole rfl 24 _ _ rfl w2.heap.size [.int .i64 n, .int .i64 n, .slice (some ⟨g1, 0, none⟩) N N] zeroRow 24 rfl rfl (heap_alloc_new _ _) rfl (by kernel_rfl) (mv_ones _ _ _ _) ?_; intro w3 h3 k3 s3; have hs3 := after_box k3.out; have i_6 := Lib.hid ((BoxT.of h3.out k3.out It_5.out).1); have B_7 := Lib.hid (B_3.out.trans ((hs3).mono B_3.out.size)); have P_8 := Lib.hid (P_4.out.below (hs3)); clear B_3 P_4 It_5 hs3; go_frame)
  clear h3 k3 s3
  refine (tCauchy_no r c (by omega) _).mono ?_
  rintro e w4 ⟨g2, rfl, t0_4, hb4⟩
  have B_9 := Lib.hid (B_7.out.trans ((hb4).mono B_7.out.size))
  have P_10 := Lib.hid (P_8.out.below (hb4))
  have i_11 := Lib.hid (i_6.out.below (hb4))
  have Fc_12 := Lib.hid t0_4
  clear B_7 P_8 i_6 t0_4 hb4
  unfold noneV faultV
  go_wp2_with (refine wpList_store_whole rfl 24 _ _ rfl w4.heap.size zeroRow zeroRow 24 rfl rfl (heap_alloc_new _ _) rfl (by kernel_rfl) (by decide) ?_; intro w5 h5 k5 s5; have hs5 := after_box k5.out; have c_13 : Hid (BoxV w4.heap.size 0 0 none 0 0 w5) := Lib.hid ⟨h5.out⟩; have B_14 := Lib.hid (B_9.out.trans ((hs5).mono B_9.out.size)); have P_15 := Lib.hid (P_10.out.below (hs5)); have i_16 := Lib.hid (i_11.out.below (hs5)); have Fc_17 := Lib.hid (Fc_12.out.keep ((hs5).block _ Fc_12.out.lt)); obtain ⟨c0_18, c1_18, c2_18⟩ := heap_cell0 P_15.out.box; clear B_9 P_10 i_11 Fc_12 hs5; go_frame)
  clear h5 k5 s5
  refine (HQ2.out _).mono ?_
  rintro e w6 ⟨rfl, hb6⟩
  have B_19 := Lib.hid (B_14.out.trans ((hb6).mono B_14.out.size))
  have P_20 := Lib.hid (P_15.out.below (hb6))
  have i_21 := Lib.hid (i_16.out.below (hb6))
  have Fc_22 := Lib.hid (Fc_17.out.keep ((hb6).block _ Fc_17.out.lt))
  have c_23 := Lib.hid (c_13.out.below (hb6))
  clear B_14 P_15 i_16 Fc_17 c_13 hb6 c0_18 c1_18 c2_18
  go_wp2_with fail
  refine (is_none _).mono ?_
  rintro e w' ⟨rfl, rfl⟩
  go_wp2_with fail
  refine (is_not0 g2 _).mono ?_
  rintro e w' ⟨rfl, rfl⟩
  obtain ⟨c0_24, c1_24, c2_24⟩ := heap_cell0 c_23.out.box
  go_wp2_with fail
  refine (is_fault g2 1 (by decide) _ Fc_22.out).mono ?_
  rintro e w' ⟨rfl, rfl⟩
  obtain ⟨c0_25, c1_25, c2_25⟩ := heap_cell0 i_21.out.box
  go_wp2_with fail
  refine (tUnder_much g1 n N (by omega) (by omega) HN.out _).mono ?_
  rintro e w7 ⟨g5, rfl, t0_7, hb7⟩
  have B_26 := Lib.hid (B_19.out.trans ((hb7).mono B_19.out.size))
  have P_27 := Lib.hid (P_20.out.below (hb7))
  have i_28 := Lib.hid (i_21.out.below (hb7))
  have Fc_29 := Lib.hid (Fc_22.out.keep ((hb7).block _ Fc_22.out.lt))
  have c_30 := Lib.hid (c_23.out.below (hb7))
  have Fu_31 := Lib.hid t0_7
  clear B_19 P_20 i_21 Fc_22 c_23 t0_7 hb7 c0_24 c0_25 c1_24 c1_25 c2_24 c2_25
  unfold noneV faultV
  go_wp2_with (refine wpList_store_whole rfl 24 _ _ rfl w7.heap.size zeroRow zeroRow 24 rfl rfl (heap_alloc_new _ _) rfl (by kernel_rfl) (by decide) ?_; intro w8 h8 k8 s8; have hs8 := after_box k8.out; have u_32 : Hid (BoxV w7.heap.size 0 0 none 0 0 w8) := Lib.hid ⟨h8.out⟩; have B_33 := Lib.hid (B_26.out.trans ((hs8).mono B_26.out.size)); have P_34 := Lib.hid (P_27.out.below (hs8)); have i_35 := Lib.hid (i_28.out.below (hs8)); have Fc_36 := Lib.hid (Fc_29.out.keep ((hs8).block _ Fc_29.out.lt)); have c_37 := Lib.hid (c_30.out.below (hs8)); have Fu_38 := Lib.hid (Fu_31.out.keep ((hs8).block _ Fu_31.out.lt)); clear B_26 P_27 i_28 Fc_29 c_30 Fu_31 hs8; go_frame)
  clear h8 k8 s8
  refine (is_not0 g5 _).mono ?_
  rintro e w' ⟨rfl, rfl⟩
  obtain ⟨c0_39, c1_39, c2_39⟩ := heap_cell0 u_32.out.box
  go_wp2_with fail
  refine (is_fault g5 1 (by decide) _ Fu_38.out).mono ?_
  rintro e w' ⟨rfl, rfl⟩
  obtain ⟨c0_40, c1_40, c2_40⟩ := heap_cell0 P_34.out.box
  go_wp2_with fail
  refine (HQ1.out _).mono ?_
  rintro e w9 ⟨rfl, hb9⟩
  have B_41 := Lib.hid (B_33.out.trans ((hb9).mono B_33.out.size))
  have P_42 := Lib.hid (P_34.out.below (hb9))
  have i_43 := Lib.hid (i_35.out.below (hb9))
  have Fc_44 := Lib.hid (Fc_36.out.keep ((hb9).block _ Fc_36.out.lt))
  have c_45 := Lib.hid (c_37.out.below (hb9))
  have Fu_46 := Lib.hid (Fu_38.out.keep ((hb9).block _ Fu_38.out.lt))
  have u_47 := Lib.hid (u_32.out.below (hb9))
  clear B_33 P_34 i_35 Fc_36 c_37 Fu_38 u_32 hb9 c0_39 c0_40 c1_39 c1_40 c2_39 c2_40
  go_wp2_with fail
  go_ret
  exact ⟨rfl, B_41.out⟩
set_option maxRecDepth 20000 in
set_option maxHeartbeats 4000000 in
theorem Makes_ed (r c : Int) (n : Nat) (hn0 : 128 ≤ n) (hn1 : n ≤ 255) (hr0 : 1 ≤ r) (hr1 : r ≤ 40) (hr2 : 255 < c) (hrb : -9223372036854775808 ≤ r ∧ r ≤ 9223372036854775807) (hcb : -9223372036854775808 ≤ c ∧ c ≤ 9223372036854775807) (ra ca : Int) (a0 : Option Addr) (len cap : Nat) (w : World) :
    Calls Try.prog 3 #[.int .i64 r, .int .i64 c, .int .i64 n, .agg #[.int .i64 ra, .int .i64 ca, .slice a0 len cap]] w fun e w' => e = .returned (.bool true) ∧ Below w.heap.size w w' := by
  have hbb := And.intro hrb hcb
  clear hbb
  obtain ⟨q, hq⟩ : ∃ q, rightB ra ca len = q := ⟨_, rfl⟩
  have HQ1 := Lib.hid (Right_any ra ca a0 len cap)
  have HQ2 := Lib.hid (rRight_any ra ca a0 len cap)
  rw [hq] at HQ1 HQ2
  clear hq
  have qq := bool_self q
  obtain ⟨N, hN⟩ : ∃ N, n * n = N := ⟨_, rfl⟩
  have HN := Lib.hid hN
  clear hN
  obtain ⟨wa, hwa⟩ : ∃ wa, wa = w.alloc (.cells #[.int .i64 ra, .int .i64 ca, .slice a0 len cap] 24) := ⟨_, rfl⟩
  have B_0 : Hid (Below w.heap.size w wa) := Lib.hid (by rw [hwa]; exact below_alloc _ _)
  have P_0 : Hid (BoxV w.heap.size ra ca a0 len cap wa) := Lib.hid ⟨by rw [hwa]; exact heap_alloc_new _ _⟩
  have HWA := Lib.hid hwa
  clear hwa
  go_enter Try.func3, Try.ntmps3
  go_wp2_with fail
  rw [← HWA.out]
  clear HWA
  refine (known_any _).mono ?_
  rintro e w1 ⟨rfl, hb1⟩
  have B_1 := Lib.hid (B_0.out.trans ((hb1).mono B_0.out.size))
  have P_2 := Lib.hid (P_0.out.below (hb1))
  clear B_0 P_0 hb1
  go_wp2_with fail
  refine (tIdent n N (by omega) (by omega) HN.out _).mono ?_
  rintro e w2 ⟨g1, rfl, t0_2, hb2⟩
  have B_3 := Lib.hid (B_1.out.trans ((hb2).mono B_1.out.size))
  have P_4 := Lib.hid (P_2.out.below (hb2))
  have It_5 := Lib.hid t0_2
  clear B_1 P_2 t0_2 hb2
  go_wp2_with (refine wpList_store_whole rfl 24 _ _ rfl w2.heap.size [.int .i64 n, .int .i64 n, .slice (some ⟨g1, 0, none⟩) N N] zeroRow 24 rfl rfl (heap_alloc_new _ _) rfl (by kernel_rfl) (mv_ones _ _ _ _) ?_; intro w3 h3 k3 s3; have hs3 := after_box k3.out; have i_6 := Lib.hid ((BoxT.of h3.out k3.out It_5.out).1); have B_7 := Lib.hid (B_3.out.trans ((hs3).mono B_3.out.size)); have P_8 := Lib.hid (P_4.out.below (hs3)); clear B_3 P_4 It_5 hs3; go_frame)
  clear h3 k3 s3
  refine (tCauchy_no r c (by omega) _).mono ?_
  rintro e w4 ⟨g2, rfl, t0_4, hb4⟩
  have B_9 := Lib.hid (B_7.out.trans ((hb4).mono B_7.out.size))
  have P_10 := Lib.hid (P_8.out.below (hb4))
  have i_11 := Lib.hid (i_6.out.below (hb4))
  have Fc_12 := Lib.hid t0_4
  clear B_7 P_8 i_6 t0_4 hb4
  unfold noneV faultV
  go_wp2_with (refine wpList_store_whole rfl 24 _ _ rfl w4.heap.size zeroRow zeroRow 24 rfl rfl (heap_alloc_new _ _) rfl (by kernel_rfl) (by decide) ?_; intro w5 h5 k5 s5; have hs5 := after_box k5.out; have c_13 : Hid (BoxV w4.heap.size 0 0 none 0 0 w5) := Lib.hid ⟨h5.out⟩; have B_14 := Lib.hid (B_9.out.trans ((hs5).mono B_9.out.size)); have P_15 := Lib.hid (P_10.out.below (hs5)); have i_16 := Lib.hid (i_11.out.below (hs5)); have Fc_17 := Lib.hid (Fc_12.out.keep ((hs5).block _ Fc_12.out.lt)); obtain ⟨c0_18, c1_18, c2_18⟩ := heap_cell0 P_15.out.box; clear B_9 P_10 i_11 Fc_12 hs5; go_frame)
  clear h5 k5 s5
  refine (HQ2.out _).mono ?_
  rintro e w6 ⟨rfl, hb6⟩
  have B_19 := Lib.hid (B_14.out.trans ((hb6).mono B_14.out.size))
  have P_20 := Lib.hid (P_15.out.below (hb6))
  have i_21 := Lib.hid (i_16.out.below (hb6))
  have Fc_22 := Lib.hid (Fc_17.out.keep ((hb6).block _ Fc_17.out.lt))
  have c_23 := Lib.hid (c_13.out.below (hb6))
  clear B_14 P_15 i_16 Fc_17 c_13 hb6 c0_18 c1_18 c2_18
  go_wp2_with fail
  refine (is_none _).mono ?_
  rintro e w' ⟨rfl, rfl⟩
  go_wp2_with fail
  refine (is_not0 g2 _).mono ?_
  rintro e w' ⟨rfl, rfl⟩
  obtain ⟨c0_24, c1_24, c2_24⟩ := heap_cell0 c_23.out.box
  go_wp2_with fail
  refine (is_fault g2 1 (by decide) _ Fc_22.out).mono ?_
  rintro e w' ⟨rfl, rfl⟩
  obtain ⟨c0_25, c1_25, c2_25⟩ := heap_cell0 i_21.out.box
  go_wp2_with fail
  refine (tUnder_much g1 n N (by omega) (by omega) HN.out _).mono ?_
  rintro e w7 ⟨g5, rfl, t0_7, hb7⟩
  have B_26 := Lib.hid (B_19.out.trans ((hb7).mono B_19.out.size))
  have P_27 := Lib.hid (P_20.out.below (hb7))
  have i_28 := Lib.hid (i_21.out.below (hb7))
  have Fc_29 := Lib.hid (Fc_22.out.keep ((hb7).block _ Fc_22.out.lt))
  have c_30 := Lib.hid (c_23.out.below (hb7))
  have Fu_31 := Lib.hid t0_7
  clear B_19 P_20 i_21 Fc_22 c_23 t0_7 hb7 c0_24 c0_25 c1_24 c1_25 c2_24 c2_25
  unfold noneV faultV
  go_wp2_with (refine wpList_store_whole rfl 24 _ _ rfl w7.heap.size zeroRow zeroRow 24 rfl rfl (heap_alloc_new _ _) rfl (by kernel_rfl) (by decide) ?_; intro w8 h8 k8 s8; have hs8 := after_box k8.out; have u_32 : Hid (BoxV w7.heap.size 0 0 none 0 0 w8) := Lib.hid ⟨h8.out⟩; have B_33 := Lib.hid (B_26.out.trans ((hs8).mono B_26.out.size)); have P_34 := Lib.hid (P_27.out.below (hs8)); have i_35 := Lib.hid (i_28.out.below (hs8)); have Fc_36 := Lib.hid (Fc_29.out.keep ((hs8).block _ Fc_29.out.lt)); have c_37 := Lib.hid (c_30.out.below (hs8)); have Fu_38 := Lib.hid (Fu_31.out.keep ((hs8).block _ Fu_31.out.lt)); clear B_26 P_27 i_28 Fc_29 c_30 Fu_31 hs8; go_frame)
  clear h8 k8 s8
  refine (is_not0 g5 _).mono ?_
  rintro e w' ⟨rfl, rfl⟩
  obtain ⟨c0_39, c1_39, c2_39⟩ := heap_cell0 u_32.out.box
  go_wp2_with fail
  refine (is_fault g5 1 (by decide) _ Fu_38.out).mono ?_
  rintro e w' ⟨rfl, rfl⟩
  obtain ⟨c0_40, c1_40, c2_40⟩ := heap_cell0 P_34.out.box
  go_wp2_with fail
  refine (HQ1.out _).mono ?_
  rintro e w9 ⟨rfl, hb9⟩
  have B_41 := Lib.hid (B_33.out.trans ((hb9).mono B_33.out.size))
  have P_42 := Lib.hid (P_34.out.below (hb9))
  have i_43 := Lib.hid (i_35.out.below (hb9))
  have Fc_44 := Lib.hid (Fc_36.out.keep ((hb9).block _ Fc_36.out.lt))
  have c_45 := Lib.hid (c_37.out.below (hb9))
  have Fu_46 := Lib.hid (Fu_38.out.keep ((hb9).block _ Fu_38.out.lt))
  have u_47 := Lib.hid (u_32.out.below (hb9))
  clear B_33 P_34 i_35 Fc_36 c_37 Fu_38 u_32 hb9 c0_39 c0_40 c1_39 c1_40 c2_39 c2_40
  go_wp2_with fail
  go_ret
  exact ⟨rfl, B_41.out⟩
set_option maxRecDepth 20000 in
set_option maxHeartbeats 4000000 in
theorem Makes_ee (r c : Int) (n : Nat) (hn0 : 128 ≤ n) (hn1 : n ≤ 255) (hr0 : 1 ≤ r) (hr1 : r ≤ 40) (hr2 : 1 ≤ c) (hr3 : c ≤ 255) (hr4 : 256 < r + c) (hrb : -9223372036854775808 ≤ r ∧ r ≤ 9223372036854775807) (hcb : -9223372036854775808 ≤ c ∧ c ≤ 9223372036854775807) (ra ca : Int) (a0 : Option Addr) (len cap : Nat) (w : World) :
    Calls Try.prog 3 #[.int .i64 r, .int .i64 c, .int .i64 n, .agg #[.int .i64 ra, .int .i64 ca, .slice a0 len cap]] w fun e w' => e = .returned (.bool true) ∧ Below w.heap.size w w' := by
  have hbb := And.intro hrb hcb
  clear hbb
  obtain ⟨q, hq⟩ : ∃ q, rightB ra ca len = q := ⟨_, rfl⟩
  have HQ1 := Lib.hid (Right_any ra ca a0 len cap)
  have HQ2 := Lib.hid (rRight_any ra ca a0 len cap)
  rw [hq] at HQ1 HQ2
  clear hq
  have qq := bool_self q
  obtain ⟨N, hN⟩ : ∃ N, n * n = N := ⟨_, rfl⟩
  have HN := Lib.hid hN
  clear hN
  obtain ⟨wa, hwa⟩ : ∃ wa, wa = w.alloc (.cells #[.int .i64 ra, .int .i64 ca, .slice a0 len cap] 24) := ⟨_, rfl⟩
  have B_0 : Hid (Below w.heap.size w wa) := Lib.hid (by rw [hwa]; exact below_alloc _ _)
  have P_0 : Hid (BoxV w.heap.size ra ca a0 len cap wa) := Lib.hid ⟨by rw [hwa]; exact heap_alloc_new _ _⟩
  have HWA := Lib.hid hwa
  clear hwa
  go_enter Try.func3, Try.ntmps3
  go_wp2_with fail
  rw [← HWA.out]
  clear HWA
  refine (known_any _).mono ?_
  rintro e w1 ⟨rfl, hb1⟩
  have B_1 := Lib.hid (B_0.out.trans ((hb1).mono B_0.out.size))
  have P_2 := Lib.hid (P_0.out.below (hb1))
  clear B_0 P_0 hb1
  go_wp2_with fail
  refine (tIdent n N (by omega) (by omega) HN.out _).mono ?_
  rintro e w2 ⟨g1, rfl, t0_2, hb2⟩
  have B_3 := Lib.hid (B_1.out.trans ((hb2).mono B_1.out.size))
  have P_4 := Lib.hid (P_2.out.below (hb2))
  have It_5 := Lib.hid t0_2
  clear B_1 P_2 t0_2 hb2
  go_wp2_with (refine wpList_store_whole rfl 24 _ _ rfl w2.heap.size [.int .i64 n, .int .i64 n, .slice (some ⟨g1, 0, none⟩) N N] zeroRow 24 rfl rfl (heap_alloc_new _ _) rfl (by kernel_rfl) (mv_ones _ _ _ _) ?_; intro w3 h3 k3 s3; have hs3 := after_box k3.out; have i_6 := Lib.hid ((BoxT.of h3.out k3.out It_5.out).1); have B_7 := Lib.hid (B_3.out.trans ((hs3).mono B_3.out.size)); have P_8 := Lib.hid (P_4.out.below (hs3)); clear B_3 P_4 It_5 hs3; go_frame)
  clear h3 k3 s3
  refine (tCauchy_no r c (by omega) _).mono ?_
  rintro e w4 ⟨g2, rfl, t0_4, hb4⟩
  have B_9 := Lib.hid (B_7.out.trans ((hb4).mono B_7.out.size))
  have P_10 := Lib.hid (P_8.out.below (hb4))
  have i_11 := Lib.hid (i_6.out.below (hb4))
  have Fc_12 := Lib.hid t0_4
  clear B_7 P_8 i_6 t0_4 hb4
  unfold noneV faultV
  go_wp2_with (refine wpList_store_whole rfl 24 _ _ rfl w4.heap.size zeroRow zeroRow 24 rfl rfl (heap_alloc_new _ _) rfl (by kernel_rfl) (by decide) ?_; intro w5 h5 k5 s5; have hs5 := after_box k5.out; have c_13 : Hid (BoxV w4.heap.size 0 0 none 0 0 w5) := Lib.hid ⟨h5.out⟩; have B_14 := Lib.hid (B_9.out.trans ((hs5).mono B_9.out.size)); have P_15 := Lib.hid (P_10.out.below (hs5)); have i_16 := Lib.hid (i_11.out.below (hs5)); have Fc_17 := Lib.hid (Fc_12.out.keep ((hs5).block _ Fc_12.out.lt)); obtain ⟨c0_18, c1_18, c2_18⟩ := heap_cell0 P_15.out.box; clear B_9 P_10 i_11 Fc_12 hs5; go_frame)
  clear h5 k5 s5
  refine (HQ2.out _).mono ?_
  rintro e w6 ⟨rfl, hb6⟩
  have B_19 := Lib.hid (B_14.out.trans ((hb6).mono B_14.out.size))
  have P_20 := Lib.hid (P_15.out.below (hb6))
  have i_21 := Lib.hid (i_16.out.below (hb6))
  have Fc_22 := Lib.hid (Fc_17.out.keep ((hb6).block _ Fc_17.out.lt))
  have c_23 := Lib.hid (c_13.out.below (hb6))
  clear B_14 P_15 i_16 Fc_17 c_13 hb6 c0_18 c1_18 c2_18
  go_wp2_with fail
  refine (is_none _).mono ?_
  rintro e w' ⟨rfl, rfl⟩
  go_wp2_with fail
  refine (is_not0 g2 _).mono ?_
  rintro e w' ⟨rfl, rfl⟩
  obtain ⟨c0_24, c1_24, c2_24⟩ := heap_cell0 c_23.out.box
  go_wp2_with fail
  refine (is_fault g2 1 (by decide) _ Fc_22.out).mono ?_
  rintro e w' ⟨rfl, rfl⟩
  obtain ⟨c0_25, c1_25, c2_25⟩ := heap_cell0 i_21.out.box
  go_wp2_with fail
  refine (tUnder_much g1 n N (by omega) (by omega) HN.out _).mono ?_
  rintro e w7 ⟨g5, rfl, t0_7, hb7⟩
  have B_26 := Lib.hid (B_19.out.trans ((hb7).mono B_19.out.size))
  have P_27 := Lib.hid (P_20.out.below (hb7))
  have i_28 := Lib.hid (i_21.out.below (hb7))
  have Fc_29 := Lib.hid (Fc_22.out.keep ((hb7).block _ Fc_22.out.lt))
  have c_30 := Lib.hid (c_23.out.below (hb7))
  have Fu_31 := Lib.hid t0_7
  clear B_19 P_20 i_21 Fc_22 c_23 t0_7 hb7 c0_24 c0_25 c1_24 c1_25 c2_24 c2_25
  unfold noneV faultV
  go_wp2_with (refine wpList_store_whole rfl 24 _ _ rfl w7.heap.size zeroRow zeroRow 24 rfl rfl (heap_alloc_new _ _) rfl (by kernel_rfl) (by decide) ?_; intro w8 h8 k8 s8; have hs8 := after_box k8.out; have u_32 : Hid (BoxV w7.heap.size 0 0 none 0 0 w8) := Lib.hid ⟨h8.out⟩; have B_33 := Lib.hid (B_26.out.trans ((hs8).mono B_26.out.size)); have P_34 := Lib.hid (P_27.out.below (hs8)); have i_35 := Lib.hid (i_28.out.below (hs8)); have Fc_36 := Lib.hid (Fc_29.out.keep ((hs8).block _ Fc_29.out.lt)); have c_37 := Lib.hid (c_30.out.below (hs8)); have Fu_38 := Lib.hid (Fu_31.out.keep ((hs8).block _ Fu_31.out.lt)); clear B_26 P_27 i_28 Fc_29 c_30 Fu_31 hs8; go_frame)
  clear h8 k8 s8
  refine (is_not0 g5 _).mono ?_
  rintro e w' ⟨rfl, rfl⟩
  obtain ⟨c0_39, c1_39, c2_39⟩ := heap_cell0 u_32.out.box
  go_wp2_with fail
  refine (is_fault g5 1 (by decide) _ Fu_38.out).mono ?_
  rintro e w' ⟨rfl, rfl⟩
  obtain ⟨c0_40, c1_40, c2_40⟩ := heap_cell0 P_34.out.box
  go_wp2_with fail
  refine (HQ1.out _).mono ?_
  rintro e w9 ⟨rfl, hb9⟩
  have B_41 := Lib.hid (B_33.out.trans ((hb9).mono B_33.out.size))
  have P_42 := Lib.hid (P_34.out.below (hb9))
  have i_43 := Lib.hid (i_35.out.below (hb9))
  have Fc_44 := Lib.hid (Fc_36.out.keep ((hb9).block _ Fc_36.out.lt))
  have c_45 := Lib.hid (c_37.out.below (hb9))
  have Fu_46 := Lib.hid (Fu_38.out.keep ((hb9).block _ Fu_38.out.lt))
  have u_47 := Lib.hid (u_32.out.below (hb9))
  clear B_33 P_34 i_35 Fc_36 c_37 Fu_38 u_32 hb9 c0_39 c0_40 c1_39 c1_40 c2_39 c2_40
  go_wp2_with fail
  go_ret
  exact ⟨rfl, B_41.out⟩
set_option maxRecDepth 20000 in
set_option maxHeartbeats 4000000 in
theorem Makes_ef (r c : Nat) (n : Nat) (hn0 : 128 ≤ n) (hn1 : n ≤ 255) (hr0 : 1 ≤ r) (hr1 : r ≤ 40) (hr2 : 1 ≤ c) (hr3 : c ≤ 40) (ra ca : Int) (a0 : Option Addr) (len cap : Nat) (w : World) :
    Calls Try.prog 3 #[.int .i64 r, .int .i64 c, .int .i64 n, .agg #[.int .i64 ra, .int .i64 ca, .slice a0 len cap]] w fun e w' => e = .returned (.bool true) ∧ Below w.heap.size w w' := by
  obtain ⟨q, hq⟩ : ∃ q, rightB ra ca len = q := ⟨_, rfl⟩
  have HQ1 := Lib.hid (Right_any ra ca a0 len cap)
  have HQ2 := Lib.hid (rRight_any ra ca a0 len cap)
  rw [hq] at HQ1 HQ2
  clear hq
  have qq := bool_self q
  obtain ⟨N, hN⟩ : ∃ N, n * n = N := ⟨_, rfl⟩
  have HN := Lib.hid hN
  clear hN
  obtain ⟨N2, hN2⟩ : ∃ N, r * c = N := ⟨_, rfl⟩
  have HN2 := Lib.hid hN2
  clear hN2
  obtain ⟨wa, hwa⟩ : ∃ wa, wa = w.alloc (.cells #[.int .i64 ra, .int .i64 ca, .slice a0 len cap] 24) := ⟨_, rfl⟩
  have B_0 : Hid (Below w.heap.size w wa) := Lib.hid (by rw [hwa]; exact below_alloc _ _)
  have P_0 : Hid (BoxV w.heap.size ra ca a0 len cap wa) := Lib.hid ⟨by rw [hwa]; exact heap_alloc_new _ _⟩
  have HWA := Lib.hid hwa
  clear hwa
  go_enter Try.func3, Try.ntmps3
  go_wp2_with fail
  rw [← HWA.out]
  clear HWA
  refine (known_any _).mono ?_
  rintro e w1 ⟨rfl, hb1⟩
  have B_1 := Lib.hid (B_0.out.trans ((hb1).mono B_0.out.size))
  have P_2 := Lib.hid (P_0.out.below (hb1))
  clear B_0 P_0 hb1
  go_wp2_with fail
  refine (tIdent n N (by omega) (by omega) HN.out _).mono ?_
  rintro e w2 ⟨g1, rfl, t0_2, hb2⟩
  have B_3 := Lib.hid (B_1.out.trans ((hb2).mono B_1.out.size))
  have P_4 := Lib.hid (P_2.out.below (hb2))
  have It_5 := Lib.hid t0_2
  clear B_1 P_2 t0_2 hb2
  go_wp2_with (refine wpList_store_whole rfl 24 _ _ rfl w2.heap.size [.int .i64 n, .int .i64 n, .slice (some ⟨g1, 0, none⟩) N N] zeroRow 24 rfl rfl (heap_alloc_new _ _) rfl (by kernel_rfl) (mv_ones _ _ _ _) ?_; intro w3 h3 k3 s3; have hs3 := after_box k3.out; have i_6 := Lib.hid ((BoxT.of h3.out k3.out It_5.out).1); have B_7 := Lib.hid (B_3.out.trans ((hs3).mono B_3.out.size)); have P_8 := Lib.hid (P_4.out.below (hs3)); clear B_3 P_4 It_5 hs3; go_frame)
  clear h3 k3 s3
  refine (tCauchy r c N2 (by omega) (by omega) (by omega) (by omega) (by omega) HN2.out _).mono ?_
  rintro e w4 ⟨g2, rfl, t0_4, hb4⟩
  have B_9 := Lib.hid (B_7.out.trans ((hb4).mono B_7.out.size))
  have P_10 := Lib.hid (P_8.out.below (hb4))
  have i_11 := Lib.hid (i_6.out.below (hb4))
  have Ct_12 := Lib.hid t0_4
  clear B_7 P_8 i_6 t0_4 hb4
  go_wp2_with (refine wpList_store_whole rfl 24 _ _ rfl w4.heap.size [.int .i64 r, .int .i64 c, .slice (some ⟨g2, 0, none⟩) N2 N2] zeroRow 24 rfl rfl (heap_alloc_new _ _) rfl (by kernel_rfl) (mv_ones _ _ _ _) ?_; intro w5 h5 k5 s5; have hs5 := after_box k5.out; have c_13 := Lib.hid ((BoxT.of h5.out k5.out Ct_12.out).1); have B_14 := Lib.hid (B_9.out.trans ((hs5).mono B_9.out.size)); have P_15 := Lib.hid (P_10.out.below (hs5)); have i_16 := Lib.hid (i_11.out.below (hs5)); obtain ⟨c0_17, c1_17, c2_17⟩ := heap_cell0 P_15.out.box; clear B_9 P_10 i_11 Ct_12 hs5; go_frame)
  clear h5 k5 s5
  refine (HQ2.out _).mono ?_
  rintro e w6 ⟨rfl, hb6⟩
  have B_18 := Lib.hid (B_14.out.trans ((hb6).mono B_14.out.size))
  have P_19 := Lib.hid (P_15.out.below (hb6))
  have i_20 := Lib.hid (i_16.out.below (hb6))
  have c_21 := Lib.hid (c_13.out.below (hb6))
  clear B_14 P_15 i_16 c_13 hb6 c0_17 c1_17 c2_17
  go_wp2_with fail
  refine (is_none _).mono ?_
  rintro e w' ⟨rfl, rfl⟩
  go_wp2_with fail
  refine (is_none _).mono ?_
  rintro e w' ⟨rfl, rfl⟩
  go_wp2_with fail
  refine (rCau_any r c N2 HN2.out (by omega) (by omega) (by omega) (by omega) (by omega) _).mono ?_
  rintro e w7 ⟨g4, rfl, t0_7, hb7⟩
  have B_22 := Lib.hid (B_18.out.trans ((hb7).mono B_18.out.size))
  have P_23 := Lib.hid (P_19.out.below (hb7))
  have i_24 := Lib.hid (i_20.out.below (hb7))
  have c_25 := Lib.hid (c_21.out.below (hb7))
  have Dt_26 := Lib.hid t0_7
  clear B_18 P_19 i_20 c_21 t0_7 hb7
  go_wp2_with (refine wpList_store_whole rfl 24 _ _ rfl w7.heap.size [.int .i64 r, .int .i64 c, .slice (some ⟨g4, 0, none⟩) N2 N2] zeroRow 24 rfl rfl (heap_alloc_new _ _) rfl (by kernel_rfl) (mv_ones _ _ _ _) ?_; intro w8 h8 k8 s8; have hs8 := after_box k8.out; have d_27 := Lib.hid ((BoxT.of h8.out k8.out Dt_26.out).1); have B_28 := Lib.hid (B_22.out.trans ((hs8).mono B_22.out.size)); have P_29 := Lib.hid (P_23.out.below (hs8)); have i_30 := Lib.hid (i_24.out.below (hs8)); have c_31 := Lib.hid (c_25.out.below (hs8)); obtain ⟨c0_32, c1_32, c2_32⟩ := heap_cell0 c_31.out.box; obtain ⟨c0_33, c1_33, c2_33⟩ := heap_cell0 d_27.out.box; clear B_22 P_23 i_24 c_25 Dt_26 hs8; go_frame)
  clear h8 k8 s8
  refine (tSame g2 g4 r c N2 _ _ HN2.out (by have := mul_le (show r ≤ 255 by omega) (show c ≤ 255 by omega) HN2.out; omega) (fun _ _ _ _ => rfl) _ c_31.out.tab d_27.out.tab).mono ?_
  rintro e w9 ⟨rfl, hb9⟩
  have B_34 := Lib.hid (B_28.out.trans ((hb9).mono B_28.out.size))
  have P_35 := Lib.hid (P_29.out.below (hb9))
  have i_36 := Lib.hid (i_30.out.below (hb9))
  have c_37 := Lib.hid (c_31.out.below (hb9))
  have d_38 := Lib.hid (d_27.out.below (hb9))
  clear B_28 P_29 i_30 c_31 d_27 hb9 c0_32 c0_33 c1_32 c1_33 c2_32 c2_33
  obtain ⟨c0_39, c1_39, c2_39⟩ := heap_cell0 i_36.out.box
  go_wp2_with fail
  refine (tUnder_much g1 n N (by omega) (by omega) HN.out _).mono ?_
  rintro e w10 ⟨g5, rfl, t0_10, hb10⟩
  have B_40 := Lib.hid (B_34.out.trans ((hb10).mono B_34.out.size))
  have P_41 := Lib.hid (P_35.out.below (hb10))
  have i_42 := Lib.hid (i_36.out.below (hb10))
  have c_43 := Lib.hid (c_37.out.below (hb10))
  have d_44 := Lib.hid (d_38.out.below (hb10))
  have Fu_45 := Lib.hid t0_10
  clear B_34 P_35 i_36 c_37 d_38 t0_10 hb10 c0_39 c1_39 c2_39
  unfold noneV faultV
  go_wp2_with (refine wpList_store_whole rfl 24 _ _ rfl w10.heap.size zeroRow zeroRow 24 rfl rfl (heap_alloc_new _ _) rfl (by kernel_rfl) (by decide) ?_; intro w11 h11 k11 s11; have hs11 := after_box k11.out; have u_46 : Hid (BoxV w10.heap.size 0 0 none 0 0 w11) := Lib.hid ⟨h11.out⟩; have B_47 := Lib.hid (B_40.out.trans ((hs11).mono B_40.out.size)); have P_48 := Lib.hid (P_41.out.below (hs11)); have i_49 := Lib.hid (i_42.out.below (hs11)); have c_50 := Lib.hid (c_43.out.below (hs11)); have d_51 := Lib.hid (d_44.out.below (hs11)); have Fu_52 := Lib.hid (Fu_45.out.keep ((hs11).block _ Fu_45.out.lt)); clear B_40 P_41 i_42 c_43 d_44 Fu_45 hs11; go_frame)
  clear h11 k11 s11
  refine (is_not0 g5 _).mono ?_
  rintro e w' ⟨rfl, rfl⟩
  obtain ⟨c0_53, c1_53, c2_53⟩ := heap_cell0 u_46.out.box
  go_wp2_with fail
  refine (is_fault g5 1 (by decide) _ Fu_52.out).mono ?_
  rintro e w' ⟨rfl, rfl⟩
  obtain ⟨c0_54, c1_54, c2_54⟩ := heap_cell0 P_48.out.box
  go_wp2_with fail
  refine (HQ1.out _).mono ?_
  rintro e w12 ⟨rfl, hb12⟩
  have B_55 := Lib.hid (B_47.out.trans ((hb12).mono B_47.out.size))
  have P_56 := Lib.hid (P_48.out.below (hb12))
  have i_57 := Lib.hid (i_49.out.below (hb12))
  have c_58 := Lib.hid (c_50.out.below (hb12))
  have d_59 := Lib.hid (d_51.out.below (hb12))
  have Fu_60 := Lib.hid (Fu_52.out.keep ((hb12).block _ Fu_52.out.lt))
  have u_61 := Lib.hid (u_46.out.below (hb12))
  clear B_47 P_48 i_49 c_50 d_51 Fu_52 u_46 hb12 c0_53 c0_54 c1_53 c1_54 c2_53 c2_54
  go_wp2_with fail
  go_ret
  exact ⟨rfl, B_55.out⟩
end Go.Proofs.Ytnaeekjocaecmaa
