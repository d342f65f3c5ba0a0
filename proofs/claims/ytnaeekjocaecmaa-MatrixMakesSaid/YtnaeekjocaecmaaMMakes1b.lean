/- MatrixMakes: the walks of one case of n. -/
import Derived.Test.YtnaeekjocaecmaaMMakesC
namespace Go.Proofs.Ytnaeekjocaecmaa
open Go.RowKit

set_option maxRecDepth 20000 in
set_option maxHeartbeats 4000000 in
theorem Makes_bg (r c : Nat) (n : Int) (hn0 : 255 < n) (hn1 : n ≤ 9223372036854775807) (hr0 : 1 ≤ r) (hr1 : r ≤ 40) (hr2 : 41 ≤ c) (hr3 : c ≤ 255) (hr4 : r + c ≤ 256) (ra ca : Int) (a0 : Option Addr) (len cap : Nat) (w : World) :
    Calls Try.prog 3 #[.int .i64 r, .int .i64 c, .int .i64 n, .agg #[.int .i64 ra, .int .i64 ca, .slice a0 len cap]] w fun e w' => e = .returned (.bool true) ∧ Below w.heap.size w w' := by
  obtain ⟨q, hq⟩ : ∃ q, rightB ra ca len = q := ⟨_, rfl⟩
  have HQ1 := Lib.hid (Right_any ra ca a0 len cap)
  have HQ2 := Lib.hid (rRight_any ra ca a0 len cap)
  rw [hq] at HQ1 HQ2
  clear hq
  have qq := bool_self q
  obtain ⟨N2, hN2⟩ : ∃ N, r * c = N := ⟨_, rfl⟩
  have HN2 := Lib.hid hN2
  clear hN2
  obtain ⟨wa, hwa⟩ : ∃ wa, wa = w.alloc (.cells #[.int .i64 ra, .int .i64 ca, .slice a0 len cap] 24) := ⟨_, rfl⟩
  have B_0 : Hid (Below w.heap.size w wa) := Lib.hid (by rw [hwa]; exact below_alloc _ _)
  have P_0 : Hid (BoxV w.heap.size ra ca a0 len cap wa) := Lib.hid ⟨by rw [hwa]; exact heap_alloc_new _ _⟩
  have HWA := Lib.hid hwa
  clear hwa
  go_enter Try.func3, Try.ntmps3
  go_wp2_with fail
  rw [← HWA.out]
  clear HWA
  refine (known_any _).mono ?_
  rintro e w1 ⟨rfl, hb1⟩
  have B_1 := Lib.hid (B_0.out.trans ((hb1).mono B_0.out.size))
  have P_2 := Lib.hid (P_0.out.below (hb1))
  clear B_0 P_0 hb1
  go_wp2_with fail
  refine (tIdent_no n (by omega) _).mono ?_
  rintro e w2 ⟨g1, rfl, t0_2, hb2⟩
  have B_3 := Lib.hid (B_1.out.trans ((hb2).mono B_1.out.size))
  have P_4 := Lib.hid (P_2.out.below (hb2))
  have Fi_5 := Lib.hid t0_2
  clear B_1 P_2 t0_2 hb2
  unfold noneV faultV
  go_wp2_with (refine wpList_store_whole rfl 24 _ _ rfl w2.heap.size zeroRow zeroRow 24 rfl rfl (heap_alloc_new _ _) rfl (by kernel_rfl) (by decide) ?_; intro w3 h3 k3 s3; have hs3 := after_box k3.out; have i_6 : Hid (BoxV w2.heap.size 0 0 none 0 0 w3) := Lib.hid ⟨h3.out⟩; have B_7 := Lib.hid (B_3.out.trans ((hs3).mono B_3.out.size)); have P_8 := Lib.hid (P_4.out.below (hs3)); have Fi_9 := Lib.hid (Fi_5.out.keep ((hs3).block _ Fi_5.out.lt)); clear B_3 P_4 Fi_5 hs3; go_frame)
  clear h3 k3 s3
  refine (tCauchy r c N2 (by omega) (by omega) (by omega) (by omega) (by omega) HN2.out _).mono ?_
  rintro e w4 ⟨g2, rfl, t0_4, hb4⟩
  have B_10 := Lib.hid (B_7.out.trans ((hb4).mono B_7.out.size))
  have P_11 := Lib.hid (P_8.out.below (hb4))
  have Fi_12 := Lib.hid (Fi_9.out.keep ((hb4).block _ Fi_9.out.lt))
  have i_13 := Lib.hid (i_6.out.below (hb4))
  have Ct_14 := Lib.hid t0_4
  clear B_7 P_8 Fi_9 i_6 t0_4 hb4
  go_wp2_with (refine wpList_store_whole rfl 24 _ _ rfl w4.heap.size [.int .i64 r, .int .i64 c, .slice (some ⟨g2, 0, none⟩) N2 N2] zeroRow 24 rfl rfl (heap_alloc_new _ _) rfl (by kernel_rfl) (mv_ones _ _ _ _) ?_; intro w5 h5 k5 s5; have hs5 := after_box k5.out; have c_15 := Lib.hid ((BoxT.of h5.out k5.out Ct_14.out).1); have B_16 := Lib.hid (B_10.out.trans ((hs5).mono B_10.out.size)); have P_17 := Lib.hid (P_11.out.below (hs5)); have Fi_18 := Lib.hid (Fi_12.out.keep ((hs5).block _ Fi_12.out.lt)); have i_19 := Lib.hid (i_13.out.below (hs5)); obtain ⟨c0_20, c1_20, c2_20⟩ := heap_cell0 P_17.out.box; clear B_10 P_11 Fi_12 i_13 Ct_14 hs5; go_frame)
  clear h5 k5 s5
  refine (HQ2.out _).mono ?_
  rintro e w6 ⟨rfl, hb6⟩
  have B_21 := Lib.hid (B_16.out.trans ((hb6).mono B_16.out.size))
  have P_22 := Lib.hid (P_17.out.below (hb6))
  have Fi_23 := Lib.hid (Fi_18.out.keep ((hb6).block _ Fi_18.out.lt))
  have i_24 := Lib.hid (i_19.out.below (hb6))
  have c_25 := Lib.hid (c_15.out.below (hb6))
  clear B_16 P_17 Fi_18 i_19 c_15 hb6 c0_20 c1_20 c2_20
  go_wp2_with fail
  refine (is_not0 g1 _).mono ?_
  rintro e w' ⟨rfl, rfl⟩
  obtain ⟨c0_26, c1_26, c2_26⟩ := heap_cell0 i_24.out.box
  go_wp2_with fail
  refine (is_fault g1 1 (by decide) _ Fi_23.out).mono ?_
  rintro e w' ⟨rfl, rfl⟩
  go_wp2_with fail
  refine (is_none _).mono ?_
  rintro e w' ⟨rfl, rfl⟩
  obtain ⟨c0_27, c1_27, c2_27⟩ := heap_cell0 i_24.out.box
  go_wp2_with fail
  refine (tUnder_none _).mono ?_
  rintro e w7 ⟨g5, rfl, t0_7, hb7⟩
  have B_28 := Lib.hid (B_21.out.trans ((hb7).mono B_21.out.size))
  have P_29 := Lib.hid (P_22.out.below (hb7))
  have Fi_30 := Lib.hid (Fi_23.out.keep ((hb7).block _ Fi_23.out.lt))
  have i_31 := Lib.hid (i_24.out.below (hb7))
  have c_32 := Lib.hid (c_25.out.below (hb7))
  have Fu_33 := Lib.hid t0_7
  clear B_21 P_22 Fi_23 i_24 c_25 t0_7 hb7 c0_26 c0_27 c1_26 c1_27 c2_26 c2_27
  unfold noneV faultV
  go_wp2_with (refine wpList_store_whole rfl 24 _ _ rfl w7.heap.size zeroRow zeroRow 24 rfl rfl (heap_alloc_new _ _) rfl (by kernel_rfl) (by decide) ?_; intro w8 h8 k8 s8; have hs8 := after_box k8.out; have u_34 : Hid (BoxV w7.heap.size 0 0 none 0 0 w8) := Lib.hid ⟨h8.out⟩; have B_35 := Lib.hid (B_28.out.trans ((hs8).mono B_28.out.size)); have P_36 := Lib.hid (P_29.out.below (hs8)); have Fi_37 := Lib.hid (Fi_30.out.keep ((hs8).block _ Fi_30.out.lt)); have i_38 := Lib.hid (i_31.out.below (hs8)); have c_39 := Lib.hid (c_32.out.below (hs8)); have Fu_40 := Lib.hid (Fu_33.out.keep ((hs8).block _ Fu_33.out.lt)); clear B_28 P_29 Fi_30 i_31 c_32 Fu_33 hs8; go_frame)
  clear h8 k8 s8
  refine (is_not0 g5 _).mono ?_
  rintro e w' ⟨rfl, rfl⟩
  obtain ⟨c0_41, c1_41, c2_41⟩ := heap_cell0 u_34.out.box
  go_wp2_with fail
  refine (is_fault g5 1 (by decide) _ Fu_40.out).mono ?_
  rintro e w' ⟨rfl, rfl⟩
  obtain ⟨c0_42, c1_42, c2_42⟩ := heap_cell0 P_36.out.box
  go_wp2_with fail
  refine (HQ1.out _).mono ?_
  rintro e w9 ⟨rfl, hb9⟩
  have B_43 := Lib.hid (B_35.out.trans ((hb9).mono B_35.out.size))
  have P_44 := Lib.hid (P_36.out.below (hb9))
  have Fi_45 := Lib.hid (Fi_37.out.keep ((hb9).block _ Fi_37.out.lt))
  have i_46 := Lib.hid (i_38.out.below (hb9))
  have c_47 := Lib.hid (c_39.out.below (hb9))
  have Fu_48 := Lib.hid (Fu_40.out.keep ((hb9).block _ Fu_40.out.lt))
  have u_49 := Lib.hid (u_34.out.below (hb9))
  clear B_35 P_36 Fi_37 i_38 c_39 Fu_40 u_34 hb9 c0_41 c0_42 c1_41 c1_42 c2_41 c2_42
  go_wp2_with fail
  go_ret
  exact ⟨rfl, B_43.out⟩
set_option maxRecDepth 20000 in
set_option maxHeartbeats 4000000 in
theorem Makes_bh (r c : Nat) (n : Int) (hn0 : 255 < n) (hn1 : n ≤ 9223372036854775807) (hr0 : 41 ≤ r) (hr1 : r ≤ 255) (hr2 : 1 ≤ c) (hr3 : c ≤ 255) (hr4 : r + c ≤ 256) (ra ca : Int) (a0 : Option Addr) (len cap : Nat) (w : World) :
    Calls Try.prog 3 #[.int .i64 r, .int .i64 c, .int .i64 n, .agg #[.int .i64 ra, .int .i64 ca, .slice a0 len cap]] w fun e w' => e = .returned (.bool true) ∧ Below w.heap.size w w' := by
  obtain ⟨q, hq⟩ : ∃ q, rightB ra ca len = q := ⟨_, rfl⟩
  have HQ1 := Lib.hid (Right_any ra ca a0 len cap)
  have HQ2 := Lib.hid (rRight_any ra ca a0 len cap)
  rw [hq] at HQ1 HQ2
  clear hq
  have qq := bool_self q
  obtain ⟨N2, hN2⟩ : ∃ N, r * c = N := ⟨_, rfl⟩
  have HN2 := Lib.hid hN2
  clear hN2
  obtain ⟨wa, hwa⟩ : ∃ wa, wa = w.alloc (.cells #[.int .i64 ra, .int .i64 ca, .slice a0 len cap] 24) := ⟨_, rfl⟩
  have B_0 : Hid (Below w.heap.size w wa) := Lib.hid (by rw [hwa]; exact below_alloc _ _)
  have P_0 : Hid (BoxV w.heap.size ra ca a0 len cap wa) := Lib.hid ⟨by rw [hwa]; exact heap_alloc_new _ _⟩
  have HWA := Lib.hid hwa
  clear hwa
  go_enter Try.func3, Try.ntmps3
  go_wp2_with fail
  rw [← HWA.out]
  clear HWA
  refine (known_any _).mono ?_
  rintro e w1 ⟨rfl, hb1⟩
  have B_1 := Lib.hid (B_0.out.trans ((hb1).mono B_0.out.size))
  have P_2 := Lib.hid (P_0.out.below (hb1))
  clear B_0 P_0 hb1
  go_wp2_with fail
  refine (tIdent_no n (by omega) _).mono ?_
  rintro e w2 ⟨g1, rfl, t0_2, hb2⟩
  have B_3 := Lib.hid (B_1.out.trans ((hb2).mono B_1.out.size))
  have P_4 := Lib.hid (P_2.out.below (hb2))
  have Fi_5 := Lib.hid t0_2
  clear B_1 P_2 t0_2 hb2
  unfold noneV faultV
  go_wp2_with (refine wpList_store_whole rfl 24 _ _ rfl w2.heap.size zeroRow zeroRow 24 rfl rfl (heap_alloc_new _ _) rfl (by kernel_rfl) (by decide) ?_; intro w3 h3 k3 s3; have hs3 := after_box k3.out; have i_6 : Hid (BoxV w2.heap.size 0 0 none 0 0 w3) := Lib.hid ⟨h3.out⟩; have B_7 := Lib.hid (B_3.out.trans ((hs3).mono B_3.out.size)); have P_8 := Lib.hid (P_4.out.below (hs3)); have Fi_9 := Lib.hid (Fi_5.out.keep ((hs3).block _ Fi_5.out.lt)); clear B_3 P_4 Fi_5 hs3; go_frame)
  clear h3 k3 s3
  refine (tCauchy r c N2 (by omega) (by omega) (by omega) (by omega) (by omega) HN2.out _).mono ?_
  rintro e w4 ⟨g2, rfl, t0_4, hb4⟩
  have B_10 := Lib.hid (B_7.out.trans ((hb4).mono B_7.out.size))
  have P_11 := Lib.hid (P_8.out.below (hb4))
  have Fi_12 := Lib.hid (Fi_9.out.keep ((hb4).block _ Fi_9.out.lt))
  have i_13 := Lib.hid (i_6.out.below (hb4))
  have Ct_14 := Lib.hid t0_4
  clear B_7 P_8 Fi_9 i_6 t0_4 hb4
  go_wp2_with (refine wpList_store_whole rfl 24 _ _ rfl w4.heap.size [.int .i64 r, .int .i64 c, .slice (some ⟨g2, 0, none⟩) N2 N2] zeroRow 24 rfl rfl (heap_alloc_new _ _) rfl (by kernel_rfl) (mv_ones _ _ _ _) ?_; intro w5 h5 k5 s5; have hs5 := after_box k5.out; have c_15 := Lib.hid ((BoxT.of h5.out k5.out Ct_14.out).1); have B_16 := Lib.hid (B_10.out.trans ((hs5).mono B_10.out.size)); have P_17 := Lib.hid (P_11.out.below (hs5)); have Fi_18 := Lib.hid (Fi_12.out.keep ((hs5).block _ Fi_12.out.lt)); have i_19 := Lib.hid (i_13.out.below (hs5)); obtain ⟨c0_20, c1_20, c2_20⟩ := heap_cell0 P_17.out.box; clear B_10 P_11 Fi_12 i_13 Ct_14 hs5; go_frame)
  clear h5 k5 s5
  refine (HQ2.out _).mono ?_
  rintro e w6 ⟨rfl, hb6⟩
  have B_21 := Lib.hid (B_16.out.trans ((hb6).mono B_16.out.size))
  have P_22 := Lib.hid (P_17.out.below (hb6))
  have Fi_23 := Lib.hid (Fi_18.out.keep ((hb6).block _ Fi_18.out.lt))
  have i_24 := Lib.hid (i_19.out.below (hb6))
  have c_25 := Lib.hid (c_15.out.below (hb6))
  clear B_16 P_17 Fi_18 i_19 c_15 hb6 c0_20 c1_20 c2_20
  go_wp2_with fail
  refine (is_not0 g1 _).mono ?_
  rintro e w' ⟨rfl, rfl⟩
  obtain ⟨c0_26, c1_26, c2_26⟩ := heap_cell0 i_24.out.box
  go_wp2_with fail
  refine (is_fault g1 1 (by decide) _ Fi_23.out).mono ?_
  rintro e w' ⟨rfl, rfl⟩
  go_wp2_with fail
  refine (is_none _).mono ?_
  rintro e w' ⟨rfl, rfl⟩
  obtain ⟨c0_27, c1_27, c2_27⟩ := heap_cell0 i_24.out.box
  go_wp2_with fail
  refine (tUnder_none _).mono ?_
  rintro e w7 ⟨g5, rfl, t0_7, hb7⟩
  have B_28 := Lib.hid (B_21.out.trans ((hb7).mono B_21.out.size))
  have P_29 := Lib.hid (P_22.out.below (hb7))
  have Fi_30 := Lib.hid (Fi_23.out.keep ((hb7).block _ Fi_23.out.lt))
  have i_31 := Lib.hid (i_24.out.below (hb7))
  have c_32 := Lib.hid (c_25.out.below (hb7))
  have Fu_33 := Lib.hid t0_7
  clear B_21 P_22 Fi_23 i_24 c_25 t0_7 hb7 c0_26 c0_27 c1_26 c1_27 c2_26 c2_27
  unfold noneV faultV
  go_wp2_with (refine wpList_store_whole rfl 24 _ _ rfl w7.heap.size zeroRow zeroRow 24 rfl rfl (heap_alloc_new _ _) rfl (by kernel_rfl) (by decide) ?_; intro w8 h8 k8 s8; have hs8 := after_box k8.out; have u_34 : Hid (BoxV w7.heap.size 0 0 none 0 0 w8) := Lib.hid ⟨h8.out⟩; have B_35 := Lib.hid (B_28.out.trans ((hs8).mono B_28.out.size)); have P_36 := Lib.hid (P_29.out.below (hs8)); have Fi_37 := Lib.hid (Fi_30.out.keep ((hs8).block _ Fi_30.out.lt)); have i_38 := Lib.hid (i_31.out.below (hs8)); have c_39 := Lib.hid (c_32.out.below (hs8)); have Fu_40 := Lib.hid (Fu_33.out.keep ((hs8).block _ Fu_33.out.lt)); clear B_28 P_29 Fi_30 i_31 c_32 Fu_33 hs8; go_frame)
  clear h8 k8 s8
  refine (is_not0 g5 _).mono ?_
  rintro e w' ⟨rfl, rfl⟩
  obtain ⟨c0_41, c1_41, c2_41⟩ := heap_cell0 u_34.out.box
  go_wp2_with fail
  refine (is_fault g5 1 (by decide) _ Fu_40.out).mono ?_
  rintro e w' ⟨rfl, rfl⟩
  obtain ⟨c0_42, c1_42, c2_42⟩ := heap_cell0 P_36.out.box
  go_wp2_with fail
  refine (HQ1.out _).mono ?_
  rintro e w9 ⟨rfl, hb9⟩
  have B_43 := Lib.hid (B_35.out.trans ((hb9).mono B_35.out.size))
  have P_44 := Lib.hid (P_36.out.below (hb9))
  have Fi_45 := Lib.hid (Fi_37.out.keep ((hb9).block _ Fi_37.out.lt))
  have i_46 := Lib.hid (i_38.out.below (hb9))
  have c_47 := Lib.hid (c_39.out.below (hb9))
  have Fu_48 := Lib.hid (Fu_40.out.keep ((hb9).block _ Fu_40.out.lt))
  have u_49 := Lib.hid (u_34.out.below (hb9))
  clear B_35 P_36 Fi_37 i_38 c_39 Fu_40 u_34 hb9 c0_41 c0_42 c1_41 c1_42 c2_41 c2_42
  go_wp2_with fail
  go_ret
  exact ⟨rfl, B_43.out⟩
set_option maxRecDepth 20000 in
set_option maxHeartbeats 4000000 in
theorem Makes_bi (r c : Int) (n : Int) (hn0 : 255 < n) (hn1 : n ≤ 9223372036854775807) (hr0 : 41 ≤ r) (hr1 : r ≤ 255) (hr2 : c < 1) (hrb : -9223372036854775808 ≤ r ∧ r ≤ 9223372036854775807) (hcb : -9223372036854775808 ≤ c ∧ c ≤ 9223372036854775807) (ra ca : Int) (a0 : Option Addr) (len cap : Nat) (w : World) :
    Calls Try.prog 3 #[.int .i64 r, .int .i64 c, .int .i64 n, .agg #[.int .i64 ra, .int .i64 ca, .slice a0 len cap]] w fun e w' => e = .returned (.bool true) ∧ Below w.heap.size w w' := by
  have hbb := And.intro hrb hcb
  clear hbb
  obtain ⟨q, hq⟩ : ∃ q, rightB ra ca len = q := ⟨_, rfl⟩
  have HQ1 := Lib.hid (Right_any ra ca a0 len cap)
  have HQ2 := Lib.hid (rRight_any ra ca a0 len cap)
  rw [hq] at HQ1 HQ2
  clear hq
  have qq := bool_self q
  obtain ⟨wa, hwa⟩ : ∃ wa, wa = w.alloc (.cells #[.int .i64 ra, .int .i64 ca, .slice a0 len cap] 24) := ⟨_, rfl⟩
  have B_0 : Hid (Below w.heap.size w wa) := Lib.hid (by rw [hwa]; exact below_alloc _ _)
  have P_0 : Hid (BoxV w.heap.size ra ca a0 len cap wa) := Lib.hid ⟨by rw [hwa]; exact heap_alloc_new _ _⟩
  have HWA := Lib.hid hwa
  clear hwa
  go_enter Try.func3, Try.ntmps3
  go_wp2_with fail
  rw [← HWA.out]
  clear HWA
  refine (known_any _).mono ?_
  rintro e w1 ⟨rfl, hb1⟩
  have B_1 := Lib.hid (B_0.out.trans ((hb1).mono B_0.out.size))
  have P_2 := Lib.hid (P_0.out.below (hb1))
  clear B_0 P_0 hb1
  go_wp2_with fail
  refine (tIdent_no n (by omega) _).mono ?_
  rintro e w2 ⟨g1, rfl, t0_2, hb2⟩
  have B_3 := Lib.hid (B_1.out.trans ((hb2).mono B_1.out.size))
  have P_4 := Lib.hid (P_2.out.below (hb2))
  have Fi_5 := Lib.hid t0_2
  clear B_1 P_2 t0_2 hb2
  unfold noneV faultV
  go_wp2_with (refine wpList_store_whole rfl 24 _ _ rfl w2.heap.size zeroRow zeroRow 24 rfl rfl (heap_alloc_new _ _) rfl (by kernel_rfl) (by decide) ?_; intro w3 h3 k3 s3; have hs3 := after_box k3.out; have i_6 : Hid (BoxV w2.heap.size 0 0 none 0 0 w3) := Lib.hid ⟨h3.out⟩; have B_7 := Lib.hid (B_3.out.trans ((hs3).mono B_3.out.size)); have P_8 := Lib.hid (P_4.out.below (hs3)); have Fi_9 := Lib.hid (Fi_5.out.keep ((hs3).block _ Fi_5.out.lt)); clear B_3 P_4 Fi_5 hs3; go_frame)
  clear h3 k3 s3
  refine (tCauchy_no r c (by omega) _).mono ?_
  rintro e w4 ⟨g2, rfl, t0_4, hb4⟩
  have B_10 := Lib.hid (B_7.out.trans ((hb4).mono B_7.out.size))
  have P_11 := Lib.hid (P_8.out.below (hb4))
  have Fi_12 := Lib.hid (Fi_9.out.keep ((hb4).block _ Fi_9.out.lt))
  have i_13 := Lib.hid (i_6.out.below (hb4))
  have Fc_14 := Lib.hid t0_4
  clear B_7 P_8 Fi_9 i_6 t0_4 hb4
  unfold noneV faultV
  go_wp2_with (refine wpList_store_whole rfl 24 _ _ rfl w4.heap.size zeroRow zeroRow 24 rfl rfl (heap_alloc_new _ _) rfl (by kernel_rfl) (by decide) ?_; intro w5 h5 k5 s5; have hs5 := after_box k5.out; have c_15 : Hid (BoxV w4.heap.size 0 0 none 0 0 w5) := Lib.hid ⟨h5.out⟩; have B_16 := Lib.hid (B_10.out.trans ((hs5).mono B_10.out.size)); have P_17 := Lib.hid (P_11.out.below (hs5)); have Fi_18 := Lib.hid (Fi_12.out.keep ((hs5).block _ Fi_12.out.lt)); have i_19 := Lib.hid (i_13.out.below (hs5)); have Fc_20 := Lib.hid (Fc_14.out.keep ((hs5).block _ Fc_14.out.lt)); obtain ⟨c0_21, c1_21, c2_21⟩ := heap_cell0 P_17.out.box; clear B_10 P_11 Fi_12 i_13 Fc_14 hs5; go_frame)
  clear h5 k5 s5
  refine (HQ2.out _).mono ?_
  rintro e w6 ⟨rfl, hb6⟩
  have B_22 := Lib.hid (B_16.out.trans ((hb6).mono B_16.out.size))
  have P_23 := Lib.hid (P_17.out.below (hb6))
  have Fi_24 := Lib.hid (Fi_18.out.keep ((hb6).block _ Fi_18.out.lt))
  have i_25 := Lib.hid (i_19.out.below (hb6))
  have Fc_26 := Lib.hid (Fc_20.out.keep ((hb6).block _ Fc_20.out.lt))
  have c_27 := Lib.hid (c_15.out.below (hb6))
  clear B_16 P_17 Fi_18 i_19 Fc_20 c_15 hb6 c0_21 c1_21 c2_21
  go_wp2_with fail
  refine (is_not0 g1 _).mono ?_
  rintro e w' ⟨rfl, rfl⟩
  obtain ⟨c0_28, c1_28, c2_28⟩ := heap_cell0 i_25.out.box
  go_wp2_with fail
  refine (is_fault g1 1 (by decide) _ Fi_24.out).mono ?_
  rintro e w' ⟨rfl, rfl⟩
  go_wp2_with fail
  refine (is_not0 g2 _).mono ?_
  rintro e w' ⟨rfl, rfl⟩
  obtain ⟨c0_29, c1_29, c2_29⟩ := heap_cell0 c_27.out.box
  go_wp2_with fail
  refine (is_fault g2 1 (by decide) _ Fc_26.out).mono ?_
  rintro e w' ⟨rfl, rfl⟩
  obtain ⟨c0_30, c1_30, c2_30⟩ := heap_cell0 i_25.out.box
  go_wp2_with fail
  refine (tUnder_none _).mono ?_
  rintro e w7 ⟨g5, rfl, t0_7, hb7⟩
  have B_31 := Lib.hid (B_22.out.trans ((hb7).mono B_22.out.size))
  have P_32 := Lib.hid (P_23.out.below (hb7))
  have Fi_33 := Lib.hid (Fi_24.out.keep ((hb7).block _ Fi_24.out.lt))
  have i_34 := Lib.hid (i_25.out.below (hb7))
  have Fc_35 := Lib.hid (Fc_26.out.keep ((hb7).block _ Fc_26.out.lt))
  have c_36 := Lib.hid (c_27.out.below (hb7))
  have Fu_37 := Lib.hid t0_7
  clear B_22 P_23 Fi_24 i_25 Fc_26 c_27 t0_7 hb7 c0_28 c0_29 c0_30 c1_28 c1_29 c1_30 c2_28 c2_29 c2_30
  unfold noneV faultV
  go_wp2_with (refine wpList_store_whole rfl 24 _ _ rfl w7.heap.size zeroRow zeroRow 24 rfl rfl (heap_alloc_new _ _) rfl (by kernel_rfl) (by decide) ?_; intro w8 h8 k8 s8; have hs8 := after_box k8.out; have u_38 : Hid (BoxV w7.heap.size 0 0 none 0 0 w8) := Lib.hid ⟨h8.out⟩; have B_39 := Lib.hid (B_31.out.trans ((hs8).mono B_31.out.size)); have P_40 := Lib.hid (P_32.out.below (hs8)); have Fi_41 := Lib.hid (Fi_33.out.keep ((hs8).block _ Fi_33.out.lt)); have i_42 := Lib.hid (i_34.out.below (hs8)); have Fc_43 := Lib.hid (Fc_35.out.keep ((hs8).block _ Fc_35.out.lt)); have c_44 := Lib.hid (c_36.out.below (hs8)); have Fu_45 := Lib.hid (Fu_37.out.keep ((hs8).block _ Fu_37.out.lt)); clear B_31 P_32 Fi_33 i_34 Fc_35 c_36 Fu_37 hs8; go_frame)
  clear h8 k8 s8
  refine (is_not0 g5 _).mono ?_
  rintro e w' ⟨rfl, rfl⟩
  obtain ⟨c0_46, c1_46, c2_46⟩ := heap_cell0 u_38.out.box
  go_wp2_with fail
  refine (is_fault g5 1 (by decide) _ Fu_45.out).mono ?_
  rintro e w' ⟨rfl, rfl⟩
  obtain ⟨c0_47, c1_47, c2_47⟩ := heap_cell0 P_40.out.box
  go_wp2_with fail
  refine (HQ1.out _).mono ?_
  rintro e w9 ⟨rfl, hb9⟩
  have B_48 := Lib.hid (B_39.out.trans ((hb9).mono B_39.out.size))
  have P_49 := Lib.hid (P_40.out.below (hb9))
  have Fi_50 := Lib.hid (Fi_41.out.keep ((hb9).block _ Fi_41.out.lt))
  have i_51 := Lib.hid (i_42.out.below (hb9))
  have Fc_52 := Lib.hid (Fc_43.out.keep ((hb9).block _ Fc_43.out.lt))
  have c_53 := Lib.hid (c_44.out.below (hb9))
  have Fu_54 := Lib.hid (Fu_45.out.keep ((hb9).block _ Fu_45.out.lt))
  have u_55 := Lib.hid (u_38.out.below (hb9))
  clear B_39 P_40 Fi_41 i_42 Fc_43 c_44 Fu_45 u_38 hb9 c0_46 c0_47 c1_46 c1_47 c2_46 c2_47
  go_wp2_with fail
  go_ret
  exact ⟨rfl, B_48.out⟩
set_option maxRecDepth 20000 in
set_option maxHeartbeats 4000000 in
theorem Makes_bj (r c : Int) (n : Int) (hn0 : 255 < n) (hn1 : n ≤ 9223372036854775807) (hr0 : 41 ≤ r) (hr1 : r ≤ 255) (hr2 : 255 < c) (hrb : -9223372036854775808 ≤ r ∧ r ≤ 9223372036854775807) (hcb : -9223372036854775808 ≤ c ∧ c ≤ 9223372036854775807) (ra ca : Int) (a0 : Option Addr) (len cap : Nat) (w : World) :
    Calls Try.prog 3 #[.int .i64 r, .int .i64 c, .int .i64 n, .agg #[.int .i64 ra, .int .i64 ca, .slice a0 len cap]] w fun e w' => e = .returned (.bool true) ∧ Below w.heap.size w w' := by
  have hbb := And.intro hrb hcb
  clear hbb
  obtain ⟨q, hq⟩ : ∃ q, rightB ra ca len = q := ⟨_, rfl⟩
  have HQ1 := Lib.hid (Right_any ra ca a0 len cap)
  have HQ2 := Lib.hid (rRight_any ra ca a0 len cap)
  rw [hq] at HQ1 HQ2
  clear hq
  have qq := bool_self q
  obtain ⟨wa, hwa⟩ : ∃ wa, wa = w.alloc (.cells #[.int .i64 ra, .int .i64 ca, .slice a0 len cap] 24) := ⟨_, rfl⟩
  have B_0 : Hid (Below w.heap.size w wa) := Lib.hid (by rw [hwa]; exact below_alloc _ _)
  have P_0 : Hid (BoxV w.heap.size ra ca a0 len cap wa) := Lib.hid ⟨by rw [hwa]; exact heap_alloc_new _ _⟩
  have HWA := Lib.hid hwa
  clear hwa
  go_enter Try.func3, Try.ntmps3
  go_wp2_with fail
  rw [← HWA.out]
  clear HWA
  refine (known_any _).mono ?_
  rintro e w1 ⟨rfl, hb1⟩
  have B_1 := Lib.hid (B_0.out.trans ((hb1).mono B_0.out.size))
  have P_2 := Lib.hid (P_0.out.below (hb1))
  clear B_0 P_0 hb1
  go_wp2_with fail
  refine (tIdent_no n (by omega) _).mono ?_
  rintro e w2 ⟨g1, rfl, t0_2, hb2⟩
  have B_3 := Lib.hid (B_1.out.trans ((hb2).mono B_1.out.size))
  have P_4 := Lib.hid (P_2.out.below (hb2))
  have Fi_5 := Lib.hid t0_2
  clear B_1 P_2 t0_2 hb2
  unfold noneV faultV
  go_wp2_with (refine wpList_store_whole rfl 24 _ _ rfl w2.heap.size zeroRow zeroRow 24 rfl rfl (heap_alloc_new _ _) rfl (by kernel_rfl) (by decide) ?_; intro w3 h3 k3 s3; have hs3 := after_box k3.out; have i_6 : Hid (BoxV w2.heap.size 0 0 none 0 0 w3) := Lib.hid ⟨h3.out⟩; have B_7 := Lib.hid (B_3.out.trans ((hs3).mono B_3.out.size)); have P_8 := Lib.hid (P_4.out.below (hs3)); have Fi_9 := Lib.hid (Fi_5.out.keep ((hs3).block _ Fi_5.out.lt)); clear B_3 P_4 Fi_5 hs3; go_frame)
  clear h3 k3 s3
  refine (tCauchy_no r c (by omega) _).mono ?_
  rintro e w4 ⟨g2, rfl, t0_4, hb4⟩
  have B_10 := Lib.hid (B_7.out.trans ((hb4).mono B_7.out.size))
  have P_11 := Lib.hid (P_8.out.below (hb4))
  have Fi_12 := Lib.hid (Fi_9.out.keep ((hb4).block _ Fi_9.out.lt))
  have i_13 := Lib.hid (i_6.out.below (hb4))
  have Fc_14 := Lib.hid t0_4
  clear B_7 P_8 Fi_9 i_6 t0_4 hb4
  unfold noneV faultV
  go_wp2_with (refine wpList_store_whole rfl 24 _ _ rfl w4.heap.size zeroRow zeroRow 24 rfl rfl (heap_alloc_new _ _) rfl (by kernel_rfl) (by decide) ?_; intro w5 h5 k5 s5; have hs5 := after_box k5.out; have c_15 : Hid (BoxV w4.heap.size 0 0 none 0 0 w5) := Lib.hid ⟨h5.out⟩; have B_16 := Lib.hid (B_10.out.trans ((hs5).mono B_10.out.size)); have P_17 := Lib.hid (P_11.out.below (hs5)); have Fi_18 := Lib.hid (Fi_12.out.keep ((hs5).block _ Fi_12.out.lt)); have i_19 := Lib.hid (i_13.out.below (hs5)); have Fc_20 := Lib.hid (Fc_14.out.keep ((hs5).block _ Fc_14.out.lt)); obtain ⟨c0_21, c1_21, c2_21⟩ := heap_cell0 P_17.out.box; clear B_10 P_11 Fi_12 i_13 Fc_14 hs5; go_frame)
  clear h5 k5 s5
  refine (HQ2.out _).mono ?_
  rintro e w6 ⟨rfl, hb6⟩
  have B_22 := Lib.hid (B_16.out.trans ((hb6).mono B_16.out.size))
  have P_23 := Lib.hid (P_17.out.below (hb6))
  have Fi_24 := Lib.hid (Fi_18.out.keep ((hb6).block _ Fi_18.out.lt))
  have i_25 := Lib.hid (i_19.out.below (hb6))
  have Fc_26 := Lib.hid (Fc_20.out.keep ((hb6).block _ Fc_20.out.lt))
  have c_27 := Lib.hid (c_15.out.below (hb6))
  clear B_16 P_17 Fi_18 i_19 Fc_20 c_15 hb6 c0_21 c1_21 c2_21
  go_wp2_with fail
  refine (is_not0 g1 _).mono ?_
  rintro e w' ⟨rfl, rfl⟩
  obtain ⟨c0_28, c1_28, c2_28⟩ := heap_cell0 i_25.out.box
  go_wp2_with fail
  refine (is_fault g1 1 (by decide) _ Fi_24.out).mono ?_
  rintro e w' ⟨rfl, rfl⟩
  go_wp2_with fail
  refine (is_not0 g2 _).mono ?_
  rintro e w' ⟨rfl, rfl⟩
  obtain ⟨c0_29, c1_29, c2_29⟩ := heap_cell0 c_27.out.box
  go_wp2_with fail
  refine (is_fault g2 1 (by decide) _ Fc_26.out).mono ?_
  rintro e w' ⟨rfl, rfl⟩
  obtain ⟨c0_30, c1_30, c2_30⟩ := heap_cell0 i_25.out.box
  go_wp2_with fail
  refine (tUnder_none _).mono ?_
  rintro e w7 ⟨g5, rfl, t0_7, hb7⟩
  have B_31 := Lib.hid (B_22.out.trans ((hb7).mono B_22.out.size))
  have P_32 := Lib.hid (P_23.out.below (hb7))
  have Fi_33 := Lib.hid (Fi_24.out.keep ((hb7).block _ Fi_24.out.lt))
  have i_34 := Lib.hid (i_25.out.below (hb7))
  have Fc_35 := Lib.hid (Fc_26.out.keep ((hb7).block _ Fc_26.out.lt))
  have c_36 := Lib.hid (c_27.out.below (hb7))
  have Fu_37 := Lib.hid t0_7
  clear B_22 P_23 Fi_24 i_25 Fc_26 c_27 t0_7 hb7 c0_28 c0_29 c0_30 c1_28 c1_29 c1_30 c2_28 c2_29 c2_30
  unfold noneV faultV
  go_wp2_with (refine wpList_store_whole rfl 24 _ _ rfl w7.heap.size zeroRow zeroRow 24 rfl rfl (heap_alloc_new _ _) rfl (by kernel_rfl) (by decide) ?_; intro w8 h8 k8 s8; have hs8 := after_box k8.out; have u_38 : Hid (BoxV w7.heap.size 0 0 none 0 0 w8) := Lib.hid ⟨h8.out⟩; have B_39 := Lib.hid (B_31.out.trans ((hs8).mono B_31.out.size)); have P_40 := Lib.hid (P_32.out.below (hs8)); have Fi_41 := Lib.hid (Fi_33.out.keep ((hs8).block _ Fi_33.out.lt)); have i_42 := Lib.hid (i_34.out.below (hs8)); have Fc_43 := Lib.hid (Fc_35.out.keep ((hs8).block _ Fc_35.out.lt)); have c_44 := Lib.hid (c_36.out.below (hs8)); have Fu_45 := Lib.hid (Fu_37.out.keep ((hs8).block _ Fu_37.out.lt)); clear B_31 P_32 Fi_33 i_34 Fc_35 c_36 Fu_37 hs8; go_frame)
  clear h8 k8 s8
  refine (is_not0 g5 _).mono ?_
  rintro e w' ⟨rfl, rfl⟩
  obtain ⟨c0_46, c1_46, c2_46⟩ := heap_cell0 u_38.out.box
  go_wp2_with fail
  refine (is_fault g5 1 (by decide) _ Fu_45.out).mono ?_
  rintro e w' ⟨rfl, rfl⟩
  obtain ⟨c0_47, c1_47, c2_47⟩ := heap_cell0 P_40.out.box
  go_wp2_with fail
  refine (HQ1.out _).mono ?_
  rintro e w9 ⟨rfl, hb9⟩
  have B_48 := Lib.hid (B_39.out.trans ((hb9).mono B_39.out.size))
  have P_49 := Lib.hid (P_40.out.below (hb9))
  have Fi_50 := Lib.hid (Fi_41.out.keep ((hb9).block _ Fi_41.out.lt))
  have i_51 := Lib.hid (i_42.out.below (hb9))
  have Fc_52 := Lib.hid (Fc_43.out.keep ((hb9).block _ Fc_43.out.lt))
  have c_53 := Lib.hid (c_44.out.below (hb9))
  have Fu_54 := Lib.hid (Fu_45.out.keep ((hb9).block _ Fu_45.out.lt))
  have u_55 := Lib.hid (u_38.out.below (hb9))
  clear B_39 P_40 Fi_41 i_42 Fc_43 c_44 Fu_45 u_38 hb9 c0_46 c0_47 c1_46 c1_47 c2_46 c2_47
  go_wp2_with fail
  go_ret
  exact ⟨rfl, B_48.out⟩
set_option maxRecDepth 20000 in
set_option maxHeartbeats 4000000 in
theorem Makes_bk (r c : Int) (n : Int) (hn0 : 255 < n) (hn1 : n ≤ 9223372036854775807) (hr0 : 41 ≤ r) (hr1 : r ≤ 255) (hr2 : 1 ≤ c) (hr3 : c ≤ 255) (hr4 : 256 < r + c) (hrb : -9223372036854775808 ≤ r ∧ r ≤ 9223372036854775807) (hcb : -9223372036854775808 ≤ c ∧ c ≤ 9223372036854775807) (ra ca : Int) (a0 : Option Addr) (len cap : Nat) (w : World) :
    Calls Try.prog 3 #[.int .i64 r, .int .i64 c, .int .i64 n, .agg #[.int .i64 ra, .int .i64 ca, .slice a0 len cap]] w fun e w' => e = .returned (.bool true) ∧ Below w.heap.size w w' := by
  have hbb := And.intro hrb hcb
  clear hbb
  obtain ⟨q, hq⟩ : ∃ q, rightB ra ca len = q := ⟨_, rfl⟩
  have HQ1 := Lib.hid (Right_any ra ca a0 len cap)
  have HQ2 := Lib.hid (rRight_any ra ca a0 len cap)
  rw [hq] at HQ1 HQ2
  clear hq
  have qq := bool_self q
  obtain ⟨wa, hwa⟩ : ∃ wa, wa = w.alloc (.cells #[.int .i64 ra, .int .i64 ca, .slice a0 len cap] 24) := ⟨_, rfl⟩
  have B_0 : Hid (Below w.heap.size w wa) := Lib.hid (by rw [hwa]; exact below_alloc _ _)
  have P_0 : Hid (BoxV w.heap.size ra ca a0 len cap wa) := Lib.hid ⟨by rw [hwa]; exact heap_alloc_new _ _⟩
  have HWA := Lib.hid hwa
  clear hwa
  go_enter Try.func3, Try.ntmps3
  go_wp2_with fail
  rw [← HWA.out]
  clear HWA
  refine (known_any _).mono ?_
  rintro e w1 ⟨rfl, hb1⟩
  have B_1 := Lib.hid (B_0.out.trans ((hb1).mono B_0.out.size))
  have P_2 := Lib.hid (P_0.out.below (hb1))
  clear B_0 P_0 hb1
  go_wp2_with fail
  refine (tIdent_no n (by omega) _).mono ?_
  rintro e w2 ⟨g1, rfl, t0_2, hb2⟩
  have B_3 := Lib.hid (B_1.out.trans ((hb2).mono B_1.out.size))
  have P_4 := Lib.hid (P_2.out.below (hb2))
  have Fi_5 := Lib.hid t0_2
  clear B_1 P_2 t0_2 hb2
  unfold noneV faultV
  go_wp2_with (refine wpList_store_whole rfl 24 _ _ rfl w2.heap.size zeroRow zeroRow 24 rfl rfl (heap_alloc_new _ _) rfl (by kernel_rfl) (by decide) ?_; intro w3 h3 k3 s3; have hs3 := after_box k3.out; have i_6 : Hid (BoxV w2.heap.size 0 0 none 0 0 w3) := Lib.hid ⟨h3.out⟩; have B_7 := Lib.hid (B_3.out.trans ((hs3).mono B_3.out.size)); have P_8 := Lib.hid (P_4.out.below (hs3)); have Fi_9 := Lib.hid (Fi_5.out.keep ((hs3).block _ Fi_5.out.lt)); clear B_3 P_4 Fi_5 hs3; go_frame)
  clear h3 k3 s3
  refine (tCauchy_no r c (by omega) _).mono ?_
  rintro e w4 ⟨g2, rfl, t0_4, hb4⟩
  have B_10 := Lib.hid (B_7.out.trans ((hb4).mono B_7.out.size))
  have P_11 := Lib.hid (P_8.out.below (hb4))
  have Fi_12 := Lib.hid (Fi_9.out.keep ((hb4).block _ Fi_9.out.lt))
  have i_13 := Lib.hid (i_6.out.below (hb4))
  have Fc_14 := Lib.hid t0_4
  clear B_7 P_8 Fi_9 i_6 t0_4 hb4
  unfold noneV faultV
  go_wp2_with (refine wpList_store_whole rfl 24 _ _ rfl w4.heap.size zeroRow zeroRow 24 rfl rfl (heap_alloc_new _ _) rfl (by kernel_rfl) (by decide) ?_; intro w5 h5 k5 s5; have hs5 := after_box k5.out; have c_15 : Hid (BoxV w4.heap.size 0 0 none 0 0 w5) := Lib.hid ⟨h5.out⟩; have B_16 := Lib.hid (B_10.out.trans ((hs5).mono B_10.out.size)); have P_17 := Lib.hid (P_11.out.below (hs5)); have Fi_18 := Lib.hid (Fi_12.out.keep ((hs5).block _ Fi_12.out.lt)); have i_19 := Lib.hid (i_13.out.below (hs5)); have Fc_20 := Lib.hid (Fc_14.out.keep ((hs5).block _ Fc_14.out.lt)); obtain ⟨c0_21, c1_21, c2_21⟩ := heap_cell0 P_17.out.box; clear B_10 P_11 Fi_12 i_13 Fc_14 hs5; go_frame)
  clear h5 k5 s5
  refine (HQ2.out _).mono ?_
  rintro e w6 ⟨rfl, hb6⟩
  have B_22 := Lib.hid (B_16.out.trans ((hb6).mono B_16.out.size))
  have P_23 := Lib.hid (P_17.out.below (hb6))
  have Fi_24 := Lib.hid (Fi_18.out.keep ((hb6).block _ Fi_18.out.lt))
  have i_25 := Lib.hid (i_19.out.below (hb6))
  have Fc_26 := Lib.hid (Fc_20.out.keep ((hb6).block _ Fc_20.out.lt))
  have c_27 := Lib.hid (c_15.out.below (hb6))
  clear B_16 P_17 Fi_18 i_19 Fc_20 c_15 hb6 c0_21 c1_21 c2_21
  go_wp2_with fail
  refine (is_not0 g1 _).mono ?_
  rintro e w' ⟨rfl, rfl⟩
  obtain ⟨c0_28, c1_28, c2_28⟩ := heap_cell0 i_25.out.box
  go_wp2_with fail
  refine (is_fault g1 1 (by decide) _ Fi_24.out).mono ?_
  rintro e w' ⟨rfl, rfl⟩
  go_wp2_with fail
  refine (is_not0 g2 _).mono ?_
  rintro e w' ⟨rfl, rfl⟩
  obtain ⟨c0_29, c1_29, c2_29⟩ := heap_cell0 c_27.out.box
  go_wp2_with fail
  refine (is_fault g2 1 (by decide) _ Fc_26.out).mono ?_
  rintro e w' ⟨rfl, rfl⟩
  obtain ⟨c0_30, c1_30, c2_30⟩ := heap_cell0 i_25.out.box
  go_wp2_with fail
  refine (tUnder_none _).mono ?_
  rintro e w7 ⟨g5, rfl, t0_7, hb7⟩
  have B_31 := Lib.hid (B_22.out.trans ((hb7).mono B_22.out.size))
  have P_32 := Lib.hid (P_23.out.below (hb7))
  have Fi_33 := Lib.hid (Fi_24.out.keep ((hb7).block _ Fi_24.out.lt))
  have i_34 := Lib.hid (i_25.out.below (hb7))
  have Fc_35 := Lib.hid (Fc_26.out.keep ((hb7).block _ Fc_26.out.lt))
  have c_36 := Lib.hid (c_27.out.below (hb7))
  have Fu_37 := Lib.hid t0_7
  clear B_22 P_23 Fi_24 i_25 Fc_26 c_27 t0_7 hb7 c0_28 c0_29 c0_30 c1_28 c1_29 c1_30 c2_28 c2_29 c2_30
  unfold noneV faultV
  go_wp2_with (refine wpList_store_whole rfl 24 _ _ rfl w7.heap.size zeroRow zeroRow 24 rfl rfl (heap_alloc_new _ _) rfl (by kernel_rfl) (by decide) ?_; intro w8 h8 k8 s8; have hs8 := after_box k8.out; have u_38 : Hid (BoxV w7.heap.size 0 0 none 0 0 w8) := Lib.hid ⟨h8.out⟩; have B_39 := Lib.hid (B_31.out.trans ((hs8).mono B_31.out.size)); have P_40 := Lib.hid (P_32.out.below (hs8)); have Fi_41 := Lib.hid (Fi_33.out.keep ((hs8).block _ Fi_33.out.lt)); have i_42 := Lib.hid (i_34.out.below (hs8)); have Fc_43 := Lib.hid (Fc_35.out.keep ((hs8).block _ Fc_35.out.lt)); have c_44 := Lib.hid (c_36.out.below (hs8)); have Fu_45 := Lib.hid (Fu_37.out.keep ((hs8).block _ Fu_37.out.lt)); clear B_31 P_32 Fi_33 i_34 Fc_35 c_36 Fu_37 hs8; go_frame)
  clear h8 k8 s8
  refine (is_not0 g5 _).mono ?_
  rintro e w' ⟨rfl, rfl⟩
  obtain ⟨c0_46, c1_46, c2_46⟩ := heap_cell0 u_38.out.box
  go_wp2_with fail
  refine (is_fault g5 1 (by decide) _ Fu_45.out).mono ?_
  rintro e w' ⟨rfl, rfl⟩
  obtain ⟨c0_47, c1_47, c2_47⟩ := heap_cell0 P_40.out.box
  go_wp2_with fail
  refine (HQ1.out _).mono ?_
  rintro e w9 ⟨rfl, hb9⟩
  have B_48 := Lib.hid (B_39.out.trans ((hb9).mono B_39.out.size))
  have P_49 := Lib.hid (P_40.out.below (hb9))
  have Fi_50 := Lib.hid (Fi_41.out.keep ((hb9).block _ Fi_41.out.lt))
  have i_51 := Lib.hid (i_42.out.below (hb9))
  have Fc_52 := Lib.hid (Fc_43.out.keep ((hb9).block _ Fc_43.out.lt))
  have c_53 := Lib.hid (c_44.out.below (hb9))
  have Fu_54 := Lib.hid (Fu_45.out.keep ((hb9).block _ Fu_45.out.lt))
  have u_55 := Lib.hid (u_38.out.below (hb9))
  clear B_39 P_40 Fi_41 i_42 Fc_43 c_44 Fu_45 u_38 hb9 c0_46 c0_47 c1_46 c1_47 c2_46 c2_47
  go_wp2_with fail
  go_ret
  exact ⟨rfl, B_48.out⟩
end Go.Proofs.Ytnaeekjocaecmaa
