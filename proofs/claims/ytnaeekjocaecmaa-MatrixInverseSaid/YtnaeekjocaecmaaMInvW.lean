/- The walk of MatrixInverse. -/
import Derived.Test.YtnaeekjocaecmaaMCall
namespace Go.Proofs.Ytnaeekjocaecmaa
open Go.RowKit

theorem pq_alike {n : Nat} {P Q : Mat} (h : Pair n P Q) : Alike n n (mm n P Q) dl := fun i j hi hj => h.pq i j hi hj
theorem qp_alike {n : Nat} {P Q : Mat} (h : Pair n P Q) : Alike n n (mm n Q P) dl := fun i j hi hj => h.qp i j hi hj
set_option maxRecDepth 20000 in
set_option maxHeartbeats 4000000 in
theorem Inverse_walk (n0 : Int) (a0 : Option Addr) (len cap : Nat) (l : List UInt8) (hn0 : -9223372036854775808 ≤ n0 ∧ n0 ≤ 9223372036854775807) (hll : len ≤ 1000000000000000) (w : World) (hl : Hand a0 len cap l w) :
    Calls Try.prog 6 #[.int .i64 n0, .slice a0 len cap] w fun e w' => e = .returned (.bool true) ∧ Below w.heap.size w w' := by
  obtain ⟨m, hm⟩ : ∃ m, m = 1 + pk n0 12 := ⟨_, rfl⟩
  have hm12 : 1 ≤ m ∧ m ≤ 12 := by have := pk_lt n0 12 (by decide); omega
  have hsum : (1 : Int) + (pk n0 12 : Int) = (m : Int) := by omega
  obtain ⟨N, hN⟩ : ∃ N, m * m = N := ⟨_, rfl⟩
  have hNm : N ≤ 1000000 := by rw [← hN]; exact Nat.le_trans (Nat.mul_le_mul hm12.2 hm12.2) (by decide)
  have HN := Lib.hid hN
  have L_0 := Lib.hid hl
  clear hm hN hl
  go_enter Try.func6, Try.ntmps6
  go_wp2_with fail
  refine (known_any _).mono ?_
  rintro e w1 ⟨rfl, hb1⟩
  have L_1 := Lib.hid (L_0.out.below (hb1) rfl)
  have B_1 := Lib.hid hb1
  clear L_0 hb1
  go_wp2_with fail
  refine (pick_any n0 12 (by decide) hn0 _).mono ?_
  rintro e w' ⟨rfl, rfl⟩
  go_wp2_with fail
  refine (tFilled m m N a0 len cap l (by omega) (by omega) HN.out hll _ L_1.out).mono ?_
  rintro e w2 ⟨g1, M, rfl, t0_2, hb2⟩
  have L_2 := Lib.hid (L_1.out.below (hb2) rfl)
  have B_3 := Lib.hid (B_1.out.trans ((hb2).mono B_1.out.size))
  have A_4 := Lib.hid t0_2
  clear L_1 B_1 t0_2 hb2
  go_wp2_with (refine wpList_store_whole rfl 24 _ _ rfl w2.heap.size [.int .i64 m, .int .i64 m, .slice (some ⟨g1, 0, none⟩) N N] zeroRow 24 rfl rfl (heap_alloc_new _ _) rfl (by kernel_rfl) (mv_ones _ _ _ _) ?_; intro w3 h3 k3 s3; have hs3 := after_box k3.out; have a_5 := Lib.hid ((BoxT.of h3.out k3.out A_4.out).1); have L_6 := Lib.hid (L_2.out.below (hs3) rfl); have B_7 := Lib.hid (B_3.out.trans ((hs3).mono B_3.out.size)); obtain ⟨c0_8, c1_8, c2_8⟩ := heap_cell0 a_5.out.box; clear L_2 B_3 A_4 hs3; go_frame)
  clear h3 k3 s3
  refine (tRank g1 m m N M (by omega) (by omega) (by omega) (by omega) HN.out _ a_5.out.tab).mono ?_
  rintro e w4 ⟨rfl, hb4⟩
  have L_9 := Lib.hid (L_6.out.below (hb4) rfl)
  have B_10 := Lib.hid (B_7.out.trans ((hb4).mono B_7.out.size))
  have a_11 := Lib.hid (a_5.out.below (hb4))
  clear L_6 B_7 a_5 hb4 c0_8 c1_8 c2_8
  obtain ⟨K, hK⟩ : ∃ K, K = rk m m M := ⟨_, rfl⟩
  have hKle : K ≤ m := by rw [hK]; exact rk_le _ _ _
  rw [← hK]
  have HK := Lib.hid hK
  clear hK
  by_cases hfull : K = m
  · have HF : Hid (rk m m M = m) := Lib.hid (by rw [← HK.out]; exact hfull)
    have HP := Lib.hid (inv_pair HF.out)
    have HI := Lib.hid (inv_inv HF.out)
    rw [hfull]
    clear hfull hKle HK
    obtain ⟨c0_12, c1_12, c2_12⟩ := heap_cell0 a_11.out.box
    go_wp2_with fail
    refine (tInvert_ok g1 m N M (by omega) (by omega) HN.out HF.out _ a_11.out.tab).mono ?_
    rintro e w5 ⟨g2, rfl, t0_5, hb5⟩
    have L_13 := Lib.hid (L_9.out.below (hb5) rfl)
    have B_14 := Lib.hid (B_10.out.trans ((hb5).mono B_10.out.size))
    have a_15 := Lib.hid (a_11.out.below (hb5))
    have Bt_16 := Lib.hid t0_5
    clear L_9 B_10 a_11 t0_5 hb5 c0_12 c1_12 c2_12
    go_wp2_with (refine wpList_store_whole rfl 24 _ _ rfl w5.heap.size [.int .i64 m, .int .i64 m, .slice (some ⟨g2, 0, none⟩) N N] zeroRow 24 rfl rfl (heap_alloc_new _ _) rfl (by kernel_rfl) (mv_ones _ _ _ _) ?_; intro w6 h6 k6 s6; have hs6 := after_box k6.out; have b_17 := Lib.hid ((BoxT.of h6.out k6.out Bt_16.out).1); have L_18 := Lib.hid (L_13.out.below (hs6) rfl); have B_19 := Lib.hid (B_14.out.trans ((hs6).mono B_14.out.size)); have a_20 := Lib.hid (a_15.out.below (hs6)); clear L_13 B_14 a_15 Bt_16 hs6; go_frame)
    clear h6 k6 s6
    refine (tIdent m N (by omega) (by omega) HN.out _).mono ?_
    rintro e w7 ⟨g3, rfl, t0_7, hb7⟩
    have L_21 := Lib.hid (L_18.out.below (hb7) rfl)
    have B_22 := Lib.hid (B_19.out.trans ((hb7).mono B_19.out.size))
    have a_23 := Lib.hid (a_20.out.below (hb7))
    have b_24 := Lib.hid (b_17.out.below (hb7))
    have It_25 := Lib.hid t0_7
    clear L_18 B_19 a_20 b_17 t0_7 hb7
    go_wp2_with (refine wpList_store_whole rfl 24 _ _ rfl w7.heap.size [.int .i64 m, .int .i64 m, .slice (some ⟨g3, 0, none⟩) N N] zeroRow 24 rfl rfl (heap_alloc_new _ _) rfl (by kernel_rfl) (mv_ones _ _ _ _) ?_; intro w8 h8 k8 s8; have hs8 := after_box k8.out; have i_26 := Lib.hid ((BoxT.of h8.out k8.out It_25.out).1); have L_27 := Lib.hid (L_21.out.below (hs8) rfl); have B_28 := Lib.hid (B_22.out.trans ((hs8).mono B_22.out.size)); have a_29 := Lib.hid (a_23.out.below (hs8)); have b_30 := Lib.hid (b_24.out.below (hs8)); obtain ⟨c0_31, c1_31, c2_31⟩ := heap_cell0 a_29.out.box; obtain ⟨c0_32, c1_32, c2_32⟩ := heap_cell0 b_30.out.box; clear L_21 B_22 a_23 b_24 It_25 hs8; go_frame)
    clear h8 k8 s8
    refine (tMul g1 g2 m m m N N N M (invM m M) (by omega) (by omega) (by omega) (by omega) (by omega) (by omega) HN.out HN.out HN.out _ a_29.out.tab b_30.out.tab).mono ?_
    rintro e w9 ⟨g4, rfl, t0_9, hb9⟩
    have L_33 := Lib.hid (L_27.out.below (hb9) rfl)
    have B_34 := Lib.hid (B_28.out.trans ((hb9).mono B_28.out.size))
    have a_35 := Lib.hid (a_29.out.below (hb9))
    have b_36 := Lib.hid (b_30.out.below (hb9))
    have i_37 := Lib.hid (i_26.out.below (hb9))
    have Xt_38 := Lib.hid t0_9
    clear L_27 B_28 a_29 b_30 i_26 t0_9 hb9 c0_31 c0_32 c1_31 c1_32 c2_31 c2_32
    go_wp2_with (refine wpList_store_whole rfl 24 _ _ rfl w9.heap.size [.int .i64 m, .int .i64 m, .slice (some ⟨g4, 0, none⟩) N N] zeroRow 24 rfl rfl (heap_alloc_new _ _) rfl (by kernel_rfl) (mv_ones _ _ _ _) ?_; intro w10 h10 k10 s10; have hs10 := after_box k10.out; have x_39 := Lib.hid ((BoxT.of h10.out k10.out Xt_38.out).1); have L_40 := Lib.hid (L_33.out.below (hs10) rfl); have B_41 := Lib.hid (B_34.out.trans ((hs10).mono B_34.out.size)); have a_42 := Lib.hid (a_35.out.below (hs10)); have b_43 := Lib.hid (b_36.out.below (hs10)); have i_44 := Lib.hid (i_37.out.below (hs10)); obtain ⟨c0_45, c1_45, c2_45⟩ := heap_cell0 b_43.out.box; obtain ⟨c0_46, c1_46, c2_46⟩ := heap_cell0 a_42.out.box; clear L_33 B_34 a_35 b_36 i_37 Xt_38 hs10; go_frame)
    clear h10 k10 s10
    refine (tMul g2 g1 m m m N N N (invM m M) M (by omega) (by omega) (by omega) (by omega) (by omega) (by omega) HN.out HN.out HN.out _ b_43.out.tab a_42.out.tab).mono ?_
    rintro e w11 ⟨g5, rfl, t0_11, hb11⟩
    have L_47 := Lib.hid (L_40.out.below (hb11) rfl)
    have B_48 := Lib.hid (B_41.out.trans ((hb11).mono B_41.out.size))
    have a_49 := Lib.hid (a_42.out.below (hb11))
    have b_50 := Lib.hid (b_43.out.below (hb11))
    have i_51 := Lib.hid (i_44.out.below (hb11))
    have x_52 := Lib.hid (x_39.out.below (hb11))
    have Yt_53 := Lib.hid t0_11
    clear L_40 B_41 a_42 b_43 i_44 x_39 t0_11 hb11 c0_45 c0_46 c1_45 c1_46 c2_45 c2_46
    go_wp2_with (refine wpList_store_whole rfl 24 _ _ rfl w11.heap.size [.int .i64 m, .int .i64 m, .slice (some ⟨g5, 0, none⟩) N N] zeroRow 24 rfl rfl (heap_alloc_new _ _) rfl (by kernel_rfl) (mv_ones _ _ _ _) ?_; intro w12 h12 k12 s12; have hs12 := after_box k12.out; have y_54 := Lib.hid ((BoxT.of h12.out k12.out Yt_53.out).1); have L_55 := Lib.hid (L_47.out.below (hs12) rfl); have B_56 := Lib.hid (B_48.out.trans ((hs12).mono B_48.out.size)); have a_57 := Lib.hid (a_49.out.below (hs12)); have b_58 := Lib.hid (b_50.out.below (hs12)); have i_59 := Lib.hid (i_51.out.below (hs12)); have x_60 := Lib.hid (x_52.out.below (hs12)); obtain ⟨c0_61, c1_61, c2_61⟩ := heap_cell0 x_60.out.box; obtain ⟨c0_62, c1_62, c2_62⟩ := heap_cell0 i_59.out.box; clear L_47 B_48 a_49 b_50 i_51 x_52 Yt_53 hs12; go_frame)
    clear h12 k12 s12
    refine (tSame g4 g3 m m N _ _ HN.out hNm (pq_alike HP.out) _ x_60.out.tab i_59.out.tab).mono ?_
    rintro e w13 ⟨rfl, hb13⟩
    have L_63 := Lib.hid (L_55.out.below (hb13) rfl)
    have B_64 := Lib.hid (B_56.out.trans ((hb13).mono B_56.out.size))
    have a_65 := Lib.hid (a_57.out.below (hb13))
    have b_66 := Lib.hid (b_58.out.below (hb13))
    have i_67 := Lib.hid (i_59.out.below (hb13))
    have x_68 := Lib.hid (x_60.out.below (hb13))
    have y_69 := Lib.hid (y_54.out.below (hb13))
    clear L_55 B_56 a_57 b_58 i_59 x_60 y_54 hb13 c0_61 c0_62 c1_61 c1_62 c2_61 c2_62
    obtain ⟨c0_70, c1_70, c2_70⟩ := heap_cell0 y_69.out.box
    obtain ⟨c0_71, c1_71, c2_71⟩ := heap_cell0 i_67.out.box
    go_wp2_with fail
    refine (tSame g5 g3 m m N _ _ HN.out hNm (qp_alike HP.out) _ y_69.out.tab i_67.out.tab).mono ?_
    rintro e w14 ⟨rfl, hb14⟩
    have L_72 := Lib.hid (L_63.out.below (hb14) rfl)
    have B_73 := Lib.hid (B_64.out.trans ((hb14).mono B_64.out.size))
    have a_74 := Lib.hid (a_65.out.below (hb14))
    have b_75 := Lib.hid (b_66.out.below (hb14))
    have i_76 := Lib.hid (i_67.out.below (hb14))
    have x_77 := Lib.hid (x_68.out.below (hb14))
    have y_78 := Lib.hid (y_69.out.below (hb14))
    clear L_63 B_64 a_65 b_66 i_67 x_68 y_69 hb14 c0_70 c0_71 c1_70 c1_71 c2_70 c2_71
    obtain ⟨c0_79, c1_79, c2_79⟩ := heap_cell0 b_75.out.box
    go_wp2_with fail
    refine (tInvert_ok g2 m N _ (by omega) (by omega) HN.out HI.out.1 _ b_75.out.tab).mono ?_
    rintro e w15 ⟨g6, rfl, t0_15, hb15⟩
    have L_80 := Lib.hid (L_72.out.below (hb15) rfl)
    have B_81 := Lib.hid (B_73.out.trans ((hb15).mono B_73.out.size))
    have a_82 := Lib.hid (a_74.out.below (hb15))
    have b_83 := Lib.hid (b_75.out.below (hb15))
    have i_84 := Lib.hid (i_76.out.below (hb15))
    have x_85 := Lib.hid (x_77.out.below (hb15))
    have y_86 := Lib.hid (y_78.out.below (hb15))
    have Kt_87 := Lib.hid t0_15
    clear L_72 B_73 a_74 b_75 i_76 x_77 y_78 t0_15 hb15 c0_79 c1_79 c2_79
    go_wp2_with (refine wpList_store_whole rfl 24 _ _ rfl w15.heap.size [.int .i64 m, .int .i64 m, .slice (some ⟨g6, 0, none⟩) N N] zeroRow 24 rfl rfl (heap_alloc_new _ _) rfl (by kernel_rfl) (mv_ones _ _ _ _) ?_; intro w16 h16 k16 s16; have hs16 := after_box k16.out; have k_88 := Lib.hid ((BoxT.of h16.out k16.out Kt_87.out).1); have L_89 := Lib.hid (L_80.out.below (hs16) rfl); have B_90 := Lib.hid (B_81.out.trans ((hs16).mono B_81.out.size)); have a_91 := Lib.hid (a_82.out.below (hs16)); have b_92 := Lib.hid (b_83.out.below (hs16)); have i_93 := Lib.hid (i_84.out.below (hs16)); have x_94 := Lib.hid (x_85.out.below (hs16)); have y_95 := Lib.hid (y_86.out.below (hs16)); obtain ⟨c0_96, c1_96, c2_96⟩ := heap_cell0 k_88.out.box; obtain ⟨c0_97, c1_97, c2_97⟩ := heap_cell0 a_91.out.box; clear L_80 B_81 a_82 b_83 i_84 x_85 y_86 Kt_87 hs16; go_frame)
    clear h16 k16 s16
    refine (tSame g6 g1 m m N _ _ HN.out hNm HI.out.2 _ k_88.out.tab a_91.out.tab).mono ?_
    rintro e w17 ⟨rfl, hb17⟩
    have L_98 := Lib.hid (L_89.out.below (hb17) rfl)
    have B_99 := Lib.hid (B_90.out.trans ((hb17).mono B_90.out.size))
    have a_100 := Lib.hid (a_91.out.below (hb17))
    have b_101 := Lib.hid (b_92.out.below (hb17))
    have i_102 := Lib.hid (i_93.out.below (hb17))
    have x_103 := Lib.hid (x_94.out.below (hb17))
    have y_104 := Lib.hid (y_95.out.below (hb17))
    have k_105 := Lib.hid (k_88.out.below (hb17))
    clear L_89 B_90 a_91 b_92 i_93 x_94 y_95 k_88 hb17 c0_96 c0_97 c1_96 c1_97 c2_96 c2_97
    go_wp2_with fail
    go_ret
    exact ⟨rfl, B_99.out⟩
  · have HF : Hid (rk m m M ≠ m) := Lib.hid (by rw [← HK.out]; exact hfull)
    have hlt : K < m := by omega
    clear hfull HK
    obtain ⟨c0_12, c1_12, c2_12⟩ := heap_cell0 a_11.out.box
    go_wp2_with fail
    refine (tInvert_no g1 m N M (by omega) (by omega) HN.out HF.out _ a_11.out.tab).mono ?_
    rintro e w5 ⟨g2, rfl, t0_5, hb5⟩
    have L_13 := Lib.hid (L_9.out.below (hb5) rfl)
    have B_14 := Lib.hid (B_10.out.trans ((hb5).mono B_10.out.size))
    have a_15 := Lib.hid (a_11.out.below (hb5))
    have Ft_16 := Lib.hid t0_5
    clear L_9 B_10 a_11 t0_5 hb5 c0_12 c1_12 c2_12
    unfold noneV faultV
    go_wp2_with (refine wpList_store_whole rfl 24 _ _ rfl w5.heap.size zeroRow zeroRow 24 rfl rfl (heap_alloc_new _ _) rfl (by kernel_rfl) (by decide) ?_; intro w6 h6 k6 s6; have hs6 := after_box k6.out; have L_17 := Lib.hid (L_13.out.below (hs6) rfl); have B_18 := Lib.hid (B_14.out.trans ((hs6).mono B_14.out.size)); have a_19 := Lib.hid (a_15.out.below (hs6)); have Ft_20 := Lib.hid (Ft_16.out.keep ((hs6).block _ Ft_16.out.lt)); clear L_13 B_14 a_15 Ft_16 hs6; go_frame)
    clear h6 k6 s6
    refine (is_fault g2 18 (by decide) _ Ft_20.out).mono ?_
    rintro e w' ⟨rfl, rfl⟩
    go_wp2_with fail
    go_ret
    exact ⟨rfl, B_18.out⟩
end Go.Proofs.Ytnaeekjocaecmaa
