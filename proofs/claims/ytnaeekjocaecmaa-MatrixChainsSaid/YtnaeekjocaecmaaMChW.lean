/- The walk of MatrixChains. -/
import Derived.Test.YtnaeekjocaecmaaMChC
namespace Go.Proofs.Ytnaeekjocaecmaa
open Go.RowKit

attribute [local go_sem high] run_index_byte
set_option maxRecDepth 20000 in
set_option maxHeartbeats 6000000 in
theorem Chains_walk (y : Nat → Int) (a1 : Option Addr) (len1 cap1 : Nat) (l1 : List UInt8) (a2 : Option Addr) (len2 cap2 : Nat) (l2 : List UInt8) (a3 : Option Addr) (len3 cap3 : Nat) (l3 : List UInt8) (a4 : Option Addr) (len4 cap4 : Nat) (f : Nat → ByteArray)
    (hy : ∀ j, -9223372036854775808 ≤ y j ∧ y j ≤ 9223372036854775807) (hq1 : len1 ≤ 1000000000000000) (hq2 : len2 ≤ 1000000000000000) (hq3 : len3 ≤ 1000000000000000) (w : World) (hx1 : Hand a1 len1 cap1 l1 w) (hx2 : Hand a2 len2 cap2 l2 w) (hx3 : Hand a3 len3 cap3 l3 w) (hx4 : 0 < len4 → ∃ b o, a4 = some ⟨b, o, none⟩ ∧ b < w.heap.size ∧ Texts b o len4 f w) :
    Calls Try.prog 8 #[.agg #[.int .i64 (y 0), .int .i64 (y 1), .int .i64 (y 2), .int .i64 (y 3)], .slice a1 len1 cap1, .slice a2 len2 cap2, .slice a3 len3 cap3, .slice a4 len4 cap4] w fun e w' => e = .returned (.bool true) ∧ Below w.heap.size w w' := by
  obtain ⟨n, hn⟩ : ∃ n : Nat → Nat, n = fun j => 1 + pk (y j) 6 := ⟨_, rfl⟩
  have hn6 : ∀ j, 1 ≤ n j ∧ n j ≤ 6 := fun j => by rw [hn]; have := pk_lt (y j) 6 (by decide); show 1 ≤ 1 + pk (y j) 6 ∧ 1 + pk (y j) 6 ≤ 6; omega
  have hns : ∀ j, (1 : Int) + (pk (y j) 6 : Int) = (n j : Int) := fun j => by rw [hn]; show _ = ((1 + pk (y j) 6 : Nat) : Int); omega
  have HY := Lib.hid hy
  have HN6 := Lib.hid hn6
  have HNS := Lib.hid hns
  have X1 := Lib.hid hx1
  have X2 := Lib.hid hx2
  have X3 := Lib.hid hx3
  have X4 := Lib.hid hx4
  obtain ⟨wa, hwa⟩ : ∃ wa, wa = w.alloc (.cells #[.int .i64 (y 0), .int .i64 (y 1), .int .i64 (y 2), .int .i64 (y 3)] 61) := ⟨_, rfl⟩
  have B_0 : Hid (Below w.heap.size w wa) := Lib.hid (by rw [hwa]; exact below_alloc _ _)
  have P_0 : Hid (wa.heap[w.heap.size]? = some (.cells [Value.int .i64 (y 0), .int .i64 (y 1), .int .i64 (y 2), .int .i64 (y 3)].toArray 61 (0, 0))) := Lib.hid (by rw [hwa]; exact heap_alloc_new _ _)
  have HWA := Lib.hid hwa
  clear hn hn6 hns hy hx1 hx2 hx3 hx4 hwa
  go_enter Try.func8, Try.ntmps8
  go_wp2_with fail
  rw [← HWA.out]
  clear HWA
  refine (known_any _).mono ?_
  rintro e w1 ⟨rfl, hb1⟩
  have B_1 := Lib.hid (B_0.out.trans (hb1.mono B_0.out.size))
  have P_1 := Lib.hid ((hb1.block _ (lt_of_heap P_0.out)).trans P_0.out)
  clear B_0 P_0 hb1
  go_wp2_with fail
  have HA0 : Hid (Arr4 w.heap.size w1.heap.size y n 0 w (w1.alloc (.cells #[.int .i64 0, .int .i64 0, .int .i64 0, .int .i64 0] 61))) := Lib.hid
    ⟨(heap_alloc_old _ _ (lt_of_heap P_1.out)).trans P_1.out, heap_alloc_new _ _, B_1.out.alloc B_1.out.size _, lt_of_heap P_1.out, Nat.le_refl _⟩
  obtain ⟨BN, hBN⟩ : ∃ BN, BN = w1.heap.size := ⟨_, rfl⟩
  rw [← hBN] at HA0 ⊢
  clear B_1 P_1 hBN
  go_loopw [13] (fun iv wr => ∃ i : Nat, i ≤ 4 ∧ iv = .int .i64 i ∧ Arr4 w.heap.size BN y n i w wr) (fun iv _ => 4 - (intOf iv).toNat)
  case atStart => exact ⟨0, by omega, rfl, HA0.out⟩
  case round =>
    clear HA0
    obtain ⟨i, hi, rfl, hA⟩ := hrel
    have HA := Lib.hid hA
    clear hA
    by_cases hlt : i < 4
    · have cs := HA.out.cell hlt
      have hcell : ∃ x, wr.cell? ⟨BN, i, none⟩ = some x := ⟨_, by rw [cell_of_list HA.out.arr, arrTo_get n i i hlt]⟩
      obtain ⟨x9, hcell⟩ := hcell
      have hfree := free_of_list HA.out.arr i
      have HP := Lib.hid (pick_any (y i) 6 (by decide) (HY.out i))
      have hpl := pk_lt (y i) 6 (by decide)
      have hsum := HNS.out i
      have HX := Lib.hid HA.out.set
      obtain ⟨ni, hni⟩ : ∃ ni, n i = ni := ⟨_, rfl⟩
      rw [hni] at HX hsum
      clear hni
      go_wp2_with fail
      refine (HP.out _).mono ?_
      rintro e w' ⟨rfl, rfl⟩
      go_wp2_with fail
      go_roundw
      case rel => exact ⟨i + 1, by omega, by go_num, HX.out⟩
      case measure => simp [intOf]; omega
    · obtain rfl : i = 4 := by omega
      obtain ⟨n0, h0⟩ : ∃ a, a = n 0 := ⟨_, rfl⟩
      obtain ⟨n1, h1⟩ : ∃ a, a = n 1 := ⟨_, rfl⟩
      obtain ⟨n2, h2⟩ : ∃ a, a = n 2 := ⟨_, rfl⟩
      obtain ⟨n3, h3⟩ : ∃ a, a = n 3 := ⟨_, rfl⟩
      have b0 : 1 ≤ n0 ∧ n0 ≤ 6 := by rw [h0]; exact HN6.out 0
      have b1 : 1 ≤ n1 ∧ n1 ≤ 6 := by rw [h1]; exact HN6.out 1
      have b2 : 1 ≤ n2 ∧ n2 ≤ 6 := by rw [h2]; exact HN6.out 2
      have b3 : 1 ≤ n3 ∧ n3 ≤ 6 := by rw [h3]; exact HN6.out 3
      have N_0 : Hid (Box4 BN n0 n1 n2 n3 wr) := Lib.hid (by rw [h0, h1, h2, h3]; exact HA.out.all)
      have B_2 : Hid (Below w.heap.size w wr) := Lib.hid HA.out.old
      obtain ⟨N01, hN01⟩ : ∃ N, n0 * n1 = N := ⟨_, rfl⟩
      obtain ⟨N12, hN12⟩ : ∃ N, n1 * n2 = N := ⟨_, rfl⟩
      obtain ⟨N23, hN23⟩ : ∃ N, n2 * n3 = N := ⟨_, rfl⟩
      obtain ⟨N02, hN02⟩ : ∃ N, n0 * n2 = N := ⟨_, rfl⟩
      obtain ⟨N13, hN13⟩ : ∃ N, n1 * n3 = N := ⟨_, rfl⟩
      obtain ⟨N03, hN03⟩ : ∃ N, n0 * n3 = N := ⟨_, rfl⟩
      have H01 := Lib.hid hN01
      have H12 := Lib.hid hN12
      have H23 := Lib.hid hN23
      have H02 := Lib.hid hN02
      have H13 := Lib.hid hN13
      have H03 := Lib.hid hN03
      obtain ⟨wq, hwq⟩ : ∃ wq, wq = wr := ⟨_, rfl⟩
      rw [← hwq] at N_0 B_2 ⊢
      clear HA h0 h1 h2 h3 hN01 hN12 hN23 hN02 hN13 hN03 hwq HN6 HNS HY hlt hi
      obtain ⟨d0_1, d1_1, d2_1, d3_1⟩ := heap_cell4 N_0.out.box
      go_wp2_with fail
      refine (tFilled n0 n1 N01 a1 len1 cap1 l1 (by omega) (by omega) H01.out hq1 _ (X1.out.below B_2.out rfl)).mono ?_
      rintro e w11 ⟨g1, M1, rfl, t0_11, hb11⟩
      have N_2 := Lib.hid (N_0.out.below (hb11))
      have B_3 := Lib.hid (B_2.out.trans ((hb11).mono B_2.out.size))
      have At_4 := Lib.hid t0_11
      clear N_0 B_2 t0_11 hb11 d0_1 d1_1 d2_1 d3_1
      go_wp2_with (refine wpList_store_whole rfl 24 _ _ rfl w11.heap.size [.int .i64 n0, .int .i64 n1, .slice (some ⟨g1, 0, none⟩) N01 N01] zeroRow 24 rfl rfl (heap_alloc_new _ _) rfl (by kernel_rfl) (mv_ones _ _ _ _) ?_; intro w12 h12 k12 s12; have hs12 := after_box k12.out; have a_5 := Lib.hid ((BoxT.of h12.out k12.out At_4.out).1); have N_6 := Lib.hid (N_2.out.below (hs12)); have B_7 := Lib.hid (B_3.out.trans ((hs12).mono B_3.out.size)); obtain ⟨d0_8, d1_8, d2_8, d3_8⟩ := heap_cell4 N_6.out.box; clear N_2 B_3 At_4 hs12; go_frame)
      clear h12 k12 s12
      refine (tFilled n1 n2 N12 a2 len2 cap2 l2 (by omega) (by omega) H12.out hq2 _ (X2.out.below B_7.out rfl)).mono ?_
      rintro e w13 ⟨g2, M2, rfl, t0_13, hb13⟩
      have N_9 := Lib.hid (N_6.out.below (hb13))
      have B_10 := Lib.hid (B_7.out.trans ((hb13).mono B_7.out.size))
      have a_11 := Lib.hid (a_5.out.below (hb13))
      have Bt_12 := Lib.hid t0_13
      clear N_6 B_7 a_5 t0_13 hb13 d0_8 d1_8 d2_8 d3_8
      go_wp2_with (refine wpList_store_whole rfl 24 _ _ rfl w13.heap.size [.int .i64 n1, .int .i64 n2, .slice (some ⟨g2, 0, none⟩) N12 N12] zeroRow 24 rfl rfl (heap_alloc_new _ _) rfl (by kernel_rfl) (mv_ones _ _ _ _) ?_; intro w14 h14 k14 s14; have hs14 := after_box k14.out; have b_13 := Lib.hid ((BoxT.of h14.out k14.out Bt_12.out).1); have N_14 := Lib.hid (N_9.out.below (hs14)); have B_15 := Lib.hid (B_10.out.trans ((hs14).mono B_10.out.size)); have a_16 := Lib.hid (a_11.out.below (hs14)); obtain ⟨d0_17, d1_17, d2_17, d3_17⟩ := heap_cell4 N_14.out.box; clear N_9 B_10 a_11 Bt_12 hs14; go_frame)
      clear h14 k14 s14
      refine (tFilled n2 n3 N23 a3 len3 cap3 l3 (by omega) (by omega) H23.out hq3 _ (X3.out.below B_15.out rfl)).mono ?_
      rintro e w15 ⟨g3, M3, rfl, t0_15, hb15⟩
      have N_18 := Lib.hid (N_14.out.below (hb15))
      have B_19 := Lib.hid (B_15.out.trans ((hb15).mono B_15.out.size))
      have a_20 := Lib.hid (a_16.out.below (hb15))
      have b_21 := Lib.hid (b_13.out.below (hb15))
      have Ct_22 := Lib.hid t0_15
      clear N_14 B_15 a_16 b_13 t0_15 hb15 d0_17 d1_17 d2_17 d3_17
      go_wp2_with (refine wpList_store_whole rfl 24 _ _ rfl w15.heap.size [.int .i64 n2, .int .i64 n3, .slice (some ⟨g3, 0, none⟩) N23 N23] zeroRow 24 rfl rfl (heap_alloc_new _ _) rfl (by kernel_rfl) (mv_ones _ _ _ _) ?_; intro w16 h16 k16 s16; have hs16 := after_box k16.out; have c_23 := Lib.hid ((BoxT.of h16.out k16.out Ct_22.out).1); have N_24 := Lib.hid (N_18.out.below (hs16)); have B_25 := Lib.hid (B_19.out.trans ((hs16).mono B_19.out.size)); have a_26 := Lib.hid (a_20.out.below (hs16)); have b_27 := Lib.hid (b_21.out.below (hs16)); obtain ⟨c0_28, c1_28, c2_28⟩ := heap_cell0 a_26.out.box; obtain ⟨c0_29, c1_29, c2_29⟩ := heap_cell0 b_27.out.box; clear N_18 B_19 a_20 b_21 Ct_22 hs16; go_frame)
      clear h16 k16 s16
      refine (tMul g1 g2 n0 n1 n2 N01 N12 N02 M1 M2 (by omega) (by omega) (by omega) (by omega) (by omega) (by omega) H01.out H12.out H02.out _ a_26.out.tab b_27.out.tab).mono ?_
      rintro e w17 ⟨g4, rfl, t0_17, hb17⟩
      have N_30 := Lib.hid (N_24.out.below (hb17))
      have B_31 := Lib.hid (B_25.out.trans ((hb17).mono B_25.out.size))
      have a_32 := Lib.hid (a_26.out.below (hb17))
      have b_33 := Lib.hid (b_27.out.below (hb17))
      have c_34 := Lib.hid (c_23.out.below (hb17))
      have ABt_35 := Lib.hid t0_17
      clear N_24 B_25 a_26 b_27 c_23 t0_17 hb17 c0_28 c0_29 c1_28 c1_29 c2_28 c2_29
      go_wp2_with (refine wpList_store_whole rfl 24 _ _ rfl w17.heap.size [.int .i64 n0, .int .i64 n2, .slice (some ⟨g4, 0, none⟩) N02 N02] zeroRow 24 rfl rfl (heap_alloc_new _ _) rfl (by kernel_rfl) (mv_ones _ _ _ _) ?_; intro w18 h18 k18 s18; have hs18 := after_box k18.out; have ab_36 := Lib.hid ((BoxT.of h18.out k18.out ABt_35.out).1); have N_37 := Lib.hid (N_30.out.below (hs18)); have B_38 := Lib.hid (B_31.out.trans ((hs18).mono B_31.out.size)); have a_39 := Lib.hid (a_32.out.below (hs18)); have b_40 := Lib.hid (b_33.out.below (hs18)); have c_41 := Lib.hid (c_34.out.below (hs18)); obtain ⟨c0_42, c1_42, c2_42⟩ := heap_cell0 b_40.out.box; obtain ⟨c0_43, c1_43, c2_43⟩ := heap_cell0 c_41.out.box; clear N_30 B_31 a_32 b_33 c_34 ABt_35 hs18; go_frame)
      clear h18 k18 s18
      refine (tMul g2 g3 n1 n2 n3 N12 N23 N13 M2 M3 (by omega) (by omega) (by omega) (by omega) (by omega) (by omega) H12.out H23.out H13.out _ b_40.out.tab c_41.out.tab).mono ?_
      rintro e w19 ⟨g5, rfl, t0_19, hb19⟩
      have N_44 := Lib.hid (N_37.out.below (hb19))
      have B_45 := Lib.hid (B_38.out.trans ((hb19).mono B_38.out.size))
      have a_46 := Lib.hid (a_39.out.below (hb19))
      have b_47 := Lib.hid (b_40.out.below (hb19))
      have c_48 := Lib.hid (c_41.out.below (hb19))
      have ab_49 := Lib.hid (ab_36.out.below (hb19))
      have BCt_50 := Lib.hid t0_19
      clear N_37 B_38 a_39 b_40 c_41 ab_36 t0_19 hb19 c0_42 c0_43 c1_42 c1_43 c2_42 c2_43
      go_wp2_with (refine wpList_store_whole rfl 24 _ _ rfl w19.heap.size [.int .i64 n1, .int .i64 n3, .slice (some ⟨g5, 0, none⟩) N13 N13] zeroRow 24 rfl rfl (heap_alloc_new _ _) rfl (by kernel_rfl) (mv_ones _ _ _ _) ?_; intro w20 h20 k20 s20; have hs20 := after_box k20.out; have bc_51 := Lib.hid ((BoxT.of h20.out k20.out BCt_50.out).1); have N_52 := Lib.hid (N_44.out.below (hs20)); have B_53 := Lib.hid (B_45.out.trans ((hs20).mono B_45.out.size)); have a_54 := Lib.hid (a_46.out.below (hs20)); have b_55 := Lib.hid (b_47.out.below (hs20)); have c_56 := Lib.hid (c_48.out.below (hs20)); have ab_57 := Lib.hid (ab_49.out.below (hs20)); obtain ⟨c0_58, c1_58, c2_58⟩ := heap_cell0 ab_57.out.box; obtain ⟨c0_59, c1_59, c2_59⟩ := heap_cell0 c_56.out.box; clear N_44 B_45 a_46 b_47 c_48 ab_49 BCt_50 hs20; go_frame)
      clear h20 k20 s20
      refine (tMul g4 g3 n0 n2 n3 N02 N23 N03 (mm n1 M1 M2) M3 (by omega) (by omega) (by omega) (by omega) (by omega) (by omega) H02.out H23.out H03.out _ ab_57.out.tab c_56.out.tab).mono ?_
      rintro e w21 ⟨g6, rfl, t0_21, hb21⟩
      have N_60 := Lib.hid (N_52.out.below (hb21))
      have B_61 := Lib.hid (B_53.out.trans ((hb21).mono B_53.out.size))
      have a_62 := Lib.hid (a_54.out.below (hb21))
      have b_63 := Lib.hid (b_55.out.below (hb21))
      have c_64 := Lib.hid (c_56.out.below (hb21))
      have ab_65 := Lib.hid (ab_57.out.below (hb21))
      have bc_66 := Lib.hid (bc_51.out.below (hb21))
      have Lt_67 := Lib.hid t0_21
      clear N_52 B_53 a_54 b_55 c_56 ab_57 bc_51 t0_21 hb21 c0_58 c0_59 c1_58 c1_59 c2_58 c2_59
      go_wp2_with (refine wpList_store_whole rfl 24 _ _ rfl w21.heap.size [.int .i64 n0, .int .i64 n3, .slice (some ⟨g6, 0, none⟩) N03 N03] zeroRow 24 rfl rfl (heap_alloc_new _ _) rfl (by kernel_rfl) (mv_ones _ _ _ _) ?_; intro w22 h22 k22 s22; have hs22 := after_box k22.out; have l_68 := Lib.hid ((BoxT.of h22.out k22.out Lt_67.out).1); have N_69 := Lib.hid (N_60.out.below (hs22)); have B_70 := Lib.hid (B_61.out.trans ((hs22).mono B_61.out.size)); have a_71 := Lib.hid (a_62.out.below (hs22)); have b_72 := Lib.hid (b_63.out.below (hs22)); have c_73 := Lib.hid (c_64.out.below (hs22)); have ab_74 := Lib.hid (ab_65.out.below (hs22)); have bc_75 := Lib.hid (bc_66.out.below (hs22)); obtain ⟨c0_76, c1_76, c2_76⟩ := heap_cell0 a_71.out.box; obtain ⟨c0_77, c1_77, c2_77⟩ := heap_cell0 bc_75.out.box; clear N_60 B_61 a_62 b_63 c_64 ab_65 bc_66 Lt_67 hs22; go_frame)
      clear h22 k22 s22
      refine (tMul g1 g5 n0 n1 n3 N01 N13 N03 M1 (mm n2 M2 M3) (by omega) (by omega) (by omega) (by omega) (by omega) (by omega) H01.out H13.out H03.out _ a_71.out.tab bc_75.out.tab).mono ?_
      rintro e w23 ⟨g7, rfl, t0_23, hb23⟩
      have N_78 := Lib.hid (N_69.out.below (hb23))
      have B_79 := Lib.hid (B_70.out.trans ((hb23).mono B_70.out.size))
      have a_80 := Lib.hid (a_71.out.below (hb23))
      have b_81 := Lib.hid (b_72.out.below (hb23))
      have c_82 := Lib.hid (c_73.out.below (hb23))
      have ab_83 := Lib.hid (ab_74.out.below (hb23))
      have bc_84 := Lib.hid (bc_75.out.below (hb23))
      have l_85 := Lib.hid (l_68.out.below (hb23))
      have Rt_86 := Lib.hid t0_23
      clear N_69 B_70 a_71 b_72 c_73 ab_74 bc_75 l_68 t0_23 hb23 c0_76 c0_77 c1_76 c1_77 c2_76 c2_77
      go_wp2_with (refine wpList_store_whole rfl 24 _ _ rfl w23.heap.size [.int .i64 n0, .int .i64 n3, .slice (some ⟨g7, 0, none⟩) N03 N03] zeroRow 24 rfl rfl (heap_alloc_new _ _) rfl (by kernel_rfl) (mv_ones _ _ _ _) ?_; intro w24 h24 k24 s24; have hs24 := after_box k24.out; have r_87 := Lib.hid ((BoxT.of h24.out k24.out Rt_86.out).1); have N_88 := Lib.hid (N_78.out.below (hs24)); have B_89 := Lib.hid (B_79.out.trans ((hs24).mono B_79.out.size)); have a_90 := Lib.hid (a_80.out.below (hs24)); have b_91 := Lib.hid (b_81.out.below (hs24)); have ab_92 := Lib.hid (ab_83.out.below (hs24)); have l_93 := Lib.hid (l_85.out.below (hs24)); obtain ⟨c0_94, c1_94, c2_94⟩ := heap_cell0 l_93.out.box; obtain ⟨c0_95, c1_95, c2_95⟩ := heap_cell0 r_87.out.box; clear N_78 B_79 a_80 b_81 ab_83 l_85 Rt_86 hs24; go_frame)
      clear h24 k24 s24
      refine (tSame g6 g7 n0 n3 N03 _ _ H03.out (by have := mul_le (show n0 ≤ 255 by omega) (show n3 ≤ 255 by omega) H03.out; omega) (fun i j _ _ => mm_assoc n2 n1 M1 M2 M3 i j) _ l_93.out.tab r_87.out.tab).mono ?_
      rintro e w25 ⟨rfl, hb25⟩
      have N_96 := Lib.hid (N_88.out.below (hb25))
      have B_97 := Lib.hid (B_89.out.trans ((hb25).mono B_89.out.size))
      have a_98 := Lib.hid (a_90.out.below (hb25))
      have b_99 := Lib.hid (b_91.out.below (hb25))
      have ab_100 := Lib.hid (ab_92.out.below (hb25))
      have l_101 := Lib.hid (l_93.out.below (hb25))
      have r_102 := Lib.hid (r_87.out.below (hb25))
      clear N_88 B_89 a_90 b_91 ab_92 l_93 r_87 hb25 c0_94 c0_95 c1_94 c1_95 c2_94 c2_95
      go_wp2_with fail
      obtain ⟨S0, hS0⟩ : ∃ S0, S0 = w25 := ⟨_, rfl⟩
      rw [← hS0] at a_98 b_99 ab_100 N_96 B_97 ⊢
      clear hS0
      go_loopw [26, 27] (fun cv iv wr => ∃ (i : Nat) (l : List ByteArray), i ≤ n2 ∧ iv = .int .i64 i ∧ ColS S0 i cv l wr) (fun _ iv _ => n2 - (intOf iv).toNat)
      case atStart => exact ⟨0, [], by omega, rfl, ⟨OwnT.nil _ _, Below.refl _ _, rfl, fun s hs => by cases hs⟩⟩
      case round =>
        obtain ⟨i, l, hi, rfl, hC⟩ := hrel
        have HC := Lib.hid hC
        obtain ⟨d0, d1, d2, d3⟩ := heap_cell4 (N_96.out.below hC.old).box
        clear hC
        by_cases hlt : i < n2
        · obtain ⟨w6, hw6⟩ : ∃ w6, w6 = wr := ⟨_, rfl⟩
          rw [← hw6] at HC d0 d1 d2 d3 ⊢
          clear hw6
          have kc := conv_const
          go_wp2_with fail
          clear kc
          have HT0 : Hid (Txt8 w6.heap.size w6 (w6.alloc (.cells (([97, 98, 99, 100, 101, 102, 103, 104] : List UInt8).map u8v).toArray 5 (8, 9)))) := Lib.hid ⟨⟨_, rfl, heap_alloc_new _ _⟩, below_alloc _ _, Nat.le_refl _⟩
          obtain ⟨g, hg⟩ : ∃ g, g = w6.heap.size := ⟨_, rfl⟩
          rw [← hg] at HT0 ⊢
          have HG := Lib.hid hg
          clear hg d0 d1 d2 d3
          go_loopw [29] (fun kv wr => ∃ k : Nat, k ≤ 8 ∧ kv = .int .i64 k ∧ Txt8 g w6 wr) (fun kv _ => 8 - (intOf kv).toNat)
          case atStart => exact ⟨0, by omega, rfl, HT0.out⟩
          case round =>
            clear HT0
            obtain ⟨k, hk, rfl, hT⟩ := hrel
            have HT := Lib.hid hT
            clear hT
            by_cases hil : i < len4
            · obtain ⟨b, o, rfl, hbl, hin⟩ := X4.out (by omega)
              have BB : Below w.heap.size w wr := B_97.out.trans ((HC.out.old.trans (HT.out.old.mono HC.out.old.size)).mono B_97.out.size)
              have ct : wr.cell? ⟨b, o + i, none⟩ = some (.string (f i)) := (BB.cell (p := ⟨b, o + i, none⟩) hbl).trans (hin i hil)
              clear BB hin
              obtain ⟨s0, hs0⟩ : ∃ s, f i = s := ⟨_, rfl⟩
              rw [hs0] at ct
              clear hs0
              by_cases hk8 : k < 8
              · by_cases hks : k < s0.size
                · have hcell : ∃ x, wr.cell? ⟨g, k, none⟩ = some x := by
                    obtain ⟨ys, hys, hc⟩ := HT.out.cells
                    exact ⟨u8v (ys[k]'(by omega)), by rw [cell_of_list hc, List.getElem?_map, List.getElem?_eq_getElem (by omega)]; rfl⟩
                  obtain ⟨x9, hcell⟩ := hcell
                  have hfree := HT.out.free hk8
                  have HX := Lib.hid (HT.out.set k (strAt s0 k))
                  go_wp2_with fail
                  go_roundw
                  case rel => exact ⟨k + 1, by omega, by go_num, HX.out⟩
                  case measure => simp [intOf]; omega
                · obtain ⟨s, hs, hcv⟩ := HT.out.text
                  have HSS := Lib.hid hs
                  clear hs
                  have OW := Lib.hid (HC.out.own.below HT.out.old)
                  have SZ : S0.heap.size ≤ wr.heap.size := Nat.le_trans HC.out.old.size HT.out.old.size
                  have hlen := HC.out.len
                  go_wp2_with (refine wpList_append_strs rfl (.tmp 130) (.tmp 133) rfl S0.heap.size _ l rfl (OW.out.alloc _) ⟨wr.heap.size, 0, none⟩ 1 1 [s] rfl rfl (one_str wr s) (by omega) (by simp; omega) ?_; intro v' w' ho hg; go_frame)
                  have HX := Lib.hid (HC.out.step HT.out HSS.out _ ho.out hg.out)
                  go_roundw
                  case rel => exact ⟨i + 1, _, by omega, by go_num, HX.out⟩
                  case measure => simp [intOf]; omega
              · obtain rfl : k = 8 := by omega
                obtain ⟨s, hs, hcv⟩ := HT.out.text
                have HSS := Lib.hid hs
                clear hs
                have OW := Lib.hid (HC.out.own.below HT.out.old)
                have SZ : S0.heap.size ≤ wr.heap.size := Nat.le_trans HC.out.old.size HT.out.old.size
                have hlen := HC.out.len
                go_wp2_with (refine wpList_append_strs rfl (.tmp 130) (.tmp 133) rfl S0.heap.size _ l rfl (OW.out.alloc _) ⟨wr.heap.size, 0, none⟩ 1 1 [s] rfl rfl (one_str wr s) (by omega) (by simp; omega) ?_; intro v' w' ho hg; go_frame)
                have HX := Lib.hid (HC.out.step HT.out HSS.out _ ho.out hg.out)
                go_roundw
                case rel => exact ⟨i + 1, _, by omega, by go_num, HX.out⟩
                case measure => simp [intOf]; omega
            · obtain ⟨s, hs, hcv⟩ := HT.out.text
              have HSS := Lib.hid hs
              clear hs
              have OW := Lib.hid (HC.out.own.below HT.out.old)
              have SZ : S0.heap.size ≤ wr.heap.size := Nat.le_trans HC.out.old.size HT.out.old.size
              have hlen := HC.out.len
              go_wp2_with (refine wpList_append_strs rfl (.tmp 130) (.tmp 133) rfl S0.heap.size _ l rfl (OW.out.alloc _) ⟨wr.heap.size, 0, none⟩ 1 1 [s] rfl rfl (one_str wr s) (by omega) (by simp; omega) ?_; intro v' w' ho hg; go_frame)
              have HX := Lib.hid (HC.out.step HT.out HSS.out _ ho.out hg.out)
              go_roundw
              case rel => exact ⟨i + 1, _, by omega, by go_num, HX.out⟩
              case measure => simp [intOf]; omega
        · have hin2 : n2 = i := by omega
          subst hin2
          have hll := HC.out.len
          obtain ⟨g8, cap8, rfl, hcap8, hg8, hg8l⟩ := HC.out.own.form (by omega)
          have T0 : Hid (ColT g8 n2 (fun j => l.getD j .empty) wr) := Lib.hid (by
            have := HC.out.own.texts
            rw [hll] at this
            exact ⟨this, hg8l⟩)
          have HS8 : Hid (∀ j, j < n2 → ((fun j => l.getD j .empty) j).size = 8) := Lib.hid (fun j hj => by
            have hjl : j < l.length := by omega
            show (l.getD j .empty).size = 8
            rw [List.getD, List.getElem?_eq_getElem hjl]; exact HC.out.all _ (List.getElem_mem hjl))
          obtain ⟨F, hF⟩ : ∃ F : Nat → ByteArray, F = fun j => l.getD j .empty := ⟨_, rfl⟩
          rw [← hF] at T0 HS8
          have fa0 := Lib.hid (a_98.out.below HC.out.old)
          have fb0 := Lib.hid (b_99.out.below HC.out.old)
          have fab0 := Lib.hid (ab_100.out.below HC.out.old)
          have fB0 := Lib.hid (B_97.out.trans (HC.out.old.mono B_97.out.size))
          rw [hll]
          clear HC hll hF
          clear a_98 b_99 ab_100 B_97
          obtain ⟨wz, hwz⟩ : ∃ wz, wz = wr := ⟨_, rfl⟩
          rw [← hwz] at T0 fa0 fb0 fab0 fB0 d0 d1 d2 d3 hg8l ⊢
          clear hwz
          obtain ⟨c0, c1, c2⟩ := heap_cell0 fab0.out.box
          go_wp2_with fail
          refine (tApply g4 n0 n2 N02 g8 cap8 8 (mm n1 M1 M2) F (by omega) (by omega) (by omega) (by omega) H02.out (by omega) HS8.out _ fab0.out.tab T0.out).mono ?_
          rintro e w31 ⟨h1, rfl, t0_31, hb31⟩
          have B_1 := Lib.hid (fB0.out.trans ((hb31).mono fB0.out.size))
          have a_2 := Lib.hid (fa0.out.below (hb31))
          have b_3 := Lib.hid (fb0.out.below (hb31))
          have ab_4 := Lib.hid (fab0.out.below (hb31))
          have T_5 := Lib.hid (T0.out.below (hb31))
          have U_6 := Lib.hid t0_31
          clear fB0 fa0 fb0 fab0 T0 t0_31 hb31 c0 c1 c2 d0 d1 d2 d3 hg8l
          obtain ⟨c0_7, c1_7, c2_7⟩ := heap_cell0 b_3.out.box
          go_wp2_with fail
          refine (tApply g2 n1 n2 N12 g8 cap8 8 M2 F (by omega) (by omega) (by omega) (by omega) H12.out (by omega) HS8.out _ b_3.out.tab T_5.out).mono ?_
          rintro e w32 ⟨h2, rfl, t0_32, hb32⟩
          have B_8 := Lib.hid (B_1.out.trans ((hb32).mono B_1.out.size))
          have a_9 := Lib.hid (a_2.out.below (hb32))
          have b_10 := Lib.hid (b_3.out.below (hb32))
          have ab_11 := Lib.hid (ab_4.out.below (hb32))
          have T_12 := Lib.hid (T_5.out.below (hb32))
          have U_13 := Lib.hid (U_6.out.below (hb32))
          have Y_14 := Lib.hid t0_32
          clear B_1 a_2 b_3 ab_4 T_5 U_6 t0_32 hb32 c0_7 c1_7 c2_7
          obtain ⟨c0_15, c1_15, c2_15⟩ := heap_cell0 a_9.out.box
          go_wp2_with fail
          refine (tApply g1 n0 n1 N01 h2 n1 8 M1 _ (by omega) (by omega) (by omega) (by omega) H01.out (by omega) (fun j _ => txt_size _ _) _ a_9.out.tab Y_14.out).mono ?_
          rintro e w33 ⟨h3, rfl, t0_33, hb33⟩
          have B_16 := Lib.hid (B_8.out.trans ((hb33).mono B_8.out.size))
          have a_17 := Lib.hid (a_9.out.below (hb33))
          have b_18 := Lib.hid (b_10.out.below (hb33))
          have ab_19 := Lib.hid (ab_11.out.below (hb33))
          have T_20 := Lib.hid (T_12.out.below (hb33))
          have U_21 := Lib.hid (U_13.out.below (hb33))
          have Y_22 := Lib.hid (Y_14.out.below (hb33))
          have Z_23 := Lib.hid t0_33
          clear B_8 a_9 b_10 ab_11 T_12 U_13 Y_14 t0_33 hb33 c0_15 c1_15 c2_15
          have q0 := int_self_ne (n0 : Int)
          go_wp2_with fail
          obtain ⟨wl, hwl⟩ : ∃ wl, wl = w33 := ⟨_, rfl⟩
          have BL : Hid (Below w.heap.size w wl) := Lib.hid (by rw [hwl]; exact B_16.out)
          have TU : Hid (∀ j, j < n0 → wl.cell? ⟨h1, j, none⟩ = some (.string (txt (mm n2 (mm n1 M1 M2) (fun j => strAt (F j)) j) 8))) := Lib.hid (fun j hj => by rw [hwl]; have := U_21.out.t j hj; rw [Nat.zero_add] at this; exact this)
          have TZ : Hid (∀ j, j < n0 → wl.cell? ⟨h3, j, none⟩ = some (.string (txt (mm n2 (mm n1 M1 M2) (fun j => strAt (F j)) j) 8))) := Lib.hid (fun j hj => by rw [hwl]; have := Z_23.out.t j hj; rw [Nat.zero_add, apply_apply] at this; exact this)
          rw [← hwl]
          clear hwl B_16 a_17 b_18 ab_19 T_20 U_21 Y_22 Z_23
          go_loopw [36] (fun iv wr => ∃ q : Nat, q ≤ n0 ∧ iv = .int .i64 q ∧ (∃ m, wr = wl.drewN m)) (fun iv _ => n0 - (intOf iv).toNat)
          case atStart => exact ⟨0, by omega, rfl, 0, rfl⟩
          case round =>
            obtain ⟨q, hq, rfl, m, rfl⟩ := hrel
            by_cases hlt : q < n0
            · have t1 := TU.out q hlt
              have t2 := TZ.out q hlt
              obtain ⟨s1, hs1⟩ : ∃ s, txt (mm n2 (mm n1 M1 M2) (fun j => strAt (F j)) q) 8 = s := ⟨_, rfl⟩
              rw [hs1] at t1 t2
              clear hs1
              go_wp2_with fail
              go_quiet (fail)
              go_wp2_with fail
              go_roundw
              case rel => exact ⟨q + 1, by omega, by go_num, _, by first | rfl | exact World.drewN_drewN _ _ _⟩
              case measure => simp [intOf]; omega
            · obtain rfl : q = n0 := by omega
              go_wp2_with fail
              go_ret
              exact ⟨rfl, below_drewN BL.out m⟩
end Go.Proofs.Ytnaeekjocaecmaa
