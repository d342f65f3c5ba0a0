/- Erasure: the document's own Size, shards and Encode, and what is refused. -/
import Derived.Test.YteanbflbclmeeaaGreatE3
import Derived.Test.YteanbflbclmeeaaGreatMRefC
import Derived.Test.YteanbflbclmeeaaGreatMRk1
namespace Go.Proofs.YteanbflbclmeeaaGreat
open Go.RowKit

theorem wrong_any (k m L : Int) (w : World) : Calls Tryz.prog 23 #[.int .i64 k, .int .i64 m, .int .i64 L] w fun e w' => e = .returned (.bool (!mayE k m L)) ∧ w = w' := by
  have HM := Lib.hid (mayE_eq k m L)
  by_cases h : (1 ≤ k ∧ k ≤ 255) ∧ 0 ≤ m ∧ m ≤ 255
  · obtain ⟨⟨h1, h2⟩, h3, h4⟩ := h
    go_enter Tryz.func23, Tryz.ntmps23
    go_wp2_with fail
    all_goals
      go_ret
      refine ⟨ret_bool ?_, rfl⟩
      rw [HM.out, Bool.eq_iff_iff]
      simp
      try omega
  · have hf : mayE k m L = false := by rw [mayE_eq]; exact decide_eq_false fun h0 => h ⟨⟨by omega, by omega⟩, by omega, by omega⟩
    rw [hf]
    clear HM hf
    by_cases h1 : k < 1
    · go_enter Tryz.func23, Tryz.ntmps23
      go_wp2_with fail
      all_goals (go_ret; exact ⟨rfl, rfl⟩)
    by_cases h2 : m < 0
    · go_enter Tryz.func23, Tryz.ntmps23
      go_wp2_with fail
      all_goals (go_ret; exact ⟨rfl, rfl⟩)
    by_cases h3 : k > 255
    · go_enter Tryz.func23, Tryz.ntmps23
      go_wp2_with fail
      all_goals (go_ret; exact ⟨rfl, rfl⟩)
    have h4 : m > 255 := by omega
    go_enter Tryz.func23, Tryz.ntmps23
    go_wp2_with fail
    all_goals (go_ret; exact ⟨rfl, rfl⟩)
@[irreducible] def manyB (k m : Int) : Bool := decide (1 ≤ k ∧ 0 ≤ m ∧ k + m ≤ 255 ∧ 24 < k + m)
theorem manyB_eq (k m : Int) : manyB k m = decide (1 ≤ k ∧ 0 ≤ m ∧ k + m ≤ 255 ∧ 24 < k + m) := by unfold manyB; rfl
theorem many_any (k m : Int) (w : World) : Calls Tryz.prog 5 #[.int .i64 k, .int .i64 m] w fun e w' => e = .returned (.bool (manyB k m)) ∧ w = w' := by
  have HM := Lib.hid (manyB_eq k m)
  by_cases h : (1 ≤ k ∧ k ≤ 255) ∧ 0 ≤ m ∧ m ≤ 255
  · obtain ⟨⟨h1, h2⟩, h3, h4⟩ := h
    go_enter Tryz.func5, Tryz.ntmps5
    go_wp2_with fail
    all_goals
      go_ret
      refine ⟨ret_bool ?_, rfl⟩
      rw [HM.out, Bool.eq_iff_iff]
      simp
      try omega
  · have hf : manyB k m = false := by rw [manyB_eq]; exact decide_eq_false fun h0 => h ⟨⟨by omega, by omega⟩, by omega, by omega⟩
    rw [hf]
    clear HM hf
    by_cases h1 : k < 1
    · go_enter Tryz.func5, Tryz.ntmps5
      go_wp2_with fail
      all_goals (go_ret; exact ⟨rfl, rfl⟩)
    by_cases h2 : m < 0
    · go_enter Tryz.func5, Tryz.ntmps5
      go_wp2_with fail
      all_goals (go_ret; exact ⟨rfl, rfl⟩)
    by_cases h3 : k > 255
    · go_enter Tryz.func5, Tryz.ntmps5
      go_wp2_with fail
      all_goals (go_ret; exact ⟨rfl, rfl⟩)
    have h4 : m > 255 := by omega
    go_enter Tryz.func5, Tryz.ntmps5
    go_wp2_with fail
    all_goals (go_ret; exact ⟨rfl, rfl⟩)
theorem r8Size_bad (k L : Int) (h : mayE k 0 L = false) (w : World) : Calls Tryz.prog 24 #[.int .i64 k, .int .i64 L] w fun e w' => e = .returned (.tuple #[.int .i64 0, .int .i64 1]) ∧ w = w' := by
  go_enter Tryz.func24, Tryz.ntmps24
  go_wp2_with fail
  refine (wrong_any k 0 L _).mono ?_
  rintro e w' ⟨rfl, rfl⟩
  rw [h]
  go_wp2_with fail
  go_ret2
  exact ⟨rfl, rfl⟩
theorem r8Size_ok (k L : Nat) (hk1 : 1 ≤ k) (hk2 : k ≤ 255) (hL : (L : Int) ≤ 9223372036854775807) (w : World) : Calls Tryz.prog 24 #[.int .i64 k, .int .i64 L] w fun e w' => e = .returned (.tuple #[.int .i64 (szN k L : Nat), .int .i64 0]) ∧ w = w' := by
  have HM : Hid (mayE k 0 L = true) := Lib.hid (mayE_yes (m := 0) hk1 rfl hk2)
  obtain ⟨q, hq⟩ : ∃ q, q = L / k := ⟨_, rfl⟩
  obtain ⟨r, hr⟩ : ∃ r, r = L % k := ⟨_, rfl⟩
  obtain ⟨s, hs⟩ : ∃ s, s = szN k L := ⟨_, rfl⟩
  have hsle : s ≤ L := by rw [hs]; exact szN_le hk1 L
  have ed : (L : Int).tdiv (k : Int) = (q : Int) := by rw [Int.tdiv_eq_ediv_of_nonneg (by omega), hq]; simp
  have em : (L : Int).tmod (k : Int) = (r : Int) := by rw [Int.tmod_eq_emod_of_nonneg (by omega), hr]; simp
  have hk0 : ¬ (k : Int) = 0 := by omega
  have hsum : s = q + min 1 r := by rw [hs, szN_eq, hq, hr]
  rw [← hs]
  clear hs hq hr
  by_cases h0 : r = 0
  · subst h0
    have h2 : s = q := by omega
    subst h2
    clear hsum
    go_enter Tryz.func24, Tryz.ntmps24
    go_wp2_with fail
    refine (wrong_any k 0 L _).mono ?_
    rintro e w' ⟨rfl, rfl⟩
    rw [HM.out]
    go_wp2_with fail
    go_ret2
    exact ⟨rfl, rfl⟩
  · have h2 : s = q + 1 := by omega
    have hqs : (q : Int) + 1 = (s : Int) := by omega
    have hrb : ((r : Int) != 0) = true := by simp; omega
    clear hsum h2 h0
    go_enter Tryz.func24, Tryz.ntmps24
    go_wp2_with fail
    refine (wrong_any k 0 L _).mono ?_
    rintro e w' ⟨rfl, rfl⟩
    rw [HM.out]
    go_wp2_with fail
    go_ret2
    exact ⟨rfl, rfl⟩
set_option maxHeartbeats 1000000 in
theorem Size_bad (k L : Int) (hk : k ≤ 9223372036854775807) (h : mayE k 0 L = false) (w : World) : Calls Tryz.prog 14 #[.int .i64 k, .int .i64 L] w fun e w' => ∃ g, e = .returned (.tuple #[.int .i64 0, faultV g]) ∧ FaultAt g 1 0 w' ∧ Below w.heap.size w w' := by
  go_enter Tryz.func14, Tryz.ntmps14
  go_wp2_with fail
  refine (mayE_any k 0 L hk _).mono ?_
  rintro e w' ⟨rfl, rfl⟩
  rw [h]
  go_wp2_with fail
  refine (eFault_any 1 _).mono ?_
  rintro e w1 ⟨rfl, hF, hb⟩
  have HF := Lib.hid hF
  have HB := Lib.hid hb
  clear hF hb
  go_wp2_with fail
  go_ret2
  exact ⟨_, rfl, HF.out, HB.out⟩
set_option maxHeartbeats 1000000 in
theorem Encode_bad (k m : Int) (t : ByteArray) (hk : k ≤ 9223372036854775807) (h : mayE k m t.size = false) (w : World) : Calls Tryz.prog 15 #[.int .i64 k, .int .i64 m, .string t] w fun e w' => ∃ g, e = .returned (.tuple #[.slice none 0 0, faultV g]) ∧ FaultAt g 1 0 w' ∧ Below w.heap.size w w' := by
  go_enter Tryz.func15, Tryz.ntmps15
  go_wp2_with fail
  refine (mayE_any k m t.size hk _).mono ?_
  rintro e w' ⟨rfl, rfl⟩
  rw [h]
  go_wp2_with fail
  refine (eFault_any 1 _).mono ?_
  rintro e w1 ⟨rfl, hF, hb⟩
  have HF := Lib.hid hF
  have HB := Lib.hid hb
  clear hF hb
  go_wp2_with fail
  go_ret2
  exact ⟨_, rfl, HF.out, HB.out⟩
theorem matOf_flat {r c : Nat} (M : Mat) : Alike r c (matOf c (flat M r c)) M := fun i j hi hj => by
  unfold matOf
  rw [List.getD, flat_get M hi hj]; rfl
theorem flat_enc (k m : Nat) (hk : 1 ≤ k) : flat dl k k ++ flat (cauM k) m k = flat (encM k) (k + m) k := by
  rw [← flat_under k m k _ _ (length_flat _ _ _) (length_flat _ _ _) hk]
  refine flat_alike fun i j hi hj => ?_
  unfold encM underM
  by_cases h : i < k
  · rw [if_pos h, if_pos h, matOf_flat dl i j h hj]
  · rw [if_neg h, if_neg h, matOf_flat (cauM k) (i - k) j (by omega) hj]
theorem right_nat {r c N : Nat} (hr1 : 1 ≤ r) (hr2 : r ≤ 255) (hc1 : 1 ≤ c) (hc2 : c ≤ 255) (hN : r * c = N) : rightB r c N = true := by
  rw [rightB_eq]; exact decide_eq_true ⟨by omega, by omega, by omega, by omega, by rw [← hN]; simp⟩
theorem ne_of_tys {w : World} {a b : Nat} {x y : Array Value} {T U : TypeId} {f f' : Nat × Nat} (h1 : w.heap[a]? = some (.cells x T f)) (h2 : w.heap[b]? = some (.cells y U f')) (h : T ≠ U) : a ≠ b := fun e => by
  subst e
  rw [h1] at h2
  injection h2 with h2
  injection h2 with _ e2 _
  exact h e2
set_option maxRecDepth 20000 in
set_option maxHeartbeats 2000000 in
theorem rows_some (k m n N : Nat) (hk1 : 1 ≤ k) (hm1 : 1 ≤ m) (hn : k + m = n) (hkm : n ≤ 255) (hN : n * k = N) (w : World) :
    Calls Tryz.prog 26 #[.int .i64 k, .int .i64 m] w fun e w' => ∃ g cap, e = .returned (.agg #[.int .i64 n, .int .i64 k, .slice (some ⟨g, 0, none⟩) N cap]) ∧ Src g 0 (encM k) n k w' ∧ g < w'.heap.size ∧ N ≤ cap ∧ Below w.heap.size w w' := by
  obtain ⟨N1, hN1⟩ : ∃ N, k * k = N := ⟨_, rfl⟩
  obtain ⟨N2, hN2⟩ : ∃ N, m * k = N := ⟨_, rfl⟩
  have hNN : N1 + N2 = N := by rw [← hN, ← hN1, ← hN2, ← hn, Nat.add_mul]
  have HR1 := Lib.hid (right_nat hk1 (by omega) hk1 (by omega) hN1)
  have HR2 := Lib.hid (right_nat hm1 (by omega) hk1 (by omega) hN2)
  have HF : Hid (flat dl k k ++ flat (cauM k) m k = flat (encM k) n k) := Lib.hid (by rw [← hn]; exact flat_enc k m hk1)
  have H1 := Lib.hid hN1
  have H2 := Lib.hid hN2
  have HNN := Lib.hid hNN
  have HN := Lib.hid hn
  have hk2 : k ≤ 255 := by omega
  have hm2 : m ≤ 255 := by omega
  have hkm2 : m + k ≤ 256 := by omega
  have hsum : (k : Int) + (m : Int) = (n : Int) := by omega
  have hm0 : ((m : Int) == 0) = false := by simp; omega
  have R0 : Hid (ResAt w.heap.size 62 (w.alloc (.cells #[.int .i64 0, .int .i64 0, .slice none 0 0] 62))) := Lib.hid (heap_alloc_new _ _)
  have B_0 : Hid (Below w.heap.size w (w.alloc (.cells #[.int .i64 0, .int .i64 0, .slice none 0 0] 62))) := Lib.hid (below_alloc _ _)
  clear hN1 hN2 hN hn hNN
  go_enter Tryz.func26, Tryz.ntmps26
  go_wp2_with fail
  refine (rIdent_any k N1 H1.out hk1 hk2 _).mono ?_
  rintro e w2 ⟨g1, rfl, t0, hb2⟩
  have B_1 := Lib.hid (B_0.out.trans (hb2.mono B_0.out.size))
  have R1 := Lib.hid (R0.out.below hb2 R0.out.lt)
  have I_1 := Lib.hid t0
  clear t0 hb2 R0 B_0
  go_wp2_with (refine wpList_store_whole rfl 62 _ _ rfl w2.heap.size [.int .i64 k, .int .i64 k, .slice (some ⟨g1, 0, none⟩) N1 N1] zeroRow 62 rfl rfl (heap_alloc_new _ _) rfl (by kernel_rfl) (mv_ones _ _ _ _) ?_; intro w3 h3 k3 s3; have hs3 := after_box k3.out; have I_2 := Lib.hid ((BoxT.of h3.out k3.out I_1.out).1); have B_2 := Lib.hid (B_1.out.trans (hs3.mono B_1.out.size)); have R2 := Lib.hid (R1.out.below hs3 R1.out.lt); clear B_1 I_1 R1 hs3; go_frame)
  clear h3 k3 s3
  refine (rCau_any m k N2 H2.out hm1 hm2 hk1 hk2 hkm2 _).mono ?_
  rintro e w4 ⟨g2, rfl, t0, hb4⟩
  have B_3 := Lib.hid (B_2.out.trans (hb4.mono B_2.out.size))
  have R3 := Lib.hid (R2.out.below hb4 R2.out.lt)
  have I_3 := Lib.hid (I_2.out.below hb4)
  have C_3 := Lib.hid t0
  clear t0 hb4 R2 B_2 I_2
  go_wp2_with (refine wpList_store_whole rfl 62 _ _ rfl w4.heap.size [.int .i64 m, .int .i64 k, .slice (some ⟨g2, 0, none⟩) N2 N2] zeroRow 62 rfl rfl (heap_alloc_new _ _) rfl (by kernel_rfl) (mv_ones _ _ _ _) ?_; intro w5 h5 k5 s5; have hs5 := after_box k5.out; have C_4 := Lib.hid ((BoxT.of h5.out k5.out C_3.out).1); have B_4 := Lib.hid (B_3.out.trans (hs5.mono B_3.out.size)); have R4 := Lib.hid (R3.out.below hs5 R3.out.lt); have I_4 := Lib.hid (I_3.out.below hs5); obtain ⟨c0, c1, c2⟩ := heap_cell0 I_4.out.box; obtain ⟨d0, d1, d2⟩ := heap_cell0 C_4.out.box; clear B_3 I_3 C_3 R3 hs5; go_frame)
  clear h5 k5 s5
  refine (rUnder_good k m k g1 0 N1 N1 g2 0 N2 N2 (flat dl k k) (flat (cauM k) m k) HR1.out HR2.out (by omega) (by rw [length_flat, H1.out]) (by rw [length_flat, H2.out]) _ I_4.out.tab.src I_4.out.tab.lt C_4.out.tab.src C_4.out.tab.lt).mono ?_
  rintro e w6 ⟨g3, cap, rfl, hH, hb6⟩
  have hN1 : 1 ≤ N := by
    have h1 : 1 ≤ N1 := by rw [← H1.out]; exact Nat.mul_pos hk1 hk1
    have := HNN.out; omega
  rw [HNN.out] at hH ⊢
  rw [HF.out] at hH
  obtain ⟨b3, o3, e3, hl3, hr3⟩ := hH.cells hN1
  injection e3 with e3
  injection e3 with e4 e5 _
  subst e4; subst e5
  have hcap := hH.hc
  have S6 : Hid (Src g3 0 (encM k) n k w6) := Lib.hid hr3
  have B_5 := Lib.hid (B_4.out.trans (hb6.mono B_4.out.size))
  have R5 := Lib.hid (R4.out.below hb6 R4.out.lt)
  clear hH hr3 hb6 R4 B_4 I_4 C_4 c0 c1 c2 d0 d1 d2
  go_wp2_with (first | (refine wpList_store_whole rfl 62 _ _ rfl w6.heap.size [.int .i64 n, .int .i64 k, .slice (some ⟨g3, 0, none⟩) N cap] zeroRow 62 rfl rfl (heap_alloc_new _ _) rfl (by kernel_rfl) (fun v hv => by simp at hv; rcases hv with rfl | rfl | rfl <;> rfl) ?_; intro w7 h7 k7 s7; have hs7 := after_box k7.out; have S7 := Lib.hid (S6.out.keep (hs7.block g3 hl3)); have hl7 := Nat.lt_of_lt_of_le hl3 hs7.size; have B_6 := Lib.hid (B_5.out.trans (hs7.mono B_5.out.size)); have R6 := Lib.hid (R5.out.below hs7 R5.out.lt); obtain ⟨c0, c1, c2⟩ := heap_cell0 h7.out; clear B_5 S6 R5 hs7 h7 k7 s7 hl3; go_frame) | (refine wpList_store_whole rfl 62 _ _ rfl w.heap.size [.int .i64 n, .int .i64 k, .slice (some ⟨g3, 0, none⟩) N cap] zeroRow 62 rfl rfl R6.out rfl (by kernel_rfl) (fun v hv => by simp at hv; rcases hv with rfl | rfl | rfl <;> rfl) ?_; intro w9 h9 k9 s9; go_frame))
  have hne : g3 ≠ w.heap.size := fun e => by
    have h1 := S7.out.cell (i := 0) (j := 0) (by omega) (by omega)
    rw [e] at h1
    have h2 := cell_of_list R6.out (j := 0)
    simp only [Nat.zero_mul, Nat.add_zero] at h1
    rw [h1] at h2
    simp [zeroRow, u8v] at h2
  refine bodyPost_ret (results_mid Tryz.results26 _ _ w.heap.size 0 [.int .i64 n, .int .i64 k, .slice (some ⟨g3, 0, none⟩) N cap] _ rfl (range_of_list h9.out) Tryz.underlying62 rfl (by kernel_rfl)) rfl ⟨g3, cap, rfl, S7.out.keep (k9.out.block g3 hl7 (by simp; exact hne)), by have := s9.out; omega, hcap, below_kept B_6.out k9.out (Nat.le_refl _) B_6.out.size⟩
set_option maxRecDepth 20000 in
set_option maxHeartbeats 2000000 in
theorem rows_none (k N : Nat) (hk1 : 1 ≤ k) (hk2 : k ≤ 255) (hN : k * k = N) (w : World) :
    Calls Tryz.prog 26 #[.int .i64 k, .int .i64 0] w fun e w' => ∃ g, e = .returned (mv g k k N) ∧ Tab g (encM k) k k w' ∧ Below w.heap.size w w' := by
  have H1 := Lib.hid hN
  have R0 : Hid (ResAt w.heap.size 62 (w.alloc (.cells #[.int .i64 0, .int .i64 0, .slice none 0 0] 62))) := Lib.hid (heap_alloc_new _ _)
  have B_0 : Hid (Below w.heap.size w (w.alloc (.cells #[.int .i64 0, .int .i64 0, .slice none 0 0] 62))) := Lib.hid (below_alloc _ _)
  clear hN
  go_enter Tryz.func26, Tryz.ntmps26
  go_wp2_with fail
  refine (rIdent_any k N H1.out hk1 hk2 _).mono ?_
  rintro e w2 ⟨g1, rfl, t0, hb2⟩
  have B_1 := Lib.hid (B_0.out.trans (hb2.mono B_0.out.size))
  have R1 := Lib.hid (R0.out.below hb2 R0.out.lt)
  have I_1 := Lib.hid t0
  clear t0 hb2 R0 B_0
  go_wp2_with (first | (refine wpList_store_whole rfl 62 _ _ rfl w2.heap.size [.int .i64 k, .int .i64 k, .slice (some ⟨g1, 0, none⟩) N N] zeroRow 62 rfl rfl (heap_alloc_new _ _) rfl (by kernel_rfl) (mv_ones _ _ _ _) ?_; intro w3 h3 k3 s3; have hs3 := after_box k3.out; have I_2 := Lib.hid ((BoxT.of h3.out k3.out I_1.out).1); have B_2 := Lib.hid (B_1.out.trans (hs3.mono B_1.out.size)); have R2 := Lib.hid (R1.out.below hs3 R1.out.lt); obtain ⟨c0, c1, c2⟩ := heap_cell0 I_2.out.box; clear B_1 I_1 R1 hs3 h3 k3 s3; go_frame) | (refine wpList_store_whole rfl 62 _ _ rfl w.heap.size [.int .i64 k, .int .i64 k, .slice (some ⟨g1, 0, none⟩) N N] zeroRow 62 rfl rfl R2.out rfl (by kernel_rfl) (mv_ones _ _ _ _) ?_; intro w9 h9 k9 s9; go_frame))
  exact bodyPost_ret (results_mid Tryz.results26 _ _ w.heap.size 0 [.int .i64 k, .int .i64 k, .slice (some ⟨g1, 0, none⟩) N N] _ rfl (range_of_list h9.out) Tryz.underlying62 rfl (by kernel_rfl)) rfl ⟨g1, rfl, (I_2.out.tab.alike (enc_top k)).keep (k9.out.block g1 I_2.out.tab.lt (by simp; exact ne_of_tys I_2.out.tab R2.out (by decide))), below_kept B_2.out k9.out (Nat.le_refl _) B_2.out.size⟩
theorem rows_any (k m n N : Nat) (hk1 : 1 ≤ k) (hn : k + m = n) (hkm : n ≤ 255) (hN : n * k = N) (w : World) :
    Calls Tryz.prog 26 #[.int .i64 k, .int .i64 m] w fun e w' => ∃ g cap, e = .returned (.agg #[.int .i64 n, .int .i64 k, .slice (some ⟨g, 0, none⟩) N cap]) ∧ Src g 0 (encM k) n k w' ∧ g < w'.heap.size ∧ N ≤ cap ∧ Below w.heap.size w w' := by
  by_cases hm : 1 ≤ m
  · exact rows_some k m n N hk1 hm hn hkm hN w
  · obtain rfl : m = 0 := by omega
    obtain rfl : n = k := by omega
    refine (rows_none n N hk1 hkm hN w).mono ?_
    rintro e w' ⟨g, rfl, hT, hb⟩
    exact ⟨g, N, rfl, hT.src, hT.lt, Nat.le_refl _, hb⟩
/-- All shards of the first k, as the document has them. -/
theorem apply8_any (k m n s hb cap : Nat) (f : Nat → ByteArray) (hk1 : 1 ≤ k) (hn : k + m = n) (hkm : n ≤ 255) (hs : s ≤ 1000000) (hf : ∀ j, j < k → (f j).size = s) (ho : Nat) (w : World) (h : Texts hb ho k f w) (hl : hb < w.heap.size) :
    Calls Tryz.prog 29 #[.int .i64 k, .int .i64 m, .slice (some ⟨hb, ho, none⟩) k cap] w fun e w' => ∃ g c, e = .returned (.slice (some ⟨g, 0, none⟩) n c) ∧ ColT g n (shT k s (fun j => strAt (f j))) w' ∧ Below w.heap.size w w' := by
  obtain ⟨N, hN⟩ : ∃ N, n * k = N := ⟨_, rfl⟩
  have HR := Lib.hid (rows_any k m n N hk1 hn hkm hN w)
  have HN := Lib.hid hN
  have HT := Lib.hid h
  have HF := Lib.hid hf
  have hn1 : 1 ≤ n := by omega
  have hk2 : k ≤ 255 := by omega
  clear hN h hf hn
  go_enter Tryz.func29, Tryz.ntmps29
  go_wp2_with fail
  refine HR.out.mono ?_
  rintro e w1 ⟨g, cp, rfl, hS, hgl, hcp, hb1⟩
  have HB := Lib.hid hb1
  have HS := Lib.hid hS
  clear hS hb1 HR
  go_wp2_with fail
  refine (rApply_good n k g 0 N cp hb ho cap s (encM k) f hn1 hkm hk1 hk2 HN.out hs HF.out _ HS.out hgl (HT.out.keep (HB.out.block hb hl)) (Nat.lt_of_lt_of_le hl HB.out.size)).mono ?_
  rintro e w2 ⟨g2, c2, rfl, hT, hb2⟩
  have HB2 := Lib.hid (HB.out.trans (hb2.mono HB.out.size))
  have HT2 := Lib.hid hT
  clear hT hb2
  go_wp2_with fail
  go_ret
  refine ⟨g2, c2, rfl, ?_, HB2.out⟩
  rw [show shT k s (fun j => strAt (f j)) = fun i => txt (mm k (encM k) (fun j => strAt (f j)) i) s from funext fun i => shT_eq _ _ _ _]
  exact HT2.out
theorem pad_list (t : ByteArray) (Z : Nat) : (t ++ txt (fun _ => 0) Z).data.toList = t.data.toList ++ List.replicate Z 0 := by
  rw [ByteArray.data_append, Array.toList_append, txt_list]
  congr 1
  unfold textOf; rw [List.map_const']; simp
theorem pad_size (t : ByteArray) (Z : Nat) : (t ++ txt (fun _ => 0) Z).size = t.size + Z := by rw [← size_toList, pad_list, List.length_append, size_toList, List.length_replicate]
theorem extract_list (x : ByteArray) (A s : Nat) : (x.extract A (A + s)).data.toList = (x.data.toList.drop A).take s := by
  rw [ByteArray.data_extract]
  simp [List.take_drop]
theorem pad_extract (t : ByteArray) (Z s i A : Nat) (hA : i * s = A) (h : A + s ≤ t.size + Z) : (t ++ txt (fun _ => 0) Z).extract A (A + s) = txt (cutM s (strAt t) i) s := by
  apply ByteArray.ext
  apply Array.toList_inj.1
  rw [extract_list, txt_list, pad_list]
  apply List.ext_getElem?
  intro j
  by_cases hj : j < s
  · rw [List.getElem?_take, if_pos hj, List.getElem?_drop, textOf_get _ _ _ hj]
    unfold cutM
    rw [hA, strAt_eq, List.getD]
    by_cases hjt : A + j < t.size
    · rw [List.getElem?_append_left (by rw [size_toList]; exact hjt), List.getElem?_eq_getElem (by rw [size_toList]; exact hjt)]; rfl
    · rw [List.getElem?_append_right (by rw [size_toList]; omega), size_toList, List.getElem?_replicate, if_pos (by omega), List.getElem?_eq_none (by rw [size_toList]; omega)]; rfl
  · rw [List.getElem?_take, if_neg hj, List.getElem?_eq_none (by rw [length_textOf]; omega)]
end Go.Proofs.YteanbflbclmeeaaGreat
/-! The document's own Encode. -/
namespace Go.Proofs.YteanbflbclmeeaaGreat
open Go.RowKit

end Go.Proofs.YteanbflbclmeeaaGreat
/-! The walk of ErasureEncodes. -/
namespace Go.Proofs.YteanbflbclmeeaaGreat
open Go.RowKit

/-- An error of a number, or none. -/
def ErrE (code : Nat) (E : Value) (w : World) : Prop := (code = 0 ∧ E = .nilIface) ∨ (code ≠ 0 ∧ ∃ g, E = faultV g ∧ FaultAt g code 0 w)
theorem ErrE.below {code : Nat} {E : Value} {w w' : World} (h : ErrE code E w) (hb : Below w.heap.size w w') : ErrE code E w' := by
  rcases h with h | ⟨h1, g, h2, h3⟩
  · exact .inl h
  · exact .inr ⟨h1, g, h2, h3.keep (hb.block g h3.lt)⟩
theorem is_errE {code : Nat} {E : Value} {w : World} (h : ErrE code E w) : Calls Tryz.prog 8 #[E, .int .i64 code] w fun e w' => e = .returned (.bool true) ∧ w = w' := by
  rcases h with ⟨rfl, rfl⟩ | ⟨h1, g, rfl, h4⟩
  · exact is_none w
  · exact is_fault g code (by omega) w h4
/-- Both sides of Size. -/
structure Size2 (k L : Int) (code v : Nat) : Prop where
  p : ∀ w, Calls Tryz.prog 14 #[.int .i64 k, .int .i64 L] w fun e w' => ∃ E, e = .returned (.tuple #[.int .i64 v, E]) ∧ ErrE code E w' ∧ Below w.heap.size w w'
  q : ∀ w, Calls Tryz.prog 24 #[.int .i64 k, .int .i64 L] w fun e w' => e = .returned (.tuple #[.int .i64 v, .int .i64 code]) ∧ w = w'
theorem mayE_nat {k m L : Int} (h : mayE k m L = true) : ∃ kn mn Ln : Nat, k = kn ∧ m = mn ∧ L = Ln ∧ 1 ≤ kn ∧ kn + mn ≤ 255 := by
  rw [mayE_eq, decide_eq_true_eq] at h
  obtain ⟨kn, rfl⟩ := Int.eq_ofNat_of_zero_le (show 0 ≤ k by omega)
  obtain ⟨mn, rfl⟩ := Int.eq_ofNat_of_zero_le (show 0 ≤ m by omega)
  obtain ⟨Ln, rfl⟩ := Int.eq_ofNat_of_zero_le (show 0 ≤ L by omega)
  exact ⟨kn, mn, Ln, rfl, rfl, rfl, by omega, by omega⟩
theorem size_sides (k L : Int) (hk : k ≤ 9223372036854775807) (hL : L ≤ 9223372036854775807) : ∃ code v, Size2 k L code v := by
  by_cases h : mayE k 0 L = true
  · obtain ⟨kn, mn, Ln, rfl, hm, rfl, h1, h2⟩ := mayE_nat h
    refine ⟨0, szN kn Ln, ⟨fun w => ?_, fun w => r8Size_ok kn Ln h1 (by omega) hL w⟩⟩
    refine (Size_ok kn Ln h1 (by omega) hL w).mono ?_
    rintro e w' ⟨rfl, hb⟩
    exact ⟨_, rfl, .inl ⟨rfl, rfl⟩, hb⟩
  · have h : mayE k 0 L = false := by simpa using h
    refine ⟨1, 0, ⟨fun w => ?_, fun w => r8Size_bad k L h w⟩⟩
    refine (Size_bad k L hk h w).mono ?_
    rintro e w' ⟨g, rfl, hF, hb⟩
    exact ⟨_, rfl, .inr ⟨by omega, g, rfl, hF⟩, hb⟩
end Go.Proofs.YteanbflbclmeeaaGreat
