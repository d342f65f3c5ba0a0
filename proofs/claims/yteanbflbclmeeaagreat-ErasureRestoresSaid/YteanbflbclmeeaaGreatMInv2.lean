/- The walk of Invert, of a matrix that has as many rows as columns. -/
import Derived.Test.YteanbflbclmeeaaGreatMInv
import Derived.Deep.RegionHeld3
namespace Go.Proofs.YteanbflbclmeeaaGreat
open Go.RowKit

set_option maxRecDepth 20000 in
set_option maxHeartbeats 4000000 in
theorem Invert_sq (n b o len cap : Nat) (X : Mat) (hn1 : 1 ≤ n) (hn2 : n ≤ 255) (hlen : n * n = len) (hcap : len ≤ cap) (hlm : len ≤ 65025) (w : World) (hX : Src b o X n n w) (hbl : b < w.heap.size) :
    Calls Tryz.prog 39 #[.agg #[.int .i64 n, .int .i64 n, .slice (some ⟨b, o, none⟩) len cap]] w fun e w' => ∃ V E, e = .returned (.tuple #[V, E]) ∧ ((rk n n X = n ∧ PA w.heap.size 0 n n (invM n X) V E w') ∨ (rk n n X ≠ n ∧ PA w.heap.size 18 0 0 zeroM V E w')) ∧ Below w.heap.size w w' := by
  have hr : rightB n n len = true := by rw [rightB_eq]; exact decide_eq_true ⟨by omega, by omega, by omega, by omega, by rw [← hlen]; simp⟩
  have hnb := nat_eq_B (i := n) (p := n) rfl
  obtain ⟨m, hm⟩ : ∃ m, m = 2 * n := ⟨_, rfl⟩
  have h2n : (2 : Int) * (n : Int) = (m : Int) := by omega
  have hm2 : m ≤ 510 := by omega
  obtain ⟨N1, hN1⟩ : ∃ N1, n * m = N1 := ⟨_, rfl⟩
  have hN1m : N1 ≤ 1000000 := by rw [← hN1]; exact Nat.le_trans (Nat.mul_le_mul hn2 hm2) (by decide)
  obtain ⟨W, hW⟩ : ∃ W, W = (red n (layM 0 n n n dl (layM 0 0 n n X zeroM)) n).1 := ⟨_, rfl⟩
  have hrk : (red n (layM 0 n n n dl (layM 0 0 n n X zeroM)) n).2 = rk n n X := by
    rw [← rk_aug]; exact (red_alike (lay_aug n m hm X) n (by omega)).2
  have hfin : rk n n X = n → Alike n n (invTo n W n) (invM n X) := fun _ i j hi hj => by
    unfold invTo invM
    rw [if_pos hi, hW]
    exact (red_alike (lay_aug n m hm X) n (by omega)).1 i (n + j) hi (by omega)
  have hrl := rk_le n n X
  obtain ⟨K, hK⟩ : ∃ K, K = rk n n X := ⟨_, rfl⟩
  rw [← hK] at hrk hfin hrl ⊢
  obtain ⟨s1, s2, s3⟩ := start2 w (.cells #[.int .i64 n, .int .i64 n, .slice (some ⟨b, o, none⟩) len cap] 62)
  have S1 := Lib.hid s1
  have S2 := Lib.hid s2
  have S3 := Lib.hid s3
  have HLEN := Lib.hid hlen
  have HN1 := Lib.hid hN1
  have HX := Lib.hid hX
  have HM := Lib.hid hm
  have HW := Lib.hid hW
  have HRK := Lib.hid hrk
  have HFIN := Lib.hid hfin
  clear s1 s2 s3 hlen hN1 hX hm hK hW hrk hfin
  go_enter Tryz.func39, Tryz.ntmps39
  go_wp2_with fail
  refine (Right_any _ _ _ len cap _).mono ?_
  rintro e w1 ⟨rfl, hb1⟩
  rw [hr]
  have R1 := Lib.hid (S1.out.below hb1 S1.out.lt)
  have B1 := Lib.hid (S2.out.trans (hb1.mono S2.out.size))
  have hM1 : BoxM w.heap.size n n b o len cap w1 := ((hb1.block _ (by simp; omega)).trans S3.out).trans (heap_alloc_new _ _)
  have d0 := (heap_cell0 hM1).1
  have d1 := (heap_cell0 hM1).2.1
  have HM1 := Lib.hid hM1
  clear hb1 hM1
  go_wp2_with fail
  refine (blank_any n m N1 HN1.out hN1m _).mono ?_
  rintro e w2 ⟨g, hg, rfl, hT, hb2⟩
  have HM2 := Lib.hid (HM1.out.below hb2 HM1.out.lt)
  have R2 := Lib.hid (R1.out.below hb2 R1.out.lt)
  have HT2 := Lib.hid hT
  have B2 := Lib.hid (B1.out.trans (hb2.mono B1.out.size))
  have hgw : w.heap.size ≤ g := by have := B1.out.size; omega
  have hgM : w.heap.size ≠ g := by have := HM1.out.lt; omega
  have hgR : w.heap.size + 1 ≠ g := by have := R1.out.lt; omega
  clear hT hb2 d0 d1 hg
  unfold tabV
  go_wp2_with (refine wpList_store_whole rfl 104 _ _ rfl w2.heap.size (tabRow g n m N1) zeroRow 104 rfl rfl (heap_alloc_new _ _) rfl (by kernel_rfl) (tabRow_ones _ _ _ _) ?_; intro w3 h3 k3 s3; have HS3 := Lib.hid (boxed (w0 := w) h3.out k3.out HT2.out (Kept.of_below B2.out)); have HM3 := Lib.hid (HM2.out.below HS3.out.2 HM2.out.lt); have d0 := HS3.out.1.c0; have d1 := HS3.out.1.c1; have d2 := HS3.out.1.c2; have e0 := (heap_cell0 HM3.out).1; have e1 := (heap_cell0 HM3.out).2.1; have e2 := (heap_cell0 HM3.out).2.2; go_frame)
  have B3 := Lib.hid (B2.out.trans (HS3.out.2.mono B2.out.size))
  have R3 := Lib.hid (R2.out.below HS3.out.2 R2.out.lt)
  have hbg : b ≠ g := by omega
  clear h3 k3 s3 HM2 HT2 HM1 HM3 R2 R1
  refine (lay_any g n m N1 b o n n len cap 0 0 X zeroM HN1.out hN1m hn1 (by omega) (by omega) HLEN.out hcap (by omega) hbg _ HS3.out.1.tab (HX.out.keep (B3.out.block b hbl)) (Nat.lt_of_lt_of_le hbl B3.out.size)).mono ?_
  rintro e w4 ⟨rfl, hT, hK⟩
  have HS4 := Lib.hid (HS3.out.1.change hT hK)
  have R4 := Lib.hid (R3.out.kept hK hgR)
  have S4 : w4.cell? ⟨w2.heap.size, 0, none⟩ = some (.int .i64 n) ∧ w4.cell? ⟨w2.heap.size, 1, none⟩ = some (.int .i64 m) ∧ w4.cell? ⟨w2.heap.size, 2, none⟩ = some (.slice (some ⟨g, 0, none⟩) N1 N1) := ⟨HS4.out.c0, HS4.out.c1, HS4.out.c2⟩
  obtain ⟨B, hBe⟩ : ∃ B, B = w2.heap.size := ⟨_, rfl⟩
  rw [← hBe] at S4
  rw [← hBe] at HS4
  clear hT hK d0 d1 d2 e0 e1 e2 HS3 R3 B3
  go_wp2_with fail
  rw [← hBe]
  clear hBe
  have CI : Hid (∀ v, BoxS B g n m N1 (layM 0 0 n n X zeroM) w v → ResAt (w.heap.size + 1) 62 v → Calls Tryz.prog 64 #[.int .i64 n] v fun e w' => ∃ g5, e = .returned (.agg #[.int .i64 n, .int .i64 n, .slice (some ⟨g5, 0, none⟩) len len]) ∧ g5 ≠ g ∧ Tab g5 dl n n w' ∧ BoxS B g n m N1 (layM 0 0 n n X zeroM) w w' ∧ ResAt (w.heap.size + 1) 62 w') := Lib.hid (fun v h1 h2 =>
    (ident_any n len HLEN.out (by omega) v).mono fun e w' hh => by
      obtain ⟨g5, hg5, he, hT, hb⟩ := hh
      exact ⟨g5, he, by have := h1.tab.lt; omega, hT, h1.below hb, h2.below hb h2.lt⟩)
  have CL : Hid (∀ g5 v, BoxS B g n m N1 (layM 0 0 n n X zeroM) w v → ResAt (w.heap.size + 1) 62 v → g5 ≠ g → Tab g5 dl n n v → Calls Tryz.prog 63 #[.agg #[.int .i64 n, .int .i64 m, .slice (some ⟨g, 0, none⟩) N1 N1], .agg #[.int .i64 n, .int .i64 n, .slice (some ⟨g5, 0, none⟩) len len], .int .i64 0, .int .i64 n] v fun e w' => e = .returned (.tuple #[]) ∧ BoxS B g n m N1 (layM 0 n n n dl (layM 0 0 n n X zeroM)) w w' ∧ ResAt (w.heap.size + 1) 62 w') := Lib.hid (fun g5 v h1 h2 h3 h4 =>
    (lay_any g n m N1 g5 0 n n len len 0 n dl _ HN1.out hN1m hn1 (by omega) (by omega) HLEN.out (Nat.le_refl _) (by omega) h3 v h1.tab h4.src h4.lt).mono fun e w' hh => by
      obtain ⟨he, hT, hK⟩ := hh
      exact ⟨he, h1.change hT hK, h2.kept hK hgR⟩)
  go_region_held3 (fun v => v.cell? ⟨B, 0, none⟩ = some (.int .i64 n) ∧ v.cell? ⟨B, 1, none⟩ = some (.int .i64 m) ∧ v.cell? ⟨B, 2, none⟩ = some (.slice (some ⟨g, 0, none⟩) N1 N1)) (first | exact S4 | exact S5 | exact S6) (first | (go_at_call 64; refine (CI.out _ HS4.out.drew R4.out).mono ?_; rintro e w5 ⟨g5, rfl, hg5, hT5, hS5, hR5⟩; have HS5 := Lib.hid hS5; have R5 := Lib.hid hR5; have HT5 := Lib.hid hT5; clear hT5 hS5 hR5; have S5 := And.intro HS5.out.c0 (And.intro HS5.out.c1 HS5.out.c2)) | (go_at_call 63; refine (CL.out g5 _ HS5.out R5.out hg5 HT5.out).mono ?_; rintro e w6 ⟨rfl, hS6, hR6⟩; have HS6 := Lib.hid hS6; have R6 := Lib.hid hR6; clear hS6 hR6; have S6 := And.intro HS6.out.c0 (And.intro HS6.out.c1 HS6.out.c2)) | fail)
  obtain ⟨f0, f1, f2⟩ := S6
  clear S4 S5 CI CL HS4 HS5 R4 R5 HT5
  go_wp2_with fail
  refine (reduce_any g n m N1 n _ HN1.out hN1m (by omega) (by omega) (by omega) _ HS6.out.tab).mono ?_
  rintro e w7 ⟨rfl, hT, hK⟩
  rw [HRK.out]
  have hS7 := HS6.out.change hT hK
  rw [← HW.out] at hS7
  have HS7 := Lib.hid hS7
  have R7 := Lib.hid (R6.out.kept hK hgR)
  clear hT hK f0 f1 f2 hS7 HS6 R6
  by_cases hKn : K = n
  · have HKN := Lib.hid hKn
    have hnl : ¬ K < n := by omega
    clear hKn
    go_wp2_with fail
    refine (blank_any n n len HLEN.out (by omega) _).mono ?_
    rintro e w8 ⟨g2, hg2, rfl, hT, hb8⟩
    have HS8 := Lib.hid (HS7.out.below hb8)
    have R8 := Lib.hid (R7.out.below hb8 R7.out.lt)
    have HT8 := Lib.hid hT
    have hgg : g ≠ g2 := by have := HS7.out.tab.lt; omega
    have hg2w : w.heap.size ≤ g2 := Nat.le_trans HS7.out.old.size hg2
    have hg2R : w.heap.size + 1 ≠ g2 := by have := R7.out.lt; omega
    have hg2B : B ≠ g2 := by have := lt_of_heap HS7.out.box; omega
    have hB8 : Below w.heap.size w w8 := HS8.out.old.below (by simp; omega)
    have HB8 := Lib.hid hB8
    clear hT hb8 hg2 HS7 R7 hB8
    unfold tabV
    go_wp2_with (refine wpList_store_whole rfl 104 _ _ rfl w8.heap.size (tabRow g2 n n len) zeroRow 104 rfl rfl (heap_alloc_new _ _) rfl (by kernel_rfl) (tabRow_ones _ _ _ _) ?_; intro w9 h9 k9 s9; go_frame)
    have hbx := boxed (w0 := w) h9.out k9.out HT8.out (Kept.of_below HB8.out)
    obtain ⟨B2, hB2e⟩ : ∃ B2, B2 = w8.heap.size := ⟨_, rfl⟩
    rw [← hB2e] at hbx ⊢
    have R9 := Lib.hid (R8.out.below (hB2e ▸ hbx.2) R8.out.lt)
    have HS9 := Lib.hid (HS8.out.below (hB2e ▸ hbx.2))
    have hTW : TwoS 104 B2 g2 n n len B g 0 n m N1 N1 W (invTo n W 0) w w9 := ⟨by rw [invTo_zero]; exact hbx.1, HS9.out.box, HS9.out.tab.src, HS9.out.tab.lt, hgg, hg2B⟩
    have HTW := Lib.hid hTW
    clear h9 k9 s9 hbx hTW HS8 HS9 R8 HT8 HB8 hB2e
    go_loopw [47] (fun iv wr => ∃ i : Nat, i ≤ n ∧ iv = .int .i64 i ∧ (TwoS 104 B2 g2 n n len B g 0 n m N1 N1 W (invTo n W i) w wr ∧ ResAt (w.heap.size + 1) 62 wr)) (fun iv _ => n - (intOf iv).toNat)
    case atStart => exact ⟨0, by omega, rfl, HTW.out, R9.out⟩
    case round =>
      clear HTW R9
      obtain ⟨i, hi, rfl, hA⟩ := hrel
      by_cases hlt : i < n
      · obtain ⟨A, hA2⟩ : ∃ A, i * n = A := ⟨_, rfl⟩
        obtain ⟨D, hD⟩ : ∃ D, i * m = D := ⟨_, rfl⟩
        have fA := row_fits HLEN.out hA2 hlt
        have fD := row_fits HN1.out hD hlt
        obtain ⟨S, hS⟩ : ∃ S, S = fun v => TwoS 104 B2 g2 n n len B g 0 n m N1 N1 W (invTo n W i) w v ∧ ResAt (w.heap.size + 1) 62 v := ⟨_, rfl⟩
        have h1 : S wr := by rw [hS]; exact hA
        have hSb : ∀ v v', S v → Below v.heap.size v v' → S v' := by rw [hS]; exact fun v v' hv hb => ⟨hv.1.below hb, hv.2.below hb hv.2.lt⟩
        have c0 : ∀ u : Of S, u.w.cell? ⟨B2, 0, none⟩ = some (.int .i64 n) := by rw [hS]; exact fun u => u.ok.1.one.c0
        have c1 : ∀ u : Of S, u.w.cell? ⟨B2, 1, none⟩ = some (.int .i64 n) := by rw [hS]; exact fun u => u.ok.1.one.c1
        have c2 : ∀ u : Of S, u.w.cell? ⟨B2, 2, none⟩ = some (.slice (some ⟨g2, 0, none⟩) len len) := by rw [hS]; exact fun u => u.ok.1.one.c2
        have k0 : ∀ u : Of S, u.w.cell? ⟨B, 0, none⟩ = some (.int .i64 n) := by rw [hS]; exact fun u => (heap_cell0 u.ok.1.two).1
        have k1 : ∀ u : Of S, u.w.cell? ⟨B, 1, none⟩ = some (.int .i64 m) := by rw [hS]; exact fun u => (heap_cell0 u.ok.1.two).2.1
        have k2 : ∀ u : Of S, u.w.cell? ⟨B, 2, none⟩ = some (.slice (some ⟨g, 0, none⟩) N1 N1) := by rw [hS]; exact fun u => (heap_cell0 u.ok.1.two).2.2
        have Q1 := Lib.hid (quiet_S hSb (fun v _ => trow_any g2 n n len i A hA2 fA (by omega) hn1 v))
        have Q2 := Lib.hid (quiet_S hSb (fun v _ => trow_any g n m N1 i D hD fD hN1m (by omega) v))
        haveI : Nonempty (Of S) := ⟨⟨_, h1⟩⟩
        have hd : S wr.drew := by rw [hS]; exact ⟨hA.1.drew, hA.2⟩
        have HH := Lib.hid hd
        have HS := Lib.hid hS
        have HA := Lib.hid hA2
        have HD := Lib.hid hD
        have hmn : m - n = n := by have := HM.out; omega
        have HMN := Lib.hid hmn
        clear h1 hS hA hA2 hD hd hSb hmn
        go_wp2_with fail
        refine wp_region_S_tail S (by kernel_rfl) rfl (copy_same (d := 52) (s := 57) (k := 58) rfl rfl (by decide) (by decide)) (by kernel_rfl) (by kernel_rfl) (by kernel_rfl) HH.out ?_
        simp only [initL, lastL, List.cons_append, List.nil_append, Oper.mute]
        repeat (go_big_quiet_step (first | (go_at_call 60; first | (with_reducible exact Q1.out _) | (with_reducible exact Q2.out _))))
        refine wpQuiet_nil ?_
        rintro w2 ⟨u2, e2⟩
        have h2 : S w2 := e2 ▸ u2.ok
        rw [HS.out] at h2
        have H2 := Lib.hid h2
        clear e2 u2 h2 c0 c1 c2 k0 k1 k2 Q1 Q2 this HH
        refine ends_copy_row (.tmp 52) (.tmp 57) 60 60 rfl 5 Tryz.underlying60 (by kernel_rfl) g2 A n (len - A) g (D + n) (m - n) (N1 - D - n) n rfl rfl (by rw [HMN.out]; exact (Nat.min_self n).symm) ((textOf (fun b => W i (n + b)) n).map u8v) (by rw [u8v_len, length_textOf]) (by
          have := range_drop (H2.out.1.src.row hlt) n
          rw [Nat.zero_add, HD.out, ← List.map_drop, text_from _ n n m (by have := HM.out; omega)] at this; exact this) (fun v hv => by obtain ⟨x, _, rfl⟩ := List.mem_map.1 hv; rfl) _ _ _ 5 (H2.out.1.one.tab.parts hlt) (by rw [u8v_len, length_ahead _ hlt, HA.out]) (by rw [u8v_len, length_textOf]) ?_
        intro w3 hg3 hk3
        have H3 := Lib.hid (And.intro (H2.out.1.change (Tab.of_parts hlt _ hg3.out) hk3.out) (H2.out.2.kept hk3.out hg2R))
        simp only [Act.put, List.setIfInBounds_toArray, List.set_cons_zero, List.set_cons_succ]
        clear hg3 hk3
        go_wp2_with fail
        go_roundw
        case rel => exact ⟨i + 1, by omega, by go_num, by rw [← invTo_step]; exact H3.out.1, H3.out.2⟩
        case measure => simp [intOf]; omega
      · obtain rfl : i = n := by omega
        have d0 := hA.1.one.c0
        have d1 := hA.1.one.c1
        have d2 := hA.1.one.c2
        have HA := Lib.hid hA
        clear hA
        go_wp2_with (refine wpList_store_whole rfl 62 _ _ rfl (w.heap.size + 1) (tabRow g2 i i len) zeroRow 62 rfl rfl HA.out.2 rfl (by kernel_rfl) (tabRow_ones _ _ _ _) ?_; intro w4 h4 k4 s4; go_frame)
        have hTf : Tab g2 (invM i X) i i w4 := ((HA.out.1.one.tab.alike (HFIN.out HKN.out)).keep (k4.out.block _ HA.out.1.one.tab.lt (by simp; omega)))
        have hBf : Below w.heap.size w w4 := below_kept (HA.out.1.one.old.below (by simp; omega)) k4.out (by omega) HA.out.1.one.old.size
        exact bodyPost_ret (results_mid2 Tryz.results39 _ _ (w.heap.size + 1) 0 (tabRow g2 i i len) _ rfl (range_of_list h4.out) Tryz.underlying62 rfl (by kernel_rfl)) rfl ⟨_, _, rfl, .inl ⟨HKN.out, PA.ok HLEN.out hg2w hTf⟩, hBf⟩
  · have HKN := Lib.hid hKn
    have hnl : K < n := by omega
    clear hKn
    go_wp2_with fail
    refine (nothing_any 18 _).mono ?_
    rintro e w8 ⟨g8, hg8, rfl, hF, hb8⟩
    have HS8 := Lib.hid (HS7.out.below hb8)
    have R8 := Lib.hid (R7.out.below hb8 R7.out.lt)
    have hB8 : Below w.heap.size w w8 := HS8.out.old.below (by simp; omega)
    have HB8 := Lib.hid hB8
    have HF := Lib.hid hF
    have hgr : g8 ≠ w.heap.size + 1 := by have := R7.out.lt; omega
    have hg8w : w.heap.size ≤ g8 := Nat.le_trans HS7.out.old.size hg8
    clear hb8 hF hB8
    unfold noneV faultV
    go_wp2_with (refine wpList_store_whole rfl 62 _ _ rfl (w.heap.size + 1) zeroRow zeroRow 62 rfl rfl R8.out rfl (by kernel_rfl) (by decide) ?_; intro w3 h3 k3 s3; go_frame)
    have := fail_post (code := 18) (by decide) HB8.out (Nat.le_succ _) hg8w HF.out hgr k3.out
    exact bodyPost_ret (results_mid2 Tryz.results39 _ _ (w.heap.size + 1) 0 zeroRow _ rfl (range_of_list h3.out) Tryz.underlying62 rfl (by kernel_rfl)) rfl ⟨_, _, rfl, .inr ⟨HKN.out, this.1⟩, this.2⟩
end Go.Proofs.YteanbflbclmeeaaGreat
