/- The walk of MatrixCauchy. -/
import Derived.Test.YtnaeekjocaecmaaMOwn
namespace Go.Proofs.Ytnaeekjocaecmaa
open Go.RowKit

/-- Rows of Identity over Cauchy have an inverse. -/
theorem picked_full (k m : Nat) (rows left : List Nat) (hkm : k + m ≤ 256) (hl : rows.length = k) (h : Picked (k + m) rows left) : rk k k (pickM (underM k dl (cauM k)) fun r => rows.getD r 0) = k := by
  have hlt : ∀ r, r < k → rows.getD r 0 < k + m := fun r hr => h.lt _ (List.mem_append_left _ (by rw [List.getD, List.getElem?_eq_getElem (by omega)]; exact List.getElem_mem _))
  refine rows_full k (k + m) _ (fun r => rows.getD r 0) by8 (fun a b ha hb e => ?_) (by omega) hlt (fun r s hr hs e => h.inj (by omega) (by omega) e) (fun r j hr hj hp => ?_) (fun r j hr hj hp => ?_)
  · have := congrArg UInt8.toNat e
    rw [by8_nat (by omega), by8_nat (by omega)] at this; exact this
  · have hp : rows.getD r 0 < k := hp
    unfold pickM underM; rw [if_pos hp]
  · have hlt2 := hlt r hr
    have hp : k ≤ rows.getD r 0 := hp
    show underM k dl (cauM k) (rows.getD r 0) j = inv (by8 (rows.getD r 0) ^^^ by8 j)
    unfold underM
    rw [if_neg (by omega), cauM_eq, xr_eq, show k + (rows.getD r 0 - k) = rows.getD r 0 by omega]
/-- What stands while rows are picked. -/
structure ChS (S0 : World) (n k : Nat) (D : Nat) (v1 v2 : Value) (left rows : List Nat) (wr : World) : Prop where
  l : Own D v1 left wr
  r : Own S0.heap.size v2 rows wr
  far : ∀ g, v2.ownBlock = some g → g < D
  lo : S0.heap.size ≤ D
  hi : D ≤ wr.heap.size
  old : Below S0.heap.size S0 wr
  pk : Picked n rows left
  len : rows.length = k
  sum : rows.length + left.length = n
theorem list_range_picked (n : Nat) : Picked n [] (List.range n) := ⟨by rw [List.nil_append]; exact List.pairwise_lt_range.imp (fun h => Nat.ne_of_lt h), fun x hx => by simpa using hx⟩
set_option maxRecDepth 20000 in
set_option maxHeartbeats 3000000 in
theorem Cauchy_walk (k0 m0 : Int) (a0 : Option Addr) (len cap : Nat) (f : Nat → Int) (hk0 : -9223372036854775808 ≤ k0 ∧ k0 ≤ 9223372036854775807) (hm0 : -9223372036854775808 ≤ m0 ∧ m0 ≤ 9223372036854775807) (hfb : ∀ j, -9223372036854775808 ≤ f j ∧ f j ≤ 9223372036854775807) (w : World) (hf : 0 < len → ∃ b o, a0 = some ⟨b, o, none⟩ ∧ b < w.heap.size ∧ Ints b o len f w) :
    Calls Try.prog 7 #[.int .i64 k0, .int .i64 m0, .slice a0 len cap] w fun e w' => e = .returned (.bool true) ∧ Below w.heap.size w w' := by
  obtain ⟨k, hk⟩ : ∃ k, k = 1 + pk k0 12 := ⟨_, rfl⟩
  have hk12 : 1 ≤ k ∧ k ≤ 12 := by have := pk_lt k0 12 (by decide); omega
  have hsum : (1 : Int) + (pk k0 12 : Int) = (k : Int) := by omega
  obtain ⟨m, hm⟩ : ∃ m, m = 1 + pk m0 12 := ⟨_, rfl⟩
  have hm12 : 1 ≤ m ∧ m ≤ 12 := by have := pk_lt m0 12 (by decide); omega
  have hsum2 : (1 : Int) + (pk m0 12 : Int) = (m : Int) := by omega
  obtain ⟨n, hn⟩ : ∃ n, k + m = n := ⟨_, rfl⟩
  have hsum3 : (k : Int) + (m : Int) = (n : Int) := by omega
  have hn24 : n ≤ 24 := by omega
  obtain ⟨N1, hN1⟩ : ∃ N, k * k = N := ⟨_, rfl⟩
  obtain ⟨N2, hN2⟩ : ∃ N, m * k = N := ⟨_, rfl⟩
  obtain ⟨N3, hN3⟩ : ∃ N, n * k = N := ⟨_, rfl⟩
  have H1 := Lib.hid hN1
  have H2 := Lib.hid hN2
  have H3 := Lib.hid hN3
  have HNN := Lib.hid hn
  have HF := Lib.hid hf
  clear hk hm hN1 hN2 hN3 hn hf
  go_enter Try.func7, Try.ntmps7
  go_wp2_with fail
  refine (known_any _).mono ?_
  rintro e w1 ⟨rfl, hb1⟩
  have B0_1 := Lib.hid hb1
  clear hb1
  go_wp2_with fail
  refine (pick_any k0 12 (by decide) hk0 _).mono ?_
  rintro e w' ⟨rfl, rfl⟩
  go_wp2_with fail
  refine (pick_any m0 12 (by decide) hm0 _).mono ?_
  rintro e w' ⟨rfl, rfl⟩
  go_wp2_with fail
  refine (tIdent k N1 (by omega) (by omega) H1.out _).mono ?_
  rintro e w2 ⟨g1, rfl, t0_2, hb2⟩
  have B_1 := Lib.hid (B0_1.out.trans ((hb2).mono B0_1.out.size))
  have It_2 := Lib.hid t0_2
  clear B0_1 t0_2 hb2
  go_wp2_with (refine wpList_store_whole rfl 24 _ _ rfl w2.heap.size [.int .i64 k, .int .i64 k, .slice (some ⟨g1, 0, none⟩) N1 N1] zeroRow 24 rfl rfl (heap_alloc_new _ _) rfl (by kernel_rfl) (mv_ones _ _ _ _) ?_; intro w3 h3 k3 s3; have hs3 := after_box k3.out; have i_3 := Lib.hid ((BoxT.of h3.out k3.out It_2.out).1); have B_4 := Lib.hid (B_1.out.trans ((hs3).mono B_1.out.size)); clear B_1 It_2 hs3; go_frame)
  clear h3 k3 s3
  refine (tCauchy m k N2 (by omega) (by omega) (by omega) (by omega) (by omega) H2.out _).mono ?_
  rintro e w4 ⟨g2, rfl, t0_4, hb4⟩
  have B_5 := Lib.hid (B_4.out.trans ((hb4).mono B_4.out.size))
  have i_6 := Lib.hid (i_3.out.below (hb4))
  have Ct_7 := Lib.hid t0_4
  clear B_4 i_3 t0_4 hb4
  go_wp2_with (refine wpList_store_whole rfl 24 _ _ rfl w4.heap.size [.int .i64 m, .int .i64 k, .slice (some ⟨g2, 0, none⟩) N2 N2] zeroRow 24 rfl rfl (heap_alloc_new _ _) rfl (by kernel_rfl) (mv_ones _ _ _ _) ?_; intro w5 h5 k5 s5; have hs5 := after_box k5.out; have c_8 := Lib.hid ((BoxT.of h5.out k5.out Ct_7.out).1); have B_9 := Lib.hid (B_5.out.trans ((hs5).mono B_5.out.size)); have i_10 := Lib.hid (i_6.out.below (hs5)); obtain ⟨c0_11, c1_11, c2_11⟩ := heap_cell0 i_10.out.box; obtain ⟨c0_12, c1_12, c2_12⟩ := heap_cell0 c_8.out.box; clear B_5 i_6 Ct_7 hs5; go_frame)
  clear h5 k5 s5
  refine (tUnder g1 g2 k m n k N1 N2 N3 _ _ (by omega) (by omega) HNN.out (by omega) (by omega) (by omega) H1.out H2.out H3.out _ i_10.out.tab c_8.out.tab).mono ?_
  rintro e w6 ⟨g3, rfl, t0_6, hb6⟩
  have B_13 := Lib.hid (B_9.out.trans ((hb6).mono B_9.out.size))
  have i_14 := Lib.hid (i_10.out.below (hb6))
  have c_15 := Lib.hid (c_8.out.below (hb6))
  have At_16 := Lib.hid t0_6
  clear B_9 i_10 c_8 t0_6 hb6 c0_11 c0_12 c1_11 c1_12 c2_11 c2_12
  go_wp2_with (refine wpList_store_whole rfl 24 _ _ rfl w6.heap.size [.int .i64 n, .int .i64 k, .slice (some ⟨g3, 0, none⟩) N3 N3] zeroRow 24 rfl rfl (heap_alloc_new _ _) rfl (by kernel_rfl) (mv_ones _ _ _ _) ?_; intro w7 h7 k7 s7; have hs7 := after_box k7.out; have a_17 := Lib.hid ((BoxT.of h7.out k7.out At_16.out).1); have B_18 := Lib.hid (B_13.out.trans ((hs7).mono B_13.out.size)); clear B_13 At_16 hs7; go_frame)
  clear h7 k7 s7
  obtain ⟨S0, hS0⟩ : ∃ S0, S0 = w7 := ⟨_, rfl⟩
  obtain ⟨BA, hBA⟩ : ∃ BA, BA = w6.heap.size := ⟨_, rfl⟩
  have HA0 : Hid (BoxT BA g3 n k N3 (underM k dl (cauM k)) S0) := Lib.hid (by rw [hS0, hBA]; exact a_17.out)
  have HB0 : Hid (Below w.heap.size w S0) := Lib.hid (by rw [hS0]; exact B_18.out)
  rw [← hBA]
  clear a_17 B_18 hBA
  go_loopw [14, 15] (fun lv nv wr => ∃ i : Nat, i ≤ n ∧ nv = .int .i64 i ∧ (Own S0.heap.size lv (List.range i) wr ∧ Below S0.heap.size S0 wr)) (fun _ nv _ => n - (intOf nv).toNat)
  case atStart => exact ⟨0, by omega, rfl, Own.nil _ _, by rw [hS0]; exact Below.refl _ _⟩
  case round =>
    clear hS0
    obtain ⟨i, hi, rfl, hO⟩ := hrel
    have HO := Lib.hid hO
    clear hO
    by_cases hlt : i < n
    · go_wp2_with (refine wpList_append_ints rfl (.tmp 68) (.tmp 70) rfl S0.heap.size _ (List.range i) rfl (HO.out.1.alloc _) ⟨wr.heap.size, 0, none⟩ 1 1 [i] rfl rfl (one_int wr i) (by rw [List.length_range]; omega) (by have := HO.out.2.size; simp; omega) ?_; intro v' w' ho hg; go_frame)
      go_roundw
      case rel => exact ⟨i + 1, by omega, by go_num, by rw [List.range_succ]; exact ho.out, grown_below (HO.out.2.alloc HO.out.2.size _) (by have := HO.out.2.size; simp; omega) (HO.out.1.alloc _) hg.out⟩
      case measure => simp [intOf]; omega
    · have hin : n = i := by omega
      subst hin
      have HC := Lib.hid (show ChS S0 n 0 S0.heap.size _ (.slice none 0 0) (List.range n) [] wr from ⟨HO.out.1, Own.nil _ _, fun g hg => (by cases hg), Nat.le_refl _, HO.out.2.size, HO.out.2, list_range_picked n, rfl, by simp⟩)
      clear HO
      go_wp2_with fail
      go_loopw [14, 16, 17] (fun lv rv nv wr => ∃ (i : Nat) (D : Nat) (left rows : List Nat), i ≤ k ∧ nv = .int .i64 i ∧ ChS S0 n i D lv rv left rows wr) (fun _ _ nv _ => k - (intOf nv).toNat)
      case atStart => exact ⟨0, S0.heap.size, List.range n, [], by omega, rfl, HC.out⟩
      case round =>
        clear HC
        obtain ⟨i, D, left, rows, hi, rfl, hC⟩ := hrel
        by_cases hlt : i < k
        · have hll : left.length = n - i := by have := hC.sum; have := hC.len; omega
          have hl0 : 0 < left.length := by have := HNN.out; omega
          obtain ⟨g4, cap4, rfl, hcap4, hg4, hg4l⟩ := hC.l.form hl0
          obtain ⟨L, hL⟩ : ∃ L, L = left.length := ⟨_, rfl⟩
          have hCl := hC.l
          rw [← hL] at hcap4 hl0 hll ⊢
          have hL24 : L ≤ 24 := by omega
          have HLL := Lib.hid hll
          clear hll
          have HL := Lib.hid hL
          have HCL := Lib.hid hCl
          have HC := Lib.hid hC
          clear hC hL hCl
          by_cases hic : i < len
          · obtain ⟨b, o, rfl, hbl, hin⟩ := HF.out (by omega)
            have cch : wr.cell? ⟨b, o + i, none⟩ = some (.int .i64 (f i)) := (HC.out.old.cell (p := ⟨b, o + i, none⟩) (Nat.lt_of_lt_of_le hbl HB0.out.size)).trans ((HB0.out.cell (p := ⟨b, o + i, none⟩) hbl).trans (hin i hic))
            have hat := pk_lt (f i) L (by omega)
            have HPK := Lib.hid (pick_any (f i) L (by omega) (hfb i))
            clear hin hbl
            go_wp2_with fail
            refine (HPK.out _).mono ?_
            rintro e w' ⟨rfl, rfl⟩
            obtain ⟨at0, hat0⟩ : ∃ at0, at0 = pk (f i) L := ⟨_, rfl⟩
            rw [← hat0] at hat ⊢
            clear hat0 HPK cch
            obtain ⟨x, hx⟩ : ∃ x, left[at0]? = some x := ⟨_, List.getElem?_eq_getElem (by rw [← HL.out]; exact hat)⟩
            have cl := HCL.out.cell' HL.out hx
            have HX := Lib.hid hx
            clear hx
            go_wp2_with (refine wpList_append_ints rfl (.tmp 88) (.tmp 93) rfl S0.heap.size _ rows rfl (HC.out.r.alloc _) ⟨wr.heap.size, 0, none⟩ 1 1 [x] rfl rfl (one_int wr x) (by have := HC.out.len; omega) (by have := HC.out.old.size; simp; omega) ?_; intro v2 wa ho2 hg2; go_frame)
            have hO2 : Own D (.slice (some ⟨g4, 0, none⟩) left.length cap4) left wa := (HC.out.l.alloc _).kept hg2.out (.inr (fun e => by have := HC.out.far g4 e.symm; omega))
            have hB2 : Below S0.heap.size S0 wa := grown_below (HC.out.old.alloc HC.out.old.size _) (by have := HC.out.old.size; simp; omega) (HC.out.r.alloc _) hg2.out
            obtain ⟨a1, ha1⟩ : ∃ a1, a1 = at0 + 1 := ⟨_, rfl⟩
            have hw1 : IntKind.i64.wrap ((at0 : Int) + 1) = (a1 : Int) := by rw [IntWalk.i64_in _ (by omega)]; omega
            have HT1 : Hid ((left.take at0).length = at0) := Lib.hid (by rw [List.length_take]; have := HL.out; omega)
            have HT2 : Hid ((left.drop a1).length = L - a1) := Lib.hid (by rw [List.length_drop]; have := HL.out; omega)
            have HO2 := Lib.hid hO2
            have HB2 := Lib.hid hB2
            have N1 := Lib.hid (HO2.out.takes at0)
            have N2 : Hid (∀ wb : World, wa.grownBy wb none → ∀ j u, ((left.drop a1).map iv)[j]? = some u → wb.cell? ((⟨g4, a1, none⟩ : Addr).add j) = some u) := Lib.hid (fun wb hg => (HO2.out.kept hg (.inr (fun e => by cases e))).drops a1)
            have N3 : Hid (cap4 = a1 → left.drop a1 = []) := Lib.hid (fun e => List.eq_nil_of_length_eq_zero (by rw [HT2.out]; omega))
            have FIN : Hid (∀ (v3 v4 : Value) (w3 w4 : World), Own wa.heap.size v3 (left.take at0) w3 → wa.grownBy w3 none → Own wa.heap.size v4 (left.take at0 ++ left.drop a1) w4 → w3.grownBy w4 v3.ownBlock → ChS S0 n (i + 1) wa.heap.size v4 v2 (left.take at0 ++ left.drop a1) (rows ++ [x]) w4) := Lib.hid (fun v3 v4 w3 w4 h3 g3 h4 g4' => by
              have b3 : Below wa.heap.size wa w3 := ⟨g3.os, g3.tape, g3.output, g3.size, fun k hk => g3.block k hk (fun e => by cases e)⟩
              have b4 : Below wa.heap.size wa w4 := b3.grown g4' b3.size (fun k hk => (h3.lt k hk).1)
              have hp := HC.out.pk.step HX.out
              rw [← ha1] at hp
              refine ⟨h4, ho2.out.below b4, fun g hg => (ho2.out.lt g hg).2, HB2.out.size, b4.size, HB2.out.trans (b4.mono HB2.out.size), hp, by rw [List.length_append, HC.out.len]; rfl, ?_⟩
              have := HC.out.sum
              have := HL.out
              rw [List.length_append, List.length_append, HT1.out, HT2.out, List.length_singleton]
              omega)
            have ha1L : a1 ≤ L := by omega
            have q1 : (0 : Int) ≤ (at0 : Int) := by omega
            have q2 : (at0 : Int) ≤ (cap4 : Int) := by omega
            have q3 : (0 : Int) ≤ (a1 : Int) := by omega
            have q4 : (a1 : Int) ≤ (L : Int) := by omega
            clear hO2 hB2 ho2 hg2 cl ha1
            by_cases hcap : cap4 = a1
            · have N4 : Hid (left.drop a1 = []) := Lib.hid (N3.out hcap)
              have hLa : L = a1 := by omega
              subst hLa
              subst hcap
              go_region_held3 (fun _ => True) (exact trivial) (first | (refine step_append_ints rfl (.const (.slice none 0 0)) (.tmp 97) rfl wa.heap.size (.slice none 0 0) [] rfl (Own.nil _ _) ⟨g4, 0, none⟩ at0 _ (left.take at0) rfl HT1.out N1.out (by show 0 + at0 ≤ 1000000; omega) (Nat.le_refl _) (some 98) rfl ?_; intro v3 wb ho3 hg3'; have hg3 := Lib.hid (grown_of_drew hg3'.out); clear hg3') | (refine step_append_ints rfl (.tmp 98) (.tmp 102) rfl wa.heap.size v3 (left.take at0) rfl ho3.out ⟨g4, 0, none⟩ _ _ [] rfl (by simp) (fun j u hu => by simp at hu) (by rw [HT1.out]; omega) hg3.out.size (some 103) rfl ?_; intro v4 wc ho4 hg4') | fail)
              have HF4 := Lib.hid (FIN.out v3 v4 wb wc ho3.out hg3.out (by rw [N4.out]; exact ho4.out) hg4'.out)
              clear ho3 hg3 ho4 hg4'
              go_wp2_with fail
              go_roundw
              case rel => exact ⟨i + 1, _, _, _, by omega, by go_num, HF4.out⟩
              case measure => simp [intOf]; omega
            · have hcapI : ¬ ((cap4 : Int) = (a1 : Int)) := by omega
              go_region_held3 (fun _ => True) (exact trivial) (first | (refine step_append_ints rfl (.const (.slice none 0 0)) (.tmp 97) rfl wa.heap.size (.slice none 0 0) [] rfl (Own.nil _ _) ⟨g4, 0, none⟩ at0 _ (left.take at0) rfl HT1.out N1.out (by show 0 + at0 ≤ 1000000; omega) (Nat.le_refl _) (some 98) rfl ?_; intro v3 wb ho3 hg3'; have hg3 := Lib.hid (grown_of_drew hg3'.out); clear hg3') | (refine step_append_ints rfl (.tmp 98) (.tmp 102) rfl wa.heap.size v3 (left.take at0) rfl ho3.out ⟨g4, a1, none⟩ _ _ (left.drop a1) rfl HT2.out (N2.out _ hg3.out) (by rw [HT1.out]; omega) hg3.out.size (some 103) rfl ?_; intro v4 wc ho4 hg4') | fail)
              have HF4 := Lib.hid (FIN.out v3 v4 wb wc ho3.out hg3.out ho4.out hg4'.out)
              clear ho3 hg3 ho4 hg4'
              go_wp2_with fail
              go_roundw
              case rel => exact ⟨i + 1, _, _, _, by omega, by go_num, HF4.out⟩
              case measure => simp [intOf]; omega
          · have hat : 0 < L := by omega
            obtain ⟨at0, hat0⟩ : ∃ at0 : Nat, at0 = 0 := ⟨_, rfl⟩
            have hz0 : (0 : Int) = (at0 : Int) := by rw [hat0]; rfl
            rw [← hat0] at hat
            have HAZ := Lib.hid hat0
            clear hat0
            have HZ0 := Lib.hid hz0
            clear hz0
            obtain ⟨x, hx⟩ : ∃ x, left[at0]? = some x := ⟨_, List.getElem?_eq_getElem (by rw [← HL.out]; exact hat)⟩
            have cl := HCL.out.cell' HL.out hx
            have cl0 : wr.cell? ⟨g4, 0, none⟩ = some (.int .i64 (x : Int)) := by have := cl; rw [HAZ.out] at this; exact this
            have HX := Lib.hid hx
            clear hx
            go_wp2_with (refine wpList_append_ints rfl (.tmp 88) (.tmp 93) rfl S0.heap.size _ rows rfl (HC.out.r.alloc _) ⟨wr.heap.size, 0, none⟩ 1 1 [x] rfl rfl (one_int wr x) (by have := HC.out.len; omega) (by have := HC.out.old.size; simp; omega) ?_; intro v2 wa ho2 hg2; go_frame)
            rw [HZ0.out]
            clear cl0
            have hO2 : Own D (.slice (some ⟨g4, 0, none⟩) left.length cap4) left wa := (HC.out.l.alloc _).kept hg2.out (.inr (fun e => by have := HC.out.far g4 e.symm; omega))
            have hB2 : Below S0.heap.size S0 wa := grown_below (HC.out.old.alloc HC.out.old.size _) (by have := HC.out.old.size; simp; omega) (HC.out.r.alloc _) hg2.out
            obtain ⟨a1, ha1⟩ : ∃ a1, a1 = at0 + 1 := ⟨_, rfl⟩
            have hw1 : IntKind.i64.wrap ((at0 : Int) + 1) = (a1 : Int) := by rw [IntWalk.i64_in _ (by omega)]; omega
            have HT1 : Hid ((left.take at0).length = at0) := Lib.hid (by rw [List.length_take]; have := HL.out; omega)
            have HT2 : Hid ((left.drop a1).length = L - a1) := Lib.hid (by rw [List.length_drop]; have := HL.out; omega)
            have HO2 := Lib.hid hO2
            have HB2 := Lib.hid hB2
            have N1 := Lib.hid (HO2.out.takes at0)
            have N2 : Hid (∀ wb : World, wa.grownBy wb none → ∀ j u, ((left.drop a1).map iv)[j]? = some u → wb.cell? ((⟨g4, a1, none⟩ : Addr).add j) = some u) := Lib.hid (fun wb hg => (HO2.out.kept hg (.inr (fun e => by cases e))).drops a1)
            have N3 : Hid (cap4 = a1 → left.drop a1 = []) := Lib.hid (fun e => List.eq_nil_of_length_eq_zero (by rw [HT2.out]; omega))
            have FIN : Hid (∀ (v3 v4 : Value) (w3 w4 : World), Own wa.heap.size v3 (left.take at0) w3 → wa.grownBy w3 none → Own wa.heap.size v4 (left.take at0 ++ left.drop a1) w4 → w3.grownBy w4 v3.ownBlock → ChS S0 n (i + 1) wa.heap.size v4 v2 (left.take at0 ++ left.drop a1) (rows ++ [x]) w4) := Lib.hid (fun v3 v4 w3 w4 h3 g3 h4 g4' => by
              have b3 : Below wa.heap.size wa w3 := ⟨g3.os, g3.tape, g3.output, g3.size, fun k hk => g3.block k hk (fun e => by cases e)⟩
              have b4 : Below wa.heap.size wa w4 := b3.grown g4' b3.size (fun k hk => (h3.lt k hk).1)
              have hp := HC.out.pk.step HX.out
              rw [← ha1] at hp
              refine ⟨h4, ho2.out.below b4, fun g hg => (ho2.out.lt g hg).2, HB2.out.size, b4.size, HB2.out.trans (b4.mono HB2.out.size), hp, by rw [List.length_append, HC.out.len]; rfl, ?_⟩
              have := HC.out.sum
              have := HL.out
              rw [List.length_append, List.length_append, HT1.out, HT2.out, List.length_singleton]
              omega)
            have ha1L : a1 ≤ L := by omega
            have q1 : (0 : Int) ≤ (at0 : Int) := by omega
            have q2 : (at0 : Int) ≤ (cap4 : Int) := by omega
            have q3 : (0 : Int) ≤ (a1 : Int) := by omega
            have q4 : (a1 : Int) ≤ (L : Int) := by omega
            clear hO2 hB2 ho2 hg2 cl ha1
            by_cases hcap : cap4 = a1
            · have N4 : Hid (left.drop a1 = []) := Lib.hid (N3.out hcap)
              have hLa : L = a1 := by omega
              subst hLa
              subst hcap
              go_region_held3 (fun _ => True) (exact trivial) (first | (refine step_append_ints rfl (.const (.slice none 0 0)) (.tmp 97) rfl wa.heap.size (.slice none 0 0) [] rfl (Own.nil _ _) ⟨g4, 0, none⟩ at0 _ (left.take at0) rfl HT1.out N1.out (by show 0 + at0 ≤ 1000000; omega) (Nat.le_refl _) (some 98) rfl ?_; intro v3 wb ho3 hg3'; have hg3 := Lib.hid (grown_of_drew hg3'.out); clear hg3') | (refine step_append_ints rfl (.tmp 98) (.tmp 102) rfl wa.heap.size v3 (left.take at0) rfl ho3.out ⟨g4, 0, none⟩ _ _ [] rfl (by simp) (fun j u hu => by simp at hu) (by rw [HT1.out]; omega) hg3.out.size (some 103) rfl ?_; intro v4 wc ho4 hg4') | fail)
              have HF4 := Lib.hid (FIN.out v3 v4 wb wc ho3.out hg3.out (by rw [N4.out]; exact ho4.out) hg4'.out)
              clear ho3 hg3 ho4 hg4'
              go_wp2_with fail
              go_roundw
              case rel => exact ⟨i + 1, _, _, _, by omega, by go_num, HF4.out⟩
              case measure => simp [intOf]; omega
            · have hcapI : ¬ ((cap4 : Int) = (a1 : Int)) := by omega
              go_region_held3 (fun _ => True) (exact trivial) (first | (refine step_append_ints rfl (.const (.slice none 0 0)) (.tmp 97) rfl wa.heap.size (.slice none 0 0) [] rfl (Own.nil _ _) ⟨g4, 0, none⟩ at0 _ (left.take at0) rfl HT1.out N1.out (by show 0 + at0 ≤ 1000000; omega) (Nat.le_refl _) (some 98) rfl ?_; intro v3 wb ho3 hg3'; have hg3 := Lib.hid (grown_of_drew hg3'.out); clear hg3') | (refine step_append_ints rfl (.tmp 98) (.tmp 102) rfl wa.heap.size v3 (left.take at0) rfl ho3.out ⟨g4, a1, none⟩ _ _ (left.drop a1) rfl HT2.out (N2.out _ hg3.out) (by rw [HT1.out]; omega) hg3.out.size (some 103) rfl ?_; intro v4 wc ho4 hg4') | fail)
              have HF4 := Lib.hid (FIN.out v3 v4 wb wc ho3.out hg3.out ho4.out hg4'.out)
              clear ho3 hg3 ho4 hg4'
              go_wp2_with fail
              go_roundw
              case rel => exact ⟨i + 1, _, _, _, by omega, by go_num, HF4.out⟩
              case measure => simp [intOf]; omega
        · have hik : k = i := by omega
          subst hik
          have hrl := hC.len
          obtain ⟨g5, cap5, rfl, hcap5, hg5, hg5l⟩ := hC.r.form (by omega)
          have hR := hC.r
          have hfull := picked_full k m rows left (by omega) hrl (by rw [HNN.out]; exact hC.pk)
          have hI := hR.ints
          rw [hrl] at hI ⊢
          have hbA := HA0.out.below hC.old
          have hrlt : ∀ j, j < k → rows.getD j 0 < n := fun j hj => hC.pk.lt _ (List.mem_append_left _ (by rw [List.getD, List.getElem?_eq_getElem (by omega)]; exact List.getElem_mem _))
          have HI := Lib.hid hI
          have HRL := Lib.hid hrlt
          have HFULL := Lib.hid hfull
          have BQ := Lib.hid (HB0.out.trans (hC.old.mono HB0.out.size))
          have AQ := Lib.hid hbA
          obtain ⟨e0, e1, e2⟩ := heap_cell0 hbA.box
          clear hC hR hI hrl hfull hbA hrlt
          obtain ⟨wq, hwq⟩ : ∃ wq, wq = wr := ⟨_, rfl⟩
          rw [← hwq] at HI BQ AQ e0 e1 e2 hg5l ⊢
          clear hwq
          go_wp2_with fail
          refine (tPick g3 n k N3 g5 0 k cap5 N1 _ (fun j => ((rows.getD j 0 : Nat) : Int)) (fun j => rows.getD j 0) (by omega) (by omega) (by omega) (by omega) H3.out (by omega) (by omega) H1.out (fun j hj => ⟨rfl, HRL.out j hj⟩) _ AQ.out.tab HI.out hg5l).mono ?_
          rintro e w1 ⟨g6, rfl, t0_1, hb1⟩
          have B_1 := Lib.hid (BQ.out.trans ((hb1).mono BQ.out.size))
          have A_2 := Lib.hid (AQ.out.below (hb1))
          have Pt_3 := Lib.hid t0_1
          clear BQ AQ t0_1 hb1 e0 e1 e2
          go_wp2_with (refine wpList_store_whole rfl 24 _ _ rfl w1.heap.size [.int .i64 k, .int .i64 k, .slice (some ⟨g6, 0, none⟩) N1 N1] zeroRow 24 rfl rfl (heap_alloc_new _ _) rfl (by kernel_rfl) (mv_ones _ _ _ _) ?_; intro w2 h2 k2 s2; have hs2 := after_box k2.out; have p_4 := Lib.hid ((BoxT.of h2.out k2.out Pt_3.out).1); have B_5 := Lib.hid (B_1.out.trans ((hs2).mono B_1.out.size)); have A_6 := Lib.hid (A_2.out.below (hs2)); obtain ⟨c0_7, c1_7, c2_7⟩ := heap_cell0 p_4.out.box; clear B_1 A_2 Pt_3 hs2; go_frame)
          clear h2 k2 s2
          refine (tInvert_ok g6 k N1 _ (by omega) (by omega) H1.out HFULL.out _ p_4.out.tab).mono ?_
          rintro e w3 ⟨g7, rfl, t0_3, hb3⟩
          have B_8 := Lib.hid (B_5.out.trans ((hb3).mono B_5.out.size))
          have A_9 := Lib.hid (A_6.out.below (hb3))
          have p_10 := Lib.hid (p_4.out.below (hb3))
          have Vt_11 := Lib.hid t0_3
          clear B_5 A_6 p_4 t0_3 hb3 c0_7 c1_7 c2_7
          go_wp2_with (refine wpList_store_whole rfl 24 _ _ rfl w3.heap.size [.int .i64 k, .int .i64 k, .slice (some ⟨g7, 0, none⟩) N1 N1] zeroRow 24 rfl rfl (heap_alloc_new _ _) rfl (by kernel_rfl) (mv_ones _ _ _ _) ?_; intro w4 h4 k4 s4; have hs4 := after_box k4.out; have v_12 := Lib.hid ((BoxT.of h4.out k4.out Vt_11.out).1); have B_13 := Lib.hid (B_8.out.trans ((hs4).mono B_8.out.size)); have A_14 := Lib.hid (A_9.out.below (hs4)); have p_15 := Lib.hid (p_10.out.below (hs4)); clear B_8 A_9 p_10 Vt_11 hs4; go_frame)
          clear h4 k4 s4
          go_ret
          exact ⟨rfl, B_13.out⟩
end Go.Proofs.Ytnaeekjocaecmaa
