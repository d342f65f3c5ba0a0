/- The document's own escapes. -/
import Derived.Test.YtiodbkloecpdcaaUEnc
namespace Go.Proofs.Ytiodbkloecpdcaa
open Go.RowKit

attribute [local go_sem high] run_index_byte
set_option maxHeartbeats 1000000 in
theorem vfree_any (c : UInt8) (w : World) : Calls Try.prog 47 #[.int .u8 c.toNat] w fun e w' => e = .returned (.bool (Ur.fre c)) ∧ w' = w := by
  go_enter Try.func47, Try.ntmps47
  go_wp2_with fail
  all_goals
    go_ret
    refine ret_bool_w ?_
    simp only [Ur.fre, Ur.sml, Ur.cap, Ur.dgt, c45, c46, c95, c126, Bool.and_eq_true, Bool.or_eq_true, decide_eq_true_eq, beq_iff_eq]
    first | omega | (rw [true_iff]; omega) | (constructor <;> intro h <;> omega)
def valAt (S : List UInt8) (i : Nat) : Int := if i < S.length then Ur.val (S.getD i 0) else -1
theorem vdigit_any (S : List UInt8) (i : Nat) (w : World) : Calls Try.prog 46 #[.string (bs S), .int .i64 i] w fun e w' => e = .returned (.int .i64 (valAt S i)) ∧ w' = w := by
  obtain ⟨s, hs⟩ : ∃ s, s = bs S := ⟨_, rfl⟩
  have hss : s.size = S.length := by rw [hs, bs_size]
  have hst : S.getD i 0 = strAt s i := by rw [hs]; exact (strAt_bs S i).symm
  rw [← hs, valAt, hst]
  clear hs hst
  by_cases h : i < S.length
  · rw [if_pos h]
    have RI : ∀ v : World, (Instr.index 9 (.string s) (.int .i64 (i : Int))).run Try.prog v = .ok (.int .u8 ((strAt s i).toNat : Int)) v := fun v => run_index_byte v _ _ _ i Try.underlying9 (by omega)
    generalize strAt s i = c at *
    obtain ⟨r, hr⟩ : ∃ r, r = Ur.val c := ⟨_, rfl⟩
    rw [← hr]
    have HR := Lib.hid hr
    clear hr
    have hc := c.toNat_lt
    go_enter Try.func46, Try.ntmps46
    go_wp2_with fail
    all_goals
      go_ret
      refine ⟨ret_int ?_, rfl⟩
      rw [HR.out]
      unfold Ur.val Ur.dgt
      simp only [Bool.and_eq_true, decide_eq_true_eq]
      repeat' split
      all_goals omega
  · rw [if_neg h]
    obtain ⟨r, hr⟩ : ∃ r : Int, r = -1 := ⟨_, rfl⟩
    rw [← hr]
    have HR := Lib.hid hr
    clear hr
    go_enter Try.func46, Try.ntmps46
    go_wp2_with fail
    go_ret
    refine ⟨?_, rfl⟩
    rw [HR.out]
    rfl
/-- What the document's Decode hands back. -/
def toldR : Ur.Told → Value
  | .ok l => .tuple #[.string (bs l), .int .i64 (-1)]
  | .bad k => .tuple #[.string (bs []), .int .i64 (k : Int)]
theorem byte_two (a b : UInt8) (ha : 0 ≤ Ur.val a) (hb : 0 ≤ Ur.val b) : 16 * Ur.val a + Ur.val b = ((Ur.byte a b).toNat : Int) := by
  have va := Ur.val_bd a
  have vb := Ur.val_bd b
  rw [Ur.byte, UInt8.toNat_ofNat']
  omega
set_option maxRecDepth 100000 in
set_option maxHeartbeats 2000000 in
theorem vDecode_any (S : List UInt8) (hS : S.length ≤ 140737488355328) (w : World) : Calls Try.prog 18 #[.string (bs S)] w fun e w' => e = .returned (toldR (Ur.dec 0 S)) ∧ Below w.heap.size w w' := by
  obtain ⟨i0, hi, hz0, hz1, hz2⟩ := info_parts infoByte
  obtain ⟨R, hR⟩ : ∃ R, R = Ur.dec 0 S := ⟨_, rfl⟩
  rw [← hR]
  have DD := Lib.hid (show Ur.Told.pre [] (Ur.dec 0 (S.drop 0)) = R by rw [Ur.Told.pre_nil, List.drop_zero]; exact hR.symm)
  have CD := Lib.hid (fun (i : Nat) (v : World) => vdigit_any S i v)
  obtain ⟨s, hs⟩ : ∃ s, s = bs S := ⟨_, rfl⟩
  have hss : s.size = S.length := by rw [hs, bs_size]
  have HST := Lib.hid (fun i => show strAt s i = S.getD i 0 by rw [hs]; exact strAt_bs S i)
  rw [← hs] at CD ⊢
  clear hs hR
  obtain ⟨N, hN⟩ : ∃ N, N = S.length := ⟨_, rfl⟩
  have HN := Lib.hid hN
  rw [← hN] at hss hS
  clear hN
  go_enter Try.func18, Try.ntmps18
  go_wp2_with fail
  go_loopw [4, 5] (fun v iv wr => ∃ (j : Nat) (T : List UInt8), j ≤ N ∧ iv = .int .i64 j ∧ T.length ≤ j ∧ Hid (Ur.Told.pre T (Ur.dec j (S.drop j)) = R) ∧ Hid (wr.ownsRow w.heap.size 5 1 v T.length (T.map u8v)) ∧ Hid (Below w.heap.size w wr)) (fun _ iv _ => N - (intOf iv).toNat)
  case atStart => exact ⟨0, [], by omega, rfl, by simp, DD, Lib.hid (by simpa using World.ownsRow_nil _ _ _ _), Lib.hid (Below.refl _ _)⟩
  case round =>
    clear DD
    obtain ⟨j, T, hj, rfl, hT, hD, hO, hB⟩ := hrel
    by_cases hlt : j < N
    · have hsr := hB.out.size
      obtain ⟨c, hc⟩ : ∃ c, c = strAt s j := ⟨_, rfl⟩
      have hcS : S.getD j 0 = c := by rw [hc]; exact (HST.out j).symm
      have RI : ∀ v : World, (Instr.index 9 (.string s) (.int .i64 (j : Int))).run Try.prog v = .ok (.int .u8 (c.toNat : Int)) v := fun v => by rw [hc]; exact run_index_byte v _ _ _ j Try.underlying9 (by omega)
      clear hc
      by_cases h37 : c.toNat = 37
      · have q37 : ((c.toNat : Int) == 37) = true := by rw [h37]; rfl
        have hc37 : S.getD j 0 = 37 := by rw [hcS]; exact UInt8.toNat_inj.1 h37
        have C1 := Lib.hid (fun v : World => CD.out (j + 1) v)
        have C2 := Lib.hid (fun v : World => CD.out (j + 2) v)
        rw [show ((j + 1 : Nat) : Int) = (j : Int) + 1 by omega] at C1
        rw [show ((j + 2 : Nat) : Int) = (j : Int) + 2 by omega] at C2
        clear h37
        by_cases hg : j + 3 ≤ N ∧ 0 ≤ Ur.val (S.getD (j + 1) 0) ∧ 0 ≤ Ur.val (S.getD (j + 2) 0)
        · obtain ⟨g1, g2, g3⟩ := hg
          have hgd := Ur.dec_good j S j (by rw [← HN.out]; exact g1) hc37 g2 g3
          rw [hgd, Ur.Told.pre_pre] at hD
          have e1 : valAt S (j + 1) = Ur.val (S.getD (j + 1) 0) := if_pos (by rw [← HN.out]; omega)
          have e2 : valAt S (j + 2) = Ur.val (S.getD (j + 2) 0) := if_pos (by rw [← HN.out]; omega)
          rw [e1] at C1; rw [e2] at C2
          have hby := byte_two _ _ g2 g3
          have v1 := Ur.val_bd (S.getD (j + 1) 0)
          have v2 := Ur.val_bd (S.getD (j + 2) 0)
          generalize Ur.byte (S.getD (j + 1) 0) (S.getD (j + 2) 0) = x at *
          generalize Ur.val (S.getD (j + 1) 0) = y1 at *
          generalize Ur.val (S.getD (j + 2) 0) = y2 at *
          have HBY := Lib.hid hby
          clear hcS hc37 hgd e1 e2 hby
          go_wp2_with (first | (go_at_call 46; first | ((with_reducible refine (C1.out _).mono ?_); rintro e w5 ⟨rfl, hw⟩; obtain rfl := hw.symm; clear hw) | ((with_reducible refine (C2.out _).mono ?_); rintro e w5 ⟨rfl, hw⟩; obtain rfl := hw.symm; clear hw)) | (refine wpList_append_own _ rfl _ _ 62 rfl w.heap.size 5 i0 (.int .u8 0) 1 1 Try.underlying62 hi hz0 hz1 hz2 rfl (by decide) _ T.length _ rfl (hO.out.alloc _) ⟨wr.heap.size, 0, none⟩ 1 1 [.int .u8 (16 * y1 + y2)] rfl rfl (news_row (heap_alloc_new _ _)) (one_u8 _) (by unfold maxLen; omega) (by omega) (by simp; omega) ?_; intro v7 w7 h7 hg7 _; have H7 := Lib.hid h7; have B7 := Lib.hid ((hB.out.alloc (by omega) _).grown hg7 (by simp; omega) (fun k hk => (hO.out.lt k hk).1)); clear h7 hg7; go_frame))
          go_roundw
          case rel => exact ⟨j + 3, T ++ [x], by omega, by go_num, by simp; omega, hD, Lib.hid (by rw [List.length_append, List.map_append]; rw [show List.map u8v [x] = [Value.int .u8 (16 * y1 + y2)] by rw [HBY.out]; rfl]; exact H7.out), B7⟩
          case measure => simp [intOf]; omega
        · have hR : R = .bad j := by
            rw [← hD.out]
            by_cases h3 : j + 3 ≤ N
            · rw [Ur.dec_wrong j S j (by rw [← HN.out]; omega) hc37 (by omega)]; rfl
            · rw [Ur.dec_short j S j (by rw [← HN.out]; exact hlt) hc37 (by rw [← HN.out]; omega)]; rfl
          have hneg : valAt S (j + 1) < 0 ∨ valAt S (j + 2) < 0 := by
            unfold valAt
            rw [← HN.out]
            by_cases k1 : j + 1 < N
            · rw [if_pos k1]
              by_cases k2 : j + 2 < N
              · rw [if_pos k2]; omega
              · rw [if_neg k2]; omega
            · rw [if_neg k1]; omega
          have HR := Lib.hid hR
          clear hcS hc37 hg hR
          generalize valAt S (j + 1) = y1 at *
          generalize valAt S (j + 2) = y2 at *
          by_cases hy : y1 < 0
          · go_wp2_with (first | (go_at_call 46; first | ((with_reducible refine (C1.out _).mono ?_); rintro e w5 ⟨rfl, hw⟩; obtain rfl := hw.symm; clear hw) | ((with_reducible refine (C2.out _).mono ?_); rintro e w5 ⟨rfl, hw⟩; obtain rfl := hw.symm; clear hw)))
            go_ret2
            exact ⟨by rw [HR.out, toldR, ← bs_nil]; rfl, hB.out⟩
          · have hy2 : y2 < 0 := by omega
            go_wp2_with (first | (go_at_call 46; first | ((with_reducible refine (C1.out _).mono ?_); rintro e w5 ⟨rfl, hw⟩; obtain rfl := hw.symm; clear hw) | ((with_reducible refine (C2.out _).mono ?_); rintro e w5 ⟨rfl, hw⟩; obtain rfl := hw.symm; clear hw)))
            go_ret2
            exact ⟨by rw [HR.out, toldR, ← bs_nil]; rfl, hB.out⟩
      · have q37 : ((c.toNat : Int) == 37) = false := by simp; omega
        have hne : S.getD j 0 ≠ 37 := by rw [hcS]; intro h; exact h37 (by rw [h]; rfl)
        have hg := Ur.dec_plain j S j (by rw [← HN.out]; exact hlt) hne
        rw [hg, Ur.Told.pre_pre, hcS] at hD
        clear hcS hne h37 hg
        go_wp2_with (refine wpList_append_own _ rfl _ _ 62 rfl w.heap.size 5 i0 (.int .u8 0) 1 1 Try.underlying62 hi hz0 hz1 hz2 rfl (by decide) _ T.length _ rfl (hO.out.alloc _) ⟨wr.heap.size, 0, none⟩ 1 1 [.int .u8 (c.toNat : Int)] rfl rfl (news_row (heap_alloc_new _ _)) (one_u8 _) (by unfold maxLen; omega) (by omega) (by simp; omega) ?_; intro v7 w7 h7 hg7 _; have H7 := Lib.hid h7; have B7 := Lib.hid ((hB.out.alloc (by omega) _).grown hg7 (by simp; omega) (fun k hk => (hO.out.lt k hk).1)); clear h7 hg7; go_frame)
        go_roundw
        case rel => exact ⟨j + 1, T ++ [c], by omega, by go_num, by simp; omega, hD, Lib.hid (by rw [List.length_append, List.map_append]; exact H7.out), B7⟩
        case measure => simp [intOf]; omega
    · obtain rfl : j = N := by omega
      have hR : R = .ok T := by rw [← hD.out, Ur.dec_end _ S _ (by rw [← HN.out]; exact Nat.le_refl _)]; simp [Ur.Told.pre]
      go_wp2_with (refine wpList_own_string rfl 62 9 _ rfl w.heap.size 5 _ T.length rfl T rfl Try.underlying62 Try.underlying5 Try.underlying9 hO.out ?_; go_frame)
      go_ret2
      refine ⟨?_, hB.out⟩
      rw [hR, toldR, ← bs_eq]
      rfl
end Go.Proofs.Ytiodbkloecpdcaa
