/- The program's reading of escapes. -/
import Derived.Test.YtiodbkloecpdcaaUCut
namespace Go.Proofs.Ytiodbkloecpdcaa
open Go.RowKit

attribute [local go_sem high] run_index_byte
theorem escaped_short (S : List UInt8) (h : S.length < 3) (w : World) : Calls Try.prog 48 #[.string (bs S)] w fun e w' => e = .returned (.tuple #[.int .u8 0, .bool false]) ∧ w' = w := by
  obtain ⟨s, hs⟩ : ∃ s, s = bs S := ⟨_, rfl⟩
  have hss : s.size = S.length := by rw [hs, bs_size]
  rw [← hs]
  clear hs
  go_enter Try.func48, Try.ntmps48
  go_wp2_with fail
  go_ret2
  exact ⟨rfl, rfl⟩
theorem or_tab : ∀ x < 16, ∀ y < 16, bits BinOp.or IntKind.i64 (((x : Nat) : Int) * 16) ((y : Nat) : Int) % 256 = (((16 * x + y) % 2 ^ 8 : Nat) : Int) := by decide +kernel
set_option maxHeartbeats 1000000 in
theorem escaped_wrong (S : List UInt8) (h : 3 ≤ S.length) (hw : Ur.val (S.getD 1 0) < 0 ∨ Ur.val (S.getD 2 0) < 0) (w : World) : Calls Try.prog 48 #[.string (bs S)] w fun e w' => e = .returned (.tuple #[.int .u8 0, .bool false]) ∧ Below w.heap.size w w' := by
  obtain ⟨s, hs⟩ : ∃ s, s = bs S := ⟨_, rfl⟩
  have hss : s.size = S.length := by rw [hs, bs_size]
  have C1 := Lib.hid (fun v : World => valueOf_any (strAt s 1) v)
  have C2 := Lib.hid (fun v : World => valueOf_any (strAt s 2) v)
  have e1 : strAt s 1 = S.getD 1 0 := by rw [hs]; exact strAt_bs S 1
  have e2 : strAt s 2 = S.getD 2 0 := by rw [hs]; exact strAt_bs S 2
  rw [← e1, ← e2] at hw
  clear e1 e2
  have R1 : ∀ v : World, (Instr.index 9 (.string s) (.int .i64 1)).run Try.prog v = .ok (.int .u8 ((strAt s 1).toNat : Int)) v := fun v => run_index_byte v _ _ _ 1 Try.underlying9 (by omega)
  have R2 : ∀ v : World, (Instr.index 9 (.string s) (.int .i64 2)).run Try.prog v = .ok (.int .u8 ((strAt s 2).toNat : Int)) v := fun v => run_index_byte v _ _ _ 2 Try.underlying9 (by omega)
  rw [← hs]
  clear hs
  generalize strAt s 1 = a at *
  generalize strAt s 2 = b at *
  generalize Ur.val a = x at *
  generalize Ur.val b = y at *
  by_cases hx : x < 0
  · go_enter Try.func48, Try.ntmps48
    go_wp2_with fail
    go_quiet (first | (go_at_call 71; first | (with_reducible exact Calls.quiet_of_same (C1.out _)) | (with_reducible exact Calls.quiet_of_same (C2.out _))))
    go_wp2_with fail
    go_ret2
    exact ⟨rfl, below_drewN (Below.refl _ _) _⟩
  · have hy : y < 0 := by omega
    go_enter Try.func48, Try.ntmps48
    go_wp2_with fail
    go_quiet (first | (go_at_call 71; first | (with_reducible exact Calls.quiet_of_same (C1.out _)) | (with_reducible exact Calls.quiet_of_same (C2.out _))))
    go_wp2_with fail
    go_ret2
    exact ⟨rfl, below_drewN (Below.refl _ _) _⟩
set_option maxHeartbeats 1000000 in
theorem escaped_good (S : List UInt8) (h : 3 ≤ S.length) (ha : 0 ≤ Ur.val (S.getD 1 0)) (hb : 0 ≤ Ur.val (S.getD 2 0)) (w : World) : Calls Try.prog 48 #[.string (bs S)] w fun e w' => e = .returned (.tuple #[.int .u8 (Ur.byte (S.getD 1 0) (S.getD 2 0)).toNat, .bool true]) ∧ Below w.heap.size w w' := by
  obtain ⟨s, hs⟩ : ∃ s, s = bs S := ⟨_, rfl⟩
  have hss : s.size = S.length := by rw [hs, bs_size]
  have C1 := Lib.hid (fun v : World => valueOf_any (strAt s 1) v)
  have C2 := Lib.hid (fun v : World => valueOf_any (strAt s 2) v)
  have e1 : strAt s 1 = S.getD 1 0 := by rw [hs]; exact strAt_bs S 1
  have e2 : strAt s 2 = S.getD 2 0 := by rw [hs]; exact strAt_bs S 2
  rw [← e1] at ha
  rw [← e2] at hb
  rw [← e1, ← e2]
  clear e1 e2
  have R1 : ∀ v : World, (Instr.index 9 (.string s) (.int .i64 1)).run Try.prog v = .ok (.int .u8 ((strAt s 1).toNat : Int)) v := fun v => run_index_byte v _ _ _ 1 Try.underlying9 (by omega)
  have R2 : ∀ v : World, (Instr.index 9 (.string s) (.int .i64 2)).run Try.prog v = .ok (.int .u8 ((strAt s 2).toNat : Int)) v := fun v => run_index_byte v _ _ _ 2 Try.underlying9 (by omega)
  rw [← hs]
  clear hs
  generalize strAt s 1 = a at *
  generalize strAt s 2 = b at *
  unfold Ur.byte
  have va := Ur.val_bd a
  have vb := Ur.val_bd b
  generalize Ur.val a = x at *
  generalize Ur.val b = y at *
  obtain ⟨x, rfl⟩ : ∃ n : Nat, x = n := ⟨x.toNat, by omega⟩
  obtain ⟨y, rfl⟩ : ∃ n : Nat, y = n := ⟨y.toNat, by omega⟩
  rw [Int.toNat_natCast, Int.toNat_natCast, UInt8.toNat_ofNat']
  go_enter Try.func48, Try.ntmps48
  go_wp2_with fail
  go_quiet (first | (go_at_call 71; first | (with_reducible exact Calls.quiet_of_same (C1.out _)) | (with_reducible exact Calls.quiet_of_same (C2.out _))))
  go_wp2_with fail
  go_ret2
  refine ⟨?_, below_drewN (Below.refl _ _) _⟩
  rw [← or_tab x (by omega) y (by omega)]
  rfl
/-- What decode hands back. -/
def toldV (at_ : Nat) : Ur.Told → Value
  | .ok l => .tuple #[.string (bs l), .int .i64 0, .int .i64 0]
  | .bad k => .tuple #[.string (bs []), .int .i64 52, .int .i64 ((at_ + k : Nat) : Int)]
theorem set_at (S : List UInt8) (i : Nat) (k : Nat) : (S.drop i).getD k 0 = S.getD (i + k) 0 := by simp [List.getD, List.getElem?_drop]
set_option maxRecDepth 100000 in
set_option maxHeartbeats 2000000 in
theorem decode_any (S : List UInt8) (at_ : Nat) (hS : S.length ≤ 140737488355328) (hat : at_ ≤ 140737488355328) (w : World) : Calls Try.prog 26 #[.agg #[.string (bs S), .int .i64 at_]] w fun e w' => e = .returned (toldV at_ (Ur.dec 0 S)) ∧ Below w.heap.size w w' := by
  obtain ⟨i0, hi, hz0, hz1, hz2⟩ := info_parts infoByte
  obtain ⟨R, hR⟩ : ∃ R, R = Ur.dec 0 S := ⟨_, rfl⟩
  rw [← hR]
  have HRR := Lib.hid hR
  obtain ⟨s, hs⟩ : ∃ s, s = bs S := ⟨_, rfl⟩
  have hss : s.size = S.length := by rw [hs, bs_size]
  have HS := Lib.hid hs
  have HST := Lib.hid (fun i => show strAt s i = S.getD i 0 by rw [hs]; exact strAt_bs S i)
  rw [← hs]
  clear hs hR
  obtain ⟨N, hN⟩ : ∃ N, N = S.length := ⟨_, rfl⟩
  have HN := Lib.hid hN
  rw [← hN] at hss hS
  clear hN
  go_enter Try.func26, Try.ntmps26
  obtain ⟨w1, hw1⟩ : ∃ x, x = w.alloc (.cells #[.string s, .int .i64 (at_ : Int)] 48) := ⟨_, rfl⟩
  have g1 : w1.heap[w.heap.size]? = some (.cells [Value.string s, .int .i64 (at_ : Int)].toArray 48 (0, 0)) := by rw [hw1]; exact heap_alloc_new _ _
  have b1 : Below w.heap.size w w1 := by rw [hw1]; exact (Below.refl _ _).alloc (Nat.le_refl _) _
  have c0 := cell_of_list g1 0
  have c1 := cell_of_list g1 1
  simp only [List.getElem?_cons_zero, List.getElem?_cons_succ] at c0 c1
  have G1 := Lib.hid g1; have B1 := Lib.hid b1
  have hs1 : w.heap.size + 1 ≤ w1.heap.size := by rw [hw1]; simp
  clear g1 b1
  go_wp2_with (refine wpList_make_row rfl 62 _ _ rfl 5 i0 (.int .u8 0) 1 Try.underlying62 hi hz0 hz1 hz2 rfl 0 N rfl rfl (by omega) (by omega) (by omega) ?_; intro w2 hown hb2; rw [← hw1] at hown hb2 ⊢; clear hw1; have HOWN := hown; have HB2 := Lib.hid hb2; clear hown hb2; go_frame)
  have DD := Lib.hid (show Ur.Told.pre [] (Ur.dec 0 (S.drop 0)) = R by rw [Ur.Told.pre_nil, List.drop_zero]; exact HRR.out.symm)
  clear c0 c1
  go_loopw [5, 6] (fun v iv wr => ∃ (j : Nat) (T : List UInt8), j ≤ N ∧ iv = .int .i64 j ∧ T.length ≤ j ∧ Hid (Ur.Told.pre T (Ur.dec j (S.drop j)) = R) ∧ Hid (wr.ownsRow w1.heap.size 5 1 v T.length (T.map u8v)) ∧ Hid (Below w1.heap.size w1 wr)) (fun _ iv _ => N - (intOf iv).toNat)
  case atStart => exact ⟨0, [], by omega, rfl, by simp, DD, HOWN, HB2⟩
  case round =>
    clear HOWN HB2 DD
    obtain ⟨j, T, hj, rfl, hT, hD, hO, hB⟩ := hrel
    have hgr : wr.heap[w.heap.size]? = some (.cells [Value.string s, .int .i64 (at_ : Int)].toArray 48 (0, 0)) := (hB.out.block _ (by omega)).trans G1.out
    have c0 := cell_of_list hgr 0
    have c1 := cell_of_list hgr 1
    simp only [List.getElem?_cons_zero, List.getElem?_cons_succ] at c0 c1
    clear hgr
    by_cases hlt : j < N
    · have hsr := hB.out.size
      obtain ⟨c, hc⟩ : ∃ c, c = strAt s j := ⟨_, rfl⟩
      have hcS : S.getD j 0 = c := by rw [hc]; exact (HST.out j).symm
      have RI : ∀ v : World, (Instr.index 9 (.string s) (.int .i64 (j : Int))).run Try.prog v = .ok (.int .u8 (c.toNat : Int)) v := fun v => by rw [hc]; exact run_index_byte v _ _ _ j Try.underlying9 (by omega)
      clear hc
      by_cases h37 : c.toNat = 37
      · have q37 : ((c.toNat : Int) == 37) = true := by rw [h37]; rfl
        have hc37 : S.getD j 0 = 37 := by rw [hcS]; exact UInt8.toNat_inj.1 h37
        have RS : ∀ v : World, (Instr.slice 9 (.string s) (some (.int .i64 (j : Int))) none none).run Try.prog v = .ok (.string (bs (S.drop j))) v := fun v => by
          rw [run_rest_string v 9 s .i64 j Try.underlying9 (by omega)]
          congr 2
          exact bs_of (by rw [extract_from, HS.out, bs_list])
        clear h37
        by_cases hsh : N < j + 3
        · have hR : R = .bad j := by rw [← hD.out, Ur.dec_short j S j (by rw [← HN.out]; exact hlt) hc37 (by rw [← HN.out]; exact hsh)]; rfl
          have CE := Lib.hid (fun v : World => escaped_short (S.drop j) (by rw [List.length_drop, ← HN.out]; omega) v)
          clear hcS hc37
          go_wp2_with (go_at_call 48; refine (CE.out _).mono ?_; rintro e w5 ⟨rfl, rfl⟩)
          go_quiet (fail)
          go_wp2_with fail
          try simp only [Exit.inBlock, Exit.then]
          refine bodyPost_ret (results_tmp3 rfl _ _ _) rfl ?_
          refine ⟨?_, (B1.out.trans (hB.out.mono (by omega))).trans (below_drewN (Below.refl _ _) _)⟩
          rw [hR, toldV, ← bs_nil, show ((at_ + j : Nat) : Int) = (at_ : Int) + j by omega]
          rfl
        · by_cases hw : Ur.val (S.getD (j + 1) 0) < 0 ∨ Ur.val (S.getD (j + 2) 0) < 0
          · have hR : R = .bad j := by rw [← hD.out, Ur.dec_wrong j S j (by rw [← HN.out]; omega) hc37 hw]; rfl
            have CE := Lib.hid (fun v : World => escaped_wrong (S.drop j) (by rw [List.length_drop, ← HN.out]; omega) (by rw [set_at, set_at]; exact hw) v)
            clear hcS hc37 hw
            go_wp2_with (go_at_call 48; refine (CE.out _).mono ?_; rintro e w5 ⟨rfl, hb5⟩)
            have c0' := (hb5.cell (p := ⟨w.heap.size, 0, none⟩) (by show w.heap.size < wr.heap.size; omega)).trans c0
            have c1' := (hb5.cell (p := ⟨w.heap.size, 1, none⟩) (by show w.heap.size < wr.heap.size; omega)).trans c1
            clear c0 c1
            go_quiet (fail)
            go_wp2_with fail
            try simp only [Exit.inBlock, Exit.then]
            refine bodyPost_ret (results_tmp3 rfl _ _ _) rfl ?_
            refine ⟨?_, ((B1.out.trans (hB.out.mono (by omega))).trans (hb5.mono (by omega))).trans (below_drewN (Below.refl _ _) _)⟩
            rw [hR, toldV, ← bs_nil, show ((at_ + j : Nat) : Int) = (at_ : Int) + j by omega]
            rfl
          · have ha : 0 ≤ Ur.val (S.getD (j + 1) 0) := by omega
            have hb : 0 ≤ Ur.val (S.getD (j + 2) 0) := by omega
            have hg := Ur.dec_good j S j (by rw [← HN.out]; omega) hc37 ha hb
            have CE := Lib.hid (fun v : World => escaped_good (S.drop j) (by rw [List.length_drop, ← HN.out]; omega) (by rw [set_at]; exact ha) (by rw [set_at]; exact hb) v)
            rw [set_at, set_at] at CE
            rw [hg, Ur.Told.pre_pre] at hD
            generalize Ur.byte (S.getD (j + 1) 0) (S.getD (j + 2) 0) = x at *
            clear hcS hc37 hw ha hb hg
            go_wp2_with (first | (go_at_call 48; refine (CE.out _).mono ?_; rintro e w5 ⟨rfl, hb5⟩; have c0' := (hb5.cell (p := ⟨w.heap.size, 0, none⟩) (by show w.heap.size < wr.heap.size; omega)).trans c0; have O5 := Lib.hid (own_below hO.out hb5); have B5 := Lib.hid (hB.out.trans (hb5.mono hB.out.size)); have s5 := B5.out.size; clear c0 c1 hb5) | (refine wpList_append_own _ rfl _ _ 62 rfl w1.heap.size 5 i0 (.int .u8 0) 1 1 Try.underlying62 hi hz0 hz1 hz2 rfl (by decide) _ T.length _ rfl (O5.out.alloc _) ⟨w5.heap.size, 0, none⟩ 1 1 [.int .u8 (x.toNat : Int)] rfl rfl (news_row (heap_alloc_new _ _)) (one_u8 _) (by unfold maxLen; omega) (by omega) (by simp; omega) ?_; intro v7 w7 h7 hg7 _; have H7 := Lib.hid h7; have B7 := Lib.hid ((B5.out.alloc (by omega) _).grown hg7 (by simp; omega) (fun k hk => (O5.out.lt k hk).1)); clear h7 hg7; go_frame))
            go_roundw
            case rel => exact ⟨j + 3, T ++ [x], by omega, by go_num, by simp; omega, hD, Lib.hid (by rw [List.length_append, List.map_append]; exact H7.out), B7⟩
            case measure => simp [intOf]; omega
      · have q37 : ((c.toNat : Int) == 37) = false := by simp; omega
        have hne : S.getD j 0 ≠ 37 := by rw [hcS]; intro h; exact h37 (by rw [h]; rfl)
        have hg := Ur.dec_plain j S j (by rw [← HN.out]; exact hlt) hne
        rw [hg, Ur.Told.pre_pre, hcS] at hD
        clear hcS hne h37 hg
        go_wp2_with (refine wpList_append_own _ rfl _ _ 62 rfl w1.heap.size 5 i0 (.int .u8 0) 1 1 Try.underlying62 hi hz0 hz1 hz2 rfl (by decide) _ T.length _ rfl (hO.out.alloc _) ⟨wr.heap.size, 0, none⟩ 1 1 [.int .u8 (c.toNat : Int)] rfl rfl (news_row (heap_alloc_new _ _)) (one_u8 _) (by unfold maxLen; omega) (by omega) (by simp; omega) ?_; intro v7 w7 h7 hg7 _; have H7 := Lib.hid h7; have B7 := Lib.hid ((hB.out.alloc (by omega) _).grown hg7 (by simp; omega) (fun k hk => (hO.out.lt k hk).1)); clear h7 hg7; go_frame)
        go_roundw
        case rel => exact ⟨j + 1, T ++ [c], by omega, by go_num, by simp; omega, hD, Lib.hid (by rw [List.length_append, List.map_append]; exact H7.out), B7⟩
        case measure => simp [intOf]; omega
    · obtain rfl : j = N := by omega
      have hR : R = .ok T := by rw [← hD.out, Ur.dec_end _ S _ (by rw [← HN.out]; exact Nat.le_refl _)]; simp [Ur.Told.pre]
      go_wp2_with (refine wpList_own_string rfl 62 9 _ rfl w1.heap.size 5 _ T.length rfl T rfl Try.underlying62 Try.underlying5 Try.underlying9 hO.out ?_; go_frame)
      try simp only [Exit.inBlock, Exit.then]
      refine bodyPost_ret (results_tmp3 rfl _ _ _) rfl ?_
      refine ⟨?_, B1.out.trans (hB.out.mono (by omega))⟩
      rw [hR, toldV, ← bs_eq]
      rfl
end Go.Proofs.Ytiodbkloecpdcaa
