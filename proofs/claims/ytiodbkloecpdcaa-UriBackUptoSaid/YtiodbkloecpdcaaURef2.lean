/- The document's own escapes, put in; its paths. -/
import Derived.Test.YtiodbkloecpdcaaURef
namespace Go.Proofs.Ytiodbkloecpdcaa
open Go.RowKit

theorem tmod_16 (c : UInt8) : (c.toNat : Int).tmod 16 = (c.toNat : Int) % 16 := Int.tmod_eq_emod_of_nonneg (by omega)
theorem wrap_hi (c : UInt8) : IntKind.u8.wrap ((c.toNat : Int) / 16) = (c.toNat : Int) / 16 := by
  have := c.toNat_lt
  rw [show (c.toNat : Int) / 16 = ((c.toNat / 16 : Nat) : Int) from by omega]
  exact wraps_u8 _ (by omega) (by omega)
theorem wrap_lo (c : UInt8) : IntKind.u8.wrap ((c.toNat : Int) % 16) = (c.toNat : Int) % 16 := by
  have := c.toNat_lt
  rw [show (c.toNat : Int) % 16 = ((c.toNat % 16 : Nat) : Int) from by omega]
  exact wraps_u8 _ (by omega) (by omega)
attribute [local go_sem high] run_index_byte run_ctab_hi run_ctab_lo fold_ctab wrap_hi wrap_lo tmod_16
def pen (b : Bool) (c : UInt8) : Bool := Ur.fre c || (decide (c.toNat = 47) && !b)
theorem pen_eq (b : Bool) : pen b = (if b then Ur.fre else Ur.freP) := by
  funext c
  cases b
  · simp [pen, Ur.freP, c47]
  · simp [pen]
set_option maxRecDepth 100000 in
set_option maxHeartbeats 4000000 in
theorem vEncode_any (S : List UInt8) (hS : S.length ≤ 35184372088832) (b : Bool) (w : World) : Calls Try.prog 19 #[.string (bs S), .bool b] w fun e w' => e = .returned (.string (bs (Ur.enc (if b then Ur.fre else Ur.freP) S))) ∧ Below w.heap.size w w' := by
  rw [← pen_eq]
  obtain ⟨i0, hi, hz0, hz1, hz2⟩ := info_parts infoByte
  obtain ⟨s, hs⟩ : ∃ s, s = bs S := ⟨_, rfl⟩
  have hss : s.size = S.length := by rw [hs, bs_size]
  have HST := Lib.hid (fun i => show strAt s i = S.getD i 0 by rw [hs]; exact strAt_bs S i)
  rw [← hs]
  clear hs
  obtain ⟨N, hN⟩ : ∃ N, N = S.length := ⟨_, rfl⟩
  have HN := Lib.hid hN
  rw [← hN] at hss hS
  clear hN
  go_enter Try.func19, Try.ntmps19
  go_wp2_with fail
  go_loopw [5, 6] (fun v iv wr => ∃ (j : Nat) (T : List UInt8), j ≤ N ∧ iv = .int .i64 j ∧ T.length ≤ 3 * j ∧ Hid (T = Ur.enc (pen b) (S.take j)) ∧ Hid (wr.ownsRow w.heap.size 5 1 v T.length (T.map u8v)) ∧ Hid (Below w.heap.size w wr)) (fun _ iv _ => N - (intOf iv).toNat)
  case atStart => exact ⟨0, [], by omega, rfl, by simp, Lib.hid rfl, Lib.hid (by simpa using World.ownsRow_nil _ _ _ _), Lib.hid (Below.refl _ _)⟩
  case round =>
    obtain ⟨j, T, hj, rfl, hT, hD, hO, hB⟩ := hrel
    by_cases hlt : j < N
    · have hsr := hB.out.size
      have hst := Ur.enc_step (pen b) S j (by rw [← HN.out]; exact hlt)
      rw [← hD.out, ← HST.out] at hst
      have RI : ∀ v : World, (Instr.index 9 (.string s) (.int .i64 (j : Int))).run Try.prog v = .ok (.int .u8 ((strAt s j).toNat : Int)) v := fun v => run_index_byte v _ _ _ j Try.underlying9 (by omega)
      generalize strAt s j = c at *
      have HC := Lib.hid (fun v : World => vfree_any c v)
      cases hp : pen b c with
      | true =>
        rw [Ur.encB, if_pos hp] at hst
        have HE := Lib.hid hst
        unfold pen at hp
        have hp2 : Ur.fre c = true ∨ (Ur.fre c = false ∧ ((c.toNat : Int) == 47) = true ∧ b = false) := by
          cases hf : Ur.fre c
          · rw [hf, Bool.false_or, Bool.and_eq_true, decide_eq_true_eq, Bool.not_eq_true'] at hp
            exact .inr ⟨rfl, by rw [hp.1]; rfl, hp.2⟩
          · exact .inl rfl
        clear hst hp
        rcases hp2 with hp2 | ⟨hp2, q47, hb0⟩
        · rw [hp2] at HC
          clear hp2
          go_wp2_with (first | (go_at_call 47; refine (HC.out _).mono ?_; rintro e w' ⟨rfl, hw⟩; obtain rfl := hw.symm; clear hw) | (refine wpList_append_own _ rfl _ _ 62 rfl w.heap.size 5 i0 (.int .u8 0) 1 1 Try.underlying62 hi hz0 hz1 hz2 rfl (by decide) _ T.length _ rfl (hO.out.alloc _) ⟨wr.heap.size, 0, none⟩ 1 1 [.int .u8 (c.toNat : Int)] rfl rfl (news_row (heap_alloc_new _ _)) (one_u8 _) (by unfold maxLen; omega) (by omega) (by simp; omega) ?_; intro v7 w7 h7 hg7 _; have H7 := Lib.hid h7; have B7 := Lib.hid ((hB.out.alloc (by omega) _).grown hg7 (by simp; omega) (fun k hk => (hO.out.lt k hk).1)); clear h7 hg7; go_frame))
          go_roundw
          case rel => exact ⟨j + 1, T ++ [c], by omega, by go_num, by simp; omega, Lib.hid HE.out.symm, Lib.hid (by rw [List.length_append, List.map_append]; exact H7.out), B7⟩
          case measure => simp [intOf]; omega
        · rw [hp2] at HC
          clear hp2
          subst hb0
          go_wp2_with (first | (go_at_call 47; refine (HC.out _).mono ?_; rintro e w' ⟨rfl, hw⟩; obtain rfl := hw.symm; clear hw) | (refine wpList_append_own _ rfl _ _ 62 rfl w.heap.size 5 i0 (.int .u8 0) 1 1 Try.underlying62 hi hz0 hz1 hz2 rfl (by decide) _ T.length _ rfl (hO.out.alloc _) ⟨wr.heap.size, 0, none⟩ 1 1 [.int .u8 (c.toNat : Int)] rfl rfl (news_row (heap_alloc_new _ _)) (one_u8 _) (by unfold maxLen; omega) (by omega) (by simp; omega) ?_; intro v7 w7 h7 hg7 _; have H7 := Lib.hid h7; have B7 := Lib.hid ((hB.out.alloc (by omega) _).grown hg7 (by simp; omega) (fun k hk => (hO.out.lt k hk).1)); clear h7 hg7; go_frame))
          go_roundw
          case rel => exact ⟨j + 1, T ++ [c], by omega, by go_num, by simp; omega, Lib.hid HE.out.symm, Lib.hid (by rw [List.length_append, List.map_append]; exact H7.out), B7⟩
          case measure => simp [intOf]; omega
      | false =>
        rw [Ur.encB, if_neg (by rw [hp]; decide)] at hst
        have HE := Lib.hid hst
        unfold pen at hp
        have hf : Ur.fre c = false := by cases hf : Ur.fre c; rfl; rw [hf] at hp; simp at hp
        have hp2 : ((c.toNat : Int) == 47) = false ∨ (((c.toNat : Int) == 47) = true ∧ b = true) := by
          rw [hf, Bool.false_or] at hp
          by_cases h47 : c.toNat = 47
          · rw [decide_eq_true h47, Bool.true_and, Bool.not_eq_false'] at hp
            exact .inr ⟨by rw [h47]; rfl, hp⟩
          · exact .inl (by simp; omega)
        rw [hf] at HC
        clear hst hp hf
        rcases hp2 with q47 | ⟨q47, hb0⟩
        · go_wp2_with (first | (go_at_call 47; refine (HC.out _).mono ?_; rintro e w' ⟨rfl, hw⟩; obtain rfl := hw.symm; clear hw))
          go_region_law (refine step_append_own rfl _ _ 62 rfl w.heap.size 5 i0 (.int .u8 0) 1 1 Try.underlying62 hi hz0 hz1 hz2 rfl (by decide) _ T.length _ rfl (own_drew (hO.out.alloc _)) ⟨wr.heap.size, 0, none⟩ 3 3 [.int .u8 37, .int .u8 (Ur.hx (c.toNat / 16)).toNat, .int .u8 (Ur.hx (c.toNat % 16)).toNat] rfl (by omega) rfl (news_three _ _ _ _ _) (three_u8 _ _ _) (by unfold maxLen; omega) (by omega) (by simp; omega) ?_; intro g5 cap5 w5 h5 hg5 hk5)
          all_goals
            go_wp2_with fail
            go_roundw
            case rel =>
              refine ⟨j + 1, T ++ [37, Ur.hx (c.toNat / 16), Ur.hx (c.toNat % 16)], by omega, by go_num, by simp; omega, Lib.hid HE.out.symm, Lib.hid ?_, Lib.hid ?_⟩
              · rw [List.length_append, List.map_append]; exact h5.out
              · exact (hB.out.drew.alloc (by simp; omega) _).grown hg5.out (by simp; omega) (fun q hq => (hO.out.lt q hq).1)
            case measure => simp [intOf]; omega
        · subst hb0
          go_wp2_with (first | (go_at_call 47; refine (HC.out _).mono ?_; rintro e w' ⟨rfl, hw⟩; obtain rfl := hw.symm; clear hw))
          go_region_law (refine step_append_own rfl _ _ 62 rfl w.heap.size 5 i0 (.int .u8 0) 1 1 Try.underlying62 hi hz0 hz1 hz2 rfl (by decide) _ T.length _ rfl (own_drew (hO.out.alloc _)) ⟨wr.heap.size, 0, none⟩ 3 3 [.int .u8 37, .int .u8 (Ur.hx (c.toNat / 16)).toNat, .int .u8 (Ur.hx (c.toNat % 16)).toNat] rfl (by omega) rfl (news_three _ _ _ _ _) (three_u8 _ _ _) (by unfold maxLen; omega) (by omega) (by simp; omega) ?_; intro g5 cap5 w5 h5 hg5 hk5)
          all_goals
            go_wp2_with fail
            go_roundw
            case rel =>
              refine ⟨j + 1, T ++ [37, Ur.hx (c.toNat / 16), Ur.hx (c.toNat % 16)], by omega, by go_num, by simp; omega, Lib.hid HE.out.symm, Lib.hid ?_, Lib.hid ?_⟩
              · rw [List.length_append, List.map_append]; exact h5.out
              · exact (hB.out.drew.alloc (by simp; omega) _).grown hg5.out (by simp; omega) (fun q hq => (hO.out.lt q hq).1)
            case measure => simp [intOf]; omega
    · obtain rfl : j = N := by omega
      go_wp2_with (refine wpList_own_string rfl 62 9 _ rfl w.heap.size 5 _ T.length rfl T rfl Try.underlying62 Try.underlying5 Try.underlying9 hO.out ?_; go_frame)
      go_ret
      refine ⟨?_, hB.out⟩
      rw [hD.out, List.take_of_length_le (by rw [HN.out]; exact Nat.le_refl _), ← bs_eq]
      rfl
end Go.Proofs.Ytiodbkloecpdcaa
