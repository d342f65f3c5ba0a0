/- The program puts a text in escapes. -/
import Derived.Test.YtiodbkloecpdcaaUDec
namespace Go.Proofs.Ytiodbkloecpdcaa
open Go.RowKit

def ctab : ByteArray := ⟨#[48, 49, 50, 51, 52, 53, 54, 55, 56, 57, 65, 66, 67, 68, 69, 70]⟩
theorem ctab_size : ctab.size = 16 := rfl
theorem ctab_list : ctab.data.toList = [48, 49, 50, 51, 52, 53, 54, 55, 56, 57, 65, 66, 67, 68, 69, 70] := by decide +kernel
theorem fold_ctab : (⟨#[48, 49, 50, 51, 52, 53, 54, 55, 56, 57, 65, 66, 67, 68, 69, 70]⟩ : ByteArray) = ctab := rfl
theorem ctab_hx : ∀ k < 16, [48, 49, 50, 51, 52, 53, 54, 55, 56, 57, 65, 66, 67, 68, 69, 70].getD k (0 : UInt8) = Ur.hx k := by decide
attribute [irreducible] ctab
theorem run_ctab {P : Program} (w : World) (t : TypeId) (k : IntKind) (n : Nat) (hn : n < 16) (h : P.underlying t = some .string) :
    (Instr.index t (.string ctab) (.int k (n : Int))).run P w = .ok (.int .u8 ((Ur.hx n).toNat : Int)) w := by
  rw [run_index_byte w t _ k _ h (by rw [ctab_size]; omega), strAt_eq, ctab_list, ctab_hx n hn]
theorem run_ctab_hi {P : Program} (w : World) (t : TypeId) (k : IntKind) (c : UInt8) (h : P.underlying t = some .string) :
    (Instr.index t (.string ctab) (.int k ((c.toNat : Int) / 16))).run P w = .ok (.int .u8 ((Ur.hx (c.toNat / 16)).toNat : Int)) w := by
  have := c.toNat_lt
  rw [show (c.toNat : Int) / 16 = ((c.toNat / 16 : Nat) : Int) from by omega, run_ctab w t k _ (by omega) h]
theorem run_ctab_lo {P : Program} (w : World) (t : TypeId) (k : IntKind) (c : UInt8) (h : P.underlying t = some .string) :
    (Instr.index t (.string ctab) (.int k ((c.toNat : Int) % 16))).run P w = .ok (.int .u8 ((Ur.hx (c.toNat % 16)).toNat : Int)) w := by
  rw [show (c.toNat : Int) % 16 = ((c.toNat % 16 : Nat) : Int) from by omega, run_ctab w t k _ (by omega) h]
theorem and_15 (c : UInt8) : bits .and .u8 (c.toNat : Int) 15 = (c.toNat : Int) % 16 := u8_and15 _ (by omega) (by have := c.toNat_lt; omega)
theorem news_three (w : World) (a b c : Value) (T : TypeId) : ∀ j u, [a, b, c][j]? = some u → ((w.alloc (.cells #[a, b, c] T)).drew).cell? ((⟨w.heap.size, 0, none⟩ : Addr).add j) = some u :=
  World.news_of_block (w := (w.alloc (.cells #[a, b, c] T)).drew) (cs := #[a, b, c]) (fr := (0, 0)) (t := T) (heap_alloc_new w _)
theorem three_u8 (x y z : Int) : ∀ u ∈ [Value.int .u8 x, .int .u8 y, .int .u8 z], u.oneCell' = true := by intro u hu; simp only [List.mem_cons, List.not_mem_nil, or_false] at hu; rcases hu with rfl | rfl | rfl <;> rfl
attribute [local go_sem high] run_index_byte run_ctab_hi run_ctab_lo fold_ctab and_15
set_option maxRecDepth 100000 in
set_option maxHeartbeats 2000000 in
theorem encode_any (S : List UInt8) (hS : S.length ≤ 35184372088832) (g : FuncId) (lb : Array Value) (p : UInt8 → Bool) (hk : ∀ w, Kind g lb p w) (w : World) : Calls Try.prog 27 #[.string (bs S), .func (.func g) #[] lb] w fun e w' => e = .returned (.string (bs (Ur.enc p S))) ∧ Below w.heap.size w w' := by
  obtain ⟨i0, hi, hz0, hz1, hz2⟩ := info_parts infoByte
  have eg := (hk w).eg
  have HK := Lib.hid (fun c v => (hk v).at_ c)
  clear hk
  obtain ⟨s, hs⟩ : ∃ s, s = bs S := ⟨_, rfl⟩
  have hss : s.size = S.length := by rw [hs, bs_size]
  have HST := Lib.hid (fun i => show strAt s i = S.getD i 0 by rw [hs]; exact strAt_bs S i)
  rw [← hs]
  clear hs
  obtain ⟨N, hN⟩ : ∃ N, N = S.length := ⟨_, rfl⟩
  have HN := Lib.hid hN
  rw [← hN] at hss hS
  clear hN
  go_enter Try.func27, Try.ntmps27
  go_wp2_with (refine wpList_make_row rfl 62 _ _ rfl 5 i0 (.int .u8 0) 1 Try.underlying62 hi hz0 hz1 hz2 rfl 0 N rfl rfl (by omega) (by omega) (by omega) ?_; intro w2 hown hb2; have HOWN := hown; have HB2 := Lib.hid hb2; clear hown hb2; go_frame)
  go_loopw [5, 12] (fun v iv wr => ∃ (j : Nat) (T : List UInt8), j ≤ N ∧ iv = .int .i64 j ∧ T.length ≤ 3 * j ∧ Hid (T = Ur.enc p (S.take j)) ∧ Hid (wr.ownsRow w.heap.size 5 1 v T.length (T.map u8v)) ∧ Hid (Below w.heap.size w wr)) (fun _ iv _ => N - (intOf iv).toNat)
  case atStart => exact ⟨0, [], by omega, rfl, by simp, Lib.hid rfl, HOWN, HB2⟩
  case round =>
    clear HOWN HB2
    obtain ⟨j, T, hj, rfl, hT, hD, hO, hB⟩ := hrel
    by_cases hlt : j < N
    · have hsr := hB.out.size
      have hst := Ur.enc_step p S j (by rw [← HN.out]; exact hlt)
      rw [← hD.out, ← HST.out] at hst
      have RI : ∀ v : World, (Instr.index 9 (.string s) (.int .i64 (j : Int))).run Try.prog v = .ok (.int .u8 ((strAt s j).toNat : Int)) v := fun v => run_index_byte v _ _ _ j Try.underlying9 (by omega)
      generalize strAt s j = c at *
      have HC := Lib.hid (HK.out c)
      cases hp : p c with
      | true =>
        rw [hp] at HC
        rw [Ur.encB, if_pos hp] at hst
        have HE := Lib.hid hst
        clear hst hp
        go_wp2_with (first | (go_at_fn g; refine (HC.out _).mono ?_; rintro e w' ⟨rfl, hw⟩; obtain rfl := hw.symm; clear hw) | (refine wpList_append_own _ rfl _ _ 62 rfl w.heap.size 5 i0 (.int .u8 0) 1 1 Try.underlying62 hi hz0 hz1 hz2 rfl (by decide) _ T.length _ rfl (hO.out.alloc _) ⟨wr.heap.size, 0, none⟩ 1 1 [.int .u8 (c.toNat : Int)] rfl rfl (news_row (heap_alloc_new _ _)) (one_u8 _) (by unfold maxLen; omega) (by omega) (by simp; omega) ?_; intro v7 w7 h7 hg7 _; have H7 := Lib.hid h7; have B7 := Lib.hid ((hB.out.alloc (by omega) _).grown hg7 (by simp; omega) (fun k hk => (hO.out.lt k hk).1)); clear h7 hg7; go_frame))
        go_roundw
        case rel => exact ⟨j + 1, T ++ [c], by omega, by go_num, by simp; omega, Lib.hid HE.out.symm, Lib.hid (by rw [List.length_append, List.map_append]; exact H7.out), B7⟩
        case measure => simp [intOf]; omega
      | false =>
        rw [hp] at HC
        rw [Ur.encB, if_neg (by rw [hp]; decide)] at hst
        have HE := Lib.hid hst
        clear hst hp
        go_wp2_with (first | (go_at_fn g; refine (HC.out _).mono ?_; rintro e w' ⟨rfl, hw⟩; obtain rfl := hw.symm; clear hw))
        go_region_law (refine step_append_own rfl _ _ 62 rfl w.heap.size 5 i0 (.int .u8 0) 1 1 Try.underlying62 hi hz0 hz1 hz2 rfl (by decide) _ T.length _ rfl (own_drew (hO.out.alloc _)) ⟨wr.heap.size, 0, none⟩ 3 3 [.int .u8 37, .int .u8 (Ur.hx (c.toNat / 16)).toNat, .int .u8 (Ur.hx (c.toNat % 16)).toNat] rfl (by omega) rfl (news_three _ _ _ _ _) (three_u8 _ _ _) (by unfold maxLen; omega) (by omega) (by simp; omega) ?_; intro g5 cap5 w5 h5 hg5 hk5)
        all_goals
          go_wp2_with fail
          go_roundw
          case rel =>
            refine ⟨j + 1, T ++ [37, Ur.hx (c.toNat / 16), Ur.hx (c.toNat % 16)], by omega, by go_num, by simp; omega, Lib.hid HE.out.symm, Lib.hid ?_, Lib.hid ?_⟩
            · rw [List.length_append, List.map_append]; exact h5.out
            · exact (hB.out.drew.alloc (by simp; omega) _).grown hg5.out (by simp; omega) (fun q hq => (hO.out.lt q hq).1)
          case measure => simp [intOf]; omega
    · obtain rfl : j = N := by omega
      go_wp2_with (refine wpList_own_string rfl 62 9 _ rfl w.heap.size 5 _ T.length rfl T rfl Try.underlying62 Try.underlying5 Try.underlying9 hO.out ?_; go_frame)
      go_ret
      refine ⟨?_, hB.out⟩
      rw [hD.out, List.take_of_length_le (by rw [HN.out]; exact Nat.le_refl _), ← bs_eq]
      rfl
theorem Encode_any (S : List UInt8) (hS : S.length ≤ 35184372088832) (b : Bool) (w : World) : Calls Try.prog 12 #[.string (bs S), .bool b] w fun e w' => e = .returned (.string (bs (Ur.enc (if b then Ur.fre else Ur.freP) S))) ∧ Below w.heap.size w w' := by
  cases b with
  | true =>
    have C := Lib.hid (fun v : World => encode_any S hS 28 #[] Ur.fre kind_Plain v)
    simp only [if_true]
    generalize bs (Ur.enc Ur.fre S) = x at *
    generalize bs S = s at *
    go_enter Try.func12, Try.ntmps12
    go_wp2_with (go_at_call 27; refine (C.out _).mono ?_; rintro e w2 ⟨rfl, hb2⟩)
    go_ret
    exact ⟨rfl, hb2⟩
  | false =>
    have C := Lib.hid (fun v : World => encode_any S hS 29 #[] Ur.freP kind_PlainP v)
    simp only [Bool.false_eq_true, if_false]
    generalize bs (Ur.enc Ur.freP S) = x at *
    generalize bs S = s at *
    go_enter Try.func12, Try.ntmps12
    go_wp2_with (go_at_call 27; refine (C.out _).mono ?_; rintro e w2 ⟨rfl, hb2⟩)
    go_ret
    exact ⟨rfl, hb2⟩
theorem Decode_any (S : List UInt8) (hS : S.length ≤ 140737488355328) (w : World) : Calls Try.prog 11 #[.string (bs S)] w fun e w' => e = .returned (toldV 0 (Ur.dec 0 S)) ∧ Below w.heap.size w w' := by
  have C := Lib.hid (fun v : World => decode_any S 0 hS (by omega) v)
  cases hR : Ur.dec 0 S with
  | ok l =>
    rw [hR] at C
    simp only [toldV] at C ⊢
    generalize bs l = x at *
    generalize bs S = s at *
    go_enter Try.func11, Try.ntmps11
    go_wp2_with (go_at_call 26; refine (C.out _).mono ?_; rintro e w2 ⟨rfl, hb2⟩)
    try simp only [Exit.inBlock, Exit.then]
    refine bodyPost_ret (results_tmp3 rfl _ _ _) rfl ?_
    exact ⟨rfl, hb2⟩
  | bad k =>
    rw [hR] at C
    simp only [toldV, Nat.zero_add] at C ⊢
    generalize bs [] = x at *
    generalize bs S = s at *
    go_enter Try.func11, Try.ntmps11
    go_wp2_with (go_at_call 26; refine (C.out _).mono ?_; rintro e w2 ⟨rfl, hb2⟩)
    try simp only [Exit.inBlock, Exit.then]
    refine bodyPost_ret (results_tmp3 rfl _ _ _) rfl ?_
    exact ⟨rfl, hb2⟩
end Go.Proofs.Ytiodbkloecpdcaa
