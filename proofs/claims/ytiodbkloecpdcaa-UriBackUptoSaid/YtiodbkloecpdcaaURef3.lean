/- The document's own paths and names. -/
import Derived.Test.YtiodbkloecpdcaaURef2
import Derived.Test.YtiodbkloecpdcaaUBucket
namespace Go.Proofs.Ytiodbkloecpdcaa
open Go.RowKit

attribute [local go_sem high] run_index_byte
theorem getD_drop1 (S : List UInt8) (k : Nat) : (S.drop 1).getD k 0 = S.getD (k + 1) 0 := by rw [set_at]; congr 1; omega
set_option maxRecDepth 100000 in
set_option maxHeartbeats 2000000 in
theorem vSplit_any (S : List UInt8) (hS : S.length ≤ 140737488355328) (w : World) : Calls Try.prog 23 #[.string (bs S)] w fun e w' => e = .returned (.tuple #[.string (bs (Ur.bucketOf S)), .string (bs (Ur.keyOf S))]) ∧ Below w.heap.size w w' := by
  by_cases h0 : S = []
  · subst h0
    rw [show Ur.bucketOf [] = [] from rfl, show Ur.keyOf [] = [] from rfl]
    have q := bs_none
    obtain ⟨s, hs⟩ : ∃ s, s = bs [] := ⟨_, rfl⟩
    have HS := Lib.hid hs
    rw [← hs] at q ⊢
    clear hs
    go_enter Try.func23, Try.ntmps23
    go_wp2_with fail
    go_ret2
    exact ⟨by rw [HS.out, ← bs_nil]; rfl, Below.refl _ _⟩
  have hl1 : 1 ≤ S.length := by cases S with | nil => exact absurd rfl h0 | cons c r => simp
  have q := bs_some h0
  have hh : S.head? = some 47 ↔ S.getD 0 0 = 47 := by cases S with | nil => exact absurd rfl h0 | cons c r => simp
  obtain ⟨s, hs⟩ : ∃ s, s = bs S := ⟨_, rfl⟩
  have hss : s.size = S.length := by rw [hs, bs_size]
  have HS := Lib.hid hs
  have hst : ∀ i, S.getD i 0 = strAt s i := fun i => by rw [hs]; exact (strAt_bs S i).symm
  rw [hst] at hh
  have HST := Lib.hid hst
  rw [← hs] at q ⊢
  clear hs h0 hst
  by_cases h47 : S.head? = some 47
  · have q47 : (((strAt s 0).toNat : Int) == 47) = true := by rw [hh.1 h47]; rfl
    have RI0 : ∀ v : World, (Instr.index 9 (.string s) (.int .i64 0)).run Try.prog v = .ok (.int .u8 ((strAt s 0).toNat : Int)) v := fun v => run_index_byte v _ _ _ 0 Try.underlying9 (by omega)
    obtain ⟨X1, hX1⟩ : ∃ x, x = Ur.bucketOf S := ⟨_, rfl⟩
    obtain ⟨X2, hX2⟩ : ∃ x, x = Ur.keyOf S := ⟨_, rfl⟩
    rw [← hX1, ← hX2]
    rw [Ur.bucketOf, if_pos h47] at hX1
    rw [Ur.keyOf, if_pos h47] at hX2
    have HX1 := Lib.hid hX1
    have HX2 := Lib.hid hX2
    clear hX1 hX2 hh h47
    obtain ⟨N, hN⟩ : ∃ N, N = S.length := ⟨_, rfl⟩
    have HN := Lib.hid hN
    rw [← hN] at hss hS hl1
    clear hN
    go_enter Try.func23, Try.ntmps23
    go_wp2_with fail
    go_loopw [4] (fun iv wr => ∃ j : Nat, 1 ≤ j ∧ j ≤ N ∧ iv = .int .i64 j ∧ Hid (∀ k, k < j - 1 → ((S.drop 1).getD k 0 == 47) = false) ∧ wr = w) (fun iv _ => N - (intOf iv).toNat)
    case atStart => exact ⟨1, by omega, by omega, rfl, Lib.hid (fun k hk => by omega), rfl⟩
    case round =>
      clear q47 RI0
      obtain ⟨j, hj1, hj, rfl, hb, hw⟩ := hrel
      obtain rfl := hw.symm
      clear hw
      by_cases hlt : j < N
      · have hgj : (S.drop 1).getD (j - 1) 0 = strAt s j := by rw [getD_drop1, show j - 1 + 1 = j by omega]; exact HST.out j
        have RI : ∀ v : World, (Instr.index 9 (.string s) (.int .i64 (j : Int))).run Try.prog v = .ok (.int .u8 ((strAt s j).toNat : Int)) v := fun v => run_index_byte v _ _ _ j Try.underlying9 (by omega)
        generalize strAt s j = c at *
        by_cases hc : c.toNat = 47
        · have q47 : ((c.toNat : Int) == 47) = true := by rw [hc]; rfl
          have hlen : Ur.len (· == 47) (S.drop 1) = j - 1 := Ur.len_hit _ _ _ (by rw [List.length_drop, ← HN.out]; omega) (by rw [hgj, beq_iff_eq]; exact UInt8.toNat_inj.1 hc) hb.out
          have R1 : ∀ v : World, (Instr.slice 9 (.string s) (some (.int .i64 1)) (some (.int .i64 (j : Int))) none).run Try.prog v = .ok (.string (bs X1)) v := fun v => by
            have := run_mid_string v 9 s .i64 .i64 1 j Try.underlying9 hj1 (by omega)
            rw [show ((1 : Nat) : Int) = 1 from rfl] at this
            rw [this]
            congr 2
            refine bs_of ?_
            rw [extract_list, HS.out, bs_list, HX1.out, hlen, List.drop_take]
          have R2 : ∀ v : World, (Instr.slice 9 (.string s) (some (.int .i64 ((j : Int) + 1))) none none).run Try.prog v = .ok (.string (bs X2)) v := fun v => by
            have := run_rest_string v 9 s .i64 (j + 1) Try.underlying9 (by omega)
            rw [show ((j + 1 : Nat) : Int) = (j : Int) + 1 by omega] at this
            rw [this]
            congr 2
            refine bs_of ?_
            rw [extract_from, HS.out, bs_list, HX2.out, hlen, List.drop_drop]
            congr 1
            omega
          clear hgj hc hlen hb
          obtain ⟨x1, e1⟩ : ∃ x, x = bs X1 := ⟨_, rfl⟩
          obtain ⟨x2, e2⟩ : ∃ x, x = bs X2 := ⟨_, rfl⟩
          rw [← e1] at R1
          rw [← e2] at R2
          have E1 := Lib.hid e1
          have E2 := Lib.hid e2
          clear e1 e2
          go_wp2_with fail
          go_quiet (fail)
          go_wp2_with fail
          go_ret2
          exact ⟨by rw [← E1.out, ← E2.out]; rfl, below_drewN (Below.refl _ _) _⟩
        · have q47 : ((c.toNat : Int) == 47) = false := by simp; omega
          have hne : (c == 47) = false := by rw [c47]; exact decide_eq_false hc
          have HG := Lib.hid hgj; have HNE := Lib.hid hne
          clear hc hne hgj
          go_wp2_with fail
          go_roundw
          case rel =>
            refine ⟨j + 1, by omega, by omega, by go_num, Lib.hid (fun k hk => ?_), trivial⟩
            by_cases e : k = j - 1
            · rw [e, HG.out]; exact HNE.out
            · exact hb.out k (by omega)
          case measure => simp [intOf]; omega
      · obtain rfl : j = N := by omega
        have hlen : Ur.len (· == 47) (S.drop 1) = (S.drop 1).length := Ur.len_miss _ _ (fun k hk => hb.out k (by rw [List.length_drop, ← HN.out] at hk; omega))
        have R1 : ∀ v : World, (Instr.slice 9 (.string s) (some (.int .i64 1)) none none).run Try.prog v = .ok (.string (bs X1)) v := fun v => by
          have := run_rest_string v 9 s .i64 1 Try.underlying9 (by omega)
          rw [show ((1 : Nat) : Int) = 1 from rfl] at this
          rw [this]
          congr 2
          refine bs_of ?_
          rw [extract_from, HS.out, bs_list, HX1.out, hlen, List.take_length]
        have e2 : X2 = [] := by rw [HX2.out, hlen]; exact List.drop_eq_nil_of_le (by omega)
        obtain ⟨x1, e1⟩ : ∃ x, x = bs X1 := ⟨_, rfl⟩
        rw [← e1] at R1
        have E1 := Lib.hid e1
        have E2 := Lib.hid e2
        clear hlen hb e2 e1
        go_wp2_with fail
        go_ret2
        exact ⟨by rw [E2.out, ← E1.out, ← bs_nil]; rfl, Below.refl _ _⟩
  · have q47 : (((strAt s 0).toNat : Int) == 47) = false := by
      have : (strAt s 0).toNat ≠ 47 := fun h => h47 (hh.2 (UInt8.toNat_inj.1 h))
      simp; omega
    have RI0 : ∀ v : World, (Instr.index 9 (.string s) (.int .i64 0)).run Try.prog v = .ok (.int .u8 ((strAt s 0).toNat : Int)) v := fun v => run_index_byte v _ _ _ 0 Try.underlying9 (by omega)
    rw [Ur.bucketOf, Ur.keyOf, if_neg h47, if_neg h47]
    clear hh h47
    go_enter Try.func23, Try.ntmps23
    go_wp2_with fail
    go_ret2
    exact ⟨by rw [← bs_nil]; rfl, Below.refl _ _⟩
end Go.Proofs.Ytiodbkloecpdcaa
