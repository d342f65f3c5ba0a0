/- The walk of the document's own Open over the blocks. -/
import Derived.Test.YtdimkgidaioolaaHRef3
namespace Go.Proofs.Ytdimkgidaioolaa
open Go.RowKit
theorem mid_is (s : List UInt8) (x : List UInt8) (i j : Nat) (hi : i ≤ j) (hj : j ≤ s.length) (hx : x = (s.take j).drop i) (a b : Int) (ha : a = (i : Int)) (hb : b = (j : Int)) (w : World) : (Instr.slice 9 (.string (bs s)) (some (.int .i64 a)) (some (.int .i64 b)) none).run Try.prog w = .ok (.string (bs x)) w := by
  have := run_mid_string (P := Try.prog) w 9 (bs s) .i64 .i64 i j Try.underlying9 hi (by rw [bs_size]; omega)
  rw [ha, hb, show bs x = (bs s).extract i j from (bs_of (by rw [extract_list, bs_list, hx])).symm]
  exact this
set_option maxRecDepth 100000 in
set_option maxHeartbeats 4000000 in
theorem rOpen_body (nm s : List UInt8) (hn : nm.length ≤ 220) (h : Shd.Headed nm s) (w : World) :
    Calls Try.prog 14 #[.string (bs nm), .string (bs s)] w fun e w' => (∃ t, Shd.opn nm s = .ok t ∧ e = .returned (.tuple #[.string (bs t), .int .i64 0, .int .i64 0]) ∧ Below w.heap.size w w') ∨
      (∃ a : Nat, Shd.opn nm s = .error a ∧ e = .returned (.tuple #[.string ⟨#[]⟩, .int .i64 14, .int .i64 a]) ∧ Below w.heap.size w w') := by
  have HH := Lib.hid h
  obtain ⟨hs, hL, hne, hh⟩ := h
  have hz1 : (bs nm).size = nm.length := bs_size nm
  have hz2 : (bs s).size = s.length := bs_size s
  have CR := Lib.hid (fun v : World => read_len s hs v)
  have ht := head_take s hs
  obtain ⟨L, hLL⟩ : ∃ L, L = Shd.lenOf s := ⟨_, rfl⟩
  rw [← hLL] at hL CR hne hh
  have CZ := Lib.hid (fun v : World => rSize_ok L hL v)
  have CH := Lib.hid (fun v : World => rHhead_any nm L hn v)
  rw [← hne] at CZ
  obtain ⟨T, hT⟩ : ∃ T, T = bs (s.take 36) := ⟨_, rfl⟩
  rw [← hh, ← hT] at CH
  have hcmp : (T.toList == T.toList) = true := beq_self_eq_true _
  rw [← hT] at ht
  have hd : decide ((10000 : Int) < (L : Int)) = false := decide_eq_false (by omega)
  have HL := Lib.hid hL
  have HLL := Lib.hid hLL
  have HNE := Lib.hid hne
  clear hLL hne hh hT hL
  go_enter Try.func14, Try.ntmps14
  go_wp2_with (go_at_call 27; refine (CR.out _).mono ?_; rintro e w1 ⟨rfl, q, rfl⟩)
  have HQ := Lib.hid (below_drewN (Below.refl w.heap.size w) q)
  obtain ⟨wq, hwq⟩ : ∃ x, x = w.drewN q := ⟨_, rfl⟩
  rw [← hwq] at HQ ⊢
  clear hwq
  go_region_held3 (fun _ => True) (exact trivial) (first | (go_at_call 12; refine (CZ.out _).mono ?_; rintro e w2 ⟨rfl, rfl⟩) | (go_at_call 22; refine (CH.out _).mono ?_; rintro e w3 ⟨rfl, hb⟩; have HB := Lib.hid (HQ.out.drew.trans (hb.mono HQ.out.size)); clear hb) | fail)
  go_wp2_with fail
  go_loopw [8, 9, 10] (fun tv av iv wr => ∃ j : Nat, ∃ A : Nat, j ≤ Shd.many 200 L ∧ iv = .int .i64 j ∧ tv = .string (bs (Shd.told s L j)) ∧ av = .int .i64 A ∧ (j < Shd.many 200 L → A = 36 + 232 * j) ∧ (∀ i, i < j → Shd.Good nm s L i) ∧ Below w.heap.size w wr) (fun _ _ iv _ => Shd.many 200 L - (intOf iv).toNat)
  case atStart => exact ⟨0, 36, by omega, rfl, by rw [Shd.told_zero, ← bs_eq], rfl, fun _ => rfl, fun i hi => by omega, HB.out⟩
  case round =>
    obtain ⟨j, A, hj, rfl, rfl, rfl, hA, hgood, hB⟩ := hrel
    by_cases hlt : j < Shd.many 200 L
    · have hA1 := hA hlt
      have hL := HL.out
      have hlt2 := hlt
      unfold Shd.many at hlt2
      obtain ⟨_, hol, hsl⟩ := Shd.piece_split (s := s) (L := L) HNE.out hlt
      have htl := Shd.told_le (s := s) (L := L) HNE.out hj
      obtain ⟨K, hK⟩ : ∃ K, K = min (L - 200 * j) 200 := ⟨_, rfl⟩
      rw [← hK] at hol
      have hKi : min ((L : Int) - (j : Int) * 200) 200 = (K : Int) := by omega
      have hKb : K ≤ 200 := by omega
      have hslen : A + K + 32 ≤ s.length := by rw [HNE.out, Shd.size]; unfold Shd.many; omega
      have hsle : s.length ≤ 20000 := by rw [HNE.out]; have := Shd.size_le hL; omega
      obtain ⟨ob, hob⟩ : ∃ ob, ob = Shd.oblk s L j := ⟨_, rfl⟩
      obtain ⟨os, hos⟩ : ∃ os, os = Shd.osum s L j := ⟨_, rfl⟩
      obtain ⟨sm, hsm⟩ : ∃ sm, sm = Shd.sumOf nm L j ob := ⟨_, rfl⟩
      have m1 := mid_is s ob A (A + K) (by omega) (by omega) (by rw [hob, Shd.oblk, ← hK, ← hA1, List.drop_take]; congr 1; omega) (A : Int) ((A : Int) + (K : Int)) rfl (by omega)
      have m2 := mid_is s os (A + K) (A + K + 32) (by omega) (by omega) (by rw [hos, Shd.osum, ← hK, ← hA1, List.drop_take]; congr 1; omega) ((A : Int) + (K : Int)) ((A : Int) + (K : Int) + 32) (by omega) (by omega)
      rw [← hob] at hol
      have hobl : ob.length ≤ 200 := by omega
      have CM := Lib.hid (fun v : World => rHsum_any nm L j ob hn hobl v)
      rw [← hsm] at CM
      have hgs : Shd.Good nm s L j ↔ os = sm := by rw [Shd.Good, hos, hsm, hob]
      have HGS := Lib.hid hgs
      have HOB := Lib.hid hob
      have HGD := Lib.hid hgood
      have HA1 := Lib.hid hA1
      have HB1 := Lib.hid hB
      have HLT := Lib.hid hlt
      have HKK := Lib.hid hK
      have a1 : ∀ v : World, (Op.stringOp .add (bs (Shd.told s L j)) (bs ob)).run Try.prog v = .ok (.string (bs (Shd.told s L j) ++ bs ob)) v := fun v => run_string_add_sum v _ _ (by rw [bs_size, bs_size]; omega)
      have HE := Lib.hid (show bs (Shd.told s L j) ++ bs ob = bs (Shd.told s L (j + 1)) by rw [bs_append, Shd.told_succ, hob])
      have hj51 : j < 51 := by omega
      have hjl : (j : Int) * 200 < (L : Int) := by omega
      have hAb : A ≤ 20000 := by omega
      have W1 := Lib.hid (show IntKind.i64.wrap ((A : Int) + (K : Int)) = (A : Int) + (K : Int) from IntWalk.i64_in _ (by omega))
      have W2 := Lib.hid (show IntKind.i64.wrap ((A : Int) + (K : Int) + 32) = (A : Int) + (K : Int) + 32 from IntWalk.i64_in _ (by omega))
      clear hA hA1 hlt2 hol hsl htl hK hslen hob hos hsm hgs hgood hB hobl hlt
      by_cases hg : os = sm
      · have hcmp2 : ((bs os).toList == (bs sm).toList) = true := by rw [hg]; exact beq_self_eq_true _
        have HG2 := Lib.hid (HGS.out.2 hg)
        clear hg
        go_wp2_with fail
        have w1 := W1.out
        have w2 := W2.out
        go_region_held3 (fun _ => True) (exact trivial) (first | (go_at_call 23; refine (CM.out _).mono ?_; rintro e w3 ⟨rfl, hb⟩; have HB2 := Lib.hid (HB1.out.drew.trans (hb.mono HB1.out.size)); clear hb) | fail)
        clear w1 w2
        go_wp2_with fail
        go_roundw
        case rel =>
          refine ⟨j + 1, A + K + 32, HLT.out, by go_num, by rw [← HE.out], by go_num, fun h => ?_, fun i hi => ?_, HB2.out⟩
          · have := HKK.out
            have := HA1.out
            unfold Shd.many at h
            omega
          · by_cases e : i = j
            · rw [e]; exact HG2.out
            · exact HGD.out i (by omega)
        case measure => have := HLT.out; simp [intOf]; omega
      · have hcmp2 : ((bs os).toList == (bs sm).toList) = false := by
          rw [beq_eq_false_iff_ne, ByteArray.toList_eq, ByteArray.toList_eq, bs_list, bs_list]; exact hg
        have HO := Lib.hid (Shd.opn_rot (j := j) HH.out)
        rw [← HLL.out] at HO
        have HR := Lib.hid (show Shd.opn nm s = .error A by rw [HA1.out]; exact HO.out HLT.out HGD.out (fun h => hg (HGS.out.1 h)))
        clear hg HO
        go_wp2_with fail
        have w1 := W1.out
        have w2 := W2.out
        go_region_held3 (fun _ => True) (exact trivial) (first | (go_at_call 23; refine (CM.out _).mono ?_; rintro e w3 ⟨rfl, hb⟩; have HB2 := Lib.hid (HB1.out.drew.trans (hb.mono HB1.out.size)); clear hb) | fail)
        clear w1 w2
        go_wp2_with fail
        refine bodyPost_ret (results_tmp3 rfl _ _ _) rfl ?_
        exact .inr ⟨A, HR.out, rfl, HB2.out⟩
    · obtain rfl : j = Shd.many 200 L := by omega
      have hjt : L ≤ Shd.many 200 L * 200 := by unfold Shd.many; omega
      have hL := HL.out
      have hm : Shd.many 200 L ≤ 100 := by unfold Shd.many; omega
      have HO := Lib.hid (Shd.opn_all HH.out)
      rw [← HLL.out] at HO
      have HO2 := Lib.hid (HO.out hgood)
      obtain ⟨m, hmm⟩ : ∃ m, m = Shd.many 200 L := ⟨_, rfl⟩
      rw [← hmm] at hjt hm HO2 ⊢
      have HB := Lib.hid hB
      clear hB hlt hj hmm hgood hA HO
      go_wp2_with fail
      refine bodyPost_ret (results_tmp3 rfl _ _ _) rfl ?_
      exact .inl ⟨_, HO2.out, rfl, HB.out⟩
end Go.Proofs.Ytdimkgidaioolaa
