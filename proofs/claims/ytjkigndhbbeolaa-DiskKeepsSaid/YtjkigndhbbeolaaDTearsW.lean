/- The walk of the statement DiskTears, its own text. -/
import Derived.Test.YtjkigndhbbeolaaDTears
namespace Go.Proofs.Ytjkigndhbbeolaa
open Go.RowKit

/-- What stands ahead of the j-th round. -/
structure TearAt (w : World) (p d : Nat) (ss : List ByteArray) (keep : List Bool) (c L j : Nat) (q : ByteArray) (wr : World) : Prop where
  want : q.data.toList = tearW ss keep c L j
  rack : ∃ F acts, acts = j ∧ Rack w p d F 8 (blankS 8) (tearPs ss j) acts wr

theorem yes_later {w : World} {keep : List Bool} {w' : World} (hb : Below w.heap.size w w') {kb ko : Nat}
    (hy : ∀ i, i < keep.length → w.cell? ⟨kb, ko + i, none⟩ = some (.bool (keep.getD i false))) (hk : kb < w.heap.size) (i : Nat) (hi : i < keep.length) : w'.cell? ⟨kb, ko + i, none⟩ = some (.bool (keep.getD i false)) :=
  (hb.cell (p := ⟨kb, ko + i, none⟩) hk).trans (hy i hi)
theorem clamp_toNat (t : Int) : (min (max t 0) 64).toNat = Dk.clamp t := by have := Dk.clamp_eq t; omega
theorem Rack.drewN {w0 w : World} {p d : Nat} {F : List Nat} {n : Nat} {S : List (List UInt8)} {ps : List Dk.Wr} {acts : Nat} (h : Rack w0 p d F n S ps acts w) (m : Nat) : Rack w0 p d F n S ps acts (w.drewN m) :=
  h.below (below_drewN (Below.refl _ _) m)
theorem want_lost {qs q : ByteArray} {c c' : Nat} {l l' : List UInt8} (hc : c' = c) (h1 : qs.data.toList = l) (h2 : q.data.toList = l') : (qs.extract 0 c' ++ q.extract c' q.size).data.toList = l.take c ++ l'.drop c := by
  subst hc
  have e1 : (qs.extract 0 c').data.toList = qs.data.toList.take c' := by simp [ByteArray.data_extract, Array.toList_extract]
  have e2 : (q.extract c' q.size).data.toList = q.data.toList.drop c' := by simp [ByteArray.data_extract, Array.toList_extract, List.take_of_length_le]
  have e3 : (qs.extract 0 c' ++ q.extract c' q.size).data.toList = (qs.extract 0 c').data.toList ++ (q.extract c' q.size).data.toList := by simp
  rw [e3, e1, e2, h1, h2]
set_option maxRecDepth 100000 in
set_option maxHeartbeats 4000000 in
theorem Tears_short (a0 : Option Addr) (b off len cap : Nat) (ss : List ByteArray) (ha : len = 0 ∨ a0 = some ⟨b, off, none⟩) (hl : ss.length = len) (hss : ∀ i, i < len → (ss.getD i ByteArray.empty).size ≤ 9223372036854775807)
    (kv : Value) (kb ko : Nat) (keep : List Bool) (t : Int) (ht1 : -9223372036854775808 ≤ t) (ht2 : t ≤ 9223372036854775807) (w : World) (hb : len = 0 ∨ b < w.heap.size)
    (hc : ∀ i, i < len → w.cell? ⟨b, off + i, none⟩ = some (.string (ss.getD i ByteArray.empty))) (hkw : keep.length = 0 ∨ kb < w.heap.size)
    (hy : Yes kv kb ko (if keep.length = 0 then [] else [kb]) keep w) (L : Nat) (c : Nat) (hcc : c = Dk.clamp t) (hL2 : L ≤ len) (hL3 : len ≤ L) (hlen : len ≤ 60) :
    Calls Try.prog 6 #[.slice a0 len cap, kv, .int .i64 t] w fun e w' => e = .returned (.bool true) ∧ Below w.heap.size w w' := by
  obtain ⟨k0, kcap, rfl, hk0⟩ := hy.form
  obtain ⟨qz, hqz⟩ := list_of (List.replicate 64 (0 : UInt8))
  have HQZ := Lib.hid hqz
  have HA := Lib.hid ha
  have HL := Lib.hid hl
  have HSS := Lib.hid hss
  have Hb := Lib.hid hb
  have HC := Lib.hid hc
  have HY := Lib.hid hy
  have HK0 := Lib.hid hk0
  have HKW := Lib.hid hkw
  have HCC := Lib.hid hcc
  have hfw := hy.few
  obtain ⟨kl, hkl⟩ : ∃ kl, kl = keep.length := ⟨_, rfl⟩
  rw [← hkl] at hfw ⊢
  have HKL := Lib.hid hkl
  have HY' : Hid (Yes (.slice k0 kl kcap) kb ko (if keep.length = 0 then [] else [kb]) keep w) := Lib.hid (by rw [hkl]; exact hy)
  clear ha hl hss hb hc hy hk0 hqz hkw hcc hkl
  go_enter Try.func6, Try.ntmps6
  go_wp2_with fail
  refine (known_true _).mono ?_
  rintro e w1 ⟨rfl, hb1⟩
  have B1 := Lib.hid hb1
  clear hb1
  go_wp2_with fail
  refine (rack_new _).mono ?_
  rintro e w2 ⟨p, d, F, rfl, hr2⟩
  have R2 := Lib.hid (hr2.back B1.out)
  clear hr2 B1
  go_wp2_with fail
  refine (R2.out.sector ⟨#[]⟩ qz (by decide) (by rw [HQZ.out, ← Dk.sector_nil])).mono ?_
  rintro e w3 ⟨rfl, hr3⟩
  have R3 := Lib.hid hr3
  clear hr3 R2
  go_wp2_with fail
  go_loopw [10, 11, 12] (fun v f i wr => ∃ (j : Nat) (q : ByteArray), j ≤ L ∧ i = .int .i64 j ∧ v = .string q ∧ f = .bool (firstB keep j) ∧ TearAt w p d ss keep c L j q wr) (fun _ _ i _ => L - (intOf i).toNat)
  case atStart => exact ⟨0, qz, by omega, rfl, rfl, by rw [firstB_zero], ⟨by rw [HQZ.out, tearW_zero], F, 0, rfl, by rw [tearPs_zero]; exact R3.out⟩⟩
  case round =>
    clear R3
    obtain ⟨j, q, hj, rfl, rfl, rfl, hT⟩ := hrel
    by_cases hlt : j < L
    · have hlen' : j < len := by omega
      obtain rfl : a0 = some ⟨b, off, none⟩ := by rcases HA.out with h | h; omega; exact h
      have hbw : b < w.heap.size := by rcases Hb.out with h | h; omega; exact h
      obtain ⟨x, hx⟩ : ∃ x, x = ss.getD j ByteArray.empty := ⟨_, rfl⟩
      obtain ⟨qs, hqs⟩ := list_of (Dk.sector x.data.toList)
      have hqz64 : qs.size = 64 := by rw [← size_toList, hqs, Dk.length_sector]
      obtain ⟨F4, acts, hacts, hR⟩ := hT.rack
      have cx : wr.cell? ⟨b, off + j, none⟩ = some (.string x) := by rw [hR.old.cell (p := ⟨b, off + j, none⟩) hbw, HC.out j hlen', hx]
      have hxs : x.size ≤ 9223372036854775807 := by rw [hx]; exact HSS.out j hlen'
      have hql : q.size = 64 := by rw [← size_toList, hT.want]; exact length_tearW (by rw [HL.out]; exact hL2) hj
      have hql1 : q.size ≤ 64 := by omega
      have hql2 : 64 ≤ q.size := by omega
      have hqs1 : qs.size ≤ 64 := by omega
      have hqs2 : 64 ≤ qs.size := by omega
      have hps : tearPs ss (j + 1) = tearPs ss j ++ [(5, qs.data.toList)] := by rw [tearPs_succ (by rw [HL.out]; exact hlen'), hqs, hx]
      have hpl : (tearPs ss j).length = j := length_tearPs (by rw [HL.out]; omega)
      have HPL := Lib.hid hpl
      have HPS := Lib.hid hps
      have HQS := Lib.hid hqs
      have HQ64 := Lib.hid hqz64
      have HX := Lib.hid hx
      have HT := Lib.hid hT
      have HR := Lib.hid hR
      have HACT := Lib.hid hacts
      have hact : acts ≤ 1000000000 := by omega
      clear hpl hps hqs hqz64 hx hT hR hacts hql
      go_wp2_with fail
      refine (HR.out.sector x qs hxs HQS.out).mono ?_
      rintro e w4 ⟨rfl, hr4⟩
      have R4 := Lib.hid hr4
      clear hr4 HR
      go_wp2_with fail
      refine (R4.out.write 5 qs (by omega) HQ64.out (by rw [HPL.out]; omega) hact).mono ?_
      rintro e w5 ⟨rfl, F5, hr5⟩
      rw [← HPS.out] at hr5
      have R5 : Hid (∃ F acts, acts = j + 1 ∧ Rack w p d F 8 (blankS 8) (tearPs ss (j + 1)) acts w5) := Lib.hid ⟨F5, _, by rw [HACT.out], hr5⟩
      have B5 := Lib.hid hr5.old
      clear hr5 R4
      by_cases hk : j < kl
      · obtain rfl : k0 = some ⟨kb, ko, none⟩ := by rcases HK0.out with h | h; (rw [← HKL.out] at h; omega); exact h
        have hkbw : kb < w.heap.size := by rcases HKW.out with h | h; (rw [← HKL.out] at h; omega); exact h
        have ck := yes_later B5.out HY.out.cells hkbw j (by rw [← HKL.out]; exact hk)
        cases hkj : keep.getD j false with
        | true =>
          rw [hkj] at ck
          have HKJ := Lib.hid hkj
          clear hkj
          go_wp2_with fail
          go_roundw
          case rel => exact ⟨j + 1, qs, by omega, by go_num, rfl, by rw [firstB_kept HKJ.out], ⟨by rw [HQS.out, tearW_kept (by rw [HL.out]; exact hL2) hlt HKJ.out, HX.out], R5.out⟩⟩
          case measure => simp [intOf]; omega
        | false =>
          rw [hkj] at ck
          have HKJ := Lib.hid hkj
          clear hkj
          cases hf : firstB keep j with
          | true =>
            have HF := Lib.hid hf
            clear hf
            go_wp2_with fail
            go_quiet (fail)
            go_wp2
            go_roundw
            case rel =>
              refine ⟨j + 1, _, by omega, by go_num, rfl, by rw [firstB_lost HKJ.out], ⟨?_, ?_⟩⟩
              · rw [want_lost (c := c) (by rw [HCC.out, clamp_toNat]) HQS.out HT.out.want, tearW_first (by rw [HL.out]; exact hL2) hlt HKJ.out HF.out, HX.out]
              · obtain ⟨F, acts, h1, h2⟩ := R5.out
                exact ⟨F, acts, h1, h2.drewN _⟩
            case measure => simp [intOf]; omega
          | false =>
            have HF := Lib.hid hf
            clear hf
            go_wp2_with fail
            go_roundw
            case rel => exact ⟨j + 1, q, by omega, by go_num, rfl, by rw [firstB_lost HKJ.out], ⟨by rw [HT.out.want, tearW_later (by rw [HL.out]; exact hL2) hlt HKJ.out HF.out], R5.out⟩⟩
            case measure => simp [intOf]; omega
      · have hkj : keep.getD j false = false := by rw [List.getD, List.getElem?_eq_none (by rw [← HKL.out]; omega)]; rfl
        have hkd : decide ((j : Int) < (kl : Int)) = false := by rw [decide_eq_false_iff_not]; omega
        have HKJ := Lib.hid hkj
        clear hkj
        cases hf : firstB keep j with
        | true =>
          have HF := Lib.hid hf
          clear hf
          go_wp2_with fail
          go_quiet (fail)
          go_wp2
          go_roundw
          case rel =>
            refine ⟨j + 1, _, by omega, by go_num, rfl, by rw [firstB_lost HKJ.out], ⟨?_, ?_⟩⟩
            · rw [want_lost (c := c) (by rw [HCC.out, clamp_toNat]) HQS.out HT.out.want, tearW_first (by rw [HL.out]; exact hL2) hlt HKJ.out HF.out, HX.out]
            · obtain ⟨F, acts, h1, h2⟩ := R5.out
              exact ⟨F, acts, h1, h2.drewN _⟩
          case measure => simp [intOf]; omega
        | false =>
          have HF := Lib.hid hf
          clear hf
          go_wp2_with fail
          go_roundw
          case rel => exact ⟨j + 1, q, by omega, by go_num, rfl, by rw [firstB_lost HKJ.out], ⟨by rw [HT.out.want, tearW_later (by rw [HL.out]; exact hL2) hlt HKJ.out HF.out], R5.out⟩⟩
          case measure => simp [intOf]; omega
    · obtain rfl : j = L := by omega
      obtain ⟨F4, acts, hacts, hR⟩ := hT.rack
      have hyr : Yes (.slice k0 kl kcap) kb ko (if keep.length = 0 then [] else [kb]) keep wr := by
        refine HY'.out.keep (fun k hk => hR.old.block k ?_)
        split at hk
        · simp at hk
        · rcases HKW.out with h | h
          · contradiction
          · rw [List.mem_singleton.1 hk]; exact h
      have hks : ∀ k ∈ (if keep.length = 0 then [] else [kb]), k < wr.heap.size ∧ k ∉ F4 := by
        intro k hk
        have hkb : k < w.heap.size := by
          split at hk
          · simp at hk
          · rcases HKW.out with h | h
            · contradiction
            · rw [List.mem_singleton.1 hk]; exact h
        exact ⟨Nat.lt_of_lt_of_le hkb hR.old.size, fun hm => by have := hR.fn k hm; omega⟩
      have HYR := Lib.hid hyr
      have HKS := Lib.hid hks
      have HT := Lib.hid hT
      have HR := Lib.hid hR
      clear hyr hks hT hR hacts
      go_wp2_with fail
      refine (HR.out.lose _ kb ko _ keep t HYR.out HKS.out).mono ?_
      rintro e w5 ⟨rfl, hr5⟩
      have hpl : (tearPs ss j).length = j := length_tearPs (by rw [HL.out]; omega)
      rw [hpl, ← HCC.out] at hr5
      have R5 := Lib.hid hr5
      clear hr5 HR hpl
      go_wp2_with fail
      refine (R5.out.read 5 (by omega) q (by rw [HT.out.want, Dk.readAt_nil, tearW_eq])).mono ?_
      rintro e w6 ⟨rfl, rfl⟩
      go_wp2_with fail
      refine (R5.out.read 4 (by omega) qz (by rw [HQZ.out, Dk.readAt_nil, tear_other ss keep c j (by rw [HL.out]; exact hL2) j (Nat.le_refl _)])).mono ?_
      rintro e w6 ⟨rfl, rfl⟩
      go_wp2_with fail
      refine (R5.out.sector ⟨#[]⟩ qz (by decide) (by rw [HQZ.out, ← Dk.sector_nil])).mono ?_
      rintro e w7 ⟨rfl, hr7⟩
      have R7 := Lib.hid hr7.old
      clear hr7 R5
      go_wp2_with fail
      go_ret
      exact ⟨rfl, R7.out⟩
set_option maxRecDepth 100000 in
set_option maxHeartbeats 4000000 in
theorem Tears_long (a0 : Option Addr) (b off len cap : Nat) (ss : List ByteArray) (ha : len = 0 ∨ a0 = some ⟨b, off, none⟩) (hl : ss.length = len) (hss : ∀ i, i < len → (ss.getD i ByteArray.empty).size ≤ 9223372036854775807)
    (kv : Value) (kb ko : Nat) (keep : List Bool) (t : Int) (ht1 : -9223372036854775808 ≤ t) (ht2 : t ≤ 9223372036854775807) (w : World) (hb : len = 0 ∨ b < w.heap.size)
    (hc : ∀ i, i < len → w.cell? ⟨b, off + i, none⟩ = some (.string (ss.getD i ByteArray.empty))) (hkw : keep.length = 0 ∨ kb < w.heap.size)
    (hy : Yes kv kb ko (if keep.length = 0 then [] else [kb]) keep w) (L : Nat) (c : Nat) (hcc : c = Dk.clamp t) (hL2 : L ≤ len) (hL3 : L ≤ 60) (hL4 : 60 ≤ L) (hlen : 60 < len) (hlc : len ≤ cap) :
    Calls Try.prog 6 #[.slice a0 len cap, kv, .int .i64 t] w fun e w' => e = .returned (.bool true) ∧ Below w.heap.size w w' := by
  obtain ⟨k0, kcap, rfl, hk0⟩ := hy.form
  obtain ⟨qz, hqz⟩ := list_of (List.replicate 64 (0 : UInt8))
  have HQZ := Lib.hid hqz
  have HA := Lib.hid ha
  have HL := Lib.hid hl
  have HSS := Lib.hid hss
  have Hb := Lib.hid hb
  have HC := Lib.hid hc
  have HY := Lib.hid hy
  have HK0 := Lib.hid hk0
  have HKW := Lib.hid hkw
  have HCC := Lib.hid hcc
  have hfw := hy.few
  obtain ⟨kl, hkl⟩ : ∃ kl, kl = keep.length := ⟨_, rfl⟩
  rw [← hkl] at hfw ⊢
  have HKL := Lib.hid hkl
  have HY' : Hid (Yes (.slice k0 kl kcap) kb ko (if keep.length = 0 then [] else [kb]) keep w) := Lib.hid (by rw [hkl]; exact hy)
  clear ha hl hss hb hc hy hk0 hqz hkw hcc hkl
  obtain rfl : a0 = some ⟨b, off, none⟩ := by rcases HA.out with h | h; omega; exact h
  go_enter Try.func6, Try.ntmps6
  go_wp2_with fail
  refine (known_true _).mono ?_
  rintro e w1 ⟨rfl, hb1⟩
  have B1 := Lib.hid hb1
  clear hb1
  go_wp2_with fail
  refine (rack_new _).mono ?_
  rintro e w2 ⟨p, d, F, rfl, hr2⟩
  have R2 := Lib.hid (hr2.back B1.out)
  clear hr2 B1
  go_wp2_with fail
  refine (R2.out.sector ⟨#[]⟩ qz (by decide) (by rw [HQZ.out, ← Dk.sector_nil])).mono ?_
  rintro e w3 ⟨rfl, hr3⟩
  have R3 := Lib.hid hr3
  clear hr3 R2
  go_wp2_with fail
  go_loopw [10, 11, 12] (fun v f i wr => ∃ (j : Nat) (q : ByteArray), j ≤ L ∧ i = .int .i64 j ∧ v = .string q ∧ f = .bool (firstB keep j) ∧ TearAt w p d ss keep c L j q wr) (fun _ _ i _ => L - (intOf i).toNat)
  case atStart => exact ⟨0, qz, by omega, rfl, rfl, by rw [firstB_zero], ⟨by rw [HQZ.out, tearW_zero], F, 0, rfl, by rw [tearPs_zero]; exact R3.out⟩⟩
  case round =>
    clear R3
    obtain ⟨j, q, hj, rfl, rfl, rfl, hT⟩ := hrel
    by_cases hlt : j < L
    · have hlen' : j < len := by omega
      have hbw : b < w.heap.size := by rcases Hb.out with h | h; omega; exact h
      obtain ⟨x, hx⟩ : ∃ x, x = ss.getD j ByteArray.empty := ⟨_, rfl⟩
      obtain ⟨qs, hqs⟩ := list_of (Dk.sector x.data.toList)
      have hqz64 : qs.size = 64 := by rw [← size_toList, hqs, Dk.length_sector]
      obtain ⟨F4, acts, hacts, hR⟩ := hT.rack
      have cx : wr.cell? ⟨b, off + j, none⟩ = some (.string x) := by rw [hR.old.cell (p := ⟨b, off + j, none⟩) hbw, HC.out j hlen', hx]
      have hxs : x.size ≤ 9223372036854775807 := by rw [hx]; exact HSS.out j hlen'
      have hql : q.size = 64 := by rw [← size_toList, hT.want]; exact length_tearW (by rw [HL.out]; exact hL2) hj
      have hql1 : q.size ≤ 64 := by omega
      have hql2 : 64 ≤ q.size := by omega
      have hqs1 : qs.size ≤ 64 := by omega
      have hqs2 : 64 ≤ qs.size := by omega
      have hps : tearPs ss (j + 1) = tearPs ss j ++ [(5, qs.data.toList)] := by rw [tearPs_succ (by rw [HL.out]; exact hlen'), hqs, hx]
      have hpl : (tearPs ss j).length = j := length_tearPs (by rw [HL.out]; omega)
      have HPL := Lib.hid hpl
      have HPS := Lib.hid hps
      have HQS := Lib.hid hqs
      have HQ64 := Lib.hid hqz64
      have HX := Lib.hid hx
      have HT := Lib.hid hT
      have HR := Lib.hid hR
      have HACT := Lib.hid hacts
      have hact : acts ≤ 1000000000 := by omega
      clear hpl hps hqs hqz64 hx hT hR hacts hql
      go_wp2_with fail
      refine (HR.out.sector x qs hxs HQS.out).mono ?_
      rintro e w4 ⟨rfl, hr4⟩
      have R4 := Lib.hid hr4
      clear hr4 HR
      go_wp2_with fail
      refine (R4.out.write 5 qs (by omega) HQ64.out (by rw [HPL.out]; omega) hact).mono ?_
      rintro e w5 ⟨rfl, F5, hr5⟩
      rw [← HPS.out] at hr5
      have R5 : Hid (∃ F acts, acts = j + 1 ∧ Rack w p d F 8 (blankS 8) (tearPs ss (j + 1)) acts w5) := Lib.hid ⟨F5, _, by rw [HACT.out], hr5⟩
      have B5 := Lib.hid hr5.old
      clear hr5 R4
      by_cases hk : j < kl
      · obtain rfl : k0 = some ⟨kb, ko, none⟩ := by rcases HK0.out with h | h; (rw [← HKL.out] at h; omega); exact h
        have hkbw : kb < w.heap.size := by rcases HKW.out with h | h; (rw [← HKL.out] at h; omega); exact h
        have ck := yes_later B5.out HY.out.cells hkbw j (by rw [← HKL.out]; exact hk)
        cases hkj : keep.getD j false with
        | true =>
          rw [hkj] at ck
          have HKJ := Lib.hid hkj
          clear hkj
          go_wp2_with fail
          go_roundw
          case rel => exact ⟨j + 1, qs, by omega, by go_num, rfl, by rw [firstB_kept HKJ.out], ⟨by rw [HQS.out, tearW_kept (by rw [HL.out]; exact hL2) hlt HKJ.out, HX.out], R5.out⟩⟩
          case measure => simp [intOf]; omega
        | false =>
          rw [hkj] at ck
          have HKJ := Lib.hid hkj
          clear hkj
          cases hf : firstB keep j with
          | true =>
            have HF := Lib.hid hf
            clear hf
            go_wp2_with fail
            go_quiet (fail)
            go_wp2
            go_roundw
            case rel =>
              refine ⟨j + 1, _, by omega, by go_num, rfl, by rw [firstB_lost HKJ.out], ⟨?_, ?_⟩⟩
              · rw [want_lost (c := c) (by rw [HCC.out, clamp_toNat]) HQS.out HT.out.want, tearW_first (by rw [HL.out]; exact hL2) hlt HKJ.out HF.out, HX.out]
              · obtain ⟨F, acts, h1, h2⟩ := R5.out
                exact ⟨F, acts, h1, h2.drewN _⟩
            case measure => simp [intOf]; omega
          | false =>
            have HF := Lib.hid hf
            clear hf
            go_wp2_with fail
            go_roundw
            case rel => exact ⟨j + 1, q, by omega, by go_num, rfl, by rw [firstB_lost HKJ.out], ⟨by rw [HT.out.want, tearW_later (by rw [HL.out]; exact hL2) hlt HKJ.out HF.out], R5.out⟩⟩
            case measure => simp [intOf]; omega
      · have hkj : keep.getD j false = false := by rw [List.getD, List.getElem?_eq_none (by rw [← HKL.out]; omega)]; rfl
        have hkd : decide ((j : Int) < (kl : Int)) = false := by rw [decide_eq_false_iff_not]; omega
        have HKJ := Lib.hid hkj
        clear hkj
        cases hf : firstB keep j with
        | true =>
          have HF := Lib.hid hf
          clear hf
          go_wp2_with fail
          go_quiet (fail)
          go_wp2
          go_roundw
          case rel =>
            refine ⟨j + 1, _, by omega, by go_num, rfl, by rw [firstB_lost HKJ.out], ⟨?_, ?_⟩⟩
            · rw [want_lost (c := c) (by rw [HCC.out, clamp_toNat]) HQS.out HT.out.want, tearW_first (by rw [HL.out]; exact hL2) hlt HKJ.out HF.out, HX.out]
            · obtain ⟨F, acts, h1, h2⟩ := R5.out
              exact ⟨F, acts, h1, h2.drewN _⟩
          case measure => simp [intOf]; omega
        | false =>
          have HF := Lib.hid hf
          clear hf
          go_wp2_with fail
          go_roundw
          case rel => exact ⟨j + 1, q, by omega, by go_num, rfl, by rw [firstB_lost HKJ.out], ⟨by rw [HT.out.want, tearW_later (by rw [HL.out]; exact hL2) hlt HKJ.out HF.out], R5.out⟩⟩
          case measure => simp [intOf]; omega
    · obtain rfl : j = L := by omega
      obtain ⟨F4, acts, hacts, hR⟩ := hT.rack
      have hyr : Yes (.slice k0 kl kcap) kb ko (if keep.length = 0 then [] else [kb]) keep wr := by
        refine HY'.out.keep (fun k hk => hR.old.block k ?_)
        split at hk
        · simp at hk
        · rcases HKW.out with h | h
          · contradiction
          · rw [List.mem_singleton.1 hk]; exact h
      have hks : ∀ k ∈ (if keep.length = 0 then [] else [kb]), k < wr.heap.size ∧ k ∉ F4 := by
        intro k hk
        have hkb : k < w.heap.size := by
          split at hk
          · simp at hk
          · rcases HKW.out with h | h
            · contradiction
            · rw [List.mem_singleton.1 hk]; exact h
        exact ⟨Nat.lt_of_lt_of_le hkb hR.old.size, fun hm => by have := hR.fn k hm; omega⟩
      have HYR := Lib.hid hyr
      have HKS := Lib.hid hks
      have HT := Lib.hid hT
      have HR := Lib.hid hR
      clear hyr hks hT hR hacts
      go_wp2_with fail
      refine (HR.out.lose _ kb ko _ keep t HYR.out HKS.out).mono ?_
      rintro e w5 ⟨rfl, hr5⟩
      have hpl : (tearPs ss j).length = j := length_tearPs (by rw [HL.out]; omega)
      rw [hpl, ← HCC.out] at hr5
      have R5 := Lib.hid hr5
      clear hr5 HR hpl
      go_wp2_with fail
      refine (R5.out.read 5 (by omega) q (by rw [HT.out.want, Dk.readAt_nil, tearW_eq])).mono ?_
      rintro e w6 ⟨rfl, rfl⟩
      go_wp2_with fail
      refine (R5.out.read 4 (by omega) qz (by rw [HQZ.out, Dk.readAt_nil, tear_other ss keep c j (by rw [HL.out]; exact hL2) j (Nat.le_refl _)])).mono ?_
      rintro e w6 ⟨rfl, rfl⟩
      go_wp2_with fail
      refine (R5.out.sector ⟨#[]⟩ qz (by decide) (by rw [HQZ.out, ← Dk.sector_nil])).mono ?_
      rintro e w7 ⟨rfl, hr7⟩
      have R7 := Lib.hid hr7.old
      clear hr7 R5
      go_wp2_with fail
      go_ret
      exact ⟨rfl, R7.out⟩
end Go.Proofs.Ytjkigndhbbeolaa
