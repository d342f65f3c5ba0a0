/- The walk of the statement DiskTurns, its own text. -/
import Derived.Test.YtjkigndhbbeolaaDTurns
import Derived.BigQuiet
import Derived.Deep.QuietTactic
namespace Go.Proofs.Ytjkigndhbbeolaa
open Go.RowKit

theorem fold_xor8 (a b : UInt8) : bits .xor .u8 (a.toNat : Int) (b.toNat : Int) = ((a ^^^ b).toNat : Int) := by
  rw [u8_xor_nat _ _ a.toNat_lt b.toNat_lt, UInt8.toNat_xor]
attribute [local go_sem high] run_index_byte
theorem pow_fold (k : Nat) (hk : k < 8) : ((UInt8.ofNat (2 ^ k)).toNat : Int) = 2 ^ k % 256 := by
  have hp := pow_lt8 hk
  have e : ((2 ^ k : Nat) : Int) = (2 : Int) ^ k := by simp
  rw [UInt8.toNat_ofNat', ← e]
  generalize 2 ^ k = m at hp ⊢
  omega
set_option maxRecDepth 100000 in
set_option maxHeartbeats 2000000 in
theorem Turns_walk (s : ByteArray) (at0 bit0 : Int) (hs : s.size ≤ 1000000000000000) (h1 : -9223372036854775808 ≤ at0) (h2 : at0 ≤ 9223372036854775807) (h3 : -9223372036854775808 ≤ bit0) (h4 : bit0 ≤ 9223372036854775807) (w : World) :
    Calls Try.prog 8 #[.string s, .int .i64 at0, .int .i64 bit0] w fun e w' => e = .returned (.bool true) ∧ Below w.heap.size w w' := by
  obtain ⟨a, ha⟩ : ∃ a, a = pickN at0 8 := ⟨_, rfl⟩
  obtain ⟨b, hb⟩ : ∃ b, b = pickN bit0 512 := ⟨_, rfl⟩
  have ha8 : a < 8 := by rw [ha]; exact pickN_lt _ 8 (by omega)
  have hb5 : b < 512 := by rw [hb]; exact pickN_lt _ 512 (by omega)
  obtain ⟨qs, hqs⟩ := list_of (Dk.sector s.data.toList)
  have hqz : qs.size = 64 := by rw [← size_toList, hqs, Dk.length_sector]
  obtain ⟨S1, hS1⟩ : ∃ S1, S1 = Dk.settleTo (blankS 8) [(a, qs.data.toList)] (fun _ => 64) 1 := ⟨_, rfl⟩
  have hbl : (blankS 8).length = 8 := rfl
  have hbw : ∀ x ∈ blankS 8, x.length = 64 := fun x hx => by rw [blankS] at hx; rw [List.eq_of_mem_replicate hx, List.length_replicate]
  have hSl : S1.length = 8 := by rw [hS1, Dk.length_settleTo, hbl]
  have hSw : ∀ x ∈ S1, x.length = 64 := by
    rw [hS1]
    exact Dk.settleTo_wide _ hbw (fun x hx => by rw [List.mem_singleton.1 hx]; exact ⟨by rw [hbl]; exact ha8, by rw [size_toList, hqz]⟩) 1 (by simp)
  obtain ⟨q1, hq1⟩ := list_of S1.flatten
  obtain ⟨q2, hq2⟩ := list_of (rotS S1 a b).flatten
  have hfl : S1.flatten.length = 512 := by rw [flat_length hSw, hSl]
  have hz1 : q1.size = 512 := by rw [← size_toList, hq1, hfl]
  have hz2 : q2.size = 512 := by rw [← size_toList, hq2, flat_rot hSw (by omega) hb5, List.length_set, hfl]
  have hta : ∀ i, i < 512 → strAt q1 i ^^^ strAt q2 i = if i = a * 64 + b / 8 then UInt8.ofNat (2 ^ (b % 8)) else 0 := fun i hi => by
    rw [strAt_eq, strAt_eq, hq1, hq2]
    exact turned_at hSw (by omega) hb5 i (by rw [hfl]; exact hi)
  have hrr : rotS (rotS S1 a b) a b = S1 := rot_twice hSw (by omega) hb5
  have HA := Lib.hid ha
  have HB := Lib.hid hb
  have HQS := Lib.hid hqs
  have HQZ := Lib.hid hqz
  have HS1 := Lib.hid hS1
  have HQ1 := Lib.hid hq1
  have HQ2 := Lib.hid hq2
  have HT := Lib.hid hta
  have HRR := Lib.hid hrr
  have hz1' : q1.size ≤ 512 := by omega
  have hz1'' : 512 ≤ q1.size := by omega
  have hz2'' : 512 ≤ q2.size := by omega
  have hz2' : q2.size ≤ 512 := by omega
  have hzz : ((q2.size : Int) != (q1.size : Int)) = false := by rw [bne_eq_false_iff_eq]; omega
  clear ha hb hqs hqz hS1 hq1 hq2 hta hrr hbl hbw hSl hSw hfl hz1 hz2
  go_enter Try.func8, Try.ntmps8
  go_wp2_with fail
  refine (known_true _).mono ?_
  rintro e w1 ⟨rfl, hb1⟩
  have B1 := Lib.hid hb1
  clear hb1
  go_wp2_with fail
  refine (rack_new _).mono ?_
  rintro e w2 ⟨p, d, F, rfl, hr2⟩
  have R2 := Lib.hid (hr2.back B1.out)
  clear hr2 B1
  go_wp2_with fail
  refine (pick_any at0 8 (by omega) (by omega) h1 h2 _).mono ?_
  rintro e w3 ⟨rfl, rfl⟩
  rw [← HA.out]
  go_wp2_with fail
  refine (pick_any bit0 512 (by omega) (by omega) h3 h4 _).mono ?_
  rintro e w3 ⟨rfl, rfl⟩
  rw [← HB.out]
  go_wp2_with fail
  refine (R2.out.sector s qs hs HQS.out).mono ?_
  rintro e w3 ⟨rfl, hr3⟩
  have R3 := Lib.hid hr3
  clear hr3 R2
  go_wp2_with fail
  refine (R3.out.write a qs ha8 HQZ.out (by simp) (by omega)).mono ?_
  rintro e w4 ⟨rfl, F4, hr4⟩
  have R4 := Lib.hid hr4
  clear hr4 R3
  go_wp2_with fail
  refine (R4.out.flush (by omega)).mono ?_
  rintro e w5 ⟨rfl, hr5⟩
  have R5 : Hid (Rack w p d F4 8 S1 [] 2 w5) := Lib.hid (by rw [HS1.out]; exact hr5)
  clear hr5 R4
  go_wp2_with fail
  refine (R5.out.image q1 HQ1.out).mono ?_
  rintro e w6 ⟨rfl, hr6⟩
  have R6 := Lib.hid hr6
  clear hr6 R5
  go_wp2_with fail
  refine (R6.out.rot a b ha8 hb5).mono ?_
  rintro e w7 ⟨rfl, hr7⟩
  have R7 := Lib.hid hr7
  clear hr7 R6
  go_wp2_with fail
  refine (R7.out.image q2 HQ2.out).mono ?_
  rintro e w8 ⟨rfl, hr8⟩
  have R8 := Lib.hid hr8
  clear hr8 R7
  go_wp2_with fail
  refine (R8.out.rot a b ha8 hb5).mono ?_
  rintro e w9 ⟨rfl, hr9⟩
  rw [HRR.out] at hr9
  have R9 := Lib.hid hr9
  clear hr9 R8
  go_wp2_with fail
  refine (R9.out.image q1 HQ1.out).mono ?_
  rintro e w10 ⟨rfl, hr10⟩
  have R10 := Lib.hid hr10.old
  clear hr10 R9
  go_wp2_with fail
  go_loopw [16] (fun i wr => ∃ j : Nat, j ≤ 512 ∧ i = .int .i64 j ∧ Below w.heap.size w wr) (fun i _ => 512 - (intOf i).toNat)
  case atStart => exact ⟨0, by omega, rfl, R10.out⟩
  case round =>
    clear R10
    obtain ⟨j, hj, rfl, hB⟩ := hrel
    have HBB := Lib.hid hB
    clear hB
    by_cases hlt : j < 512
    · have hx := HT.out j hlt
      obtain ⟨x, hxe⟩ : ∃ x, x = strAt q1 j ^^^ strAt q2 j := ⟨_, rfl⟩
      rw [← hxe] at hx
      by_cases e : j = a * 64 + b / 8
      · rw [if_pos e] at hx
        have hj1 : j < q1.size := by omega
        have hj2 : j < q2.size := by omega
        have he1 : ((j : Int) == 64 * (a : Int) + (b : Int) / 8) = true := by rw [beq_iff_eq]; omega
        have he2 : ((j : Int) != 64 * (a : Int) + (b : Int) / 8) = false := by rw [bne_eq_false_iff_eq]; omega
        have hxn : (bits .xor .u8 ((strAt q1 j).toNat : Int) ((strAt q2 j).toNat : Int) != 2 ^ (b % 8) % 256) = false := by rw [bne_eq_false_iff_eq, fold_xor8, ← hxe, hx]; exact pow_fold _ (by omega)
        have HX := Lib.hid hx
        have HXE := Lib.hid hxe
        clear hx hxe e
        go_wp2
        go_quiet (fail)
        go_wp2
        go_roundw
        case rel => exact ⟨j + 1, by omega, by go_num, below_drewN HBB.out _⟩
        case measure => simp [intOf]; omega
      · rw [if_neg e] at hx
        have hj1 : j < q1.size := by omega
        have hj2 : j < q2.size := by omega
        have he1 : ((j : Int) == 64 * (a : Int) + (b : Int) / 8) = false := by rw [beq_eq_false_iff_ne]; omega
        have he2 : ((j : Int) != 64 * (a : Int) + (b : Int) / 8) = true := by rw [bne_iff_ne]; omega
        have hxn : (bits .xor .u8 ((strAt q1 j).toNat : Int) ((strAt q2 j).toNat : Int) != 0) = false := by rw [bne_eq_false_iff_eq, fold_xor8, ← hxe, hx]; rfl
        have HX := Lib.hid hx
        have HXE := Lib.hid hxe
        clear hx hxe e
        go_wp2
        go_quiet (fail)
        go_wp2
        go_roundw
        case rel => exact ⟨j + 1, by omega, by go_num, below_drewN HBB.out _⟩
        case measure => simp [intOf]; omega
    · obtain rfl : j = 512 := by omega
      go_wp2
      go_ret
      exact ⟨rfl, HBB.out⟩
end Go.Proofs.Ytjkigndhbbeolaa
