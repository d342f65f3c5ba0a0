/- The walk of the bytes that a four tells. -/
import Derived.Test.YtjalmmhbjilabaaWrongIn
namespace Go.Proofs.Ytjalmmhbjilabaa
open Go.RowKit
attribute [local go_sem high] run_index_byte

theorem results_mid2 {P : Program} {fn : Func} {p t : Tmp} {ty : TypeId} (h : fn.results = #[.cell p ty, .tmp t]) (tmps : Array Value) (w : World) (g o : Nat) (cs : List Value) (d : TypeDesc)
    (hp : tmps.getD p undef = .pointer (some ⟨g, o, none⟩)) (hc : w.rangeAt g o cs)
    (hu : P.underlying ty = some d) (hd : d.isRow = true) (hi : (P.info? ty).map (·.size) = some cs.length) :
    (results fn tmps).run P w = .ok (.tuple #[.agg cs.toArray, tmps.getD t undef]) w := by
  have hp' : tmps[p]?.getD undef = .pointer (some ⟨g, o, none⟩) := by simpa using hp
  simp [results, h, hp', asAddr, run_loadVar_mid w g o ty cs d hc hu hd hi]
theorem or_6 (a v : Nat) (ha : a < 262144) (hv : v < 64) : bits .or .u32 ((a : Int) * 64) (v : Int) = (Dig.app6 a v : Int) := by
  rw [Dig.app6_eq, show (a : Int) * 64 = ((a * 64 : Nat) : Int) from by omega, u32_or_nat _ _ (by omega) (by omega), show a * 64 = 2 ^ 6 * a from by omega, ← Nat.two_pow_add_eq_or_of_lt (i := 6) (b := v) (by omega)]
theorem or_6' (a v : Nat) (ha : a < 262144) (hv : v < 64) : bits .or .u32 ((a : Int) * 64 % 4294967296) ((v : Int) % 4294967296) = (Dig.app6 a v : Int) := by
  rw [show (a : Int) * 64 % 4294967296 = (a : Int) * 64 from by omega, show (v : Int) % 4294967296 = v from by omega, or_6 a v ha hv]
theorem or_60' (a : Nat) (ha : a < 262144) : bits .or .u32 ((a : Int) * 64 % 4294967296) 0 = (Dig.app6 a 0 : Int) := or_6' a 0 ha (by omega)
theorem or_60 (a : Nat) (ha : a < 262144) : bits .or .u32 ((a : Int) * 64) 0 = (Dig.app6 a 0 : Int) := or_6 a 0 ha (by omega)
theorem byte_16 (a : Nat) : ((a : Int) / 65536 % 256) = ((Dig.byteAt a 2).toNat : Int) := by rw [Dig.byteAt_eq, UInt8.toNat_ofNat']; omega
theorem byte_8 (a : Nat) : ((a : Int) / 256 % 256) = ((Dig.byteAt a 1).toNat : Int) := by rw [Dig.byteAt_eq, UInt8.toNat_ofNat']; omega
theorem byte_0 (a : Nat) : ((a : Int) % 256) = ((Dig.byteAt a 0).toNat : Int) := by rw [Dig.byteAt_eq, UInt8.toNat_ofNat']; simp
theorem full4_bytes (l : List UInt8) : (Dig.full4 l).map u8v = [.int .u8 ((Dig.byteAt (Dig.allTo l 4) 2).toNat : Int), .int .u8 ((Dig.byteAt (Dig.allTo l 4) 1).toNat : Int), .int .u8 ((Dig.byteAt (Dig.allTo l 4) 0).toNat : Int)] := by
  rw [Dig.full4_eq, Dig.allTo_all, Dig.byteAt_eq, Dig.byteAt_eq, Dig.byteAt_eq, show Dig.all4 l / 2 ^ (8 * 0) = Dig.all4 l from by simp]; rfl
attribute [local go_sem high] or_6 or_6' or_60' or_60 byte_16 byte_8 byte_0

set_option maxHeartbeats 1000000 in
theorem threeOf_any (f : ByteArray) (hf : f.size = 4) (w : World) :
    Calls Try.prog 38 #[.string f] w fun e w' => e = .returned (.tuple #[.agg ((Dig.full4 f.data.toList).map u8v).toArray, .int .i64 (3 - (Dig.missTo f.data.toList 4 : Int))]) ∧ Below w.heap.size w w' := by
  obtain ⟨l, hl⟩ : ∃ l, l = f.data.toList := ⟨_, rfl⟩
  rw [← hl]
  have HL := Lib.hid hl
  clear hl
  go_enter Try.func38, Try.ntmps38
  go_wp2_with (first | (refine wpList_alloc rfl 63 rfl _ alloc3 ?_; go_frame) | fail)
  obtain ⟨w1, hw1⟩ : ∃ w1, w1 = w.alloc (.cells [Value.int .u8 0, .int .u8 0, .int .u8 0].toArray 63) := ⟨_, rfl⟩
  rw [← hw1]
  have g1 : w1.heap[w.heap.size]? = some (.cells [Value.int .u8 0, .int .u8 0, .int .u8 0].toArray 63 (0, 0)) := by rw [hw1]; exact heap_alloc_new _ _
  have hb1 : Below w.heap.size w w1 := by rw [hw1]; exact (Below.refl _ _).alloc (Nat.le_refl _) _
  have G1 := Lib.hid g1
  have B1 := Lib.hid hb1
  clear hw1 g1 hb1
  go_loopw [4, 5, 9] (fun n x i wr => ∃ j : Nat, j ≤ 4 ∧ i = .int .i64 j ∧ n = .int .i64 (3 - (Dig.missTo l j : Int)) ∧ x = .int .u32 (Dig.allTo l j) ∧ w1 = wr) (fun _ _ i _ => 4 - (intOf i).toNat)
  case atStart => exact ⟨0, by omega, rfl, by rw [Dig.missTo_zero]; rfl, by rw [Dig.allTo_zero]; rfl, rfl⟩
  case round =>
    obtain ⟨j, hj, rfl, rfl, rfl, rfl⟩ := hrel
    by_cases hlt : j < 4
    · have hjf : j < f.size := by omega
      have ha := Dig.allTo_lt l j
      have ha18 : Dig.allTo l j < 262144 := Nat.lt_of_lt_of_le ha (by have := Nat.pow_le_pow_right (n := 64) (by omega) (show j ≤ 3 by omega); exact this)
      clear ha
      have hm := Dig.missTo_le l j
      obtain ⟨A, hA⟩ : ∃ A, A = Dig.allTo l j := ⟨_, rfl⟩
      obtain ⟨m, hm'⟩ : ∃ m, m = Dig.missTo l j := ⟨_, rfl⟩
      have hs : strAt f j = l.getD j 0 := by rw [HL.out, strAt_eq]
      have HA := Lib.hid (show Dig.allTo l (j + 1) = Dig.app6 A (Dig.value0 (strAt f j)) by rw [Dig.allTo_succ, Dig.app6_eq, ← hA, hs])
      rw [← hA] at ha18 ⊢
      rw [← hm'] at hm ⊢
      have HM := Lib.hid hm'
      have HS := Lib.hid hs
      clear hA hm' hs
      by_cases hv : Dig.value (strAt f j) < 64
      · have hM := Dig.missTo_yes (show Dig.value (l.getD j 0) < 64 by rw [← HS.out]; exact hv)
        rw [← HM.out] at hM
        rw [Dig.value0_eq hv] at HA
        have HMM := Lib.hid hM
        clear hM
        go_wp2_with (go_at_call 54; refine (valueOf_yes _ hv _).mono ?_; rintro e w' ⟨rfl, rfl⟩)
        go_roundw
        case rel => exact ⟨j + 1, by omega, by go_num, by rw [HMM.out], by rw [HA.out], trivial⟩
        case measure => simp [intOf]; omega
      · have hM := Dig.missTo_no (show ¬ Dig.value (l.getD j 0) < 64 by rw [← HS.out]; exact hv)
        rw [← HM.out] at hM
        rw [Dig.value0_no hv] at HA
        have HMM := Lib.hid hM
        clear hM
        go_wp2_with (go_at_call 54; refine (valueOf_no _ hv _).mono ?_; rintro e w' ⟨rfl, rfl⟩)
        go_roundw
        case rel => exact ⟨j + 1, by omega, by go_num, by rw [HMM.out, Int.natCast_add]; exact int64_congr (by omega), by rw [HA.out], trivial⟩
        case measure => simp [intOf]; omega
    · obtain rfl : j = 4 := by omega
      have hfull := full4_bytes l
      obtain ⟨A, hA⟩ : ∃ A, A = Dig.allTo l 4 := ⟨_, rfl⟩
      obtain ⟨m, hm⟩ : ∃ m, m = Dig.missTo l 4 := ⟨_, rfl⟩
      rw [← hA] at hfull ⊢
      rw [← hm]
      have HF := Lib.hid hfull
      have HMM := Lib.hid hm
      clear hA hm hfull
      go_wp2_with (first | (refine wpList_store_new rfl 63 _ _ rfl w.heap.size [.int .u8 ((Dig.byteAt A 2).toNat : Int), .int .u8 ((Dig.byteAt A 1).toNat : Int), .int .u8 ((Dig.byteAt A 0).toNat : Int)] _ 63 rfl rfl G1.out rfl (by kernel_rfl) (by intro u hu; simp only [List.mem_cons, List.not_mem_nil, or_false] at hu; rcases hu with rfl | rfl | rfl <;> rfl) ?_; go_frame) | fail)
      rw [HF.out]
      refine bodyPost_ret (v := .tuple #[.agg [.int .u8 ((Dig.byteAt A 2).toNat : Int), .int .u8 ((Dig.byteAt A 1).toNat : Int), .int .u8 ((Dig.byteAt A 0).toNat : Int)].toArray, .int .i64 (3 - (m : Int))]) ?_ rfl ⟨by rw [← HMM.out], below_setCells B1.out (Nat.le_refl _) _ _⟩
      exact results_mid2 Try.results38 _ _ w.heap.size 0 _ _ rfl (World.rangeAt_setCells_same _ _ _ _ (there_of_list G1.out (Nat.le_refl 3))) Try.underlying63 rfl (by kernel_rfl)
end Go.Proofs.Ytjalmmhbjilabaa
