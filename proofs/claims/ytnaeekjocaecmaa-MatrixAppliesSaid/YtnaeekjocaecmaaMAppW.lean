/- The walk of MatrixApplies. -/
import Derived.Test.YtnaeekjocaecmaaMAppC
namespace Go.Proofs.Ytnaeekjocaecmaa
open Go.RowKit

set_option maxRecDepth 20000 in
set_option maxHeartbeats 4000000 in
theorem Applies_long (r c : Int) (a0 : Option Addr) (len cap : Nat) (b o n capn k : Nat) (f : Nat → ByteArray) (hk : k < n) (hk2 : 500 < (f k).size) (hk3 : ∀ j, j < k → (f j).size ≤ 500) (hn : n ≤ 8796093022208) (w : World) (hbl : b < w.heap.size) (hT : Texts b o n f w) :
    Calls Try.prog 5 #[.agg #[.int .i64 r, .int .i64 c, .slice a0 len cap], .slice (some ⟨b, o, none⟩) n capn] w fun e w' => e = .returned (.bool true) ∧ Below w.heap.size w w' := by
  obtain ⟨wa, hwa⟩ : ∃ wa, wa = w.alloc (.cells #[.int .i64 r, .int .i64 c, .slice a0 len cap] 24) := ⟨_, rfl⟩
  have R0 : Hid (RA r c a0 len cap w wa) := Lib.hid (by rw [hwa]; exact RA.new _ _ _ _ _ _)
  have HWA := Lib.hid hwa
  have HT := Lib.hid hT
  have HK2 := Lib.hid hk2
  have HK3 := Lib.hid hk3
  clear hwa hT hk2 hk3
  go_enter Try.func5, Try.ntmps5
  go_wp2_with fail
  rw [← HWA.out]
  refine (known_any _).mono ?_
  rintro e w1 ⟨rfl, hb1⟩
  have R1 := Lib.hid (R0.out.below hb1)
  clear hb1 R0
  go_wp2_with fail
  go_loopw [6] (fun iv wr => ∃ i : Nat, i ≤ k ∧ iv = .int .i64 i ∧ RA r c a0 len cap w wr) (fun iv _ => n - (intOf iv).toNat)
  case atStart => exact ⟨0, by omega, rfl, R1.out⟩
  case round =>
    clear R1
    obtain ⟨i, hi, rfl, hR⟩ := hrel
    have HR := Lib.hid hR
    clear hR
    have hlt : i < n := by omega
    obtain ⟨x, hx⟩ : ∃ x, x = f i := ⟨_, rfl⟩
    have c0 : wr.cell? ⟨b, o + i, none⟩ = some (.string x) := by rw [hx]; exact (HR.out.old.cell (p := ⟨b, o + i, none⟩) hbl).trans (HT.out i hlt)
    by_cases hik : i = k
    · have hb : decide ((500 : Int) < (x.size : Int)) = true := decide_eq_true (by have := HK2.out; rw [hx, hik]; omega)
      clear hx hik
      go_wp2_with fail
      go_ret
      exact ⟨rfl, HR.out.old⟩
    · have hb : decide ((500 : Int) < (x.size : Int)) = false := decide_eq_false (by have := HK3.out i (by omega); rw [hx]; omega)
      clear hx
      go_wp2_with fail
      go_roundw
      case rel => exact ⟨i + 1, by omega, by go_num, HR.out⟩
      case measure => simp [intOf]; omega
set_option maxRecDepth 20000 in
set_option maxHeartbeats 4000000 in
theorem Applies_short (r c : Int) (a0 : Option Addr) (len cap : Nat) (l : List UInt8) (s0 : Option Addr) (n capn : Nat) (f : Nat → ByteArray) (hz0 : a0 = none → cap = 0) (hzs : s0 = none → capn = 0) (hf : ∀ j, j < n → (f j).size ≤ 500) (hn : n ≤ 8796093022208) (w : World) (hH : Hand a0 len cap l w) (hT : TX s0 n f w) :
    Calls Try.prog 5 #[.agg #[.int .i64 r, .int .i64 c, .slice a0 len cap], .slice s0 n capn] w fun e w' => e = .returned (.bool true) ∧ Below w.heap.size w w' := by
  obtain ⟨code, m, F, hBoth, hm⟩ := both_any r c len l n f hf
  obtain ⟨wa, hwa⟩ : ∃ wa, wa = w.alloc (.cells #[.int .i64 r, .int .i64 c, .slice a0 len cap] 24) := ⟨_, rfl⟩
  have R0 : Hid (RA r c a0 len cap w wa) := Lib.hid (by rw [hwa]; exact RA.new _ _ _ _ _ _)
  have HWA := Lib.hid hwa
  have HT := Lib.hid hT
  have HH := Lib.hid hH
  have HF := Lib.hid hf
  have HB := Lib.hid hBoth
  have HZ := Lib.hid hz0
  have HZS := Lib.hid hzs
  clear hwa hT hH hf hBoth hz0 hzs
  go_enter Try.func5, Try.ntmps5
  go_wp2_with fail
  rw [← HWA.out]
  refine (known_any _).mono ?_
  rintro e w1 ⟨rfl, hb1⟩
  have R1 := Lib.hid (R0.out.below hb1)
  clear hb1 R0
  go_wp2_with fail
  go_loopw [6] (fun iv wr => ∃ i : Nat, i ≤ n ∧ iv = .int .i64 i ∧ RA r c a0 len cap w wr) (fun iv _ => n - (intOf iv).toNat)
  case atStart => exact ⟨0, by omega, rfl, R1.out⟩
  case round =>
    clear R1
    obtain ⟨i, hi, rfl, hR⟩ := hrel
    have HR := Lib.hid hR
    clear hR
    by_cases hlt : i < n
    · obtain ⟨b, o, rfl, hbl, ht⟩ := HT.out (by omega)
      obtain ⟨x, hx⟩ : ∃ x, x = f i := ⟨_, rfl⟩
      have c0 : wr.cell? ⟨b, o + i, none⟩ = some (.string x) := by rw [hx]; exact (HR.out.old.cell (p := ⟨b, o + i, none⟩) hbl).trans (ht i hlt)
      have hb : decide ((500 : Int) < (x.size : Int)) = false := decide_eq_false (by have := HF.out i (by omega); rw [hx]; omega)
      clear hx ht
      go_wp2_with fail
      go_roundw
      case rel => exact ⟨i + 1, by omega, by go_num, HR.out⟩
      case measure => simp [intOf]; omega
    · obtain rfl : i = n := by omega
      obtain ⟨d0, d1, d2⟩ := heap_cell0 HR.out.box
      clear hlt hi
      by_cases hw : wideB r c len = true
      · go_wp2_with fail
        refine (wide_any r c a0 len cap _).mono ?_
        rintro e w2 ⟨rfl, hb2⟩
        have HR2 := Lib.hid (HR.out.below hb2)
        clear hb2 HR d0 d1 d2
        rw [hw]
        go_wp2_with fail
        go_ret
        exact ⟨rfl, HR2.out.old⟩
      · have hw : wideB r c len = false := by simpa using hw
        have hlen : len ≤ 1600 := by
          have h2 := hw
          rw [wideB_eq, decide_eq_false_iff_not] at h2
          exact Nat.le_of_not_lt fun h => h2 (.inr (.inr h))
        go_wp2_with fail
        refine (wide_any r c a0 len cap _).mono ?_
        rintro e w2 ⟨rfl, hb2⟩
        have HR2 := Lib.hid (HR.out.below hb2)
        clear hb2 HR d0 d1 d2
        rw [hw]
        clear hw
        have HTN := Lib.hid (HT.out.below HR2.out.old)
        go_wp2_with (at_builtin; (refine wpList_clone_strs rfl (.const (.slice none 0 0)) (.tmp 31) rfl rfl _ _ _ f rfl HZS.out hn HTN.out ?_; intro a1 cap1 w3 T3 B3; have HR3 := Lib.hid (HR2.out.below B3.out); obtain ⟨d0, d1, d2⟩ := heap_cell0 HR3.out.box; clear HR2 B3; go_frame))
        refine (lent_any r c a0 len cap l HZ.out hlen _ (HH.out.below HR3.out.old rfl)).mono ?_
        rintro e w4 ⟨g4, cap4, rfl, hH4, hb4⟩
        have HR4 := Lib.hid (HR3.out.below hb4)
        have HH4 := Lib.hid hH4
        have T4 := Lib.hid (T3.out.below hb4)
        clear hb4 HR3 d0 d1 d2 hH4 T3
        go_wp2_with fail
        refine (HB.out.p _ _ _ _ _ HH4.out T4.out).mono ?_
        rintro e w5 ⟨pa, pl, pc, E, rfl, hO5, hb5⟩
        have HR5 := Lib.hid (HR4.out.below hb5)
        have O5 := Lib.hid hO5
        clear hb5 HR4 hO5 HH4 T4
        obtain ⟨d0, d1, d2⟩ := heap_cell0 HR5.out.box
        go_wp2_with fail
        refine (HB.out.q _ _ _ _ _ (HH.out.below HR5.out.old rfl) (HT.out.below HR5.out.old)).mono ?_
        rintro e w6 ⟨ra, rl, rc, rfl, hO6, hb6⟩
        have HR6 := Lib.hid (HR5.out.below hb6)
        have O5' := Lib.hid (O5.out.below hb6)
        have O6 := Lib.hid hO6
        clear hb6 HR5 O5 hO6 d0 d1 d2
        go_wp2_with fail
        refine (is_out O5'.out).mono ?_
        rintro e w7 ⟨rfl, rfl⟩
        rcases O5'.out with ⟨hc, rfl, rfl, g1, rfl, hC1⟩ | ⟨hc, rfl, g1, rfl, _⟩
        · rcases O6.out with ⟨_, rfl, g2, rfl, hC2⟩ | ⟨hc2, _⟩
          case inr => exact absurd hc hc2
          have hq := int_self_ne (rl : Int)
          have C1 := Lib.hid hC1.t
          have C2 := Lib.hid hC2.t
          have BW := Lib.hid HR6.out.old
          clear hC1 hC2 O5' O6 HR6
          go_wp2_with fail
          go_loopw [13] (fun iv wr => ∃ q : Nat, q ≤ rl ∧ iv = .int .i64 q ∧ (∃ m, wr = w6.drewN m)) (fun iv _ => rl - (intOf iv).toNat)
          case atStart => exact ⟨0, by omega, rfl, 0, rfl⟩
          case round =>
            obtain ⟨q, hq, rfl, m, rfl⟩ := hrel
            by_cases hlt : q < rl
            · have t1 := C1.out q hlt
              have t2 := C2.out q hlt
              rw [Nat.zero_add] at t1 t2
              obtain ⟨s1, hs1⟩ : ∃ s, F q = s := ⟨_, rfl⟩
              rw [hs1] at t1 t2
              clear hs1
              go_wp2_with fail
              go_quiet (fail)
              go_wp2_with fail
              go_roundw
              case rel => exact ⟨q + 1, by omega, by go_num, _, by first | rfl | exact World.drewN_drewN _ _ _⟩
              case measure => simp [intOf]; omega
            · obtain rfl : q = rl := by omega
              go_wp2_with fail
              go_ret
              exact ⟨rfl, below_drewN BW.out m⟩
        · rcases O6.out with ⟨hc2, _⟩ | ⟨_, rfl⟩
          · exact absurd hc2 hc
          have BW := Lib.hid HR6.out.old
          clear O5' O6 HR6 hc
          go_wp2_with fail
          refine wp_loop_rounds 1 ?_
          rw [rounds_succ]
          go_wp2_with fail
          go_ret
          exact ⟨rfl, BW.out⟩
theorem Applies_walk (r c : Int) (a0 : Option Addr) (len cap : Nat) (l : List UInt8) (s0 : Option Addr) (n capn : Nat) (f : Nat → ByteArray) (hz0 : a0 = none → cap = 0) (hzs : s0 = none → capn = 0) (hn : n ≤ 8796093022208) (w : World) (hH : Hand a0 len cap l w) (hT : TX s0 n f w) :
    Calls Try.prog 5 #[.agg #[.int .i64 r, .int .i64 c, .slice a0 len cap], .slice s0 n capn] w fun e w' => e = .returned (.bool true) ∧ Below w.heap.size w w' := by
  by_cases hk : ∃ k, k < n ∧ 500 < (f k).size
  · obtain ⟨k', hk'1, hk'2⟩ := hk
    obtain ⟨k, hk0, hk2, hk3'⟩ := first_of (p := fun k => 500 < (f k).size) k' hk'2
    have hk1 : k < n := by omega
    have hk3 : ∀ j, j < k → (f j).size ≤ 500 := fun j hj => Nat.le_of_not_lt (hk3' j hj)
    obtain ⟨b, o, rfl, hl, ht⟩ := hT (by omega)
    exact Applies_long r c a0 len cap b o n capn k f hk1 hk2 hk3 hn w hl ht
  · exact Applies_short r c a0 len cap l s0 n capn f hz0 hzs (fun j hj => Nat.le_of_not_lt fun h => hk ⟨j, hj, h⟩) hn w hH hT
end Go.Proofs.Ytnaeekjocaecmaa
