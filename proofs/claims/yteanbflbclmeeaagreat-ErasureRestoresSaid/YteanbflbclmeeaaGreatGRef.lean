/- The walks of the document's own field. -/
import Derived.Test.YteanbflbclmeeaaGreatGBase
import Derived.Test.YteanbflbclmeeaaGreatGTab2
namespace Go.Proofs.YteanbflbclmeeaaGreat
open Go.RowKit

theorem i64_xor_nat (a b : Nat) (ha : a < 2 ^ 62) (hb : b < 2 ^ 62) : bits .xor .i64 (a : Int) (b : Int) = ((a ^^^ b : Nat) : Int) := by
  have hx : a ^^^ b < 2 ^ 62 := Nat.xor_lt_two_pow ha hb
  show IntKind.i64.wrap ((BitVec.ofInt 64 (a : Int) ^^^ BitVec.ofInt 64 (b : Int)).toNat : Int) = _
  rw [BitVec.toNat_xor, ofInt_u64 a (by omega), ofInt_u64 b (by omega)]
  exact IntWalk.i64_in _ (by omega)
theorem i64_and_nat (a b : Nat) (ha : a < 2 ^ 62) (hb : b < 2 ^ 62) : bits .and .i64 (a : Int) (b : Int) = ((a &&& b : Nat) : Int) := by
  have hx : a &&& b < 2 ^ 62 := Nat.and_lt_two_pow _ hb
  show IntKind.i64.wrap ((BitVec.ofInt 64 (a : Int) &&& BitVec.ofInt 64 (b : Int)).toNat : Int) = _
  rw [BitVec.toNat_and, ofInt_u64 a (by omega), ofInt_u64 b (by omega)]
  exact IntWalk.i64_in _ (by omega)
theorem bit_u8 (b j : Nat) (hb : b < 256) : bits .and .u8 ((b : Int) / 2 ^ j) 1 = ((b / 2 ^ j % 2 : Nat) : Int) := by
  rw [show ((b : Int) / 2 ^ j) = ((b / 2 ^ j : Nat) : Int) by simp]
  have := u8_and_nat (b / 2 ^ j) 1 (Nat.lt_of_le_of_lt (Nat.div_le_self _ _) hb) (by decide)
  rw [nat_mask1] at this
  exact this
theorem bit_yes {a b j : Nat} (hb : b < 256) (h : b / 2 ^ j % 2 = 1) : (bits .and .u8 ((b : Int) / 2 ^ j) 1 == 1) = true ∧ psum a b (j + 1) = psum a b j ^^^ a * 2 ^ j := by
  rw [bit_u8 b j hb, h]
  exact ⟨rfl, by rw [psum, pstep, if_pos h]⟩
theorem bit_no {a b j : Nat} (hb : b < 256) (h : ¬ b / 2 ^ j % 2 = 1) : (bits .and .u8 ((b : Int) / 2 ^ j) 1 == 1) = false ∧ psum a b (j + 1) = psum a b j := by
  rw [bit_u8 b j hb, show b / 2 ^ j % 2 = 0 by omega]
  exact ⟨rfl, by rw [psum, pstep, if_neg h]⟩
theorem xor_in (p a j : Nat) (hp : p < 2 ^ 16) (ha : a < 256) (hj : j < 8) : bits .xor .i64 (p : Int) (wrap64 ((a : Int) * 2 ^ j)) = ((p ^^^ a * 2 ^ j : Nat) : Int) := by
  have h2 : 2 ^ j ≤ 2 ^ 7 := Nat.pow_le_pow_right (by decide) (by omega)
  have h3 : a * 2 ^ j ≤ 255 * 2 ^ 7 := Nat.mul_le_mul (by omega) h2
  rw [show ((a : Int) * 2 ^ j) = ((a * 2 ^ j : Nat) : Int) by simp, show wrap64 ((a * 2 ^ j : Nat) : Int) = ((a * 2 ^ j : Nat) : Int) from by unfold wrap64; omega]
  exact i64_xor_nat _ _ (by omega) (by omega)
theorem int_down {m : Nat} (h : 0 < m) : Value.int .i64 ((m : Int) + 7 - 1) = .int .i64 ((m - 1 + 7 : Nat) : Int) := by congr 1; omega
theorem bit_i64 (r j : Nat) (hr : r < 2 ^ 16) : bits .and .i64 ((r : Int) / 2 ^ j) 1 = ((r / 2 ^ j % 2 : Nat) : Int) := by
  rw [show ((r : Int) / 2 ^ j) = ((r / 2 ^ j : Nat) : Int) by simp]
  have := i64_and_nat (r / 2 ^ j) 1 (Nat.lt_of_le_of_lt (Nat.div_le_self _ _) (by omega)) (by decide)
  rw [nat_mask1] at this
  exact this
theorem red_yes {m r : Nat} (hm : 0 < m) (hm8 : m ≤ 8) (hr : r < 2 ^ 16) (h : r / 2 ^ (m + 7) % 2 = 1) :
    (bits .and .i64 ((r : Int) / 2 ^ (m + 7)) 1 == 1) = true ∧ rred m r = rred (m - 1) (rstep (m - 1) r) ∧ bits .xor .i64 (r : Int) (wrap64 (285 * 2 ^ (m - 1))) = ((rstep (m - 1) r : Nat) : Int) := by
  rw [bit_i64 r _ hr, h]
  refine ⟨rfl, ?_, ?_⟩
  · obtain ⟨k, rfl⟩ : ∃ k, m = k + 1 := ⟨m - 1, by omega⟩
    rfl
  · have h2 : 2 ^ (m - 1) ≤ 2 ^ 7 := Nat.pow_le_pow_right (by decide) (by omega)
    have h3 : 285 * 2 ^ (m - 1) ≤ 285 * 2 ^ 7 := Nat.mul_le_mul (by omega) h2
    rw [rstep, show m - 1 + 8 = m + 7 by omega, if_pos h]
    rw [show ((285 : Int) * 2 ^ (m - 1)) = ((285 * 2 ^ (m - 1) : Nat) : Int) by simp, show wrap64 ((285 * 2 ^ (m - 1) : Nat) : Int) = ((285 * 2 ^ (m - 1) : Nat) : Int) from by unfold wrap64; omega]
    exact i64_xor_nat _ _ (by omega) (by omega)
theorem red_no {m r : Nat} (hm : 0 < m) (hr : r < 2 ^ 16) (h : ¬ r / 2 ^ (m + 7) % 2 = 1) :
    (bits .and .i64 ((r : Int) / 2 ^ (m + 7)) 1 == 1) = false ∧ rred m r = rred (m - 1) r := by
  rw [bit_i64 r _ hr, show r / 2 ^ (m + 7) % 2 = 0 by omega]
  refine ⟨rfl, ?_⟩
  obtain ⟨k, rfl⟩ : ∃ k, m = k + 1 := ⟨m - 1, by omega⟩
  rw [rred, rstep, if_neg h]; rfl
set_option maxHeartbeats 1000000 in
theorem rMul_any (a b : UInt8) (w : World) : Calls Tryz.prog 71 #[.int .u8 a.toNat, .int .u8 b.toNat] w fun e w' => e = .returned (.int .u8 (tm a b).toNat) ∧ w = w' := by
  have HM : Hid ((tm a b).toNat = rred 8 (psum a.toNat b.toNat 8)) := Lib.hid (by rw [tm_toNat, red_mul _ _ a.toNat_lt])
  have ha := a.toNat_lt
  have hb := b.toNat_lt
  go_enter Tryz.func71, Tryz.ntmps71
  go_wp2_with fail
  go_loopw [5, 6] (fun p i wr => ∃ (j : Nat), j ≤ 8 ∧ i = .int .i64 j ∧ p = .int .i64 (psum a.toNat b.toNat j : Nat) ∧ wr = w) (fun _ i _ => 8 - (intOf i).toNat)
  case atStart => exact ⟨0, by omega, rfl, rfl, rfl⟩
  case round =>
    obtain ⟨j, hj, rfl, rfl, rfl⟩ := hrel
    have hp := psum_lt a.toNat b.toNat ha j hj
    by_cases hlt : j < 8
    · by_cases hbit : b.toNat / 2 ^ j % 2 = 1
      · obtain ⟨h1, h2⟩ := bit_yes (a := a.toNat) hb hbit
        have H2 := Lib.hid h2
        have H3 := Lib.hid (xor_in _ _ _ hp ha hlt)
        clear h2 hbit
        go_wp2_with fail
        go_roundw
        case rel => exact ⟨j + 1, by omega, by go_num, by rw [H2.out, ← H3.out], trivial⟩
        case measure => simp [intOf]; omega
      · obtain ⟨h1, h2⟩ := bit_no (a := a.toNat) hb hbit
        have H2 := Lib.hid h2
        clear h2 hbit
        go_wp2_with fail
        go_roundw
        case rel => exact ⟨j + 1, by omega, by go_num, by rw [H2.out], trivial⟩
        case measure => simp [intOf]; omega
    · obtain rfl : j = 8 := by omega
      go_wp2_with fail
      obtain ⟨q, hq⟩ : ∃ q, q = psum a.toNat b.toNat 8 := ⟨_, rfl⟩
      rw [← hq]
      have HQ := Lib.hid hq
      rw [← hq] at hp
      clear hq
      go_loopw [5, 7] (fun p i wr' => ∃ (m r : Nat), m ≤ 8 ∧ i = .int .i64 (m + 7 : Nat) ∧ p = .int .i64 (r : Nat) ∧ r < 2 ^ 16 ∧ rred m r = rred 8 q ∧ wr' = wr) (fun _ i _ => (intOf i).toNat)
      case atStart => exact ⟨8, q, by omega, rfl, rfl, hp, rfl, rfl⟩
      case round =>
        obtain ⟨m, r, hm, rfl, rfl, hr, hf, rfl⟩ := hrel
        have HF := Lib.hid hf
        clear hf
        by_cases hlt2 : 0 < m
        · by_cases hbit : r / 2 ^ (m + 7) % 2 = 1
          · obtain ⟨h1, h2, h3⟩ := red_yes hlt2 hm hr hbit
            have H2 := Lib.hid h2
            have H3 := Lib.hid h3
            have HR := Lib.hid (rstep_lt (m - 1) r (by omega) hr)
            clear h2 h3 hbit
            go_wp2_with fail
            go_roundw
            case rel => exact ⟨m - 1, rstep (m - 1) r, by omega, int_down hlt2, by rw [← H3.out], HR.out, by rw [← H2.out]; exact HF.out, trivial⟩
            case measure => simp [intOf]; omega
          · obtain ⟨h1, h2⟩ := red_no hlt2 hr hbit
            have H2 := Lib.hid h2
            clear h2 hbit
            go_wp2_with fail
            go_roundw
            case rel => exact ⟨m - 1, r, by omega, int_down hlt2, rfl, hr, by rw [← H2.out]; exact HF.out, trivial⟩
            case measure => simp [intOf]; omega
        · obtain rfl : m = 0 := by omega
          go_wp2_with fail
          go_ret
          refine ⟨ret_int ?_, rfl⟩
          have h1 := HM.out; have h2 := HF.out
          rw [← HQ.out, ← h2, rred] at h1
          have := (tm a b).toNat_lt
          omega
end Go.Proofs.YteanbflbclmeeaaGreat
