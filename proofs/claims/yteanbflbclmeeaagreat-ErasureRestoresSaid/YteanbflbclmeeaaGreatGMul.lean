/- The walk of the table of the products with a number. -/
import Derived.Test.YteanbflbclmeeaaGreatGArr
namespace Go.Proofs.YteanbflbclmeeaaGreat
open Go.RowKit

def DB : Nat → UInt8 → UInt8
  | 0, a => a
  | k + 1, a => dbl (DB k a)
theorem DB_tm (a : UInt8) (k : Nat) : DB k a = tm a (E k) := by
  induction k with
  | zero => rw [E_zero, tm_one]; rfl
  | succ k ih => rw [DB, ih, ← tm_two, tm_assoc, E_succ]
theorem E_pow : ∀ k < 8, E k = UInt8.ofNat (2 ^ k) := by unfold E; decide +kernel
theorem add_xor : ∀ k < 8, ∀ j < 128, j < 2 ^ k → UInt8.ofNat (2 ^ k + j) = UInt8.ofNat (2 ^ k) ^^^ UInt8.ofNat j := by decide +kernel
@[irreducible] def mulAt (a : UInt8) (n : Nat) : UInt8 := tm a (UInt8.ofNat n)
theorem mulAt_toNat (a x : UInt8) : mulAt a x.toNat = tm a x := by unfold mulAt; rw [UInt8.ofNat_toNat]
theorem mulAt_zero (a : UInt8) : mulAt a 0 = 0 := by unfold mulAt; exact tm_zero a
theorem mulAt_next (a : UInt8) (k B j : Nat) (hk : k < 8) (hB : B = 2 ^ k) (hj : j < B) : mulAt a (B + j) = xr (mulAt a j) (DB k a) := by
  subst hB
  have h128 : 2 ^ k ≤ 2 ^ 7 := Nat.pow_le_pow_right (by decide) (by omega)
  unfold mulAt
  rw [add_xor k hk j (by omega) hj, tm_xor, ← E_pow k hk, ← DB_tm, xr_eq]
  generalize tm a (UInt8.ofNat j) = x
  generalize DB k a = y
  ac_rfl
theorem mul_start (a : UInt8) : rowTo (mulAt a) 256 1 = rowTo (mulAt a) 256 0 := by
  have := rowTo_step (mulAt a) 256 0 0 (mulAt_zero a)
  rw [← this]
  apply List.ext_getElem?
  intro k
  by_cases hk : k = 0
  · subst hk
    rw [List.getElem?_set_self (by rw [length_rowTo]; omega), rowTo_get _ _ _ _ (by omega), if_neg (by omega)]; rfl
  · rw [List.getElem?_set_ne (by omega)]
@[irreducible] def mulRow (a : UInt8) : List Value := rowTo (mulAt a) 256 256
set_option maxRecDepth 20000 in
set_option maxHeartbeats 1000000 in
theorem mults_any (a : UInt8) (w : World) : Calls Tryz.prog 86 #[.int .u8 a.toNat] w fun e w' => e = .returned (.agg (mulRow a).toArray) ∧ Below w.heap.size w w' := by
  obtain ⟨f, hf⟩ : ∃ f, f = mulAt a := ⟨_, rfl⟩
  have HF := Lib.hid hf
  have hlen : (rowTo f 256 256).length = 256 := length_rowTo _ _ _
  have HLEN := Lib.hid hlen
  clear hlen
  go_enter Tryz.func86, Tryz.ntmps86
  go_wp2_with (first | (refine wpList_alloc rfl 139 rfl (List.replicate 256 (.int .u8 0)) alloc256 ?_; go_frame))
  simp only [World.size_alloc]
  obtain ⟨w2, hw2⟩ : ∃ x, x = (w.alloc (.cells (List.replicate 256 (Value.int .u8 0)).toArray 139)).alloc (.cells (List.replicate 256 (Value.int .u8 0)).toArray 139) := ⟨_, rfl⟩
  rw [← hw2]
  have h1 : w2.heap[w.heap.size]? = some (.cells (rowTo f 256 0).toArray 139 (0, 0)) := by rw [hw2, rowTo_zero]; exact heap_alloc2_old _ _ _
  have h2 : w2.heap[w.heap.size + 1]? = some (.cells (rowTo f 256 1).toArray 139 (0, 0)) := by rw [hf, mul_start, hw2, rowTo_zero]; exact heap_alloc2_new _ _ _
  have hb : Below w.heap.size w w2 := by rw [hw2]; exact ((Below.refl _ _).alloc (Nat.le_refl _) _).alloc (by simp) _
  clear hw2 hf
  go_loopw [0, 4] (fun p bv wr => ∃ k B : Nat, k ≤ 8 ∧ B = 2 ^ k ∧ bv = .int .i64 B ∧ p = .int .u8 (DB k a).toNat ∧ wr.heap[w.heap.size]? = some (.cells (rowTo f 256 0).toArray 139 (0, 0)) ∧ wr.heap[w.heap.size + 1]? = some (.cells (rowTo f 256 B).toArray 139 (0, 0)) ∧ Below w.heap.size w wr) (fun _ bv _ => 256 - (intOf bv).toNat)
  case atStart => exact ⟨0, 1, by omega, rfl, rfl, rfl, h1, h2, hb⟩
  case round =>
    clear h1 h2 hb
    obtain ⟨k, B, hk, hB, rfl, rfl, hI, hO, hBel⟩ := hrel
    have h256 : 2 ^ k ≤ 2 ^ 8 := Nat.pow_le_pow_right (by decide) hk
    have hpos : 0 < 2 ^ k := Nat.two_pow_pos k
    have hB0 : 0 < B := by omega
    have HB2 := Lib.hid hB
    by_cases hk8 : k < 8
    · have h128 : 2 ^ k ≤ 2 ^ 7 := Nat.pow_le_pow_right (by decide) (by omega)
      have hB128 : B ≤ 128 := by omega
      obtain ⟨d, hd⟩ : ∃ d, d = DB k a := ⟨_, rfl⟩
      rw [← hd]
      have HD := Lib.hid hd
      obtain ⟨w3, rfl⟩ : ∃ x, x = wr := ⟨_, rfl⟩
      have hq : decide ((B : Int) < 256) = true := decide_eq_true (by omega)
      clear hB h256 hpos h128 hd
      go_wp2_with fail
      have HQ := Lib.hid hq
      clear hq
      go_loopw [11] (fun jv wr => ∃ j : Nat, j ≤ B ∧ jv = .int .i64 j ∧ wr.heap[w.heap.size]? = some (.cells (rowTo f 256 0).toArray 139 (0, 0)) ∧ wr.heap[w.heap.size + 1]? = some (.cells (rowTo f 256 (B + j)).toArray 139 (0, 0)) ∧ Below w.heap.size w wr) (fun jv _ => B - (intOf jv).toNat)
      case atStart => exact ⟨0, by omega, rfl, hI, hO, hBel⟩
      case round =>
        clear hI hO hBel
        obtain ⟨j, hj, rfl, hI, hO, hBel⟩ := hrel
        by_cases hlt : j < B
        · have cj : wr.cell? ⟨w.heap.size + 1, j, none⟩ = some (.int .u8 (f j).toNat) := by rw [cell_of_list hO, rowTo_got f 256 (B + j) j (by omega) (by omega)]; rfl
          have cb : wr.cell? ⟨w.heap.size + 1, B + j, none⟩ = some (.int .u8 0) := by rw [cell_of_list hO, rowTo_get f 256 (B + j) (B + j) (by omega), if_neg (by omega)]
          have fo := free_of_list hO (B + j)
          have HI := Lib.hid hI
          have HO := Lib.hid hO
          have HBel := Lib.hid hBel
          have HN : Hid (f (B + j) = xr (f j) d) := Lib.hid (by rw [HF.out, HD.out]; exact mulAt_next a k B j hk8 HB2.out hlt)
          clear hI hO hBel
          obtain ⟨fj, hfj⟩ : ∃ x, x = f j := ⟨_, rfl⟩
          rw [← hfj] at cj HN
          have HFJ := Lib.hid hfj
          clear hfj
          go_wp2_with fail
          with_reducible refine (plus_any _ _ _).mono ?_
          rintro e w' ⟨rfl, rfl⟩
          go_wp2_with fail
          go_roundw
          case rel => exact ⟨j + 1, by omega, by go_num, by rw [heap_setCell_other _ _ _ _ (by simp)]; exact HI.out, (row_step HN.out HO.out HBel.out (by simp)).1, (row_step HN.out HO.out HBel.out (by simp)).2⟩
          case measure => simp [intOf]; omega
        · obtain rfl : j = B := by omega
          have HBel := Lib.hid hBel
          clear hBel
          go_wp2_with fail
          with_reducible refine (doubled_any _ _).mono ?_
          rintro e w' ⟨rfl, rfl⟩
          go_wp2_with fail
          go_roundw
          case rel => exact ⟨k + 1, j + j, by omega, by rw [HB2.out, Nat.pow_succ]; omega, by go_num, by rw [HD.out]; rfl, hI, hO, HBel.out⟩
          case measure => simp [intOf]; omega
    · obtain rfl : k = 8 := by omega
      obtain rfl : B = 256 := hB
      have HB := Lib.hid hBel
      clear hBel h256 hpos HB2
      go_wp2_with (first | (refine wpList_load_mid rfl 139 _ rfl _ _ rfl _ _ (range_of_list hO) Tryz.underlying139 rfl (by rw [HLEN.out]; kernel_rfl) ?_) | (refine wpList_store_new rfl 139 _ _ rfl _ (rowTo f 256 256) (rowTo f 256 0) 139 rfl rfl hI (by rw [length_rowTo, length_rowTo]) (by rw [HLEN.out]; kernel_rfl) (rowTo_ones _ _ _) ?_))
      have e0 : mulRow a = rowTo f 256 256 := by unfold mulRow; rw [HF.out]
      rw [e0]
      refine bodyPost_ret (v := .agg (rowTo f 256 256).toArray) ?_ rfl ⟨rfl, below_setCells HB.out (Nat.le_refl _) _ _⟩
      exact results_mid Tryz.results86 _ _ w.heap.size 0 _ _ rfl (World.rangeAt_setCells_same _ _ _ _ (there_of_list hI (by rw [length_rowTo, length_rowTo]; omega))) Tryz.underlying139 rfl (by rw [HLEN.out]; kernel_rfl)
theorem length_mulRow (a : UInt8) : (mulRow a).length = 256 := by unfold mulRow; exact length_rowTo _ _ _
theorem mulRow_get (a : UInt8) (x : UInt8) : (mulRow a)[x.toNat]? = some (u8v (tm a x)) := by
  unfold mulRow; rw [rowTo_got (mulAt a) 256 256 x.toNat (by omega) x.toNat_lt, mulAt_toNat]
end Go.Proofs.YteanbflbclmeeaaGreat
