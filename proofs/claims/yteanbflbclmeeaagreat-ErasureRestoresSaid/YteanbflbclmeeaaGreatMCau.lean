/- The walk of Cauchy. -/
import Derived.Test.YteanbflbclmeeaaGreatMPick
namespace Go.Proofs.YteanbflbclmeeaaGreat
open Go.RowKit

@[irreducible] def by8 (n : Nat) : UInt8 := UInt8.ofNat n
theorem by8_nat {n : Nat} (h : n ≤ 255) : (by8 n).toNat = n := by unfold by8; rw [UInt8.toNat_ofNat']; omega
@[irreducible] def cauM (c : Nat) : Mat := fun i j => inv (xr (by8 (c + i)) (by8 j))
theorem cauM_eq (c i j : Nat) : cauM c i j = inv (xr (by8 (c + i)) (by8 j)) := by unfold cauM; rfl
/-- Row i up to column j. -/
def cauTo (c i j : Nat) : Mat := fun a b => if a < i ∨ (a = i ∧ b < j) then cauM c a b else 0
theorem cauTo_zero (c : Nat) : cauTo c 0 0 = zeroM := by funext a b; unfold cauTo; rw [if_neg (by omega)]
theorem cauTo_step (c i j : Nat) (x : UInt8) (hx : cauM c i j = x) : setM i j x (cauTo c i j) = cauTo c i (j + 1) := by
  funext a b
  unfold setM cauTo
  by_cases h : a = i ∧ b = j
  · rw [if_pos h, if_pos (by omega), h.1, h.2, hx]
  · rw [if_neg h]
    by_cases h2 : a < i ∨ (a = i ∧ b < j)
    · rw [if_pos h2, if_pos (by omega)]
    · rw [if_neg h2, if_neg (by omega)]
theorem cauTo_row {r : Nat} (c i cc : Nat) : Alike r cc (cauTo c i cc) (cauTo c (i + 1) 0) := fun a b _ hb => by
  unfold cauTo
  by_cases h2 : a < i ∨ (a = i ∧ b < cc)
  · rw [if_pos h2, if_pos (by omega)]
  · rw [if_neg h2, if_neg (by omega)]
theorem cauTo_all (c r cc : Nat) : Alike r cc (cauTo c r 0) (cauM c) := fun a b ha _ => by unfold cauTo; rw [if_pos (by omega)]
set_option maxHeartbeats 1000000 in
theorem Cauchy_bad1 (r c : Int) (hr : mayB r = false) (w : World) : Calls Tryz.prog 54 #[.int .i64 r, .int .i64 c] w fun e w' => ∃ V E, e = .returned (.tuple #[V, E]) ∧ PA w.heap.size 1 0 0 zeroM V E w' ∧ Below w.heap.size w w' := by
  go_enter Tryz.func54, Tryz.ntmps54
  go_wp2_with (go_at_call 57; (with_reducible refine (mayBe_any _ _).mono ?_); rintro e w' ⟨rfl, rfl⟩)
  refine (nothing_any 1 _).mono ?_
  rintro e w1 ⟨g, hg, rfl, hF, hb⟩
  have hR : ResAt w.heap.size 62 w1 := (hb.block _ (by simp)).trans (heap_alloc_new _ _)
  have hb1 : Below w.heap.size w w1 := ((Below.refl _ _).alloc (Nat.le_refl _) _).trans (hb.mono (by simp))
  have hg1 : w.heap.size < g := by simp at hg; omega
  have HF := Lib.hid hF
  have HR := Lib.hid hR
  have HB := Lib.hid hb1
  clear hF hR hb hb1 hg
  unfold noneV faultV
  go_wp2_with (refine wpList_store_whole rfl 62 _ _ rfl w.heap.size zeroRow zeroRow 62 rfl rfl HR.out rfl (by kernel_rfl) (by decide) ?_; intro w2 h2 k2 s2; go_frame)
  have := fail_post (code := 1) (by decide) HB.out (Nat.le_refl _) (by omega) HF.out (by omega) k2.out
  exact bodyPost_ret (results_mid2 Tryz.results54 _ _ w.heap.size 0 zeroRow _ rfl (range_of_list h2.out) Tryz.underlying62 rfl (by kernel_rfl)) rfl ⟨_, _, rfl, this.1, this.2⟩
set_option maxHeartbeats 1000000 in
theorem Cauchy_bad2 (r c : Int) (hr : mayB r = true) (hc : mayB c = false) (w : World) : Calls Tryz.prog 54 #[.int .i64 r, .int .i64 c] w fun e w' => ∃ V E, e = .returned (.tuple #[V, E]) ∧ PA w.heap.size 1 0 0 zeroM V E w' ∧ Below w.heap.size w w' := by
  go_enter Tryz.func54, Tryz.ntmps54
  go_wp2_with (go_at_call 57; (with_reducible refine (mayBe_any _ _).mono ?_); rintro e w' ⟨rfl, rfl⟩)
  refine (nothing_any 1 _).mono ?_
  rintro e w1 ⟨g, hg, rfl, hF, hb⟩
  have hR : ResAt w.heap.size 62 w1 := (hb.block _ (by simp)).trans (heap_alloc_new _ _)
  have hb1 : Below w.heap.size w w1 := ((Below.refl _ _).alloc (Nat.le_refl _) _).trans (hb.mono (by simp))
  have hg1 : w.heap.size < g := by simp at hg; omega
  have HF := Lib.hid hF
  have HR := Lib.hid hR
  have HB := Lib.hid hb1
  clear hF hR hb hb1 hg
  unfold noneV faultV
  go_wp2_with (refine wpList_store_whole rfl 62 _ _ rfl w.heap.size zeroRow zeroRow 62 rfl rfl HR.out rfl (by kernel_rfl) (by decide) ?_; intro w2 h2 k2 s2; go_frame)
  have := fail_post (code := 1) (by decide) HB.out (Nat.le_refl _) (by omega) HF.out (by omega) k2.out
  exact bodyPost_ret (results_mid2 Tryz.results54 _ _ w.heap.size 0 zeroRow _ rfl (range_of_list h2.out) Tryz.underlying62 rfl (by kernel_rfl)) rfl ⟨_, _, rfl, this.1, this.2⟩
set_option maxHeartbeats 1000000 in
theorem Cauchy_bad3 (r c : Int) (hr : mayB r = true) (hc : mayB c = true) (hrc : 256 < r + c) (w : World) : Calls Tryz.prog 54 #[.int .i64 r, .int .i64 c] w fun e w' => ∃ V E, e = .returned (.tuple #[V, E]) ∧ PA w.heap.size 1 0 0 zeroM V E w' ∧ Below w.heap.size w w' := by
  have h1 : 1 ≤ r ∧ r ≤ 255 := by rw [mayB_eq, decide_eq_true_eq] at hr; exact hr
  have h2 : 1 ≤ c ∧ c ≤ 255 := by rw [mayB_eq, decide_eq_true_eq] at hc; exact hc
  go_enter Tryz.func54, Tryz.ntmps54
  go_wp2_with (go_at_call 57; (with_reducible refine (mayBe_any _ _).mono ?_); rintro e w' ⟨rfl, rfl⟩)
  refine (nothing_any 1 _).mono ?_
  rintro e w1 ⟨g, hg, rfl, hF, hb⟩
  have hR : ResAt w.heap.size 62 w1 := (hb.block _ (by simp)).trans (heap_alloc_new _ _)
  have hb1 : Below w.heap.size w w1 := ((Below.refl _ _).alloc (Nat.le_refl _) _).trans (hb.mono (by simp))
  have hg1 : w.heap.size < g := by simp at hg; omega
  have HF := Lib.hid hF
  have HR := Lib.hid hR
  have HB := Lib.hid hb1
  clear hF hR hb hb1 hg
  unfold noneV faultV
  go_wp2_with (refine wpList_store_whole rfl 62 _ _ rfl w.heap.size zeroRow zeroRow 62 rfl rfl HR.out rfl (by kernel_rfl) (by decide) ?_; intro w2 h2 k2 s2; go_frame)
  have := fail_post (code := 1) (by decide) HB.out (Nat.le_refl _) (by omega) HF.out (by omega) k2.out
  exact bodyPost_ret (results_mid2 Tryz.results54 _ _ w.heap.size 0 zeroRow _ rfl (range_of_list h2.out) Tryz.underlying62 rfl (by kernel_rfl)) rfl ⟨_, _, rfl, this.1, this.2⟩
set_option maxRecDepth 20000 in
set_option maxHeartbeats 4000000 in
theorem Cauchy_good (r c : Nat) (hr : mayB r = true) (hc : mayB c = true) (hrc : r + c ≤ 256) (w : World) : Calls Tryz.prog 54 #[.int .i64 r, .int .i64 c] w fun e w' => ∃ V E, e = .returned (.tuple #[V, E]) ∧ PA w.heap.size 0 r c (cauM c) V E w' ∧ Below w.heap.size w w' := by
  have h1 : 1 ≤ (r : Int) ∧ (r : Int) ≤ 255 := by rw [mayB_eq, decide_eq_true_eq] at hr; exact hr
  have h2 : 1 ≤ (c : Int) ∧ (c : Int) ≤ 255 := by rw [mayB_eq, decide_eq_true_eq] at hc; exact hc
  obtain ⟨N, hN⟩ : ∃ N, r * c = N := ⟨_, rfl⟩
  have hNm : N ≤ 1000000 := by rw [← hN]; exact Nat.le_trans (Nat.mul_le_mul (show r ≤ 255 by omega) (show c ≤ 255 by omega)) (by decide)
  have HN := Lib.hid hN
  clear hN
  go_enter Tryz.func54, Tryz.ntmps54
  go_wp2_with (go_at_call 57; (with_reducible refine (mayBe_any _ _).mono ?_); rintro e w' ⟨rfl, rfl⟩)
  refine (blank_any r c N HN.out hNm _).mono ?_
  rintro e w1 ⟨g, hg, rfl, hT, hb⟩
  have hR : ResAt w.heap.size 62 w1 := (hb.block _ (by simp)).trans (heap_alloc_new _ _)
  have hb1 : Below w.heap.size w w1 := ((Below.refl _ _).alloc (Nat.le_refl _) _).trans (hb.mono (by simp))
  have hg1 : w.heap.size < g := by simp at hg; omega
  have HT := Lib.hid hT
  have HR := Lib.hid hR
  have HB := Lib.hid hb1
  clear hT hR hb hb1 hg
  unfold tabV
  go_wp2_with (refine wpList_store_whole rfl 104 _ _ rfl w1.heap.size (tabRow g r c N) zeroRow 104 rfl rfl (heap_alloc_new _ _) rfl (by kernel_rfl) (tabRow_ones _ _ _ _) ?_; intro w2 h3 k3 s3; go_frame)
  have hbx := boxed (w0 := w) h3.out k3.out HT.out (Kept.of_below HB.out)
  have R2 := Lib.hid (HR.out.below hbx.2 HR.out.lt)
  obtain ⟨B, hBe⟩ : ∃ B, B = w1.heap.size := ⟨_, rfl⟩
  have hbx1 := hbx.1
  rw [← hBe] at hbx1 ⊢
  have HS2 : Hid (BoxS B g r c N (cauTo c 0 0) w w2) := Lib.hid (by rw [cauTo_zero]; exact hbx1)
  clear h3 k3 s3 hbx hbx1 hBe HT HR HB
  go_loopw [30] (fun iv wr => ∃ i : Nat, i ≤ r ∧ iv = .int .i64 i ∧ (BoxS B g r c N (cauTo c i 0) w wr ∧ ResAt w.heap.size 62 wr)) (fun iv _ => r - (intOf iv).toNat)
  case atStart => exact ⟨0, by omega, rfl, HS2.out, R2.out⟩
  case round =>
    clear HS2 R2
    obtain ⟨i, hi, rfl, hA⟩ := hrel
    have HA := Lib.hid hA
    clear hA
    by_cases hlt : i < r
    · obtain ⟨w6, rfl⟩ : ∃ x, x = wr := ⟨_, rfl⟩
      go_wp2_with fail
      go_loopw [34] (fun jv wr => ∃ j : Nat, j ≤ c ∧ jv = .int .i64 j ∧ (BoxS B g r c N (cauTo c i j) w wr ∧ ResAt w.heap.size 62 wr)) (fun jv _ => c - (intOf jv).toNat)
      case atStart => exact ⟨0, by omega, rfl, HA.out⟩
      case round =>
        clear HA
        obtain ⟨j, hj, rfl, hA⟩ := hrel
        have d0 := hA.1.c0
        have d1 := hA.1.c1
        have d2 := hA.1.c2
        have H1 := Lib.hid hA
        clear hA
        by_cases hlj : j < c
        · obtain ⟨A, hA2⟩ : ∃ A, i * c = A := ⟨_, rfl⟩
          have fA := row_fits HN.out hA2 hlt
          have HA2 := Lib.hid hA2
          obtain ⟨x, hx⟩ : ∃ x, x = by8 (c + i) := ⟨_, rfl⟩
          obtain ⟨y, hy⟩ : ∃ y, y = by8 j := ⟨_, rfl⟩
          have HAD : Hid (∀ v, Calls Tryz.prog 75 #[.int .u8 ((c : Int) + (i : Int)), .int .u8 (j : Int)] v fun e w' => e = .returned (.int .u8 (xr x y).toNat) ∧ v = w') := Lib.hid (fun v => by
            have := Add_any x y v
            rw [show (x.toNat : Int) = (c : Int) + (i : Int) by rw [hx, by8_nat (by omega)]; omega, show (y.toNat : Int) = (j : Int) by rw [hy, by8_nat (by omega)]] at this
            exact this)
          obtain ⟨z, hz⟩ : ∃ z, z = inv (xr x y) := ⟨_, rfl⟩
          have HZ : Hid (cauM c i j = z) := Lib.hid (by rw [cauM_eq, hz, hx, hy])
          have HZ2 := Lib.hid hz
          clear hA2 hx hy hz
          go_wp2_with fail
          refine (trow_any g r c N i A HA2.out fA hNm (by omega) _).mono ?_
          rintro e w7 ⟨rfl, hb7⟩
          have H7 := Lib.hid (And.intro (H1.out.1.below hb7) (H1.out.2.below hb7 H1.out.2.lt))
          have hcell : ∃ x, w7.cell? ⟨g, A + j, none⟩ = some x := by
            have := H7.out.1.tab.src.cell hlt hlj
            rw [Nat.zero_add, HA2.out] at this; exact ⟨_, this⟩
          obtain ⟨x9, hcell⟩ := hcell
          have hfree := free_of_list H7.out.1.tab (A + j)
          have HX : Hid (BoxS B g r c N (cauTo c i (j + 1)) w (w7.setCell ⟨g, A + j, none⟩ (.int .u8 z.toNat))) := Lib.hid (by
            have := H7.out.1.set hlt hlj z
            rw [HA2.out, cauTo_step _ _ _ _ HZ.out] at this; exact this)
          have HY : Hid (ResAt w.heap.size 62 (w7.setCell ⟨g, A + j, none⟩ (.int .u8 z.toNat))) := Lib.hid (H7.out.2.kept (g := g) ((Kept.refl _ _ _).setCell (p := ⟨g, A + j, none⟩) (by simp) _) (by omega))
          clear d0 d1 d2 hb7
          go_wp2_with fail
          refine (HAD.out _).mono ?_
          rintro e w' ⟨rfl, rfl⟩
          go_wp2_with fail
          refine (Inv_any _ _).mono ?_
          rintro e w' ⟨rfl, rfl⟩
          rw [← HZ2.out]
          go_wp2_with fail
          go_roundw
          case rel => exact ⟨j + 1, by omega, by go_num, HX.out, HY.out⟩
          case measure => simp [intOf]; omega
        · obtain rfl : j = c := by omega
          clear d0 d1 d2
          go_wp2_with fail
          go_roundw
          case rel => exact ⟨i + 1, by omega, by go_num, ⟨H1.out.1.box, H1.out.1.tab.alike (cauTo_row _ _ _), H1.out.1.old, H1.out.1.ne⟩, H1.out.2⟩
          case measure => simp [intOf]; omega
    · obtain rfl : i = r := by omega
      have d0 := HA.out.1.c0
      have d1 := HA.out.1.c1
      have d2 := HA.out.1.c2
      go_wp2_with (refine wpList_store_whole rfl 62 _ _ rfl w.heap.size (tabRow g i c N) zeroRow 62 rfl rfl HA.out.2 rfl (by kernel_rfl) (tabRow_ones _ _ _ _) ?_; intro w4 h4 k4 s4; go_frame)
      have hTf : Tab g (cauM c) i c w4 := ((HA.out.1.tab.alike (cauTo_all _ _ _)).keep (k4.out.block _ HA.out.1.tab.lt (by simp; omega)))
      have hBf : Below w.heap.size w wr := HA.out.1.old.below (by simp; omega)
      exact bodyPost_ret (results_mid2 Tryz.results54 _ _ w.heap.size 0 (tabRow g i c N) _ rfl (range_of_list h4.out) Tryz.underlying62 rfl (by kernel_rfl)) rfl ⟨_, _, rfl, PA.ok HN.out (by omega) hTf, below_kept hBf k4.out (Nat.le_refl _) hBf.size⟩
end Go.Proofs.YteanbflbclmeeaaGreat
