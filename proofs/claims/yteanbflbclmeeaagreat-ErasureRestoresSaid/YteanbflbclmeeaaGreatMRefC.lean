/- The document's own Cauchy. -/
import Derived.Test.YteanbflbclmeeaaGreatMRefA
namespace Go.Proofs.YteanbflbclmeeaaGreat
open Go.RowKit

set_option maxRecDepth 20000 in
set_option maxHeartbeats 4000000 in
theorem rCau_any (r c N : Nat) (hN : r * c = N) (hr1 : 1 ≤ r) (hr2 : r ≤ 255) (hc1 : 1 ≤ c) (hc2 : c ≤ 255) (hrc : r + c ≤ 256) (w : World) :
    Calls Tryz.prog 43 #[.int .i64 r, .int .i64 c] w fun e w' => ∃ g, e = .returned (.tuple #[mv g r c N, .int .i64 0]) ∧ Tab g (cauM c) r c w' ∧ Below w.heap.size w w' := by
  have hNm : N ≤ 1000000 := by rw [← hN]; exact Nat.le_trans (Nat.mul_le_mul hr2 hc2) (by decide)
  have HN := Lib.hid hN
  clear hN
  go_enter Tryz.func43, Tryz.ntmps43
  go_wp2_with fail
  refine (nought_any r c N HN.out hNm _).mono ?_
  rintro e w1 ⟨g, hg, rfl, hT, hb⟩
  have hR : ResAt w.heap.size 62 w1 := (hb.block _ (by simp)).trans (heap_alloc_new _ _)
  have hb1 : Below w.heap.size w w1 := ((Below.refl _ _).alloc (Nat.le_refl _) _).trans (hb.mono (by simp))
  have hg1 : w.heap.size < g := by simp at hg; omega
  have HT := Lib.hid hT
  have HR := Lib.hid hR
  have HB := Lib.hid hb1
  clear hT hR hb hb1 hg
  go_wp2_with (refine wpList_store_whole rfl 62 _ _ rfl w1.heap.size (tabRow g r c N) zeroRow 62 rfl rfl (heap_alloc_new _ _) rfl (by kernel_rfl) (tabRow_ones _ _ _ _) ?_; intro w2 h2 k2 s2; go_frame)
  have HB2 : Hid (BoxR w1.heap.size g r c N (cauTo c 0 0) w w2) := Lib.hid (by rw [cauTo_zero]; exact boxedR h2.out k2.out HT.out HR.out HB.out hg1)
  obtain ⟨b, hbe⟩ : ∃ b, b = w1.heap.size := ⟨_, rfl⟩
  rw [← hbe] at HB2 ⊢
  clear h2 k2 s2 HT HR HB hbe
  go_loopw [7] (fun iv wr => ∃ i : Nat, i ≤ r ∧ iv = .int .i64 i ∧ BoxR b g r c N (cauTo c i 0) w wr) (fun iv _ => r - (intOf iv).toNat)
  case atStart => exact ⟨0, by omega, rfl, HB2.out⟩
  case round =>
    clear HB2
    obtain ⟨i, hi, rfl, hB⟩ := hrel
    have HA := Lib.hid hB
    clear hB
    by_cases hlt : i < r
    · obtain ⟨w6, rfl⟩ : ∃ x, x = wr := ⟨_, rfl⟩
      go_wp2_with fail
      go_loopw [8] (fun jv wr => ∃ j : Nat, j ≤ c ∧ jv = .int .i64 j ∧ BoxR b g r c N (cauTo c i j) w wr) (fun jv _ => c - (intOf jv).toNat)
      case atStart => exact ⟨0, by omega, rfl, HA.out⟩
      case round =>
        clear HA
        obtain ⟨j, hj, rfl, hB⟩ := hrel
        have d2 := hB.c2
        have H1 := Lib.hid hB
        clear hB
        by_cases hlj : j < c
        · obtain ⟨A, hA⟩ : ∃ A, i * c = A := ⟨_, rfl⟩
          have fA := row_fits HN.out hA hlt
          have hx := mul_wrap hA (show A ≤ 1000000 by omega)
          obtain ⟨x, hx1⟩ : ∃ x, x = by8 (c + i) := ⟨_, rfl⟩
          obtain ⟨y, hy1⟩ : ∃ y, y = by8 j := ⟨_, rfl⟩
          obtain ⟨z, hz⟩ : ∃ z, z = inv (xr x y) := ⟨_, rfl⟩
          have HZ : Hid (cauM c i j = z) := Lib.hid (by rw [cauM_eq, hz, hx1, hy1])
          have HZ2 := Lib.hid hz
          have hbt : bits .xor .u8 ((c : Int) + (i : Int)) (j : Int) = ((xr x y).toNat : Int) := by
            have := g_xor x y
            rw [show (x.toNat : Int) = (c : Int) + (i : Int) by rw [hx1, by8_nat (by omega)]; omega, show (y.toNat : Int) = (j : Int) by rw [hy1, by8_nat (by omega)]] at this
            exact this
          have hcell : ∃ x, wr.cell? ⟨g, A + j, none⟩ = some x := by
            have := H1.out.tab.src.cell hlt hlj
            rw [Nat.zero_add, hA] at this; exact ⟨_, this⟩
          obtain ⟨x9, hcell⟩ := hcell
          have hfree := free_of_list H1.out.tab (A + j)
          have HX : Hid (BoxR b g r c N (cauTo c i (j + 1)) w (wr.setCell ⟨g, A + j, none⟩ (.int .u8 z.toNat))) := Lib.hid (by
            have := H1.out.set hlt hlj z
            rw [hA, cauTo_step _ _ _ _ HZ.out] at this; exact this)
          clear hA hx1 hy1 hz
          go_wp2_with fail
          refine (rInv_any _ _).mono ?_
          rintro e w' ⟨rfl, rfl⟩
          rw [← HZ2.out]
          go_wp2_with fail
          go_roundw
          case rel => exact ⟨j + 1, by omega, by go_num, HX.out⟩
          case measure => simp [intOf]; omega
        · obtain rfl : j = c := by omega
          clear d2
          go_wp2_with fail
          go_roundw
          case rel => exact ⟨i + 1, by omega, by go_num, H1.out.alike (cauTo_row _ _ _)⟩
          case measure => simp [intOf]; omega
    · obtain rfl : i = r := by omega
      have d0 := HA.out.c0
      have d1 := HA.out.c1
      have d2 := HA.out.c2
      go_wp2_with (refine wpList_store_whole rfl 62 _ _ rfl w.heap.size (tabRow g i c N) zeroRow 62 rfl rfl HA.out.res rfl (by kernel_rfl) (tabRow_ones _ _ _ _) ?_; intro w4 h4 k4 s4; go_frame)
      have hgl := HA.out.gl
      refine bodyPost_ret (results_mid2 Tryz.results43 _ _ w.heap.size 0 (tabRow g i c N) _ rfl (range_of_list h4.out) Tryz.underlying62 rfl (by kernel_rfl)) rfl ⟨g, rfl, ?_, ?_⟩
      · exact (HA.out.tab.alike (cauTo_all _ _ _)).keep (k4.out.block _ HA.out.tab.lt (by simp; omega))
      · exact below_kept HA.out.old k4.out (Nat.le_refl _) HA.out.old.size
end Go.Proofs.YteanbflbclmeeaaGreat
