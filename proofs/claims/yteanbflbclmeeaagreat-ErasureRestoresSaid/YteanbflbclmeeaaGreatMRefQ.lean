/- The document's own Apply, of what may be applied. -/
import Derived.Test.YteanbflbclmeeaaGreatMRefP
namespace Go.Proofs.YteanbflbclmeeaaGreat
open Go.RowKit

theorem zeros_text (g m : Nat) (w : World) (h : w.heap[g]? = some (.cells (List.replicate m (Value.int .u8 0)).toArray 5 (0, 0))) : (convert 60 9 (.slice (some ⟨g, 0, none⟩) m m)).run Tryz.prog w = .ok (.string (txt (fun _ => 0) m)) w := by
  have hl : (textOf (fun _ => (0 : UInt8)) m) = List.replicate m 0 := by unfold textOf; rw [List.map_const']; simp
  rw [txt_eq, hl]
  refine run_bytes_string w 60 9 5 g 0 m m (List.replicate m 0) (by simp) Tryz.underlying60 Tryz.underlying5 Tryz.underlying9 ?_
  rw [List.map_replicate]; exact range_of_list h
/-- What stands while rows are applied. -/
structure ApS (rn cn b o len cap hb : Nat) (f : Nat → ByteArray) (F : Nat → ByteArray) (w0 S0 : World) (i : Nat) (v : Value) (w : World) : Prop where
  ra : RA rn cn (some ⟨b, o, none⟩) len cap w0 w
  own : OwnT S0.heap.size v ((List.range i).map F) w
  old : Below S0.heap.size S0 w
set_option maxRecDepth 20000 in
set_option maxHeartbeats 4000000 in
theorem rApply_good (rn cn b o len cap hb ho capn m : Nat) (X : Mat) (f : Nat → ByteArray) (hr1 : 1 ≤ rn) (hr2 : rn ≤ 255) (hc1 : 1 ≤ cn) (hc2 : cn ≤ 255) (hlen : rn * cn = len) (hmm : m ≤ 1000000) (hm : ∀ j, j < cn → (f j).size = m)
    (w : World) (hX : Src b o X rn cn w) (hbl : b < w.heap.size) (h : Texts hb ho cn f w) (hhl : hb < w.heap.size) :
    Calls Tryz.prog 28 #[.agg #[.int .i64 rn, .int .i64 cn, .slice (some ⟨b, o, none⟩) len cap], .slice (some ⟨hb, ho, none⟩) cn capn] w fun e w' => ∃ h2 cap2, e = .returned (.tuple #[.slice (some ⟨h2, 0, none⟩) rn cap2, .int .i64 0]) ∧ ColT h2 rn (fun i => txt (mm cn X (fun j => strAt (f j)) i) m) w' ∧ Below w.heap.size w w' := by
  have hr : rightB rn cn len = true := by rw [rightB_eq]; exact decide_eq_true ⟨by omega, by omega, by omega, by omega, by rw [← hlen]; simp⟩
  have hnb := nat_eq_B (i := cn) (p := cn) rfl
  have hlm : len ≤ 65025 := by rw [← hlen]; exact Nat.mul_le_mul hr2 hc2
  obtain ⟨Y, hY⟩ : ∃ Y : Mat, Y = fun j => strAt (f j) := ⟨_, rfl⟩
  have HFT : Hid (∀ j, j < cn → f j = txt (Y j) m) := Lib.hid (fun j hj => by rw [hY]; exact txt_str _ _ (hm j hj))
  have HTX := Lib.hid h
  have HM := Lib.hid hm
  have HX := Lib.hid hX
  have HLEN := Lib.hid hlen
  obtain ⟨F, hF⟩ : ∃ F : Nat → ByteArray, F = fun i => txt (mm cn X Y i) m := ⟨_, rfl⟩
  have HF := Lib.hid hF
  rw [← hY, ← hF]
  obtain ⟨wa, hwa⟩ : ∃ wa, wa = w.alloc (.cells #[.int .i64 rn, .int .i64 cn, .slice (some ⟨b, o, none⟩) len cap] 62) := ⟨_, rfl⟩
  have R0 : Hid (RA rn cn (some ⟨b, o, none⟩) len cap w wa) := Lib.hid (by rw [hwa]; exact RA.new _ _ _ _ _ _)
  have HWA := Lib.hid hwa
  obtain ⟨d0, d1, d2⟩ := heap_cell0 R0.out.box
  clear hwa h hm hX hlen hY hF
  go_enter Tryz.func28, Tryz.ntmps28
  go_wp2_with fail
  rw [← HWA.out]
  go_wp2_with fail
  refine (rRight_any rn cn (some ⟨b, o, none⟩) len cap _).mono ?_
  rintro e w1 ⟨rfl, hb1⟩
  rw [hr]
  have R1 := Lib.hid (R0.out.below hb1)
  clear hb1 R0 d0 d1 d2 HWA
  obtain ⟨d0, d1, d2⟩ := heap_cell0 R1.out.box
  go_wp2_with fail
  clear d0 d1 d2
  go_loopw [7] (fun iv wr => ∃ i : Nat, i ≤ cn ∧ iv = .int .i64 i ∧ RA rn cn (some ⟨b, o, none⟩) len cap w wr) (fun iv _ => cn - (intOf iv).toNat)
  case atStart => exact ⟨0, by omega, rfl, R1.out⟩
  case round =>
    clear R1
    obtain ⟨i, hi, rfl, hR⟩ := hrel
    have HR := Lib.hid hR
    clear hR
    by_cases hlt : i < cn
    · obtain ⟨x, hx⟩ : ∃ x, x = f i := ⟨_, rfl⟩
      obtain ⟨y, hy⟩ : ∃ y, y = f 0 := ⟨_, rfl⟩
      have c0 : wr.cell? ⟨hb, ho + i, none⟩ = some (.string x) := by rw [hx]; exact (HR.out.old.cell (p := ⟨hb, ho + i, none⟩) hhl).trans (HTX.out i hlt)
      have c1 : wr.cell? ⟨hb, ho, none⟩ = some (.string y) := by rw [hy]; exact (HR.out.old.cell (p := ⟨hb, ho, none⟩) hhl).trans (HTX.out 0 (by omega))
      have hb := nat_eq_B (i := x.size) (p := y.size) (by rw [hx, hy, HM.out i hlt, HM.out 0 (by omega)])
      clear hx hy
      go_wp2_with fail
      go_quiet (fail)
      go_wp2_with fail
      go_roundw
      case rel => exact ⟨i + 1, by omega, by go_num, by first | exact HR.out | exact HR.out.drewN _⟩
      case measure => simp [intOf]; omega
    · obtain rfl : i = cn := by omega
      obtain ⟨S0, hS0⟩ : ∃ S0, S0 = wr := ⟨_, rfl⟩
      rw [← hS0] at HR ⊢
      clear hS0 hlt hi
      go_wp2_with fail
      go_loopw [8, 9] (fun ov iv wr => ∃ q : Nat, q ≤ rn ∧ iv = .int .i64 q ∧ ApS rn i b o len cap hb f F w S0 q ov wr) (fun _ iv _ => rn - (intOf iv).toNat)
      case atStart => exact ⟨0, by omega, rfl, ⟨HR.out, OwnT.nil _ _, Below.refl _ _⟩⟩
      case round =>
        obtain ⟨q, hq, rfl, hA⟩ := hrel
        have HA := Lib.hid hA
        obtain ⟨d0, d1, d2⟩ := heap_cell0 hA.ra.box
        clear hA
        by_cases hlt : q < rn
        · obtain ⟨w6, hw6⟩ : ∃ w6, w6 = wr := ⟨_, rfl⟩
          rw [← hw6] at HA d0 d1 d2 ⊢
          clear hw6
          obtain ⟨y, hy⟩ : ∃ y, y = f 0 := ⟨_, rfl⟩
          have c1 : w6.cell? ⟨hb, ho, none⟩ = some (.string y) := by rw [hy]; exact (HA.out.ra.old.cell (p := ⟨hb, ho, none⟩) hhl).trans (HTX.out 0 (by omega))
          have hys : y.size = m := by rw [hy, HM.out 0 (by omega)]
          have hmk := make_zeros m hmm
          have hcv := zeros_text w6.heap.size m (w6.alloc (.cells (List.replicate m (Value.int .u8 0)).toArray 5)) (heap_alloc_new _ _)
          rw [show (List.replicate m (Value.int .u8 0)).toArray = Array.replicate m (Value.int .u8 0) from by simp] at hcv
          clear hy
          go_wp2_with fail
          clear c1 hys hmk hcv d0 d1 d2
          go_loopw [10, 11] (fun sv jv wr => ∃ j : Nat, j ≤ i ∧ jv = .int .i64 j ∧ sv = .string (txt (partF X Y q j) m) ∧ Below w6.heap.size w6 wr) (fun _ jv _ => i - (intOf jv).toNat)
          case atStart => exact ⟨0, by omega, rfl, by rw [partF_zero], below_alloc _ _⟩
          case round =>
            obtain ⟨j, hj, rfl, rfl, hB⟩ := hrel
            have HB := Lib.hid hB
            have HR6 := Lib.hid (HA.out.ra.below hB)
            obtain ⟨d0, d1, d2⟩ := heap_cell0 HR6.out.box
            clear hB
            by_cases hlj : j < i
            · obtain ⟨A, hAe⟩ : ∃ A, q * i = A := ⟨_, rfl⟩
              have fA := row_fits HLEN.out hAe hlt
              obtain ⟨E, hE⟩ : ∃ E, A + j = E := ⟨_, rfl⟩
              have u1 : (A : Int) + (j : Int) = (E : Int) := by omega
              have u2 : (0 : Int) ≤ (E : Int) := by omega
              have u3 : (E : Int) < (len : Int) := by omega
              have hA6 : A ≤ 1000000 := by omega
              obtain ⟨s, hs⟩ : ∃ s, s = txt (partF X Y q j) m := ⟨_, rfl⟩
              obtain ⟨s2, hs2⟩ : ∃ s2, s2 = txt (partF X Y q (j + 1)) m := ⟨_, rfl⟩
              obtain ⟨x, hxe⟩ : ∃ x, x = X q j := ⟨_, rfl⟩
              obtain ⟨t, ht⟩ : ∃ t, t = f j := ⟨_, rfl⟩
              obtain ⟨S, hS⟩ : ∃ S : World → Prop, S = fun v => Below w6.heap.size w6 v := ⟨_, rfl⟩
              have hSb : ∀ v v', S v → Below v.heap.size v v' → S v' := by rw [hS]; exact fun v v' hv hb => hv.trans (hb.mono hv.size)
              have KS : ∀ u : Of S, u.w.cell? ⟨hb, ho + j, none⟩ = some (.string t) ∧ u.w.cell? ⟨w.heap.size, 1, none⟩ = some (.int .i64 i) ∧ u.w.cell? ⟨w.heap.size, 2, none⟩ = some (.slice (some ⟨b, o, none⟩) len cap) ∧ u.w.cell? ⟨b, o + E, none⟩ = some (.int .u8 x.toNat) := by
                rw [hS]
                intro u
                have hr := HA.out.ra.below u.ok
                obtain ⟨_, e1, e2⟩ := heap_cell0 hr.box
                refine ⟨by rw [ht]; exact (hr.old.cell (p := ⟨hb, ho + j, none⟩) hhl).trans (HTX.out j hlj), e1, e2, ?_⟩
                have := HX.out.cell hlt hlj
                rw [hAe, hE] at this
                rw [hxe]
                exact (hr.old.cell (p := ⟨b, o + E, none⟩) hbl).trans this
              have SC := Lib.hid (quiet_S hSb (f := 47) (args := #[.string s, .string t, .int .u8 x.toNat]) (v := .tuple #[.string s2, .bool true]) (fun v _ => by
                have := rScale_yes s t x (by rw [hs, ht, txt_size, HM.out j hlj]) (by rw [hs, txt_size]; exact hmm) v
                rw [show scaled s t x = s2 by rw [hs, hs2, ht, hxe, HFT.out j hlj, scaled_txt, partF_step]] at this
                exact this))
              have S4 : S wr.drew := by rw [hS]; exact HB.out.drew
              have k0 := fun u => (KS u).1
              have k1 := fun u => (KS u).2.1
              have k2 := fun u => (KS u).2.2.1
              have k3 := fun u => (KS u).2.2.2
              have HS4 := Lib.hid S4
              haveI : Nonempty (Of S) := ⟨⟨_, S4⟩⟩
              have HSS := Lib.hid hS
              have HS2 := Lib.hid hs2
              rw [← hs]
              have hx := mul_wrap hAe hA6
              clear hs hs2 hxe ht hAe hE KS S4 hS hSb
              go_wp2_with fail
              refine wp_region_S S (by kernel_rfl) (by kernel_rfl) HS4.out ?_
              repeat (go_big_quiet_step (first | (go_at_call 47; with_reducible exact SC.out _)))
              refine wpQuiet_nil ?_
              rintro w7 ⟨u7, e7⟩
              have h7 : S w7 := e7 ▸ u7.ok
              rw [HSS.out] at h7
              have HB7 := Lib.hid h7
              clear e7 u7 h7 k0 k1 k2 k3 this SC HS4 HSS d0 d1 d2 hx u1
              go_wp2_with fail
              go_roundw
              case rel => exact ⟨j + 1, by omega, by go_num, by rw [HS2.out], HB7.out⟩
              case measure => simp [intOf]; omega
            · obtain rfl : j = i := by omega
              obtain ⟨s, hs⟩ : ∃ s, s = txt (partF X Y q j) m := ⟨_, rfl⟩
              have HSF : Hid (s = F q) := Lib.hid (by rw [hs, HF.out]; rfl)
              rw [← hs]
              clear hs d0 d2
              have OW := Lib.hid (HA.out.own.below HB.out)
              have SZ : S0.heap.size ≤ wr.heap.size := Nat.le_trans HA.out.old.size HB.out.size
              go_wp2_with (refine wpList_append_strs rfl (.tmp 77) (.tmp 79) rfl S0.heap.size _ ((List.range q).map F) rfl (OW.out.alloc _) ⟨wr.heap.size, 0, none⟩ 1 1 [s] rfl rfl (one_str wr s) (by rw [List.length_map, List.length_range]; omega) (by simp; omega) ?_; intro v' w' ho2 hg2; go_frame)
              have hB9 : Below S0.heap.size S0 w' := grown_belowT ((HA.out.old.trans (HB.out.mono HA.out.old.size)).alloc SZ _) (by simp; omega) (OW.out.alloc _) hg2.out
              have HN : Hid (ApS rn j b o len cap hb f F w S0 (q + 1) v' w') := Lib.hid ⟨HR.out.below hB9, by rw [List.range_succ, List.map_append]; rw [HSF.out] at ho2; exact ho2.out, hB9⟩
              clear d1
              go_roundw
              case rel => exact ⟨q + 1, by omega, by go_num, HN.out⟩
              case measure => simp [intOf]; omega
        · obtain rfl : q = rn := by omega
          obtain ⟨g8, cap8, hv8, hcap8, hg8, hg8l⟩ := HA.out.own.form (by rw [List.length_map, List.length_range]; omega)
          subst hv8
          have hll : ((List.range q).map F).length = q := by rw [List.length_map, List.length_range]
          have hT := HA.out.own.texts
          rw [hll] at hT ⊢
          have HCT : Hid (ColT g8 q F wr) := Lib.hid ⟨fun j hj => by
            rw [hT j hj]
            show some (Value.string (((List.range q).map F).getD j .empty)) = some (Value.string (F j))
            rw [List.getD, List.getElem?_map, List.getElem?_range hj]; rfl, hg8l⟩
          clear hT hll
          go_wp2_with fail
          go_ret2
          exact ⟨_, _, rfl, HCT.out, HA.out.ra.old⟩
end Go.Proofs.YteanbflbclmeeaaGreat
