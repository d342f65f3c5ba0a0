/- Merged MRkE MRkF MRkG: the document's own Down, Invert, Pick (for the erasure). -/
import Derived.Test.YteanbflbclmeeaaGreatMRk1
import Derived.Test.YteanbflbclmeeaaGreatMPick
import Derived.Test.YteanbflbclmeeaaGreatMRefQ
import Derived.Test.YteanbflbclmeeaaGreatMRk0
import Derived.Test.YteanbflbclmeeaaGreatMIs
import Derived.Test.YteanbflbclmeeaaGreatMMul
/- The document's own Down. -/
namespace Go.Proofs.YteanbflbclmeeaaGreat
open Go.RowKit

theorem red_full {r : Nat} {M : Mat} {j : Nat} (h : (red r M j).2 = r) (k : Nat) : red r M (j + k) = red r M j := by
  induction k with
  | zero => rfl
  | succ k ih =>
    rw [show j + (k + 1) = (j + k) + 1 by omega, red_succ, ih]
    refine stepM_no ?_
    rw [h]
    have := (lead_spec (red r M j).1 (r := r) (col := j + k) (d := r) (Nat.le_refl _)).1
    omega
theorem swapR_comm (p q : Nat) (M : Mat) : swapR p q M = swapR q p M := by
  funext a b
  unfold swapR swp
  by_cases h1 : a = p
  · by_cases h2 : a = q
    · rw [if_pos h1, if_pos h2, ← h1, ← h2]
    · rw [if_pos h1, if_neg h2, if_pos h1]
  · by_cases h2 : a = q
    · rw [if_neg h1, if_pos h2, if_pos h2]
    · rw [if_neg h1, if_neg h2, if_neg h2, if_neg h1]
def scTo (d t : Nat) (x : UInt8) (M : Mat) : Mat := fun a b => if a = d ∧ b < t then tm x (M a b) else M a b
theorem scTo_zero (d : Nat) (x : UInt8) (M : Mat) : scTo d 0 x M = M := by funext a b; unfold scTo; rw [if_neg (by omega)]
theorem scTo_at (d t : Nat) (x : UInt8) (M : Mat) : scTo d t x M d t = M d t := by unfold scTo; rw [if_neg (by omega)]
theorem scTo_step (d t : Nat) (x : UInt8) (M : Mat) : setM d t (tm x (M d t)) (scTo d t x M) = scTo d (t + 1) x M := by
  funext a b
  unfold setM scTo
  by_cases h : a = d ∧ b = t
  · rw [if_pos h, if_pos (by omega), h.1, h.2]
  · rw [if_neg h]
    by_cases h2 : a = d ∧ b < t
    · rw [if_pos h2, if_pos (by omega)]
    · rw [if_neg h2, if_neg (by omega)]
theorem scTo_all (d : Nat) {r c : Nat} (x : UInt8) (M : Mat) : Alike r c (scTo d c x M) (scaleR d x M) := fun a b _ hb => by
  unfold scTo scaleR
  by_cases h : a = d
  · rw [if_pos ⟨h, hb⟩, if_pos h]
  · rw [if_neg (fun q => h q.1), if_neg h]
def rwTo (i d t : Nat) (y : UInt8) (M : Mat) : Mat := fun a b => if a = i ∧ b < t then M a b ^^^ tm y (M d b) else M a b
theorem rwTo_zero (i d : Nat) (y : UInt8) (M : Mat) : rwTo i d 0 y M = M := by funext a b; unfold rwTo; rw [if_neg (by omega)]
theorem rwTo_at (i d t : Nat) (y : UInt8) (M : Mat) : rwTo i d t y M i t = M i t := by unfold rwTo; rw [if_neg (by omega)]
theorem rwTo_of (i d t b : Nat) (y : UInt8) (M : Mat) (h : i ≠ d) : rwTo i d t y M d b = M d b := by unfold rwTo; rw [if_neg (by omega)]
theorem rwTo_step (i d t : Nat) (y : UInt8) (M : Mat) : setM i t (xr (M i t) (tm y (M d t))) (rwTo i d t y M) = rwTo i d (t + 1) y M := by
  funext a b
  unfold setM rwTo
  by_cases h : a = i ∧ b = t
  · rw [if_pos h, if_pos (by omega), h.1, h.2, xr_eq]
  · rw [if_neg h]
    by_cases h2 : a = i ∧ b < t
    · rw [if_pos h2, if_pos (by omega)]
    · rw [if_neg h2, if_neg (by omega)]
theorem rwTo_all (i d : Nat) {r c : Nat} (y : UInt8) (M : Mat) : Alike r c (rwTo i d c y M) (addR i d y M) := fun a b _ hb => by
  unfold rwTo addR setRow
  by_cases h : a = i
  · rw [if_pos ⟨h, hb⟩, if_pos h, h]
  · rw [if_neg (fun q => h q.1), if_neg h]
theorem OwnB.ts {B g N cap : Nat} {M : Mat} {r c : Nat} {w : World} (h : OwnB B (.slice (some ⟨g, 0, none⟩) N cap) (flat M r c) w) : ∃ sp, TS g sp M r c w := by
  rcases h.2 with ⟨h0, _⟩ | ⟨g', cap', cur, hv, _, hg, _, _, _, ht⟩
  · cases h0
  · simp only [Value.slice.injEq, Option.some.injEq, Addr.mk.injEq, and_true] at hv
    obtain ⟨rfl, _, rfl⟩ := hv
    refine ⟨cur.toList.drop ((flat M r c).length * 1), ⟨?_⟩⟩
    rw [← ht, List.take_append_drop]; exact hg
theorem nat_eqF {a b : Nat} (h : a ≠ b) : ((a : Int) == (b : Int)) = false := by rw [beq_eq_false_iff_ne]; omega
theorem nat_eqT {a b : Nat} (h : a = b) : ((a : Int) == (b : Int)) = true := by rw [h]; simp
attribute [local go_sem high] g_xor
set_option maxRecDepth 20000 in
set_option maxHeartbeats 8000000 in
theorem rDown_any (r c cols b o N cap : Nat) (M : Mat) (hN : r * c = N) (hr1 : 1 ≤ r) (hr2 : r ≤ 255) (hc1 : 1 ≤ c) (hc2 : c ≤ 510) (hcols : cols ≤ c) (w : World) (hX : Src b o M r c w) (hb : b < w.heap.size) :
    Calls Tryz.prog 46 #[.agg #[.int .i64 r, .int .i64 c, .slice (some ⟨b, o, none⟩) N cap], .int .i64 cols] w fun e w' => ∃ g cap2, e = .returned (.tuple #[.agg #[.int .i64 r, .int .i64 c, .slice (some ⟨g, 0, none⟩) N cap2], .int .i64 (red r M cols).2]) ∧ N ≤ cap2 ∧ g < w'.heap.size ∧ Src g 0 (red r M cols).1 r c w' ∧ Below w.heap.size w w' := by
  have hmax : N ≤ 1000000 := by rw [← hN]; exact Nat.le_trans (Nat.mul_le_mul hr2 hc2) (by decide)
  have hN1 : 1 ≤ N := by rw [← hN]; exact Nat.mul_pos hr1 hc1
  obtain ⟨wa, hwa⟩ : ∃ wa, wa = (w.alloc (.cells #[.int .i64 r, .int .i64 c, .slice (some ⟨b, o, none⟩) N cap] 62)).alloc (.cells #[.int .i64 0, .int .i64 0, .slice none 0 0] 62) := ⟨_, rfl⟩
  have R0 : Hid (RA r c (some ⟨b, o, none⟩) N cap w wa) := Lib.hid (by rw [hwa]; exact ⟨heap_alloc2_old _ _ _, (below_alloc w _).alloc (by simp) _⟩)
  have RES : Hid (ResAt (w.heap.size + 1) 62 wa) := Lib.hid (by rw [hwa]; exact heap_alloc2_new _ _ _)
  have HSZ : Hid (wa.heap.size = w.heap.size + 1 + 1) := Lib.hid (by rw [hwa]; simp)
  have HWA := Lib.hid hwa
  have HN := Lib.hid hN
  have HLF : Hid ((flat M r c).length = N) := Lib.hid (by rw [length_flat, hN])
  have HNW : Hid (∀ j u, ((flat M r c).map u8v)[j]? = some u → wa.cell? ((⟨b, o, none⟩ : Addr).add j) = some u) := Lib.hid (fun j u hu => by
    rw [Addr.add_mid]
    exact (R0.out.old.cell (p := ⟨b, o + j, none⟩) hb).trans (hX j u hu))
  have HSW := Lib.hid (fun g cap4 p q sp M' hp hq v hv => rSwap_any g r c N cap4 p q sp M' hN hmax (by omega) hp hq v hv)
  obtain ⟨d0, d1, d2⟩ := heap_cell0 R0.out.box
  clear hwa hX hN
  go_enter Tryz.func46, Tryz.ntmps46
  go_wp2_with (at_builtin; (rw [← HWA.out]; refine wpList_append_bytes rfl (.const (.slice none 0 0)) (.tmp 16) rfl wa.heap.size _ [] rfl (OwnB.nil _ _) ⟨b, o, none⟩ N cap (flat M r c) rfl HLF.out HNW.out (by simp; omega) (Nat.le_refl _) ?_; intro v4 w4 ho4 hg4; obtain ⟨g4, cap4, hv4, hc4, hgl4, hl4⟩ := (show OwnB wa.heap.size v4 (flat M r c) w4 from ho4.out).form (by rw [HLF.out]; omega); rw [HLF.out] at hv4 hc4; subst hv4; have HO4 := Lib.hid (show OwnB wa.heap.size _ (flat M r c) w4 from ho4.out); have B4 : Hid (Below wa.heap.size wa w4) := (Lib.hid ⟨hg4.out.os, hg4.out.tape, hg4.out.output, hg4.out.size, fun k hk => hg4.out.block k hk (fun e => by cases e)⟩); have R4 := Lib.hid (R0.out.below B4.out); have RE4 := Lib.hid (RES.out.below B4.out RES.out.lt); clear d0 d1 d2 ho4 hg4; obtain ⟨d0, d1, d2⟩ := heap_cell0 R4.out.box; have ff := free_of_list R4.out.box 2; go_frame))
  obtain ⟨g, hg⟩ : ∃ g, g = g4 := ⟨_, rfl⟩
  rw [← hg] at hgl4 hl4 HO4 ⊢
  clear hg d0 d1 d2 ff
  have hsz := HSZ.out
  obtain ⟨sp, hT4⟩ := HO4.out.ts
  obtain ⟨w5, hw5⟩ : ∃ w5, w5 = w4.setCell ⟨w.heap.size, 2, none⟩ (.slice (some ⟨g, 0, none⟩) N cap4) := ⟨_, rfl⟩
  have hK5 : Kept w4.heap.size [w.heap.size] w4 w5 := by rw [hw5]; exact (Kept.refl _ _ _).setCell (p := ⟨w.heap.size, 2, none⟩) (by simp) _
  have D5 : Hid (DnB w.heap.size g r c N cap4 sp M w5 w5) := Lib.hid ⟨by rw [hw5]; exact set_list R4.out.box 2 _, hT4.keep (hK5.block g hT4.lt (by simp; omega)), Kept.refl _ _ _, by omega⟩
  have hR5 : ResAt (w.heap.size + 1) 62 w5 := (hK5.block _ RE4.out.lt (by simp)).trans RE4.out
  have R5 : Hid (∀ v, Kept w5.heap.size [g] w5 v → ResAt (w.heap.size + 1) 62 v) := Lib.hid fun v hv => (hv.block _ hR5.lt (by simp; omega)).trans hR5
  have hB5 : Below w.heap.size w w5 := below_kept R4.out.old hK5 (Nat.le_refl _) R4.out.old.size
  have B9 : Hid (∀ v, Kept w5.heap.size [g] w5 v → Below w.heap.size w v) := Lib.hid fun v hv => below_kept hB5 hv (by omega) hB5.size
  rw [← hw5]
  clear hw5 hK5 hT4 hR5 hB5 HO4 B4 R4 RE4 R0 RES HNW HLF HSZ
  go_loopw [6, 7] (fun dv jv wr => ∃ j : Nat, j ≤ cols ∧ jv = .int .i64 j ∧ dv = .int .i64 (red r M j).2 ∧ DnB w.heap.size g r c N cap4 sp (red r M j).1 w5 wr) (fun _ jv _ => cols - (intOf jv).toNat)
  case atStart => exact ⟨0, by omega, rfl, rfl, D5.out⟩
  case round =>
    clear D5
    obtain ⟨j, hj, rfl, rfl, hB⟩ := hrel
    obtain ⟨M', d, hs⟩ : ∃ M' d, red r M j = (M', d) := ⟨_, _, rfl⟩
    have hst := red_steps r M j
    rw [hs] at hB hst ⊢
    have hler : d ≤ r := hst.ler
    have hle : d ≤ j := hst.le
    have hB : DnB w.heap.size g r c N cap4 sp M' w5 wr := hB
    have HE : Hid (∀ x, stepM r j (M', d) = x → red r M (j + 1) = x) := Lib.hid (fun x hx => by rw [red_succ, hs]; exact hx)
    have HS1 := Lib.hid hs
    obtain ⟨d0, d1, d2⟩ := heap_cell0 hB.box
    have H1 := Lib.hid hB
    clear hB hst hs
    show Code.wp _ _ _ _ _
    by_cases hlt : j < cols
    · by_cases hdr : d < r
      · have hjc : j < c := by omega
        obtain ⟨f, hf⟩ : ∃ f, f = lead M' r j d := ⟨_, rfl⟩
        have hls := lead_spec M' (col := j) hler
        rw [← hf] at hls
        have hf1 : d ≤ f := hls.1
        have hf2 : f ≤ r := hls.2.1
        have HF3 : Hid (f < r → M' f j ≠ 0) := Lib.hid hls.2.2.1
        have HF4 : Hid (∀ k, d ≤ k → k < f → M' k j = 0) := Lib.hid hls.2.2.2
        have HFE := Lib.hid hf
        clear hls hf
        obtain ⟨w6, hw6⟩ : ∃ w6, w6 = wr := ⟨_, rfl⟩
        rw [← hw6] at H1 d0 d1 d2 ⊢
        clear hw6
        go_wp2_with fail
        go_loopw [8] (fun xv wr => ∃ x : Nat, d ≤ x ∧ x ≤ f ∧ xv = .int .i64 x ∧ wr = w6) (fun xv _ => r - (intOf xv).toNat)
        case atStart => exact ⟨d, Nat.le_refl _, hf1, rfl, rfl⟩
        case round =>
          obtain ⟨x, hx1, hx2, rfl, rfl⟩ := hrel
          by_cases hxf : x < f
          · obtain ⟨A, hA⟩ : ∃ A, x * c = A := ⟨_, rfl⟩
            obtain ⟨E, hE⟩ : ∃ E, A + j = E := ⟨_, rfl⟩
            have fA := row_fits HN.out hA (show x < r by omega)
            have hxr : x < r := by omega
            obtain ⟨y, hy⟩ : ∃ y, y = M' x j := ⟨_, rfl⟩
            have cx : wr.cell? ⟨g, E, none⟩ = some (.int .u8 y.toNat) := by rw [hy]; exact H1.out.tab.cell' hA hE hxr hjc
            have hyb : ((y.toNat : Int) == 0) = true := u8_eq0 (by rw [hy]; exact HF4.out x hx1 hxf)
            have u1 : E < N := by omega
            have hA6 : A ≤ 1000000 := by omega
            have hE6 : E ≤ 1000000 := by omega
            have eA := mul_wrapI hA hA6
            have eE := add_wrapI hE hE6
            clear hA hE hy
            go_wp2_with fail
            clear eA eE
            go_roundw
            case rel => exact ⟨x + 1, by omega, by omega, by go_num, by first | trivial | rfl⟩
            case measure => simp [intOf]; omega
          · obtain rfl : x = f := by omega
            by_cases hfr : x < r
            · obtain ⟨A, hA⟩ : ∃ A, x * c = A := ⟨_, rfl⟩
              obtain ⟨E, hE⟩ : ∃ E, A + j = E := ⟨_, rfl⟩
              have fA := row_fits HN.out hA hfr
              obtain ⟨y, hy⟩ : ∃ y, y = M' x j := ⟨_, rfl⟩
              have cx : wr.cell? ⟨g, E, none⟩ = some (.int .u8 y.toNat) := by rw [hy]; exact H1.out.tab.cell' hA hE hfr hjc
              have hyb : ((y.toNat : Int) == 0) = false := u8_ne0 (by rw [hy]; exact HF3.out hfr)
              have hxb := nat_eqF (show x ≠ r by omega)
              have u1 : E < N := by omega
              have hA6 : A ≤ 1000000 := by omega
              have hE6 : E ≤ 1000000 := by omega
              have eA := mul_wrapI hA hA6
              have eE := add_wrapI hE hE6
              clear hA hE hy
              go_wp2_with fail
              refine (HSW.out _ _ _ _ _ _ hfr hdr _ H1.out.tab).mono ?_
              rintro e w7 ⟨rfl, hT, hK⟩
              obtain ⟨M1, hM1⟩ : ∃ M1, M1 = swapR x d M' := ⟨_, rfl⟩
              rw [← hM1] at hT
              have HM1 : Hid (M1 = swS r j (M', d)) := Lib.hid (by rw [hM1, swapR_comm]; unfold swS; rw [HFE.out])
              have H2 := Lib.hid (H1.out.change hT hK)
              clear eA eE cx hyb d0 d1 d2 hT hK H1 hM1
              obtain ⟨d0, d1, d2⟩ := heap_cell0 H2.out.box
              obtain ⟨D, hD⟩ : ∃ D, d * c = D := ⟨_, rfl⟩
              obtain ⟨G, hG⟩ : ∃ G, D + j = G := ⟨_, rfl⟩
              have fD := row_fits HN.out hD hdr
              obtain ⟨z, hz⟩ : ∃ z, z = M1 d j := ⟨_, rfl⟩
              have cz : w7.cell? ⟨g, G, none⟩ = some (.int .u8 z.toNat) := by rw [hz]; exact H2.out.tab.cell' hD hG hdr hjc
              have u2 : G < N := by omega
              have hD6 : D ≤ 1000000 := by omega
              have hG6 : G ≤ 1000000 := by omega
              have eD := mul_wrapI hD hD6
              have eG := add_wrapI hG hG6
              have HD := Lib.hid hD
              have HG := Lib.hid hG
              have HZ := Lib.hid hz
              clear hD hG hz
              go_wp2_with fail
              refine (rInv_any _ _).mono ?_
              rintro e w' ⟨rfl, rfl⟩
              obtain ⟨q, hq⟩ : ∃ q, q = inv z := ⟨_, rfl⟩
              rw [← hq]
              have HQ := Lib.hid hq
              clear hq cz eG
              go_wp2_with fail
              clear d0 d1 d2
              go_loopw [11] (fun kv wr => ∃ k : Nat, k ≤ c ∧ kv = .int .i64 k ∧ DnB w.heap.size g r c N cap4 sp (scTo d k q M1) w5 wr) (fun kv _ => c - (intOf kv).toNat)
              case atStart => exact ⟨0, by omega, rfl, by rw [scTo_zero]; exact H2.out⟩
              case round =>
                clear H2
                obtain ⟨k, hk, rfl, hB⟩ := hrel
                have H3 := Lib.hid hB
                clear hB
                obtain ⟨d0, d1, d2⟩ := heap_cell0 H3.out.box
                by_cases hlk : k < c
                · obtain ⟨F, hF⟩ : ∃ F, D + k = F := ⟨_, rfl⟩
                  obtain ⟨t, ht⟩ : ∃ t, t = M1 d k := ⟨_, rfl⟩
                  have ct : wr.cell? ⟨g, F, none⟩ = some (.int .u8 t.toNat) := by
                    have := H3.out.tab.cell' HD.out hF hdr hlk
                    rw [scTo_at, ← ht] at this; exact this
                  have u3 : F < N := by omega
                  have hF6 : F ≤ 1000000 := by omega
                  have eF := add_wrapI hF hF6
                  have HFF := Lib.hid hF
                  have HT := Lib.hid ht
                  clear hF ht
                  go_wp2_with fail
                  refine wp_region_quiet_end (by kernel_rfl) rfl rfl (by kernel_rfl) (by kernel_rfl) (by kernel_rfl) ?_
                  simp only [initL, lastL, List.cons_append, List.nil_append, Oper.mute]
                  repeat (go_big_quiet_step (first | (go_at_call 71; exact Calls.quiet_of (rMul_q _ _ _))))
                  refine wpQuiet_nil ?_
                  rintro _ ⟨nq, rfl⟩
                  obtain ⟨w8, hw8⟩ : ∃ w8, w8 = wr.drewN nq := ⟨_, rfl⟩
                  have H4 : Hid (DnB w.heap.size g r c N cap4 sp (scTo d k q M1) w5 w8) := Lib.hid (by rw [hw8]; exact H3.out.drewN nq)
                  rw [← hw8]
                  clear hw8 d0 d1 d2 ct H3
                  have ct := H4.out.tab.cell' HD.out HFF.out hdr hlk
                  have fr := free_of_list H4.out.tab.at_ F
                  have H5 : Hid (DnB w.heap.size g r c N cap4 sp (scTo d (k + 1) q M1) w5 (w8.setCell ⟨g, F, none⟩ (.int .u8 (tm q t).toNat))) := Lib.hid (by
                    have := H4.out.set' HD.out HFF.out hdr hlk (tm q t)
                    rw [HT.out, scTo_step] at this
                    rw [HT.out]; exact this)
                  go_simp
                  clear eF ct fr H4
                  go_wp2_with fail
                  go_roundw
                  case rel => exact ⟨k + 1, by omega, by go_num, H5.out⟩
                  case measure => simp [intOf]; omega
                · obtain rfl : k = c := by omega
                  obtain ⟨M2, hM2⟩ : ∃ M2, M2 = scaleR d q M1 := ⟨_, rfl⟩
                  have H4 : Hid (DnB w.heap.size g r k N cap4 sp M2 w5 wr) := Lib.hid (by rw [hM2]; exact H3.out.alike (scTo_all _ _ _))
                  have HM2 : Hid (M2 = scS j d (swS r j (M', d))) := Lib.hid (by rw [hM2, HM1.out, HQ.out, HZ.out, HM1.out]; rfl)
                  clear H3 hM2
                  go_wp2_with fail
                  clear d0 d1 d2
                  go_loopw [12] (fun iv wr => ∃ i : Nat, i ≤ r ∧ iv = .int .i64 i ∧ DnB w.heap.size g r k N cap4 sp (clearTo d j i M2) w5 wr) (fun iv _ => r - (intOf iv).toNat)
                  case atStart => exact ⟨0, by omega, rfl, by rw [clearTo_zero]; exact H4.out⟩
                  case round =>
                    clear H4
                    obtain ⟨i, hi, rfl, hB⟩ := hrel
                    have H5 := Lib.hid hB
                    clear hB
                    obtain ⟨d0, d1, d2⟩ := heap_cell0 H5.out.box
                    by_cases hli : i < r
                    · obtain ⟨A2, hA2⟩ : ∃ A2, i * k = A2 := ⟨_, rfl⟩
                      obtain ⟨E2, hE2⟩ : ∃ E2, A2 + j = E2 := ⟨_, rfl⟩
                      have fA2 := row_fits HN.out hA2 hli
                      obtain ⟨y, hy⟩ : ∃ y, y = M2 i j := ⟨_, rfl⟩
                      have cy : wr.cell? ⟨g, E2, none⟩ = some (.int .u8 y.toNat) := by
                        have := H5.out.tab.cell' hA2 hE2 hli hjc
                        rw [clearTo_this, ← hy] at this; exact this
                      have u4 : E2 < N := by omega
                      have hA26 : A2 ≤ 1000000 := by omega
                      have hE26 : E2 ≤ 1000000 := by omega
                      have eA2 := mul_wrapI hA2 hA26
                      have eE2 := add_wrapI hE2 hE26
                      have HA2 := Lib.hid hA2
                      have HY := Lib.hid hy
                      clear hA2 hE2 hy
                      obtain ⟨w10, hw10⟩ : ∃ w10, w10 = wr := ⟨_, rfl⟩
                      rw [← hw10] at H5 d0 d1 d2 cy ⊢
                      clear hw10
                      go_wp2_with fail
                      clear cy eE2
                      by_cases hgo : i ≠ d ∧ y ≠ 0
                      · have b1 := nat_ne_B hgo.1
                        have b2 := u8_neB hgo.2
                        have hid := hgo.1
                        obtain ⟨M3, hM3⟩ : ∃ M3, M3 = clearTo d j i M2 := ⟨_, rfl⟩
                        rw [← hM3] at H5
                        have HM3 : Hid (addR i d y M3 = clearTo d j (i + 1) M2) := Lib.hid (by rw [hM3, HY.out]; exact clearTo_add d j i M2 hgo.1)
                        clear hM3 hgo d0 d1 d2
                        go_loopw [14] (fun tv wr => ∃ t : Nat, t ≤ k ∧ tv = .int .i64 t ∧ DnB w.heap.size g r k N cap4 sp (rwTo i d t y M3) w5 wr) (fun tv _ => k - (intOf tv).toNat)
                        case atStart => exact ⟨0, by omega, rfl, by rw [rwTo_zero]; exact H5.out⟩
                        case round =>
                          clear H5
                          obtain ⟨t, ht, rfl, hB⟩ := hrel
                          have H6 := Lib.hid hB
                          clear hB
                          obtain ⟨d0, d1, d2⟩ := heap_cell0 H6.out.box
                          by_cases hlt2 : t < k
                          · obtain ⟨F, hF⟩ : ∃ F, A2 + t = F := ⟨_, rfl⟩
                            obtain ⟨P, hP⟩ : ∃ P, D + t = P := ⟨_, rfl⟩
                            obtain ⟨s, hs⟩ : ∃ s, s = M3 i t := ⟨_, rfl⟩
                            obtain ⟨v, hv⟩ : ∃ v, v = M3 d t := ⟨_, rfl⟩
                            have cs : wr.cell? ⟨g, F, none⟩ = some (.int .u8 s.toNat) := by
                              have := H6.out.tab.cell' HA2.out hF hli hlt2
                              rw [rwTo_at, ← hs] at this; exact this
                            have cv : wr.cell? ⟨g, P, none⟩ = some (.int .u8 v.toNat) := by
                              have := H6.out.tab.cell' HD.out hP hdr hlt2
                              rw [rwTo_of _ _ _ _ _ _ hid, ← hv] at this; exact this
                            have u5 : F < N := by omega
                            have u6 : P < N := by omega
                            have hF6 : F ≤ 1000000 := by omega
                            have hP6 : P ≤ 1000000 := by omega
                            have eF := add_wrapI hF hF6
                            have eP := add_wrapI hP hP6
                            have HFF := Lib.hid hF
                            have HSS := Lib.hid hs
                            have HVV := Lib.hid hv
                            clear hF hP hs hv
                            go_wp2_with fail
                            refine wp_region_quiet_end (by kernel_rfl) rfl rfl (by kernel_rfl) (by kernel_rfl) (by kernel_rfl) ?_
                            simp only [initL, lastL, List.cons_append, List.nil_append, Oper.mute]
                            repeat (go_big_quiet_step (first | (go_at_call 71; exact Calls.quiet_of (rMul_q _ _ _))))
                            refine wpQuiet_nil ?_
                            rintro _ ⟨nq, rfl⟩
                            obtain ⟨w8, hw8⟩ : ∃ w8, w8 = wr.drewN nq := ⟨_, rfl⟩
                            have H7 : Hid (DnB w.heap.size g r k N cap4 sp (rwTo i d t y M3) w5 w8) := Lib.hid (by rw [hw8]; exact H6.out.drewN nq)
                            rw [← hw8]
                            clear hw8 d0 d1 d2 cs cv H6
                            have ct := H7.out.tab.cell' HA2.out HFF.out hli hlt2
                            have fr := free_of_list H7.out.tab.at_ F
                            have H8 : Hid (DnB w.heap.size g r k N cap4 sp (rwTo i d (t + 1) y M3) w5 (w8.setCell ⟨g, F, none⟩ (.int .u8 (xr s (tm y v)).toNat))) := Lib.hid (by
                              have := H7.out.set' HA2.out HFF.out hli hlt2 (xr s (tm y v))
                              rw [HSS.out, HVV.out, rwTo_step] at this
                              rw [HSS.out, HVV.out]; exact this)
                            go_simp
                            clear eF eP ct fr H7
                            go_wp2_with fail
                            go_roundw
                            case rel => exact ⟨t + 1, by omega, by go_num, H8.out⟩
                            case measure => simp [intOf]; omega
                          · obtain rfl : t = k := by omega
                            go_wp2_with fail
                            clear eA2 eD
                            go_roundw
                            case rel => exact ⟨i + 1, by omega, by go_num, by rw [← HM3.out]; exact H6.out.alike (rwTo_all _ _ _ _)⟩
                            case measure => simp [intOf]; omega
                      · have HNX : Hid (clearTo d j i M2 = clearTo d j (i + 1) M2) := Lib.hid (by
                          by_cases hid : i = d
                          · rw [hid]; exact (clearTo_pivot j d M2).symm
                          · have hy0 : M2 i j = 0 := by
                              by_cases h0 : y = 0
                              · rw [← HY.out]; exact h0
                              · exact absurd ⟨hid, h0⟩ hgo
                            exact (clearTo_none d j i M2 hy0).symm)
                        by_cases hid : i = d
                        · have b1 := nat_eq_B hid
                          clear hgo
                          refine wp_loop_rounds 1 ?_
                          rw [rounds_succ]
                          go_wp2_with fail
                          clear eA2 eD
                          go_roundw
                          case rel => exact ⟨i + 1, by omega, by go_num, by rw [← HNX.out]; exact H5.out⟩
                          case measure => simp [intOf]; omega
                        · have b1 := nat_ne_B hid
                          have b2 : ((y.toNat : Int) != 0) = false := u8_eqB (by
                            by_cases h0 : y = 0
                            · exact h0
                            · exact absurd ⟨hid, h0⟩ hgo)
                          clear hgo
                          refine wp_loop_rounds 1 ?_
                          rw [rounds_succ]
                          go_wp2_with fail
                          clear eA2 eD
                          go_roundw
                          case rel => exact ⟨i + 1, by omega, by go_num, by rw [← HNX.out]; exact H5.out⟩
                          case measure => simp [intOf]; omega
                    · obtain rfl : i = r := by omega
                      have HXX := Lib.hid (HE.out _ (stepM_yes (s := (M', d)) (by show lead M' i j d < i; rw [← HFE.out]; exact hfr)))
                      go_wp2_with fail
                      clear eD
                      go_roundw
                      case rel => exact ⟨j + 1, by omega, by go_num, by rw [HXX.out]; go_num, by rw [HXX.out]; show DnB _ _ _ _ _ _ _ (clS j d (scS j d (swS i j (M', d)))) _ _; rw [← HM2.out]; exact H5.out.alike (clearTo_all _ _ _ _)⟩
                      case measure => simp [intOf]; omega
            · obtain rfl : x = r := by omega
              have HXX := Lib.hid (HE.out _ (stepM_no (s := (M', d)) (by show ¬ lead M' x j d < x; rw [← HFE.out]; omega)))
              have hxb := nat_eqT (rfl : x = x)
              go_wp2_with fail
              go_roundw
              case rel => exact ⟨j + 1, by omega, by go_num, by rw [HXX.out], by rw [HXX.out]; exact H1.out⟩
              case measure => simp [intOf]; omega
      · obtain rfl : d = r := by omega
        have hend : red d M cols = (M', d) := by
          have h1 : (red d M j).2 = d := by rw [HS1.out]
          have := red_full h1 (cols - j)
          rw [show j + (cols - j) = cols by omega, HS1.out] at this; exact this
        have HEND := Lib.hid hend
        clear hend
        go_wp2_with (refine wpList_store_whole rfl 62 _ _ rfl (w.heap.size + 1) [.int .i64 d, .int .i64 c, .slice (some ⟨g, 0, none⟩) N cap4] zeroRow 62 rfl rfl (R5.out _ H1.out.old) rfl (by kernel_rfl) (fun v hv => by simp at hv; rcases hv with rfl | rfl | rfl <;> rfl) ?_; intro w9 h9 k9 s9; go_frame)
        refine bodyPost_ret (results_mid2 Tryz.results46 _ _ (w.heap.size + 1) 0 [.int .i64 d, .int .i64 c, .slice (some ⟨g, 0, none⟩) N cap4] _ rfl (range_of_list h9.out) Tryz.underlying62 rfl (by kernel_rfl)) rfl ⟨g, cap4, by rw [HEND.out]; rfl, hc4, ?_, ?_, ?_⟩
        · have := s9.out; have := H1.out.tab.lt; omega
        · rw [HEND.out]; exact H1.out.tab.src.keep (k9.out.block g H1.out.tab.lt (by simp; omega))
        · have hK := k9.out
          exact below_kept (B9.out _ H1.out.old) hK (by omega) (B9.out _ H1.out.old).size
    · obtain rfl : j = cols := by omega
      have hend : red r M j = (M', d) := HS1.out
      have HEND := Lib.hid hend
      clear hend
      go_wp2_with (refine wpList_store_whole rfl 62 _ _ rfl (w.heap.size + 1) [.int .i64 r, .int .i64 c, .slice (some ⟨g, 0, none⟩) N cap4] zeroRow 62 rfl rfl (R5.out _ H1.out.old) rfl (by kernel_rfl) (fun v hv => by simp at hv; rcases hv with rfl | rfl | rfl <;> rfl) ?_; intro w9 h9 k9 s9; go_frame)
      refine bodyPost_ret (results_mid2 Tryz.results46 _ _ (w.heap.size + 1) 0 [.int .i64 r, .int .i64 c, .slice (some ⟨g, 0, none⟩) N cap4] _ rfl (range_of_list h9.out) Tryz.underlying62 rfl (by kernel_rfl)) rfl ⟨g, cap4, by rw [HEND.out]; rfl, hc4, ?_, ?_, ?_⟩
      · have := s9.out; have := H1.out.tab.lt; omega
      · rw [HEND.out]; exact H1.out.tab.src.keep (k9.out.block g H1.out.tab.lt (by simp; omega))
      · have hK := k9.out
        exact below_kept (B9.out _ H1.out.old) hK (by omega) (B9.out _ H1.out.old).size
end Go.Proofs.YteanbflbclmeeaaGreat

/- The document's own Rank and Invert of right matrices. -/
namespace Go.Proofs.YteanbflbclmeeaaGreat
open Go.RowKit

theorem Tab.ts {g : Nat} {M : Mat} {r c : Nat} {w : World} (h : Tab g M r c w) : TS g [] M r c w := ⟨by rw [List.append_nil]; exact h⟩
theorem TS.tab {g : Nat} {M : Mat} {r c : Nat} {w : World} (h : TS g [] M r c w) : Tab g M r c w := by have := h.at_; rw [List.append_nil] at this; exact this
theorem row3_ones (r c : Int) (a : Option Addr) (n m : Nat) : ∀ v ∈ [Value.int .i64 r, .int .i64 c, .slice a n m], v.oneCell' = true := fun v hv => by simp at hv; rcases hv with rfl | rfl | rfl <;> rfl
def augT (n : Nat) (X : Mat) (i j : Nat) : Mat := fun a b => if a < i then aug n X a b else if a = i ∧ b < j then X a b else 0
theorem augT_zero (n : Nat) (X : Mat) : augT n X 0 0 = zeroM := by funext a b; unfold augT; rw [if_neg (by omega), if_neg (by omega)]
theorem augT_step (n : Nat) (X : Mat) (i j : Nat) : setM i j (X i j) (augT n X i j) = augT n X i (j + 1) := by
  funext a b
  unfold setM augT
  by_cases h : a = i ∧ b = j
  · rw [if_pos h, if_neg (by omega), if_pos (by omega), h.1, h.2]
  · rw [if_neg h]
    by_cases h2 : a < i
    · rw [if_pos h2, if_pos h2]
    · rw [if_neg h2, if_neg h2]
      by_cases h3 : a = i ∧ b < j
      · rw [if_pos h3, if_pos (by omega)]
      · rw [if_neg h3, if_neg (by omega)]
theorem augT_row (n m : Nat) (X : Mat) (i : Nat) : Alike n m (setM i (n + i) 1 (augT n X i n)) (augT n X (i + 1) 0) := fun a b _ hb => by
  unfold setM augT aug
  by_cases h : a = i ∧ b = n + i
  · rw [if_pos h, if_pos (by omega), if_neg (by omega), h.1, h.2, Nat.add_sub_cancel_left, dl_same]
  · rw [if_neg h]
    by_cases h2 : a < i
    · rw [if_pos h2, if_pos (show a < i + 1 by omega)]
    · rw [if_neg h2]
      by_cases h3 : a = i
      · rw [if_pos (show a < i + 1 by omega)]
        by_cases h4 : b < n
        · rw [if_pos ⟨h3, h4⟩, if_pos h4]
        · rw [if_neg (fun q : a = i ∧ b < n => h4 q.2), if_neg h4, dl_ne (by omega)]
      · rw [if_neg (fun q : a = i ∧ b < n => h3 q.1), if_neg (show ¬ a < i + 1 by omega), if_neg (fun q : a = i + 1 ∧ b < 0 => by omega)]
theorem augT_all (n m : Nat) (X : Mat) : Alike n m (augT n X n 0) (aug n X) := fun a b ha _ => by unfold augT; rw [if_pos ha]
set_option maxRecDepth 20000 in
set_option maxHeartbeats 8000000 in
theorem rInvert_sq (n b o N cap : Nat) (X : Mat) (hN : n * n = N) (hn1 : 1 ≤ n) (hn2 : n ≤ 255) (w : World) (hX : Src b o X n n w) (hb : b < w.heap.size) :
    Calls Tryz.prog 27 #[.agg #[.int .i64 n, .int .i64 n, .slice (some ⟨b, o, none⟩) N cap]] w fun e w' => (rk n n X = n ∧ (∃ g, e = .returned (.tuple #[mv g n n N, .int .i64 0]) ∧ Tab g (invM n X) n n w') ∨ rk n n X ≠ n ∧ e = .returned (.tuple #[noneV, .int .i64 18])) ∧ Below w.heap.size w w' := by
  have hr : rightB n n N = true := by rw [rightB_eq]; exact decide_eq_true ⟨by omega, by omega, by omega, by omega, by rw [← hN]; simp⟩
  have hmax : N ≤ 65025 := by rw [← hN]; exact Nat.mul_le_mul hn2 hn2
  obtain ⟨m, hm⟩ : ∃ m, m = 2 * n := ⟨_, rfl⟩
  obtain ⟨N2, hN2⟩ : ∃ N2, n * m = N2 := ⟨_, rfl⟩
  have hNN : N2 ≤ 1000000 := by
    have : N2 = 2 * N := by rw [← hN2, hm, ← hN, Nat.mul_left_comm]
    omega
  have hm1 : n + n ≤ m := by omega
  have hm2 : m ≤ 510 := by omega
  have hmul : IntKind.i64.wrap ((2 : Int) * (n : Int)) = (m : Int) := by rw [IntWalk.i64_in _ (by omega)]; omega
  obtain ⟨wa, hwa⟩ : ∃ wa, wa = (w.alloc (.cells #[.int .i64 n, .int .i64 n, .slice (some ⟨b, o, none⟩) N cap] 62)).alloc (.cells #[.int .i64 0, .int .i64 0, .slice none 0 0] 62) := ⟨_, rfl⟩
  have R0 : Hid (RA n n (some ⟨b, o, none⟩) N cap w wa) := Lib.hid (by rw [hwa]; exact ⟨heap_alloc2_old _ _ _, (below_alloc w _).alloc (by simp) _⟩)
  have RES : Hid (ResAt (w.heap.size + 1) 62 wa) := Lib.hid (by rw [hwa]; exact heap_alloc2_new _ _ _)
  have HWA := Lib.hid hwa
  have HN := Lib.hid hN
  have HN2 := Lib.hid hN2
  have HM := Lib.hid hm
  have HX := Lib.hid hX
  have HDN := Lib.hid (fun g M v hv hl => rDown_any n m n g 0 N2 N2 M hN2 hn1 hn2 (by omega) (by omega) (by omega) v hv hl)
  obtain ⟨d0, d1, d2⟩ := heap_cell0 R0.out.box
  clear hwa hX hN hN2 hm
  go_enter Tryz.func27, Tryz.ntmps27
  go_wp2_with fail
  rw [← HWA.out]
  clear HWA
  go_wp2_with fail
  refine (rRight_any n n _ N cap _).mono ?_
  rintro e w1 ⟨rfl, hb1⟩
  rw [hr]
  have R1 := Lib.hid (R0.out.below hb1)
  have RE1 := Lib.hid (RES.out.below hb1 RES.out.lt)
  clear hb1 R0 RES d0 d1 d2
  obtain ⟨d0, d1, d2⟩ := heap_cell0 R1.out.box
  have hnb := nat_eq_B (i := n) (p := n) rfl
  go_wp2_with fail
  refine (nought_any n m N2 HN2.out hNN _).mono ?_
  rintro e w2 ⟨g, hg, rfl, hT, hb2⟩
  have R2 := Lib.hid (R1.out.below hb2)
  have RE2 := Lib.hid (RE1.out.below hb2 RE1.out.lt)
  have hg1 : w.heap.size + 1 < g := Nat.lt_of_lt_of_le RE1.out.lt hg
  have HT := Lib.hid hT
  clear hb2 R1 RE1 d0 d1 d2 hT hg
  go_wp2_with (refine wpList_store_whole rfl 62 _ _ rfl w2.heap.size (tabRow g n m N2) zeroRow 62 rfl rfl (heap_alloc_new _ _) rfl (by kernel_rfl) (tabRow_ones _ _ _ _) ?_; intro w3 h3 k3 s3; go_frame)
  obtain ⟨b6, hb6⟩ : ∃ b6, b6 = w2.heap.size := ⟨_, rfl⟩
  have hB23 : Below w2.heap.size w2 w3 := below_kept (below_alloc _ _) k3.out (Nat.le_refl _) (by simp)
  have hT3 : Tab g zeroM n m w3 := HT.out.below hB23 HT.out.lt
  have hb6g : b6 ≠ g := by have := HT.out.lt; omega
  have hb6w : w.heap.size + 1 < b6 := by have := RE2.out.lt; omega
  rw [← hb6] at h3 ⊢
  have D3 : Hid (DnB b6 g n m N2 N2 [] (augT n X 0 0) w3 w3) := Lib.hid ⟨h3.out, by rw [augT_zero]; exact hT3.ts, Kept.refl _ _ _, hb6g⟩
  have R3 := Lib.hid (R2.out.below hB23)
  have RE3 := Lib.hid (RE2.out.below hB23 RE2.out.lt)
  have K3 : Hid (∀ v, Kept w3.heap.size [g] w3 v → (v.cell? ⟨w.heap.size, 0, none⟩ = some (.int .i64 n) ∧ v.cell? ⟨w.heap.size, 1, none⟩ = some (.int .i64 n) ∧ v.cell? ⟨w.heap.size, 2, none⟩ = some (.slice (some ⟨b, o, none⟩) N cap)) ∧ Src b o X n n v ∧ ResAt (w.heap.size + 1) 62 v ∧ Below w.heap.size w v) := Lib.hid fun v hv => by
    have hbl := below_kept R3.out.old hv (by omega) R3.out.old.size
    exact ⟨heap_cell0 ((hv.block _ (lt_of_heap R3.out.box) (by simp; omega)).trans R3.out.box), HX.out.keep (hbl.block b hb), (hv.block _ RE3.out.lt (by simp; omega)).trans RE3.out, hbl⟩
  clear h3 k3 s3 hB23 hT3 HT R2 RE2 R3 RE3 hb6
  go_loopw [7] (fun iv wr => ∃ i : Nat, i ≤ n ∧ iv = .int .i64 i ∧ DnB b6 g n m N2 N2 [] (augT n X i 0) w3 wr) (fun iv _ => n - (intOf iv).toNat)
  case atStart => exact ⟨0, by omega, rfl, D3.out⟩
  case round =>
    clear D3
    obtain ⟨i, hi, rfl, hB⟩ := hrel
    have H1 := Lib.hid hB
    clear hB
    by_cases hlt : i < n
    · obtain ⟨w6, hw6⟩ : ∃ w6, w6 = wr := ⟨_, rfl⟩
      rw [← hw6] at H1 ⊢
      clear hw6
      obtain ⟨I2, hI2⟩ : ∃ I2, i * 2 = I2 := ⟨_, rfl⟩
      obtain ⟨A, hA⟩ : ∃ A, i * n = A := ⟨_, rfl⟩
      obtain ⟨D, hD⟩ : ∃ D, i * m = D := ⟨_, rfl⟩
      have hID : I2 * n = D := by rw [← hI2, ← hD, HM.out, Nat.mul_assoc]
      have fA := row_fits HN.out hA hlt
      have fD := row_fits HN2.out hD hlt
      have hA6 : A ≤ 1000000 := by omega
      have hD6 : D ≤ 1000000 := by omega
      have eI : IntKind.i64.wrap ((i : Int) * 2) = (I2 : Int) := by rw [IntWalk.i64_in _ (by omega)]; omega
      have eA := mul_wrapI hA hA6
      have eD := mul_wrapI hID hD6
      have HA := Lib.hid hA
      have HD := Lib.hid hD
      have hD' : D + m ≤ N2 := fD
      clear hA hD hI2 hID
      go_wp2_with fail
      go_loopw [8] (fun jv wr => ∃ j : Nat, j ≤ n ∧ jv = .int .i64 j ∧ DnB b6 g n m N2 N2 [] (augT n X i j) w3 wr) (fun jv _ => n - (intOf jv).toNat)
      case atStart => exact ⟨0, by omega, rfl, H1.out⟩
      case round =>
        clear H1
        obtain ⟨j, hj, rfl, hB⟩ := hrel
        have H2 := Lib.hid hB
        clear hB
        obtain ⟨d0, d1, d2⟩ := heap_cell0 H2.out.box
        obtain ⟨⟨f0, f1, f2⟩, HSX, HRS, HBL⟩ := K3.out _ H2.out.old
        by_cases hlj : j < n
        · obtain ⟨E, hE⟩ : ∃ E, A + j = E := ⟨_, rfl⟩
          obtain ⟨G, hG⟩ : ∃ G, D + j = G := ⟨_, rfl⟩
          obtain ⟨x, hx⟩ : ∃ x, x = X i j := ⟨_, rfl⟩
          have cx : wr.cell? ⟨b, o + E, none⟩ = some (.int .u8 x.toNat) := by
            have := HSX.cell hlt hlj
            rw [HA.out, hE] at this; rw [hx]; exact this
          have u1 : E < N := by omega
          have u2 : G < N2 := by omega
          have hjm : j < m := by omega
          have hE6 : E ≤ 1000000 := by omega
          have hG6 : G ≤ 1000000 := by omega
          have eE := add_wrapI hE hE6
          have eG := add_wrapI hG hG6
          have HG := Lib.hid hG
          have HXX := Lib.hid hx
          clear hE hG hx HSX HRS HBL
          go_wp2_with fail
          refine wp_region_quiet_end (by kernel_rfl) rfl rfl (by kernel_rfl) (by kernel_rfl) (by kernel_rfl) ?_
          simp only [initL, lastL, List.cons_append, List.nil_append, Oper.mute]
          repeat (go_big_quiet_step (fail))
          refine wpQuiet_nil ?_
          rintro _ ⟨nq, rfl⟩
          obtain ⟨w8, hw8⟩ : ∃ w8, w8 = wr.drewN nq := ⟨_, rfl⟩
          have H4 : Hid (DnB b6 g n m N2 N2 [] (augT n X i j) w3 w8) := Lib.hid (by rw [hw8]; exact H2.out.drewN nq)
          rw [← hw8]
          clear hw8 d0 d1 d2 f0 f1 f2 cx H2
          have ct := H4.out.tab.cell' HD.out HG.out hlt hjm
          have fr := free_of_list H4.out.tab.at_ G
          have H5 : Hid (DnB b6 g n m N2 N2 [] (augT n X i (j + 1)) w3 (w8.setCell ⟨g, G, none⟩ (.int .u8 x.toNat))) := Lib.hid (by
            have := H4.out.set' HD.out HG.out hlt hjm x
            rw [HXX.out, augT_step] at this
            rw [HXX.out]; exact this)
          go_simp
          clear eE eG ct fr H4
          go_wp2_with fail
          go_roundw
          case rel => exact ⟨j + 1, by omega, by go_num, H5.out⟩
          case measure => simp [intOf]; omega
        · obtain rfl : j = n := by omega
          obtain ⟨P, hP⟩ : ∃ P, D + j = P := ⟨_, rfl⟩
          obtain ⟨Q, hQ⟩ : ∃ Q, P + i = Q := ⟨_, rfl⟩
          have u2 : Q < N2 := by omega
          have hP6 : P ≤ 1000000 := by omega
          have hQ6 : Q ≤ 1000000 := by omega
          have hjm : j + i < m := by omega
          have hQD : D + (j + i) = Q := by omega
          have eP := add_wrapI hP hP6
          have eQ := add_wrapI hQ hQ6
          have ct := H2.out.tab.cell' HD.out hQD hlt hjm
          have fr := free_of_list H2.out.tab.at_ Q
          have H5 : Hid (DnB b6 g j m N2 N2 [] (augT j X (i + 1) 0) w3 (wr.setCell ⟨g, Q, none⟩ (.int .u8 1))) := Lib.hid (by
            have := H2.out.set' HD.out hQD hlt hjm 1
            exact this.alike (augT_row j m X i))
          clear hP hQ hQD HSX HRS HBL
          go_wp2_with fail
          clear eP eQ ct fr eI eA eD d0 d1 d2 f0 f1 f2
          go_roundw
          case rel => exact ⟨i + 1, by omega, by go_num, H5.out⟩
          case measure => simp [intOf]; omega
    · obtain rfl : i = n := by omega
      obtain ⟨d0, d1, d2⟩ := heap_cell0 H1.out.box
      obtain ⟨_, HSX, HRS, HBL⟩ := K3.out _ H1.out.old
      have H2 : Hid (DnB b6 g i m N2 N2 [] (aug i X) w3 wr) := Lib.hid (H1.out.alike (augT_all _ _ _))
      have HRS' := Lib.hid HRS
      have HBL' := Lib.hid HBL
      clear H1 HSX HRS HBL
      go_wp2_with fail
      refine (HDN.out g (aug i X) _ H2.out.tab.src H2.out.tab.lt).mono ?_
      rintro e w8 ⟨g8, cap8, rfl, hc8, hl8, hS8, hb8⟩
      obtain ⟨k, hk⟩ : ∃ k, rk i i X = k := ⟨_, rfl⟩
      have hkle : k ≤ i := by rw [← hk]; exact rk_le _ _ _
      rw [rk_aug, hk]
      have RS8 := Lib.hid (HRS'.out.below hb8 HRS'.out.lt)
      have BL8 := Lib.hid (HBL'.out.trans (hb8.mono HBL'.out.size))
      have HB8 : Hid (w8.heap[b6]? = some (.cells (tabRow g i m N2).toArray 62 (0, 0))) := Lib.hid ((hb8.block _ (lt_of_heap H2.out.box)).trans H2.out.box)
      have hg8w : w.heap.size + 1 < wr.heap.size := HRS'.out.lt
      have HS8 := Lib.hid hS8
      have hb6l : b6 < wr.heap.size := lt_of_heap H2.out.box
      clear d0 d1 d2 hb8 hS8 HRS' HBL' H2
      by_cases hki : k < i
      · have HKN : Hid (rk i i X ≠ i) := Lib.hid (by omega)
        go_wp2_with (first | (refine wpList_store_whole rfl 62 _ _ rfl b6 [.int .i64 i, .int .i64 m, .slice (some ⟨g8, 0, none⟩) N2 cap8] (tabRow g i m N2) 62 rfl rfl HB8.out rfl (by kernel_rfl) (row3_ones _ _ _ _ _) ?_; intro w9 h9 k9 s9; have RS9 := (Lib.hid (RS8.out.kept k9.out (by omega))); go_frame) | (refine wpList_store_whole rfl 62 _ _ rfl (w.heap.size + 1) zeroRow zeroRow 62 rfl rfl RS9.out rfl (by kernel_rfl) zero_ones ?_; intro w10 h10 k10 s10; go_frame))
        have BL9 := below_kept BL8.out k9.out (by omega) BL8.out.size
        exact bodyPost_ret (results_mid2 Tryz.results27 _ _ (w.heap.size + 1) 0 zeroRow _ rfl (range_of_list h10.out) Tryz.underlying62 rfl (by kernel_rfl)) rfl ⟨.inr ⟨HKN.out, rfl⟩, ret_none BL9 (by omega) k10.out⟩
      · have hki2 : k = i := by omega
        have HKN : Hid (rk i i X = i) := Lib.hid (by omega)
        have hkb : decide ((k : Int) < (i : Int)) = false := decide_eq_false (by omega)
        clear hk hki
        go_wp2_with (first | (refine wpList_store_whole rfl 62 _ _ rfl b6 [.int .i64 i, .int .i64 m, .slice (some ⟨g8, 0, none⟩) N2 cap8] (tabRow g i m N2) 62 rfl rfl HB8.out rfl (by kernel_rfl) (row3_ones _ _ _ _ _) ?_; intro w9 h9 k9 s9; go_frame))
        have RS9 := Lib.hid (RS8.out.kept k9.out (by omega))
        have BL9 := Lib.hid (below_kept BL8.out k9.out (by omega) BL8.out.size)
        have hg8b : g8 ≠ b6 := by
          intro e
          have := HS8.out.cell (i := 0) (j := 0) (by omega) (by omega)
          rw [e, cell_of_list HB8.out] at this
          simp [tabRow, u8v] at this
        have HS9 : Hid (Src g8 0 (red i (aug i X) i).1 i m w9) := Lib.hid (HS8.out.keep (k9.out.block g8 hl8 (by simp; exact hg8b)))
        have hl9 : g8 < w9.heap.size := by have := s9.out; omega
        have HB9 := Lib.hid h9.out
        clear RS8 BL8 HB8 HS8 h9 k9 s9
        refine (nought_any i i N HN.out (by omega) _).mono ?_
        rintro e w10 ⟨g2, hg2, rfl, hT, hb10⟩
        have RS10 := Lib.hid (RS9.out.below hb10 RS9.out.lt)
        have BL10 := Lib.hid (BL9.out.trans (hb10.mono BL9.out.size))
        have HS10 : Hid (Src g8 0 (red i (aug i X) i).1 i m w10) := Lib.hid (HS9.out.keep (hb10.block g8 hl9))
        have HB10 := Lib.hid ((hb10.block _ (lt_of_heap HB9.out)).trans HB9.out)
        have hg2r : w.heap.size + 1 < g2 := Nat.lt_of_lt_of_le RS9.out.lt hg2
        have hg2b : b6 < g2 := Nat.lt_of_lt_of_le (lt_of_heap HB9.out) hg2
        have hg28 : g8 < g2 := Nat.lt_of_lt_of_le hl9 hg2
        have HT := Lib.hid hT
        clear RS9 BL9 HS9 HB9 hb10 hT hg2
        go_wp2_with (refine wpList_store_whole rfl 62 _ _ rfl w10.heap.size (tabRow g2 i i N) zeroRow 62 rfl rfl (heap_alloc_new _ _) rfl (by kernel_rfl) (tabRow_ones _ _ _ _) ?_; intro w11 h11 k11 s11; go_frame)
        obtain ⟨b10, hb10⟩ : ∃ b10, b10 = w10.heap.size := ⟨_, rfl⟩
        have hB11 : Below w10.heap.size w10 w11 := below_kept (below_alloc _ _) k11.out (Nat.le_refl _) (by simp)
        have hT11 : Tab g2 zeroM i i w11 := HT.out.below hB11 HT.out.lt
        have hbg : b10 ≠ g2 := by have := HT.out.lt; omega
        have hgl : g2 < b10 := by have := HT.out.lt; omega
        rw [← hb10] at h11 ⊢
        have D11 : Hid (DnB b10 g2 i i N N [] (fillT (invM i X) 0 0) w11 w11) := Lib.hid ⟨h11.out, by rw [fillT_zero]; exact hT11.ts, Kept.refl _ _ _, hbg⟩
        have RS11 := Lib.hid (RS10.out.below hB11 RS10.out.lt)
        have BL11 := Lib.hid (BL10.out.trans (hB11.mono BL10.out.size))
        have HB11 := Lib.hid ((hB11.block _ (lt_of_heap HB10.out)).trans HB10.out)
        have HS11 : Hid (Src g8 0 (red i (aug i X) i).1 i m w11) := Lib.hid (HS10.out.keep (hB11.block g8 (by omega)))
        have K11 : Hid (∀ v, Kept w11.heap.size [g2] w11 v → (v.cell? ⟨b6, 0, none⟩ = some (.int .i64 i) ∧ v.cell? ⟨b6, 1, none⟩ = some (.int .i64 m) ∧ v.cell? ⟨b6, 2, none⟩ = some (.slice (some ⟨g8, 0, none⟩) N2 cap8)) ∧ Src g8 0 (red i (aug i X) i).1 i m v ∧ ResAt (w.heap.size + 1) 62 v ∧ Below w.heap.size w v) := Lib.hid fun v hv =>
          ⟨heap_cell0 ((hv.block _ (lt_of_heap HB11.out) (by simp; omega)).trans HB11.out), HS11.out.keep (hv.block g8 (by have := hB11.size; omega) (by simp; omega)), (hv.block _ RS11.out.lt (by simp; omega)).trans RS11.out, below_kept BL11.out hv (by omega) BL11.out.size⟩
        have HINV : Hid (∀ a b', (red i (aug i X) i).1 a (i + b') = invM i X a b') := Lib.hid (fun a b' => by unfold invM; rfl)
        clear h11 k11 s11 hB11 hT11 HT RS10 BL10 HB10 HS10 RS11 BL11 HB11 HS11 hb10
        go_loopw [11] (fun pv wr => ∃ p : Nat, p ≤ i ∧ pv = .int .i64 p ∧ DnB b10 g2 i i N N [] (fillT (invM i X) p 0) w11 wr) (fun pv _ => i - (intOf pv).toNat)
        case atStart => exact ⟨0, by omega, rfl, D11.out⟩
        case round =>
          clear D11
          obtain ⟨p, hp, rfl, hB⟩ := hrel
          have H1 := Lib.hid hB
          clear hB
          by_cases hlp : p < i
          · obtain ⟨w13, hw13⟩ : ∃ w13, w13 = wr := ⟨_, rfl⟩
            rw [← hw13] at H1 ⊢
            clear hw13
            obtain ⟨I2, hI2⟩ : ∃ I2, p * 2 = I2 := ⟨_, rfl⟩
            obtain ⟨A, hA⟩ : ∃ A, p * i = A := ⟨_, rfl⟩
            obtain ⟨D, hD⟩ : ∃ D, p * m = D := ⟨_, rfl⟩
            obtain ⟨P, hP⟩ : ∃ P, D + i = P := ⟨_, rfl⟩
            have hID : I2 * i = D := by rw [← hI2, ← hD, HM.out, Nat.mul_assoc]
            have fA := row_fits HN.out hA hlp
            have fD := row_fits HN2.out hD hlp
            have hA6 : A ≤ 1000000 := by omega
            have hD6 : D ≤ 1000000 := by omega
            have hP6 : P ≤ 1000000 := by omega
            have eI : IntKind.i64.wrap ((p : Int) * 2) = (I2 : Int) := by rw [IntWalk.i64_in _ (by omega)]; omega
            have eA := mul_wrapI hA hA6
            have eD := mul_wrapI hID hD6
            have eP := add_wrapI hP hP6
            have HA := Lib.hid hA
            have HD := Lib.hid hD
            have HP := Lib.hid hP
            clear hA hD hI2 hID
            go_wp2_with fail
            go_loopw [12] (fun qv wr => ∃ q : Nat, q ≤ i ∧ qv = .int .i64 q ∧ DnB b10 g2 i i N N [] (fillT (invM i X) p q) w11 wr) (fun qv _ => i - (intOf qv).toNat)
            case atStart => exact ⟨0, by omega, rfl, H1.out⟩
            case round =>
              clear H1
              obtain ⟨q, hq, rfl, hB⟩ := hrel
              have H2 := Lib.hid hB
              clear hB
              obtain ⟨d0, d1, d2⟩ := heap_cell0 H2.out.box
              obtain ⟨⟨f0, f1, f2⟩, HSX, _, _⟩ := K11.out _ H2.out.old
              by_cases hlq : q < i
              · obtain ⟨E, hE⟩ : ∃ E, A + q = E := ⟨_, rfl⟩
                obtain ⟨G, hG⟩ : ∃ G, P + q = G := ⟨_, rfl⟩
                obtain ⟨x, hx⟩ : ∃ x, x = invM i X p q := ⟨_, rfl⟩
                have cx : wr.cell? ⟨g8, G, none⟩ = some (.int .u8 x.toNat) := by
                  have := HSX.cell (i := p) (j := i + q) hlp (by omega)
                  rw [Nat.zero_add, HD.out, HINV.out, show D + (i + q) = G by omega] at this
                  rw [hx]; exact this
                have u1 : E < N := by omega
                have u2 : G < N2 := by omega
                have hE6 : E ≤ 1000000 := by omega
                have hG6 : G ≤ 1000000 := by omega
                have eE := add_wrapI hE hE6
                have eG := add_wrapI hG hG6
                have HE := Lib.hid hE
                have HXX := Lib.hid hx
                clear hE hG hx HSX hP
                go_wp2_with fail
                refine wp_region_quiet_end (by kernel_rfl) rfl rfl (by kernel_rfl) (by kernel_rfl) (by kernel_rfl) ?_
                simp only [initL, lastL, List.cons_append, List.nil_append, Oper.mute]
                repeat (go_big_quiet_step (fail))
                refine wpQuiet_nil ?_
                rintro _ ⟨nq, rfl⟩
                obtain ⟨w14, hw14⟩ : ∃ w14, w14 = wr.drewN nq := ⟨_, rfl⟩
                have H4 : Hid (DnB b10 g2 i i N N [] (fillT (invM i X) p q) w11 w14) := Lib.hid (by rw [hw14]; exact H2.out.drewN nq)
                rw [← hw14]
                clear hw14 d0 d1 d2 f0 f1 f2 cx H2
                have ct := H4.out.tab.cell' HA.out HE.out hlp hlq
                have fr := free_of_list H4.out.tab.at_ E
                have H5 : Hid (DnB b10 g2 i i N N [] (fillT (invM i X) p (q + 1)) w11 (w14.setCell ⟨g2, E, none⟩ (.int .u8 x.toNat))) := Lib.hid (by
                  have := H4.out.set' HA.out HE.out hlp hlq x
                  rw [fillT_step _ _ _ _ HXX.out.symm] at this
                  exact this)
                go_simp
                clear eE eG ct fr H4
                go_wp2_with fail
                go_roundw
                case rel => exact ⟨q + 1, by omega, by go_num, H5.out⟩
                case measure => simp [intOf]; omega
              · obtain rfl : q = i := by omega
                clear d0 d1 d2 f0 f1 f2 HSX
                go_wp2_with fail
                clear eI eA eD eP
                go_roundw
                case rel => exact ⟨p + 1, by omega, by go_num, H2.out.alike (fillT_row _ _ _)⟩
                case measure => simp [intOf]; omega
          · obtain rfl : p = i := by omega
            obtain ⟨d0, d1, d2⟩ := heap_cell0 H1.out.box
            obtain ⟨_, _, HRS, HBL⟩ := K11.out _ H1.out.old
            have RS12 := Lib.hid HRS
            have BL12 := Lib.hid HBL
            clear HRS HBL
            go_wp2_with (refine wpList_store_whole rfl 62 _ _ rfl (w.heap.size + 1) (tabRow g2 p p N) zeroRow 62 rfl rfl RS12.out rfl (by kernel_rfl) (tabRow_ones _ _ _ _) ?_; intro w15 h15 k15 s15; go_frame)
            refine bodyPost_ret (results_mid2 Tryz.results27 _ _ (w.heap.size + 1) 0 (tabRow g2 p p N) _ rfl (range_of_list h15.out) Tryz.underlying62 rfl (by kernel_rfl)) rfl ⟨.inl ⟨HKN.out, g2, rfl, ?_⟩, ret_none BL12.out (by omega) k15.out⟩
            exact (H1.out.alike (fillT_all _ _ _)).tab.tab.keep (k15.out.block _ H1.out.tab.lt (by simp; omega))
end Go.Proofs.YteanbflbclmeeaaGreat

/- The document's own Pick of right matrices. -/
namespace Go.Proofs.YteanbflbclmeeaaGreat
open Go.RowKit

theorem flat_snoc (M : Mat) (i c : Nat) (hc : 1 ≤ c) : flat M (i + 1) c = flat M i c ++ textOf (M i) c := by
  apply List.ext_getElem?
  intro k
  have e : (i + 1) * c = i * c + c := Nat.succ_mul i c
  by_cases h1 : k < i * c
  · rw [flat_some _ _ _ _ (show k < (i + 1) * c by omega), List.getElem?_append_left (by rw [length_flat]; exact h1), flat_some _ _ _ _ h1]
  · by_cases h2 : k < (i + 1) * c
    · obtain ⟨t, ht⟩ : ∃ t, k = i * c + t := ⟨k - i * c, by omega⟩
      have htc : t < c := by omega
      have hd := at_div (i := i) htc
      rw [flat_some _ _ _ _ h2, List.getElem?_append_right (by rw [length_flat]; omega), length_flat, ht, hd.1, hd.2, Nat.add_sub_cancel_left, textOf_get _ _ _ htc]
    · rw [List.getElem?_eq_none (by rw [length_flat]; omega), List.getElem?_eq_none (by rw [List.length_append, length_flat, length_textOf]; omega)]
theorem flat_none (M : Mat) (c : Nat) : flat M 0 c = [] := List.eq_nil_of_length_eq_zero (by rw [length_flat, Nat.zero_mul])
theorem UnS.drewN {b B : Nat} {m c : Int} {v : Value} {l : List UInt8} {wq wr : World} (h : UnS b B m c v l wq wr) (n : Nat) : UnS b B m c v l wq (wr.drewN n) :=
  ⟨h.box, h.own.of_keep fun _ _ _ => rfl, below_drewN h.old n, h.res, h.bB, h.bw, h.le⟩
theorem UnS.drew {b B : Nat} {m c : Int} {v : Value} {l : List UInt8} {wq wr : World} (h : UnS b B m c v l wq wr) : UnS b B m c v l wq wr.drew :=
  ⟨h.box, h.own.of_keep fun _ _ _ => rfl, h.old.drew, h.res, h.bB, h.bw, h.le⟩
set_option maxRecDepth 20000 in
set_option maxHeartbeats 2000000 in
theorem rPick_rows (rn cn b o len cap pb po nr capr k : Nat) (X : Mat) (f : Nat → Int) (p : Nat → Nat) (hr1 : 1 ≤ rn) (hr2 : rn ≤ 255) (hc1 : 1 ≤ cn) (hc2 : cn ≤ 255) (hlen : rn * cn = len) (hcap : len ≤ cap) (hn1 : 1 ≤ nr) (hn2 : nr ≤ 255)
    (hk : k ≤ nr) (hp : ∀ j, j < k → f j = (p j : Int) ∧ p j < rn) (hbad : k < nr → f k < 0 ∨ (rn : Int) ≤ f k)
    (w : World) (hX : Src b o X rn cn w) (hbl : b < w.heap.size) (h : Ints pb po nr f w) (hpl : pb < w.heap.size) :
    Calls Tryz.prog 25 #[.agg #[.int .i64 rn, .int .i64 cn, .slice (some ⟨b, o, none⟩) len cap], .slice (some ⟨pb, po, none⟩) nr capr] w fun e w' => ((k = nr ∧ ∃ g cap2, e = .returned (.tuple #[.agg #[.int .i64 nr, .int .i64 cn, .slice (some ⟨g, 0, none⟩) (nr * cn) cap2], .int .i64 0]) ∧ Hand (some ⟨g, 0, none⟩) (nr * cn) cap2 (flat (pickM X p) nr cn) w') ∨ (k < nr ∧ e = .returned (.tuple #[noneV, .int .i64 1]))) ∧ Below w.heap.size w w' := by
  have hr : rightB rn cn len = true := by rw [rightB_eq]; exact decide_eq_true ⟨by omega, by omega, by omega, by omega, by rw [← hlen]; simp⟩
  have hlm : len ≤ 65025 := by rw [← hlen]; exact Nat.mul_le_mul hr2 hc2
  have q1 : decide ((nr : Int) < 1) = false := decide_eq_false (by omega)
  have q2 : decide ((255 : Int) < (nr : Int)) = false := decide_eq_false (by omega)
  obtain ⟨wq, hwq⟩ : ∃ wq, wq = w.alloc (.cells #[.int .i64 rn, .int .i64 cn, .slice (some ⟨b, o, none⟩) len cap] 62) := ⟨_, rfl⟩
  have hbq : Below w.heap.size w wq := by rw [hwq]; exact below_alloc w _
  have hsz : wq.heap.size = w.heap.size + 1 := by rw [hwq]; simp
  have hpre : wq.heap[w.heap.size]? = some (.cells [Value.int .i64 rn, .int .i64 cn, .slice (some ⟨b, o, none⟩) len cap].toArray 62 (0, 0)) := by rw [hwq]; exact heap_alloc_new _ _
  obtain ⟨wz, hwz⟩ : ∃ wz, wz = wq.alloc (.cells #[.int .i64 0, .int .i64 0, .slice none 0 0] 62) := ⟨_, rfl⟩
  have BZ : Hid (Below wq.heap.size wq wz) := Lib.hid (by rw [hwz]; exact below_alloc _ _)
  have RZ : Hid (ResAt wq.heap.size 62 wz) := Lib.hid (by rw [hwz]; exact heap_alloc_new _ _)
  have HSZ := Lib.hid hsz
  have HBQ := Lib.hid hbq
  have HLEN := Lib.hid hlen
  have HP := Lib.hid hp
  have HBAD := Lib.hid hbad
  have HWA : Hid (wz = (w.alloc (.cells #[.int .i64 rn, .int .i64 cn, .slice (some ⟨b, o, none⟩) len cap] 62)).alloc (.cells #[.int .i64 0, .int .i64 0, .slice none 0 0] 62)) := Lib.hid (by rw [hwz, hwq])
  have KC : Hid (∀ v, Below wq.heap.size wq v → v.cell? ⟨w.heap.size, 0, none⟩ = some (.int .i64 rn) ∧ v.cell? ⟨w.heap.size, 1, none⟩ = some (.int .i64 cn) ∧ v.cell? ⟨w.heap.size, 2, none⟩ = some (.slice (some ⟨b, o, none⟩) len cap)) :=
    Lib.hid fun v hv => heap_cell0 ((hv.block _ (by omega)).trans hpre)
  have KX : Hid (∀ v, Below wq.heap.size wq v → Src b o X rn cn v ∧ Ints pb po nr f v) :=
    Lib.hid fun v hv => ⟨hX.keep ((hv.block b (by omega)).trans (hbq.block b hbl)), h.keep ((hv.block pb (by omega)).trans (hbq.block pb hpl))⟩
  clear hwq hwz hbq hsz hpre hX h hlen hp hbad
  obtain ⟨d0, d1, d2⟩ := KC.out _ BZ.out
  go_enter Tryz.func25, Tryz.ntmps25
  go_wp2_with fail
  rw [← HWA.out]
  clear HWA
  go_wp2_with fail
  refine (rRight_any rn cn _ len cap _).mono ?_
  rintro e w1 ⟨rfl, hb1⟩
  rw [hr]
  have B1 := Lib.hid (BZ.out.trans (hb1.mono BZ.out.size))
  have R1 := Lib.hid (RZ.out.below hb1 RZ.out.lt)
  clear hb1 BZ RZ d0 d1 d2
  obtain ⟨d0, d1, d2⟩ := KC.out _ B1.out
  go_wp2_with (refine wpList_store_whole rfl 62 _ _ rfl w1.heap.size [.int .i64 nr, .int .i64 cn, .slice none 0 0] zeroRow 62 rfl rfl (heap_alloc_new _ _) rfl (by kernel_rfl) (row3_ones _ _ _ _ _) ?_; intro w3 h3 k3 s3; go_frame)
  have U3 : Hid (UnS w1.heap.size w3.heap.size nr cn (.slice none 0 0) [] wq w3) := (Lib.hid (have hb := (below_kept (below_alloc w1 _) k3.out (Nat.le_refl _) (by simp) : Below w1.heap.size w1 w3); ⟨h3.out, OwnB.nil _ _, B1.out.trans (hb.mono B1.out.size), R1.out.below hb R1.out.lt, by have := s3.out; simp at this; omega, R1.out.lt, Nat.le_refl _⟩))
  obtain ⟨b7, hb7⟩ : ∃ b7, b7 = w1.heap.size := ⟨_, rfl⟩
  obtain ⟨B, hB⟩ : ∃ B, B = w3.heap.size := ⟨_, rfl⟩
  rw [← hb7, ← hB] at U3
  rw [← hb7]
  clear h3 k3 s3 B1 R1 d0 d1 d2 hb7 hB
  go_loopw [8] (fun iv wr => ∃ i : Nat, i ≤ k ∧ iv = .int .i64 i ∧ ∃ vc, UnS b7 B nr cn vc (flat (pickM X p) i cn) wq wr) (fun iv _ => nr - (intOf iv).toNat)
  case atStart => exact ⟨0, by omega, rfl, _, by rw [flat_none]; exact U3.out⟩
  case round =>
    clear U3
    obtain ⟨i, hi, rfl, vc, hU⟩ := hrel
    have H1 := Lib.hid hU
    clear hU
    obtain ⟨d0, d1, d2⟩ := KC.out _ H1.out.old
    obtain ⟨f0, f1, f2⟩ := heap_cell0 H1.out.box
    by_cases hik : i < k
    · have hin : i < nr := by omega
      obtain ⟨q, hq⟩ : ∃ q, q = p i := ⟨_, rfl⟩
      have hqr : q < rn := by rw [hq]; exact (HP.out i hik).2
      have cr : wr.cell? ⟨pb, po + i, none⟩ = some (.int .i64 q) := by
        have := (KX.out _ H1.out.old).2 i hin
        rw [(HP.out i hik).1] at this; rw [hq]; exact this
      have g1 : decide ((q : Int) < 0) = false := decide_eq_false (by omega)
      have g2 : decide (rn ≤ q) = false := decide_eq_false (by omega)
      have HQ := Lib.hid hq
      clear hq
      go_wp2_with fail
      go_quiet (fail)
      rename_i nq
      obtain ⟨w5, hw5⟩ : ∃ w5, w5 = wr.drewN nq := ⟨_, rfl⟩
      have H5 : Hid (UnS b7 B nr cn vc (flat (pickM X p) i cn) wq w5) := Lib.hid (by rw [hw5]; exact H1.out.drewN nq)
      rw [← hw5]
      clear hw5 d0 d1 d2 f0 f1 f2 cr H1
      obtain ⟨A, hA⟩ : ∃ A, q * cn = A := ⟨_, rfl⟩
      obtain ⟨Z, hZ⟩ : ∃ Z, (q + 1) * cn = Z := ⟨_, rfl⟩
      obtain ⟨q1, hq1⟩ : ∃ q1, q + 1 = q1 := ⟨_, rfl⟩
      have hAZ : A + cn = Z := by rw [← hA, ← hZ, Nat.succ_mul]
      have fA := row_fits HLEN.out hA hqr
      have hZc : Z ≤ cap := by omega
      have hAZ1 : A ≤ Z := by omega
      have hcA : ¬ cap = A := by omega
      have hA6 : A ≤ 1000000 := by omega
      have hZ6 : Z ≤ 1000000 := by omega
      have HL : Hid ((textOf (X q) cn).length = Z - A) := Lib.hid (by rw [length_textOf]; omega)
      have HNW : Hid (∀ v, Below wq.heap.size wq v → ∀ j u, ((textOf (X q) cn).map u8v)[j]? = some u → v.cell? ((⟨b, o + A, none⟩ : Addr).add j) = some u) := Lib.hid (fun v hv j u hu => by
        have := ((KX.out v hv).1.row hqr) j u hu
        rw [hA] at this
        rw [Addr.add_mid]; exact this)
      have hfl : (flat (pickM X p) i cn).length ≤ 65025 := by rw [length_flat]; exact Nat.mul_le_mul (show i ≤ 255 by omega) hc2
      have hmx : (flat (pickM X p) i cn).length + (Z - A) ≤ 1000000 := by omega
      have hpos : 0 < (flat (pickM X p) i cn ++ textOf (X q) cn).length := by rw [List.length_append, length_textOf]; omega
      have HSN : Hid (flat (pickM X p) i cn ++ textOf (X q) cn = flat (pickM X p) (i + 1) cn) := Lib.hid (by rw [flat_snoc _ _ _ hc1]; show _ = _ ++ textOf (X (p i)) cn; rw [← HQ.out])
      have SK : ∀ v, Below wq.heap.size wq v → v.cell? ⟨w.heap.size, 2, none⟩ = some (.slice (some ⟨b, o, none⟩) len cap) ∧ v.cell? ⟨w.heap.size, 1, none⟩ = some (.int .i64 cn) ∧ v.cell? ⟨pb, po + i, none⟩ = some (.int .i64 q) := fun v hv => ⟨(KC.out v hv).2.2, (KC.out v hv).2.1, by
        have := (KX.out v hv).2 i hin
        rw [(HP.out i hik).1] at this; rw [HQ.out]; exact this⟩
      have S5 := SK w5.drew H5.out.old.drew
      have f2 := (heap_cell0 H5.out.drew.box).2.2
      obtain ⟨L6, hL6⟩ : ∃ L6, (flat (pickM X p) i cn ++ textOf (X q) cn).length = L6 := ⟨_, rfl⟩
      have HL6 := Lib.hid hL6
      have HSK := Lib.hid SK
      have e1 : IntKind.i64.wrap ((q : Int) + 1) = (q1 : Int) := by rw [IntWalk.i64_in _ (by omega)]; omega
      have eA := mul_wrapI hA hA6
      have eZ := mul_wrapI (show q1 * cn = Z by rw [← hq1]; exact hZ) hZ6
      clear hA hZ hq1 hAZ SK g1 g2 hL6
      go_wp2_with fail
      refine wp_region_held_drew (S := fun v => v.cell? ⟨w.heap.size, 2, none⟩ = some (.slice (some ⟨b, o, none⟩) len cap) ∧ v.cell? ⟨w.heap.size, 1, none⟩ = some (.int .i64 cn) ∧ v.cell? ⟨pb, po + i, none⟩ = some (.int .i64 q)) (by kernel_rfl) S5 (fun hHeld => ?_)
      refine wpAnyH_take (i := 0) (oi := _) (v := ?_) rfl (by kernel_rfl) (by kernel_rfl) (by kernel_rfl) (fun _ _ _ h => h) (Or.inl ⟨by rfl, ?_⟩) hHeld ?_
      rotate_left
      · intro w hSw
        try dsimp only at hSw
        first | (go_simp; done) | (go_simp; with_reducible rfl)
      try simp only [Act.put, List.setIfInBounds_toArray]
      refine wpAnyH_take (i := 2) (oi := _) (v := ?_) rfl (by kernel_rfl) (by kernel_rfl) (by kernel_rfl) (fun _ _ _ h => h) (Or.inl ⟨by rfl, ?_⟩) hHeld ?_
      rotate_left
      · intro w hSw
        try dsimp only at hSw
        first | (go_simp; done) | (go_simp; with_reducible rfl)
      try simp only [Act.put]
      refine wpAnyH_take (i := 3) (oi := _) (v := ?_) rfl (by kernel_rfl) (by kernel_rfl) (by kernel_rfl) (fun _ _ _ h => h) (Or.inl ⟨by rfl, ?_⟩) hHeld ?_
      rotate_left
      · intro w hSw
        try dsimp only at hSw
        first | (go_simp; done) | (go_simp; with_reducible rfl)
      try simp only [Act.put]
      refine wpAnyH_take (i := 4) (oi := _) (v := ?_) rfl (by kernel_rfl) (by kernel_rfl) (by kernel_rfl) (fun _ _ _ h => h) (Or.inl ⟨by rfl, ?_⟩) hHeld ?_
      rotate_left
      · intro w hSw
        try dsimp only at hSw
        first | (go_simp; done) | (go_simp; with_reducible rfl)
      try simp only [Act.put]
      refine wpAnyH_take (i := 5) (oi := _) (v := ?_) rfl (by kernel_rfl) (by kernel_rfl) (by kernel_rfl) (fun _ _ _ h => h) (Or.inl ⟨by rfl, ?_⟩) hHeld ?_
      rotate_left
      · intro w hSw
        try dsimp only at hSw
        first | (go_simp; done) | (go_simp; with_reducible rfl)
      try simp only [Act.put]
      refine wpAnyH_take (i := 6) (oi := _) (v := ?_) rfl (by kernel_rfl) (by kernel_rfl) (by kernel_rfl) (fun _ _ _ h => h) (Or.inl ⟨by rfl, ?_⟩) hHeld ?_
      rotate_left
      · intro w hSw
        try dsimp only at hSw
        first | (go_simp; done) | (go_simp; with_reducible rfl)
      try simp only [Act.put]
      refine wpAnyH_take (i := 7) (oi := _) (v := ?_) rfl (by kernel_rfl) (by kernel_rfl) (by kernel_rfl) (fun _ _ _ h => h) (Or.inl ⟨by rfl, ?_⟩) hHeld ?_
      rotate_left
      · intro w hSw
        try dsimp only at hSw
        first | (go_simp; done) | (go_simp; with_reducible rfl)
      try simp only [Act.put]
      refine wpAnyH_take (i := 8) (oi := _) (v := ?_) rfl (by kernel_rfl) (by kernel_rfl) (by kernel_rfl) (fun _ _ _ h => h) (Or.inl ⟨by rfl, ?_⟩) hHeld ?_
      rotate_left
      · intro w hSw
        try dsimp only at hSw
        first | (go_simp; done) | (go_simp; with_reducible rfl)
      try simp only [Act.put]
      refine wpAnyH_take (i := 9) (oi := _) (v := ?_) rfl (by kernel_rfl) (by kernel_rfl) (by kernel_rfl) (fun _ _ _ h => h) (Or.inl ⟨by rfl, ?_⟩) hHeld ?_
      rotate_left
      · intro w hSw
        try dsimp only at hSw
        first | (go_simp; done) | (go_simp; with_reducible rfl)
      try simp only [Act.put]
      refine wpAnyH_take (i := 10) (oi := _) (v := ?_) rfl (by kernel_rfl) (by kernel_rfl) (by kernel_rfl) (fun _ _ _ h => h) (Or.inl ⟨by rfl, ?_⟩) hHeld ?_
      rotate_left
      · intro w hSw
        try dsimp only at hSw
        first | (go_simp; done) | (go_simp; with_reducible rfl)
      try simp only [Act.put]
      refine wpAnyH_take (i := 11) (oi := _) (v := ?_) rfl (by kernel_rfl) (by kernel_rfl) (by kernel_rfl) (fun _ _ _ h => h) (Or.inl ⟨by rfl, ?_⟩) hHeld ?_
      rotate_left
      · intro w hSw
        try dsimp only at hSw
        first | (go_simp; done) | (go_simp; with_reducible rfl)
      try simp only [Act.put]
      refine wpAnyH_take (i := 12) (oi := _) (v := ?_) rfl (by kernel_rfl) (by kernel_rfl) (by kernel_rfl) (fun _ _ _ h => h) (Or.inl ⟨by rfl, ?_⟩) hHeld ?_
      rotate_left
      · intro w hSw
        try dsimp only at hSw
        first | (go_simp; done) | (go_simp; with_reducible rfl)
      try simp only [Act.put]
      refine wpAnyH_take (i := 13) (oi := _) (v := ?_) rfl (by kernel_rfl) (by kernel_rfl) (by kernel_rfl) (fun _ _ _ h => h) (Or.inl ⟨by rfl, ?_⟩) hHeld ?_
      rotate_left
      · intro w hSw
        try dsimp only at hSw
        first | (go_simp; done) | (go_simp; with_reducible rfl)
      try simp only [Act.put]
      refine wpAnyH_take (i := 14) (oi := _) (v := ?_) rfl (by kernel_rfl) (by kernel_rfl) (by kernel_rfl) (fun _ _ _ h => h) (Or.inl ⟨by rfl, ?_⟩) hHeld ?_
      rotate_left
      · intro w hSw
        try dsimp only at hSw
        first | (go_simp; done) | (go_simp; with_reducible rfl)
      try simp only [Act.put]
      refine wpAnyH_take (i := 15) (oi := _) (v := ?_) rfl (by kernel_rfl) (by kernel_rfl) (by kernel_rfl) (fun _ _ _ h => h) (Or.inl ⟨by rfl, ?_⟩) hHeld ?_
      rotate_left
      · intro w hSw
        try dsimp only at hSw
        first | (go_simp; done) | (go_simp; with_reducible rfl)
      try simp only [Act.put]
      refine wpAnyH_take (i := 16) (oi := _) (v := ?_) rfl (by kernel_rfl) (by kernel_rfl) (by kernel_rfl) (fun _ _ _ h => h) (Or.inl ⟨by rfl, ?_⟩) hHeld ?_
      rotate_left
      · intro w hSw
        try dsimp only at hSw
        first | (go_simp; done) | (go_simp; with_reducible rfl)
      try simp only [Act.put]
      refine wpAnyH_take (i := 17) (oi := _) (v := ?_) rfl (by kernel_rfl) (by kernel_rfl) (by kernel_rfl) (fun _ _ _ h => h) (Or.inl ⟨by rfl, ?_⟩) hHeld ?_
      rotate_left
      · intro w hSw
        try dsimp only at hSw
        first | (go_simp; done) | (go_simp; with_reducible rfl)
      try simp only [Act.put]
      refine wpAnyH_take (i := 18) (oi := _) (v := ?_) rfl (by kernel_rfl) (by kernel_rfl) (by kernel_rfl) (fun _ _ _ h => h) (Or.inl ⟨by rfl, ?_⟩) hHeld ?_
      rotate_left
      · intro w hSw
        try dsimp only at hSw
        first | (go_simp; done) | (go_simp; with_reducible rfl)
      try simp only [Act.put]
      refine wpAnyH_take (i := 19) (oi := _) (v := ?_) rfl (by kernel_rfl) (by kernel_rfl) (by kernel_rfl) (fun _ _ _ h => h) (Or.inl ⟨by rfl, ?_⟩) hHeld ?_
      rotate_left
      · intro w hSw
        try dsimp only at hSw
        first | (go_simp; done) | (go_simp; with_reducible rfl)
      try simp only [Act.put]
      refine wpAnyH_ready (rs := [1]) (by kernel_rfl) (by simp) ?_
      refine AllReadyH.cons (o := _) rfl (fun K hK => ?_) AllReadyH.nil
      go_simp
      refine hK.out _ _ S5 (fun hHeld => ?_)
      clear hK K
      try simp only [Act.put, List.setIfInBounds_toArray, List.set_cons_zero, List.set_cons_succ]
      refine wpAnyH_ready (rs := [20]) (by kernel_rfl) (by simp) ?_
      refine AllReadyH.cons (o := _) rfl (fun K hK => ?_) AllReadyH.nil
      refine step_append_bytes rfl (.tmp 51) (.tmp 69) rfl B vc (flat (pickM X p) i cn) rfl H5.out.drew.own ⟨b, o + A, none⟩ (Z - A) (cap - A) (textOf (X q) cn) rfl HL.out (HNW.out _ H5.out.old.drew) hmx H5.out.drew.le (some 70) rfl ?_
      intro v6 w6 ho6 hg6
      obtain ⟨g6, cap6, hv6, hc6, hgl6, hl6⟩ := ho6.out.form hpos
      rw [HL6.out] at hv6
      subst hv6
      have U6 := Lib.hid (H5.out.drew.step ho6.out hg6.out)
      have S6 := HSK.out w6 U6.out.2.2
      have c6 := (heap_cell0 U6.out.2.1).2.2
      have S7 := HSK.out _ U6.out.1.old
      have ff := free_of_list U6.out.2.1 2
      refine hK.out _ _ S6 (fun hHeld => ?_)
      clear hK K
      try simp only [Act.put, List.setIfInBounds_toArray, List.set_cons_zero, List.set_cons_succ]
      refine wpAnyH_take (i := 21) (oi := _) (v := ?_) rfl (by kernel_rfl) (by kernel_rfl) (by kernel_rfl) (fun _ _ _ h => h) (Or.inl ⟨by rfl, ?_⟩) hHeld ?_
      rotate_left
      · intro w hSw
        try dsimp only at hSw
        first | (go_simp; done) | (go_simp; with_reducible rfl)
      try simp only [Act.put, List.setIfInBounds_toArray]
      refine wpAnyH_ready (rs := [22]) (by kernel_rfl) (by simp) ?_
      refine AllReadyH.cons (o := _) rfl (fun K hK => ?_) AllReadyH.nil
      go_simp
      refine hK.out _ _ S7 (fun hHeld => ?_)
      clear hK K hHeld
      try simp only [Act.put, List.setIfInBounds_toArray, List.set_cons_zero, List.set_cons_succ]
      refine wpAnyH_done (by kernel_rfl) ?_ _
      clear e1 eA eZ f2 c6 ff S5 S6 S7
      go_wp2_with fail
      go_roundw
      case rel => exact ⟨i + 1, by omega, by go_num, _, by rw [← HSN.out]; exact U6.out.1⟩
      case measure => simp [intOf]; omega
    · obtain rfl : i = k := by omega
      by_cases hkn : i < nr
      · have cr : wr.cell? ⟨pb, po + i, none⟩ = some (.int .i64 (f i)) := (KX.out _ H1.out.old).2 i hkn
        obtain ⟨x, hx⟩ : ∃ x, x = f i := ⟨_, rfl⟩
        rw [← hx] at cr
        have hb := HBAD.out hkn
        rw [← hx] at hb
        clear hx
        by_cases h0 : x < 0
        · have g1 : decide (x < 0) = true := decide_eq_true h0
          go_wp2_with fail
          go_quiet (fail)
          rename_i nq
          obtain ⟨w5, hw5⟩ : ∃ w5, w5 = wr.drewN nq := ⟨_, rfl⟩
          have H5 : Hid (UnS b7 B nr cn vc (flat (pickM X p) i cn) wq w5) := Lib.hid (by rw [hw5]; exact H1.out.drewN nq)
          have RS : Hid (ResAt (w.heap.size + 1) 62 w5) := Lib.hid (by rw [← HSZ.out]; exact H5.out.res)
          rw [← hw5]
          clear hw5 d0 d1 d2 f0 f1 f2 cr H1 g1
          go_wp2_with (refine wpList_store_whole rfl 62 _ _ rfl (w.heap.size + 1) zeroRow zeroRow 62 rfl rfl RS.out rfl (by kernel_rfl) zero_ones ?_; intro w9 h9 k9 s9; go_frame)
          exact bodyPost_ret (results_mid2 Tryz.results25 _ _ (w.heap.size + 1) 0 zeroRow _ rfl (range_of_list h9.out) Tryz.underlying62 rfl (by kernel_rfl)) rfl ⟨.inr ⟨hkn, rfl⟩, ret_none (HBQ.out.trans (H5.out.old.mono HBQ.out.size)) (by omega) k9.out⟩
        · have g1 : decide (x < 0) = false := decide_eq_false h0
          have g2 : decide ((rn : Int) ≤ x) = true := decide_eq_true (by omega)
          go_wp2_with fail
          go_quiet (fail)
          rename_i nq
          obtain ⟨w5, hw5⟩ : ∃ w5, w5 = wr.drewN nq := ⟨_, rfl⟩
          have H5 : Hid (UnS b7 B nr cn vc (flat (pickM X p) i cn) wq w5) := Lib.hid (by rw [hw5]; exact H1.out.drewN nq)
          have RS : Hid (ResAt (w.heap.size + 1) 62 w5) := Lib.hid (by rw [← HSZ.out]; exact H5.out.res)
          rw [← hw5]
          clear hw5 d0 d1 d2 f0 f1 f2 cr H1 g1 g2
          go_wp2_with (refine wpList_store_whole rfl 62 _ _ rfl (w.heap.size + 1) zeroRow zeroRow 62 rfl rfl RS.out rfl (by kernel_rfl) zero_ones ?_; intro w9 h9 k9 s9; go_frame)
          exact bodyPost_ret (results_mid2 Tryz.results25 _ _ (w.heap.size + 1) 0 zeroRow _ rfl (range_of_list h9.out) Tryz.underlying62 rfl (by kernel_rfl)) rfl ⟨.inr ⟨hkn, rfl⟩, ret_none (HBQ.out.trans (H5.out.old.mono HBQ.out.size)) (by omega) k9.out⟩
      · obtain rfl : i = nr := by omega
        have hl : (flat (pickM X p) i cn).length = i * cn := length_flat _ _ _
        have hpos : 0 < i * cn := Nat.mul_pos (by omega) (by omega)
        obtain ⟨g9, cap9, hv9, hc9, hgl9, hl9⟩ := H1.out.own.form (by rw [hl]; exact hpos)
        rw [hl] at hv9 hc9
        obtain ⟨L, hL⟩ : ∃ L, i * cn = L := ⟨_, rfl⟩
        rw [hL] at hv9 hc9 hl
        subst hv9
        have HLE := Lib.hid hL
        have RS : Hid (ResAt (w.heap.size + 1) 62 wr) := Lib.hid (by rw [← HSZ.out]; exact H1.out.res)
        have HL := Lib.hid hl
        have hbB := H1.out.bB
        have hbw := H1.out.bw
        have hsz := HSZ.out
        clear hl hpos hL
        go_wp2_with (refine wpList_store_whole rfl 62 _ _ rfl (w.heap.size + 1) [.int .i64 i, .int .i64 cn, .slice (some ⟨g9, 0, none⟩) L cap9] zeroRow 62 rfl rfl RS.out rfl (by kernel_rfl) (row3_ones _ _ _ _ _) ?_; intro w9 h9 k9 s9; go_frame)
        refine bodyPost_ret (results_mid2 Tryz.results25 _ _ (w.heap.size + 1) 0 [.int .i64 i, .int .i64 cn, .slice (some ⟨g9, 0, none⟩) L cap9] _ rfl (range_of_list h9.out) Tryz.underlying62 rfl (by kernel_rfl)) rfl ⟨⟨g9, cap9, by rw [HLE.out]; rfl, ?_⟩, ret_none (HBQ.out.trans (H1.out.old.mono HBQ.out.size)) (by omega) k9.out⟩
        rw [HLE.out]
        refine ⟨HL.out, hc9, fun _ => ⟨g9, 0, rfl, ?_, fun j u hu => ?_⟩⟩
        · have := s9.out; omega
        · have := World.ownsRow.cells H1.out.own (g := g9) rfl j u hu
          rw [Addr.add_mid] at this
          exact (World.cell?_of_block (a := ⟨g9, 0 + j, none⟩) (k9.out.block g9 hl9 (by simp; omega))).trans this
end Go.Proofs.YteanbflbclmeeaaGreat

