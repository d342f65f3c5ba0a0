/- The walk of the document's own SHA-256. -/
import Derived.Test.YtdimkgidaioolaaRSumL
namespace Go.Proofs.Ytdimkgidaioolaa
open Go.RowKit

theorem wpList_build_vals {P : Program} {w : World} {ops : Array Oper} {rest : List Oper} {o : Oper} {a : Act} {Q : Exit → Act → World → Prop} (hgd : o.guard = none) (T : TypeId) (parts : Array (Nat × Operand)) (ho : o.op = .build T parts) (vs : Array (Nat × Value)) (cs : List Value)
    (hv : parts.map (fun (i, x) => (i, a.eval x)) = vs)
    (hz : ∀ w, (Instr.build T vs).run P w = .ok (.agg cs.toArray) w)
    (h : wpList P ops Q rest (a.put o.dst (.agg cs.toArray)) w) : wpList P ops Q (o :: rest) a w :=
  wpList_build hgd T parts ho cs (by rw [hv]; exact hz w) h
theorem build8 (x0 x1 x2 x3 x4 x5 x6 x7 : UInt32) (w : World) : (Instr.build 80 #[(0, u32v x0), (1, u32v x1), (2, u32v x2), (3, u32v x3), (4, u32v x4), (5, u32v x5), (6, u32v x6), (7, u32v x7)]).run Try.prog w = .ok (.agg ([x0, x1, x2, x3, x4, x5, x6, x7].map u32v).toArray) w := by kernel_rfl
theorem sched_eq {x1 x2 x3 x4 nv : UInt32} (h : Dig.ad (Dig.ad (Dig.ad x3 (Dig.xr (Dig.xr (Dig.rotl x1 (rn (-7))) (Dig.rotl x1 (rn (-18)))) (Dig.shr x1 3))) x4) (Dig.xr (Dig.xr (Dig.rotl x2 (rn (-17))) (Dig.rotl x2 (rn (-19)))) (Dig.shr x2 10)) = nv) :
    nv = Dig.ad (Dig.ad (Dig.ad (Dig.near x2) x4) (Dig.far x1)) x3 := by
  have e1 : Dig.xr (Dig.xr (Dig.rotl x1 (rn (-7))) (Dig.rotl x1 (rn (-18)))) (Dig.shr x1 3) = Dig.far x1 := by rw [Dig.far_eq]; rfl
  have e2 : Dig.xr (Dig.xr (Dig.rotl x2 (rn (-17))) (Dig.rotl x2 (rn (-19)))) (Dig.shr x2 10) = Dig.near x2 := by rw [Dig.near_eq]; rfl
  rw [e1, e2] at h
  rw [← h]
  simp only [Dig.ad_eq]
  ac_rfl
attribute [local go_sem] go_add go_add' go_xor go_and go_not go_not' go_nt_r u32_signed fold_shr10 fold_shr3
set_option maxRecDepth 100000 in
set_option maxHeartbeats 40000000 in
theorem rsum_any (s : ByteArray) (hs : s.size ≤ 140737488355200) (w : World) :
    Calls Try.prog 43 #[.string s, .agg rW.toArray] w fun e w' => e = .returned (.string ⟨(Dig.sum256 s.data.toList).toArray⟩) ∧ Below w.heap.size w w' := by
  obtain ⟨i0, hi, hz0, hz1, hz2⟩ := info_parts d_infoByte
  obtain ⟨l, hl⟩ : ∃ l, l = s.data.toList := ⟨_, rfl⟩
  have hlen : l.length = s.size := by rw [hl]; exact size_toList s
  have HL := Lib.hid hl
  have HLEN := Lib.hid hlen
  rw [← hl]
  clear hl hlen
  have hk8 : (Dig.h256.map u32v).length = 8 := by rw [List.length_map, Dig.length_h256]
  have g0 : ∀ w : World, (w.alloc (.cells rW.toArray 83)).heap[w.heap.size]? = some (.cells ([] ++ (Dig.h256.map u32v ++ Dig.k256.map u32v)).toArray 83 (0, 0)) := fun w => by rw [rW_eq]; exact heap_alloc_new w _
  go_enter Try.func43, Try.ntmps43
  go_wp2_with (first | (refine wpList_box rfl 83 _ rfl rW rfl ?_; go_frame; (try simp only [World.size_alloc])) | (refine wpList_load_mid rfl 80 _ rfl _ _ rfl _ _ (range_part (g0 w) rfl) Try.underlying80 rfl (by rw [hk8]; kernel_rfl) ?_) | (refine wpList_alloc rfl 80 rfl (zeros 8) alloc8u ?_; go_frame; (try simp only [World.size_alloc])) | (refine wpList_store_new rfl 80 _ _ rfl (w.heap.size + 1) (Dig.h256.map u32v) (zeros 8) 80 rfl rfl (heap_alloc2_new _ _ _) (by rw [hk8, length_zeros]) (by rw [hk8]; kernel_rfl) (u32_ones _) ?_; go_frame) | (go_at_call 51; fail))
  obtain ⟨w3, hw3⟩ : ∃ w3, w3 = (((w.alloc (.cells rW.toArray 83)).alloc (.cells (zeros 8).toArray 80)).setCells (w.heap.size + 1) 0 (Dig.h256.map u32v)) := ⟨_, rfl⟩
  rw [← hw3]
  have hz3 : w3.heap.size = w.heap.size + 2 := by rw [hw3, setCells_size]; simp
  have hC3 : w3.heap[w.heap.size]? = some (.cells ([] ++ (Dig.h256.map u32v ++ Dig.k256.map u32v)).toArray 83 (0, 0)) := by
    rw [hw3, setCells_other (by omega), heap_alloc_old _ _ (by simp)]; exact g0 w
  have hH3 : w3.heap[w.heap.size + 1]? = some (.cells (Dig.h256.map u32v).toArray 80 (0, 0)) := by
    rw [hw3, setCells_list _ _ _ _ (heap_alloc2_new _ _ _), laid_whole _ _ (by rw [hk8, length_zeros])]
  have hB3 : Below w.heap.size w w3 := by
    rw [hw3]; exact below_setCells (((Below.refl _ _).alloc (Nat.le_refl _) _).alloc (by simp) _) (by omega) _ _
  clear hw3 g0
  refine (rpadded_any s true (by omega) w3).mono ?_
  rw [← HL.out]
  rintro e w4 ⟨g, cap, rfl, hR4, hb4⟩
  obtain ⟨P, hP⟩ : ∃ P, P = Dig.padded (!true) l := ⟨_, rfl⟩
  obtain ⟨N, hN⟩ : ∃ N, N = P.length := ⟨_, rfl⟩
  have h64 : N % 64 = 0 := by rw [hN, hP]; exact Dig.length_padded _ _
  rw [← hP, ← hN] at hR4 ⊢
  rw [hz3] at hR4
  have hS4 : SumS w w.heap.size g N cap P (Dig.fold Dig.turn256 Dig.h256 (P.take (64 * 0))) w4 :=
    ⟨by rw [hb4.block _ (by omega)]; exact hC3, by rw [hb4.block _ (by omega), Nat.mul_zero, List.take_zero, Dig.fold_nil]; exact hH3, hR4.out, hB3.trans (hb4.mono (by omega))⟩
  have HP := Lib.hid hP
  have HN := Lib.hid hN
  have hNle : N ≤ 140737488355328 := by rw [hN, hP, Dig.padded_eq, List.length_append]; have := Dig.length_closing (!true) l.length; have := HLEN.out; omega
  clear hP hN hR4 hb4 hC3 hH3 hB3
  go_wp2_with fail
  go_loopw [7] (fun a wr => ∃ j : Nat, 64 * j ≤ N ∧ a = .int .i64 (64 * j : Nat) ∧ SumS w w.heap.size g N cap P (Dig.fold Dig.turn256 Dig.h256 (P.take (64 * j))) wr) (fun a _ => N - (intOf a).toNat)
  case atStart => exact ⟨0, by omega, rfl, hS4⟩
  case round =>
    clear hS4
    obtain ⟨j, hj, rfl, hS⟩ := hrel
    obtain ⟨w6, rfl⟩ : ∃ x, x = wr := ⟨_, rfl⟩
    by_cases hlt : 64 * j < N
    · as_aux_lemma =>
      obtain ⟨A, hA⟩ : ∃ A, A = 64 * j := ⟨_, rfl⟩
      rw [← hA] at hlt ⊢
      have HA := Lib.hid hA
      have HS := Lib.hid hS
      clear hA hS hj
      go_wp2_with (first | (refine wpList_alloc rfl 81 rfl (zeros 64) alloc64 ?_; go_frame; (try simp only [World.size_alloc])))
      obtain ⟨bs, hbs⟩ : ∃ bs, bs = (P.drop A).take 64 := ⟨_, rfl⟩
      have hA64 : A + 64 ≤ N := by have := HA.out; omega
      have hbg : ∀ q, q < 64 → bs.getD q 0 = P.getD (A + q) 0 := by
        intro q hq
        rw [hbs]; simp [List.getD, hq]
      have HBS := Lib.hid hbs
      have HBG := Lib.hid hbg
      obtain ⟨w5, hw5⟩ : ∃ w5, w5 = w6.alloc (.cells (zeros 64).toArray 81) := ⟨_, rfl⟩
      rw [← hw5]
      have hW5 : w5.heap[w6.heap.size]? = some (.cells ((Dig.schTo bs 0).map u32v).toArray 81 (0, 0)) := by
        rw [hw5, Dig.schTo_zero, List.map_replicate]; exact heap_alloc_new w6 _
      have hB5 : Below w6.heap.size w6 w5 := by rw [hw5]; exact (Below.refl _ _).alloc (Nat.le_refl _) _
      clear hbs hbg hw5
      go_loopw [9] (fun iv wi => ∃ i : Nat, i ≤ 64 ∧ iv = .int .i64 i ∧ wi.heap[w6.heap.size]? = some (.cells ((Dig.schTo bs i).map u32v).toArray 81 (0, 0)) ∧ Below w6.heap.size w6 wi) (fun iv _ => 64 - (intOf iv).toNat)
      case atStart => exact ⟨0, by omega, rfl, hW5, hB5⟩
      case round =>
        clear hW5 hB5
        obtain ⟨i, hi64, rfl, hW, hB⟩ := hrel
        by_cases hlt64 : i < 64
        · by_cases hlt16 : i < 16
          · as_aux_lemma =>
            have hSi := HS.out.below hB
            have hPl := HN.out
            have c0 := hSi.byte (A + 4 * i) (by omega)
            have c1 := hSi.byte (A + 4 * i + 1) (by omega)
            have c2 := hSi.byte (A + 4 * i + 2) (by omega)
            have c3 := hSi.byte (A + 4 * i + 3) (by omega)
            have cW := getD_cell (Dig.length_schTo bs i hi64) hlt64 hW
            have fW : wr.frozen? ⟨w6.heap.size, i, none⟩ = false := free_of_list hW _
            have hq : A + 4 * i + 3 < N := by omega
            obtain ⟨x0, hx0⟩ : ∃ x, x = P.getD (A + 4 * i) 0 := ⟨_, rfl⟩
            obtain ⟨x1, hx1⟩ : ∃ x, x = P.getD (A + 4 * i + 1) 0 := ⟨_, rfl⟩
            obtain ⟨x2, hx2⟩ : ∃ x, x = P.getD (A + 4 * i + 2) 0 := ⟨_, rfl⟩
            obtain ⟨x3, hx3⟩ : ∃ x, x = P.getD (A + 4 * i + 3) 0 := ⟨_, rfl⟩
            obtain ⟨x4, hx4⟩ : ∃ x, x = (Dig.schTo bs i).getD i 0 := ⟨_, rfl⟩
            rw [← hx0] at c0
            rw [← hx1] at c1
            rw [← hx2] at c2
            rw [← hx3] at c3
            rw [← hx4] at cW
            unfold u32v at cW
            have H0 := Lib.hid hx0
            have H1 := Lib.hid hx1
            have H2 := Lib.hid hx2
            have H3 := Lib.hid hx3
            have HW := Lib.hid hW
            have HB := Lib.hid hB
            clear hx0 hx1 hx2 hx3 hx4 hW hB hSi hPl
            go_wp2
            go_region
            all_goals
              go_wp2
              go_roundw
              case rel =>
                refine ⟨i + 1, by omega, by go_num, ?_, ?_⟩
                · rw [heap_drew, set_list HW.out, Dig.schTo_low bs i hlt16, List.map_set]
                  congr 4
                  rw [be_fold x0 x1 x2 x3, H0.out, H1.out, H2.out, H3.out]
                  unfold Dig.word4
                  rw [if_neg (by decide), HBG.out _ (by omega), HBG.out _ (by omega), HBG.out _ (by omega), HBG.out _ (by omega)]
                  rfl
                · exact (HB.out.setCell (p := ⟨w6.heap.size, i, none⟩) (Nat.le_refl _) _).drew
              case measure => simp [intOf]; omega
          · as_aux_lemma =>
            have cW : ∀ q, q < 64 → wr.cell? ⟨w6.heap.size, q, none⟩ = some (u32v ((Dig.schTo bs i).getD q 0)) := fun q hq => getD_cell (Dig.length_schTo bs i hi64) hq hW
            have k15 := cW (i - 15) (by omega)
            have k2 := cW (i - 2) (by omega)
            have k16 := cW (i - 16) (by omega)
            have k7 := cW (i - 7) (by omega)
            have k0 := cW i hlt64
            have fW : wr.frozen? ⟨w6.heap.size, i, none⟩ = false := free_of_list hW _
            obtain ⟨x1, hx1⟩ : ∃ x, x = (Dig.schTo bs i).getD (i - 15) 0 := ⟨_, rfl⟩
            obtain ⟨x2, hx2⟩ : ∃ x, x = (Dig.schTo bs i).getD (i - 2) 0 := ⟨_, rfl⟩
            obtain ⟨x3, hx3⟩ : ∃ x, x = (Dig.schTo bs i).getD (i - 16) 0 := ⟨_, rfl⟩
            obtain ⟨x4, hx4⟩ : ∃ x, x = (Dig.schTo bs i).getD (i - 7) 0 := ⟨_, rfl⟩
            obtain ⟨x5, hx5⟩ : ∃ x, x = (Dig.schTo bs i).getD i 0 := ⟨_, rfl⟩
            rw [← hx1] at k15
            rw [← hx2] at k2
            rw [← hx3] at k16
            rw [← hx4] at k7
            rw [← hx5] at k0
            unfold u32v at k15 k2 k16 k7 k0
            have H1 := Lib.hid hx1
            have H2 := Lib.hid hx2
            have H3 := Lib.hid hx3
            have H4 := Lib.hid hx4
            have HW := Lib.hid hW
            have HB := Lib.hid hB
            have h16 : 16 ≤ i := by omega
            have o16 : ((i : Int) - 16).toNat = i - 16 := by omega
            have o7 : ((i : Int) - 7).toNat = i - 7 := by omega
            have b16 : 0 ≤ (i : Int) - 16 := by omega
            have b7 : 0 ≤ (i : Int) - 7 := by omega
            have l16 : (i : Int) - 16 < 64 := by omega
            have l7 : (i : Int) - 7 < 64 := by omega
            clear hx1 hx2 hx3 hx4 hx5 hW hB cW
            go_wp2_with fail
            have e16 : IntKind.i64.wrap ((i : Int) - 16) = (i : Int) - 16 := IntWalk.i64_in _ (by omega)
            have e7 : IntKind.i64.wrap ((i : Int) - 7) = (i : Int) - 7 := IntWalk.i64_in _ (by omega)
            have H16 := Lib.hid h16
            have h7i : (7 : Int) ≤ (i : Int) := by omega
            have S0 : SchS w6.heap.size i x3 x4 wr := ⟨k16, k7, cellOf_mk k0, fW⟩
            clear h16
            obtain ⟨nv, hnv⟩ : ∃ nv, Dig.ad (Dig.ad (Dig.ad x3 (Dig.xr (Dig.xr (Dig.rotl x1 (rn (-7))) (Dig.rotl x1 (rn (-18)))) (Dig.shr x1 3))) x4) (Dig.xr (Dig.xr (Dig.rotl x2 (rn (-17))) (Dig.rotl x2 (rn (-19)))) (Dig.shr x2 10)) = nv := ⟨_, rfl⟩
            have hsn := sched_eq hnv
            have HSN := Lib.hid hsn
            clear hsn
            go_region_held3 (fun v => SchS w6.heap.size i x3 x4 v) (first | assumption | exact sch_drew S0 | exact sch_drew (by assumption) | exact sch_set H16 (by assumption) _) (first | (go_at_call 52; refine (rright_lit _ _ (by decide) (by decide) _).mono ?_; rintro e w' ⟨rfl, rfl⟩))
            all_goals
              go_wp2_with fail
              go_roundw
              case rel =>
                refine ⟨i + 1, by omega, by go_num, ?_, (HB.out.setCell (p := ⟨w6.heap.size, i, none⟩) (Nat.le_refl _) _).drew.drew.drew.drew.drew⟩
                have h16' := H16.out
                rw [heap_drew, heap_drew, heap_drew, heap_drew, heap_drew, set_list HW.out, Dig.schTo_high bs i h16', Dig.spreadStep, List.map_set, show 16 + (i - 16) = i from by omega, show 14 + (i - 16) = i - 2 from by omega, show 9 + (i - 16) = i - 7 from by omega, show 1 + (i - 16) = i - 15 from by omega, ← H1.out, ← H2.out, ← H3.out, ← H4.out, ← HSN.out]
                rfl
              case measure => simp [intOf]; omega
        · as_aux_lemma =>
          obtain rfl : i = 64 := by omega
          rw [Dig.schTo_all] at hW
          obtain ⟨w7, rfl⟩ : ∃ x, x = wr := ⟨_, rfl⟩
          obtain ⟨S, hS⟩ : ∃ S, S = Dig.fold Dig.turn256 Dig.h256 (P.take (64 * j)) := ⟨_, rfl⟩
          have hSl : S.length = 8 := by rw [hS]; exact Dig.length_fold256 _
          have hSm : (S.map u32v).length = 8 := by rw [List.length_map, hSl]
          have hS7 := HS.out.below hB
          rw [← hS] at hS7
          have H8 := Lib.hid hS7.eight
          have HS7 := Lib.hid hS7
          have hz7 := hB.size
          have HW := Lib.hid hW
          have HB := Lib.hid hB
          have HSL := Lib.hid hSl
          have HSD := Lib.hid hS
          clear hW hB hS7 hS hlt64
          go_wp2_with (first | (refine wpList_load_mid rfl 80 _ rfl (w.heap.size + 1) 0 rfl (S.map u32v) _ (range_of_list H8.out) Try.underlying80 rfl (by rw [hSm]; kernel_rfl) ?_; go_frame) | (refine wpList_alloc rfl 80 rfl (zeros 8) alloc8u ?_; go_frame) | (refine wpList_store_new rfl 80 _ _ rfl w7.heap.size (S.map u32v) (zeros 8) 80 rfl rfl (heap_alloc_new _ _) (by rw [hSm, length_zeros]) (by rw [hSm]; kernel_rfl) (u32_ones _) ?_; go_frame))
          obtain ⟨w8, hw8⟩ : ∃ w8, w8 = (w7.alloc (.cells (zeros 8).toArray 80)).setCells w7.heap.size 0 (S.map u32v) := ⟨_, rfl⟩
          rw [← hw8]
          obtain ⟨st, hst⟩ : ∃ st, st = Dig.Eight.of S := ⟨_, rfl⟩
          have hV8 : w8.heap[w7.heap.size]? = some (.cells ((Dig.roundsTo (Dig.spread bs) st 0).list.map u32v).toArray 80 (0, 0)) := by
            rw [hw8, setCells_list _ _ _ _ (heap_alloc_new _ _), laid_whole _ _ (by rw [hSm, length_zeros]), Dig.roundsTo_zero, hst, eight_of_list HSL.out]
          have hW8 : w8.heap[w6.heap.size]? = some (.cells ((Dig.spread bs).map u32v).toArray 81 (0, 0)) := by
            have hlt7 := lt_of_heap HW.out
            rw [hw8, setCells_other (by omega), heap_alloc_old _ _ hlt7]; exact HW.out
          have hB78 : Below w7.heap.size w7 w8 := by rw [hw8]; exact below_setCells ((Below.refl _ _).alloc (Nat.le_refl _) _) (Nat.le_refl _) _ _
          have hz8 : w8.heap.size = w7.heap.size + 1 := by rw [hw8, setCells_size]; simp
          have HST := Lib.hid hst
          have h67 : w6.heap.size < w7.heap.size := lt_of_heap HW.out
          clear hw8 hst
          go_loopw [13] (fun iv wi => ∃ k : Nat, k ≤ 64 ∧ iv = .int .i64 k ∧ wi.heap[w7.heap.size]? = some (.cells ((Dig.roundsTo (Dig.spread bs) st k).list.map u32v).toArray 80 (0, 0)) ∧ wi.heap[w6.heap.size]? = some (.cells ((Dig.spread bs).map u32v).toArray 81 (0, 0)) ∧ Below w7.heap.size w7 wi) (fun iv _ => 64 - (intOf iv).toNat)
          case atStart => exact ⟨0, by omega, rfl, hV8, hW8, hB78⟩
          case round =>
            clear hV8 hW8 hB78 hz8
            obtain ⟨k, hk64, rfl, hV, hW, hB⟩ := hrel
            by_cases hltk : k < 64
            · as_aux_lemma =>
              obtain ⟨r, hr⟩ : ∃ r, r = Dig.roundsTo (Dig.spread bs) st k := ⟨_, rfl⟩
              rw [← hr] at hV
              have cW := getD_cell (Dig.length_spread bs) hltk hW
              have cK := con_cell (HS7.out.below hB) hltk
              obtain ⟨x1, hx1⟩ : ∃ x, x = Dig.k256.getD k 0 := ⟨_, rfl⟩
              obtain ⟨x2, hx2⟩ : ∃ x, x = (Dig.spread bs).getD k 0 := ⟨_, rfl⟩
              rw [← hx1] at cK
              rw [← hx2] at cW
              unfold u32v at cW
              obtain ⟨c0, c1, c2, c3, c4, c5, c6, c7⟩ := eight_cells hV
              obtain ⟨t, ht⟩ : ∃ t, Dig.ad (Dig.ad (Dig.ad (Dig.ad r.h (Dig.xr (Dig.xr (Dig.rotl r.e (rn (-6))) (Dig.rotl r.e (rn (-11)))) (Dig.rotl r.e (rn (-25))))) (Dig.xr (Dig.an r.e r.f) (Dig.an (Dig.nt r.e) r.g))) x1) x2 = t := ⟨_, rfl⟩
              obtain ⟨u, hu⟩ : ∃ u, Dig.ad (Dig.xr (Dig.xr (Dig.rotl r.a (rn (-2))) (Dig.rotl r.a (rn (-13)))) (Dig.rotl r.a (rn (-22)))) (Dig.xr (Dig.xr (Dig.an r.a r.b) (Dig.an r.a r.c)) (Dig.an r.b r.c)) = u := ⟨_, rfl⟩
              obtain ⟨n0, hn0⟩ : ∃ n, Dig.ad t u = n := ⟨_, rfl⟩
              obtain ⟨n4, hn4⟩ : ∃ n, Dig.ad r.d t = n := ⟨_, rfl⟩
              have T1 := Lib.hid ht
              have T2 := Lib.hid hu
              have T3 := Lib.hid hn0
              have T4 := Lib.hid hn4
              have H1 := Lib.hid hx1
              have H2 := Lib.hid hx2
              have HV := Lib.hid hV
              have HW := Lib.hid hW
              have HB := Lib.hid hB
              have HR := Lib.hid hr
              clear hx1 hx2 hV hW hB hr hn0 hn4
              go_wp2_with fail
              go_quiet (first | (go_at_call 52; exact Calls.quiet_of (rright_q _ _ (by decide) (by decide) _)))
              obtain ⟨w9, hw9⟩ : ∃ x, x = wr.drewN nq := ⟨_, rfl⟩
              rw [← hw9]
              have hV9 : w9.heap[w7.heap.size]? = some (.cells (r.list.map u32v).toArray 80 (0, 0)) := by rw [hw9, World.heap_drewN]; exact HV.out
              have hW9 : w9.heap[w6.heap.size]? = some (.cells ((Dig.spread bs).map u32v).toArray 81 (0, 0)) := by rw [hw9, World.heap_drewN]; exact HW.out
              have hB9 : Below w7.heap.size w7 w9 := by rw [hw9]; exact below_drewN HB.out nq
              clear c0 c1 c2 c3 c4 c5 c6 c7 cK cW hw9 HV HW HB ht
              obtain ⟨c0, c1, c2, c3, c4, c5, c6, c7⟩ := eight_cells hV9
              have HV := Lib.hid hV9
              have HW := Lib.hid hW9
              have HB := Lib.hid hB9
              clear hV9 hW9 hB9
              go_wp2_with fail
              go_quiet (first | (go_at_call 52; exact Calls.quiet_of (rright_q _ _ (by decide) (by decide) _)))
              obtain ⟨w10, hw10⟩ : ∃ x, x = w9.drewN nq := ⟨_, rfl⟩
              rw [← hw10]
              have hV10 : w10.heap[w7.heap.size]? = some (.cells (r.list.map u32v).toArray 80 (0, 0)) := by rw [hw10, World.heap_drewN]; exact HV.out
              have hW10 : w10.heap[w6.heap.size]? = some (.cells ((Dig.spread bs).map u32v).toArray 81 (0, 0)) := by rw [hw10, World.heap_drewN]; exact HW.out
              have hB10 : Below w7.heap.size w7 w10 := by rw [hw10]; exact below_drewN HB.out nq
              clear c0 c1 c2 c3 c4 c5 c6 c7 hw10 HV HW HB hu
              obtain ⟨c0, c1, c2, c3, c4, c5, c6, c7⟩ := eight_cells hV10
              have HV := Lib.hid hV10
              have HW := Lib.hid hW10
              have HB := Lib.hid hB10
              clear hV10 hW10 hB10
              have hn0 := T3.out
              have hn4 := T4.out
              go_wp2_with (first | (refine wpList_build_vals rfl 80 _ rfl #[(0, u32v n0), (1, u32v r.a), (2, u32v r.b), (3, u32v r.c), (4, u32v n4), (5, u32v r.e), (6, u32v r.f), (7, u32v r.g)] ([n0, r.a, r.b, r.c, n4, r.e, r.f, r.g].map u32v) (by kernel_rfl) (build8 _ _ _ _ _ _ _ _) ?_; go_frame) | (refine wpList_store_whole rfl 80 _ _ rfl w7.heap.size ([n0, r.a, r.b, r.c, n4, r.e, r.f, r.g].map u32v) (r.list.map u32v) 80 rfl rfl HV.out rfl (by kernel_rfl) (u32_ones _) ?_; intro w11 h11 k11 s11; go_frame))
              go_roundw
              case rel =>
                have e1 : Dig.first x1 x2 r = t := by rw [Dig.first_eq]; exact T1.out
                have e2 : Dig.second r = u := by rw [Dig.second_eq]; exact T2.out
                refine ⟨k + 1, by omega, by go_num, ?_, ?_, r_below_kept HB.out k11.out (Nat.le_refl _) HB.out.size⟩
                · rw [h11.out, Dig.roundsTo_succ, ← HR.out, ← H1.out, ← H2.out]
                  simp only [Dig.round, e1, e2, T3.out, T4.out]
                  rfl
                · have hlt6 := lt_of_heap HW.out
                  rw [k11.out.block _ hlt6 (by simp; omega)]; exact HW.out
              case measure => simp [intOf]; omega
            · as_aux_lemma =>
              obtain rfl : k = 64 := by omega
              obtain ⟨w12, rfl⟩ : ∃ x, x = wr := ⟨_, rfl⟩
              obtain ⟨R, hR⟩ : ∃ R, R = (Dig.roundsTo (Dig.spread bs) st 64).list := ⟨_, rfl⟩
              have hRl : R.length = 8 := by rw [hR]; rfl
              have HT := Lib.hid (show List.zipWith Dig.ad S R = Dig.turn256 S bs by rw [hR, Dig.turn256_eq, HST.out])
              rw [← hR] at hV
              have hG12 : w12.heap[w.heap.size + 1]? = some (.cells (laid (S.map u32v) 0 (((List.zipWith Dig.ad S R).take 0).map u32v)).toArray 80 (0, 0)) := by
                rw [hB.block _ (lt_of_heap H8.out)]; exact H8.out
              have hK12 : Kept w7.heap.size [w.heap.size + 1] w7 w12 := Kept.of_below hB
              have hb7 : w.heap.size + 1 < w7.heap.size := lt_of_heap H8.out
              have HRL := Lib.hid hRl
              clear hR hRl hW hB hltk
              go_wp2_with fail
              go_loopw [18] (fun iv wz => ∃ q : Nat, q ≤ 8 ∧ iv = .int .i64 q ∧ wz.heap[w.heap.size + 1]? = some (.cells (laid (S.map u32v) 0 (((List.zipWith Dig.ad S R).take q).map u32v)).toArray 80 (0, 0)) ∧ wz.heap[w7.heap.size]? = some (.cells (R.map u32v).toArray 80 (0, 0)) ∧ Kept w7.heap.size [w.heap.size + 1] w7 wz) (fun iv _ => 8 - (intOf iv).toNat)
              case atStart => exact ⟨0, by omega, rfl, hG12, hV, hK12⟩
              case round =>
                clear hG12 hV hK12
                obtain ⟨q, hq8, rfl, hG, hV, hK⟩ := hrel
                by_cases hltq : q < 8
                · as_aux_lemma =>
                  have cS := add_cell HSL.out HRL.out (fun i hi => map_get HSL.out hi) hltq hG
                  rw [Nat.zero_add] at cS
                  have cF := free_of_list hG q
                  have cR := getD_cell HRL.out hltq hV
                  obtain ⟨x1, hx1⟩ : ∃ x, x = S.getD q 0 := ⟨_, rfl⟩
                  obtain ⟨x2, hx2⟩ : ∃ x, x = R.getD q 0 := ⟨_, rfl⟩
                  rw [← hx1] at cS
                  rw [← hx2] at cR
                  unfold u32v at cS cR
                  have H1 := Lib.hid hx1
                  have H2 := Lib.hid hx2
                  have HG := Lib.hid hG
                  have HV := Lib.hid hV
                  have HK := Lib.hid hK
                  clear hx1 hx2 hG hV hK
                  go_wp2_with fail
                  go_region
                  all_goals
                    go_wp2_with fail
                    go_roundw
                    case rel =>
                      have hst := add_step (v := .int .u32 (Dig.ad x1 x2).toNat) HSL.out HRL.out hltq HG.out (by rw [← H1.out, ← H2.out]; rfl)
                      rw [Nat.zero_add] at hst
                      refine ⟨q + 1, by omega, by go_num, hst, ?_, (HK.out.setCell (p := ⟨w.heap.size + 1, q, none⟩) (Or.inl (by simp)) _).drew⟩
                      rw [heap_drew, heap_setCell_other _ _ _ _ (by simp; omega)]; exact HV.out
                    case measure => simp [intOf]; omega
                · as_aux_lemma =>
                  obtain rfl : q = 8 := by omega
                  have hall : (List.zipWith Dig.ad S R).take 8 = Dig.turn256 S bs := by rw [← HT.out, List.take_of_length_le (by simp [HSL.out, HRL.out])]
                  rw [hall] at hG
                  have hSN : SumS w w.heap.size g N cap P (Dig.fold Dig.turn256 Dig.h256 (P.take (64 * (j + 1)))) wr := by
                    refine ⟨?_, ?_, ?_, ?_⟩
                    · rw [hK.block _ (by omega) (by simp)]; exact HS7.out.con
                    · rw [hG, Dig.fold_take _ _ _ _ (by rw [← HN.out]; have := HA.out; omega), ← HSD.out, ← HA.out, ← HBS.out, laid_whole]
                      rw [List.length_map, List.length_map, Dig.length_turn256 _ _ HSL.out, HSL.out]
                    · have hlow := HS7.out.row.low
                      exact HS7.out.row.block (Nat.lt_of_lt_of_le HS7.out.row.lt hK.size) (hK.block _ HS7.out.row.lt (by simp; omega))
                    · exact HS7.out.old.trans ((hK.mono (by omega) (fun k hk hm => by simp at hm; omega)).below (ws := []) (by simp))
                  have HSN := Lib.hid hSN
                  clear hG hV hK hall hSN
                  go_wp2_with fail
                  go_roundw
                  case rel => exact ⟨j + 1, by have := HA.out; omega, int64_congr (by have := HA.out; omega), HSN.out⟩
                  case measure => have := HA.out; simp [intOf]; omega
    · as_aux_lemma =>
      have hjN : 64 * j = N := by omega
      have hPN : P.take (64 * j) = P := List.take_of_length_le (by rw [← HN.out]; omega)
      rw [hPN] at hS
      obtain ⟨S, hSd⟩ : ∃ S, S = Dig.fold Dig.turn256 Dig.h256 P := ⟨_, rfl⟩
      have hSl : S.length = 8 := by rw [hSd]; exact Dig.length_fold256 _
      rw [← hSd] at hS
      have hfin : Dig.textOf false S = Dig.sum256 l := by rw [hSd, HP.out, Dig.sum256_eq]; rfl
      have HF := Lib.hid hfin
      have HSL := Lib.hid hSl
      have H8 := Lib.hid hS.eight
      have HO := Lib.hid hS.old
      have hb6 : w.heap.size + 1 < w6.heap.size := lt_of_heap hS.eight
      have hB0 : Below w6.heap.size w6 w6 := Below.refl _ _
      obtain ⟨A, hA⟩ : ∃ A, A = 64 * j := ⟨_, rfl⟩
      rw [← hA] at hlt ⊢
      clear hS hSd hfin hPN hjN hA
      go_wp2_with fail
      go_loopw [19, 20] (fun v iv wr => ∃ q : Nat, q ≤ 8 ∧ iv = .int .i64 q ∧ wr.ownsRow w6.heap.size 5 1 v (4 * q) ((Dig.textOf false (S.take q)).map u8v) ∧ Below w6.heap.size w6 wr) (fun _ iv _ => 8 - (intOf iv).toNat)
      case atStart => exact ⟨0, by omega, rfl, by rw [List.take_zero, Dig.textOf_nil]; exact World.ownsRow_nil _ _ _ _, hB0⟩
      case round =>
        clear hB0
        obtain ⟨q, hq8, rfl, hown, hB⟩ := hrel
        by_cases hltq : q < 8
        · as_aux_lemma =>
          have cS : wr.cell? ⟨w.heap.size + 1, q, none⟩ = some (u32v (S.getD q 0)) := by
            rw [hB.cell (p := ⟨w.heap.size + 1, q, none⟩) hb6, cell_of_list H8.out, getD_list HSL.out hltq]
          have ht4 : Dig.textOf false (S.take (q + 1)) = Dig.textOf false (S.take q) ++ Dig.bytesTo false 4 (S.getD q 0).toNat 4 := by
            rw [List.take_succ_eq_append_getElem (by rw [HSL.out]; exact hltq), Dig.textOf_snoc, List.getD, List.getElem?_eq_getElem (by rw [HSL.out]; exact hltq)]; rfl
          obtain ⟨x, hx⟩ : ∃ x, x = S.getD q 0 := ⟨_, rfl⟩
          rw [← hx] at cS ht4
          unfold u32v at cS
          have c1 : wr.drew.cell? ⟨w.heap.size + 1, q, none⟩ = some (.int .u32 x.toNat) := cS
          have hsz := hB.size
          have hBcell := hB.cell (p := ⟨w.heap.size + 1, q, none⟩) hb6
          have HO2 := Lib.hid hown
          have HB := Lib.hid hB
          have HT := Lib.hid ht4
          clear hown hB ht4 hx
          obtain ⟨y3, hy3⟩ : ∃ y, y = Dig.byteAt x.toNat 3 := ⟨_, rfl⟩
          obtain ⟨y2, hy2⟩ : ∃ y, y = Dig.byteAt x.toNat 2 := ⟨_, rfl⟩
          obtain ⟨y1, hy1⟩ : ∃ y, y = Dig.byteAt x.toNat 1 := ⟨_, rfl⟩
          obtain ⟨y0, hy0⟩ : ∃ y, y = Dig.byteAt x.toNat 0 := ⟨_, rfl⟩
          have e3 : IntKind.u8.wrap ((x.toNat : Int) / 16777216) = (y3.toNat : Int) := by rw [hy3]; exact b3_fold x
          have e2 : IntKind.u8.wrap ((x.toNat : Int) / 65536) = (y2.toNat : Int) := by rw [hy2]; exact b2_fold x
          have e1 : IntKind.u8.wrap ((x.toNat : Int) / 256) = (y1.toNat : Int) := by rw [hy1]; exact b1_fold x
          have e0 : IntKind.u8.wrap ((x.toNat : Int)) = (y0.toNat : Int) := by rw [hy0]; exact b0_fold x
          have eT : (Dig.textOf false (S.take (q + 1))).map u8v = (Dig.textOf false (S.take q)).map u8v ++ four y3 y2 y1 y0 := by
            rw [HT.out, bytes_high, List.map_append, hy3, hy2, hy1, hy0]; rfl
          have hm1 : 4 * q + 4 ≤ maxLen := by unfold maxLen; omega
          have hm2 : (4 * q + 4) * 1 ≤ 140737488355328 := by omega
          have hone := four_one y3 y2 y1 y0
          have hb4 : ∀ o, w6.heap.size ≤ ((wr.alloc o).drew).heap.size := fun o => by simp; omega
          have ET := Lib.hid eT
          clear eT hy3 hy2 hy1 hy0
          have C0 : Hid (w6.cell? ⟨w.heap.size + 1, q, none⟩ = some (.int .u32 x.toNat)) := Lib.hid ((hBcell).symm.trans cS)
          have S0 : TxtS w6 ⟨w.heap.size + 1, q, none⟩ (.int .u32 x.toNat) wr.drew := ⟨c1, HB.out.drew⟩
          have HP6 := Lib.hid hb6
          clear hBcell
          go_wp2_with fail
          go_region_held_law (fun v => TxtS w6 ⟨w.heap.size + 1, q, none⟩ (.int .u32 x.toNat) v) (first | assumption | exact txt_of C0.out HP6.out ((HB.out.alloc hsz _).drew) | exact txt_of C0.out HP6.out B5.out) (first | (refine step_append_own_d rfl (.tmp 218) (.tmp 238) 35 rfl w6.heap.size 5 i0 (.int .u8 0) 1 1 Try.underlying35 hi hz0 hz1 hz2 rfl (by decide) u19 (4 * q) ((Dig.textOf false (S.take q)).map u8v) rfl (own_drew (HO2.out.alloc _)) ⟨wr.heap.size, 0, none⟩ 4 4 (four y3 y2 y1 y0) rfl (by decide) rfl (news_four wr y3 y2 y1 y0 5) hone hm1 hm2 (hb4 _) (some 239) rfl ?_; intro g5 cap5 w5 h5 hg5 hk5; have B5 := Lib.hid (((HB.out.alloc hsz _).drew).grown hg5.out (by simp; omega) (fun k hk => (HO2.out.lt k hk).1))) | fail)
          all_goals
            go_wp2_with fail
            go_roundw
            case rel => exact ⟨q + 1, by omega, by go_num, by rw [ET.out, show 4 * (q + 1) = 4 * q + 4 from by omega]; exact h5.out, B5.out⟩
            case measure => simp [intOf]; omega
        · obtain rfl : q = 8 := by omega
          rw [List.take_of_length_le (by rw [HSL.out]; exact Nat.le_refl _), HF.out] at hown
          have hl32 : (Dig.sum256 l).length = 4 * 8 := Dig.length_sum256 l
          have HO2 := Lib.hid hown
          have HB := Lib.hid hB
          clear hown hB
          go_wp2_with (refine wpList_own_string rfl 35 9 _ rfl w6.heap.size 5 _ (4 * 8) rfl _ hl32 Try.underlying35 Try.underlying5 Try.underlying9 HO2.out ?_; go_frame)
          go_ret
          exact ⟨rfl, HO.out.trans (HB.out.mono HO.out.size)⟩
end Go.Proofs.Ytdimkgidaioolaa
