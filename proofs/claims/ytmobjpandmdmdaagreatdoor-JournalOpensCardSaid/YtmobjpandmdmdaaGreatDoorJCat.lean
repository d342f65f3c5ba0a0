/- The walk of slices.Concat at two lists of texts. -/
import Derived.Test.YtmobjpandmdmdaaGreatDoorJTexts
import Derived.Lib.AppendZerosOnto
import Derived.Laws.AppendOwnNone
namespace Go.Proofs.YtmobjpandmdmdaaGreatDoor
open Go.RowKit

set_option maxRecDepth 100000 in
set_option maxHeartbeats 2000000 in
theorem Grow_nil (n : Nat) (h1 : 1 ≤ n) (hn : n ≤ 1000000) (w : World) :
    Calls Tryz.prog 73 #[.slice none 0 0, .int .i64 n] w fun e w' => ∃ v, e = .returned v ∧ w'.ownsRow w.heap.size 9 1 v 0 [] ∧ v ≠ .slice none 0 0 ∧ Below w.heap.size w w' := by
  obtain ⟨i0, hi, hz0, hz1, hz2⟩ := info_parts infoString
  have hold : (Builtin.firstCells i0.size 0 (.slice none 0 0)).run Tryz.prog w.drew = .ok ([] : List Value).toArray w.drew := rfl
  have hrz : ∀ ty, (Builtin.append_ #[23, 3] ty #[.slice none 0 0, .int .i64 (n : Int)]).run Tryz.prog w =
      .ok (.slice (some ⟨w.heap.size, 0, none⟩) (0 + n) (grownCap w (0 + n) 0 9)) (w.drew.alloc (.cells (([] : List Value).toArray ++ Builtin.zeroCells (Value.string ⟨#[]⟩).cells n ++ Builtin.zeroCells (Value.string ⟨#[]⟩).cells (grownCap w (0 + n) 0 9 - (0 + n))) 9)) := fun ty =>
    Lib.run_append_grow_zeros w 23 3 ty 9 i0 (.string ⟨#[]⟩) .i64 .i64 Tryz.underlying23 Tryz.underlying3 hi hz0 none 0 0 [] hold n (by omega) (by omega) (by omega) (by omega) (by rw [hz2]; omega) (growslice_fits (by omega) (by rw [hz2]; omega))
  rw [Nat.zero_add] at hrz
  obtain ⟨G, hG⟩ : ∃ G, G = grownCap w n 0 9 := ⟨_, rfl⟩
  have hGn : n ≤ G := by rw [hG]; exact grownCap_ge w _ _ _
  have hGm : G ≤ maxLen := by rw [hG]; exact grownCap_le_maxLen w n 0 9 (by unfold maxLen; omega)
  have hG63 : G ≤ 9223372036854775807 := by unfold maxLen at hGm; omega
  rw [← hG] at hrz
  have HGM := Lib.hid hGm
  clear hold hG hi hz0 hz1 hz2 hGm
  go_enter Tryz.func73, Tryz.ntmps73
  go_wp2_with (at_builtin; refine Lib.wpList_append_run _ rfl _ _ _ _ rfl _ _ rfl rfl _ _ (hrz _) ?_)
  all_goals
    go_ret
    refine ⟨_, rfl, ⟨rfl, Or.inr ⟨w.heap.size, G, _, rfl, Nat.le_refl _, heap_alloc_new w.drew _, by omega, HGM.out, ?_, by simp⟩⟩, by simp, ((Below.refl _ _).drew).alloc (Nat.le_refl _) _⟩
    simp [Builtin.zeroCells]
    omega
set_option maxRecDepth 100000 in
set_option maxHeartbeats 4000000 in
theorem Concat_is (g gt : Nat) (t0 : List UInt8) (v2 : Value) (l : List (List UInt8)) (w : World) (hg : w.heap[g]? = some (.cells [Value.slice (some ⟨gt, 0, none⟩) 1 1, v2].toArray 23 (0, 0)))
    (ht : w.heap[gt]? = some (.cells [strv t0].toArray 9 (0, 0))) (h2 : Texts v2 l w) (hn : l.length ≤ 900000) :
    Calls Tryz.prog 47 #[.slice (some ⟨g, 0, none⟩) 2 2] w fun e w' => ∃ v, e = .returned v ∧ w'.ownsRow w.heap.size 9 1 v (1 + l.length) ((t0 :: l).map strv) ∧ Below w.heap.size w w' := by
  obtain ⟨i0, hi, hz0, hz1, hz2⟩ := info_parts infoString
  obtain ⟨b2, c2, rfl⟩ := h2.slice
  have c0 : w.cell? ⟨g, 0, none⟩ = some (.slice (some ⟨gt, 0, none⟩) 1 1) := by rw [cell_of_list hg]; rfl
  have c1 : w.cell? ⟨g, 1, none⟩ = some (.slice b2 l.length c2) := by rw [cell_of_list hg]; rfl
  have hglt := lt_of_heap hg
  have hgtl := lt_of_heap ht
  have HT := Lib.hid ht
  have H2 := Lib.hid h2
  clear hg ht h2
  go_enter Tryz.func47, Tryz.ntmps47
  go_wp2_with fail
  go_loopw [3, 11] (fun sv iv wr => ∃ k : Nat, k ≤ 2 ∧ iv = .int .i64 k ∧ sv = .int .i64 (if k = 0 then 0 else if k = 1 then 1 else 1 + (l.length : Int)) ∧ wr = w) (fun _ iv _ => 2 - (intOf iv).toNat)
  case atStart => exact ⟨0, by omega, rfl, rfl, rfl⟩
  case round =>
    obtain ⟨k, hk, rfl, rfl, rfl⟩ := hrel
    have hk3 : k = 0 ∨ k = 1 ∨ k = 2 := by omega
    rcases hk3 with rfl | rfl | rfl
    · rw [if_pos rfl]
      go_wp2_with fail
      go_roundw
      case rel => exact ⟨1, by omega, rfl, rfl, trivial⟩
      case measure => simp [intOf]
    · rw [if_neg (by omega), if_pos rfl]
      go_wp2_with fail
      go_roundw
      case rel => exact ⟨2, by omega, rfl, rfl, trivial⟩
      case measure => simp [intOf]
    · rw [if_neg (by omega), if_neg (by omega)]
      obtain ⟨N, hN⟩ : ∃ N, N = 1 + l.length := ⟨_, rfl⟩
      have eN : (1 : Int) + (l.length : Int) = (N : Int) := by omega
      have hN1 : 1 ≤ N := by omega
      have hNm : N ≤ 1000000 := by omega
      rw [eN]
      have HN := Lib.hid hN
      clear eN hN
      go_wp2_with fail
      refine (Grow_nil N hN1 hNm _).mono ?_
      rintro e w1 ⟨v, rfl, hown, hnn, hb1⟩
      have HO := Lib.hid hown
      have HB := Lib.hid hb1
      clear hown hb1 hnn
      go_wp2_with fail
      obtain ⟨w0, rfl⟩ : ∃ x, x = wr := ⟨_, rfl⟩
      go_loopw [6, 27] (fun vv iv wr => ∃ k : Nat, k ≤ 2 ∧ iv = .int .i64 k ∧ wr.ownsRow w0.heap.size 9 1 vv (if k = 0 then 0 else if k = 1 then 1 else 1 + l.length) (if k = 0 then [] else if k = 1 then [strv t0] else (t0 :: l).map strv) ∧ Below w0.heap.size w0 wr) (fun _ iv _ => 2 - (intOf iv).toNat)
      case atStart => exact ⟨0, by omega, rfl, HO.out, HB.out⟩
      case round =>
        clear HO HB
        obtain ⟨k, hk, rfl, hown, hB⟩ := hrel
        have d0 := (hB.cell (p := ⟨g, 0, none⟩) hglt).trans c0
        have d1 := (hB.cell (p := ⟨g, 1, none⟩) hglt).trans c1
        have hsz := hB.size
        have hk3 : k = 0 ∨ k = 1 ∨ k = 2 := by omega
        rcases hk3 with rfl | rfl | rfl
        · rw [if_pos rfl, if_pos rfl] at hown
          have HO := Lib.hid hown
          have HB := Lib.hid hB
          have HT1 := Lib.hid ((hB.block gt hgtl).trans HT.out)
          clear hown hB
          go_wp2_with (first | (refine wpList_append_own _ rfl (.tmp 31) (.tmp 32) 23 rfl w0.heap.size 9 i0 (.string ⟨#[]⟩) 1 16 Tryz.underlying23 hi hz0 hz1 hz2 rfl (by decide) _ 0 _ rfl HO.out ⟨gt, 0, none⟩ 1 1 [strv t0] rfl rfl (news_row HT1.out) (by intro u hu; simp only [List.mem_singleton] at hu; rw [hu]; rfl) (by unfold maxLen; omega) (by omega) (by omega) ?_; intro v7 w7 h7 hg7 _; have H7 := Lib.hid h7; have B7 := Lib.hid (HB.out.grown hg7 (by omega) (fun k hk => (HO.out.lt k hk).1)); clear h7 hg7; go_frame) | fail)
          go_roundw
          case rel => exact ⟨1, by omega, rfl, H7.out, B7.out⟩
          case measure => simp [intOf]
        · rw [if_neg (by omega), if_pos rfl, if_neg (by omega), if_pos rfl] at hown
          have HO := Lib.hid hown
          have HB := Lib.hid hB
          rcases H2.out.below (Nat.le_refl _) hB with ⟨hv, h0⟩ | ⟨g2, off, cap, hv, hg2, hc⟩
          · injection hv with hv1 hv2 hv3
            subst hv1 hv3
            have hl0 : l.length = 0 := by rw [h0]; rfl
            rw [hl0] at d1
            clear hown hB
            go_wp2_with (first | (refine wpList_append_own_none rfl (.tmp 31) (.tmp 32) 23 rfl w0.heap.size 9 i0 1 Tryz.underlying23 hi _ 1 _ rfl HO.out rfl ?_; go_frame) | fail)
            go_roundw
            case rel => exact ⟨2, by omega, rfl, by rw [if_neg (by omega), if_neg (by omega), if_neg (by omega), if_neg (by omega), h0]; exact HO.out, HB.out⟩
            case measure => simp [intOf]
          · injection hv with hv1 hv2 hv3
            subst hv1 hv3
            have hnews : ∀ j u, (l.map strv)[j]? = some u → wr.cell? ((⟨g2, off, none⟩ : Addr).add j) = some u := by
              intro j u hu
              rw [List.getElem?_map] at hu
              have hj : j < l.length := by
                apply Classical.byContradiction; intro hj
                rw [List.getElem?_eq_none (by omega)] at hu; cases hu
              have := hc j hj
              rw [List.getD, List.getElem?_eq_getElem hj] at this
              rw [List.getElem?_eq_getElem hj] at hu
              injection hu with hu
              rw [← hu]
              simp only [Addr.add]
              split
              · rename_i h0
                subst h0
                simpa using this
              · simpa using this
            have HNW := Lib.hid hnews
            clear hown hB hnews hc
            go_wp2_with (first | (refine wpList_append_own _ rfl (.tmp 31) (.tmp 32) 23 rfl w0.heap.size 9 i0 (.string ⟨#[]⟩) 1 16 Tryz.underlying23 hi hz0 hz1 hz2 rfl (by decide) _ 1 _ rfl HO.out ⟨g2, off, none⟩ l.length c2 (l.map strv) rfl (by simp) HNW.out (by intro u hu; obtain ⟨x, _, rfl⟩ := List.mem_map.1 hu; rfl) (by unfold maxLen; omega) (by omega) (by omega) ?_; intro v7 w7 h7 hg7 _; have H7 := Lib.hid h7; have B7 := Lib.hid (HB.out.grown hg7 (by omega) (fun k hk => (HO.out.lt k hk).1)); clear h7 hg7; go_frame) | fail)
            go_roundw
            case rel => exact ⟨2, by omega, rfl, by rw [if_neg (by omega), if_neg (by omega), if_neg (by omega), if_neg (by omega)]; exact H7.out, B7.out⟩
            case measure => simp [intOf]
        · rw [if_neg (by omega), if_neg (by omega), if_neg (by omega), if_neg (by omega)] at hown
          have HO := Lib.hid hown
          have HB := Lib.hid hB
          clear hown hB
          go_wp2_with fail
          go_ret
          exact ⟨_, rfl, HO.out, HB.out⟩
end Go.Proofs.YtmobjpandmdmdaaGreatDoor
