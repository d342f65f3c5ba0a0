/- A query as it is signed, whatever slice of no pairs. -/
import Derived.Test.YtiodbkloecpdcaaUCanon
namespace Go.Proofs.Ytiodbkloecpdcaa
open Go.RowKit

set_option maxRecDepth 100000 in
set_option maxHeartbeats 8000000 in
theorem encoded_gen (a : Option Addr) (c : Nat) (zs : List Ur.Pr) (hlen : zs.length ≤ 1099511627776) (hsh : Short 35184372088832 zs) (w : World) (hI : 0 < zs.length → ∃ b off, a = some ⟨b, off, none⟩ ∧ b < w.heap.size ∧ w.rangeAt b off (prs zs)) :
    Calls Try.prog 31 #[.slice a zs.length c] w fun e W' => ∃ v, e = .returned v ∧ W'.ownsRow w.heap.size 32 2 v zs.length (prs (zs.map ep)) ∧ Below w.heap.size w W' := by
  obtain ⟨i0, hi, hz0, hz1, hz2⟩ := info_parts infoPair
  have HI := Lib.hid hI
  have HSH := Lib.hid hsh
  clear hI hsh
  go_enter Try.func31, Try.ntmps31
  go_wp2_with (refine wpList_make_zero rfl 22 _ _ rfl 32 i0 _ 2 32 Try.underlying22 hi hz0 hz1 hz2 zs.length rfl rfl (by omega) (by unfold maxLen; omega) ?_; intro w2 HOWN HB2; go_frame)
  go_loopw [3, 11] (fun v iv wr => ∃ j : Nat, j ≤ zs.length ∧ iv = .int .i64 j ∧ Hid (wr.ownsRow w.heap.size 32 2 v j (prs ((zs.take j).map ep))) ∧ Hid (Below w.heap.size w wr)) (fun _ iv _ => zs.length - (intOf iv).toNat)
  case atStart => exact ⟨0, by omega, rfl, by simpa [prs] using HOWN, HB2⟩
  case round =>
    clear HOWN HB2
    obtain ⟨j, hj, rfl, HO, HB⟩ := hrel
    by_cases hlt : j < zs.length
    · have hcell := HI.out (by omega)
      obtain ⟨b, off, rfl, hbw, hr⟩ := hcell
      have hcc := PairsAt.cells hr hlt
      have hc0 := (HB.out.cell (p := ⟨b, off + j * 2, none⟩) hbw).trans hcc.1
      have hc1 := (HB.out.cell (p := ⟨b, off + j * 2 + 1, none⟩) hbw).trans hcc.2
      have hst := HSH.out.at_ j hlt
      have htk := ep_take zs j hlt
      have E1 := Lib.hid (fun v : World => Encode_fre (zs.getD j ([], [])).1 hst.1 v)
      have E2 := Lib.hid (fun v : World => Encode_fre (zs.getD j ([], [])).2 hst.2 v)
      have hsr := HB.out.size
      generalize (zs.getD j ([], [])) = p at *
      obtain ⟨y1, hy1⟩ : ∃ y, y = bs (Ur.enc Ur.fre p.1) := ⟨_, rfl⟩
      obtain ⟨y2, hy2⟩ : ∃ y, y = bs (Ur.enc Ur.fre p.2) := ⟨_, rfl⟩
      have hpo : prs [ep p] = [Value.string (bs (Ur.enc Ur.fre p.1)), .string (bs (Ur.enc Ur.fre p.2))] := prs_one _ _
      rw [← hy1, ← hy2] at hpo
      rw [← hy1] at E1
      rw [← hy2] at E2
      generalize bs p.1 = x1 at *
      generalize bs p.2 = x2 at *
      have HPO := Lib.hid hpo
      have HTK := Lib.hid htk
      clear hr hcc hst htk hpo hy1 hy2
      go_wp2_with fail
      obtain ⟨w1, hw1⟩ : ∃ x, x = wr.alloc (.cells #[.string x1, .string x2] 32) := ⟨_, rfl⟩
      obtain ⟨pb, hpb⟩ : ∃ n, n = wr.heap.size := ⟨_, rfl⟩
      have g1 : w1.heap[pb]? = some (.cells [Value.string x1, .string x2].toArray 32 (0, 0)) := by rw [hw1, hpb]; exact heap_alloc_new _ _
      have HO1 := Lib.hid (show w1.ownsRow w.heap.size 32 2 u3 j (prs ((zs.take j).map ep)) by rw [hw1]; exact HO.out.alloc _)
      have HB1 := Lib.hid (show Below w.heap.size w w1 by rw [hw1]; exact HB.out.alloc hsr _)
      have d0 := cell_of_list g1 0
      have d1 := cell_of_list g1 1
      simp only [List.getElem?_cons_zero, List.getElem?_cons_succ] at d0 d1
      have hpl := lt_of_heap g1
      rw [← hw1, ← hpb]
      clear hw1 hpb g1 hc0 hc1 HO HB hsr
      go_region_law (first
        | (go_simp; go_at_call 12; first
          | ((with_reducible refine (E1.out _).mono ?_); rintro e w5 ⟨rfl, hb5⟩; have O5 := Lib.hid (own_below (own_drew2 HO1.out) hb5); have B5 := Lib.hid (HB1.out.drew.trans (hb5.mono HB1.out.size)); have d5 := (hb5.cell (p := ⟨pb, 1, none⟩) hpl).trans d1; have s5 := B5.out.size; clear hb5)
          | ((with_reducible refine (E2.out _).mono ?_); rintro e w6 ⟨rfl, hb6⟩; have O6 := Lib.hid (own_below O5.out hb6); have B6 := Lib.hid (B5.out.trans (hb6.mono s5)); have s6 := B6.out.size; clear hb6))
        | (refine step_append_own rfl _ _ 22 rfl w.heap.size 32 i0 (.agg #[.string ⟨#[]⟩, .string ⟨#[]⟩]) 2 32 Try.underlying22 hi hz0 hz1 hz2 rfl (by decide) _ j _ rfl (O6.out.alloc _) ⟨w6.heap.size, 0, none⟩ 1 1 [.string y1, .string y2] rfl (by omega) rfl (news_row (heap_alloc_new _ _)) (one_str _ _) (by unfold maxLen; omega) (by omega) (by simp; omega) ?_; intro g9 cap9 w9 h9 hg9 hk9))
      all_goals
        go_wp2_with fail
        go_roundw
        case rel =>
          refine ⟨j + 1, by omega, by go_num, Lib.hid ?_, Lib.hid ?_⟩
          · rw [HTK.out, prs_append, HPO.out]; exact h9.out
          · exact (B6.out.alloc s6 _).grown hg9.out (by simp; omega) (fun q hq => (O6.out.lt q hq).1)
        case measure => simp [intOf]; omega
    · obtain rfl : j = zs.length := by omega
      go_wp2_with fail
      go_ret
      exact ⟨_, rfl, by have := HO.out; rwa [List.take_length] at this, HB.out⟩
set_option maxRecDepth 100000 in
set_option maxHeartbeats 8000000 in
theorem Canon_gen (a : Option Addr) (c : Nat) (zs : List Ur.Pr) (hlen : zs.length ≤ 1099511627776) (hsh : Short 35184372088832 zs) (hcan : (canon zs).length ≤ 140737488355328) (w : World) (hI : 0 < zs.length → ∃ b off, a = some ⟨b, off, none⟩ ∧ b < w.heap.size ∧ w.rangeAt b off (prs zs)) :
    Calls Try.prog 13 #[.slice a zs.length c] w fun e W' => e = .returned (.string (bs (canon zs))) ∧ Below w.heap.size w W' := by
  obtain ⟨i0, hi, hz0, hz1, hz2⟩ := info_parts infoString
  have hss := srt_short zs _ hsh
  have hsl : (srt (zs.map ep)).length = zs.length := by rw [(srt_perm _).length_eq, List.length_map]
  unfold canon at hcan ⊢
  have CE := Lib.hid (fun (v : World) (h : Below w.heap.size w v) => encoded_gen a c zs hlen hsh v (fun h0 => by obtain ⟨b, off, e, hb, hr⟩ := hI h0; exact ⟨b, off, e, Nat.lt_of_lt_of_le hb h.size, fun j u hj => (h.cell (p := ⟨b, off + j, none⟩) hb).trans (hr j u hj)⟩))
  have CS := Lib.hid (fun (u : Value) (v : World) h => sorted_any u (zs.map ep) (by rw [List.length_map]; omega) v h)
  obtain ⟨Z, hZ⟩ : ∃ Z, Z = srt (zs.map ep) := ⟨_, rfl⟩
  rw [← hZ] at hss hsl hcan CS ⊢
  have HSS := Lib.hid hss
  clear hZ hI hsh hss
  go_enter Try.func13, Try.ntmps13
  go_wp2_with (first | (refine wpList_make_zero rfl 51 _ _ rfl 9 i0 _ 1 16 Try.underlying51 hi hz0 hz1 hz2 zs.length rfl rfl (by omega) (by unfold maxLen; omega) ?_; intro w2 HOWN HB2; go_frame) | (go_at_call 31; refine (CE.out _ HB2.out).mono ?_; rintro e w3 ⟨u3, rfl, ho3, hb3⟩; have HO3 := Lib.hid ho3; have HOW3 := Lib.hid (own_below HOWN.out hb3); have HB3 := Lib.hid (bthen HB2.out hb3); have h23 := hb3.size; clear ho3 hb3))
  refine (CS.out u3 w3 (pairsAt_self (l := zs.map ep) (by rw [List.length_map]; exact HO3.out) rfl (Nat.le_refl _))).mono ?_
  rintro e w4 ⟨u4, rfl, hp4, hb4⟩
  have hwg : w.heap.size < w2.heap.size := (HOWN.out.lt _ rfl).2
  have HO4 := Lib.hid (own_below HOW3.out hb4)
  have HB4 := Lib.hid (bthen HB3.out hb4)
  have h34 := hb4.size
  obtain ⟨a4, c4, e4, HF⟩ : ∃ a4 c4, u4 = .slice a4 Z.length c4 ∧ Hid (Z.length = 0 ∨ ∃ g, a4 = some ⟨g, 0, none⟩ ∧ w3.heap.size ≤ g ∧ g < w4.heap.size ∧ w4.rangeAt g 0 (prs Z)) := by
    rcases hp4 with ⟨h1, h2⟩ | ⟨g, cap, h1, h2, h3, h4⟩
    · exact ⟨none, 0, by rw [h1, h2]; rfl, Lib.hid (.inl (by rw [h2]; rfl))⟩
    · exact ⟨_, _, h1, Lib.hid (.inr ⟨g, rfl, h2, h3, h4⟩)⟩
  subst e4
  obtain ⟨n, hn⟩ : ∃ n, n = Z.length := ⟨_, rfl⟩
  have hnl : n ≤ 1099511627776 := by omega
  have HN := Lib.hid hn
  rw [← hn] at HF ⊢
  clear hn hsl hp4 hb4 CS CE HB3 HOW3 HO3 HB2 HOWN
  go_wp2_with fail
  go_loopw [3, 13] (fun v iv wr => ∃ j : Nat, j ≤ n ∧ iv = .int .i64 j ∧ Hid (wr.ownsRow w.heap.size 9 1 v j (sv1 ((Z.take j).map txt))) ∧ Hid (∀ gk, v.ownBlock = some gk → gk = w.heap.size ∨ w4.heap.size ≤ gk) ∧ Hid (Below w.heap.size w wr) ∧ Hid (∀ k, w2.heap.size ≤ k → k < w4.heap.size → wr.heap[k]? = w4.heap[k]?) ∧ w4.heap.size ≤ wr.heap.size) (fun _ iv _ => n - (intOf iv).toNat)
  case atStart => exact ⟨0, by omega, rfl, by simpa [sv1] using HO4, Lib.hid (fun gk h => by simp only [Value.ownBlock, Option.some.injEq] at h; omega), HB4, Lib.hid (fun _ _ _ => rfl), Nat.le_refl _⟩
  case round =>
    clear HO4 HB4
    obtain ⟨j, hj, rfl, HO, HW, HB, HK, hs⟩ := hrel
    by_cases hlt : j < n
    · have hjZ : j < Z.length := by rw [← HN.out]; exact hlt
      obtain ⟨g, rfl, hg3, hg4, hr⟩ : ∃ g, a4 = some ⟨g, 0, none⟩ ∧ w3.heap.size ≤ g ∧ g < w4.heap.size ∧ w4.rangeAt g 0 (prs Z) := by
        rcases HF.out with h | h
        · omega
        · exact h
      have hbk := HK.out g (by omega) hg4
      have hcc := PairsAt.cells hr hjZ
      rw [Nat.zero_add] at hcc
      have hc0 := (World.cell?_of_block (w := w4) (a := ⟨g, j * 2, none⟩) hbk).trans hcc.1
      have hc1 := (World.cell?_of_block (w := w4) (a := ⟨g, j * 2 + 1, none⟩) hbk).trans hcc.2
      have hsh := HSS.out.at_ j hjZ
      have htk := take_txt Z j hjZ
      generalize Z.getD j ([], []) = p at *
      have A1 : ∀ v : World, (Op.stringOp .add (bs p.1) ⟨#[61]⟩).run Try.prog v = .ok (.string (bs (p.1 ++ [61]))) v := fun v => by
        rw [show (⟨#[61]⟩ : ByteArray) = bs [61] by rw [← bs_eq]]
        exact add_any _ _ (by simp; omega) v
      have A2 : ∀ v : World, (Op.stringOp .add (bs (p.1 ++ [61])) (bs p.2)).run Try.prog v = .ok (.string (bs (txt p))) v := fun v => add_any _ _ (by simp; omega) v
      have hone : sv1 ((Z.take (j + 1)).map txt) = sv1 ((Z.take j).map txt) ++ [Value.string (bs (txt p))] := by rw [htk]; simp [sv1]
      obtain ⟨t, ht⟩ : ∃ t, t = bs (txt p) := ⟨_, rfl⟩
      rw [← ht] at A2 hone
      have HONE := Lib.hid hone
      generalize bs (p.1 ++ [61]) = y at *
      generalize bs p.1 = x1 at *
      generalize bs p.2 = x2 at *
      clear ht htk hone hr hcc hbk hsh
      have hsw := HB.out.size
      go_wp2_with (refine wpList_append_where rfl _ _ 51 rfl w.heap.size 9 i0 (.string ⟨#[]⟩) 1 16 Try.underlying51 hi hz0 hz1 hz2 rfl (by decide) _ j _ rfl ((HO.out.alloc _).alloc _) ⟨wr.heap.size + 1, 0, none⟩ 1 1 [.string t] rfl (by omega) rfl (news_row (heap_alloc2_new _ _ _)) (one_word _) (by unfold maxLen; omega) (by omega) (by simp; omega) ?_; intro g7 cap7 w7 H7 G7 K7; go_frame)
      have B7 := ((HB.out.alloc hsw (.cells #[.string x1, .string x2] 32)).alloc (by simp; omega) (.cells #[.string t] 9)).grown G7.out (by simp; omega) (fun k hk => (HO.out.lt k hk).1)
      go_roundw
      case rel =>
        refine ⟨j + 1, by omega, by go_num, Lib.hid (by rw [HONE.out]; exact H7.out), Lib.hid (fun gk h => ?_), Lib.hid B7, Lib.hid (fun k h1 h2 => ?_), ?_⟩
        · simp only [Value.ownBlock, Option.some.injEq] at h
          subst h
          rcases K7.out with h | h
          · exact HW.out _ h
          · right; simp at h; omega
        · have n1 : k < wr.heap.size := by omega
          have n2 : k < (wr.alloc (.cells #[.string x1, .string x2] 32)).heap.size := by simp; omega
          have n3 : k < ((wr.alloc (.cells #[.string x1, .string x2] 32)).alloc (.cells #[.string t] 9)).heap.size := by simp; omega
          exact (G7.out.block k n3 (fun e => by rcases HW.out k e.symm with h | h <;> omega)).trans ((heap_alloc_old _ _ k n2).trans ((heap_alloc_old _ _ k n1).trans (HK.out k h1 h2)))
        · have := G7.out.size
          simp at this
          omega
      case measure => simp [intOf]; omega
    · obtain rfl : j = n := by omega
      have e0 : Z.take j = Z := by rw [HN.out, List.take_length]
      rw [e0] at HO
      have hZl : (Z.map txt).length = j := by rw [List.length_map, HN.out]
      obtain ⟨L, hL⟩ : ∃ L, L = Z.map txt := ⟨_, rfl⟩
      rw [← hL] at HO hZl hcan
      have HL := Lib.hid hL
      clear e0 hL HF HK HW
      rcases HO.out.2 with ⟨hv, h0⟩ | ⟨g, cap, cur, hv, _, hgh, _, hcm, hcs, _⟩
      · have hL0 : L = [] := List.eq_nil_of_length_eq_zero (by omega)
        have JN := Lib.hid (fun v : World => Join_none none 0 v)
        subst hv
        go_wp2_with (go_at_call 32; refine (JN.out _).mono ?_; rintro e w' ⟨rfl, hw⟩; obtain rfl := hw.symm; clear hw)
        go_ret
        refine ⟨?_, HB.out⟩
        rw [← HL.out, hL0]
        rfl
      · subst hv
        have hr : wr.rangeAt g 0 (sv1 L) := range_of_own HO.out
        have hcap : L.length ≤ cap := by
          rcases HO.out.2 with ⟨hv, _⟩ | ⟨g', cap', cur', hv, _, _, hc', _⟩
          · cases hv
          · cases hv; omega
        have JS := Lib.hid (Join_some g cap L wr hr (lt_of_heap hgh) (by omega) hcap hcan)
        rw [hZl] at JS
        clear hr hcap
        obtain ⟨x, hx⟩ : ∃ x, x = bs (Lib.join L [38]) := ⟨_, rfl⟩
        have HX := Lib.hid hx
        rw [← hx] at JS
        clear hx
        go_wp2_with (go_at_call 32; refine JS.out.mono ?_; rintro e w5 ⟨rfl, hb5⟩; have HB5 := Lib.hid (bthen HB.out hb5); clear hb5)
        go_ret
        refine ⟨?_, HB5.out⟩
        rw [← HL.out, ← HX.out]
        rfl
end Go.Proofs.Ytiodbkloecpdcaa
