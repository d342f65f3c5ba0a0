/- A query as it is signed: the program's answer. -/
import Derived.Test.YtiodbkloecpdcaaUEncd
namespace Go.Proofs.Ytiodbkloecpdcaa
open Go.RowKit

/-- A pair's text. -/
def txt (p : Ur.Pr) : List UInt8 := p.1 ++ [61] ++ p.2
/-- A query as it is signed. -/
def canon (l : List Ur.Pr) : List UInt8 := Lib.join ((srt (l.map ep)).map txt) [38]
theorem infoString : (Try.prog.info? 9).map (fun i => (i.zero, i.size, i.bytes)) = some (some (.string ⟨#[]⟩), 1, 16) := by kernel_rfl
theorem take_txt (l : List Ur.Pr) (j : Nat) (h : j < l.length) : ((l.take (j + 1)).map txt) = (l.take j).map txt ++ [txt (l.getD j ([], []))] := by
  rw [take_pr l j h, List.map_append]; rfl
def sv1 (l : List (List UInt8)) : List Value := l.map (fun t => Value.string (bs t))
theorem one_word (a : ByteArray) : ∀ v ∈ [Value.string a], v.oneCell' = true := by intro u hu; simp only [List.mem_singleton] at hu; rw [hu]; rfl
/-- All pairs of a list put in escapes and sorted are short. -/
theorem srt_short (l : List Ur.Pr) (N : Nat) (h : Short N l) : Short (3 * N) (srt (l.map ep)) := by
  intro p hp
  have hp2 := (srt_perm _).mem_iff.1 hp
  obtain ⟨q, hq, rfl⟩ := List.mem_map.1 hp2
  have := h q hq
  have a := Ur.enc_len Ur.fre q.1
  have b := Ur.enc_len Ur.fre q.2
  unfold ep
  simp only
  omega
theorem sv1_len (l : List (List UInt8)) : (sv1 l).length = l.length := by simp [sv1]
theorem Join_none (a : Option Addr) (c : Nat) (w : World) : Calls Try.prog 32 #[.slice a 0 c, .string ⟨#[38]⟩] w fun e w' => e = .returned (.string (bs [])) ∧ w' = w := by
  have h := u_strings_Join_none a c ⟨#[38]⟩ w
  rw [bs_nil] at h
  exact h
theorem Join_some (g c : Nat) (L : List (List UInt8)) (w : World) (hr : w.rangeAt g 0 (sv1 L)) (hg : g < w.heap.size) (hN : L.length ≤ 140737488355328) (hc : L.length ≤ c) (hlen : (Lib.join L [38]).length ≤ 140737488355328) :
    Calls Try.prog 32 #[.slice (some ⟨g, 0, none⟩) L.length c, .string ⟨#[38]⟩] w fun e w' => e = .returned (.string (bs (Lib.join L [38]))) ∧ Below w.heap.size w w' := by
  have e1 : (L.map bs).map (·.data.toList) = L := by
    rw [List.map_map]
    conv => rhs; rw [← List.map_id L]
    refine List.map_congr_left (fun x _ => ?_)
    simp [bs_list]
  have h := u_strings_Join g 0 c (L.map bs) ⟨#[38]⟩ w (fun j x hx => by
    have hx2 : (sv1 L)[j]? = some (.string x) := by
      unfold sv1
      rw [List.getElem?_map] at hx ⊢
      cases hL : L[j]? with
      | none => rw [hL] at hx; cases hx
      | some t =>
        rw [hL] at hx
        simp only [Option.map_some, Option.some.injEq] at hx ⊢
        rw [hx]
    exact hr j _ hx2) hg (by rw [List.length_map]; exact hN) (by rw [List.length_map]; exact hc) (by rw [e1]; exact hlen)
  rw [e1, List.length_map, show (⟨#[38]⟩ : ByteArray).data.toList = [38] from rfl, bs_eq (Lib.join L [38])] at h
  exact h
set_option maxRecDepth 100000 in
set_option maxHeartbeats 8000000 in
theorem Canon_any (sv : Value) (zs : List Ur.Pr) (hlen : zs.length ≤ 1099511627776) (hsh : Short 35184372088832 zs) (hcan : (canon zs).length ≤ 140737488355328) (w : World) (hI : PairsAt w.heap.size w sv zs) :
    Calls Try.prog 13 #[sv] w fun e W' => e = .returned (.string (bs (canon zs))) ∧ Below w.heap.size w W' := by
  obtain ⟨i0, hi, hz0, hz1, hz2⟩ := info_parts infoString
  obtain ⟨a, c, hsv⟩ : ∃ a c, sv = .slice a zs.length c := by
    rcases hI with ⟨h, h0⟩ | ⟨b, off, cap, h, _⟩
    · exact ⟨none, 0, by rw [h, h0]; rfl⟩
    · exact ⟨_, _, h⟩
  subst hsv
  have hss := srt_short zs _ hsh
  have hsl : (srt (zs.map ep)).length = zs.length := by rw [(srt_perm _).length_eq, List.length_map]
  unfold canon at hcan ⊢
  have CE := Lib.hid (fun (v : World) (h : Below w.heap.size w v) => encoded_any (.slice a zs.length c) zs hlen hsh v ((hI.below h).elim .inl (fun ⟨b, off, cap, e, hb', hr⟩ => .inr ⟨b, off, cap, e, Nat.lt_of_lt_of_le hb' h.size, hr⟩)))
  have CS := Lib.hid (fun (u : Value) (v : World) h => sorted_any u (zs.map ep) (by rw [List.length_map]; omega) v h)
  obtain ⟨Z, hZ⟩ : ∃ Z, Z = srt (zs.map ep) := ⟨_, rfl⟩
  rw [← hZ] at hss hsl hcan CS ⊢
  have HSS := Lib.hid hss
  clear hZ hI hsh hss
  go_enter Try.func13, Try.ntmps13
  go_wp2_with (first | (refine wpList_make_zero rfl 51 _ _ rfl 9 i0 _ 1 16 Try.underlying51 hi hz0 hz1 hz2 zs.length rfl rfl (by omega) (by unfold maxLen; omega) ?_; intro w2 HOWN HB2; go_frame) | (go_at_call 31; refine (CE.out _ HB2.out).mono ?_; rintro e w3 ⟨u3, rfl, ho3, hb3⟩; have HO3 := Lib.hid ho3; have HOW3 := Lib.hid (own_below HOWN.out hb3); have HB3 := Lib.hid (bthen HB2.out hb3); have h23 := hb3.size; clear ho3 hb3))
  refine (CS.out u3 w3 (pairsAt_self (l := zs.map ep) (by rw [List.length_map]; exact HO3.out) rfl (Nat.le_refl _))).mono ?_
  rintro e w4 ⟨u4, rfl, hp4, hb4⟩
  have hwg : w.heap.size < w2.heap.size := (HOWN.out.lt _ rfl).2
  have HO4 := Lib.hid (own_below HOW3.out hb4)
  have HB4 := Lib.hid (bthen HB3.out hb4)
  have h34 := hb4.size
  obtain ⟨a4, c4, e4, HF⟩ : ∃ a4 c4, u4 = .slice a4 Z.length c4 ∧ Hid (Z.length = 0 ∨ ∃ g, a4 = some ⟨g, 0, none⟩ ∧ w3.heap.size ≤ g ∧ g < w4.heap.size ∧ w4.rangeAt g 0 (prs Z)) := by
    rcases hp4 with ⟨h1, h2⟩ | ⟨g, cap, h1, h2, h3, h4⟩
    · exact ⟨none, 0, by rw [h1, h2]; rfl, Lib.hid (.inl (by rw [h2]; rfl))⟩
    · exact ⟨_, _, h1, Lib.hid (.inr ⟨g, rfl, h2, h3, h4⟩)⟩
  subst e4
  obtain ⟨n, hn⟩ : ∃ n, n = Z.length := ⟨_, rfl⟩
  have hnl : n ≤ 1099511627776 := by omega
  have HN := Lib.hid hn
  rw [← hn] at HF ⊢
  clear hn hsl hp4 hb4 CS CE HB3 HOW3 HO3 HB2 HOWN
  go_wp2_with fail
  go_loopw [3, 13] (fun v iv wr => ∃ j : Nat, j ≤ n ∧ iv = .int .i64 j ∧ Hid (wr.ownsRow w.heap.size 9 1 v j (sv1 ((Z.take j).map txt))) ∧ Hid (∀ gk, v.ownBlock = some gk → gk = w.heap.size ∨ w4.heap.size ≤ gk) ∧ Hid (Below w.heap.size w wr) ∧ Hid (∀ k, w2.heap.size ≤ k → k < w4.heap.size → wr.heap[k]? = w4.heap[k]?) ∧ w4.heap.size ≤ wr.heap.size) (fun _ iv _ => n - (intOf iv).toNat)
  case atStart => exact ⟨0, by omega, rfl, by simpa [sv1] using HO4, Lib.hid (fun gk h => by simp only [Value.ownBlock, Option.some.injEq] at h; omega), HB4, Lib.hid (fun _ _ _ => rfl), Nat.le_refl _⟩
  case round =>
    clear HO4 HB4
    obtain ⟨j, hj, rfl, HO, HW, HB, HK, hs⟩ := hrel
    by_cases hlt : j < n
    · have hjZ : j < Z.length := by rw [← HN.out]; exact hlt
      obtain ⟨g, rfl, hg3, hg4, hr⟩ : ∃ g, a4 = some ⟨g, 0, none⟩ ∧ w3.heap.size ≤ g ∧ g < w4.heap.size ∧ w4.rangeAt g 0 (prs Z) := by
        rcases HF.out with h | h
        · omega
        · exact h
      have hbk := HK.out g (by omega) hg4
      have hcc := PairsAt.cells hr hjZ
      rw [Nat.zero_add] at hcc
      have hc0 := (World.cell?_of_block (w := w4) (a := ⟨g, j * 2, none⟩) hbk).trans hcc.1
      have hc1 := (World.cell?_of_block (w := w4) (a := ⟨g, j * 2 + 1, none⟩) hbk).trans hcc.2
      have hsh := HSS.out.at_ j hjZ
      have htk := take_txt Z j hjZ
      generalize Z.getD j ([], []) = p at *
      have A1 : ∀ v : World, (Op.stringOp .add (bs p.1) ⟨#[61]⟩).run Try.prog v = .ok (.string (bs (p.1 ++ [61]))) v := fun v => by
        rw [show (⟨#[61]⟩ : ByteArray) = bs [61] by rw [← bs_eq]]
        exact add_any _ _ (by simp; omega) v
      have A2 : ∀ v : World, (Op.stringOp .add (bs (p.1 ++ [61])) (bs p.2)).run Try.prog v = .ok (.string (bs (txt p))) v := fun v => add_any _ _ (by simp; omega) v
      have hone : sv1 ((Z.take (j + 1)).map txt) = sv1 ((Z.take j).map txt) ++ [Value.string (bs (txt p))] := by rw [htk]; simp [sv1]
      obtain ⟨t, ht⟩ : ∃ t, t = bs (txt p) := ⟨_, rfl⟩
      rw [← ht] at A2 hone
      have HONE := Lib.hid hone
      generalize bs (p.1 ++ [61]) = y at *
      generalize bs p.1 = x1 at *
      generalize bs p.2 = x2 at *
      clear ht htk hone hr hcc hbk hsh
      have hsw := HB.out.size
      go_wp2_with (refine wpList_append_where rfl _ _ 51 rfl w.heap.size 9 i0 (.string ⟨#[]⟩) 1 16 Try.underlying51 hi hz0 hz1 hz2 rfl (by decide) _ j _ rfl ((HO.out.alloc _).alloc _) ⟨wr.heap.size + 1, 0, none⟩ 1 1 [.string t] rfl (by omega) rfl (news_row (heap_alloc2_new _ _ _)) (one_word _) (by unfold maxLen; omega) (by omega) (by simp; omega) ?_; intro g7 cap7 w7 H7 G7 K7; go_frame)
      have B7 := ((HB.out.alloc hsw (.cells #[.string x1, .string x2] 32)).alloc (by simp; omega) (.cells #[.string t] 9)).grown G7.out (by simp; omega) (fun k hk => (HO.out.lt k hk).1)
      go_roundw
      case rel =>
        refine ⟨j + 1, by omega, by go_num, Lib.hid (by rw [HONE.out]; exact H7.out), Lib.hid (fun gk h => ?_), Lib.hid B7, Lib.hid (fun k h1 h2 => ?_), ?_⟩
        · simp only [Value.ownBlock, Option.some.injEq] at h
          subst h
          rcases K7.out with h | h
          · exact HW.out _ h
          · right; simp at h; omega
        · have n1 : k < wr.heap.size := by omega
          have n2 : k < (wr.alloc (.cells #[.string x1, .string x2] 32)).heap.size := by simp; omega
          have n3 : k < ((wr.alloc (.cells #[.string x1, .string x2] 32)).alloc (.cells #[.string t] 9)).heap.size := by simp; omega
          exact (G7.out.block k n3 (fun e => by rcases HW.out k e.symm with h | h <;> omega)).trans ((heap_alloc_old _ _ k n2).trans ((heap_alloc_old _ _ k n1).trans (HK.out k h1 h2)))
        · have := G7.out.size
          simp at this
          omega
      case measure => simp [intOf]; omega
    · obtain rfl : j = n := by omega
      have e0 : Z.take j = Z := by rw [HN.out, List.take_length]
      rw [e0] at HO
      have hZl : (Z.map txt).length = j := by rw [List.length_map, HN.out]
      obtain ⟨L, hL⟩ : ∃ L, L = Z.map txt := ⟨_, rfl⟩
      rw [← hL] at HO hZl hcan
      have HL := Lib.hid hL
      clear e0 hL HF HK HW
      rcases HO.out.2 with ⟨hv, h0⟩ | ⟨g, cap, cur, hv, _, hgh, _, hcm, hcs, _⟩
      · have hL0 : L = [] := List.eq_nil_of_length_eq_zero (by omega)
        have JN := Lib.hid (fun v : World => Join_none none 0 v)
        subst hv
        go_wp2_with (go_at_call 32; refine (JN.out _).mono ?_; rintro e w' ⟨rfl, hw⟩; obtain rfl := hw.symm; clear hw)
        go_ret
        refine ⟨?_, HB.out⟩
        rw [← HL.out, hL0]
        rfl
      · subst hv
        have hr : wr.rangeAt g 0 (sv1 L) := range_of_own HO.out
        have hcap : L.length ≤ cap := by
          rcases HO.out.2 with ⟨hv, _⟩ | ⟨g', cap', cur', hv, _, _, hc', _⟩
          · cases hv
          · cases hv; omega
        have JS := Lib.hid (Join_some g cap L wr hr (lt_of_heap hgh) (by omega) hcap hcan)
        rw [hZl] at JS
        clear hr hcap
        obtain ⟨x, hx⟩ : ∃ x, x = bs (Lib.join L [38]) := ⟨_, rfl⟩
        have HX := Lib.hid hx
        rw [← hx] at JS
        clear hx
        go_wp2_with (go_at_call 32; refine JS.out.mono ?_; rintro e w5 ⟨rfl, hb5⟩; have HB5 := Lib.hid (bthen HB.out hb5); clear hb5)
        go_ret
        refine ⟨?_, HB5.out⟩
        rw [← HL.out, ← HX.out]
        rfl
end Go.Proofs.Ytiodbkloecpdcaa
