/- Pairs sorted; pairs in escapes. -/
import Derived.Test.YtiodbkloecpdcaaUColl
namespace Go.Proofs.Ytiodbkloecpdcaa
open Go.RowKit

theorem pairsAt_self {w w' : World} {B B' : Nat} {v : Value} {l : List Ur.Pr} (h : w'.ownsRow B 32 2 v l.length (prs l)) (hw : w = w') (hB : w'.heap.size ≤ B') : PairsAt B' w v l := by
  subst hw
  rcases h.2 with ⟨hv, h0⟩ | ⟨g, cap, cur, hv, _, hg, _⟩
  · exact .inl ⟨hv, List.eq_nil_of_length_eq_zero h0⟩
  · subst hv
    refine .inr ⟨g, 0, cap, rfl, Nat.lt_of_lt_of_le (lt_of_heap hg) hB, fun j u hj => ?_⟩
    have := h.cells (g := g) rfl j u hj
    rw [Addr.add_mid] at this
    exact this
/-- A slice that holds pairs, in a block made since B, or none. -/
def PairsNew (B : Nat) (W : World) (v : Value) (l : List Ur.Pr) : Prop :=
  (v = .slice none 0 0 ∧ l = []) ∨ ∃ g cap, v = .slice (some ⟨g, 0, none⟩) l.length cap ∧ B ≤ g ∧ g < W.heap.size ∧ W.rangeAt g 0 (prs l)
set_option maxHeartbeats 1000000 in
theorem SortedFunc_any (Bs : Nat) (sv : Value) (zs : List Ur.Pr) (hlen : zs.length * 32 ≤ 140737488351232) (w : World) (hBs : Bs < w.heap.size) (hc : w.cell? ⟨Bs, 0, none⟩ = some sv) (hI : PairsAt w.heap.size w sv zs) :
    Calls Try.prog 53 #[.func (.func 75) #[] #[.pointer (some ⟨Bs, 0, none⟩)], .func (.func 55) #[] #[]] w fun e W' => ∃ v, e = .returned v ∧ PairsNew w.heap.size W' v (srt zs) ∧ Below w.heap.size w W' := by
  have C := Lib.hid (Collect_any Bs sv zs hlen w hBs hc hI)
  have hl : zs.length < 4611686018427387904 := by omega
  clear hlen hc hI hBs
  go_enter Try.func53, Try.ntmps53
  go_wp2_with (go_at_call 73; refine C.out.mono ?_; rintro e w2 ⟨v, rfl, ho, hb⟩)
  have ho2 := ho.2
  rcases ho2 with ⟨hv, h0⟩ | ⟨g, cap, cur, hv, hgB, _⟩
  · have hz : zs = [] := List.eq_nil_of_length_eq_zero h0
    subst hz hv
    have C2 := Lib.hid (SortFunc_nil w2)
    have HB := Lib.hid hb
    clear C ho hb hl h0
    go_wp2_with (go_at_call 74; refine C2.out.mono ?_; rintro e w3 ⟨rfl, hw⟩; obtain rfl := hw.symm; clear hw)
    go_ret
    exact ⟨_, rfl, .inl ⟨rfl, List.mergeSort_nil⟩, HB.out⟩
  · subst hv
    have C2 := Lib.hid (SortFunc_any w.heap.size g cap zs hgB w2 hb.size hl ho)
    have HB := Lib.hid hb
    have HO := Lib.hid ho
    have hgl : g < w2.heap.size := (ho.lt g rfl).2
    clear C ho hb
    go_wp2_with (go_at_call 74; refine C2.out.mono ?_; rintro e w3 ⟨rfl, hr, hb3⟩; have HR := Lib.hid hr; have HB3 := Lib.hid hb3; clear hr hb3)
    go_ret
    refine ⟨_, rfl, .inr ⟨g, cap, ?_, hgB, Nat.lt_of_lt_of_le hgl HB3.out.size, HR.out⟩, HB.out.trans HB3.out⟩
    rw [(srt_perm zs).length_eq]
    rfl
theorem sorted_any (sv : Value) (zs : List Ur.Pr) (hlen : zs.length * 32 ≤ 140737488351232) (w : World) (hI : PairsAt w.heap.size w sv zs) :
    Calls Try.prog 30 #[sv] w fun e W' => ∃ v, e = .returned v ∧ PairsNew w.heap.size W' v (srt zs) ∧ Below w.heap.size w W' := by
  obtain ⟨a, n, c, hsv⟩ : ∃ a n c, sv = .slice a n c := by
    rcases hI with ⟨h, _⟩ | ⟨b, off, cap, h, _⟩
    · exact ⟨_, _, _, h⟩
    · exact ⟨_, _, _, h⟩
  subst hsv
  have CV := Lib.hid (fun v : World => Values_any a n c v)
  have HI := Lib.hid hI
  clear hI
  go_enter Try.func30, Try.ntmps30
  go_wp2_with (first | (go_at_call 54; refine (CV.out _).mono ?_; rintro e w2 ⟨b, rfl, hc, hb, hbl⟩; have HC := Lib.hid hc; have HB := Lib.hid hb; have CS := Lib.hid (SortedFunc_any b _ zs hlen w2 (lt_of_cell hc) hc ((HI.out.below hb).elim (fun h => .inl h) (fun ⟨b, off, cap, e, hb', hr⟩ => .inr ⟨b, off, cap, e, Nat.lt_of_lt_of_le hb' hb.size, hr⟩))); clear hc hb) | (go_at_call 53; refine CS.out.mono ?_; rintro e w3 ⟨v, rfl, hp, hb3⟩; have HP := Lib.hid hp; have HB3 := Lib.hid (bthen HB.out hb3); clear hp hb3))
  go_ret
  exact ⟨_, rfl, HP.out.elim .inl (fun ⟨g, cap, h1, h2, h3⟩ => .inr ⟨g, cap, h1, Nat.le_trans HB.out.size h2, h3⟩), HB3.out⟩
theorem wpList_make_zero {P : Program} {w : World} {ops : Array Oper} {rest : List Oper} {o : Oper} {a : Act} {Q : Exit → Act → World → Prop} (hgd : o.guard = none) (t : TypeId) (x y : Operand) (ho : o.op = .makeSlice t x y)
    (e : TypeId) (i : TypeInfo) (z : Value) (size bytes : Nat) (ht : P.underlying t = some (.slice e)) (hi : P.info? e = some i) (hz : i.zero = some z) (hsz : i.size = size) (hby : i.bytes = bytes)
    (c : Nat) (hx : a.eval x = .int .i64 0) (hy : a.eval y = .int .i64 c) (hbytes : bytes * c ≤ 281474976710656) (hmax : c ≤ maxLen)
    (h : ∀ w', Hid (w'.ownsRow w.heap.size e size (.slice (some ⟨w.heap.size, 0, none⟩) 0 c) 0 []) → Hid (Below w.heap.size w w') →
      wpList P ops Q rest (a.put o.dst (.slice (some ⟨w.heap.size, 0, none⟩) 0 c)) w') : wpList P ops Q (o :: rest) a w := by
  obtain ⟨w', hrun, hown, hg⟩ := run_make_own (P := P) w w.heap.size t e i z size ht hi hz hsz .i64 .i64 c (by rw [hby]; exact hbytes) hmax (Nat.le_refl _)
  refine wpList_run hgd _ w' ?_ (h _ (Lib.hid hown) (Lib.hid ((Below.refl _ _).grown hg (Nat.le_refl _) (fun k e => by cases e))))
  unfold execOp
  simp only [ho, hx, hy, Sem.run_bind, hrun, Result.andThen_ok]
  rfl
/-- A pair in escapes. -/
def ep (p : Ur.Pr) : Ur.Pr := (Ur.enc Ur.fre p.1, Ur.enc Ur.fre p.2)
theorem ep_take (l : List Ur.Pr) (j : Nat) (h : j < l.length) : (l.take (j + 1)).map ep = (l.take j).map ep ++ [ep (l.getD j ([], []))] := by
  rw [take_pr l j h, List.map_append]; rfl
/-- All texts are short. -/
def Short (N : Nat) (l : List Ur.Pr) : Prop := ∀ p ∈ l, p.1.length ≤ N ∧ p.2.length ≤ N
theorem Short.at_ {N : Nat} {l : List Ur.Pr} (h : Short N l) (j : Nat) (hj : j < l.length) : (l.getD j ([], [])).1.length ≤ N ∧ (l.getD j ([], [])).2.length ≤ N := by
  rw [List.getD, List.getElem?_eq_getElem hj]
  exact h _ (List.getElem_mem hj)
theorem Encode_fre (S : List UInt8) (hS : S.length ≤ 35184372088832) (w : World) : Calls Try.prog 12 #[.string (bs S), .bool true] w fun e w' => e = .returned (.string (bs (Ur.enc Ur.fre S))) ∧ Below w.heap.size w w' := Encode_any S hS true w
theorem two_words (a b : ByteArray) (w : World) (T : TypeId) : ∀ j u, [Value.string a, .string b][j]? = some u → ((w.alloc (.cells #[.string a, .string b] T)).drew).cell? ((⟨w.heap.size, 0, none⟩ : Addr).add j) = some u := news_two w _ _ T
theorem own_drew2 {w : World} {B n size : Nat} {e : TypeId} {v : Value} {xs : List Value} (h : w.ownsRow B e size v n xs) : w.drew.ownsRow B e size v n xs := h
set_option maxRecDepth 100000 in
set_option maxHeartbeats 8000000 in
theorem encoded_any (sv : Value) (zs : List Ur.Pr) (hlen : zs.length ≤ 1099511627776) (hsh : Short 35184372088832 zs) (w : World) (hI : PairsAt w.heap.size w sv zs) :
    Calls Try.prog 31 #[sv] w fun e W' => ∃ v, e = .returned v ∧ W'.ownsRow w.heap.size 32 2 v zs.length (prs (zs.map ep)) ∧ Below w.heap.size w W' := by
  obtain ⟨i0, hi, hz0, hz1, hz2⟩ := info_parts infoPair
  obtain ⟨a, c, hsv⟩ : ∃ a c, sv = .slice a zs.length c := by
    rcases hI with ⟨h, h0⟩ | ⟨b, off, cap, h, _⟩
    · exact ⟨none, 0, by rw [h, h0]; rfl⟩
    · exact ⟨_, _, h⟩
  subst hsv
  have HI := Lib.hid hI
  have HSH := Lib.hid hsh
  clear hI hsh
  go_enter Try.func31, Try.ntmps31
  go_wp2_with (refine wpList_make_zero rfl 22 _ _ rfl 32 i0 _ 2 32 Try.underlying22 hi hz0 hz1 hz2 zs.length rfl rfl (by omega) (by unfold maxLen; omega) ?_; intro w2 HOWN HB2; go_frame)
  go_loopw [3, 11] (fun v iv wr => ∃ j : Nat, j ≤ zs.length ∧ iv = .int .i64 j ∧ Hid (wr.ownsRow w.heap.size 32 2 v j (prs ((zs.take j).map ep))) ∧ Hid (Below w.heap.size w wr)) (fun _ iv _ => zs.length - (intOf iv).toNat)
  case atStart => exact ⟨0, by omega, rfl, by simpa [prs] using HOWN, HB2⟩
  case round =>
    clear HOWN HB2
    obtain ⟨j, hj, rfl, HO, HB⟩ := hrel
    by_cases hlt : j < zs.length
    · have hcell : ∃ b off, a = some ⟨b, off, none⟩ ∧ b < w.heap.size ∧ w.rangeAt b off (prs zs) := by
        rcases HI.out with ⟨h, h0⟩ | ⟨b, off, cap, h, hb, hr⟩
        · rw [h0] at hlt; simp at hlt
        · simp only [Value.slice.injEq] at h
          exact ⟨b, off, h.1, hb, hr⟩
      obtain ⟨b, off, rfl, hbw, hr⟩ := hcell
      have hcc := PairsAt.cells hr hlt
      have hc0 := (HB.out.cell (p := ⟨b, off + j * 2, none⟩) hbw).trans hcc.1
      have hc1 := (HB.out.cell (p := ⟨b, off + j * 2 + 1, none⟩) hbw).trans hcc.2
      have hst := HSH.out.at_ j hlt
      have htk := ep_take zs j hlt
      have E1 := Lib.hid (fun v : World => Encode_fre (zs.getD j ([], [])).1 hst.1 v)
      have E2 := Lib.hid (fun v : World => Encode_fre (zs.getD j ([], [])).2 hst.2 v)
      have hsr := HB.out.size
      generalize (zs.getD j ([], [])) = p at *
      obtain ⟨y1, hy1⟩ : ∃ y, y = bs (Ur.enc Ur.fre p.1) := ⟨_, rfl⟩
      obtain ⟨y2, hy2⟩ : ∃ y, y = bs (Ur.enc Ur.fre p.2) := ⟨_, rfl⟩
      have hpo : prs [ep p] = [Value.string (bs (Ur.enc Ur.fre p.1)), .string (bs (Ur.enc Ur.fre p.2))] := prs_one _ _
      rw [← hy1, ← hy2] at hpo
      rw [← hy1] at E1
      rw [← hy2] at E2
      generalize bs p.1 = x1 at *
      generalize bs p.2 = x2 at *
      have HPO := Lib.hid hpo
      have HTK := Lib.hid htk
      clear hr hcc hst htk hpo hy1 hy2
      go_wp2_with fail
      obtain ⟨w1, hw1⟩ : ∃ x, x = wr.alloc (.cells #[.string x1, .string x2] 32) := ⟨_, rfl⟩
      obtain ⟨pb, hpb⟩ : ∃ n, n = wr.heap.size := ⟨_, rfl⟩
      have g1 : w1.heap[pb]? = some (.cells [Value.string x1, .string x2].toArray 32 (0, 0)) := by rw [hw1, hpb]; exact heap_alloc_new _ _
      have HO1 := Lib.hid (show w1.ownsRow w.heap.size 32 2 u3 j (prs ((zs.take j).map ep)) by rw [hw1]; exact HO.out.alloc _)
      have HB1 := Lib.hid (show Below w.heap.size w w1 by rw [hw1]; exact HB.out.alloc hsr _)
      have d0 := cell_of_list g1 0
      have d1 := cell_of_list g1 1
      simp only [List.getElem?_cons_zero, List.getElem?_cons_succ] at d0 d1
      have hpl := lt_of_heap g1
      rw [← hw1, ← hpb]
      clear hw1 hpb g1 hc0 hc1 HO HB hsr
      go_region_law (first
        | (go_simp; go_at_call 12; first
          | ((with_reducible refine (E1.out _).mono ?_); rintro e w5 ⟨rfl, hb5⟩; have O5 := Lib.hid (own_below (own_drew2 HO1.out) hb5); have B5 := Lib.hid (HB1.out.drew.trans (hb5.mono HB1.out.size)); have d5 := (hb5.cell (p := ⟨pb, 1, none⟩) hpl).trans d1; have s5 := B5.out.size; clear hb5)
          | ((with_reducible refine (E2.out _).mono ?_); rintro e w6 ⟨rfl, hb6⟩; have O6 := Lib.hid (own_below O5.out hb6); have B6 := Lib.hid (B5.out.trans (hb6.mono s5)); have s6 := B6.out.size; clear hb6))
        | (refine step_append_own rfl _ _ 22 rfl w.heap.size 32 i0 (.agg #[.string ⟨#[]⟩, .string ⟨#[]⟩]) 2 32 Try.underlying22 hi hz0 hz1 hz2 rfl (by decide) _ j _ rfl (O6.out.alloc _) ⟨w6.heap.size, 0, none⟩ 1 1 [.string y1, .string y2] rfl (by omega) rfl (news_row (heap_alloc_new _ _)) (one_str _ _) (by unfold maxLen; omega) (by omega) (by simp; omega) ?_; intro g9 cap9 w9 h9 hg9 hk9))
      all_goals
        go_wp2_with fail
        go_roundw
        case rel =>
          refine ⟨j + 1, by omega, by go_num, Lib.hid ?_, Lib.hid ?_⟩
          · rw [HTK.out, prs_append, HPO.out]; exact h9.out
          · exact (B6.out.alloc s6 _).grown hg9.out (by simp; omega) (fun q hq => (O6.out.lt q hq).1)
        case measure => simp [intOf]; omega
    · obtain rfl : j = zs.length := by omega
      go_wp2_with fail
      go_ret
      exact ⟨_, rfl, by have := HO.out; rwa [List.take_length] at this, HB.out⟩
end Go.Proofs.Ytiodbkloecpdcaa
