/- The program reads a query. -/
import Derived.Test.YtiodbkloecpdcaaUPair
namespace Go.Proofs.Ytiodbkloecpdcaa
open Go.RowKit

theorem infoPair : (Try.prog.info? 32).map (fun i => (i.zero, i.size, i.bytes)) = some (some (.agg #[.string ⟨#[]⟩, .string ⟨#[]⟩]), 2, 32) := by kernel_rfl
/-- The cells of pairs. -/
def prs (l : List Ur.Pr) : List Value := l.flatMap (fun p => [Value.string (bs p.1), .string (bs p.2)])
theorem prs_append (a b : List Ur.Pr) : prs (a ++ b) = prs a ++ prs b := by simp [prs]
theorem prs_one (n v : List UInt8) : prs [(n, v)] = [Value.string (bs n), .string (bs v)] := by simp [prs]
theorem prs_len (l : List Ur.Pr) : (prs l).length = 2 * l.length := by
  induction l with
  | nil => rfl
  | cons p r ih => rw [show p :: r = [p] ++ r from rfl, prs_append, List.length_append, ih, List.length_append, prs_one p.1 p.2]; simp; omega
theorem own_kept {w w' : World} {B n size c : Nat} {e : TypeId} {v : Value} {xs : List Value} (h : w.ownsRow B e size v n xs) (hk : Kept w.heap.size [c] w w') (hc : c < B) : w'.ownsRow B e size v n xs := by
  refine ⟨h.1, ?_⟩
  rcases h.2 with h0 | ⟨g, cap, cur, h0, hB, hg, r⟩
  · exact Or.inl h0
  · exact Or.inr ⟨g, cap, cur, h0, hB, (hk.block g (lt_of_heap hg) (by simp only [List.mem_singleton]; omega)).trans hg, r⟩
theorem own_base {w : World} {B B' n size : Nat} {e : TypeId} {v : Value} {xs : List Value} (h : w.ownsRow B e size v n xs) (hb : B' ≤ B) : w.ownsRow B' e size v n xs := by
  refine ⟨h.1, ?_⟩
  rcases h.2 with h0 | ⟨g, cap, cur, h0, hB, r⟩
  · exact Or.inl h0
  · exact Or.inr ⟨g, cap, cur, h0, Nat.le_trans hb hB, r⟩
/-- What pairs hands back. -/
def Gives (B : Nat) (R : Ur.Qry) (e : Ending) (w' : World) : Prop :=
  match R with
  | .bad k => e = .returned (.tuple #[.slice none 0 0, .int .i64 52, .int .i64 (k : Int)])
  | .ok l => ∃ v, e = .returned (.tuple #[v, .int .i64 0, .int .i64 0]) ∧ w'.ownsRow B 32 2 v l.length (prs l)
theorem amp_any (S : List UInt8) (w : World) : Calls Try.prog 64 #[.string (bs S), .string ⟨#[38]⟩] w fun e w' => e = .returned (.int .i64 (S.count 38 : Nat)) ∧ w' = w := by
  have h := u_strings_Count_one (bs S) 38 w
  rw [bs_list] at h
  exact h
theorem is_38 (w : World) : Calls Try.prog 37 #[.int .u8 38] w fun e w' => ∃ b, e = .returned (.func (.func 63) #[] #[.pointer (some ⟨b, 0, none⟩)]) ∧ w'.cell? ⟨b, 0, none⟩ = some (.int .u8 ((38 : UInt8).toNat : Int)) ∧ Below w.heap.size w w' ∧ w.heap.size ≤ b := is_any 38 w
set_option maxRecDepth 100000 in
set_option maxHeartbeats 8000000 in
theorem pairs_any (S : List UInt8) (at_ : Nat) (hS : at_ + S.length ≤ 1099511627776) (w : World) : Calls Try.prog 38 #[.agg #[.string (bs S), .int .i64 at_]] w fun e w' => Gives w.heap.size (Ur.query at_ S) e w' ∧ Below w.heap.size w w' := by
  obtain ⟨i0, hi, hz0, hz1, hz2⟩ := info_parts infoPair
  have CC := Lib.hid (fun v : World => cutter_any S at_ v)
  have CN := Lib.hid (fun v : World => amp_any S v)
  have hcl := List.count_le_length (a := (38 : UInt8)) (l := S)
  obtain ⟨R, hR⟩ : ∃ R, R = Ur.query at_ S := ⟨_, rfl⟩
  rw [← hR]
  have DD := Lib.hid (show Ur.Qry.pre [] (Ur.qry (Ur.cuts 38 (1 + S.count 38) at_ S)) = R by rw [Ur.Qry.pre_nil, hR]; rfl)
  clear hR
  generalize S.count 38 = M at *
  obtain ⟨s, hs⟩ : ∃ s, s = bs S := ⟨_, rfl⟩
  rw [← hs] at CC CN ⊢
  clear hs
  go_enter Try.func38, Try.ntmps38
  obtain ⟨w1, hw1⟩ : ∃ x, x = w.alloc (.cells #[.string s, .int .i64 (at_ : Int)] 48) := ⟨_, rfl⟩
  have g1 : w1.heap[w.heap.size]? = some (.cells [Value.string s, .int .i64 (at_ : Int)].toArray 48 (0, 0)) := by rw [hw1]; exact heap_alloc_new _ _
  have b1 : Below w.heap.size w w1 := by rw [hw1]; exact (Below.refl _ _).alloc (Nat.le_refl _) _
  have hpb : w.heap.size < w1.heap.size := lt_of_heap g1
  have HG := Lib.hid g1
  have HB := Lib.hid b1
  clear g1 b1
  go_wp2_with fail
  rw [← hw1]
  clear hw1
  refine (CC.out _).mono ?_
  rintro e w2 ⟨cb, rfl, hL2, hb2, hcb⟩
  have HL := Lib.hid hL2
  have hcw : w.heap.size < cb := by omega
  replace HG := Lib.hid (kept_block HG.out hb2)
  have HB2 := Lib.hid (bthen HB.out hb2)
  have c0 := cell_of_list HG.out 0
  simp only [List.getElem?_cons_zero] at c0
  clear hb2 hL2 HB HG
  go_wp2_with (first | (go_at_call 64; refine (CN.out _).mono ?_; rintro e w' ⟨rfl, hw⟩; obtain rfl := hw.symm; clear hw))
  have hs2 : Below w2.heap.size w2 w2 := Below.refl _ _
  have hcb2 : cb < w2.heap.size := HL.out.lt
  clear hs2 c0 CN CC
  go_loopw [5, 17] (fun v cv wr => ∃ (j a : Nat) (L : List UInt8) (T : List Ur.Pr), j ≤ 1 + M ∧ cv = .int .i64 j ∧ a + L.length ≤ 1099511627776 ∧ T.length ≤ j ∧ w2.heap.size ≤ wr.heap.size ∧
    Hid (Ur.Qry.pre T (Ur.qry (Ur.cuts 38 (1 + M - j) a L)) = R) ∧ Hid (Left cb L a wr) ∧ Hid (wr.ownsRow w2.heap.size 32 2 v T.length (prs T)) ∧ Hid (Below w.heap.size w wr)) (fun _ cv _ => 1 + M - (intOf cv).toNat)
  case atStart => exact ⟨0, at_, S, [], by omega, rfl, hS, by simp, Nat.le_refl _, DD, HL, Lib.hid (by simpa [prs] using World.ownsRow_nil _ _ _ _), HB2⟩
  case round =>
    clear DD HL HB2
    obtain ⟨j, a, L, T, hj, rfl, haL, hT, hsr, hD, HL, HO, HB⟩ := hrel
    by_cases hlt : j < 1 + M
    · have hkl := Ur.len_le (· == 38) L
      have hcu : 1 + M - j = (1 + M - (j + 1)) + 1 := by omega
      have HD := hD.out
      rw [hcu, Ur.cuts, Ur.qry] at HD
      have K1 := Lib.hid (fun (bi : Nat) (v : World) hL hc => cut_is cb bi L a 38 (by omega) (by omega) v hL hc)
      clear hD hcu
      generalize Ur.len (· == 38) L = k at *
      have hPl : a + (L.take k).length ≤ 140737488355328 := by rw [List.length_take]; omega
      have haL2 : a + min (k + 1) L.length + (L.drop (k + 1)).length ≤ 1099511627776 := by rw [List.length_drop]; omega
      have CP := Lib.hid (fun v : World => pair_any (L.take k) a hPl v)
      generalize a + min (k + 1) L.length = a2 at *
      generalize L.drop (k + 1) = L2 at *
      generalize hP : L.take k = P at *
      clear hP hPl hkl
      by_cases hP0 : P = []
      · rw [if_pos hP0] at HD
        have q := bs_none
        rw [← hP0] at q
        have HDD := Lib.hid HD
        clear HD hP0 CP
        generalize bs P = x at *
        go_wp2_with (first | (go_at_call 37; refine (is_38 _).mono ?_; rintro e w5 ⟨bi, rfl, hci, hb5, hbi⟩; replace HO := Lib.hid (own_below HO.out hb5); have hs5 : w2.heap.size ≤ w5.heap.size := Nat.le_trans hsr hb5.size; replace HB := Lib.hid (bthen HB.out hb5); replace HL := Lib.hid (HL.out.below hb5); have HC := Lib.hid hci; clear hci hb5) | (go_at_call 62; (with_reducible refine (K1.out _ _ HL.out HC.out).mono ?_); rintro e w6 ⟨rfl, hL6, hk6⟩; replace HO := Lib.hid (own_kept HO.out hk6 hcb2); have HB6 := Lib.hid (HB.out.trans ((hk6.mono HB.out.size (fun _ _ h => h)).below (fun k hk => by simp only [List.mem_singleton] at hk; omega))); have hs6 : w2.heap.size ≤ w6.heap.size := Nat.le_trans hs5 hk6.size; replace HL := Lib.hid hL6; clear hL6 hk6 HC))
        go_roundw
        case rel => exact ⟨j + 1, a2, L2, T, by omega, by go_num, haL2, by omega, by simp; omega, HDD, Lib.hid (HL.out.below ((Below.refl _ _).alloc (Nat.le_refl _) _)), Lib.hid (HO.out.alloc _), Lib.hid (HB6.out.alloc HB6.out.size _)⟩
        case measure => simp [intOf]; omega
      · rw [if_neg hP0] at HD
        have q := bs_some hP0
        clear hP0
        cases ht : Ur.two a P with
        | bad k2 =>
          rw [ht] at HD CP
          simp only [twoV] at CP HD
          obtain ⟨x0, hx0⟩ : ∃ x, x = bs [] := ⟨_, rfl⟩
          rw [← hx0] at CP
          have HR : R = .bad k2 := by rw [← HD]; rfl
          have HDD := Lib.hid HR
          clear HD ht hx0 HR
          obtain ⟨x, hx⟩ : ∃ x, x = bs P := ⟨_, rfl⟩
          rw [← hx] at CP K1 q
          clear hx
          go_wp2_with (first | (go_at_call 37; refine (is_38 _).mono ?_; rintro e w5 ⟨bi, rfl, hci, hb5, hbi⟩; replace HO := Lib.hid (own_below HO.out hb5); have hs5 : w2.heap.size ≤ w5.heap.size := Nat.le_trans hsr hb5.size; replace HB := Lib.hid (bthen HB.out hb5); replace HL := Lib.hid (HL.out.below hb5); have HC := Lib.hid hci; clear hci hb5) | (go_at_call 62; (with_reducible refine (K1.out _ _ HL.out HC.out).mono ?_); rintro e w6 ⟨rfl, hL6, hk6⟩; replace HO := Lib.hid (own_kept HO.out hk6 hcb2); have HB6 := Lib.hid (HB.out.trans ((hk6.mono HB.out.size (fun _ _ h => h)).below (fun k hk => by simp only [List.mem_singleton] at hk; omega))); have hs6 : w2.heap.size ≤ w6.heap.size := Nat.le_trans hs5 hk6.size; replace HL := Lib.hid hL6; clear hL6 hk6 HC) | (go_at_call 65; refine (CP.out _).mono ?_; rintro e w8 ⟨rfl, hb8⟩; have HB8 := Lib.hid ((HB6.out.alloc HB6.out.size _).trans (hb8.mono (HB6.out.alloc HB6.out.size _).size)); clear hb8))
          try simp only [Exit.inBlock, Exit.then]
          refine bodyPost_ret (results_tmp3 rfl _ _ _) rfl ?_
          refine ⟨?_, HB8.out.alloc HB8.out.size _⟩
          rw [HDD.out]
          exact rfl
        | ok n v =>
          rw [ht] at HD CP
          simp only [twoV] at CP HD
          rw [Ur.Qry.pre_pre] at HD
          have HDD := Lib.hid HD
          clear HD ht
          obtain ⟨x, hx⟩ : ∃ x, x = bs P := ⟨_, rfl⟩
          rw [← hx] at CP K1 q
          clear hx
          have hpo := prs_one n v
          obtain ⟨x1, hx1⟩ : ∃ x, x = bs n := ⟨_, rfl⟩
          obtain ⟨x2, hx2⟩ : ∃ x, x = bs v := ⟨_, rfl⟩
          rw [← hx1, ← hx2] at CP hpo
          have HPO := Lib.hid hpo
          clear hx1 hx2 hpo
          go_wp2_with (first | (go_at_call 37; refine (is_38 _).mono ?_; rintro e w5 ⟨bi, rfl, hci, hb5, hbi⟩; replace HO := Lib.hid (own_below HO.out hb5); have hs5 : w2.heap.size ≤ w5.heap.size := Nat.le_trans hsr hb5.size; replace HB := Lib.hid (bthen HB.out hb5); replace HL := Lib.hid (HL.out.below hb5); have HC := Lib.hid hci; clear hci hb5) | (go_at_call 62; (with_reducible refine (K1.out _ _ HL.out HC.out).mono ?_); rintro e w6 ⟨rfl, hL6, hk6⟩; replace HO := Lib.hid (own_kept HO.out hk6 hcb2); have HB6 := Lib.hid (HB.out.trans ((hk6.mono HB.out.size (fun _ _ h => h)).below (fun k hk => by simp only [List.mem_singleton] at hk; omega))); have hs6 : w2.heap.size ≤ w6.heap.size := Nat.le_trans hs5 hk6.size; replace HL := Lib.hid hL6; clear hL6 hk6 HC) | (go_at_call 65; refine (CP.out _).mono ?_; rintro e w8 ⟨rfl, hb8⟩; have HB8 := Lib.hid ((HB6.out.alloc HB6.out.size _).trans (hb8.mono (HB6.out.alloc HB6.out.size _).size)); have HO8 := Lib.hid (own_below (HO.out.alloc _) hb8); have HL8 := Lib.hid ((HL.out.below ((Below.refl _ _).alloc (Nat.le_refl _) _)).below hb8); have hs8 : w2.heap.size ≤ w8.heap.size := Nat.le_trans (Nat.le_trans hs6 ((Below.refl _ _).alloc (Nat.le_refl _) _).size) hb8.size; clear hb8) | (refine wpList_append_own _ rfl _ _ 22 rfl w2.heap.size 32 i0 (.agg #[.string ⟨#[]⟩, .string ⟨#[]⟩]) 2 32 Try.underlying22 hi hz0 hz1 hz2 rfl (by decide) _ T.length _ rfl ((HO8.out.alloc _).alloc _) ⟨w8.heap.size + 1, 0, none⟩ 1 1 [.string x1, .string x2] rfl rfl (news_row (heap_alloc2_new _ _ _)) (one_str _ _) (by unfold maxLen; omega) (by omega) (by simp; omega) ?_; intro v7 w7 h7 hg7 _; have H7 := Lib.hid h7; have G7 := Lib.hid hg7; clear h7 hg7; go_frame))
          have hcb8 := HL8.out.lt
          have B10 := ((HB8.out.alloc HB8.out.size _).alloc (Nat.le_trans HB8.out.size (by simp)) _).grown G7.out (by simp; have := HB8.out.size; omega) (fun k hk => Nat.le_trans (by omega) (HO8.out.lt k hk).1)
          have L10 := ((Below.refl w2.heap.size w8).alloc hs8 (.cells #[.string x1, .string x2] 32)).alloc (by simp; omega) (.cells #[.string x1, .string x2] 32)
          have L11 := L10.grown G7.out (by simp; omega) (fun k hk => (HO8.out.lt k hk).1)
          have HB10 := Lib.hid B10
          have HL10 := Lib.hid (show Left cb L2 a2 w7 from (L11.block cb (by omega)).trans HL8.out)
          have hs10 : w2.heap.size ≤ w7.heap.size := Nat.le_trans hs8 L11.size
          clear B10 L10 L11
          go_roundw
          case rel => exact ⟨j + 1, a2, L2, T ++ [(n, v)], by omega, by go_num, haL2, by simp; omega, hs10, HDD, HL10, Lib.hid (by rw [List.length_append, prs_append, HPO.out]; exact H7.out), HB10⟩
          case measure => simp [intOf]; omega
    · obtain rfl : j = 1 + M := by omega
      have HR : R = .ok T := by rw [← hD.out, Nat.sub_self]; simp [Ur.cuts, Ur.qry, Ur.Qry.pre]
      have HDD := Lib.hid HR
      clear HR
      go_wp2_with fail
      try simp only [Exit.inBlock, Exit.then]
      refine bodyPost_ret (results_tmp3 rfl _ _ _) rfl ?_
      refine ⟨?_, HB.out⟩
      rw [HDD.out]
      exact ⟨_, rfl, own_base HO.out (by omega)⟩
end Go.Proofs.Ytiodbkloecpdcaa
