/- The walk of a law: what is put in escapes is read again. -/
import Derived.Test.YtiodbkloecpdcaaUBack
import Derived.Test.YtiodbkloecpdcaaUCanon2
import Derived.Test.YtiodbkloecpdcaaUOpen
namespace Go.Proofs.Ytiodbkloecpdcaa
open Go.RowKit

def many (x : Ur.Pr) (l : List Ur.Pr) (k : Nat) : Nat := (l.take k).count x
theorem many_yes (x : Ur.Pr) (l : List Ur.Pr) (k : Nat) (hk : k < l.length) (h : l.getD k ([], []) = x) : many x l (k + 1) = many x l k + 1 := by
  unfold many
  rw [take_pr l k hk, List.count_append, h, List.count_singleton_self]
theorem many_no (x : Ur.Pr) (l : List Ur.Pr) (k : Nat) (hk : k < l.length) (h : l.getD k ([], []) ≠ x) : many x l (k + 1) = many x l k := by
  unfold many
  have h0 : List.count x [l.getD k ([], [])] = 0 := List.count_eq_zero.2 (fun hm => h (List.mem_singleton.1 hm).symm)
  rw [take_pr l k hk, List.count_append, h0]
  rfl
theorem many_le (x : Ur.Pr) (l : List Ur.Pr) (k : Nat) : many x l k ≤ k := by
  unfold many
  refine Nat.le_trans List.count_le_length ?_
  rw [List.length_take]
  omega
theorem many_all (x : Ur.Pr) (l : List Ur.Pr) (k : Nat) (hk : k = l.length) : many x l k = l.count x := by
  unfold many
  rw [hk, List.take_length]
theorem own_len {w : World} {B n size : Nat} {e : TypeId} {v : Value} {xs : List Value} (h : w.ownsRow B e size v n xs) : ∃ a c, v = .slice a n c := by
  rcases h.2 with ⟨h1, h2⟩ | ⟨g, cap, _, h1, _⟩
  · exact ⟨none, 0, by rw [h1, h2]⟩
  · exact ⟨_, _, h1⟩
set_option maxRecDepth 100000 in
set_option maxHeartbeats 8000000 in
theorem Back_true (S B : List UInt8) (a : Option Addr) (c : Nat) (l : List Ur.Pr) (hS : S.length ≤ 1048576) (hB : B.length ≤ 1048576) (hl : l.length ≤ 1048576) (hsh : Short 1048576 l) (hcan : (canon l).length ≤ 4000000) (w : World) (hm0 : Mx w) (hI : 0 < l.length → ∃ b off, a = some ⟨b, off, none⟩ ∧ b < w.heap.size ∧ w.rangeAt b off (prs l)) :
    Calls Try.prog 3 #[.string (bs S), .string (bs B), .slice a l.length c] w fun e w' => e = .returned (.bool true) ∧ Below w.heap.size w w' := by
  have HM := Lib.hid hm0
  have HB := Lib.hid (Below.refl w.heap.size w)
  have hup : ∀ v, Below w.heap.size w v → 0 < l.length → ∃ b off, a = some ⟨b, off, none⟩ ∧ b < v.heap.size ∧ v.rangeAt b off (prs l) := fun v hv h0 => by
    obtain ⟨b, off, e, hb, hr⟩ := hI h0
    exact ⟨b, off, e, Nat.lt_of_lt_of_le hb hv.size, fun j u hj => (hv.cell (p := ⟨b, off + j, none⟩) hb).trans (hr j u hj)⟩
  have UP := Lib.hid hup
  have hbl : (backs l).length = l.length := (backs_perm l).length_eq
  have hsh2 : Short 35184372088832 l := fun p hp => by have := hsh p hp; omega
  have X := Lib.hid (fun v hm => examples_true v hm)
  have lp := Ur.enc_len Ur.freP (47 :: S)
  have l1 := Ur.enc_len Ur.fre S
  have l2 := Ur.enc_len Ur.freP S
  simp only [List.length_cons] at lp
  have E1 := Lib.hid (fun v : World => Encode_any S (by omega) true v)
  have E2 := Lib.hid (fun v : World => Encode_any S (by omega) false v)
  have E3 := Lib.hid (fun v : World => Encode_any (47 :: S) (by simp; omega) false v)
  simp only [if_true, Bool.false_eq_true, if_false] at E1 E2 E3
  have D1 := Lib.hid (fun v : World => Decode_any (Ur.enc Ur.fre S) (by omega) v)
  have D2 := Lib.hid (fun v : World => Decode_any (Ur.enc Ur.freP S) (by omega) v)
  rw [Ur.dec_enc _ (by decide)] at D1 D2
  simp only [toldV] at D1 D2
  have CA := Lib.hid (fun (v : World) (hv : Below w.heap.size w v) => Canon_gen a c l (by omega) hsh2 (by omega) v (hup v hv))
  have cq : ∀ (sv : Value) (v : World), PairsAt v.heap.size v sv (backs l) → Calls Try.prog 13 #[sv] v fun e W' => e = .returned (.string (bs (canon l))) ∧ Below v.heap.size v W' := fun sv v h => by
    have q := Canon_any sv (backs l) (by omega) (fun p hp => hsh2 p ((backs_perm l).mem_iff.1 hp)) (by rw [canon_perm (backs_perm l)]; omega) v h
    rw [canon_perm (backs_perm l)] at q
    exact q
  have CQ := Lib.hid cq
  have T := Lib.hid (fun v : World => Target_any (Ur.enc Ur.freP (47 :: S) ++ 63 :: canon l) (by simp; omega) v)
  rw [target_back] at T
  simp only [Tg] at T
  have A1 : ∀ v : World, (Op.stringOp .add ⟨#[47]⟩ (bs S)).run Try.prog v = .ok (.string (bs (47 :: S))) v := fun v => by rw [show (⟨#[47]⟩ : ByteArray) = bs [47] by rw [← bs_eq]]; exact add_any [47] S (by simp; omega) v
  have A2 : ∀ v : World, (Op.stringOp .add (bs (Ur.enc Ur.freP (47 :: S))) ⟨#[63]⟩).run Try.prog v = .ok (.string (bs (Ur.enc Ur.freP (47 :: S) ++ [63]))) v := fun v => by rw [show (⟨#[63]⟩ : ByteArray) = bs [63] by rw [← bs_eq]]; exact add_any _ [63] (by simp; omega) v
  have A3 : ∀ v : World, (Op.stringOp .add (bs (Ur.enc Ur.freP (47 :: S) ++ [63])) (bs (canon l))).run Try.prog v = .ok (.string (bs (Ur.enc Ur.freP (47 :: S) ++ 63 :: canon l))) v := fun v => by
    have q := add_any (Ur.enc Ur.freP (47 :: S) ++ [63]) (canon l) (by simp; omega) v
    rw [List.append_assoc] at q
    exact q
  have BK := Lib.hid (fun v hm => Bucket_any B v hm (by omega))
  have J := Lib.hid (fun v : World => uJoin_any B S (by omega) v)
  have hjl : (Ur.join B S).length ≤ 140737488355328 := by unfold Ur.join; split <;> simp <;> omega
  have SP := Lib.hid (fun v : World => Split_any (Ur.join B S) hjl v)
  have HSP := Lib.hid (fun h : Ur.bkt B = true => split_join B S (Ur.named B h))
  have HPERM := Lib.hid (backs_perm l)
  obtain ⟨z5, e5⟩ : ∃ z, z = bs (Ur.enc Ur.freP (47 :: S) ++ 63 :: canon l) := ⟨_, rfl⟩
  obtain ⟨z4, e4⟩ : ∃ z, z = bs (Ur.enc Ur.freP (47 :: S) ++ [63]) := ⟨_, rfl⟩
  obtain ⟨z3, e3⟩ : ∃ z, z = bs (Ur.enc Ur.freP (47 :: S)) := ⟨_, rfl⟩
  obtain ⟨z2, e2⟩ : ∃ z, z = bs (Ur.enc Ur.freP S) := ⟨_, rfl⟩
  obtain ⟨z1, e1⟩ : ∃ z, z = bs (Ur.enc Ur.fre S) := ⟨_, rfl⟩
  obtain ⟨pt, e6⟩ : ∃ z, z = bs (47 :: S) := ⟨_, rfl⟩
  obtain ⟨cn, e7⟩ : ∃ z, z = bs (canon l) := ⟨_, rfl⟩
  obtain ⟨jn, e8⟩ : ∃ z, z = bs (Ur.join B S) := ⟨_, rfl⟩
  rw [← e5] at A3 T
  rw [← e4] at A2 A3
  rw [← e3] at A2 E3
  rw [← e2] at E2 D2
  rw [← e1] at E1 D1
  rw [← e6] at A1 E3 T
  rw [← e7] at A3 CA CQ
  rw [← e8] at J SP
  obtain ⟨n, hn⟩ : ∃ n, n = l.length := ⟨_, rfl⟩
  have HN := Lib.hid hn
  have HBL := Lib.hid hbl
  rw [hbl, ← hn] at T
  rw [← hn] at CA hl ⊢
  generalize hs : bs S = s at *
  generalize hb : bs B = b at *
  have HSS := Lib.hid hs
  have HBB := Lib.hid hb
  clear e1 e2 e3 e4 e5 e6 e7 e8 hs hb hn hbl lp l1 l2 hjl cq hup hI hsh hsh2 hcan hm0 hS hB
  go_enter Try.func3, Try.ntmps3
  go_wp2_with (first | (go_at_call 10; refine (X.out _ HM.out).mono ?_; rintro e w1 ⟨rfl, hb1⟩; replace HB := Lib.hid (bthen HB.out hb1); clear hb1) | (go_at_call 12; first | ((with_reducible refine (E1.out _).mono ?_); rintro e w2 ⟨rfl, hb2⟩; replace HB := Lib.hid (bthen HB.out hb2); clear hb2) | ((with_reducible refine (E2.out _).mono ?_); rintro e w3 ⟨rfl, hb3⟩; replace HB := Lib.hid (bthen HB.out hb3); clear hb3) | ((with_reducible refine (E3.out _).mono ?_); rintro e w4 ⟨rfl, hb4⟩; replace HB := Lib.hid (bthen HB.out hb4); clear hb4)) | (go_at_call 11; first | ((with_reducible refine (D1.out _).mono ?_); rintro e w5 ⟨rfl, hb5⟩; replace HB := Lib.hid (bthen HB.out hb5); clear hb5) | ((with_reducible refine (D2.out _).mono ?_); rintro e w6 ⟨rfl, hb6⟩; replace HB := Lib.hid (bthen HB.out hb6); clear hb6)) | (go_at_call 14; (with_reducible refine (T.out _).mono ?_); rintro e w7 ⟨⟨v7, rfl, ho7⟩, hb7⟩; obtain ⟨aq, cq, rfl⟩ := own_len ho7; have HO := Lib.hid (own_base ho7 HB.out.size); replace HB := Lib.hid (bthen HB.out hb7); clear hb7 ho7) | (go_at_call 13; first | ((with_reducible refine (CA.out _ HB.out).mono ?_); rintro e w8 ⟨rfl, hb8⟩; replace HB := Lib.hid (bthen HB.out hb8); clear hb8) | (refine (CQ.out _ _ (pairsAt_self (l := backs l) (by rw [HBL.out, ← HN.out]; exact HO.out) rfl (Nat.le_refl _))).mono ?_; rintro e w9 ⟨rfl, hb9⟩; replace HO := Lib.hid (own_below HO.out hb9); replace HB := Lib.hid (bthen HB.out hb9); clear hb9)))
  have hwz := HB.out.size
  clear A1 A2 A3 E1 E2 E3 D1 D2 CA CQ T X
  go_loopw [20] (fun iv wx => ∃ i : Nat, i ≤ n ∧ iv = .int .i64 i ∧ Hid (wx.ownsRow w.heap.size 32 2 (.slice aq n cq) n (prs (backs l))) ∧ Hid (Below w.heap.size w wx)) (fun iv _ => n - (intOf iv).toNat)
  case atStart => exact ⟨0, by omega, rfl, HO, HB⟩
  case round =>
    clear HO HB
    obtain ⟨i, hi, rfl, HO, HB⟩ := hrel
    by_cases hin : i < n
    · obtain ⟨x, hx⟩ : ∃ x, x = l.getD i ([], []) := ⟨_, rfl⟩
      have HX := Lib.hid hx
      clear hx
      go_wp2_with fail
      go_loopw [21, 22] (fun cv kv wx => ∃ (k : Nat) (m : Int), k ≤ n ∧ kv = .int .i64 k ∧ cv = .int .i64 m ∧ -(k : Int) ≤ m ∧ m ≤ (k : Int) ∧ Hid (m = (many x l k : Int) - (many x (backs l) k : Int)) ∧ Hid (wx.ownsRow w.heap.size 32 2 (.slice aq n cq) n (prs (backs l))) ∧ Hid (Below w.heap.size w wx)) (fun _ kv _ => n - (intOf kv).toNat)
      case atStart => exact ⟨0, 0, by omega, rfl, rfl, by omega, by omega, Lib.hid (by simp [many]), HO, HB⟩
      case round =>
        clear HO HB
        obtain ⟨k, m, hk, rfl, rfl, hm1, hm2, HMM, HO, HB⟩ := hrel
        by_cases hkn : k < n
        · obtain ⟨b0, off, rfl, hb0, hr⟩ := UP.out wr HB.out (by rw [← HN.out]; omega)
          obtain ⟨g, cg, hg⟩ := own_some HO.out (by omega)
          cases hg
          have hkl : k < l.length := by rw [← HN.out]; exact hkn
          have hkb : k < (backs l).length := by rw [HBL.out]; exact hkl
          have ck := PairsAt.cells hr hkl
          have ci := PairsAt.cells hr (k := i) (by rw [← HN.out]; exact hin)
          rw [← HX.out] at ci
          have pq := prs_at (backs l) k hkb
          rw [Nat.mul_comm 2 k] at pq
          have q0 := own_cell HO.out (k * 2) pq.1
          have q1 := own_cell HO.out (k * 2 + 1) pq.2
          have y1 := many_yes x l k hkl
          have n1 := many_no x l k hkl
          have y2 := many_yes x (backs l) k hkb
          have n2 := many_no x (backs l) k hkb
          have ck0 := ck.1
          have ck1 := ck.2
          have ci0 := ci.1
          have ci1 := ci.2
          generalize l.getD k ([], []) = p at *
          generalize (backs l).getD k ([], []) = q at *
          have EQ1 := fun v : World => eq_pair (bs p.1) (bs p.2) (bs x.1) (bs x.2) v
          have EQ2 := fun v : World => eq_pair (bs q.1) (bs q.2) (bs x.1) (bs x.2) v
          rw [pair_beq] at EQ1 EQ2
          have GD := gd_pair
          obtain ⟨P1, hp1⟩ : ∃ z, z = bs p.1 := ⟨_, rfl⟩
          obtain ⟨P2, hp2⟩ : ∃ z, z = bs p.2 := ⟨_, rfl⟩
          obtain ⟨Q1, hq1⟩ : ∃ z, z = bs q.1 := ⟨_, rfl⟩
          obtain ⟨Q2, hq2⟩ : ∃ z, z = bs q.2 := ⟨_, rfl⟩
          obtain ⟨X1, hx1⟩ : ∃ z, z = bs x.1 := ⟨_, rfl⟩
          obtain ⟨X2, hx2⟩ : ∃ z, z = bs x.2 := ⟨_, rfl⟩
          rw [← hp1] at ck0 EQ1
          rw [← hp2] at ck1 EQ1
          rw [← hq1] at q0 EQ2
          rw [← hq2] at q1 EQ2
          rw [← hx1] at ci0 EQ1 EQ2
          rw [← hx2] at ci1 EQ1 EQ2
          obtain ⟨m', hm'⟩ : ∃ m' : Int, m' = m + (if p = x then 1 else 0) - (if q = x then 1 else 0) := ⟨_, rfl⟩
          have HMN := Lib.hid (show m' = (many x l (k + 1) : Int) - (many x (backs l) (k + 1) : Int) by
            rw [hm', HMM.out]
            by_cases e1 : p = x <;> by_cases e2 : q = x
            · rw [if_pos e1, if_pos e2, y1 e1, y2 e2]; omega
            · rw [if_pos e1, if_neg e2, y1 e1, n2 e2]; omega
            · rw [if_neg e1, if_pos e2, n1 e1, y2 e2]; omega
            · rw [if_neg e1, if_neg e2, n1 e1, n2 e2]; omega)
          clear ck ci pq y1 n1 y2 n2 hr hp1 hp2 hq1 hq2 hx1 hx2
          by_cases e1 : p = x
          · by_cases e2 : q = x
            · rw [if_pos e1, if_pos e2] at hm'
              rw [decide_eq_true e1] at EQ1
              rw [decide_eq_true e2] at EQ2
              have HM' := Lib.hid hm'
              clear hm' e1 e2
              go_wp2_with fail
              go_quiet (fail)
              go_wp2_with fail
              go_quiet (fail)
              go_wp2_with fail
              go_roundw
              case rel => exact ⟨k + 1, m', by omega, by go_num, by rw [HM'.out]; go_num, by have := HM'.out; omega, by have := HM'.out; omega, HMN, Lib.hid HO.out, Lib.hid (below_drewN HB.out _)⟩
              case measure => simp [intOf]; omega
            · rw [if_pos e1, if_neg e2] at hm'
              rw [decide_eq_true e1] at EQ1
              rw [decide_eq_false e2] at EQ2
              have HM' := Lib.hid hm'
              clear hm' e1 e2
              go_wp2_with fail
              go_quiet (fail)
              go_wp2_with fail
              go_quiet (fail)
              go_wp2_with fail
              go_roundw
              case rel => exact ⟨k + 1, m', by omega, by go_num, by rw [HM'.out]; go_num, by have := HM'.out; omega, by have := HM'.out; omega, HMN, Lib.hid HO.out, Lib.hid (below_drewN HB.out _)⟩
              case measure => simp [intOf]; omega
          · by_cases e2 : q = x
            · rw [if_neg e1, if_pos e2] at hm'
              rw [decide_eq_false e1] at EQ1
              rw [decide_eq_true e2] at EQ2
              have HM' := Lib.hid hm'
              clear hm' e1 e2
              go_wp2_with fail
              go_quiet (fail)
              go_wp2_with fail
              go_quiet (fail)
              go_wp2_with fail
              go_roundw
              case rel => exact ⟨k + 1, m', by omega, by go_num, by rw [HM'.out]; go_num, by have := HM'.out; omega, by have := HM'.out; omega, HMN, Lib.hid HO.out, Lib.hid (below_drewN HB.out _)⟩
              case measure => simp [intOf]; omega
            · rw [if_neg e1, if_neg e2] at hm'
              rw [decide_eq_false e1] at EQ1
              rw [decide_eq_false e2] at EQ2
              have HM' := Lib.hid hm'
              clear hm' e1 e2
              go_wp2_with fail
              go_quiet (fail)
              go_wp2_with fail
              go_quiet (fail)
              go_wp2_with fail
              go_roundw
              case rel => exact ⟨k + 1, m', by omega, by go_num, by rw [HM'.out]; go_num, by have := HM'.out; omega, by have := HM'.out; omega, HMN, Lib.hid HO.out, Lib.hid (below_drewN HB.out _)⟩
              case measure => simp [intOf]; omega
        · obtain rfl : k = n := by omega
          have hz : m = 0 := by
            rw [HMM.out, many_all x l k HN.out, many_all x (backs l) k (by rw [HBL.out]; exact HN.out), HPERM.out.count_eq]
            omega
          subst hz
          go_wp2_with fail
          go_roundw
          case rel => exact ⟨i + 1, by omega, by go_num, HO, HB⟩
          case measure => simp [intOf]; omega
    · obtain rfl : i = n := by omega
      by_cases hbk : Ur.bkt B = true
      · rw [hbk] at BK
        have h := HSP.out hbk
        rw [h.1, h.2, HSS.out, HBB.out] at SP
        clear h hbk HSP
        go_wp2_with (first | (go_at_call 15; refine (BK.out _ (HM.out.below HB.out)).mono ?_; rintro e w11 ⟨rfl, hb11⟩; replace HB := Lib.hid (bthen HB.out hb11); clear hb11) | (go_at_call 17; refine (J.out _).mono ?_; rintro e w' ⟨rfl, hw⟩; obtain rfl := hw.symm; clear hw) | (go_at_call 16; refine (SP.out _).mono ?_; rintro e w12 ⟨rfl, hb12⟩; replace HB := Lib.hid (bthen HB.out hb12); clear hb12))
        go_ret
        exact ⟨by first | rfl | simp, HB.out⟩
      · rw [show Ur.bkt B = false by simpa using hbk] at BK
        clear hbk HSP
        go_wp2_with (go_at_call 15; refine (BK.out _ (HM.out.below HB.out)).mono ?_; rintro e w11 ⟨rfl, hb11⟩; replace HB := Lib.hid (bthen HB.out hb11); clear hb11)
        go_ret
        exact ⟨by first | rfl | simp, HB.out⟩
end Go.Proofs.Ytiodbkloecpdcaa
