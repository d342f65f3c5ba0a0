/- The program takes a target apart. -/
import Derived.Test.YtiodbkloecpdcaaUPairs
namespace Go.Proofs.Ytiodbkloecpdcaa
open Go.RowKit

/-- What Target hands back. -/
def Tg (B : Nat) (R : Ur.Tgt) (e : Ending) (w' : World) : Prop :=
  match R with
  | .bad er k => e = .returned (.tuple #[.string (bs []), .slice none 0 0, .int .i64 (er : Int), .int .i64 (k : Int)])
  | .ok p l => ∃ v, e = .returned (.tuple #[.string (bs p), v, .int .i64 0, .int .i64 0]) ∧ w'.ownsRow B 32 2 v l.length (prs l)
theorem is_63 (w : World) : Calls Try.prog 37 #[.int .u8 63] w fun e w' => ∃ b, e = .returned (.func (.func 63) #[] #[.pointer (some ⟨b, 0, none⟩)]) ∧ w'.cell? ⟨b, 0, none⟩ = some (.int .u8 ((63 : UInt8).toNat : Int)) ∧ Below w.heap.size w w' ∧ w.heap.size ≤ b := is_any 63 w
set_option maxRecDepth 100000 in
set_option maxHeartbeats 4000000 in
theorem Target_any (S : List UInt8) (hS : S.length ≤ 1099511627776) (w : World) : Calls Try.prog 14 #[.string (bs S)] w fun e w' => Tg w.heap.size (Ur.target S) e w' ∧ Below w.heap.size w w' := by
  have CP := Lib.hid (fun v : World => prefix_47 S v)
  have CL := Lib.hid (fun v : World => lengthTo_any S (by omega) 35 #[] Ur.odd v (kind_Strange v))
  have CC := Lib.hid (fun v : World => cutter_any S 0 v)
  obtain ⟨R, hR⟩ : ∃ R, R = Ur.target S := ⟨_, rfl⟩
  rw [← hR]
  unfold Ur.target at hR
  by_cases h47 : S.head? = some 47
  · rw [if_neg (by simpa using h47)] at hR
    rw [decide_eq_true h47] at CP
    clear h47
    have hol := Ur.len_le Ur.odd S
    by_cases hodd : Ur.len Ur.odd S < S.length
    · rw [if_pos hodd] at hR
      generalize Ur.len Ur.odd S = k at *
      obtain ⟨s, hs⟩ : ∃ s, s = bs S := ⟨_, rfl⟩
      have hss : s.size = S.length := by rw [hs, bs_size]
      rw [← hs] at CP CL ⊢
      have HR := Lib.hid hR
      clear hs hR CC
      go_enter Try.func14, Try.ntmps14
      go_wp2_with (first | (go_at_call 33; refine (CP.out _).mono ?_; rintro e w' ⟨rfl, hw⟩; obtain rfl := hw.symm; clear hw) | (go_at_call 34; refine (CL.out _).mono ?_; rintro e w' ⟨rfl, hw⟩; obtain rfl := hw.symm; clear hw))
      try simp only [Exit.inBlock, Exit.then]
      refine bodyPost_ret (results_tmp4 rfl _ _ _) rfl ?_
      refine ⟨?_, Below.refl _ _⟩
      rw [HR.out]
      show _ = _
      rw [← bs_nil]
      rfl
    · rw [if_neg hodd] at hR
      have hoe : Ur.len Ur.odd S = S.length := by omega
      rw [hoe] at CL
      clear hodd hol hoe
      have hkl := Ur.len_le (· == 63) S
      have K1 := Lib.hid (fun (b bi : Nat) (v : World) hL hc => cut_is b bi S 0 63 (by omega) (by omega) v hL hc)
      rw [Nat.zero_add] at K1
      generalize Ur.len (· == 63) S = k at *
      have hl1 : (S.take k).length ≤ 140737488355328 := by rw [List.length_take]; omega
      have hm : min (k + 1) S.length + (S.drop (k + 1)).length ≤ 1099511627776 := by rw [List.length_drop]; omega
      generalize S.drop (k + 1) = B at *
      generalize S.take k = A at *
      generalize min (k + 1) S.length = a2 at *
      have D1 := Lib.hid (fun v : World => decode_at A 0 hl1 (by omega) v)
      simp only [Int.natCast_zero] at D1 K1
      have K2 := Lib.hid (fun (b : Nat) (v : World) hL => cut_never b B a2 (by omega) (by omega) v hL)
      have P2 := Lib.hid (fun v : World => pairs_any B a2 hm v)
      clear hl1 hm hkl
      obtain ⟨s, hs⟩ : ∃ s, s = bs S := ⟨_, rfl⟩
      obtain ⟨t1, ht1⟩ : ∃ t, t = bs A := ⟨_, rfl⟩
      obtain ⟨t2, ht2⟩ : ∃ t, t = bs B := ⟨_, rfl⟩
      have hss : s.size = S.length := by rw [hs, bs_size]
      rw [← hs] at CC CP CL ⊢
      rw [← ht1] at K1 D1
      rw [← ht2] at K2 P2
      clear hs ht1 ht2
      have HB := Lib.hid (Below.refl w.heap.size w)
      cases hd1 : Ur.dec 0 A with
      | bad k1 =>
        rw [hd1] at hR D1
        simp only [toldV, Nat.zero_add] at D1
        have HR := Lib.hid hR
        clear hR hd1
        obtain ⟨x0, hx0⟩ : ∃ x, x = bs [] := ⟨_, rfl⟩
        rw [← hx0] at D1
        clear hx0
        go_enter Try.func14, Try.ntmps14
        go_wp2_with (first | (go_at_call 33; refine (CP.out _).mono ?_; rintro e w' ⟨rfl, hw⟩; obtain rfl := hw.symm; clear hw) | (go_at_call 34; refine (CL.out _).mono ?_; rintro e w' ⟨rfl, hw⟩; obtain rfl := hw.symm; clear hw) | (go_at_call 36; refine (CC.out _).mono ?_; rintro e w4 ⟨cb, rfl, hL4, hb4, hcb⟩; have HL := Lib.hid hL4; have hcw : w.heap.size ≤ cb := Nat.le_trans HB.out.size hcb; replace HB := Lib.hid (bthen HB.out hb4); clear hL4 hb4 hcb) | (go_at_call 37; refine (is_63 _).mono ?_; rintro e w5 ⟨bi, rfl, hci, hb5, hbi⟩; replace HB := Lib.hid (bthen HB.out hb5); replace HL := Lib.hid (HL.out.below hb5); have HC := Lib.hid hci; clear hci hb5) | (go_at_call 62; first | ((with_reducible refine (K1.out _ _ _ HL.out HC.out).mono ?_); rintro e w6 ⟨rfl, hL6, hk6⟩; replace HB := Lib.hid (HB.out.trans ((hk6.mono HB.out.size (fun _ _ h => h)).below (fun k hk => by simp only [List.mem_singleton] at hk; omega))); replace HL := Lib.hid hL6; clear hL6 hk6 HC) | ((with_reducible refine (K2.out _ _ HL.out).mono ?_); rintro e w7 ⟨rfl, hk7⟩; replace HB := Lib.hid (HB.out.trans ((hk7.mono HB.out.size (fun _ _ h => h)).below (fun k hk => by simp only [List.mem_singleton] at hk; omega))); clear hk7)) | (go_at_call 26; (with_reducible refine (D1.out _).mono ?_); rintro e w8 ⟨rfl, hb8⟩; replace HB := Lib.hid (bthen HB.out hb8); replace HL := Lib.hid (HL.out.below hb8); clear hb8))
        try simp only [Exit.inBlock, Exit.then]
        refine bodyPost_ret (results_tmp4 rfl _ _ _) rfl ?_
        refine ⟨?_, HB.out⟩
        rw [HR.out]
        show _ = _
        rw [← bs_nil]
        rfl
      | ok p =>
        rw [hd1] at hR D1
        simp only [toldV] at D1 hR
        clear hd1
        obtain ⟨x1, hx1⟩ : ∃ x, x = bs p := ⟨_, rfl⟩
        have HX1 := Lib.hid hx1
        rw [← hx1] at D1
        clear hx1
        cases hd2 : Ur.query a2 B with
        | bad k2 =>
          rw [hd2] at hR P2
          simp only [Gives] at P2
          have HR := Lib.hid hR
          clear hR hd2
          go_enter Try.func14, Try.ntmps14
          go_wp2_with (first | (go_at_call 33; refine (CP.out _).mono ?_; rintro e w' ⟨rfl, hw⟩; obtain rfl := hw.symm; clear hw) | (go_at_call 34; refine (CL.out _).mono ?_; rintro e w' ⟨rfl, hw⟩; obtain rfl := hw.symm; clear hw) | (go_at_call 36; refine (CC.out _).mono ?_; rintro e w4 ⟨cb, rfl, hL4, hb4, hcb⟩; have HL := Lib.hid hL4; have hcw : w.heap.size ≤ cb := Nat.le_trans HB.out.size hcb; replace HB := Lib.hid (bthen HB.out hb4); clear hL4 hb4 hcb) | (go_at_call 37; refine (is_63 _).mono ?_; rintro e w5 ⟨bi, rfl, hci, hb5, hbi⟩; replace HB := Lib.hid (bthen HB.out hb5); replace HL := Lib.hid (HL.out.below hb5); have HC := Lib.hid hci; clear hci hb5) | (go_at_call 62; first | ((with_reducible refine (K1.out _ _ _ HL.out HC.out).mono ?_); rintro e w6 ⟨rfl, hL6, hk6⟩; replace HB := Lib.hid (HB.out.trans ((hk6.mono HB.out.size (fun _ _ h => h)).below (fun k hk => by simp only [List.mem_singleton] at hk; omega))); replace HL := Lib.hid hL6; clear hL6 hk6 HC) | ((with_reducible refine (K2.out _ _ HL.out).mono ?_); rintro e w7 ⟨rfl, hk7⟩; replace HB := Lib.hid (HB.out.trans ((hk7.mono HB.out.size (fun _ _ h => h)).below (fun k hk => by simp only [List.mem_singleton] at hk; omega))); clear hk7)) | (go_at_call 26; (with_reducible refine (D1.out _).mono ?_); rintro e w8 ⟨rfl, hb8⟩; replace HB := Lib.hid (bthen HB.out hb8); replace HL := Lib.hid (HL.out.below hb8); clear hb8) | (go_at_call 38; (with_reducible refine (P2.out _).mono ?_); rintro e w9 ⟨rfl, hb9⟩; replace HB := Lib.hid (bthen HB.out hb9); clear hb9))
          try simp only [Exit.inBlock, Exit.then]
          refine bodyPost_ret (results_tmp4 rfl _ _ _) rfl ?_
          refine ⟨?_, HB.out⟩
          rw [HR.out]
          show _ = _
          rw [← bs_nil]
          rfl
        | ok l =>
          rw [hd2] at hR P2
          simp only [Gives] at P2
          have HR := Lib.hid hR
          clear hR hd2
          go_enter Try.func14, Try.ntmps14
          go_wp2_with (first | (go_at_call 33; refine (CP.out _).mono ?_; rintro e w' ⟨rfl, hw⟩; obtain rfl := hw.symm; clear hw) | (go_at_call 34; refine (CL.out _).mono ?_; rintro e w' ⟨rfl, hw⟩; obtain rfl := hw.symm; clear hw) | (go_at_call 36; refine (CC.out _).mono ?_; rintro e w4 ⟨cb, rfl, hL4, hb4, hcb⟩; have HL := Lib.hid hL4; have hcw : w.heap.size ≤ cb := Nat.le_trans HB.out.size hcb; replace HB := Lib.hid (bthen HB.out hb4); clear hL4 hb4 hcb) | (go_at_call 37; refine (is_63 _).mono ?_; rintro e w5 ⟨bi, rfl, hci, hb5, hbi⟩; replace HB := Lib.hid (bthen HB.out hb5); replace HL := Lib.hid (HL.out.below hb5); have HC := Lib.hid hci; clear hci hb5) | (go_at_call 62; first | ((with_reducible refine (K1.out _ _ _ HL.out HC.out).mono ?_); rintro e w6 ⟨rfl, hL6, hk6⟩; replace HB := Lib.hid (HB.out.trans ((hk6.mono HB.out.size (fun _ _ h => h)).below (fun k hk => by simp only [List.mem_singleton] at hk; omega))); replace HL := Lib.hid hL6; clear hL6 hk6 HC) | ((with_reducible refine (K2.out _ _ HL.out).mono ?_); rintro e w7 ⟨rfl, hk7⟩; replace HB := Lib.hid (HB.out.trans ((hk7.mono HB.out.size (fun _ _ h => h)).below (fun k hk => by simp only [List.mem_singleton] at hk; omega))); clear hk7)) | (go_at_call 26; (with_reducible refine (D1.out _).mono ?_); rintro e w8 ⟨rfl, hb8⟩; replace HB := Lib.hid (bthen HB.out hb8); replace HL := Lib.hid (HL.out.below hb8); clear hb8) | (go_at_call 38; (with_reducible refine (P2.out _).mono ?_); rintro e w9 ⟨⟨v9, rfl, ho9⟩, hb9⟩; have HO := Lib.hid (own_base ho9 HB.out.size); replace HB := Lib.hid (bthen HB.out hb9); clear hb9 ho9))
          try simp only [Exit.inBlock, Exit.then]
          refine bodyPost_ret (results_tmp4 rfl _ _ _) rfl ?_
          refine ⟨?_, HB.out⟩
          rw [HR.out]
          exact ⟨_, by rw [← HX1.out]; rfl, HO.out⟩
  · rw [if_pos (by simpa using h47)] at hR
    rw [decide_eq_false h47] at CP
    have HR := Lib.hid hR
    clear hR h47 CL CC
    generalize bs S = s at *
    go_enter Try.func14, Try.ntmps14
    go_wp2_with (first | (go_at_call 33; refine (CP.out _).mono ?_; rintro e w' ⟨rfl, hw⟩; obtain rfl := hw.symm; clear hw))
    try simp only [Exit.inBlock, Exit.then]
    refine bodyPost_ret (results_tmp4 rfl _ _ _) rfl ?_
    refine ⟨?_, Below.refl _ _⟩
    rw [HR.out]
    show _ = _
    rw [← bs_nil]
    rfl
end Go.Proofs.Ytiodbkloecpdcaa
