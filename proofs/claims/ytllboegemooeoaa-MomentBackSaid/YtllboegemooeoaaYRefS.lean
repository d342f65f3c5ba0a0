/- The document reads a moment: its three readers. -/
import Derived.Test.YtllboegemooeoaaYRefR
namespace Go.Proofs.Ytllboegemooeoaa
open Go.RowKit

/-- What a form's reader answers of a text. -/
def RdIs (F : List UInt8) (S : List UInt8) (R : Int) : Prop := (∃ T : Nat, R = T ∧ T < 253402300800 ∧ Mo.tx F T = S) ∨ (∀ t, t < 253402300800 → Mo.tx F t ≠ S) ∧ R = -1
set_option maxRecDepth 100000 in
set_option maxHeartbeats 1000000 in
theorem qReadStamp_gen (S : List UInt8) (r0 r1 r2 r3 r4 r5 rj : Int) (c0 : ∀ w, Calls Try.prog 35 #[.string (bs S), .int .i64 0, .int .i64 4] w fun e w' => e = .returned (.int .i64 r0) ∧ w = w') (c1 : ∀ w, Calls Try.prog 35 #[.string (bs S), .int .i64 4, .int .i64 2] w fun e w' => e = .returned (.int .i64 r1) ∧ w = w') (c2 : ∀ w, Calls Try.prog 35 #[.string (bs S), .int .i64 6, .int .i64 2] w fun e w' => e = .returned (.int .i64 r2) ∧ w = w') (c3 : ∀ w, Calls Try.prog 35 #[.string (bs S), .int .i64 9, .int .i64 2] w fun e w' => e = .returned (.int .i64 r3) ∧ w = w') (c4 : ∀ w, Calls Try.prog 35 #[.string (bs S), .int .i64 11, .int .i64 2] w fun e w' => e = .returned (.int .i64 r4) ∧ w = w') (c5 : ∀ w, Calls Try.prog 35 #[.string (bs S), .int .i64 13, .int .i64 2] w fun e w' => e = .returned (.int .i64 r5) ∧ w = w')
    (cj : ∀ w, Calls Try.prog 34 #[.int .i64 r0, .int .i64 r1, .int .i64 r2, .int .i64 r3, .int .i64 r4, .int .i64 r5] w fun e w' => e = .returned (.int .i64 rj) ∧ w = w')
    (R : Int) (hR : rj = -1 ∧ R = -1 ∨ ∃ T : Nat, rj = T ∧ T < 253402300800 ∧ (Mo.tx Mo.fS T = S ∧ R = T ∨ Mo.tx Mo.fS T ≠ S ∧ R = -1)) (w : World) : Calls Try.prog 22 #[.string (bs S)] w fun e w' => e = .returned (.int .i64 R) ∧ Below w.heap.size w w' := by
  have C0 := Lib.hid c0
  have C1 := Lib.hid c1
  have C2 := Lib.hid c2
  have C3 := Lib.hid c3
  have C4 := Lib.hid c4
  have C5 := Lib.hid c5
  have CJ := Lib.hid cj
  clear c0 c1 c2 c3 c4 c5 cj
  rcases hR with ⟨rfl, rfl⟩ | ⟨T, rfl, hT, hR⟩
  · go_enter Try.func22, Try.ntmps22
    go_wp2_with (first | (go_at_call 35; first | ((with_reducible refine (C0.out _).mono ?_); rintro e w' ⟨rfl, rfl⟩) | ((with_reducible refine (C1.out _).mono ?_); rintro e w' ⟨rfl, rfl⟩) | ((with_reducible refine (C2.out _).mono ?_); rintro e w' ⟨rfl, rfl⟩) | ((with_reducible refine (C3.out _).mono ?_); rintro e w' ⟨rfl, rfl⟩) | ((with_reducible refine (C4.out _).mono ?_); rintro e w' ⟨rfl, rfl⟩) | ((with_reducible refine (C5.out _).mono ?_); rintro e w' ⟨rfl, rfl⟩)) | (go_at_call 34; refine (CJ.out _).mono ?_; rintro e w' ⟨rfl, rfl⟩))
    go_ret
    exact ⟨rfl, Below.refl _ _⟩
  · have CS := Lib.hid (fun v : World => qStamp_any T hT v)
    rcases hR with ⟨hx, rfl⟩ | ⟨hx, rfl⟩
    · rw [hx] at CS
      clear hx
      go_enter Try.func22, Try.ntmps22
      go_wp2_with (first | (go_at_call 35; first | ((with_reducible refine (C0.out _).mono ?_); rintro e w' ⟨rfl, rfl⟩) | ((with_reducible refine (C1.out _).mono ?_); rintro e w' ⟨rfl, rfl⟩) | ((with_reducible refine (C2.out _).mono ?_); rintro e w' ⟨rfl, rfl⟩) | ((with_reducible refine (C3.out _).mono ?_); rintro e w' ⟨rfl, rfl⟩) | ((with_reducible refine (C4.out _).mono ?_); rintro e w' ⟨rfl, rfl⟩) | ((with_reducible refine (C5.out _).mono ?_); rintro e w' ⟨rfl, rfl⟩)) | (go_at_call 34; refine (CJ.out _).mono ?_; rintro e w' ⟨rfl, rfl⟩) | (go_at_call 19; refine (CS.out _).mono ?_; rintro e w2 ⟨rfl, hb2⟩))
      go_ret
      exact ⟨rfl, hb2⟩
    · have q := bs_ne hx
      generalize Mo.tx Mo.fS T = X at *
      clear hx
      go_enter Try.func22, Try.ntmps22
      go_wp2_with (first | (go_at_call 35; first | ((with_reducible refine (C0.out _).mono ?_); rintro e w' ⟨rfl, rfl⟩) | ((with_reducible refine (C1.out _).mono ?_); rintro e w' ⟨rfl, rfl⟩) | ((with_reducible refine (C2.out _).mono ?_); rintro e w' ⟨rfl, rfl⟩) | ((with_reducible refine (C3.out _).mono ?_); rintro e w' ⟨rfl, rfl⟩) | ((with_reducible refine (C4.out _).mono ?_); rintro e w' ⟨rfl, rfl⟩) | ((with_reducible refine (C5.out _).mono ?_); rintro e w' ⟨rfl, rfl⟩)) | (go_at_call 34; refine (CJ.out _).mono ?_; rintro e w' ⟨rfl, rfl⟩) | (go_at_call 19; refine (CS.out _).mono ?_; rintro e w2 ⟨rfl, hb2⟩))
      go_ret
      exact ⟨rfl, hb2⟩
theorem qReadStamp_any (S : List UInt8) (hS : S.length ≤ 9223372036854775807) (R : Int) (hR : RdIs Mo.fS S R) (w : World) : Calls Try.prog 22 #[.string (bs S)] w fun e w' => e = .returned (.int .i64 R) ∧ Below w.heap.size w w' := by
  rcases hR with ⟨T, rfl, hT, hx⟩ | ⟨hno, rfl⟩
  · have hd := Mo.dt_is (T / 86400) (by omega)
    have y2 := hd.y2; have m2 := hd.m2; have d2 := hd.d2; have dl := Mo.ml_le (Mo.dy (T / 86400)) (Mo.dm (T / 86400))
    have cj := fun v => qjoin_ok T hT v
    subst hx
    have n0 := qn_d4 (Mo.tx Mo.fS T) 0 (Mo.dy (T / 86400)) (by omega) (by rw [Mo.tx_S]; rfl) (by rw [Mo.tx_S]; rfl) (by rw [Mo.tx_S]; rfl) (by rw [Mo.tx_S]; rfl)
    have n1 := qn_d2 (Mo.tx Mo.fS T) 4 (Mo.dm (T / 86400)) (by omega) (by rw [Mo.tx_S]; rfl) (by rw [Mo.tx_S]; rfl)
    have n2 := qn_d2 (Mo.tx Mo.fS T) 6 (Mo.dd (T / 86400)) (by omega) (by rw [Mo.tx_S]; rfl) (by rw [Mo.tx_S]; rfl)
    have n3 := qn_d2 (Mo.tx Mo.fS T) 9 (T / 3600 % 24) (by omega) (by rw [Mo.tx_S]; rfl) (by rw [Mo.tx_S]; rfl)
    have n4 := qn_d2 (Mo.tx Mo.fS T) 11 (T / 60 % 60) (by omega) (by rw [Mo.tx_S]; rfl) (by rw [Mo.tx_S]; rfl)
    have n5 := qn_d2 (Mo.tx Mo.fS T) 13 (T % 60) (by omega) (by rw [Mo.tx_S]; rfl) (by rw [Mo.tx_S]; rfl)
    exact qReadStamp_gen _ _ _ _ _ _ _ _ (fun v => qnumber_any _ 0 4 (by omega) (by omega) hS _ (.inl n0) v) (fun v => qnumber_any _ 4 2 (by omega) (by omega) hS _ (.inl n1) v) (fun v => qnumber_any _ 6 2 (by omega) (by omega) hS _ (.inl n2) v) (fun v => qnumber_any _ 9 2 (by omega) (by omega) hS _ (.inl n3) v) (fun v => qnumber_any _ 11 2 (by omega) (by omega) hS _ (.inl n4) v) (fun v => qnumber_any _ 13 2 (by omega) (by omega) hS _ (.inl n5) v) cj _ (.inr ⟨T, rfl, hT, .inl ⟨rfl, rfl⟩⟩) w
  · obtain ⟨r0, _, c0⟩ := qnumber_or S 0 4 (by omega) (by omega) hS
    obtain ⟨r1, _, c1⟩ := qnumber_or S 4 2 (by omega) (by omega) hS
    obtain ⟨r2, _, c2⟩ := qnumber_or S 6 2 (by omega) (by omega) hS
    obtain ⟨r3, _, c3⟩ := qnumber_or S 9 2 (by omega) (by omega) hS
    obtain ⟨r4, _, c4⟩ := qnumber_or S 11 2 (by omega) (by omega) hS
    obtain ⟨r5, _, c5⟩ := qnumber_or S 13 2 (by omega) (by omega) hS
    obtain ⟨rj, hj, cj⟩ := qjoin_or r0 r1 r2 r3 r4 r5
    refine qReadStamp_gen S r0 r1 r2 r3 r4 r5 rj c0 c1 c2 c3 c4 c5 cj (-1) ?_ w
    rcases hj with h | ⟨T, h, hT⟩
    · exact .inl ⟨h, rfl⟩
    · exact .inr ⟨T, h, hT, .inr ⟨hno T hT, rfl⟩⟩
set_option maxRecDepth 100000 in
set_option maxHeartbeats 1000000 in
theorem qReadLong_gen (S : List UInt8) (r0 r1 r2 r3 r4 r5 rj : Int) (c0 : ∀ w, Calls Try.prog 35 #[.string (bs S), .int .i64 0, .int .i64 4] w fun e w' => e = .returned (.int .i64 r0) ∧ w = w') (c1 : ∀ w, Calls Try.prog 35 #[.string (bs S), .int .i64 5, .int .i64 2] w fun e w' => e = .returned (.int .i64 r1) ∧ w = w') (c2 : ∀ w, Calls Try.prog 35 #[.string (bs S), .int .i64 8, .int .i64 2] w fun e w' => e = .returned (.int .i64 r2) ∧ w = w') (c3 : ∀ w, Calls Try.prog 35 #[.string (bs S), .int .i64 11, .int .i64 2] w fun e w' => e = .returned (.int .i64 r3) ∧ w = w') (c4 : ∀ w, Calls Try.prog 35 #[.string (bs S), .int .i64 14, .int .i64 2] w fun e w' => e = .returned (.int .i64 r4) ∧ w = w') (c5 : ∀ w, Calls Try.prog 35 #[.string (bs S), .int .i64 17, .int .i64 2] w fun e w' => e = .returned (.int .i64 r5) ∧ w = w')
    (cj : ∀ w, Calls Try.prog 34 #[.int .i64 r0, .int .i64 r1, .int .i64 r2, .int .i64 r3, .int .i64 r4, .int .i64 r5] w fun e w' => e = .returned (.int .i64 rj) ∧ w = w')
    (R : Int) (hR : rj = -1 ∧ R = -1 ∨ ∃ T : Nat, rj = T ∧ T < 253402300800 ∧ (Mo.tx Mo.fL T = S ∧ R = T ∨ Mo.tx Mo.fL T ≠ S ∧ R = -1)) (w : World) : Calls Try.prog 23 #[.string (bs S)] w fun e w' => e = .returned (.int .i64 R) ∧ Below w.heap.size w w' := by
  have C0 := Lib.hid c0
  have C1 := Lib.hid c1
  have C2 := Lib.hid c2
  have C3 := Lib.hid c3
  have C4 := Lib.hid c4
  have C5 := Lib.hid c5
  have CJ := Lib.hid cj
  clear c0 c1 c2 c3 c4 c5 cj
  rcases hR with ⟨rfl, rfl⟩ | ⟨T, rfl, hT, hR⟩
  · go_enter Try.func23, Try.ntmps23
    go_wp2_with (first | (go_at_call 35; first | ((with_reducible refine (C0.out _).mono ?_); rintro e w' ⟨rfl, rfl⟩) | ((with_reducible refine (C1.out _).mono ?_); rintro e w' ⟨rfl, rfl⟩) | ((with_reducible refine (C2.out _).mono ?_); rintro e w' ⟨rfl, rfl⟩) | ((with_reducible refine (C3.out _).mono ?_); rintro e w' ⟨rfl, rfl⟩) | ((with_reducible refine (C4.out _).mono ?_); rintro e w' ⟨rfl, rfl⟩) | ((with_reducible refine (C5.out _).mono ?_); rintro e w' ⟨rfl, rfl⟩)) | (go_at_call 34; refine (CJ.out _).mono ?_; rintro e w' ⟨rfl, rfl⟩))
    go_ret
    exact ⟨rfl, Below.refl _ _⟩
  · have CS := Lib.hid (fun v : World => qLong_any T hT v)
    rcases hR with ⟨hx, rfl⟩ | ⟨hx, rfl⟩
    · rw [hx] at CS
      clear hx
      go_enter Try.func23, Try.ntmps23
      go_wp2_with (first | (go_at_call 35; first | ((with_reducible refine (C0.out _).mono ?_); rintro e w' ⟨rfl, rfl⟩) | ((with_reducible refine (C1.out _).mono ?_); rintro e w' ⟨rfl, rfl⟩) | ((with_reducible refine (C2.out _).mono ?_); rintro e w' ⟨rfl, rfl⟩) | ((with_reducible refine (C3.out _).mono ?_); rintro e w' ⟨rfl, rfl⟩) | ((with_reducible refine (C4.out _).mono ?_); rintro e w' ⟨rfl, rfl⟩) | ((with_reducible refine (C5.out _).mono ?_); rintro e w' ⟨rfl, rfl⟩)) | (go_at_call 34; refine (CJ.out _).mono ?_; rintro e w' ⟨rfl, rfl⟩) | (go_at_call 20; refine (CS.out _).mono ?_; rintro e w2 ⟨rfl, hb2⟩))
      go_ret
      exact ⟨rfl, hb2⟩
    · have q := bs_ne hx
      generalize Mo.tx Mo.fL T = X at *
      clear hx
      go_enter Try.func23, Try.ntmps23
      go_wp2_with (first | (go_at_call 35; first | ((with_reducible refine (C0.out _).mono ?_); rintro e w' ⟨rfl, rfl⟩) | ((with_reducible refine (C1.out _).mono ?_); rintro e w' ⟨rfl, rfl⟩) | ((with_reducible refine (C2.out _).mono ?_); rintro e w' ⟨rfl, rfl⟩) | ((with_reducible refine (C3.out _).mono ?_); rintro e w' ⟨rfl, rfl⟩) | ((with_reducible refine (C4.out _).mono ?_); rintro e w' ⟨rfl, rfl⟩) | ((with_reducible refine (C5.out _).mono ?_); rintro e w' ⟨rfl, rfl⟩)) | (go_at_call 34; refine (CJ.out _).mono ?_; rintro e w' ⟨rfl, rfl⟩) | (go_at_call 20; refine (CS.out _).mono ?_; rintro e w2 ⟨rfl, hb2⟩))
      go_ret
      exact ⟨rfl, hb2⟩
theorem qReadLong_any (S : List UInt8) (hS : S.length ≤ 9223372036854775807) (R : Int) (hR : RdIs Mo.fL S R) (w : World) : Calls Try.prog 23 #[.string (bs S)] w fun e w' => e = .returned (.int .i64 R) ∧ Below w.heap.size w w' := by
  rcases hR with ⟨T, rfl, hT, hx⟩ | ⟨hno, rfl⟩
  · have hd := Mo.dt_is (T / 86400) (by omega)
    have y2 := hd.y2; have m2 := hd.m2; have d2 := hd.d2; have dl := Mo.ml_le (Mo.dy (T / 86400)) (Mo.dm (T / 86400))
    have cj := fun v => qjoin_ok T hT v
    subst hx
    have n0 := qn_d4 (Mo.tx Mo.fL T) 0 (Mo.dy (T / 86400)) (by omega) (by rw [Mo.tx_L]; rfl) (by rw [Mo.tx_L]; rfl) (by rw [Mo.tx_L]; rfl) (by rw [Mo.tx_L]; rfl)
    have n1 := qn_d2 (Mo.tx Mo.fL T) 5 (Mo.dm (T / 86400)) (by omega) (by rw [Mo.tx_L]; rfl) (by rw [Mo.tx_L]; rfl)
    have n2 := qn_d2 (Mo.tx Mo.fL T) 8 (Mo.dd (T / 86400)) (by omega) (by rw [Mo.tx_L]; rfl) (by rw [Mo.tx_L]; rfl)
    have n3 := qn_d2 (Mo.tx Mo.fL T) 11 (T / 3600 % 24) (by omega) (by rw [Mo.tx_L]; rfl) (by rw [Mo.tx_L]; rfl)
    have n4 := qn_d2 (Mo.tx Mo.fL T) 14 (T / 60 % 60) (by omega) (by rw [Mo.tx_L]; rfl) (by rw [Mo.tx_L]; rfl)
    have n5 := qn_d2 (Mo.tx Mo.fL T) 17 (T % 60) (by omega) (by rw [Mo.tx_L]; rfl) (by rw [Mo.tx_L]; rfl)
    exact qReadLong_gen _ _ _ _ _ _ _ _ (fun v => qnumber_any _ 0 4 (by omega) (by omega) hS _ (.inl n0) v) (fun v => qnumber_any _ 5 2 (by omega) (by omega) hS _ (.inl n1) v) (fun v => qnumber_any _ 8 2 (by omega) (by omega) hS _ (.inl n2) v) (fun v => qnumber_any _ 11 2 (by omega) (by omega) hS _ (.inl n3) v) (fun v => qnumber_any _ 14 2 (by omega) (by omega) hS _ (.inl n4) v) (fun v => qnumber_any _ 17 2 (by omega) (by omega) hS _ (.inl n5) v) cj _ (.inr ⟨T, rfl, hT, .inl ⟨rfl, rfl⟩⟩) w
  · obtain ⟨r0, _, c0⟩ := qnumber_or S 0 4 (by omega) (by omega) hS
    obtain ⟨r1, _, c1⟩ := qnumber_or S 5 2 (by omega) (by omega) hS
    obtain ⟨r2, _, c2⟩ := qnumber_or S 8 2 (by omega) (by omega) hS
    obtain ⟨r3, _, c3⟩ := qnumber_or S 11 2 (by omega) (by omega) hS
    obtain ⟨r4, _, c4⟩ := qnumber_or S 14 2 (by omega) (by omega) hS
    obtain ⟨r5, _, c5⟩ := qnumber_or S 17 2 (by omega) (by omega) hS
    obtain ⟨rj, hj, cj⟩ := qjoin_or r0 r1 r2 r3 r4 r5
    refine qReadLong_gen S r0 r1 r2 r3 r4 r5 rj c0 c1 c2 c3 c4 c5 cj (-1) ?_ w
    rcases hj with h | ⟨T, h, hT⟩
    · exact .inl ⟨h, rfl⟩
    · exact .inr ⟨T, h, hT, .inr ⟨hno T hT, rfl⟩⟩
set_option maxRecDepth 100000 in
set_option maxHeartbeats 1000000 in
theorem qReadWeb_gen (S : List UInt8) (r0 r1 r2 r3 r4 R : Int) (c0 : ∀ w, Calls Try.prog 35 #[.string (bs S), .int .i64 12, .int .i64 4] w fun e w' => e = .returned (.int .i64 r0) ∧ w = w') (c1 : ∀ w, Calls Try.prog 35 #[.string (bs S), .int .i64 5, .int .i64 2] w fun e w' => e = .returned (.int .i64 r1) ∧ w = w') (c2 : ∀ w, Calls Try.prog 35 #[.string (bs S), .int .i64 17, .int .i64 2] w fun e w' => e = .returned (.int .i64 r2) ∧ w = w') (c3 : ∀ w, Calls Try.prog 35 #[.string (bs S), .int .i64 20, .int .i64 2] w fun e w' => e = .returned (.int .i64 r3) ∧ w = w') (c4 : ∀ w, Calls Try.prog 35 #[.string (bs S), .int .i64 23, .int .i64 2] w fun e w' => e = .returned (.int .i64 r4) ∧ w = w')
    (cj : ∀ k : Nat, 1 ≤ k → k ≤ 12 → ∃ r : Int, (r = -1 ∨ ∃ T : Nat, r = T ∧ T < 253402300800 ∧ (Mo.tx Mo.fW T = S → R = T)) ∧ ∀ w, Calls Try.prog 34 #[.int .i64 r0, .int .i64 k, .int .i64 r1, .int .i64 r2, .int .i64 r3, .int .i64 r4] w fun e w' => e = .returned (.int .i64 r) ∧ w = w')
    (m : Nat) (hm : m = 13 ∧ R = -1 ∨ 1 ≤ m ∧ m ≤ 12 ∧ ∃ T : Nat, R = T ∧ T < 253402300800 ∧ Mo.tx Mo.fW T = S ∧ ∀ w, Calls Try.prog 34 #[.int .i64 r0, .int .i64 m, .int .i64 r1, .int .i64 r2, .int .i64 r3, .int .i64 r4] w fun e w' => e = .returned (.int .i64 T) ∧ w = w') (w : World) : Calls Try.prog 24 #[.string (bs S)] w fun e w' => e = .returned (.int .i64 R) ∧ Below w.heap.size w w' := by
  have C0 := Lib.hid c0; have C1 := Lib.hid c1; have C2 := Lib.hid c2; have C3 := Lib.hid c3; have C4 := Lib.hid c4
  have HJ := Lib.hid cj; have HM := Lib.hid hm
  clear c0 c1 c2 c3 c4 cj hm
  go_enter Try.func24, Try.ntmps24
  go_wp2_with fail
  go_loopw [3] (fun iv wr => ∃ j : Nat, 1 ≤ j ∧ j ≤ 13 ∧ iv = .int .i64 j ∧ Hid (j ≤ m) ∧ Hid (Below w.heap.size w wr)) (fun iv _ => 13 - (intOf iv).toNat)
  case atStart => exact ⟨1, by omega, by omega, rfl, Lib.hid (by have := HM.out; omega), Lib.hid (Below.refl _ _)⟩
  case round =>
    obtain ⟨j, hj1, hj2, rfl, hjm, hb⟩ := hrel
    by_cases hlt : j ≤ 12
    · by_cases hmj : j = m
      · obtain ⟨T, hRT, hT, hx, cj⟩ : ∃ T : Nat, R = T ∧ T < 253402300800 ∧ Mo.tx Mo.fW T = S ∧ ∀ w, Calls Try.prog 34 #[.int .i64 r0, .int .i64 m, .int .i64 r1, .int .i64 r2, .int .i64 r3, .int .i64 r4] w fun e w' => e = .returned (.int .i64 T) ∧ w = w' := by
          rcases HM.out with h | ⟨_, _, h⟩
          · omega
          · exact h
        subst hmj
        subst hRT
        have CJ := Lib.hid cj
        have CS := Lib.hid (fun v : World => qWeb_any T hT v)
        rw [hx] at CS
        clear cj hx
        go_wp2_with (first | (go_at_call 35; first | ((with_reducible refine (C0.out _).mono ?_); rintro e w' ⟨rfl, rfl⟩) | ((with_reducible refine (C1.out _).mono ?_); rintro e w' ⟨rfl, rfl⟩) | ((with_reducible refine (C2.out _).mono ?_); rintro e w' ⟨rfl, rfl⟩) | ((with_reducible refine (C3.out _).mono ?_); rintro e w' ⟨rfl, rfl⟩) | ((with_reducible refine (C4.out _).mono ?_); rintro e w' ⟨rfl, rfl⟩)) | (go_at_call 34; refine (CJ.out _).mono ?_; rintro e w' ⟨rfl, rfl⟩) | (go_at_call 21; refine (CS.out _).mono ?_; rintro e w2 ⟨rfl, hb2⟩))
        go_ret
        exact ⟨rfl, hb.out.trans (hb2.mono hb.out.size)⟩
      · have hjm2 : j + 1 ≤ m := by have := hjm.out; omega
        obtain ⟨r, hr, cj⟩ := HJ.out j hj1 hlt
        have CJ := Lib.hid cj
        have HJM := Lib.hid hjm2
        clear cj hmj hjm2
        rcases hr with rfl | ⟨T, rfl, hT, hx⟩
        · go_wp2_with (first | (go_at_call 35; first | ((with_reducible refine (C0.out _).mono ?_); rintro e w' ⟨rfl, rfl⟩) | ((with_reducible refine (C1.out _).mono ?_); rintro e w' ⟨rfl, rfl⟩) | ((with_reducible refine (C2.out _).mono ?_); rintro e w' ⟨rfl, rfl⟩) | ((with_reducible refine (C3.out _).mono ?_); rintro e w' ⟨rfl, rfl⟩) | ((with_reducible refine (C4.out _).mono ?_); rintro e w' ⟨rfl, rfl⟩)) | (go_at_call 34; refine (CJ.out _).mono ?_; rintro e w' ⟨rfl, rfl⟩))
          go_roundw
          case rel => exact ⟨j + 1, by omega, by omega, by go_num, HJM, hb⟩
          case measure => simp [intOf]; omega
        · have CS := Lib.hid (fun v : World => qWeb_any T hT v)
          by_cases he : Mo.tx Mo.fW T = S
          · have hRT := hx he
            subst hRT
            rw [he] at CS
            clear he hx
            go_wp2_with (first | (go_at_call 35; first | ((with_reducible refine (C0.out _).mono ?_); rintro e w' ⟨rfl, rfl⟩) | ((with_reducible refine (C1.out _).mono ?_); rintro e w' ⟨rfl, rfl⟩) | ((with_reducible refine (C2.out _).mono ?_); rintro e w' ⟨rfl, rfl⟩) | ((with_reducible refine (C3.out _).mono ?_); rintro e w' ⟨rfl, rfl⟩) | ((with_reducible refine (C4.out _).mono ?_); rintro e w' ⟨rfl, rfl⟩)) | (go_at_call 34; refine (CJ.out _).mono ?_; rintro e w' ⟨rfl, rfl⟩) | (go_at_call 21; refine (CS.out _).mono ?_; rintro e w2 ⟨rfl, hb2⟩))
            go_ret
            exact ⟨rfl, hb.out.trans (hb2.mono hb.out.size)⟩
          · have q := bs_ne he
            generalize Mo.tx Mo.fW T = X at *
            clear he hx
            go_wp2_with (first | (go_at_call 35; first | ((with_reducible refine (C0.out _).mono ?_); rintro e w' ⟨rfl, rfl⟩) | ((with_reducible refine (C1.out _).mono ?_); rintro e w' ⟨rfl, rfl⟩) | ((with_reducible refine (C2.out _).mono ?_); rintro e w' ⟨rfl, rfl⟩) | ((with_reducible refine (C3.out _).mono ?_); rintro e w' ⟨rfl, rfl⟩) | ((with_reducible refine (C4.out _).mono ?_); rintro e w' ⟨rfl, rfl⟩)) | (go_at_call 34; refine (CJ.out _).mono ?_; rintro e w' ⟨rfl, rfl⟩) | (go_at_call 21; refine (CS.out _).mono ?_; rintro e w2 ⟨rfl, hb2⟩))
            go_roundw
            case rel => exact ⟨j + 1, by omega, by omega, by go_num, HJM, Lib.hid (hb.out.trans (hb2.mono hb.out.size))⟩
            case measure => simp [intOf]; omega
    · obtain rfl : j = 13 := by omega
      have hR : R = -1 := by
        rcases HM.out with h | ⟨_, h, _⟩
        · exact h.2
        · have := hjm.out; omega
      subst hR
      go_wp2_with fail
      go_ret
      exact ⟨rfl, hb.out⟩
theorem qReadWeb_any (S : List UInt8) (hS : S.length ≤ 9223372036854775807) (R : Int) (hR : RdIs Mo.fW S R) (w : World) : Calls Try.prog 24 #[.string (bs S)] w fun e w' => e = .returned (.int .i64 R) ∧ Below w.heap.size w w' := by
  rcases hR with ⟨T, rfl, hT, hx⟩ | ⟨hno, rfl⟩
  · have hd := Mo.dt_is (T / 86400) (by omega)
    have y2 := hd.y2; have m1 := hd.m1; have m2 := hd.m2; have d2 := hd.d2; have dl := Mo.ml_le (Mo.dy (T / 86400)) (Mo.dm (T / 86400))
    have cj := fun v => qjoin_ok T hT v
    subst hx
    have n0 := qn_d4 (Mo.tx Mo.fW T) 12 (Mo.dy (T / 86400)) (by omega) (by rw [Mo.tx_W]; rfl) (by rw [Mo.tx_W]; rfl) (by rw [Mo.tx_W]; rfl) (by rw [Mo.tx_W]; rfl)
    have n1 := qn_d2 (Mo.tx Mo.fW T) 5 (Mo.dd (T / 86400)) (by omega) (by rw [Mo.tx_W]; rfl) (by rw [Mo.tx_W]; rfl)
    have n2 := qn_d2 (Mo.tx Mo.fW T) 17 (T / 3600 % 24) (by omega) (by rw [Mo.tx_W]; rfl) (by rw [Mo.tx_W]; rfl)
    have n3 := qn_d2 (Mo.tx Mo.fW T) 20 (T / 60 % 60) (by omega) (by rw [Mo.tx_W]; rfl) (by rw [Mo.tx_W]; rfl)
    have n4 := qn_d2 (Mo.tx Mo.fW T) 23 (T % 60) (by omega) (by rw [Mo.tx_W]; rfl) (by rw [Mo.tx_W]; rfl)
    refine qReadWeb_gen _ _ _ _ _ _ _ (fun v => qnumber_any _ 12 4 (by omega) (by omega) hS _ (.inl n0) v) (fun v => qnumber_any _ 5 2 (by omega) (by omega) hS _ (.inl n1) v) (fun v => qnumber_any _ 17 2 (by omega) (by omega) hS _ (.inl n2) v) (fun v => qnumber_any _ 20 2 (by omega) (by omega) hS _ (.inl n3) v) (fun v => qnumber_any _ 23 2 (by omega) (by omega) hS _ (.inl n4) v) (fun k h1 h2 => ?_) (Mo.dm (T / 86400)) (.inr ⟨m1, m2, T, rfl, hT, rfl, cj⟩) w
    obtain ⟨r, hr, c⟩ := qjoin_or (Mo.dy (T / 86400)) k (Mo.dd (T / 86400)) (T / 3600 % 24 : Nat) (T / 60 % 60 : Nat) (T % 60 : Nat)
    refine ⟨r, ?_, c⟩
    rcases hr with h | ⟨U, h, hU⟩
    · exact .inl h
    · exact .inr ⟨U, h, hU, fun e => by rw [frm_W.inj hU hT e]⟩
  · obtain ⟨r0, _, c0⟩ := qnumber_or S 12 4 (by omega) (by omega) hS
    obtain ⟨r1, _, c1⟩ := qnumber_or S 5 2 (by omega) (by omega) hS
    obtain ⟨r2, _, c2⟩ := qnumber_or S 17 2 (by omega) (by omega) hS
    obtain ⟨r3, _, c3⟩ := qnumber_or S 20 2 (by omega) (by omega) hS
    obtain ⟨r4, _, c4⟩ := qnumber_or S 23 2 (by omega) (by omega) hS
    refine qReadWeb_gen S r0 r1 r2 r3 r4 (-1) c0 c1 c2 c3 c4 (fun k _ _ => ?_) 13 (.inl ⟨rfl, rfl⟩) w
    obtain ⟨r, hr, c⟩ := qjoin_or r0 k r1 r2 r3 r4
    refine ⟨r, ?_, c⟩
    rcases hr with h | ⟨U, h, hU⟩
    · exact .inl h
    · exact .inr ⟨U, h, hU, fun e => absurd e (hno U hU)⟩
end Go.Proofs.Ytllboegemooeoaa
