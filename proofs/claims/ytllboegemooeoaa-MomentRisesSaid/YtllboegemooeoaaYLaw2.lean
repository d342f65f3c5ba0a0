/- The walks of the laws that read. -/
import Derived.Test.YtllboegemooeoaaYLaw
namespace Go.Proofs.Ytllboegemooeoaa
open Go.RowKit

set_option maxRecDepth 100000 in
set_option maxHeartbeats 1000000 in
theorem Back_no (t : Int) (ht : t < 0 ∨ 253402300799 < t) (w : World) : Calls Try.prog 3 #[.int .i64 t] w fun e w' => e = .returned (.bool true) ∧ Below w.heap.size w w' := by
  have X := Lib.hid examples_true
  have C1 := Lib.hid (fun v : World => Stamp_no t ht v)
  clear ht
  go_enter Try.func3, Try.ntmps3
  go_wp2_with (first | (go_at_call 8; refine (X.out _).mono ?_; rintro e w1 ⟨rfl, hb1⟩) | (go_at_call 9; refine (C1.out _).mono ?_; rintro e w2 ⟨rfl, hb2⟩))
  go_ret
  exact ⟨rfl, bthen hb1 hb2⟩
set_option maxRecDepth 100000 in
set_option maxHeartbeats 1000000 in
theorem Back_yes (t : Nat) (ht : t < 253402300800) (w : World) : Calls Try.prog 3 #[.int .i64 t] w fun e w' => e = .returned (.bool true) ∧ Below w.heap.size w w' := by
  have X := Lib.hid examples_true
  have C1 := Lib.hid (fun v : World => Stamp_ok t ht v)
  have C2 := Lib.hid (fun v : World => Long_ok t ht v)
  have C3 := Lib.hid (fun v : World => Web_ok t ht v)
  have C4 := Lib.hid (fun v : World => Date_ok t ht v)
  have C5 := Lib.hid (fun v : World => From_ok (t / 86400) _ _ _ (Mo.dt_is (t / 86400) (by omega)) v)
  have C6 := Lib.hid (fun v : World => ReadStamp_hit t ht v)
  have C7 := Lib.hid (fun v : World => ReadLong_hit t ht v)
  have C8 := Lib.hid (fun v : World => ReadWeb_hit t ht v)
  have f1 : t / 86400 * 86400 ≤ t := by omega
  have f2 : t - t / 86400 * 86400 < 86400 := by omega
  have f3 : (((t / 86400 * 86400 : Nat) : Int) % 86400 == 0) = true := by (simp; try omega)
  generalize Mo.tx Mo.fS t = x1 at *
  generalize Mo.tx Mo.fL t = x2 at *
  generalize Mo.tx Mo.fW t = x3 at *
  generalize Mo.dy (t / 86400) = Y at *
  generalize Mo.dm (t / 86400) = M at *
  generalize Mo.dd (t / 86400) = d at *
  generalize t / 86400 * 86400 = F at *
  go_enter Try.func3, Try.ntmps3
  go_wp2_with (first | (go_at_call 8; refine (X.out _).mono ?_; rintro e w1 ⟨rfl, hb1⟩) | (go_at_call 9; refine (C1.out _).mono ?_; rintro e w2 ⟨rfl, hb2⟩) | (go_at_call 10; refine (C2.out _).mono ?_; rintro e w3 ⟨rfl, hb3⟩) | (go_at_call 11; refine (C3.out _).mono ?_; rintro e w4 ⟨rfl, hb4⟩) | (go_at_call 12; refine (C6.out _).mono ?_; rintro e w5 ⟨rfl, hb5⟩) | (go_at_call 13; refine (C7.out _).mono ?_; rintro e w6 ⟨rfl, hb6⟩) | (go_at_call 14; refine (C8.out _).mono ?_; rintro e w7 ⟨rfl, hb7⟩) | (go_at_call 15; refine (C4.out _).mono ?_; rintro e w8 ⟨rfl, hb8⟩) | (go_at_call 16; refine (C5.out _).mono ?_; rintro e w' ⟨rfl, rfl⟩))
  go_ret
  refine ⟨?_, bthen (bthen (bthen (bthen (bthen (bthen (bthen hb1 hb2) hb3) hb4) hb5) hb6) hb7) hb8⟩
  first | rfl | (exact ret_bool (by simp; omega))
theorem Back_true (t : Int) (w : World) : Calls Try.prog 3 #[.int .i64 t] w fun e w' => e = .returned (.bool true) ∧ Below w.heap.size w w' := by
  by_cases h : t < 0 ∨ 253402300799 < t
  · exact Back_no t h w
  · obtain ⟨n, rfl⟩ : ∃ n : Nat, t = n := ⟨t.toNat, by omega⟩
    exact Back_yes n (by omega) w
/-- What Stamp and Long answer of a number. -/
structure St2 (t : Int) (a c : List UInt8) (e : Int) : Prop where
  s : ∀ v, Calls Try.prog 9 #[.int .i64 t] v fun r w' => r = .returned (.tuple #[.string (bs a), .int .i64 e]) ∧ Below v.heap.size v w'
  l : ∀ v, Calls Try.prog 10 #[.int .i64 t] v fun r w' => r = .returned (.tuple #[.string (bs c), .int .i64 e]) ∧ Below v.heap.size v w'
theorem st2 (t : Int) : (∃ n : Nat, t = n ∧ n < 253402300800 ∧ St2 t (Mo.tx Mo.fS n) (Mo.tx Mo.fL n) 0) ∨ St2 t [] [] 1 := by
  by_cases h : t < 0 ∨ 253402300799 < t
  · exact .inr ⟨fun v => Stamp_no t h v, fun v => Long_no t h v⟩
  · obtain ⟨n, rfl⟩ : ∃ n : Nat, t = n := ⟨t.toNat, by omega⟩
    exact .inl ⟨n, rfl, by omega, fun v => Stamp_ok n (by omega) v, fun v => Long_ok n (by omega) v⟩
set_option maxRecDepth 100000 in
set_option maxHeartbeats 1000000 in
theorem Rises_gen (t u : Int) (htu : t ≠ u) (a b c d : List UInt8) (e f : Int) (h1 : St2 t a c e) (h2 : St2 u b d f) (hh : (e = 1 ∧ (f = 0 ∨ f = 1)) ∨ (e = 0 ∧ f = 1) ∨ (e = 0 ∧ f = 0 ∧ ∃ lt : Bool, decide (t < u) = lt ∧ Op.bytesLess (bs a).toList (bs b).toList = lt ∧ Op.bytesLess (bs c).toList (bs d).toList = lt ∧ a ≠ b)) (w : World) : Calls Try.prog 4 #[.int .i64 t, .int .i64 u] w fun e w' => e = .returned (.bool true) ∧ Below w.heap.size w w' := by
  have X := Lib.hid examples_true
  have A1 := Lib.hid h1.s; have A2 := Lib.hid h1.l; have B1 := Lib.hid h2.s; have B2 := Lib.hid h2.l
  clear h1 h2
  have q0 : (t == u) = false := by simp; exact htu
  clear htu
  rcases hh with ⟨rfl, rfl | rfl⟩ | ⟨rfl, rfl⟩ | ⟨rfl, rfl, lt, q1, q2, q3, hne⟩
  · go_enter Try.func4, Try.ntmps4
    go_wp2_with (first | (go_at_call 8; refine (X.out _).mono ?_; rintro e w1 ⟨rfl, hb1⟩) | (go_at_call 9; first | ((with_reducible refine (A1.out _).mono ?_); rintro e w2 ⟨rfl, hb2⟩) | ((with_reducible refine (B1.out _).mono ?_); rintro e w3 ⟨rfl, hb3⟩)) | (go_at_call 10; first | ((with_reducible refine (A2.out _).mono ?_); rintro e w4 ⟨rfl, hb4⟩) | ((with_reducible refine (B2.out _).mono ?_); rintro e w5 ⟨rfl, hb5⟩)))
    go_ret
    exact ⟨rfl, bthen (bthen (bthen (bthen hb1 hb2) hb3) hb4) hb5⟩
  · go_enter Try.func4, Try.ntmps4
    go_wp2_with (first | (go_at_call 8; refine (X.out _).mono ?_; rintro e w1 ⟨rfl, hb1⟩) | (go_at_call 9; first | ((with_reducible refine (A1.out _).mono ?_); rintro e w2 ⟨rfl, hb2⟩) | ((with_reducible refine (B1.out _).mono ?_); rintro e w3 ⟨rfl, hb3⟩)) | (go_at_call 10; first | ((with_reducible refine (A2.out _).mono ?_); rintro e w4 ⟨rfl, hb4⟩) | ((with_reducible refine (B2.out _).mono ?_); rintro e w5 ⟨rfl, hb5⟩)))
    go_ret
    exact ⟨rfl, bthen (bthen (bthen (bthen hb1 hb2) hb3) hb4) hb5⟩
  · go_enter Try.func4, Try.ntmps4
    go_wp2_with (first | (go_at_call 8; refine (X.out _).mono ?_; rintro e w1 ⟨rfl, hb1⟩) | (go_at_call 9; first | ((with_reducible refine (A1.out _).mono ?_); rintro e w2 ⟨rfl, hb2⟩) | ((with_reducible refine (B1.out _).mono ?_); rintro e w3 ⟨rfl, hb3⟩)) | (go_at_call 10; first | ((with_reducible refine (A2.out _).mono ?_); rintro e w4 ⟨rfl, hb4⟩) | ((with_reducible refine (B2.out _).mono ?_); rintro e w5 ⟨rfl, hb5⟩)))
    go_ret
    exact ⟨rfl, bthen (bthen (bthen (bthen hb1 hb2) hb3) hb4) hb5⟩
  · have q4 := bs_ne hne
    clear hne
    cases lt with
    | true =>
      have k1 : t < u := of_decide_eq_true q1
      go_enter Try.func4, Try.ntmps4
      go_wp2_with (first | (go_at_call 8; refine (X.out _).mono ?_; rintro e w1 ⟨rfl, hb1⟩) | (go_at_call 9; first | ((with_reducible refine (A1.out _).mono ?_); rintro e w2 ⟨rfl, hb2⟩) | ((with_reducible refine (B1.out _).mono ?_); rintro e w3 ⟨rfl, hb3⟩)) | (go_at_call 10; first | ((with_reducible refine (A2.out _).mono ?_); rintro e w4 ⟨rfl, hb4⟩) | ((with_reducible refine (B2.out _).mono ?_); rintro e w5 ⟨rfl, hb5⟩)))
      go_ret
      exact ⟨rfl, bthen (bthen (bthen (bthen hb1 hb2) hb3) hb4) hb5⟩
    | false =>
      have k1 : ¬ t < u := of_decide_eq_false q1
      go_enter Try.func4, Try.ntmps4
      go_wp2_with (first | (go_at_call 8; refine (X.out _).mono ?_; rintro e w1 ⟨rfl, hb1⟩) | (go_at_call 9; first | ((with_reducible refine (A1.out _).mono ?_); rintro e w2 ⟨rfl, hb2⟩) | ((with_reducible refine (B1.out _).mono ?_); rintro e w3 ⟨rfl, hb3⟩)) | (go_at_call 10; first | ((with_reducible refine (A2.out _).mono ?_); rintro e w4 ⟨rfl, hb4⟩) | ((with_reducible refine (B2.out _).mono ?_); rintro e w5 ⟨rfl, hb5⟩)))
      go_ret
      exact ⟨rfl, bthen (bthen (bthen (bthen hb1 hb2) hb3) hb4) hb5⟩
/-- The same moment twice: the chain of worlds. -/
structure Ch (w0 w : World) : Prop where
  b : Below w0.heap.size w0 w
theorem Ch.next {w0 w w' : World} (h : Ch w0 w) (k : Below w.heap.size w w') : Ch w0 w' := ⟨bthen h.b k⟩
set_option maxRecDepth 100000 in
set_option maxHeartbeats 1000000 in
theorem Rises_same (t : Int) (a c : List UInt8) (e : Int) (h1 : St2 t a c e) (he : e = 0 ∨ e = 1) (w : World) : Calls Try.prog 4 #[.int .i64 t, .int .i64 t] w fun e w' => e = .returned (.bool true) ∧ Below w.heap.size w w' := by
  have X := Lib.hid examples_true
  have A1 := Lib.hid h1.s; have A2 := Lib.hid h1.l
  clear h1
  have q2 : Op.bytesLess (bs a).toList (bs a).toList = false := less_bs a a false (by rw [less_self]; simp)
  have q3 : Op.bytesLess (bs c).toList (bs c).toList = false := less_bs c c false (by rw [less_self]; simp)
  have K0 : Ch w w := ⟨Below.refl _ _⟩
  rcases he with rfl | rfl
  · go_enter Try.func4, Try.ntmps4
    go_wp2_with (first | (go_at_call 8; refine (X.out _).mono ?_; rintro e w1 ⟨rfl, hb⟩; replace K0 := Ch.next K0 hb; clear hb) | (go_at_call 9; refine (A1.out _).mono ?_; rintro e w2 ⟨rfl, hb⟩; replace K0 := Ch.next K0 hb; clear hb) | (go_at_call 10; refine (A2.out _).mono ?_; rintro e w3 ⟨rfl, hb⟩; replace K0 := Ch.next K0 hb; clear hb))
    go_ret
    exact ⟨rfl, K0.b⟩
  · go_enter Try.func4, Try.ntmps4
    go_wp2_with (first | (go_at_call 8; refine (X.out _).mono ?_; rintro e w1 ⟨rfl, hb⟩; replace K0 := Ch.next K0 hb; clear hb) | (go_at_call 9; refine (A1.out _).mono ?_; rintro e w2 ⟨rfl, hb⟩; replace K0 := Ch.next K0 hb; clear hb) | (go_at_call 10; refine (A2.out _).mono ?_; rintro e w3 ⟨rfl, hb⟩; replace K0 := Ch.next K0 hb; clear hb))
    go_ret
    exact ⟨rfl, K0.b⟩
theorem Rises_true (t u : Int) (w : World) : Calls Try.prog 4 #[.int .i64 t, .int .i64 u] w fun e w' => e = .returned (.bool true) ∧ Below w.heap.size w w' := by
  by_cases htu : t = u
  · subst htu
    rcases st2 t with ⟨n, _, _, h⟩ | h
    · exact Rises_same t _ _ _ h (.inl rfl) w
    · exact Rises_same t _ _ _ h (.inr rfl) w
  · rcases st2 t with ⟨n, hn, hn2, h⟩ | h
    · rcases st2 u with ⟨m, hm, hm2, k⟩ | k
      · refine Rises_gen t u htu _ _ _ _ _ _ h k (.inr (.inr ⟨rfl, rfl, decide (t < u), rfl, ?_, ?_, ?_⟩)) w
        · refine less_bs _ _ _ ?_
          rw [less_S n m hn2 hm2, decide_eq_true_iff]; omega
        · refine less_bs _ _ _ ?_
          rw [less_L n m hn2 hm2, decide_eq_true_iff]; omega
        · intro hx
          have := frm_S.inj hn2 hm2 hx
          omega
      · exact Rises_gen t u htu _ _ _ _ _ _ h k (.inr (.inl ⟨rfl, rfl⟩)) w
    · rcases st2 u with ⟨m, hm, hm2, k⟩ | k
      · exact Rises_gen t u htu _ _ _ _ _ _ h k (.inl ⟨rfl, .inl rfl⟩) w
      · exact Rises_gen t u htu _ _ _ _ _ _ h k (.inl ⟨rfl, .inr rfl⟩) w
/-- Both sides' reader of a form: either they read one moment, or both refuse. -/
structure Rd2 (p q : FuncId) (S : List UInt8) (A E X : Int) : Prop where
  p : ∀ v, Calls Try.prog p #[.string (bs S)] v fun r w' => r = .returned (.tuple #[.int .i64 A, .int .i64 E]) ∧ Below v.heap.size v w'
  q : ∀ v, Calls Try.prog q #[.string (bs S)] v fun r w' => r = .returned (.int .i64 X) ∧ Below v.heap.size v w'
theorem rd2_Stamp (S : List UInt8) (hS : S.length ≤ 9223372036854775807) : (∃ T : Nat, T < 253402300800 ∧ Rd2 12 22 S T 0 T) ∨ Rd2 12 22 S 0 51 (-1) := by
  by_cases h : ∃ T, T < 253402300800 ∧ Mo.tx Mo.fS T = S
  · obtain ⟨T, hT, hx⟩ := h
    refine .inl ⟨T, hT, fun v => ?_, fun v => qReadStamp_any S hS T (.inl ⟨T, rfl, hT, hx⟩) v⟩
    subst hx
    exact ReadStamp_hit T hT v
  · have hno : ∀ t, t < 253402300800 → Mo.tx Mo.fS t ≠ S := fun t ht hx => h ⟨t, ht, hx⟩
    exact .inr ⟨fun v => ReadStamp_miss S hno v, fun v => qReadStamp_any S hS (-1) (.inr ⟨hno, rfl⟩) v⟩
theorem rd2_Long (S : List UInt8) (hS : S.length ≤ 9223372036854775807) : (∃ T : Nat, T < 253402300800 ∧ Rd2 13 23 S T 0 T) ∨ Rd2 13 23 S 0 51 (-1) := by
  by_cases h : ∃ T, T < 253402300800 ∧ Mo.tx Mo.fL T = S
  · obtain ⟨T, hT, hx⟩ := h
    refine .inl ⟨T, hT, fun v => ?_, fun v => qReadLong_any S hS T (.inl ⟨T, rfl, hT, hx⟩) v⟩
    subst hx
    exact ReadLong_hit T hT v
  · have hno : ∀ t, t < 253402300800 → Mo.tx Mo.fL t ≠ S := fun t ht hx => h ⟨t, ht, hx⟩
    exact .inr ⟨fun v => ReadLong_miss S hno v, fun v => qReadLong_any S hS (-1) (.inr ⟨hno, rfl⟩) v⟩
theorem rd2_Web (S : List UInt8) (hS : S.length ≤ 9223372036854775807) : (∃ T : Nat, T < 253402300800 ∧ Rd2 14 24 S T 0 T) ∨ Rd2 14 24 S 0 51 (-1) := by
  by_cases h : ∃ T, T < 253402300800 ∧ Mo.tx Mo.fW T = S
  · obtain ⟨T, hT, hx⟩ := h
    refine .inl ⟨T, hT, fun v => ?_, fun v => qReadWeb_any S hS T (.inl ⟨T, rfl, hT, hx⟩) v⟩
    subst hx
    exact ReadWeb_hit T hT v
  · have hno : ∀ t, t < 253402300800 → Mo.tx Mo.fW t ≠ S := fun t ht hx => h ⟨t, ht, hx⟩
    exact .inr ⟨fun v => ReadWeb_miss S hno v, fun v => qReadWeb_any S hS (-1) (.inr ⟨hno, rfl⟩) v⟩
set_option maxRecDepth 100000 in
set_option maxHeartbeats 1000000 in
theorem Reads_hhh (S : List UInt8) (T1 : Nat) (d1 : Rd2 12 22 S T1 0 T1) (T2 : Nat) (d2 : Rd2 13 23 S T2 0 T2) (T3 : Nat) (d3 : Rd2 14 24 S T3 0 T3) (w : World) : Calls Try.prog 6 #[.string (bs S)] w fun e w' => e = .returned (.bool true) ∧ Below w.heap.size w w' := by
  have X := Lib.hid examples_true
  have K0 : Ch w w := ⟨Below.refl _ _⟩
  have P1 := Lib.hid d1.p; have Q1 := Lib.hid d1.q; have P2 := Lib.hid d2.p; have Q2 := Lib.hid d2.q; have P3 := Lib.hid d3.p; have Q3 := Lib.hid d3.q
  clear d1 d2 d3
  have m1 : max (T1 : Int) 0 = T1 := by omega
  have n1 : decide ((0 : Int) ≤ T1) = true := decide_eq_true (by omega)
  have m2 : max (T2 : Int) 0 = T2 := by omega
  have n2 : decide ((0 : Int) ≤ T2) = true := decide_eq_true (by omega)
  have m3 : max (T3 : Int) 0 = T3 := by omega
  have n3 : decide ((0 : Int) ≤ T3) = true := decide_eq_true (by omega)
  obtain ⟨s, hs⟩ : ∃ s, s = bs S := ⟨_, rfl⟩
  rw [← hs] at P1 Q1 P2 Q2 P3 Q3 ⊢
  clear hs
  go_enter Try.func6, Try.ntmps6
  go_wp2_with (first | (go_at_call 8; refine (X.out _).mono ?_; rintro e w1 ⟨rfl, hb⟩; replace K0 := Ch.next K0 hb; clear hb) | (go_at_call 12; refine (P1.out _).mono ?_; rintro e w2 ⟨rfl, hb⟩; replace K0 := Ch.next K0 hb; clear hb) | (go_at_call 13; refine (P2.out _).mono ?_; rintro e w3 ⟨rfl, hb⟩; replace K0 := Ch.next K0 hb; clear hb) | (go_at_call 14; refine (P3.out _).mono ?_; rintro e w4 ⟨rfl, hb⟩; replace K0 := Ch.next K0 hb; clear hb) | (go_at_call 22; refine (Q1.out _).mono ?_; rintro e w5 ⟨rfl, hb⟩; replace K0 := Ch.next K0 hb; clear hb) | (go_at_call 23; refine (Q2.out _).mono ?_; rintro e w6 ⟨rfl, hb⟩; replace K0 := Ch.next K0 hb; clear hb) | (go_at_call 24; refine (Q3.out _).mono ?_; rintro e w7 ⟨rfl, hb⟩; replace K0 := Ch.next K0 hb; clear hb))
  go_ret
  exact ⟨rfl, K0.b⟩
set_option maxRecDepth 100000 in
set_option maxHeartbeats 1000000 in
theorem Reads_hhm (S : List UInt8) (T1 : Nat) (d1 : Rd2 12 22 S T1 0 T1) (T2 : Nat) (d2 : Rd2 13 23 S T2 0 T2) (d3 : Rd2 14 24 S 0 51 (-1)) (w : World) : Calls Try.prog 6 #[.string (bs S)] w fun e w' => e = .returned (.bool true) ∧ Below w.heap.size w w' := by
  have X := Lib.hid examples_true
  have K0 : Ch w w := ⟨Below.refl _ _⟩
  have P1 := Lib.hid d1.p; have Q1 := Lib.hid d1.q; have P2 := Lib.hid d2.p; have Q2 := Lib.hid d2.q; have P3 := Lib.hid d3.p; have Q3 := Lib.hid d3.q
  clear d1 d2 d3
  have m1 : max (T1 : Int) 0 = T1 := by omega
  have n1 : decide ((0 : Int) ≤ T1) = true := decide_eq_true (by omega)
  have m2 : max (T2 : Int) 0 = T2 := by omega
  have n2 : decide ((0 : Int) ≤ T2) = true := decide_eq_true (by omega)
  obtain ⟨Z3, z3⟩ : ∃ x : Int, x = -1 := ⟨_, rfl⟩
  rw [← z3] at Q3
  have m3 : max Z3 0 = 0 := by omega
  have n3 : decide (0 ≤ Z3) = false := decide_eq_false (by omega)
  have l3 : Z3 < 0 := by omega
  clear z3
  obtain ⟨s, hs⟩ : ∃ s, s = bs S := ⟨_, rfl⟩
  rw [← hs] at P1 Q1 P2 Q2 P3 Q3 ⊢
  clear hs
  go_enter Try.func6, Try.ntmps6
  go_wp2_with (first | (go_at_call 8; refine (X.out _).mono ?_; rintro e w1 ⟨rfl, hb⟩; replace K0 := Ch.next K0 hb; clear hb) | (go_at_call 12; refine (P1.out _).mono ?_; rintro e w2 ⟨rfl, hb⟩; replace K0 := Ch.next K0 hb; clear hb) | (go_at_call 13; refine (P2.out _).mono ?_; rintro e w3 ⟨rfl, hb⟩; replace K0 := Ch.next K0 hb; clear hb) | (go_at_call 14; refine (P3.out _).mono ?_; rintro e w4 ⟨rfl, hb⟩; replace K0 := Ch.next K0 hb; clear hb) | (go_at_call 22; refine (Q1.out _).mono ?_; rintro e w5 ⟨rfl, hb⟩; replace K0 := Ch.next K0 hb; clear hb) | (go_at_call 23; refine (Q2.out _).mono ?_; rintro e w6 ⟨rfl, hb⟩; replace K0 := Ch.next K0 hb; clear hb) | (go_at_call 24; refine (Q3.out _).mono ?_; rintro e w7 ⟨rfl, hb⟩; replace K0 := Ch.next K0 hb; clear hb))
  go_ret
  exact ⟨rfl, K0.b⟩
set_option maxRecDepth 100000 in
set_option maxHeartbeats 1000000 in
theorem Reads_hmh (S : List UInt8) (T1 : Nat) (d1 : Rd2 12 22 S T1 0 T1) (d2 : Rd2 13 23 S 0 51 (-1)) (T3 : Nat) (d3 : Rd2 14 24 S T3 0 T3) (w : World) : Calls Try.prog 6 #[.string (bs S)] w fun e w' => e = .returned (.bool true) ∧ Below w.heap.size w w' := by
  have X := Lib.hid examples_true
  have K0 : Ch w w := ⟨Below.refl _ _⟩
  have P1 := Lib.hid d1.p; have Q1 := Lib.hid d1.q; have P2 := Lib.hid d2.p; have Q2 := Lib.hid d2.q; have P3 := Lib.hid d3.p; have Q3 := Lib.hid d3.q
  clear d1 d2 d3
  have m1 : max (T1 : Int) 0 = T1 := by omega
  have n1 : decide ((0 : Int) ≤ T1) = true := decide_eq_true (by omega)
  have m3 : max (T3 : Int) 0 = T3 := by omega
  have n3 : decide ((0 : Int) ≤ T3) = true := decide_eq_true (by omega)
  obtain ⟨Z2, z2⟩ : ∃ x : Int, x = -1 := ⟨_, rfl⟩
  rw [← z2] at Q2
  have m2 : max Z2 0 = 0 := by omega
  have n2 : decide (0 ≤ Z2) = false := decide_eq_false (by omega)
  have l2 : Z2 < 0 := by omega
  clear z2
  obtain ⟨s, hs⟩ : ∃ s, s = bs S := ⟨_, rfl⟩
  rw [← hs] at P1 Q1 P2 Q2 P3 Q3 ⊢
  clear hs
  go_enter Try.func6, Try.ntmps6
  go_wp2_with (first | (go_at_call 8; refine (X.out _).mono ?_; rintro e w1 ⟨rfl, hb⟩; replace K0 := Ch.next K0 hb; clear hb) | (go_at_call 12; refine (P1.out _).mono ?_; rintro e w2 ⟨rfl, hb⟩; replace K0 := Ch.next K0 hb; clear hb) | (go_at_call 13; refine (P2.out _).mono ?_; rintro e w3 ⟨rfl, hb⟩; replace K0 := Ch.next K0 hb; clear hb) | (go_at_call 14; refine (P3.out _).mono ?_; rintro e w4 ⟨rfl, hb⟩; replace K0 := Ch.next K0 hb; clear hb) | (go_at_call 22; refine (Q1.out _).mono ?_; rintro e w5 ⟨rfl, hb⟩; replace K0 := Ch.next K0 hb; clear hb) | (go_at_call 23; refine (Q2.out _).mono ?_; rintro e w6 ⟨rfl, hb⟩; replace K0 := Ch.next K0 hb; clear hb) | (go_at_call 24; refine (Q3.out _).mono ?_; rintro e w7 ⟨rfl, hb⟩; replace K0 := Ch.next K0 hb; clear hb))
  go_ret
  exact ⟨rfl, K0.b⟩
set_option maxRecDepth 100000 in
set_option maxHeartbeats 1000000 in
theorem Reads_hmm (S : List UInt8) (T1 : Nat) (d1 : Rd2 12 22 S T1 0 T1) (d2 : Rd2 13 23 S 0 51 (-1)) (d3 : Rd2 14 24 S 0 51 (-1)) (w : World) : Calls Try.prog 6 #[.string (bs S)] w fun e w' => e = .returned (.bool true) ∧ Below w.heap.size w w' := by
  have X := Lib.hid examples_true
  have K0 : Ch w w := ⟨Below.refl _ _⟩
  have P1 := Lib.hid d1.p; have Q1 := Lib.hid d1.q; have P2 := Lib.hid d2.p; have Q2 := Lib.hid d2.q; have P3 := Lib.hid d3.p; have Q3 := Lib.hid d3.q
  clear d1 d2 d3
  have m1 : max (T1 : Int) 0 = T1 := by omega
  have n1 : decide ((0 : Int) ≤ T1) = true := decide_eq_true (by omega)
  obtain ⟨Z2, z2⟩ : ∃ x : Int, x = -1 := ⟨_, rfl⟩
  rw [← z2] at Q2
  have m2 : max Z2 0 = 0 := by omega
  have n2 : decide (0 ≤ Z2) = false := decide_eq_false (by omega)
  have l2 : Z2 < 0 := by omega
  clear z2
  obtain ⟨Z3, z3⟩ : ∃ x : Int, x = -1 := ⟨_, rfl⟩
  rw [← z3] at Q3
  have m3 : max Z3 0 = 0 := by omega
  have n3 : decide (0 ≤ Z3) = false := decide_eq_false (by omega)
  have l3 : Z3 < 0 := by omega
  clear z3
  obtain ⟨s, hs⟩ : ∃ s, s = bs S := ⟨_, rfl⟩
  rw [← hs] at P1 Q1 P2 Q2 P3 Q3 ⊢
  clear hs
  go_enter Try.func6, Try.ntmps6
  go_wp2_with (first | (go_at_call 8; refine (X.out _).mono ?_; rintro e w1 ⟨rfl, hb⟩; replace K0 := Ch.next K0 hb; clear hb) | (go_at_call 12; refine (P1.out _).mono ?_; rintro e w2 ⟨rfl, hb⟩; replace K0 := Ch.next K0 hb; clear hb) | (go_at_call 13; refine (P2.out _).mono ?_; rintro e w3 ⟨rfl, hb⟩; replace K0 := Ch.next K0 hb; clear hb) | (go_at_call 14; refine (P3.out _).mono ?_; rintro e w4 ⟨rfl, hb⟩; replace K0 := Ch.next K0 hb; clear hb) | (go_at_call 22; refine (Q1.out _).mono ?_; rintro e w5 ⟨rfl, hb⟩; replace K0 := Ch.next K0 hb; clear hb) | (go_at_call 23; refine (Q2.out _).mono ?_; rintro e w6 ⟨rfl, hb⟩; replace K0 := Ch.next K0 hb; clear hb) | (go_at_call 24; refine (Q3.out _).mono ?_; rintro e w7 ⟨rfl, hb⟩; replace K0 := Ch.next K0 hb; clear hb))
  go_ret
  exact ⟨rfl, K0.b⟩
set_option maxRecDepth 100000 in
set_option maxHeartbeats 1000000 in
theorem Reads_mhh (S : List UInt8) (d1 : Rd2 12 22 S 0 51 (-1)) (T2 : Nat) (d2 : Rd2 13 23 S T2 0 T2) (T3 : Nat) (d3 : Rd2 14 24 S T3 0 T3) (w : World) : Calls Try.prog 6 #[.string (bs S)] w fun e w' => e = .returned (.bool true) ∧ Below w.heap.size w w' := by
  have X := Lib.hid examples_true
  have K0 : Ch w w := ⟨Below.refl _ _⟩
  have P1 := Lib.hid d1.p; have Q1 := Lib.hid d1.q; have P2 := Lib.hid d2.p; have Q2 := Lib.hid d2.q; have P3 := Lib.hid d3.p; have Q3 := Lib.hid d3.q
  clear d1 d2 d3
  have m2 : max (T2 : Int) 0 = T2 := by omega
  have n2 : decide ((0 : Int) ≤ T2) = true := decide_eq_true (by omega)
  have m3 : max (T3 : Int) 0 = T3 := by omega
  have n3 : decide ((0 : Int) ≤ T3) = true := decide_eq_true (by omega)
  obtain ⟨Z1, z1⟩ : ∃ x : Int, x = -1 := ⟨_, rfl⟩
  rw [← z1] at Q1
  have m1 : max Z1 0 = 0 := by omega
  have n1 : decide (0 ≤ Z1) = false := decide_eq_false (by omega)
  have l1 : Z1 < 0 := by omega
  clear z1
  obtain ⟨s, hs⟩ : ∃ s, s = bs S := ⟨_, rfl⟩
  rw [← hs] at P1 Q1 P2 Q2 P3 Q3 ⊢
  clear hs
  go_enter Try.func6, Try.ntmps6
  go_wp2_with (first | (go_at_call 8; refine (X.out _).mono ?_; rintro e w1 ⟨rfl, hb⟩; replace K0 := Ch.next K0 hb; clear hb) | (go_at_call 12; refine (P1.out _).mono ?_; rintro e w2 ⟨rfl, hb⟩; replace K0 := Ch.next K0 hb; clear hb) | (go_at_call 13; refine (P2.out _).mono ?_; rintro e w3 ⟨rfl, hb⟩; replace K0 := Ch.next K0 hb; clear hb) | (go_at_call 14; refine (P3.out _).mono ?_; rintro e w4 ⟨rfl, hb⟩; replace K0 := Ch.next K0 hb; clear hb) | (go_at_call 22; refine (Q1.out _).mono ?_; rintro e w5 ⟨rfl, hb⟩; replace K0 := Ch.next K0 hb; clear hb) | (go_at_call 23; refine (Q2.out _).mono ?_; rintro e w6 ⟨rfl, hb⟩; replace K0 := Ch.next K0 hb; clear hb) | (go_at_call 24; refine (Q3.out _).mono ?_; rintro e w7 ⟨rfl, hb⟩; replace K0 := Ch.next K0 hb; clear hb))
  go_ret
  exact ⟨rfl, K0.b⟩
set_option maxRecDepth 100000 in
set_option maxHeartbeats 1000000 in
theorem Reads_mhm (S : List UInt8) (d1 : Rd2 12 22 S 0 51 (-1)) (T2 : Nat) (d2 : Rd2 13 23 S T2 0 T2) (d3 : Rd2 14 24 S 0 51 (-1)) (w : World) : Calls Try.prog 6 #[.string (bs S)] w fun e w' => e = .returned (.bool true) ∧ Below w.heap.size w w' := by
  have X := Lib.hid examples_true
  have K0 : Ch w w := ⟨Below.refl _ _⟩
  have P1 := Lib.hid d1.p; have Q1 := Lib.hid d1.q; have P2 := Lib.hid d2.p; have Q2 := Lib.hid d2.q; have P3 := Lib.hid d3.p; have Q3 := Lib.hid d3.q
  clear d1 d2 d3
  have m2 : max (T2 : Int) 0 = T2 := by omega
  have n2 : decide ((0 : Int) ≤ T2) = true := decide_eq_true (by omega)
  obtain ⟨Z1, z1⟩ : ∃ x : Int, x = -1 := ⟨_, rfl⟩
  rw [← z1] at Q1
  have m1 : max Z1 0 = 0 := by omega
  have n1 : decide (0 ≤ Z1) = false := decide_eq_false (by omega)
  have l1 : Z1 < 0 := by omega
  clear z1
  obtain ⟨Z3, z3⟩ : ∃ x : Int, x = -1 := ⟨_, rfl⟩
  rw [← z3] at Q3
  have m3 : max Z3 0 = 0 := by omega
  have n3 : decide (0 ≤ Z3) = false := decide_eq_false (by omega)
  have l3 : Z3 < 0 := by omega
  clear z3
  obtain ⟨s, hs⟩ : ∃ s, s = bs S := ⟨_, rfl⟩
  rw [← hs] at P1 Q1 P2 Q2 P3 Q3 ⊢
  clear hs
  go_enter Try.func6, Try.ntmps6
  go_wp2_with (first | (go_at_call 8; refine (X.out _).mono ?_; rintro e w1 ⟨rfl, hb⟩; replace K0 := Ch.next K0 hb; clear hb) | (go_at_call 12; refine (P1.out _).mono ?_; rintro e w2 ⟨rfl, hb⟩; replace K0 := Ch.next K0 hb; clear hb) | (go_at_call 13; refine (P2.out _).mono ?_; rintro e w3 ⟨rfl, hb⟩; replace K0 := Ch.next K0 hb; clear hb) | (go_at_call 14; refine (P3.out _).mono ?_; rintro e w4 ⟨rfl, hb⟩; replace K0 := Ch.next K0 hb; clear hb) | (go_at_call 22; refine (Q1.out _).mono ?_; rintro e w5 ⟨rfl, hb⟩; replace K0 := Ch.next K0 hb; clear hb) | (go_at_call 23; refine (Q2.out _).mono ?_; rintro e w6 ⟨rfl, hb⟩; replace K0 := Ch.next K0 hb; clear hb) | (go_at_call 24; refine (Q3.out _).mono ?_; rintro e w7 ⟨rfl, hb⟩; replace K0 := Ch.next K0 hb; clear hb))
  go_ret
  exact ⟨rfl, K0.b⟩
set_option maxRecDepth 100000 in
set_option maxHeartbeats 1000000 in
theorem Reads_mmh (S : List UInt8) (d1 : Rd2 12 22 S 0 51 (-1)) (d2 : Rd2 13 23 S 0 51 (-1)) (T3 : Nat) (d3 : Rd2 14 24 S T3 0 T3) (w : World) : Calls Try.prog 6 #[.string (bs S)] w fun e w' => e = .returned (.bool true) ∧ Below w.heap.size w w' := by
  have X := Lib.hid examples_true
  have K0 : Ch w w := ⟨Below.refl _ _⟩
  have P1 := Lib.hid d1.p; have Q1 := Lib.hid d1.q; have P2 := Lib.hid d2.p; have Q2 := Lib.hid d2.q; have P3 := Lib.hid d3.p; have Q3 := Lib.hid d3.q
  clear d1 d2 d3
  have m3 : max (T3 : Int) 0 = T3 := by omega
  have n3 : decide ((0 : Int) ≤ T3) = true := decide_eq_true (by omega)
  obtain ⟨Z1, z1⟩ : ∃ x : Int, x = -1 := ⟨_, rfl⟩
  rw [← z1] at Q1
  have m1 : max Z1 0 = 0 := by omega
  have n1 : decide (0 ≤ Z1) = false := decide_eq_false (by omega)
  have l1 : Z1 < 0 := by omega
  clear z1
  obtain ⟨Z2, z2⟩ : ∃ x : Int, x = -1 := ⟨_, rfl⟩
  rw [← z2] at Q2
  have m2 : max Z2 0 = 0 := by omega
  have n2 : decide (0 ≤ Z2) = false := decide_eq_false (by omega)
  have l2 : Z2 < 0 := by omega
  clear z2
  obtain ⟨s, hs⟩ : ∃ s, s = bs S := ⟨_, rfl⟩
  rw [← hs] at P1 Q1 P2 Q2 P3 Q3 ⊢
  clear hs
  go_enter Try.func6, Try.ntmps6
  go_wp2_with (first | (go_at_call 8; refine (X.out _).mono ?_; rintro e w1 ⟨rfl, hb⟩; replace K0 := Ch.next K0 hb; clear hb) | (go_at_call 12; refine (P1.out _).mono ?_; rintro e w2 ⟨rfl, hb⟩; replace K0 := Ch.next K0 hb; clear hb) | (go_at_call 13; refine (P2.out _).mono ?_; rintro e w3 ⟨rfl, hb⟩; replace K0 := Ch.next K0 hb; clear hb) | (go_at_call 14; refine (P3.out _).mono ?_; rintro e w4 ⟨rfl, hb⟩; replace K0 := Ch.next K0 hb; clear hb) | (go_at_call 22; refine (Q1.out _).mono ?_; rintro e w5 ⟨rfl, hb⟩; replace K0 := Ch.next K0 hb; clear hb) | (go_at_call 23; refine (Q2.out _).mono ?_; rintro e w6 ⟨rfl, hb⟩; replace K0 := Ch.next K0 hb; clear hb) | (go_at_call 24; refine (Q3.out _).mono ?_; rintro e w7 ⟨rfl, hb⟩; replace K0 := Ch.next K0 hb; clear hb))
  go_ret
  exact ⟨rfl, K0.b⟩
set_option maxRecDepth 100000 in
set_option maxHeartbeats 1000000 in
theorem Reads_mmm (S : List UInt8) (d1 : Rd2 12 22 S 0 51 (-1)) (d2 : Rd2 13 23 S 0 51 (-1)) (d3 : Rd2 14 24 S 0 51 (-1)) (w : World) : Calls Try.prog 6 #[.string (bs S)] w fun e w' => e = .returned (.bool true) ∧ Below w.heap.size w w' := by
  have X := Lib.hid examples_true
  have K0 : Ch w w := ⟨Below.refl _ _⟩
  have P1 := Lib.hid d1.p; have Q1 := Lib.hid d1.q; have P2 := Lib.hid d2.p; have Q2 := Lib.hid d2.q; have P3 := Lib.hid d3.p; have Q3 := Lib.hid d3.q
  clear d1 d2 d3
  obtain ⟨Z1, z1⟩ : ∃ x : Int, x = -1 := ⟨_, rfl⟩
  rw [← z1] at Q1
  have m1 : max Z1 0 = 0 := by omega
  have n1 : decide (0 ≤ Z1) = false := decide_eq_false (by omega)
  have l1 : Z1 < 0 := by omega
  clear z1
  obtain ⟨Z2, z2⟩ : ∃ x : Int, x = -1 := ⟨_, rfl⟩
  rw [← z2] at Q2
  have m2 : max Z2 0 = 0 := by omega
  have n2 : decide (0 ≤ Z2) = false := decide_eq_false (by omega)
  have l2 : Z2 < 0 := by omega
  clear z2
  obtain ⟨Z3, z3⟩ : ∃ x : Int, x = -1 := ⟨_, rfl⟩
  rw [← z3] at Q3
  have m3 : max Z3 0 = 0 := by omega
  have n3 : decide (0 ≤ Z3) = false := decide_eq_false (by omega)
  have l3 : Z3 < 0 := by omega
  clear z3
  obtain ⟨s, hs⟩ : ∃ s, s = bs S := ⟨_, rfl⟩
  rw [← hs] at P1 Q1 P2 Q2 P3 Q3 ⊢
  clear hs
  go_enter Try.func6, Try.ntmps6
  go_wp2_with (first | (go_at_call 8; refine (X.out _).mono ?_; rintro e w1 ⟨rfl, hb⟩; replace K0 := Ch.next K0 hb; clear hb) | (go_at_call 12; refine (P1.out _).mono ?_; rintro e w2 ⟨rfl, hb⟩; replace K0 := Ch.next K0 hb; clear hb) | (go_at_call 13; refine (P2.out _).mono ?_; rintro e w3 ⟨rfl, hb⟩; replace K0 := Ch.next K0 hb; clear hb) | (go_at_call 14; refine (P3.out _).mono ?_; rintro e w4 ⟨rfl, hb⟩; replace K0 := Ch.next K0 hb; clear hb) | (go_at_call 22; refine (Q1.out _).mono ?_; rintro e w5 ⟨rfl, hb⟩; replace K0 := Ch.next K0 hb; clear hb) | (go_at_call 23; refine (Q2.out _).mono ?_; rintro e w6 ⟨rfl, hb⟩; replace K0 := Ch.next K0 hb; clear hb) | (go_at_call 24; refine (Q3.out _).mono ?_; rintro e w7 ⟨rfl, hb⟩; replace K0 := Ch.next K0 hb; clear hb))
  go_ret
  exact ⟨rfl, K0.b⟩
theorem Reads_list (S : List UInt8) (hS : S.length ≤ 9223372036854775807) (w : World) : Calls Try.prog 6 #[.string (bs S)] w fun e w' => e = .returned (.bool true) ∧ Below w.heap.size w w' := by
  rcases rd2_Stamp S hS with ⟨T1, _, d1⟩ | d1 <;> rcases rd2_Long S hS with ⟨T2, _, d2⟩ | d2 <;> rcases rd2_Web S hS with ⟨T3, _, d3⟩ | d3
  · exact Reads_hhh S T1 d1 T2 d2 T3 d3 w
  · exact Reads_hhm S T1 d1 T2 d2 d3 w
  · exact Reads_hmh S T1 d1 d2 T3 d3 w
  · exact Reads_hmm S T1 d1 d2 d3 w
  · exact Reads_mhh S d1 T2 d2 T3 d3 w
  · exact Reads_mhm S d1 T2 d2 d3 w
  · exact Reads_mmh S d1 d2 T3 d3 w
  · exact Reads_mmm S d1 d2 d3 w
theorem Reads_true (s : ByteArray) (hs : s.size ≤ 9223372036854775807) (w : World) : Calls Try.prog 6 #[.string s] w fun e w' => e = .returned (.bool true) ∧ Below w.heap.size w w' := by
  have := Reads_list s.data.toList (by rw [size_toList]; exact hs) w
  rw [bs_self] at this
  exact this
end Go.Proofs.Ytllboegemooeoaa
