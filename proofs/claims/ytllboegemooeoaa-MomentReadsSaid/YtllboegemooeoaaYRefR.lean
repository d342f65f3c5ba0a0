/- The document reads a moment. -/
import Derived.Test.YtllboegemooeoaaYRead3
namespace Go.Proofs.Ytllboegemooeoaa
open Go.RowKit

def dgt (c : UInt8) : Prop := 48 ≤ c.toNat ∧ c.toNat ≤ 57
def qv (S : List UInt8) (a : Nat) : Nat → Nat
  | 0 => 0
  | j + 1 => qv S a j * 10 + ((S.getD (a + j) 0).toNat - 48)
def qok (S : List UInt8) (a many : Nat) : Prop := ∀ j, j < many → dgt (S.getD (a + j) 0)
theorem qv_lt (S : List UInt8) (a : Nat) : ∀ j, qok S a j → qv S a j < 10 ^ j := by
  intro j
  induction j with
  | zero => intro _; exact Nat.one_pos
  | succ j ih =>
    intro h
    have h1 := ih (fun k hk => h k (by omega))
    have h2 := h j (by omega)
    unfold dgt at h2
    rw [qv, Nat.pow_succ]
    omega
attribute [local go_sem high] run_index_byte
theorem getD_strAt (S : List UInt8) (i : Nat) : strAt (bs S) i = S.getD i 0 := by rw [strAt_eq, bs_list]
set_option maxRecDepth 100000 in
set_option maxHeartbeats 1000000 in
theorem qnumber_any (S : List UInt8) (a many : Nat) (ha : a ≤ 100) (hm : many ≤ 4) (hS : S.length ≤ 9223372036854775807) (r : Int) (hr : qok S a many ∧ r = qv S a many ∨ ¬ qok S a many ∧ r = -1) (w : World) : Calls Try.prog 35 #[.string (bs S), .int .i64 a, .int .i64 many] w fun e w' => e = .returned (.int .i64 r) ∧ w = w' := by
  obtain ⟨s, hs⟩ : ∃ s, s = bs S := ⟨_, rfl⟩
  have hss : s.size = S.length := by rw [hs, bs_size]
  have hst : ∀ i, strAt s i = S.getD i 0 := fun i => by rw [hs]; exact getD_strAt S i
  rw [← hs]
  have HR := Lib.hid hr; have HST := Lib.hid hst
  clear hs hr hst
  obtain ⟨N, hN⟩ : ∃ N, N = S.length := ⟨_, rfl⟩
  rw [← hN] at hss hS
  have HN := Lib.hid hN
  clear hN
  go_enter Try.func35, Try.ntmps35
  go_wp2_with fail
  go_loopw [7, 8] (fun nv iv wr => ∃ (j x : Nat), j ≤ many ∧ nv = .int .i64 x ∧ iv = .int .i64 ((a + j : Nat) : Int) ∧ x ≤ 10000 ∧ Hid (x = qv S a j) ∧ Hid (qok S a j) ∧ w = wr) (fun _ iv _ => a + many - (intOf iv).toNat)
  case atStart => exact ⟨0, 0, by omega, rfl, rfl, by omega, Lib.hid rfl, Lib.hid (fun k hk => by omega), rfl⟩
  case round =>
    obtain ⟨j, x, hj, rfl, rfl, hx, hxe, hok, rfl⟩ := hrel
    by_cases hlt : j < many
    · obtain ⟨I, hI⟩ : ∃ I, I = a + j := ⟨_, rfl⟩
      rw [← hI]
      have hIm : I < a + many := by omega
      by_cases h1 : N ≤ I
      · have hr1 : r = -1 := by
          rcases HR.out with ⟨h, _⟩ | ⟨_, h⟩
          · have := h j hlt
            rw [← hI, List.getD, List.getElem?_eq_none (by rw [← HN.out]; exact h1)] at this
            unfold dgt at this
            simp at this
          · exact h
        subst hr1
        clear hI
        go_wp2_with fail
        go_ret
        exact ⟨rfl, rfl⟩
      · have hc := HST.out I
        obtain ⟨c, hcc⟩ : ∃ c, c = strAt s I := ⟨_, rfl⟩
        have HCC := Lib.hid hcc
        rw [← hcc] at hc
        have hrI : ∀ v : World, (Instr.index 9 (.string s) (.int .i64 (I : Int))).run Try.prog v = .ok (.int .u8 (c.toNat : Int)) v := fun v => by rw [hcc]; exact run_index_byte v _ _ _ _ Try.underlying9 (by omega)
        clear hcc
        by_cases h2 : dgt c
        · have hv : qv S a (j + 1) = x * 10 + (c.toNat - 48) := by rw [qv, ← hI, ← hc, hxe.out]
          have hok2 : qok S a (j + 1) := fun k hk => by
            by_cases hkj : k = j
            · rw [hkj, ← hI, ← hc]; exact h2
            · exact hok.out k (by omega)
          have hb := qv_lt S a (j + 1) hok2
          have hp : 10 ^ (j + 1) ≤ 10 ^ 4 := Nat.pow_le_pow_right (by omega) (by omega)
          rw [hv] at hb
          have hb2 : x * 10 + (c.toNat - 48) ≤ 10000 := by omega
          have HV := Lib.hid hv; have HOK := Lib.hid hok2; have HI := Lib.hid hI
          have d1 := h2.1; have d2 := h2.2
          clear hv hok2 hb hp hc h2 hI
          go_wp2_with fail
          go_roundw
          case rel => exact ⟨j + 1, x * 10 + (c.toNat - 48), by omega, by go_num, by rw [HI.out]; congr 1; try omega, hb2, Lib.hid HV.out.symm, HOK, trivial⟩
          case measure => simp [intOf]; omega
        · have hr1 : r = -1 := by
            rcases HR.out with ⟨h, _⟩ | ⟨_, h⟩
            · have := h j hlt
              rw [← hI, ← hc] at this
              exact absurd this h2
            · exact h
          subst hr1
          unfold dgt at h2
          clear hc hI
          by_cases h3 : c.toNat < 48
          · go_wp2_with fail
            go_ret
            exact ⟨rfl, rfl⟩
          · have h4 : 57 < c.toNat := by omega
            go_wp2_with fail
            go_ret
            exact ⟨rfl, rfl⟩
    · obtain rfl : j = many := by omega
      have hr1 : r = x := by
        rcases HR.out with ⟨_, h⟩ | ⟨h, _⟩
        · rw [h, hxe.out]
        · exact absurd hok.out h
      subst hr1
      go_wp2_with fail
      go_ret
      exact ⟨rfl, rfl⟩
theorem qnumber_or (S : List UInt8) (a many : Nat) (ha : a ≤ 100) (hm : many ≤ 4) (hS : S.length ≤ 9223372036854775807) : ∃ r : Int, (-1 ≤ r ∧ r ≤ 9999) ∧ ∀ w, Calls Try.prog 35 #[.string (bs S), .int .i64 a, .int .i64 many] w fun e w' => e = .returned (.int .i64 r) ∧ w = w' := by
  by_cases h : qok S a many
  · have := qv_lt S a many h
    have hp : 10 ^ many ≤ 10 ^ 4 := Nat.pow_le_pow_right (by omega) hm
    exact ⟨qv S a many, by omega, fun w => qnumber_any S a many ha hm hS _ (.inl ⟨h, rfl⟩) w⟩
  · exact ⟨-1, by omega, fun w => qnumber_any S a many ha hm hS _ (.inr ⟨h, rfl⟩) w⟩
theorem dgt_dg (n : Nat) : dgt (Mo.dg n) := by unfold dgt; rw [Mo.dg_toNat]; omega
theorem qn_d2 (S : List UInt8) (a n : Nat) (hn : n < 100) (h0 : S.getD a 0 = Mo.dg (n / 10)) (h1 : S.getD (a + 1) 0 = Mo.dg n) : qok S a 2 ∧ ((n : Int) = qv S a 2) := by
  refine ⟨fun j hj => ?_, ?_⟩
  · rcases (show j = 0 ∨ j = 1 by omega) with rfl | rfl
    · rw [Nat.add_zero, h0]; exact dgt_dg _
    · rw [h1]; exact dgt_dg _
  · simp only [qv]
    rw [Nat.add_zero, h0, h1, Mo.dg_toNat, Mo.dg_toNat]; omega
theorem qn_d4 (S : List UInt8) (a n : Nat) (hn : n < 10000) (h0 : S.getD a 0 = Mo.dg (n / 1000)) (h1 : S.getD (a + 1) 0 = Mo.dg (n / 100)) (h2 : S.getD (a + 2) 0 = Mo.dg (n / 10)) (h3 : S.getD (a + 3) 0 = Mo.dg n) : qok S a 4 ∧ ((n : Int) = qv S a 4) := by
  refine ⟨fun j hj => ?_, ?_⟩
  · rcases (show j = 0 ∨ j = 1 ∨ j = 2 ∨ j = 3 by omega) with rfl | rfl | rfl | rfl
    · rw [Nat.add_zero, h0]; exact dgt_dg _
    · rw [h1]; exact dgt_dg _
    · rw [h2]; exact dgt_dg _
    · rw [h3]; exact dgt_dg _
  · simp only [qv]
    rw [Nat.add_zero, h0, h1, h2, h3, Mo.dg_toNat, Mo.dg_toNat, Mo.dg_toNat, Mo.dg_toNat]; omega
theorem qjoin_from (y m d h i s f : Int) (hf : f = -1) (hc : ∀ w, Calls Try.prog 25 #[.int .i64 y, .int .i64 m, .int .i64 d] w fun e w' => e = .returned (.int .i64 f) ∧ w = w') (w : World) : Calls Try.prog 34 #[.int .i64 y, .int .i64 m, .int .i64 d, .int .i64 h, .int .i64 i, .int .i64 s] w fun e w' => e = .returned (.int .i64 (-1)) ∧ w = w' := by
  subst hf
  have C := Lib.hid hc
  clear hc
  go_enter Try.func34, Try.ntmps34
  go_wp2_with (go_at_call 25; refine (C.out _).mono ?_; rintro e w' ⟨rfl, rfl⟩)
  go_ret
  exact ⟨rfl, rfl⟩
set_option maxHeartbeats 1000000 in
theorem qjoin_time (y m d h i s : Int) (f : Nat) (hb : f ≤ 253402300800) (r : Int) (hr : (0 ≤ h ∧ 0 ≤ i ∧ 0 ≤ s ∧ h ≤ 23 ∧ i ≤ 59 ∧ s ≤ 59) ∧ r = f + 3600 * h + 60 * i + s ∨ ¬ (0 ≤ h ∧ 0 ≤ i ∧ 0 ≤ s ∧ h ≤ 23 ∧ i ≤ 59 ∧ s ≤ 59) ∧ r = -1) (hc : ∀ w, Calls Try.prog 25 #[.int .i64 y, .int .i64 m, .int .i64 d] w fun e w' => e = .returned (.int .i64 (f : Int)) ∧ w = w') (w : World) : Calls Try.prog 34 #[.int .i64 y, .int .i64 m, .int .i64 d, .int .i64 h, .int .i64 i, .int .i64 s] w fun e w' => e = .returned (.int .i64 r) ∧ w = w' := by
  have C := Lib.hid hc
  clear hc
  by_cases k0 : h < 0
  · obtain rfl : r = -1 := by rcases hr with h | h
                              · omega
                              · exact h.2
    clear hr
    go_enter Try.func34, Try.ntmps34
    go_wp2_with (go_at_call 25; refine (C.out _).mono ?_; rintro e w' ⟨rfl, rfl⟩)
    go_ret
    exact ⟨by first | rfl | (exact ret_int (by omega)), rfl⟩
  by_cases k1 : i < 0
  · obtain rfl : r = -1 := by rcases hr with h | h
                              · omega
                              · exact h.2
    clear hr
    go_enter Try.func34, Try.ntmps34
    go_wp2_with (go_at_call 25; refine (C.out _).mono ?_; rintro e w' ⟨rfl, rfl⟩)
    go_ret
    exact ⟨by first | rfl | (exact ret_int (by omega)), rfl⟩
  by_cases k2 : s < 0
  · obtain rfl : r = -1 := by rcases hr with h | h
                              · omega
                              · exact h.2
    clear hr
    go_enter Try.func34, Try.ntmps34
    go_wp2_with (go_at_call 25; refine (C.out _).mono ?_; rintro e w' ⟨rfl, rfl⟩)
    go_ret
    exact ⟨by first | rfl | (exact ret_int (by omega)), rfl⟩
  by_cases k3 : 23 < h
  · obtain rfl : r = -1 := by rcases hr with h | h
                              · omega
                              · exact h.2
    clear hr
    go_enter Try.func34, Try.ntmps34
    go_wp2_with (go_at_call 25; refine (C.out _).mono ?_; rintro e w' ⟨rfl, rfl⟩)
    go_ret
    exact ⟨by first | rfl | (exact ret_int (by omega)), rfl⟩
  by_cases k4 : 59 < i
  · obtain rfl : r = -1 := by rcases hr with h | h
                              · omega
                              · exact h.2
    clear hr
    go_enter Try.func34, Try.ntmps34
    go_wp2_with (go_at_call 25; refine (C.out _).mono ?_; rintro e w' ⟨rfl, rfl⟩)
    go_ret
    exact ⟨by first | rfl | (exact ret_int (by omega)), rfl⟩
  by_cases k5 : 59 < s
  · obtain rfl : r = -1 := by rcases hr with h | h
                              · omega
                              · exact h.2
    clear hr
    go_enter Try.func34, Try.ntmps34
    go_wp2_with (go_at_call 25; refine (C.out _).mono ?_; rintro e w' ⟨rfl, rfl⟩)
    go_ret
    exact ⟨by first | rfl | (exact ret_int (by omega)), rfl⟩
  · obtain rfl : r = f + 3600 * h + 60 * i + s := by rcases hr with h | h
                                                     · exact h.2
                                                     · omega
    clear hr
    go_enter Try.func34, Try.ntmps34
    go_wp2_with (go_at_call 25; refine (C.out _).mono ?_; rintro e w' ⟨rfl, rfl⟩)
    go_ret
    exact ⟨by first | rfl | (exact ret_int (by omega)), rfl⟩
theorem qjoin_or (y m d h i s : Int) : ∃ r : Int, (r = -1 ∨ ∃ T : Nat, r = T ∧ T < 253402300800) ∧ ∀ w, Calls Try.prog 34 #[.int .i64 y, .int .i64 m, .int .i64 d, .int .i64 h, .int .i64 i, .int .i64 s] w fun e w' => e = .returned (.int .i64 r) ∧ w = w' := by
  rcases date_or y m d with hb | ⟨n, Y, M, K, rfl, rfl, rfl, hd⟩
  · exact ⟨-1, .inl rfl, fun w => qjoin_from y m d h i s (-1) rfl (fun v => qFrom_no y m d hb v) w⟩
  · have hn := hd.lt
    by_cases ht : 0 ≤ h ∧ 0 ≤ i ∧ 0 ≤ s ∧ h ≤ 23 ∧ i ≤ 59 ∧ s ≤ 59
    · exact ⟨((n * 86400 : Nat) : Int) + 3600 * h + 60 * i + s, .inr ⟨(((n * 86400 : Nat) : Int) + 3600 * h + 60 * i + s).toNat, by omega, by omega⟩, fun w => qjoin_time Y M K h i s (n * 86400) (by omega) _ (.inl ⟨ht, rfl⟩) (fun v => qFrom_ok n Y M K hd v) w⟩
    · exact ⟨-1, .inl rfl, fun w => qjoin_time Y M K h i s (n * 86400) (by omega) _ (.inr ⟨ht, rfl⟩) (fun v => qFrom_ok n Y M K hd v) w⟩
theorem qjoin_ok (t : Nat) (ht : t < 253402300800) (w : World) : Calls Try.prog 34 #[.int .i64 (Mo.dy (t / 86400)), .int .i64 (Mo.dm (t / 86400)), .int .i64 (Mo.dd (t / 86400)), .int .i64 (t / 3600 % 24 : Nat), .int .i64 (t / 60 % 60 : Nat), .int .i64 (t % 60 : Nat)] w fun e w' => e = .returned (.int .i64 t) ∧ w = w' :=
  qjoin_time _ _ _ _ _ _ (t / 86400 * 86400) (by omega) _ (.inl ⟨by omega, by omega⟩) (fun v => qFrom_ok (t / 86400) _ _ _ (Mo.dt_is (t / 86400) (by omega)) v) w
end Go.Proofs.Ytllboegemooeoaa
