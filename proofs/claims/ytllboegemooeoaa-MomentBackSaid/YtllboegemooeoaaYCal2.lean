/- The program's dates: of a day's number, and back. -/
import Derived.Test.YtllboegemooeoaaYCal
namespace Go.Proofs.Ytllboegemooeoaa
open Go.RowKit

/-- The question of the search: is the day ahead of the next year's beginning? -/
theorem dateOf1_any (n b i : Nat) (hi : i ≤ 8029) (w : World) (hc : w.cell? ⟨b, 0, none⟩ = some (.int .i64 n)) :
    Calls Try.prog 40 #[.int .i64 i, .pointer (some ⟨b, 0, none⟩)] w fun e w' => e = .returned (.bool (decide (n < Mo.D (1970 + i + 1)))) ∧ ∃ q, w' = w.drewN q := by
  have h1 := daysToYear_any (1970 + i + 1) (by omega) (by omega)
  have e1 : ((1970 + i + 1 : Nat) : Int) = 1970 + (i : Int) + 1 := by omega
  rw [e1] at h1
  generalize Mo.D (1970 + i + 1) = z at h1 ⊢
  clear e1
  have H1 := Lib.hid (fun v : World => (h1 v).mono (R' := fun r w' => r = .returned (.int .i64 (z : Int)) ∧ w' = v) (fun _ _ h => ⟨h.1, h.2.symm⟩))
  clear h1
  go_enter Try.func40, Try.ntmps40
  go_wp2_with fail
  go_quiet (first | (go_at_call 41; exact Calls.quiet_of_same (H1.out _)))
  go_wp2
  go_ret
  refine ⟨ret_bool ?_, _, rfl⟩
  simp
theorem search_any (n b : Nat) (w : World) (hc : w.cell? ⟨b, 0, none⟩ = some (.int .i64 n)) :
    Calls Try.prog 39 #[.int .i64 8029, .func (.func 40) #[] #[.pointer (some ⟨b, 0, none⟩)]] w fun e w' => ∃ k : Nat, e = .returned (.int .i64 k) ∧ k ≤ 8029 ∧ (∀ t, t < k → Mo.D (1970 + t + 1) ≤ n) ∧ (k < 8029 → n < Mo.D (1970 + k + 1)) ∧ ∃ q, w' = w.drewN q := by
  have HF := Lib.hid (fun (i q : Nat) (hi : i ≤ 8029) => dateOf1_any n b i hi (w.drewN q) hc)
  clear hc
  go_enter Try.func39, Try.ntmps39
  go_wp2_with fail
  go_loopw [5, 6] (fun s5 s6 wr => ∃ (lo hi q : Nat), s5 = .int .i64 lo ∧ s6 = .int .i64 hi ∧ lo ≤ hi ∧ hi ≤ 8029 ∧ wr = w.drewN q ∧
    Hid ((∀ t, t < lo → Mo.D (1970 + t + 1) ≤ n) ∧ (hi < 8029 → n < Mo.D (1970 + hi + 1)))) (fun s5 s6 _ => (intOf s6).toNat - (intOf s5).toNat)
  case atStart => exact ⟨0, 8029, 0, rfl, rfl, by omega, by omega, rfl, Lib.hid ⟨fun t ht => by omega, fun h => by omega⟩⟩
  case round =>
    obtain ⟨lo, hi, q, rfl, rfl, hlh, hin, rfl, I⟩ := hrel
    by_cases hlt : lo < hi
    · have hc := HF.out ((lo + hi) / 2) q (by omega)
      rw [show (((lo + hi) / 2 : Nat) : Int) = ((lo : Int) + (hi : Int)) / 2 by omega] at hc
      by_cases hp : n < Mo.D (1970 + (lo + hi) / 2 + 1)
      · rw [decide_eq_true hp] at hc
        have HP := Lib.hid hp
        clear hp
        go_wp2_with (go_at_call 40; refine hc.mono ?_; rintro e w' ⟨rfl, nq, rfl⟩)
        go_roundw
        case rel => exact ⟨lo, (lo + hi) / 2, q + nq, rfl, by rw [show ((lo : Int) + (hi : Int)) / 2 = (((lo + hi) / 2 : Nat) : Int) by omega], by omega, by omega, rfl, Lib.hid ⟨I.out.1, fun _ => HP.out⟩⟩
        case measure => simp [intOf]; omega
      · rw [decide_eq_false hp] at hc
        have HP := Lib.hid hp
        clear hp
        go_wp2_with (go_at_call 40; refine hc.mono ?_; rintro e w' ⟨rfl, nq, rfl⟩)
        go_roundw
        case rel =>
          refine ⟨(lo + hi) / 2 + 1, hi, q + nq, by rw [show ((lo : Int) + (hi : Int)) / 2 + 1 = (((lo + hi) / 2 + 1 : Nat) : Int) by omega], rfl, by omega, hin, rfl, Lib.hid ⟨fun t ht => ?_, I.out.2⟩⟩
          have := Mo.D_le (a := 1970 + t + 1) (b := 1970 + (lo + hi) / 2 + 1) (by omega) (by omega)
          have := HP.out
          omega
        case measure => simp [intOf]; omega
    · obtain rfl : lo = hi := by omega
      go_wp2_with fail
      go_ret
      exact ⟨_, rfl, hin, I.out.1, I.out.2, _, rfl⟩
set_option maxHeartbeats 1000000 in
theorem dateOf_any (n : Nat) (hn : n < 2932897) (w : World) : Calls Try.prog 28 #[.int .i64 n] w fun e w' => e = .returned (.tuple #[.int .i64 (Mo.dy n), .int .i64 (Mo.dm n), .int .i64 (Mo.dd n)]) ∧ Below w.heap.size w w' := by
  have hdt := Mo.dt_is n hn
  obtain ⟨Y, hY⟩ : ∃ Y, Y = Mo.dy n := ⟨_, rfl⟩
  obtain ⟨M, hM⟩ : ∃ M, M = Mo.dm n := ⟨_, rfl⟩
  obtain ⟨d, hd⟩ : ∃ d, d = Mo.dd n := ⟨_, rfl⟩
  rw [← hY, ← hM, ← hd] at hdt ⊢
  clear hY hM hd
  have HDT := Lib.hid hdt
  have y1 := hdt.y1; have y2 := hdt.y2
  have hz := daysToYear_any Y (by omega) y1
  have hzn := hdt.year.1
  have hdi := fun (j : Nat) (h1 : 1 ≤ j) (h2 : j ≤ 12) => daysIn_any Y j (by omega) h1 h2
  have hyr : ∀ k, k ≤ 8029 → (∀ t, t < k → Mo.D (1970 + t + 1) ≤ n) → (k < 8029 → n < Mo.D (1970 + k + 1)) → 1970 + k = Y := by
    intro k hk1 hk2 hk3
    have yy := hdt.year
    by_cases h1 : 1970 + k < Y
    · have := hk3 (by omega)
      have := Mo.D_le (a := 1970 + k + 1) (b := Y) (by omega) (by omega)
      omega
    · by_cases h2 : Y < 1970 + k
      · have := hk2 (Y - 1970) (by omega)
        rw [show 1970 + (Y - 1970) + 1 = Y + 1 by omega] at this
        omega
      · omega
  obtain ⟨Z, hZ⟩ : ∃ Z, Z = Mo.D Y := ⟨_, rfl⟩
  rw [← hZ] at hz hzn
  have HDI := Lib.hid hdi
  have HZ := Lib.hid hZ
  have HYR := Lib.hid hyr
  have hZn : Z ≤ n := by omega
  clear hZ hzn hdi hdt hyr
  have H1 := Lib.hid (fun v : World => (hz v).mono (R' := fun r w' => r = .returned (.int .i64 (Z : Int)) ∧ w' = v) (fun _ _ h => ⟨h.1, h.2.symm⟩))
  clear hz
  have HS := Lib.hid (fun (u : World) (b : Nat) (hc : u.cell? ⟨b, 0, none⟩ = some (.int .i64 n)) => search_any n b u hc)
  go_enter Try.func28, Try.ntmps28
  obtain ⟨w1, hw1⟩ : ∃ x, x = w.alloc (.cells #[.int .i64 (n : Int)] 3) := ⟨_, rfl⟩
  have hc1 : w1.cell? ⟨w.heap.size, 0, none⟩ = some (.int .i64 n) := by rw [hw1, World.cell?_alloc_at _ _ _ _ (by simp)]; rfl
  have HB1 := Lib.hid (show Below w.heap.size w w1 by rw [hw1]; exact (Below.refl _ _).alloc (Nat.le_refl _) _)
  go_wp2_with (go_at_call 39; rw [← hw1]; clear hw1; refine (HS.out _ _ hc1).mono ?_; rintro e w2 ⟨k, rfl, hk1, hk2, hk3, q, rfl⟩)
  have hk := HYR.out k hk1 hk2 hk3
  clear hk2 hk3 HYR HS
  have eK2 : (1970 + (k : Int)) = (Y : Int) := by omega
  have HB2 := Lib.hid (below_drewN HB1.out q)
  have hc2 : (w1.drewN q).cell? ⟨w.heap.size, 0, none⟩ = some (.int .i64 n) := hc1
  clear hc1 HB1
  obtain ⟨w2, hw2⟩ : ∃ x, x = w1.drewN q := ⟨_, rfl⟩
  rw [← hw2] at HB2 hc2 ⊢
  clear hw2
  rw [eK2]
  clear eK2 hk
  go_quiet (first | (go_at_call 41; exact Calls.quiet_of_same (H1.out _)))
  have HB3 := Lib.hid (below_drewN HB2.out nq)
  clear HB2 hc2
  obtain ⟨w3, hw3⟩ : ∃ x, x = w2.drewN nq := ⟨_, rfl⟩
  rw [← hw3] at HB3 ⊢
  clear hw3
  go_wp2_with fail
  go_loopw [6, 7] (fun a r wr => ∃ (j x : Nat), 1 ≤ j ∧ j ≤ 12 ∧ a = .int .i64 j ∧ r = .int .i64 x ∧ Hid (Z + Mo.mm Y j + x = n) ∧ j ≤ M ∧ x ≤ 2932897 ∧ wr = w3) (fun a _ _ => 12 - (intOf a).toNat)
  case atStart => exact ⟨1, n - Z, by omega, by omega, rfl, by congr 1; omega, Lib.hid (by rw [Mo.mm_one]; omega), HDT.out.m1, by omega, rfl⟩
  case round =>
    obtain ⟨j, x, hj1, hj2, rfl, rfl, hx, hjM, hx2, rfl⟩ := hrel
    have hcl := HDI.out j hj1 hj2
    have hl := Mo.ml_le Y j
    have hor : (x < Mo.ml Y j → j = M ∧ x + 1 = d) ∧ (Mo.ml Y j ≤ x → j < M) := by
      have h1 := hx.out; have h2 := HDT.out.year; have h3 := HZ.out; have h4 := HDT.out.n
      have h5 := HDT.out.d1; have h6 := HDT.out.d2
      constructor
      · intro hlt
        have h8 : j = M := by
          by_cases h7 : j < M
          · have := Mo.mm_le Y (a := j + 1) (b := M) (by omega)
            rw [Mo.mm_succ] at this
            omega
          · omega
        subst h8
        exact ⟨rfl, by omega⟩
      · intro hge
        by_cases h7 : j = M
        · subst h7; omega
        · omega
    have hms : Mo.mm Y (j + 1) = Mo.mm Y j + Mo.ml Y j := rfl
    obtain ⟨L, hL⟩ : ∃ L, L = Mo.ml Y j := ⟨_, rfl⟩
    rw [← hL] at hcl hl hor hms
    have HCL := Lib.hid hcl; have HMS := Lib.hid hms
    clear hcl hL hms
    by_cases hlt : x < L
    · obtain ⟨rfl, hd⟩ := hor.1 hlt
      have HD := Lib.hid hd
      clear hor hd
      go_wp2_with (go_at_call 29; refine (HCL.out _).mono ?_; rintro e w' ⟨rfl, rfl⟩)
      go_ret3
      refine ⟨?_, HB3.out⟩
      rw [← HD.out]; rfl
    · have hjm := hor.2 (by omega)
      have hM12 := HDT.out.m2
      clear hor
      go_wp2_with (go_at_call 29; refine (HCL.out _).mono ?_; rintro e w' ⟨rfl, rfl⟩)
      go_roundw
      case rel => exact ⟨j + 1, x - L, by omega, by omega, by go_num, by congr 1; omega, Lib.hid (by rw [HMS.out]; have := hx.out; omega), by omega, by omega, trivial⟩
      case measure => simp [intOf]; omega
theorem results_tmp4 {fn : Func} {t u v x : Tmp} (h : fn.results = #[.tmp t, .tmp u, .tmp v, .tmp x]) (tmps : Array Value) (P : Program) (w : World) :
    (results fn tmps).run P w = .ok (.tuple #[tmps.getD t undef, tmps.getD u undef, tmps.getD v undef, tmps.getD x undef]) w := by
  simp [results, h]
theorem Date_no (t : Int) (h : t < 0 ∨ 253402300799 < t) (w : World) : Calls Try.prog 15 #[.int .i64 t] w fun e w' => e = .returned (.tuple #[.int .i64 0, .int .i64 0, .int .i64 0, .int .i64 1]) ∧ w = w' := by
  by_cases h1 : t < 0
  · go_enter Try.func15, Try.ntmps15
    go_wp2_with fail
    try simp only [Exit.inBlock, Exit.then]
    refine bodyPost_ret (results_tmp4 rfl _ _ _) rfl ?_
    exact ⟨rfl, rfl⟩
  · have h2 : 253402300799 < t := by omega
    clear h
    go_enter Try.func15, Try.ntmps15
    go_wp2_with fail
    try simp only [Exit.inBlock, Exit.then]
    refine bodyPost_ret (results_tmp4 rfl _ _ _) rfl ?_
    exact ⟨rfl, rfl⟩
theorem Date_ok (t : Nat) (h : t < 253402300800) (w : World) : Calls Try.prog 15 #[.int .i64 t] w fun e w' => e = .returned (.tuple #[.int .i64 (Mo.dy (t / 86400)), .int .i64 (Mo.dm (t / 86400)), .int .i64 (Mo.dd (t / 86400)), .int .i64 0]) ∧ Below w.heap.size w w' := by
  have hc := fun v => dateOf_any (t / 86400) (by omega) v
  rw [show ((t / 86400 : Nat) : Int) = (t : Int) / 86400 by omega] at hc
  generalize Mo.dy (t / 86400) = Y at hc ⊢
  generalize Mo.dm (t / 86400) = M at hc ⊢
  generalize Mo.dd (t / 86400) = d at hc ⊢
  have HC := Lib.hid hc
  clear hc
  go_enter Try.func15, Try.ntmps15
  go_wp2_with (go_at_call 28; refine (HC.out _).mono ?_; rintro e w' ⟨rfl, hb⟩)
  try simp only [Exit.inBlock, Exit.then]
  refine bodyPost_ret (results_tmp4 rfl _ _ _) rfl ?_
  exact ⟨rfl, hb⟩
/-- What is no date. -/
def BadD (y m d : Int) : Prop := y < 1970 ∨ 9999 < y ∨ d < 1 ∨ m < 1 ∨ 12 < m ∨ (∃ Y M : Nat, y = Y ∧ m = M ∧ (Mo.ml Y M : Int) < d)
theorem date_or (y m d : Int) : BadD y m d ∨ ∃ n Y M K : Nat, y = Y ∧ m = M ∧ d = K ∧ Mo.IsD n Y M K := by
  by_cases h1 : y < 1970
  · exact .inl (.inl h1)
  by_cases h2 : 9999 < y
  · exact .inl (.inr (.inl h2))
  by_cases h3 : d < 1
  · exact .inl (.inr (.inr (.inl h3)))
  by_cases h4 : m < 1
  · exact .inl (.inr (.inr (.inr (.inl h4))))
  by_cases h5 : 12 < m
  · exact .inl (.inr (.inr (.inr (.inr (.inl h5)))))
  by_cases h6 : (Mo.ml y.toNat m.toNat : Int) < d
  · exact .inl (.inr (.inr (.inr (.inr (.inr ⟨y.toNat, m.toNat, by omega, by omega, h6⟩)))))
  · exact .inr ⟨_, y.toNat, m.toNat, d.toNat, by omega, by omega, by omega, by omega, by omega, by omega, by omega, by omega, by omega, rfl⟩
theorem From_ok (n y m d : Nat) (h : Mo.IsD n y m d) (w : World) : Calls Try.prog 16 #[.int .i64 y, .int .i64 m, .int .i64 d] w fun e w' => e = .returned (.tuple #[.int .i64 ((n * 86400 : Nat) : Int), .int .i64 0]) ∧ w = w' := by
  have y1 := h.y1; have y2 := h.y2; have m1 := h.m1; have m2 := h.m2; have d1 := h.d1; have d2 := h.d2
  have hl := Mo.ml_le y m
  have hdi := daysIn_any y m (by omega) m1 m2
  have hdt := daysTo_any y m d y2 y1 m1 m2 d1 (by omega)
  rw [← h.n] at hdt
  have hn := h.lt
  clear h
  generalize Mo.ml y m = L at hdi hl d2
  have HDI := Lib.hid hdi; have HDT := Lib.hid hdt
  clear hdi hdt
  go_enter Try.func16, Try.ntmps16
  go_wp2_with (first | (go_at_call 29; refine (HDI.out _).mono ?_; rintro e w' ⟨rfl, rfl⟩) | (go_at_call 30; refine (HDT.out _).mono ?_; rintro e w' ⟨rfl, rfl⟩))
  go_ret2
  exact ⟨by congr 4, rfl⟩
theorem From_no (y m d : Int) (h : BadD y m d) (w : World) : Calls Try.prog 16 #[.int .i64 y, .int .i64 m, .int .i64 d] w fun e w' => e = .returned (.tuple #[.int .i64 0, .int .i64 1]) ∧ w = w' := by
  have h0 := h
  unfold BadD at h0
  by_cases h1 : y < 1970
  · clear h h0
    go_enter Try.func16, Try.ntmps16
    go_wp2_with fail
    go_ret2
    exact ⟨rfl, rfl⟩
  by_cases h2 : 9999 < y
  · clear h h0
    go_enter Try.func16, Try.ntmps16
    go_wp2_with fail
    go_ret2
    exact ⟨rfl, rfl⟩
  by_cases h3 : d < 1
  · clear h h0
    go_enter Try.func16, Try.ntmps16
    go_wp2_with fail
    go_ret2
    exact ⟨rfl, rfl⟩
  obtain ⟨Y, rfl⟩ : ∃ Y : Nat, y = Y := ⟨y.toNat, by omega⟩
  by_cases h4 : m < 1 ∨ 12 < m
  · have hdi := daysIn_none Y m h4
    clear h h0 h4
    have HDI := Lib.hid hdi
    clear hdi
    go_enter Try.func16, Try.ntmps16
    go_wp2_with (first | (go_at_call 29; refine (HDI.out _).mono ?_; rintro e w' ⟨rfl, rfl⟩))
    go_ret2
    exact ⟨rfl, rfl⟩
  · obtain ⟨M, rfl⟩ : ∃ M : Nat, m = M := ⟨m.toNat, by omega⟩
    have h5 : (Mo.ml Y M : Int) < d := by
      rcases h0 with h | h | h | h | h | ⟨Y', M', h, h', hd⟩
      · omega
      · omega
      · omega
      · omega
      · omega
      · have e1 : Y = Y' := by omega
        have e2 : M = M' := by omega
        subst e1; subst e2; exact hd
    have hdi := daysIn_any Y M (by omega) (by omega) (by omega)
    clear h h0 h4
    generalize Mo.ml Y M = L at hdi h5
    have HDI := Lib.hid hdi
    clear hdi
    go_enter Try.func16, Try.ntmps16
    go_wp2_with (first | (go_at_call 29; refine (HDI.out _).mono ?_; rintro e w' ⟨rfl, rfl⟩))
    go_ret2
    exact ⟨rfl, rfl⟩
end Go.Proofs.Ytllboegemooeoaa
