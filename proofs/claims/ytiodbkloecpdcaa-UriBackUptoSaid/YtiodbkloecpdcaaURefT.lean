/- The document's own taking apart of a target. -/
import Derived.Test.YtiodbkloecpdcaaUTarget
import Derived.Test.YtiodbkloecpdcaaURef
namespace Go.Proofs.Ytiodbkloecpdcaa

namespace Ur
theorem len_up (p : UInt8 → Bool) (S : List UInt8) (h : len p S < S.length) : p (S.getD (len p S) 0) = true := by
  induction S with
  | nil => simp at h
  | cons c r ih =>
    simp only [len] at h ⊢
    by_cases hc : p c = true
    · rw [if_pos hc, List.getD_cons_zero]; exact hc
    · rw [if_neg hc] at h ⊢
      rw [List.getD_cons_succ]
      exact ih (by simpa using h)
theorem count_drop (S : List UInt8) (d : UInt8) (h : len (· == d) S < S.length) : S.count d = 1 + (S.drop (len (· == d) S + 1)).count d := by
  induction S with
  | nil => simp at h
  | cons c r ih =>
    simp only [len] at h ⊢
    by_cases hc : (c == d) = true
    · rw [if_pos hc]
      rw [beq_iff_eq] at hc
      subst hc
      simp; omega
    · rw [if_neg hc] at h ⊢
      have hcd : c ≠ d := fun e => hc (by rw [e]; simp)
      rw [List.count_cons_of_ne hcd, ih (by simpa using h)]
      simp
theorem count_none (S : List UInt8) (d : UInt8) (h : len (· == d) S = S.length) : S.count d = 0 := by
  induction S with
  | nil => rfl
  | cons c r ih =>
    simp only [len] at h
    by_cases hc : (c == d) = true
    · rw [if_pos hc] at h; simp at h
    · rw [if_neg hc] at h
      have hcd : c ≠ d := fun e => hc (by rw [e]; simp)
      rw [List.count_cons_of_ne hcd, ih (by simpa using h)]
theorem dec_bad (n : Nat) : ∀ (l : List UInt8) (i k : Nat), l.length ≤ n → dec i l = .bad k → k < i + l.length := by
  induction n with
  | zero => intro l i k h; obtain rfl : l = [] := List.eq_nil_of_length_eq_zero (by omega); simp [dec]
  | succ n ih =>
    intro l i k h hd
    have pre : ∀ (x : List UInt8) (t : Told), Told.pre x t = .bad k → t = .bad k := by intro x t; cases t <;> simp [Told.pre]
    match l with
    | [] => simp [dec] at hd
    | c :: r =>
      by_cases hc : c = 37
      · subst hc
        match r with
        | [] => simp [dec] at hd; subst hd; simp
        | [_] => simp [dec] at hd; subst hd; simp
        | x :: y :: r =>
          rw [dec_two] at hd
          by_cases hv : 0 ≤ val x ∧ 0 ≤ val y
          · rw [if_pos hv] at hd
            have := ih r (i + 3) k (by simp at h; omega) (pre _ _ hd)
            simp; omega
          · rw [if_neg hv] at hd
            cases hd
            simp
      · rw [dec_not _ _ _ hc] at hd
        have := ih r (i + 1) k (by simp at h; omega) (pre _ _ hd)
        simp; omega
theorem len_lo (p : UInt8 → Bool) (l : List UInt8) (j : Nat) (h : j < len p l) : p (l.getD j 0) = false := by
  induction l generalizing j with
  | nil => simp [len] at h
  | cons c r ih =>
    simp only [len] at h
    by_cases hc : p c = true
    · rw [if_pos hc] at h; omega
    · rw [if_neg hc] at h
      cases j with
      | zero => rw [List.getD_cons_zero]; simpa using hc
      | succ j => rw [List.getD_cons_succ]; exact ih j (by omega)
theorem getD_drop (S : List UInt8) (a j : Nat) : (S.drop a).getD j 0 = S.getD (a + j) 0 := by
  simp [List.getD, List.getElem?_drop]
theorem getD_take (S : List UInt8) (k j : Nat) (h : j < k) : (S.take k).getD j 0 = S.getD j 0 := by
  simp [List.getD, h]
/-- How many parts are left at a place; what they tell. -/
def cnt (S : List UInt8) (a : Nat) : Nat := if a ≤ S.length then 1 + (S.drop a).count 38 else 0
def tl (S : List UInt8) (a : Nat) : Qry := qry (cuts 38 (cnt S a) a (S.drop a))
theorem tl_end (S : List UInt8) (a : Nat) (h : S.length < a) : tl S a = .ok [] := by
  unfold tl cnt
  rw [if_neg (by omega)]
  rfl
theorem tl_next (S : List UInt8) (a k : Nat) (h : a ≤ S.length) (hk : len (· == 38) (S.drop a) = k) : qry (cuts 38 ((S.drop a).count 38) (a + min (k + 1) (S.drop a).length) ((S.drop a).drop (k + 1))) = tl S (a + k + 1) := by
  have hd : (S.drop a).length = S.length - a := List.length_drop
  have hl := len_le (· == 38) (S.drop a)
  unfold tl cnt
  by_cases hlt : k < (S.drop a).length
  · have e := count_drop (S.drop a) 38 (by rw [hk]; exact hlt)
    rw [hk] at e
    rw [if_pos (by omega), e, List.drop_drop, Nat.min_eq_left (by omega), ← Nat.add_assoc]
  · rw [if_neg (by omega), count_none _ _ (by omega)]
    rfl
theorem tl_step (S : List UInt8) (a k : Nat) (h : a ≤ S.length) (hk : len (· == 38) (S.drop a) = k) : tl S a = if (S.drop a).take k = [] then tl S (a + k + 1) else
    match two a ((S.drop a).take k) with
    | .bad i => .bad i
    | .ok n v => Qry.pre [(n, v)] (tl S (a + k + 1)) := by
  rw [← tl_next S a k h hk]
  conv => lhs; rw [tl, cnt, if_pos h, Nat.add_comm 1, cuts, qry, hk]
  rfl
theorem query_tl (S : List UInt8) : query (min (len (· == 63) S + 1) S.length) (S.drop (len (· == 63) S + 1)) = tl S (len (· == 63) S + 1) := by
  by_cases h : len (· == 63) S < S.length
  · rw [tl, cnt, if_pos (by omega), Nat.min_eq_left (by omega)]
    rfl
  · have hl := len_le (· == 63) S
    rw [tl_end _ _ (by omega), List.drop_eq_nil_of_le (by omega)]
    rfl
theorem two_go (a m : Nat) (P : List UInt8) (hm : len (· == 61) P = m) : two a P = match dec 0 (P.take m) with
    | .bad j => .bad (a + j)
    | .ok n => if m < P.length then (match dec 0 (P.drop (m + 1)) with
      | .bad j => .bad (a + m + 1 + j)
      | .ok v => .ok n v) else .ok n [] := by
  have hl := len_le (· == 61) P
  unfold two
  rw [hm, dec_at a]
  cases dec 0 (P.take m) with
  | bad j => rfl
  | ok n =>
    simp only [Told.up]
    by_cases h : m < P.length
    · rw [if_pos h, Nat.min_eq_left (by omega), dec_at (a + (m + 1))]
      cases dec 0 (P.drop (m + 1)) <;> rfl
    · rw [if_neg h, List.drop_eq_nil_of_le (by omega)]
      rfl
end Ur

open Go.RowKit
attribute [local go_sem high] run_index_byte
theorem slice_first (S : List UInt8) (s : ByteArray) (hs : s = bs S) (j : Nat) (hj : j ≤ S.length) (v : World) : (Instr.slice 9 (.string s) none (some (.int .i64 (j : Int))) none).run Try.prog v = .ok (.string (bs (S.take j))) v := by
  rw [run_first_string v 9 s .i64 j Try.underlying9 (by rw [hs, bs_size]; exact hj)]
  congr 2
  refine bs_of ?_
  rw [extract_to, hs, bs_list]
theorem slice_mid (S : List UInt8) (s : ByteArray) (hs : s = bs S) (i j : Nat) (hi : i ≤ j) (hj : j ≤ S.length) (v : World) : (Instr.slice 9 (.string s) (some (.int .i64 (i : Int))) (some (.int .i64 (j : Int))) none).run Try.prog v = .ok (.string (bs ((S.drop i).take (j - i)))) v := by
  rw [run_mid_string v 9 s .i64 .i64 i j Try.underlying9 hi (by rw [hs, bs_size]; exact hj)]
  congr 2
  refine bs_of ?_
  rw [extract_list, hs, bs_list, List.drop_take]
theorem not_frozen {w : World} {g : Nat} {cs : List Value} {t : TypeId} (h : w.heap[g]? = some (.cells cs.toArray t (0, 0))) (j : Nat) : w.frozen? ⟨g, j, none⟩ = false := by simp [World.frozen?, h]
theorem new_set (w : World) (a : Addr) (v : Value) (o : Obj) : ((w.setCell a v).alloc o).heap[w.heap.size]? = some o := by
  have h := heap_alloc_new (w.setCell a v) o
  rw [World.size_setCell] at h
  exact h
set_option maxRecDepth 100000 in
set_option maxHeartbeats 8000000 in
theorem vTarget_any (S : List UInt8) (hS : S.length ≤ 1099511627776) (w : World) : Calls Try.prog 20 #[.string (bs S)] w fun e w' => Tg w.heap.size (Ur.target S) e w' ∧ Below w.heap.size w w' := by
  obtain ⟨i0, hinf, hz0, hz1, hz2⟩ := info_parts infoPair
  obtain ⟨R, hR⟩ : ∃ R, R = Ur.target S := ⟨_, rfl⟩
  rw [← hR]
  unfold Ur.target at hR
  by_cases h0 : S = []
  · rw [h0, if_pos (by simp)] at hR
    have HR := Lib.hid hR
    have q := bs_none
    rw [← h0] at q
    clear hR h0
    generalize bs S = s at *
    go_enter Try.func20, Try.ntmps20
    go_wp2_with fail
    try simp only [Exit.inBlock, Exit.then]
    refine bodyPost_ret (results_tmp4 rfl _ _ _) rfl ?_
    refine ⟨?_, Below.refl _ _⟩
    rw [HR.out]
    show _ = _
    rw [← bs_nil]
    rfl
  have hl1 : 1 ≤ S.length := by cases S with | nil => exact absurd rfl h0 | cons c r => simp
  have q := bs_some h0
  have hh : S.head? = some 47 ↔ S.getD 0 0 = 47 := by cases S with | nil => exact absurd rfl h0 | cons c r => simp
  obtain ⟨s, hs⟩ : ∃ s, s = bs S := ⟨_, rfl⟩
  have hss : s.size = S.length := by rw [hs, bs_size]
  have HS := Lib.hid hs
  have hst : ∀ i, S.getD i 0 = strAt s i := fun i => by rw [hs]; exact (strAt_bs S i).symm
  rw [hst] at hh
  have HST := Lib.hid hst
  have RI0 : ∀ v : World, (Instr.index 9 (.string s) (.int .i64 0)).run Try.prog v = .ok (.int .u8 ((strAt s 0).toNat : Int)) v := fun v => run_index_byte v _ _ _ 0 Try.underlying9 (by omega)
  rw [← hs] at q ⊢
  clear hs h0 hst
  by_cases h47 : S.head? = some 47
  · rw [if_neg (by simpa using h47)] at hR
    have n47 : (((strAt s 0).toNat : Int) != 47) = false := by rw [hh.1 h47]; rfl
    have HR := Lib.hid hR
    clear hh h47 hR
    obtain ⟨N, hN⟩ : ∃ N, N = S.length := ⟨_, rfl⟩
    have HN := Lib.hid hN
    rw [← hN] at hss hS hl1
    clear hN
    go_enter Try.func20, Try.ntmps20
    go_wp2_with fail
    go_loopw [6, 7] (fun qv iv wr => ∃ q i : Nat, i ≤ N ∧ q ≤ N ∧ qv = .int .i64 q ∧ iv = .int .i64 i ∧ Hid (∀ k, k < i → Ur.odd (S.getD k 0) = false) ∧ Hid ((q = N ∧ ∀ k, k < i → (S.getD k 0 == 63) = false) ∨ (q < i ∧ (S.getD q 0 == 63) = true ∧ ∀ k, k < q → (S.getD k 0 == 63) = false)) ∧ wr = w) (fun _ iv _ => N - (intOf iv).toNat)
    case atStart => exact ⟨N, 0, by omega, by omega, rfl, rfl, Lib.hid (fun k hk => by omega), Lib.hid (.inl ⟨rfl, fun k hk => by omega⟩), rfl⟩
    case round =>
      clear n47 RI0
      obtain ⟨q, i, hi, hq, rfl, rfl, ho, hqq, hw⟩ := hrel
      obtain rfl := hw.symm
      clear hw
      by_cases hlt : i < N
      · obtain ⟨c, hc⟩ : ∃ c, c = strAt s i := ⟨_, rfl⟩
        have hcS : S.getD i 0 = c := by rw [hc]; exact HST.out i
        have RI : ∀ v : World, (Instr.index 9 (.string s) (.int .i64 (i : Int))).run Try.prog v = .ok (.int .u8 (c.toNat : Int)) v := fun v => by rw [hc]; exact run_index_byte v _ _ _ i Try.underlying9 (by omega)
        have HCS := Lib.hid hcS
        clear hc hcS
        by_cases hod : Ur.odd c = true
        · have hlen : Ur.len Ur.odd S = i := Ur.len_hit _ _ _ (by rw [← HN.out]; exact hlt) (by rw [HCS.out]; exact hod) ho.out
          have HR2 := HR.out
          rw [hlen, ← HN.out, if_pos hlt] at HR2
          have HRR := Lib.hid HR2
          clear HR2 hlen
          have hk : c.toNat < 33 ∨ (¬ c.toNat < 33 ∧ 126 < c.toNat) ∨ (¬ c.toNat < 33 ∧ ¬ 126 < c.toNat ∧ ((c.toNat : Int) == 35) = true) := by
            simp only [Ur.odd, c35, Bool.or_eq_true, decide_eq_true_eq] at hod
            by_cases k1 : c.toNat < 33
            · exact .inl k1
            · by_cases k2 : 126 < c.toNat
              · exact .inr (.inl ⟨k1, k2⟩)
              · exact .inr (.inr ⟨k1, k2, by simp; omega⟩)
          clear hod
          rcases hk with k1 | ⟨k1, k2⟩ | ⟨k1, k2, k3⟩
          · have d1 : decide ((c.toNat : Int) < 33) = true := decide_eq_true (by omega)
            go_wp2_with fail
            try simp only [Exit.inBlock, Exit.then]
            refine bodyPost_ret (results_tmp4 rfl _ _ _) rfl ?_
            refine ⟨?_, Below.refl _ _⟩
            rw [HRR.out]
            show _ = _
            rw [← bs_nil]
            rfl
          · have d1 : decide ((c.toNat : Int) < 33) = false := decide_eq_false (by omega)
            have d2 : decide (126 < (c.toNat : Int)) = true := decide_eq_true (by omega)
            go_wp2_with fail
            try simp only [Exit.inBlock, Exit.then]
            refine bodyPost_ret (results_tmp4 rfl _ _ _) rfl ?_
            refine ⟨?_, Below.refl _ _⟩
            rw [HRR.out]
            show _ = _
            rw [← bs_nil]
            rfl
          · have d1 : decide ((c.toNat : Int) < 33) = false := decide_eq_false (by omega)
            have d2 : decide (126 < (c.toNat : Int)) = false := decide_eq_false (by omega)
            go_wp2_with fail
            try simp only [Exit.inBlock, Exit.then]
            refine bodyPost_ret (results_tmp4 rfl _ _ _) rfl ?_
            refine ⟨?_, Below.refl _ _⟩
            rw [HRR.out]
            show _ = _
            rw [← bs_nil]
            rfl
        · have hod' : Ur.odd c = false := by simpa using hod
          have hk := hod'
          simp only [Ur.odd, c35, Bool.or_eq_false_iff, decide_eq_false_iff_not] at hk
          have k1 := hk.1.1
          have k2 := hk.1.2
          have d1 : decide ((c.toNat : Int) < 33) = false := decide_eq_false (by omega)
          have d2 : decide (126 < (c.toNat : Int)) = false := decide_eq_false (by omega)
          have q35 : ((c.toNat : Int) == 35) = false := by have := hk.2; simp; omega
          have HOD := Lib.hid hod'
          clear hod hod' hk
          by_cases h63 : c.toNat = 63
          · have q63 : ((c.toNat : Int) == 63) = true := by rw [h63]; rfl
            have HC63 := Lib.hid (show (c == 63) = true by rw [beq_iff_eq]; exact UInt8.toNat_inj.1 h63)
            clear h63
            by_cases hqN : q = N
            · have qN : ((q : Int) == (N : Int)) = true := by rw [hqN]; simp
              have HB := Lib.hid (show ∀ k, k < i → (S.getD k 0 == 63) = false by
                rcases hqq.out with ⟨_, h⟩ | ⟨h, _⟩
                · exact h
                · omega)
              clear hqN
              go_wp2_with fail
              go_roundw
              case rel => exact ⟨i, i + 1, by omega, by omega, rfl, by go_num, Lib.hid (fun k hk => by
                by_cases e : k = i
                · rw [e, HCS.out]; exact HOD.out
                · exact ho.out k (by omega)), Lib.hid (.inr ⟨by omega, by rw [HCS.out]; exact HC63.out, HB.out⟩), trivial⟩
              case measure => simp [intOf]; omega
            · have qN : ((q : Int) == (N : Int)) = false := by simp; omega
              have HB := Lib.hid (show q < i ∧ (S.getD q 0 == 63) = true ∧ ∀ k, k < q → (S.getD k 0 == 63) = false by
                rcases hqq.out with ⟨h, _⟩ | h
                · omega
                · exact h)
              clear hqN
              go_wp2_with fail
              go_roundw
              case rel => exact ⟨q, i + 1, by omega, hq, rfl, by go_num, Lib.hid (fun k hk => by
                by_cases e : k = i
                · rw [e, HCS.out]; exact HOD.out
                · exact ho.out k (by omega)), Lib.hid (.inr ⟨by have := HB.out.1; omega, HB.out.2⟩), trivial⟩
              case measure => simp [intOf]; omega
          · have q63 : ((c.toNat : Int) == 63) = false := by simp; omega
            have HC63 := Lib.hid (show (c == 63) = false from by rw [beq_eq_false_iff_ne]; intro e; exact h63 (by rw [e]; rfl))
            clear h63
            go_wp2_with fail
            go_roundw
            case rel => exact ⟨q, i + 1, by omega, hq, rfl, by go_num, Lib.hid (fun k hk => by
                by_cases e : k = i
                · rw [e, HCS.out]; exact HOD.out
                · exact ho.out k (by omega)), Lib.hid (by
                rcases hqq.out with ⟨h1, h2⟩ | ⟨h1, h2⟩
                · exact .inl ⟨h1, fun k hk => by
                    by_cases e : k = i
                    · rw [e, HCS.out]; exact HC63.out
                    · exact h2 k (by omega)⟩
                · exact .inr ⟨by omega, h2⟩), trivial⟩
            case measure => simp [intOf]; omega
      · obtain rfl : i = N := by omega
        have e1 : Ur.len Ur.odd S = S.length := Ur.len_miss _ _ (fun k hk => ho.out k (by rw [HN.out]; exact hk))
        have e2 : Ur.len (· == 63) S = q := by
          rcases hqq.out with ⟨h1, h2⟩ | ⟨h1, h2, h3⟩
          · rw [Ur.len_miss _ _ (fun k hk => h2 k (by rw [HN.out]; exact hk)), h1]; exact HN.out.symm
          · exact Ur.len_hit _ _ _ (by rw [← HN.out]; exact h1) h2 h3
        have HR2 := HR.out
        rw [e1, if_neg (by omega), Ur.query_tl, e2] at HR2
        have CD := Lib.hid (fun v : World => vDecode_any (S.take q) (by rw [List.length_take]; omega) v)
        have RQ := fun v : World => slice_first S s HS.out q (by rw [← HN.out]; exact hq) v
        obtain ⟨t1, ht1⟩ : ∃ t, t = bs (S.take q) := ⟨_, rfl⟩
        rw [← ht1] at CD RQ
        clear e1 e2 ho hqq HR ht1
        cases hd : Ur.dec 0 (S.take q) with
        | bad k0 =>
          rw [hd] at CD HR2
          simp only [toldR] at CD HR2
          have HR := Lib.hid HR2
          clear HR2 hd
          obtain ⟨x0, hx0⟩ : ∃ x, x = bs [] := ⟨_, rfl⟩
          rw [← hx0] at CD
          clear hx0
          have d0 : decide (0 ≤ (k0 : Int)) = true := decide_eq_true (by omega)
          go_wp2_with (go_at_call 18; refine (CD.out _).mono ?_; rintro e w2 ⟨rfl, hb2⟩; have HB2 := Lib.hid hb2; clear hb2)
          try simp only [Exit.inBlock, Exit.then]
          refine bodyPost_ret (results_tmp4 rfl _ _ _) rfl ?_
          refine ⟨?_, HB2.out⟩
          rw [HR.out]
          show _ = _
          rw [← bs_nil]
          rfl
        | ok p =>
          rw [hd] at CD HR2
          simp only [toldR] at CD HR2
          obtain ⟨RQ0, hRQ⟩ : ∃ x, x = Ur.tl S (q + 1) := ⟨_, rfl⟩
          rw [← hRQ] at HR2
          have HR := Lib.hid HR2
          have HD0 := Lib.hid (show Ur.Qry.pre [] (Ur.tl S (q + 1)) = RQ0 by rw [Ur.Qry.pre_nil, hRQ])
          clear HR2 hd hRQ
          obtain ⟨x0, hx0⟩ : ∃ x, x = bs p := ⟨_, rfl⟩
          have HX0 := Lib.hid hx0
          obtain ⟨m1, hm1⟩ : ∃ x, x = (-1 : Int) := ⟨_, rfl⟩
          have d0 : decide (0 ≤ m1) = false := decide_eq_false (by omega)
          have HM1 := Lib.hid hm1
          rw [← hx0, ← hm1] at CD
          clear hx0 hm1
          go_wp2_with (go_at_call 18; refine (CD.out _).mono ?_; rintro e w2 ⟨rfl, hb2⟩; have HB2 := Lib.hid hb2; clear hb2)
          clear RQ CD d0
          go_loopw [10, 11] (fun v av wr => ∃ (a : Nat) (T : List Ur.Pr), a ≤ i + 1 ∧ av = .int .i64 a ∧ T.length ≤ a ∧ Hid (Ur.Qry.pre T (Ur.tl S a) = RQ0) ∧ Hid (wr.ownsRow w.heap.size 32 2 v T.length (prs T)) ∧ Hid (Below w.heap.size w wr)) (fun _ av _ => i + 1 - (intOf av).toNat)
          case atStart => exact ⟨q + 1, [], by omega, by go_num, by simp, HD0, Lib.hid (by simpa [prs] using World.ownsRow_nil _ _ _ _), HB2⟩
          case round =>
            clear HD0 HB2
            obtain ⟨a, T, ha, rfl, hT, HD, HO, HB⟩ := hrel
            by_cases hle : a ≤ i
            · have hdl : (S.drop a).length = i - a := by rw [List.length_drop, HN.out]
              have hkl := Ur.len_le (· == 38) (S.drop a)
              obtain ⟨k, hk⟩ : ∃ k, Ur.len (· == 38) (S.drop a) = k := ⟨_, rfl⟩
              have HD2 := HD.out
              rw [Ur.tl_step S a k (by rw [← HN.out]; exact hle) hk] at HD2
              rw [hk] at hkl
              have HK := Lib.hid hk
              replace HD2 := Lib.hid HD2
              have HDL := Lib.hid hdl
              have hki : a + k ≤ i := by omega
              clear hdl hkl hk HD
              go_wp2_with fail
              go_loopw [12] (fun ev wx => ∃ e : Nat, a ≤ e ∧ e ≤ a + k ∧ ev = .int .i64 e ∧ wx = wr) (fun ev _ => a + k - (intOf ev).toNat)
              case atStart => exact ⟨a, Nat.le_refl _, by omega, rfl, rfl⟩
              case round =>
                obtain ⟨e, he1, he2, rfl, hw⟩ := hrel
                obtain rfl := hw.symm
                clear hw
                obtain ⟨c, hc⟩ : ∃ c, c = strAt s e := ⟨_, rfl⟩
                have hcS : (S.drop a).getD (e - a) 0 = c := by rw [Ur.getD_drop, show a + (e - a) = e by omega, hc]; exact HST.out e
                by_cases he : e < a + k
                · have RI : ∀ v : World, (Instr.index 9 (.string s) (.int .i64 (e : Int))).run Try.prog v = .ok (.int .u8 (c.toNat : Int)) v := fun v => by rw [hc]; exact run_index_byte v _ _ _ e Try.underlying9 (by omega)
                  have hn := Ur.len_lo (· == 38) (S.drop a) (e - a) (by rw [HK.out]; omega)
                  rw [hcS] at hn
                  have n38 : ((c.toNat : Int) != 38) = true := by
                    have : c.toNat ≠ 38 := fun h => by
                      rw [show c = 38 from UInt8.toNat_inj.1 h] at hn
                      simp at hn
                    simp; omega
                  have hei : e < i := by omega
                  clear hn hcS hc
                  go_wp2_with fail
                  go_roundw
                  case rel => exact ⟨e + 1, by omega, by omega, by go_num, trivial⟩
                  case measure => simp [intOf]; omega
                · obtain rfl : k = e - a := by omega
                  clear he he2
                  have hei : e ≤ i := by omega
                  obtain ⟨P, hP⟩ : ∃ P, P = (S.drop a).take (e - a) := ⟨_, rfl⟩
                  have hPl : P.length = e - a := by rw [hP, List.length_take, HDL.out]; omega
                  have hml := Ur.len_le (· == 61) P
                  obtain ⟨m, hm⟩ : ∃ m, Ur.len (· == 61) P = m := ⟨_, rfl⟩
                  rw [hm, hPl] at hml
                  have HD3 := HD2.out
                  rw [← hP, show a + (e - a) + 1 = e + 1 by omega, Ur.two_go a m P hm] at HD3
                  have RI : ∀ v : World, e < i → (Instr.index 9 (.string s) (.int .i64 (e : Int))).run Try.prog v = .ok (.int .u8 (c.toNat : Int)) v := fun v h => by rw [hc]; exact run_index_byte v _ _ _ e Try.underlying9 (by omega)
                  have hx : (e < i ∧ ((c.toNat : Int) != 38) = false) ∨ ¬ e < i := by
                    by_cases h : e < i
                    · have h2 := Ur.len_up (· == 38) (S.drop a) (by rw [HK.out, HDL.out]; omega)
                      rw [HK.out, hcS, beq_iff_eq] at h2
                      exact .inl ⟨h, by rw [h2]; rfl⟩
                    · exact .inr h
                  have HP := Lib.hid hP
                  have HPL := Lib.hid hPl
                  have HM := Lib.hid hm
                  replace HD3 := Lib.hid HD3
                  clear hP hPl hm hcS hc HD2 HK
                  rcases hx with ⟨hlt2, n38⟩ | hlt2
                  all_goals
                    first | (replace RI := fun v : World => RI v hlt2) | clear RI
                    go_wp2_with fail
                    try clear RI
                    try clear n38
                    go_loopw [13] (fun fv wx => ∃ f : Nat, a ≤ f ∧ f ≤ a + m ∧ fv = .int .i64 f ∧ wx = wr) (fun fv _ => a + m - (intOf fv).toNat)
                    case atStart => exact ⟨a, Nat.le_refl _, by omega, rfl, rfl⟩
                    case round =>
                      clear hlt2
                      obtain ⟨f, hf1, hf2, rfl, hw⟩ := hrel
                      obtain rfl := hw.symm
                      clear hw
                      obtain ⟨c2, hc2⟩ : ∃ c, c = strAt s f := ⟨_, rfl⟩
                      have hcP : f < e → P.getD (f - a) 0 = c2 := fun hfe => by rw [HP.out, Ur.getD_take _ _ _ (by omega), Ur.getD_drop, show a + (f - a) = f by omega, hc2]; exact HST.out f
                      by_cases hf : f < a + m
                      · have RI : ∀ v : World, (Instr.index 9 (.string s) (.int .i64 (f : Int))).run Try.prog v = .ok (.int .u8 (c2.toNat : Int)) v := fun v => by rw [hc2]; exact run_index_byte v _ _ _ f Try.underlying9 (by omega)
                        have hn := Ur.len_lo (· == 61) P (f - a) (by rw [HM.out]; omega)
                        rw [hcP (by omega)] at hn
                        have n61 : ((c2.toNat : Int) != 61) = true := by
                          have : c2.toNat ≠ 61 := fun h => by
                            rw [show c2 = 61 from UInt8.toNat_inj.1 h] at hn
                            simp at hn
                          simp; omega
                        have hfe : f < e := by omega
                        clear hn hcP hc2
                        go_wp2_with fail
                        go_roundw
                        case rel => exact ⟨f + 1, by omega, by omega, by go_num, trivial⟩
                        case measure => simp [intOf]; omega
                      · obtain rfl : m = f - a := by omega
                        clear hf hf2
                        have hfe' : f ≤ e := by omega
                        have RS1 : ∀ v : World, (Instr.slice 9 (.string s) (some (.int .i64 (a : Int))) (some (.int .i64 (f : Int))) none).run Try.prog v = .ok (.string (bs (P.take (f - a)))) v := fun v => by
                          rw [slice_mid S s HS.out a f hf1 (by rw [← HN.out]; omega) v, HP.out, List.take_take, Nat.min_eq_left (by omega)]
                        have CD1 := Lib.hid (fun v : World => vDecode_any (P.take (f - a)) (by rw [List.length_take, HPL.out]; omega) v)
                        obtain ⟨t1, ht1⟩ : ∃ t, t = bs (P.take (f - a)) := ⟨_, rfl⟩
                        rw [← ht1] at CD1 RS1
                        clear ht1
                        by_cases hfe : f < e
                        · have RI : ∀ v : World, (Instr.index 9 (.string s) (.int .i64 (f : Int))).run Try.prog v = .ok (.int .u8 (c2.toNat : Int)) v := fun v => by rw [hc2]; exact run_index_byte v _ _ _ f Try.underlying9 (by omega)
                          have n61 : ((c2.toNat : Int) != 61) = false := by
                            have h2 := Ur.len_up (· == 61) P (by rw [HM.out, HPL.out]; omega)
                            rw [HM.out, hcP hfe, beq_iff_eq] at h2
                            rw [h2]; rfl
                          have hP0 : P ≠ [] := fun h => by have := HPL.out; rw [h] at this; simp at this; omega
                          have HD4 := HD3.out
                          rw [if_neg hP0] at HD4
                          clear hP0 hcP hc2
                          cases hd1 : Ur.dec 0 (P.take (f - a)) with
                          | bad j =>
                            rw [hd1] at HD4 CD1
                            simp only [toldR] at CD1 HD4
                            have HRR := HR.out
                            rw [← HD4] at HRR
                            have HR4 := Lib.hid (show R = .bad 52 (a + j) from HRR)
                            clear HD4 HRR
                            obtain ⟨x1, hx1⟩ : ∃ x, x = bs [] := ⟨_, rfl⟩
                            rw [← hx1] at CD1
                            clear hx1
                            have d0 : decide (0 ≤ (j : Int)) = true := decide_eq_true (by omega)
                            have hjb : j ≤ 1099511627776 := by
                              have := Ur.dec_bad _ _ 0 j (Nat.le_refl _) hd1
                              rw [List.length_take, HPL.out] at this
                              omega
                            clear hd1
                            go_wp2_with (go_at_call 18; (with_reducible refine (CD1.out _).mono ?_); rintro e4 w4 ⟨rfl, hb4⟩; have HB4 := Lib.hid (bthen HB.out hb4); clear hb4)
                            try simp only [Exit.inBlock, Exit.then]
                            refine bodyPost_ret (results_tmp4 rfl _ _ _) rfl ?_
                            refine ⟨?_, HB4.out⟩
                            rw [HR4.out]
                            show _ = _
                            rw [← bs_nil]
                            rfl
                          | ok n1 =>
                            rw [hd1] at HD4 CD1
                            simp only [toldR] at CD1 HD4
                            rw [if_pos (by rw [HPL.out]; omega)] at HD4
                            obtain ⟨x1, hx1⟩ : ∃ x, x = bs n1 := ⟨_, rfl⟩
                            have d0 : decide (0 ≤ m1) = false := decide_eq_false (by have := HM1.out; omega)
                            rw [← hx1, ← HM1.out] at CD1
                            have HX1 := Lib.hid hx1
                            have HE2 : s.extract (f + 1) e = bs (P.drop (f - a + 1)) := by
                              refine bs_of ?_
                              rw [extract_list, HS.out, bs_list, HP.out, List.drop_take, List.drop_take, List.drop_drop, show a + (f - a + 1) = f + 1 by omega, show e - a - (f - a + 1) = e - (f + 1) by omega]
                            have CD2 := Lib.hid (fun v : World => vDecode_any (P.drop (f - a + 1)) (by rw [List.length_drop, HPL.out]; omega) v)
                            rw [← HE2] at CD2
                            clear hd1 hx1 HE2
                            cases hd2 : Ur.dec 0 (P.drop (f - a + 1)) with
                            | bad j =>
                              rw [hd2] at HD4 CD2
                              simp only [toldR] at CD2 HD4
                              have HRR := HR.out
                              rw [← HD4] at HRR
                              have HR4 := Lib.hid (show R = .bad 52 (a + (f - a) + 1 + j) from HRR)
                              have hjb : j ≤ 1099511627776 := by
                                have := Ur.dec_bad _ _ 0 j (Nat.le_refl _) hd2
                                rw [List.length_drop, HPL.out] at this
                                omega
                              clear hd2 HD4 HRR
                              obtain ⟨x2, hx2⟩ : ∃ x, x = bs [] := ⟨_, rfl⟩
                              rw [← hx2] at CD2
                              clear hx2
                              have d1 : decide (0 ≤ (j : Int)) = true := decide_eq_true (by omega)
                              go_wp2_with (go_at_call 18; first | ((with_reducible refine (CD1.out _).mono ?_); rintro e4 w4 ⟨rfl, hb4⟩; have HB4 := Lib.hid (bthen HB.out hb4); clear hb4) | (refine (CD2.out _).mono ?_; rintro e5 w5 ⟨rfl, hb5⟩; have HB5 := Lib.hid ((HB4.out.alloc HB4.out.size _).trans (hb5.mono (HB4.out.alloc HB4.out.size _).size)); clear hb5))
                              try simp only [Exit.inBlock, Exit.then]
                              refine bodyPost_ret (results_tmp4 rfl _ _ _) rfl ?_
                              refine ⟨?_, HB5.out⟩
                              rw [HR4.out, show a + (f - a) + 1 + j = f + 1 + j by omega]
                              show _ = _
                              rw [← bs_nil]
                              rfl
                            | ok v1 =>
                              rw [hd2] at HD4 CD2
                              simp only [toldR] at CD2 HD4
                              rw [Ur.Qry.pre_pre] at HD4
                              have HD5 := Lib.hid HD4
                              obtain ⟨x2, hx2⟩ : ∃ x, x = bs v1 := ⟨_, rfl⟩
                              have hpo := prs_one n1 v1
                              rw [← HX1.out, ← hx2] at hpo
                              have HPO := Lib.hid hpo
                              rw [← hx2, ← HM1.out] at CD2
                              clear hd2 HD4 hx2 hpo
                              go_wp2_with (first | (go_at_call 18; first | ((with_reducible refine (CD1.out _).mono ?_); rintro e4 w4 ⟨rfl, hb4⟩; have HB4 := Lib.hid (bthen HB.out hb4); have HO4 := Lib.hid (own_below HO.out hb4); clear hb4) | (refine (CD2.out _).mono ?_; rintro e5 w5 ⟨rfl, hb5⟩; have HG5 := Lib.hid (kept_block (heap_alloc_new w4 _) hb5); have fz := not_frozen HG5.out 1; have hs4 := HB4.out.size; have hs5 := hb5.size; simp only [World.size_alloc] at hs5; have c0 := cell_of_list HG5.out 0; have c1 := cell_of_list HG5.out 1; simp only [List.getElem?_cons_zero, List.getElem?_cons_succ] at c0 c1; have HB5 := Lib.hid ((HB4.out.alloc HB4.out.size _).trans (hb5.mono (HB4.out.alloc HB4.out.size _).size)); have HB6 := Lib.hid (HB5.out.setCell (p := ⟨w4.heap.size, 1, none⟩) HB4.out.size (.string x2)); have HO6 := Lib.hid (own_below HO4.out ((((Below.refl w4.heap.size w4).alloc (Nat.le_refl _) _).trans (hb5.mono (by simp))).setCell (p := ⟨w4.heap.size, 1, none⟩) (Nat.le_refl _) (.string x2))); have HN6 := Lib.hid (new_set w5 ⟨w4.heap.size, 1, none⟩ (.string x2) (.cells #[.string x1, .string x2] 32)); clear hb5)) | (refine wpList_append_own _ rfl _ _ 22 rfl w.heap.size 32 i0 (.agg #[.string ⟨#[]⟩, .string ⟨#[]⟩]) 2 32 Try.underlying22 hinf hz0 hz1 hz2 rfl (by decide) _ T.length _ rfl (HO6.out.alloc _) ⟨w5.heap.size, 0, none⟩ 1 1 [.string x1, .string x2] rfl rfl (news_row HN6.out) (one_str _ _) (by unfold maxLen; omega) (by omega) (by have h := HB6.out.size; simp at h ⊢; omega) ?_; intro v7 w7 h7 hg7 _; have H7 := Lib.hid h7; have G7 := Lib.hid hg7; clear h7 hg7; go_frame))
                              have B10 := (HB6.out.alloc HB6.out.size _).grown G7.out (by simp; omega) (fun k hk => (HO6.out.lt k hk).1)
                              go_roundw
                              case rel => exact ⟨e + 1, T ++ [(n1, v1)], by omega, by go_num, by simp; omega, HD5, Lib.hid (by rw [List.length_append, prs_append, HPO.out]; exact H7.out), Lib.hid B10⟩
                              case measure => simp [intOf]; omega
                        · by_cases hae : a < e
                          · have hP0 : P ≠ [] := fun h => by have := HPL.out; rw [h] at this; simp at this; omega
                            have HD4 := HD3.out
                            rw [if_neg hP0] at HD4
                            clear hP0 hcP hc2
                            cases hd1 : Ur.dec 0 (P.take (f - a)) with
                            | bad j =>
                              rw [hd1] at HD4 CD1
                              simp only [toldR] at CD1 HD4
                              have HRR := HR.out
                              rw [← HD4] at HRR
                              have HR4 := Lib.hid (show R = .bad 52 (a + j) from HRR)
                              have hjb : j ≤ 1099511627776 := by
                                have := Ur.dec_bad _ _ 0 j (Nat.le_refl _) hd1
                                rw [List.length_take, HPL.out] at this
                                omega
                              clear HD4 HRR hd1
                              obtain ⟨x1, hx1⟩ : ∃ x, x = bs [] := ⟨_, rfl⟩
                              rw [← hx1] at CD1
                              clear hx1
                              have d0 : decide (0 ≤ (j : Int)) = true := decide_eq_true (by omega)
                              go_wp2_with (go_at_call 18; (with_reducible refine (CD1.out _).mono ?_); rintro e4 w4 ⟨rfl, hb4⟩; have HB4 := Lib.hid (bthen HB.out hb4); clear hb4)
                              try simp only [Exit.inBlock, Exit.then]
                              refine bodyPost_ret (results_tmp4 rfl _ _ _) rfl ?_
                              refine ⟨?_, HB4.out⟩
                              rw [HR4.out]
                              show _ = _
                              rw [← bs_nil]
                              rfl
                            | ok n1 =>
                              rw [hd1] at HD4 CD1
                              simp only [toldR] at CD1 HD4
                              rw [if_neg (by rw [HPL.out]; omega)] at HD4
                              simp only [Ur.Qry.pre_pre] at HD4
                              obtain ⟨x1, hx1⟩ : ∃ x, x = bs n1 := ⟨_, rfl⟩
                              have d0 : decide (0 ≤ m1) = false := decide_eq_false (by have := HM1.out; omega)
                              rw [← hx1, ← HM1.out] at CD1
                              have hpo := prs_one n1 []
                              rw [← hx1, ← bs_nil] at hpo
                              have HPO := Lib.hid hpo
                              have HD5 := Lib.hid HD4
                              clear hd1 HD4 hx1 hpo
                              go_wp2_with (first | (go_at_call 18; ((with_reducible refine (CD1.out _).mono ?_); rintro e4 w4 ⟨rfl, hb4⟩; have HB4 := Lib.hid (bthen HB.out hb4); have HO4 := Lib.hid (own_below HO.out hb4); have hs4 := HB4.out.size; clear hb4)) | (refine wpList_append_own _ rfl _ _ 22 rfl w.heap.size 32 i0 (.agg #[.string ⟨#[]⟩, .string ⟨#[]⟩]) 2 32 Try.underlying22 hinf hz0 hz1 hz2 rfl (by decide) _ T.length _ rfl ((HO4.out.alloc _).alloc _) ⟨w4.heap.size + 1, 0, none⟩ 1 1 [.string x1, .string ⟨#[]⟩] rfl rfl (news_row (heap_alloc2_new _ _ _)) (one_str _ _) (by unfold maxLen; omega) (by omega) (by simp; omega) ?_; intro v7 w7 h7 hg7 _; have H7 := Lib.hid h7; have G7 := Lib.hid hg7; clear h7 hg7; go_frame))
                              have B10 := ((HB4.out.alloc HB4.out.size _).alloc (Nat.le_trans HB4.out.size (by simp)) _).grown G7.out (by simp; omega) (fun k hk => (HO4.out.lt k hk).1)
                              go_roundw
                              case rel => exact ⟨e + 1, T ++ [(n1, [])], by omega, by go_num, by simp; omega, HD5, Lib.hid (by rw [List.length_append, prs_append, HPO.out]; exact H7.out), Lib.hid B10⟩
                              case measure => simp [intOf]; omega
                          · have hP0 : P = [] := List.eq_nil_of_length_eq_zero (by rw [HPL.out]; omega)
                            have HD4 := HD3.out
                            rw [if_pos hP0] at HD4
                            have HD5 := Lib.hid HD4
                            clear HD4 hP0 hcP hc2 CD1 RS1
                            go_wp2_with fail
                            go_roundw
                            case rel => exact ⟨e + 1, T, by omega, by go_num, by omega, HD5, HO, HB⟩
                            case measure => simp [intOf]; omega
            · have hai : a = i + 1 := by omega
              have HD4 := HD.out
              rw [Ur.tl_end S a (by rw [← HN.out]; omega)] at HD4
              have HRR := HR.out
              rw [← HD4] at HRR
              have HR4 := Lib.hid (show R = .ok p (T ++ []) from HRR)
              clear HD4 HRR hai
              go_wp2_with fail
              try simp only [Exit.inBlock, Exit.then]
              refine bodyPost_ret (results_tmp4 rfl _ _ _) rfl ?_
              refine ⟨?_, HB.out⟩
              rw [HR4.out, List.append_nil]
              show ∃ v, _ ∧ _
              exact ⟨_, by rw [← HX0.out]; rfl, HO.out⟩
  · rw [if_pos (by simpa using h47)] at hR
    have n47 : (((strAt s 0).toNat : Int) != 47) = true := by
      have : (strAt s 0).toNat ≠ 47 := fun h => h47 (hh.2 (UInt8.toNat_inj.1 h))
      simp; omega
    have HR := Lib.hid hR
    clear hR hh h47
    go_enter Try.func20, Try.ntmps20
    go_wp2_with fail
    try simp only [Exit.inBlock, Exit.then]
    refine bodyPost_ret (results_tmp4 rfl _ _ _) rfl ?_
    refine ⟨?_, Below.refl _ _⟩
    rw [HR.out]
    show _ = _
    rw [← bs_nil]
    rfl
end Go.Proofs.Ytiodbkloecpdcaa
