/- The program reads an escape's sixteenths. -/
import Derived.Test.YthfnlnhehececaaDoorNRd2
namespace Go.Proofs.YthfnlnhehececaaDoor
open Go.RowKit

/-- What a reader's call comes to, by what is to be told. -/
def Out {α : Type} (b : Nat) (S : List UInt8) (d : Nat) (w : World) (V : α → Value → World → Prop) : Js.Rs α → Ending → World → Prop
  | .ok a r, e, w' => ∃ v, e = .returned v ∧ V a v w' ∧ Rd w' b (bs S) (S.length - r.length) d ∧ Kept w.heap.size [b] w w'
  | .bad c r, e, w' => e = .panicked (rfc c (S.length - r.length)) ∧ Kept w.heap.size [b] w w'
/-- What valueOf hands back. -/
def hvV : Option Nat → Value
  | none => .tuple #[.int .i32 0, .bool false]
  | some v => .tuple #[.int .i32 v, .bool true]
theorem ret_hv {a : Int} {n : Nat} (h : a = n) : Ending.returned (.tuple #[.int .i32 a, .bool true]) = .returned (hvV (some n)) := by rw [h]; rfl
theorem valueOf_j (c : UInt8) (w : World) : Calls Tryd.prog 104 #[.int .u8 c.toNat] w fun e w' => e = .returned (hvV (Js.hv c)) ∧ w' = w := by
  have hc := c.toNat_lt
  unfold Js.hv
  generalize c.toNat = n at *
  by_cases h1 : 48 ≤ n
  · by_cases h2 : n ≤ 57
    · rw [if_pos ⟨h1, h2⟩]
      go_enter Tryd.func104, Tryd.ntmps104
      go_wp2_with fail
      go_ret2
      exact ⟨ret_hv (by omega), rfl⟩
    · rw [if_neg (by omega)]
      by_cases h3 : 97 ≤ n
      · by_cases h4 : n ≤ 102
        · rw [if_pos ⟨h3, h4⟩]
          go_enter Tryd.func104, Tryd.ntmps104
          go_wp2_with fail
          go_ret2
          exact ⟨ret_hv (by omega), rfl⟩
        · rw [if_neg (by omega), if_neg (by omega)]
          go_enter Tryd.func104, Tryd.ntmps104
          go_wp2_with fail
          go_ret2
          exact ⟨rfl, rfl⟩
      · rw [if_neg (by omega)]
        by_cases h5 : 65 ≤ n
        · by_cases h6 : n ≤ 70
          · rw [if_pos ⟨h5, h6⟩]
            go_enter Tryd.func104, Tryd.ntmps104
            go_wp2_with fail
            go_ret2
            exact ⟨ret_hv (by omega), rfl⟩
          · rw [if_neg (by omega)]
            go_enter Tryd.func104, Tryd.ntmps104
            go_wp2_with fail
            go_ret2
            exact ⟨rfl, rfl⟩
        · rw [if_neg (by omega)]
          go_enter Tryd.func104, Tryd.ntmps104
          go_wp2_with fail
          go_ret2
          exact ⟨rfl, rfl⟩
  · rw [if_neg (by omega), if_neg (by omega), if_neg (by omega)]
    go_enter Tryd.func104, Tryd.ntmps104
    go_wp2_with fail
    go_ret2
    exact ⟨rfl, rfl⟩
theorem hv_lt {c : UInt8} {v : Nat} (h : Js.hv c = some v) : v < 16 := by
  unfold Js.hv at h
  split at h
  · simp only [Option.some.injEq] at h; omega
  · split at h
    · simp only [Option.some.injEq] at h; omega
    · split at h
      · simp only [Option.some.injEq] at h; omega
      · cases h
set_option maxHeartbeats 2000000 in
theorem unit_any (S bl l : List UInt8) (hS : S.length ≤ 140737488355328) (b p d : Nat) (w : World) (hr : Rd w b (bs S) p d) (hl : Here S p l) :
    Calls Tryd.prog 103 #[.pointer (some ⟨b, 0, none⟩), .int .i64 ((S.length - bl.length : Nat) : Int)] w (Out b S d w (fun x v _ => v = .int .i32 ((x : Nat) : Int)) (Js.un bl 4 0 l)) := by
  obtain ⟨R, hR⟩ : ∃ R, R = Js.un bl 4 0 l := ⟨_, rfl⟩
  rw [← hR]
  have HR := Lib.hid hR
  have HR0 := Lib.hid hr
  have HL0 := Lib.hid hl
  clear hr hl hR
  obtain ⟨B, hB⟩ : ∃ B, B = S.length - bl.length := ⟨_, rfl⟩
  have HB := Lib.hid hB
  rw [← hB]
  clear hB
  go_enter Tryd.func103, Tryd.ntmps103
  go_wp2_with fail
  go_loopw [5, 8] (fun a iv wr => ∃ (j acc : Nat) (m : List UInt8) (q : Nat), j ≤ 4 ∧ iv = .int .i64 j ∧ a = .int .i32 acc ∧ acc < 16 ^ j ∧ Hid (R = Js.un bl (4 - j) acc m) ∧ Hid (Here S q m) ∧ Hid (Rd wr b (bs S) q d) ∧ Hid (Kept w.heap.size [b] w wr)) (fun _ iv _ => 4 - (intOf iv).toNat)
  case atStart => exact ⟨0, 0, l, p, by omega, rfl, rfl, by decide, HR, HL0, HR0, Lib.hid (Kept.refl _ _ _)⟩
  case round =>
    clear HR HL0 HR0
    obtain ⟨j, acc, m, q, hj, rfl, rfl, hacc, hun, hh, hrd, hk⟩ := hrel
    by_cases hlt : j < 4
    · have h16 : acc < 4096 := by
        have : (16 : Nat) ^ j ≤ 16 ^ 3 := Nat.pow_le_pow_right (by omega) (by omega)
        omega
      have hun2 := hun.out
      rw [show 4 - j = (4 - (j + 1)) + 1 by omega] at hun2
      cases m with
      | nil =>
        have N := Lib.hid (next_end S b q d wr hrd.out hh.out)
        rw [Js.un] at hun2
        have HU := Lib.hid hun2
        clear hun2 hacc
        go_wp2_with (go_at_call 100; refine N.out.mono ?_; rintro e w1 ⟨rfl, hb1⟩)
        refine ⟨rfl, ?_⟩
        rw [HU.out]
        exact ⟨by have := hh.out.le; simp only [List.length_nil, Nat.add_zero] at this; rw [this]; rfl, hk.out.trans (Kept.of_below (hb1.mono hk.out.size))⟩
      | cons c r =>
        have N := Lib.hid (next_hit S r hS c b q d wr hrd.out hh.out)
        have VO := Lib.hid (fun v => valueOf_j c v)
        rw [Js.un] at hun2
        cases hc : Js.hv c with
        | none =>
          rw [hc] at VO hun2
          simp only [hvV] at VO hun2
          have HU := Lib.hid hun2
          clear hun2 hc hacc
          go_wp2_with (first | (go_at_call 100; refine N.out.mono ?_; rintro e w1 ⟨rfl, hr1, hk1⟩) | (go_at_call 104; refine (VO.out _).mono ?_; rintro e w2 ⟨rfl, rfl⟩))
          refine ⟨rfl, ?_⟩
          rw [HU.out]
          exact ⟨by rw [← HB.out]; rfl, hk.out.trans (hk1.mono hk.out.size (fun _ _ h => h))⟩
        | some x =>
          rw [hc] at VO hun2
          simp only [hvV] at VO hun2
          have HU := Lib.hid hun2
          have hx := hv_lt hc
          clear hun2 hc
          have hacc2 : 16 * acc + x < 16 ^ (j + 1) := by rw [Nat.pow_succ]; omega
          have HA := Lib.hid hacc2
          clear hacc2 hacc
          go_wp2_with (first | (go_at_call 100; refine N.out.mono ?_; rintro e w1 ⟨rfl, hr1, hk1⟩) | (go_at_call 104; refine (VO.out _).mono ?_; rintro e w2 ⟨rfl, rfl⟩))
          go_roundw
          case rel => exact ⟨j + 1, 16 * acc + x, r, q + 1, by omega, by go_num, by go_num, HA.out, HU, Lib.hid hh.out.tail, Lib.hid hr1, Lib.hid (hk.out.trans (hk1.mono hk.out.size (fun _ _ h => h)))⟩
          case measure => simp [intOf]; omega
    · obtain rfl : j = 4 := by omega
      have hun2 := hun.out
      rw [Nat.sub_self, Js.un] at hun2
      have HU := Lib.hid hun2
      clear hun2
      go_wp2_with fail
      go_ret
      rw [HU.out]
      exact ⟨_, rfl, rfl, by rw [hh.out.at_]; exact hrd.out, hk.out⟩
theorem rfc_eq {c p q : Nat} (h : p = q) : Ending.panicked (rfc c p) = .panicked (rfc c q) := by rw [h]
theorem i32_eq {a b : Int} (h : a = b) : Value.int .i32 a = .int .i32 b := by rw [h]
theorem un_lt (b : List UInt8) : ∀ (n a : Nat) (l : List UInt8) (x : Nat) (r : List UInt8), Js.un b n a l = .ok x r → x < 16 ^ n * (a + 1)
  | 0, a, l, x, r, h => by rw [Js.un] at h; cases h; rw [Nat.pow_zero]; omega
  | n + 1, a, [], x, r, h => by rw [Js.un] at h; cases h
  | n + 1, a, c :: q, x, r, h => by
    rw [Js.un] at h
    cases hc : Js.hv c with
    | none => rw [hc] at h; cases h
    | some v =>
      rw [hc] at h
      have hv := hv_lt hc
      have h2 := un_lt b n _ q x r h
      have h3 : 16 ^ n * (16 * a + v + 1) ≤ 16 ^ n * (16 * (a + 1)) := Nat.mul_le_mul_left _ (by omega)
      rw [Nat.pow_succ]
      have h4 : 16 ^ n * (16 * (a + 1)) = 16 ^ n * 16 * (a + 1) := by rw [Nat.mul_assoc]
      omega
theorem un_end {b : List UInt8} : ∀ {n a : Nat} {l : List UInt8} {x : Nat} {r : List UInt8}, Js.un b n a l = .ok x r → r <:+ l
  | 0, a, l, x, r, h => by rw [Js.un] at h; cases h; exact List.suffix_refl _
  | n + 1, a, [], x, r, h => by rw [Js.un] at h; cases h
  | n + 1, a, c :: q, x, r, h => by
    rw [Js.un] at h
    cases hc : Js.hv c with
    | none => rw [hc] at h; cases h
    | some v =>
      rw [hc] at h
      exact (un_end h).trans (Js.suf_cons c q)
theorem un4_lt {b l r : List UInt8} {x : Nat} (h : Js.un b 4 0 l = .ok x r) : x < 65536 := by
  have := un_lt b 4 0 l x r h
  exact this
theorem kk {b : Nat} {w w1 w2 : World} (h : Kept w.heap.size [b] w w1) (k : Kept w1.heap.size [b] w1 w2) : Kept w.heap.size [b] w w2 := h.trans (k.mono h.size (fun _ _ h => h))
theorem kb {b : Nat} {w w1 w2 : World} (h : Kept w.heap.size [b] w w1) (k : Below w1.heap.size w1 w2) : Kept w.heap.size [b] w w2 := h.trans (Kept.of_below (k.mono h.size))
set_option maxRecDepth 100000 in
set_option maxHeartbeats 4000000 in
theorem coded_any (S bl l : List UInt8) (hS : S.length ≤ 140737488355328) (hsl : l <:+ S) (b p d : Nat) (w : World) (hr : Rd w b (bs S) p d) (hl : Here S p l) :
    Calls Tryd.prog 101 #[.pointer (some ⟨b, 0, none⟩), .int .i64 ((S.length - bl.length : Nat) : Int)] w (Out b S d w (fun x v _ => v = .int .i32 ((x : Nat) : Int)) (Js.cod bl l)) := by
  have U := unit_any S bl l hS b p d w hr hl
  unfold Js.cod
  cases hu : Js.un bl 4 0 l with
  | bad k r =>
    rw [hu] at U
    have U := Lib.hid U
    simp only [Js.Rs.bind]
    clear hu hr hl
    generalize ((S.length - bl.length : Nat) : Int) = B at *
    go_enter Tryd.func101, Tryd.ntmps101
    go_wp2_with (go_at_call 103; refine U.out.mono ?_; rintro e w1 ⟨rfl, hk1⟩)
    exact ⟨rfl, rfl, hk1⟩
  | ok c r =>
    have hc := un4_lt hu
    rw [hu] at U
    simp only [Js.Rs.bind]
    have U := Lib.hid U
    cases hh : Js.half c with
    | false =>
      simp only [Bool.false_eq_true, if_false]
      have h0 : c < 55296 ∨ 57343 < c := by
        have := Js.half_iff c
        rw [hh] at this
        simp only [Bool.false_eq_true, false_iff] at this
        omega
      clear hu hr hl hh
      generalize ((S.length - bl.length : Nat) : Int) = B at *
      rcases h0 with h0 | h0
      · have q1 : decide ((c : Int) < 55296) = true := decide_eq_true (by omega)
        go_enter Tryd.func101, Tryd.ntmps101
        go_wp2_with (go_at_call 103; refine U.out.mono ?_; rintro e w1 ⟨v1, rfl, rfl, hr1, hk1⟩)
        go_ret
        exact ⟨_, rfl, rfl, hr1, hk1⟩
      · have q1 : decide ((c : Int) < 55296) = false := decide_eq_false (by omega)
        have q2 : decide (57343 < (c : Int)) = true := decide_eq_true (by omega)
        go_enter Tryd.func101, Tryd.ntmps101
        go_wp2_with (go_at_call 103; refine U.out.mono ?_; rintro e w1 ⟨v1, rfl, rfl, hr1, hk1⟩)
        go_ret
        exact ⟨_, rfl, rfl, hr1, hk1⟩
    | true =>
      rw [if_pos rfl]
      have hd := (Js.half_iff c).1 hh
      have q1 : decide ((c : Int) < 55296) = false := decide_eq_false (by omega)
      have q2 : decide (57343 < (c : Int)) = false := decide_eq_false (by omega)
      have hsr : r <:+ S := (un_end hu).trans hsl
      have hh1 : Here S (S.length - r.length) r := Here.of hsr
      cases hlo : Js.lowH c with
      | true =>
        rw [if_pos rfl]
        have q3 : decide (56320 ≤ (c : Int)) = true := decide_eq_true (by have := (Js.lowH_iff c).1 hlo; omega)
        clear hu hr hl hh hlo hh1 hsr
        obtain ⟨B, hB⟩ : ∃ B, B = S.length - bl.length := ⟨_, rfl⟩
        have HB := Lib.hid hB
        rw [← hB] at U ⊢
        clear hB
        go_enter Tryd.func101, Tryd.ntmps101
        go_wp2_with (go_at_call 103; refine U.out.mono ?_; rintro e w1 ⟨v1, rfl, rfl, hr1, hk1⟩)
        exact ⟨rfl, by rw [← HB.out]; rfl, hk1⟩
      | false =>
        rw [if_neg (by decide)]
        have q3 : decide (56320 ≤ (c : Int)) = false := decide_eq_false (by have := Js.lowH_iff c; rw [hlo] at this; simp only [Bool.false_eq_true, false_iff] at this; omega)
        clear hh hlo
        obtain ⟨B, hB⟩ : ∃ B, B = S.length - bl.length := ⟨_, rfl⟩
        have HB := Lib.hid hB
        cases r with
        | nil =>
          have N1 := Lib.hid (fun v hv => next_end S b _ d v hv hh1)
          rw [show Js.tz bl 92 [] = .bad 54 [] from rfl]
          simp only
          rw [← hB] at U ⊢
          clear hu hr hl hB hh1 hsr
          go_enter Tryd.func101, Tryd.ntmps101
          go_wp2_with (first | (go_at_call 103; refine U.out.mono ?_; rintro e w1 ⟨v1, rfl, rfl, hr1, hk1⟩) | (go_at_call 100; refine (N1.out _ hr1).mono ?_; rintro e w2 ⟨rfl, hb2⟩))
          exact ⟨rfl, rfl, kb hk1 hb2⟩
        | cons x r =>
          have hlt := hh1.lt
          have N1 := Lib.hid (fun v hv => next_hit S r hS x b _ d v hv hh1)
          by_cases hx : x.toNat = 92
          · have hx' : x = 92 := UInt8.toNat_inj.1 hx
            have q4 : ((x.toNat : Int) != 92) = false := by rw [hx]; rfl
            have hh2 := hh1.tail
            subst hx'
            rw [show Js.tz bl 92 (92 :: r) = .ok () r by unfold Js.tz; dsimp only; rw [if_pos (by decide)]]
            simp only
            cases r with
            | nil =>
              have N2 := Lib.hid (fun v hv => next_end S b _ d v hv hh2)
              rw [show Js.tz bl 117 [] = .bad 54 [] from rfl]
              simp only
              rw [← hB] at U ⊢
              clear hu hr hl hB hh1 hsr hh2
              go_enter Tryd.func101, Tryd.ntmps101
              go_wp2_with (first | (go_at_call 103; refine U.out.mono ?_; rintro e w1 ⟨v1, rfl, rfl, hr1, hk1⟩) | (go_at_call 100; first | (refine (N1.out _ hr1).mono ?_; rintro e w2 ⟨rfl, hr2, hk2⟩) | (refine (N2.out _ hr2).mono ?_; rintro e w3 ⟨rfl, hb3⟩)))
              refine ⟨rfl, ?_, kb (kk hk1 hk2) hb3⟩
              exact rfc_eq (by have := hlt; simp only [List.length_cons, List.length_nil] at this ⊢; omega)
            | cons y r =>
              have N2 := Lib.hid (fun v hv => next_hit S r hS y b _ d v hv hh2)
              by_cases hy : y.toNat = 117
              · have hy' : y = 117 := UInt8.toNat_inj.1 hy
                have q5 : ((y.toNat : Int) != 117) = false := by rw [hy]; rfl
                have hh3 := hh2.tail
                subst hy'
                rw [show Js.tz bl 117 (117 :: r) = .ok () r by unfold Js.tz; dsimp only; rw [if_pos (by decide)]]
                simp only
                have U2 := Lib.hid (fun v hv => unit_any S bl r hS b _ d v hv hh3)
                unfold Js.low
                cases hu2 : Js.un bl 4 0 r with
                | bad k r4 =>
                  rw [hu2] at U2
                  simp only [Js.Rs.bind]
                  rw [← hB] at U U2 ⊢
                  clear hu hr hl hB hh1 hsr hh2 hh3 hu2
                  go_enter Tryd.func101, Tryd.ntmps101
                  go_wp2_with (first | (go_at_call 103; first | (refine U.out.mono ?_; rintro e w1 ⟨v1, rfl, rfl, hr1, hk1⟩) | (refine (U2.out _ hr3).mono ?_; rintro e w4 ⟨rfl, hk4⟩)) | (go_at_call 100; first | (refine (N1.out _ hr1).mono ?_; rintro e w2 ⟨rfl, hr2, hk2⟩) | (refine (N2.out _ hr2).mono ?_; rintro e w3 ⟨rfl, hr3, hk3⟩)))
                  exact ⟨rfl, rfl, kk (kk (kk hk1 hk2) hk3) hk4⟩
                | ok m r4 =>
                  have hm := un4_lt hu2
                  rw [hu2] at U2
                  simp only [Js.Rs.bind]
                  cases hl2 : Js.lowH m with
                  | true =>
                    rw [if_pos rfl]
                    have hd2 := (Js.lowH_iff m).1 hl2
                    have q6 : decide ((m : Int) < 56320) = false := decide_eq_false (by omega)
                    have q7 : decide (57343 < (m : Int)) = false := decide_eq_false (by omega)
                    have hbo : ((Js.both c m : Nat) : Int) = 65536 + ((c : Int) - 55296) * 1024 + ((m : Int) - 56320) := by rw [Js.both_eq]; omega
                    generalize Js.both c m = x at *
                    have HBO := Lib.hid hbo
                    rw [← hB] at U U2 ⊢
                    clear hu hr hl hB hh1 hsr hh2 hh3 hu2 hl2 hbo
                    go_enter Tryd.func101, Tryd.ntmps101
                    go_wp2_with (first | (go_at_call 103; first | (refine U.out.mono ?_; rintro e w1 ⟨v1, rfl, rfl, hr1, hk1⟩) | (refine (U2.out _ hr3).mono ?_; rintro e w4 ⟨v4, rfl, rfl, hr4, hk4⟩)) | (go_at_call 100; first | (refine (N1.out _ hr1).mono ?_; rintro e w2 ⟨rfl, hr2, hk2⟩) | (refine (N2.out _ hr2).mono ?_; rintro e w3 ⟨rfl, hr3, hk3⟩)))
                    go_ret
                    exact ⟨_, rfl, i32_eq HBO.out.symm, hr4, kk (kk (kk hk1 hk2) hk3) hk4⟩
                  | false =>
                    rw [if_neg (by decide)]
                    have hd2 := Js.lowH_iff m
                    rw [hl2] at hd2
                    simp only [Bool.false_eq_true, false_iff] at hd2
                    by_cases hm2 : m < 56320
                    · have q6 : decide ((m : Int) < 56320) = true := decide_eq_true (by omega)
                      rw [← hB] at U U2 ⊢
                      clear hu hr hl hB hh1 hsr hh2 hh3 hu2 hl2
                      go_enter Tryd.func101, Tryd.ntmps101
                      go_wp2_with (first | (go_at_call 103; first | (refine U.out.mono ?_; rintro e w1 ⟨v1, rfl, rfl, hr1, hk1⟩) | (refine (U2.out _ hr3).mono ?_; rintro e w4 ⟨v4, rfl, rfl, hr4, hk4⟩)) | (go_at_call 100; first | (refine (N1.out _ hr1).mono ?_; rintro e w2 ⟨rfl, hr2, hk2⟩) | (refine (N2.out _ hr2).mono ?_; rintro e w3 ⟨rfl, hr3, hk3⟩)))
                      exact ⟨rfl, by rw [← HB.out]; rfl, kk (kk (kk hk1 hk2) hk3) hk4⟩
                    · have q6 : decide ((m : Int) < 56320) = false := decide_eq_false (by omega)
                      have q7 : decide (57343 < (m : Int)) = true := decide_eq_true (by omega)
                      rw [← hB] at U U2 ⊢
                      clear hu hr hl hB hh1 hsr hh2 hh3 hu2 hl2
                      go_enter Tryd.func101, Tryd.ntmps101
                      go_wp2_with (first | (go_at_call 103; first | (refine U.out.mono ?_; rintro e w1 ⟨v1, rfl, rfl, hr1, hk1⟩) | (refine (U2.out _ hr3).mono ?_; rintro e w4 ⟨v4, rfl, rfl, hr4, hk4⟩)) | (go_at_call 100; first | (refine (N1.out _ hr1).mono ?_; rintro e w2 ⟨rfl, hr2, hk2⟩) | (refine (N2.out _ hr2).mono ?_; rintro e w3 ⟨rfl, hr3, hk3⟩)))
                      exact ⟨rfl, by rw [← HB.out]; rfl, kk (kk (kk hk1 hk2) hk3) hk4⟩
              · have q5 : ((y.toNat : Int) != 117) = true := by simp; omega
                rw [show Js.tz bl 117 (y :: r) = .bad 54 bl by unfold Js.tz; dsimp only; rw [if_neg (by intro h; rw [beq_iff_eq] at h; exact hy (by rw [h]; rfl))]]
                simp only
                rw [← hB] at U ⊢
                clear hu hr hl hB hh1 hsr hh2
                go_enter Tryd.func101, Tryd.ntmps101
                go_wp2_with (first | (go_at_call 103; refine U.out.mono ?_; rintro e w1 ⟨v1, rfl, rfl, hr1, hk1⟩) | (go_at_call 100; first | (refine (N1.out _ hr1).mono ?_; rintro e w2 ⟨rfl, hr2, hk2⟩) | (refine (N2.out _ hr2).mono ?_; rintro e w3 ⟨rfl, hr3, hk3⟩)))
                exact ⟨rfl, by rw [← HB.out]; rfl, kk (kk hk1 hk2) hk3⟩
          · have q4 : ((x.toNat : Int) != 92) = true := by simp; omega
            rw [show Js.tz bl 92 (x :: r) = .bad 54 bl by unfold Js.tz; dsimp only; rw [if_neg (by intro h; rw [beq_iff_eq] at h; exact hx (by rw [h]; rfl))]]
            simp only
            rw [← hB] at U ⊢
            clear hu hr hl hB hh1 hsr
            go_enter Tryd.func101, Tryd.ntmps101
            go_wp2_with (first | (go_at_call 103; refine U.out.mono ?_; rintro e w1 ⟨v1, rfl, rfl, hr1, hk1⟩) | (go_at_call 100; refine (N1.out _ hr1).mono ?_; rintro e w2 ⟨rfl, hr2, hk2⟩))
            exact ⟨rfl, by rw [← HB.out]; rfl, kk hk1 hk2⟩
end Go.Proofs.YthfnlnhehececaaDoor
