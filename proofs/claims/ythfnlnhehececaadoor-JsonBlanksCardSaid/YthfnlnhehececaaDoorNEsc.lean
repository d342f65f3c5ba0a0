/- The program reads an escape, and a character. -/
import Derived.Test.YthfnlnhehececaaDoorNQuo
namespace Go.Proofs.YthfnlnhehececaaDoor
open Go.RowKit

theorem sim_some {c : UInt8} {x : Nat} (h : Js.sim c = some x) : (c = 34 ∧ x = 34) ∨ (c = 92 ∧ x = 92) ∨ (c = 47 ∧ x = 47) ∨ (c = 98 ∧ x = 8) ∨ (c = 102 ∧ x = 12) ∨ (c = 110 ∧ x = 10) ∨ (c = 114 ∧ x = 13) ∨ (c = 116 ∧ x = 9) := by
  unfold Js.sim at h
  simp only [beq_iff_eq] at h
  repeat' split at h
  all_goals first | (simp only [Option.some.injEq] at h; subst h; simp_all) | cases h
theorem sim_none {c : UInt8} (h : Js.sim c = none) : c.toNat ≠ 34 ∧ c.toNat ≠ 92 ∧ c.toNat ≠ 47 ∧ c.toNat ≠ 98 ∧ c.toNat ≠ 102 ∧ c.toNat ≠ 110 ∧ c.toNat ≠ 114 ∧ c.toNat ≠ 116 := by
  have k : ∀ d : UInt8, ¬ c = d → c.toNat ≠ d.toNat := fun d hd h => hd (UInt8.toNat_inj.1 h)
  unfold Js.sim at h
  simp only [beq_iff_eq] at h
  repeat' split at h
  all_goals first | (exact ⟨k 34 (by assumption), k 92 (by assumption), k 47 (by assumption), k 98 (by assumption), k 102 (by assumption), k 110 (by assumption), k 114 (by assumption), k 116 (by assumption)⟩) | cases h
theorem neq_i {n k : Nat} (h : n ≠ k) : ((n : Int) == (k : Int)) = false := by simp; omega
set_option maxRecDepth 100000 in
set_option maxHeartbeats 4000000 in
theorem escape_any (S r : List UInt8) (hS : S.length ≤ 140737488355328) (b p d : Nat) (w : World) (hr : Rd w b (bs S) p d) (hl : Here S p (92 :: r)) :
    Calls Tryd.prog 94 #[.pointer (some ⟨b, 0, none⟩)] w (Out b S d w (fun x v _ => v = .int .i32 ((x : Nat) : Int)) (Js.esc (92 :: r))) := by
  have hsl := hl.suf
  have hat := hl.at_
  have hlt := hl.lt
  have h1 := hl.tail
  have c1 := hr.c1
  have f1 := hr.f 1
  have R1 := Lib.hid (hr.set1 (p + 1))
  have K1 := Lib.hid (kset (w := w) b 1 (.int .i64 ((p + 1 : Nat) : Int)))
  unfold Js.esc
  simp only [List.tail_cons]
  cases r with
  | nil =>
    have N1 := Lib.hid (fun v hv => next_end S b (p + 1) d v hv h1)
    simp only
    have hq := Lib.hid h1.le
    clear hr hl hsl hat h1
    go_enter Tryd.func94, Tryd.ntmps94
    go_wp2_with (go_at_call 100; refine (N1.out _ R1.out).mono ?_; rintro e w2 ⟨rfl, hb2⟩)
    exact ⟨rfl, rfc_eq (by have := hq.out; simp only [List.length_nil, Nat.add_zero] at this ⊢; omega), kb K1.out hb2⟩
  | cons c r =>
    have N1 := Lib.hid (fun v hv => next_hit S r hS c b (p + 1) d v hv h1)
    simp only
    cases hs : Js.sim c with
    | some x =>
      simp only
      have hat2 : p + 1 + 1 = S.length - r.length := (Here.at_ h1.tail).symm
      clear hr hl hsl hat h1
      rcases sim_some hs with ⟨rfl, rfl⟩ | ⟨rfl, rfl⟩ | ⟨rfl, rfl⟩ | ⟨rfl, rfl⟩ | ⟨rfl, rfl⟩ | ⟨rfl, rfl⟩ | ⟨rfl, rfl⟩ | ⟨rfl, rfl⟩
      all_goals
        clear hs
        go_enter Tryd.func94, Tryd.ntmps94
        go_wp2_with (go_at_call 100; refine (N1.out _ R1.out).mono ?_; rintro e w2 ⟨rfl, hr2, hk2⟩)
        go_ret
        exact ⟨_, rfl, rfl, by rw [← hat2]; exact hr2, kk K1.out hk2⟩
    | none =>
      simp only
      obtain ⟨n1, n2, n3, n4, n5, n6, n7, n8⟩ := sim_none hs
      have e1 := neq_i n1; have e2 := neq_i n2; have e3 := neq_i n3; have e4 := neq_i n4; have e5 := neq_i n5; have e6 := neq_i n6; have e7 := neq_i n7; have e8 := neq_i n8
      by_cases hu : c.toNat = 117
      · have hu' : c = 117 := UInt8.toNat_inj.1 hu
        subst hu'
        rw [if_pos (by decide)]
        have CO := Lib.hid (fun v hv => coded_any S (92 :: 117 :: r) r hS ((Js.suf_cons _ _).trans h1.suf) b (p + 1 + 1) d v hv h1.tail)
        rw [hat] at CO
        clear hr hl hsl hat h1 hs
        cases hc : Js.cod (92 :: 117 :: r) r with
        | bad k q =>
          rw [hc] at CO
          go_enter Tryd.func94, Tryd.ntmps94
          go_wp2_with (first | (go_at_call 100; refine (N1.out _ R1.out).mono ?_; rintro e w2 ⟨rfl, hr2, hk2⟩) | (go_at_call 101; refine (CO.out _ hr2).mono ?_; rintro e w3 ⟨rfl, hk3⟩))
          exact ⟨rfl, rfl, kk (kk K1.out hk2) hk3⟩
        | ok x q =>
          rw [hc] at CO
          go_enter Tryd.func94, Tryd.ntmps94
          go_wp2_with (first | (go_at_call 100; refine (N1.out _ R1.out).mono ?_; rintro e w2 ⟨rfl, hr2, hk2⟩) | (go_at_call 101; refine (CO.out _ hr2).mono ?_; rintro e w3 ⟨v3, rfl, rfl, hr3, hk3⟩))
          go_ret
          exact ⟨_, rfl, rfl, hr3, kk (kk K1.out hk2) hk3⟩
      · have e9 := neq_i hu
        rw [if_neg (by intro h; rw [beq_iff_eq] at h; exact hu (by rw [h]; rfl))]
        clear hr hl hsl h1 hs
        go_enter Tryd.func94, Tryd.ntmps94
        go_wp2_with (go_at_call 100; refine (N1.out _ R1.out).mono ?_; rintro e w2 ⟨rfl, hr2, hk2⟩)
        exact ⟨rfl, rfc_eq hat.symm, kk K1.out hk2⟩
theorem cod_lt {b l : List UInt8} {x : Nat} {r : List UInt8} (h : Js.cod b l = .ok x r) : x ≤ 1114111 ∧ ¬ (55296 ≤ x ∧ x ≤ 57343) := by
  unfold Js.cod at h
  cases hu : Js.un b 4 0 l with
  | bad d q => rw [hu] at h; cases h
  | ok y q =>
    have hy := un4_lt hu
    rw [hu] at h
    simp only [Js.Rs.bind] at h
    cases hh : Js.half y with
    | false =>
      rw [hh, if_neg (by decide)] at h
      injection h with h1 h2
      subst h1
      refine ⟨by omega, fun hx => ?_⟩
      have := (Js.half_iff y).2 hx
      rw [hh] at this
      cases this
    | true =>
      have hd := (Js.half_iff y).1 hh
      rw [hh, if_pos rfl] at h
      cases hl : Js.lowH y with
      | true => rw [hl, if_pos rfl] at h; cases h
      | false =>
        have hd2 := Js.lowH_iff y
        rw [hl] at hd2
        simp only [Bool.false_eq_true, false_iff] at hd2
        rw [hl, if_neg (by decide)] at h
        cases hz : Js.tz b 92 q with
        | bad d q2 => rw [hz] at h; cases h
        | ok a q2 =>
          rw [hz] at h
          simp only at h
          cases hz2 : Js.tz b 117 q2 with
          | bad d q3 => rw [hz2] at h; cases h
          | ok a q3 =>
            rw [hz2] at h
            simp only at h
            unfold Js.low at h
            cases hu2 : Js.un b 4 0 q3 with
            | bad d q4 => rw [hu2] at h; cases h
            | ok m q4 =>
              rw [hu2] at h
              simp only [Js.Rs.bind] at h
              cases hl2 : Js.lowH m with
              | false => rw [hl2, if_neg (by decide)] at h; cases h
              | true =>
                have hm := (Js.lowH_iff m).1 hl2
                rw [hl2, if_pos rfl] at h
                injection h with h1 h2
                have hb := Js.both_eq y m
                omega
theorem esc_lt' {l : List UInt8} {x : Nat} {r : List UInt8} (h : Js.esc l = .ok x r) : x ≤ 1114111 ∧ ¬ (55296 ≤ x ∧ x ≤ 57343) := by
  unfold Js.esc at h
  cases hl : l.tail with
  | nil => rw [hl] at h; cases h
  | cons c q =>
    rw [hl] at h
    simp only at h
    cases hs : Js.sim c with
    | some y =>
      rw [hs] at h
      simp only at h
      injection h with h1 h2
      have := sim_some hs
      omega
    | none =>
      rw [hs] at h
      simp only at h
      by_cases hc : (c == 117) = true
      · rw [if_pos hc] at h; exact cod_lt h
      · rw [if_neg hc] at h; cases h
theorem esc_lt {l : List UInt8} {x : Nat} {r : List UInt8} (h : Js.esc l = .ok x r) : x ≤ 1114111 := (esc_lt' h).1
theorem chr_lt {l : List UInt8} {x : Nat} {r : List UInt8} (h : Js.chr l = .ok x r) : x ≤ 1114111 ∧ ¬ (55296 ≤ x ∧ x ≤ 57343) := by
  unfold Js.chr at h
  by_cases hh : l.head? = some 92
  · rw [if_pos hh] at h; exact esc_lt' h
  · rw [if_neg hh] at h
    cases hu : Js.u8c l with
    | none => rw [hu] at h; cases h
    | some y =>
      obtain ⟨c, n⟩ := y
      rw [hu] at h
      simp only at h
      have h3 := Js.enc_u8c hu
      by_cases hc : c < 32
      · rw [if_pos hc] at h; cases h
      · rw [if_neg hc] at h
        injection h with h1 h2
        subst h1
        exact h3.2.2.2.2
/-- The library's two tables, as they are laid. -/
def Tb (w : World) : Prop := Lib.Utf8Tabs 0 1 w
theorem Tb.below {w w' : World} (h : Tb w) (hb : Below w.heap.size w w') : Tb w' := Utf8Tabs_below h hb
/-- The worlds in which nothing of what was has changed. -/
def Sn (w0 v : World) : Prop := Below w0.heap.size w0 v
theorem Sn.start (w : World) : Sn w w.drew := (Below.refl _ _).drew
theorem Sn.next {w0 : World} : ∀ v v', Sn w0 v → Below v.heap.size v v' → Sn w0 v' := fun _ _ hv hb => hv.trans (hb.mono hv.size)
theorem Sn.cell {w0 : World} {b j : Nat} {x : Value} (h : w0.cell? ⟨b, j, none⟩ = some x) (hb : b < w0.heap.size) (u : Of (Sn w0)) : u.w.cell? ⟨b, j, none⟩ = some x := (World.cell?_of_block (w := w0) (a := ⟨b, j, none⟩) (u.ok.block b hb)).trans h
theorem dec_any (l : List UInt8) (w : World) (hT : Tb w) : Calls Tryd.prog 95 #[.string (bs l)] w fun e w' => e = .returned (.tuple #[.int .i32 ((((Js.u8c l).getD (65533, if l = [] then 0 else 1)).1 : Nat) : Int), .int .i64 ((((Js.u8c l).getD (65533, if l = [] then 0 else 1)).2 : Nat) : Int)]) ∧ Below w.heap.size w w' := by
  have h := k_utf8_DecodeRuneInString (bs l) w hT
  have e : Lib.decodeGo (bs l) = (Js.u8c l).getD (65533, if l = [] then 0 else 1) := by
    unfold Lib.decodeGo
    rw [bs_size]
    by_cases hl : l = []
    · subst hl; rfl
    · rw [if_neg (fun h => hl (List.eq_nil_of_length_eq_zero h)), Js.dec_u8c l hl, if_neg hl]
  rw [e] at h
  exact h
end Go.Proofs.YthfnlnhehececaaDoor
