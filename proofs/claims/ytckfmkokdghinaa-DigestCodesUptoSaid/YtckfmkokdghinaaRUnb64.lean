/- The walk of the document's own reader of a text in base 64. -/
import Derived.Test.YtckfmkokdghinaaRB64
import Derived.Test.YtckfmkokdghinaaRUnhex
import Derived.Test.YtckfmkokdghinaaUnb64
namespace Go.Proofs.Ytckfmkokdghinaa
open Go.RowKit

/-- How many of the first bytes are among the 64. -/
def hits (f : List UInt8) : Nat → Nat
  | 0 => 0
  | k + 1 => hits f k + if Dig.value (f.getD k 0) < 64 then 1 else 0
theorem hits_zero (f : List UInt8) : hits f 0 = 0 := rfl
theorem hits_yes {f : List UInt8} {k : Nat} (h : Dig.value (f.getD k 0) < 64) : hits f (k + 1) = hits f k + 1 := by rw [hits, if_pos h]
theorem hits_no {f : List UInt8} {k : Nat} (h : ¬ Dig.value (f.getD k 0) < 64) : hits f (k + 1) = hits f k := by rw [hits, if_neg h]; rfl
theorem hits_le (f : List UInt8) (k : Nat) : hits f k ≤ k := by
  induction k with
  | zero => exact Nat.le_refl _
  | succ k ih => rw [hits]; split <;> omega
theorem hits_miss (f : List UInt8) (k : Nat) : hits f k + Dig.missTo f k = k := by
  induction k with
  | zero => rw [hits_zero, Dig.missTo_zero]
  | succ k ih =>
    by_cases h : Dig.value (f.getD k 0) < 64
    · rw [hits_yes h, Dig.missTo_yes h]; omega
    · rw [hits_no h, Dig.missTo_no h]; omega
theorem hits_many {f : List UInt8} (h : f.length = 4) : hits f 4 = Dig.many4 f := by
  have := hits_miss f 4
  have := Dig.missTo_all h
  omega
attribute [irreducible] hits
theorem ok_low {f : List UInt8} {last : Bool} {i : Nat} (h : i < 2) (ho : Dig.okAt f last i = true) : Dig.value (f.getD i 0) < 64 := by
  rw [Dig.okAt_low h, decide_eq_true_eq] at ho; exact ho
theorem hits_low {f : List UInt8} {last : Bool} {j : Nat} (h : j ≤ 2) (ho : ∀ i, i < j → Dig.okAt f last i = true) : hits f j = j := by
  match j, h, ho with
  | 0, _, _ => exact hits_zero f
  | 1, _, ho => rw [hits_yes (ok_low (by omega) (ho 0 (by omega))), hits_zero]
  | 2, _, ho => rw [hits_yes (ok_low (by omega) (ho 1 (by omega))), hits_yes (ok_low (by omega) (ho 0 (by omega))), hits_zero]
theorem not61 {c : UInt8} (h : Dig.value c < 64) : c ≠ 61 := fun e => by rw [e, Dig.value_61] at h; omega
theorem no61 {c : UInt8} (h : c = 61) : ¬ Dig.value c < 64 := fun e => not61 e h
theorem hits_three {f : List UInt8} {last : Bool} (ho : ∀ i, i < 3 → Dig.okAt f last i = true) : (f.getD 2 0 ≠ 61 ∧ Dig.value (f.getD 2 0) < 64 ∧ hits f 3 = 3) ∨ (f.getD 2 0 = 61 ∧ hits f 3 = 2) := by
  have h2 := hits_low (j := 2) (by omega) (fun i hi => ho i (by omega))
  by_cases h : f.getD 2 0 = 61
  · exact .inr ⟨h, by rw [hits_no (no61 h), h2]⟩
  · have := ho 2 (by omega)
    rw [Dig.okAt_2 h, decide_eq_true_eq] at this
    exact .inl ⟨h, this, by rw [hits_yes this, h2]⟩
theorem four_ok {f : List UInt8} {last : Bool} {j : Nat} (hj : j < 4) (ho : ∀ i, i < j → Dig.okAt f last i = true) (hS : hits f j = j) (hc : Dig.value (f.getD j 0) < 64) : Dig.okAt f last j = true := by
  match j, hj with
  | 0, _ => rw [Dig.okAt_low (by omega), decide_eq_true_eq]; exact hc
  | 1, _ => rw [Dig.okAt_low (by omega), decide_eq_true_eq]; exact hc
  | 2, _ => rw [Dig.okAt_2 (not61 hc), decide_eq_true_eq]; exact hc
  | 3, _ =>
    rcases hits_three ho with ⟨h, _⟩ | ⟨_, h⟩
    · rw [Dig.okAt_3 h (not61 hc), decide_eq_true_eq]; exact hc
    · omega
theorem four_late {f : List UInt8} {last : Bool} {j : Nat} (hj : j < 4) (ho : ∀ i, i < j → Dig.okAt f last i = true) (hS : hits f j < j) : j = 3 ∧ f.getD 2 0 = 61 := by
  match j, hj with
  | 0, _ => omega
  | 1, _ => have := hits_low (by omega) ho; omega
  | 2, _ => have := hits_low (by omega) ho; omega
  | 3, _ =>
    rcases hits_three ho with ⟨_, _, h⟩ | ⟨h, _⟩
    · omega
    · exact ⟨rfl, h⟩
theorem four_bad_late {f : List UInt8} {last : Bool} {j : Nat} (hj : j < 4) (ho : ∀ i, i < j → Dig.okAt f last i = true) (hS : hits f j < j) (hc : f.getD j 0 ≠ 61) : Dig.okAt f last j = false := by
  obtain ⟨rfl, h2⟩ := four_late hj ho hS
  rw [Dig.okAt_3_both h2]; simpa using hc
theorem four_ok_late {f : List UInt8} {last : Bool} {j : Nat} (hj : j < 4) (ho : ∀ i, i < j → Dig.okAt f last i = true) (hS : hits f j < j) (hc : f.getD j 0 = 61) : Dig.okAt f last j = true := by
  obtain ⟨rfl, h2⟩ := four_late hj ho hS
  rw [Dig.okAt_3_both h2, hc]; rfl
theorem four_bad {f : List UInt8} {last : Bool} {j : Nat} (hj : j < 4) (ho : ∀ i, i < j → Dig.okAt f last i = true) (hS : hits f j = j) (hc : ¬ Dig.value (f.getD j 0) < 64) (h61 : f.getD j 0 ≠ 61) : Dig.okAt f last j = false := by
  match j, hj with
  | 0, _ => rw [Dig.okAt_low (by omega), decide_eq_false_iff_not]; exact hc
  | 1, _ => rw [Dig.okAt_low (by omega), decide_eq_false_iff_not]; exact hc
  | 2, _ => rw [Dig.okAt_2 h61, decide_eq_false_iff_not]; exact hc
  | 3, _ =>
    rcases hits_three ho with ⟨h, _⟩ | ⟨_, h⟩
    · rw [Dig.okAt_3 h h61, decide_eq_false_iff_not]; exact hc
    · omega
theorem four_bad_low {f : List UInt8} {last : Bool} {j : Nat} (hj : j < 2) (hc : f.getD j 0 = 61) : Dig.okAt f last j = false := by
  rw [Dig.okAt_low hj, decide_eq_false_iff_not]; exact no61 hc
theorem four_end {f : List UInt8} {last : Bool} {j : Nat} (hj : j < 4) (h2 : 2 ≤ j) (ho : ∀ i, i < j → Dig.okAt f last i = true) (hS : hits f j = j) (hc : f.getD j 0 = 61) : Dig.okAt f last j = last := by
  match j, hj, h2 with
  | 2, _, _ => exact Dig.okAt_2_end hc
  | 3, _, _ =>
    rcases hits_three ho with ⟨h, _⟩ | ⟨_, h⟩
    · exact Dig.okAt_3_end h hc
    · omega
/-- A four of which every byte may be what it is. -/
theorem four_all {f : List UInt8} {last : Bool} (ho : ∀ i, i < 4 → Dig.okAt f last i = true) :
    (hits f 4 = 2 ∧ Dig.looseAt f = (1, 16)) ∨ (hits f 4 = 3 ∧ Dig.looseAt f = (2, 4)) ∨ (hits f 4 = 4 ∧ Dig.looseAt f = (0, 1)) := by
  rcases hits_three (fun i hi => ho i (by omega)) with ⟨h, hv, h3⟩ | ⟨h, h3⟩
  · by_cases hc : f.getD 3 0 = 61
    · exact .inr (.inl ⟨by rw [hits_no (no61 hc), h3], Dig.looseAt_2 h hc⟩)
    · have := ho 3 (by omega)
      rw [Dig.okAt_3 h hc, decide_eq_true_eq] at this
      exact .inr (.inr ⟨by rw [hits_yes this, h3], Dig.looseAt_0 h hc⟩)
  · have := ho 3 (by omega)
    rw [Dig.okAt_3_both h] at this
    exact .inl ⟨by rw [hits_no (no61 (by simpa using this)), h3], Dig.looseAt_1 h⟩
theorem all_12 (f : List UInt8) : Dig.allTo f 4 / 4096 % 16 = Dig.value0 (f.getD 1 0) % 16 := by
  have := Dig.value0_le (f.getD 2 0)
  have := Dig.value0_le (f.getD 3 0)
  rw [Dig.allTo_succ, Dig.allTo_succ, Dig.allTo_succ, Dig.allTo_succ]; omega
theorem all_6 (f : List UInt8) : Dig.allTo f 4 / 64 % 4 = Dig.value0 (f.getD 2 0) % 4 := by
  have := Dig.value0_le (f.getD 3 0)
  rw [Dig.allTo_succ, Dig.allTo_succ, Dig.allTo_succ]; omega
theorem place64_is (c : UInt8) (w : World) (h : Dig.value c < 64) : Calls Try.prog 45 #[.string tab64, .int .u8 c.toNat] w fun e w' => e = .returned (.int .i64 (Dig.value c)) ∧ w' = w := by
  refine (place64_yes c h w).mono ?_
  rintro e w' ⟨rfl, rfl⟩
  exact ⟨rfl, rfl⟩
theorem tm_12_16 (A : Nat) : ((A : Int) / 4096).tmod 16 = (A : Int) / 4096 % 16 := Int.tmod_eq_emod_of_nonneg (Int.ediv_nonneg (by omega) (by omega))
theorem tm_6_4 (A : Nat) : ((A : Int) / 64).tmod 4 = (A : Int) / 64 % 4 := Int.tmod_eq_emod_of_nonneg (Int.ediv_nonneg (by omega) (by omega))
theorem w8 (A : Nat) : IntKind.u8.wrap (A : Int) = ((UInt8.ofNat A).toNat : Int) := by rw [IntKind.wrap_u8, UInt8.toNat_ofNat']; omega
theorem w8_8 (A : Nat) : IntKind.u8.wrap ((A : Int) / 256) = ((UInt8.ofNat (A / 256)).toNat : Int) := by rw [← w8]; congr 1
theorem w8_16 (A : Nat) : IntKind.u8.wrap ((A : Int) / 65536) = ((UInt8.ofNat (A / 65536)).toNat : Int) := by rw [← w8]; congr 1
attribute [local go_sem high] run_index_byte_add fold_tab64 tm_12_16 tm_6_4 w8 w8_8 w8_16

set_option maxRecDepth 100000 in
set_option maxHeartbeats 2000000 in
theorem rUnbase64_any (s : ByteArray) (hs : s.size ≤ 140737488355328) (w : World) :
    Calls Try.prog 25 #[.string s] w fun e w' => e = .returned (ansOf (Dig.dec s.data.toList)) ∧ Below w.heap.size w w' := by
  obtain ⟨i0, hi, hz0, hz1, hz2⟩ := info_parts infoByte
  obtain ⟨l, hl⟩ : ∃ l, l = s.data.toList := ⟨_, rfl⟩
  have hlen : l.length = s.size := by rw [hl]; exact size_toList s
  obtain ⟨r, hr⟩ : ∃ r, r = ansOf (Dig.dec l) := ⟨_, rfl⟩
  rw [← hl, ← hr]
  have HR := Lib.hid hr
  have HL := Lib.hid hl
  have HLEN := Lib.hid hlen
  clear hr hl hlen
  go_enter Try.func25, Try.ntmps25
  go_wp2_with fail
  go_loopw [5, 6] (fun v i wr => ∃ (k tl : Nat) (T : List UInt8), 4 * k ≤ s.size + 3 ∧ T.length = tl ∧ tl ≤ 3 * k ∧ i = .int .i64 (4 * k : Nat) ∧ Dig.dec l = Dig.after (4 * k) T (Dig.dec (l.drop (4 * k))) ∧
    wr.ownsRow w.heap.size 5 1 v tl (T.map u8v) ∧ Below w.heap.size w wr) (fun _ i _ => s.size + 3 - (intOf i).toNat)
  case atStart => exact ⟨0, 0, [], by omega, rfl, by omega, rfl, by rw [Nat.mul_zero, List.drop_zero, Dig.after_zero], World.ownsRow_nil _ _ _ _, Below.refl _ _⟩
  case round =>
    obtain ⟨k, tl, T, hk, hT, htl, rfl, hE, hown, hB⟩ := hrel
    by_cases hlt : 4 * k < s.size
    · have hsz := hB.size
      obtain ⟨n, hn⟩ : ∃ n, n = 4 * k := ⟨_, rfl⟩
      rw [← hn] at hlt hE ⊢
      have hne : l.drop n ≠ [] := by intro e; have := congrArg List.length e; rw [List.length_drop, HLEN.out, List.length_nil] at this; omega
      obtain ⟨f, hf⟩ : ∃ f, f = (l.drop n).take 4 := ⟨_, rfl⟩
      obtain ⟨last, hlast⟩ : ∃ b, decide ((s.size : Int) - (n : Int) ≤ 4) = b := ⟨_, rfl⟩
      have hfl : f.length = min 4 (s.size - n) := by rw [hf, List.length_take, List.length_drop, HLEN.out]
      have hfg : ∀ j, j < 4 → n + j < s.size → f.getD j 0 = strAt s (n + j) := by
        intro j h1 h2
        rw [hf, strAt_eq, ← HL.out]; simp [List.getD, List.getElem?_drop, h1]
      rw [Dig.dec_step hne, ← hf, show decide ((l.drop n).length ≤ 4) = last from by rw [← hlast, List.length_drop, HLEN.out]; congr 1; simp; omega, List.drop_drop] at hE
      have HN := Lib.hid hn
      have HT := Lib.hid hT
      have HTL := Lib.hid htl
      have HO := Lib.hid hown
      have HB := Lib.hid hB
      have HE := Lib.hid hE
      have HFL := Lib.hid hfl
      have HFG := Lib.hid hfg
      clear hn hT htl hown hB hne hE hf hfl hfg
      go_wp2_with fail
      have HLA := Lib.hid hlast
      clear hlast
      go_loopw [7, 8, 10] (fun a b jv wi => ∃ j : Nat, j ≤ 4 ∧ n + j ≤ s.size ∧ jv = .int .i64 j ∧ a = .int .i64 (Dig.allTo f j : Nat) ∧ b = .int .i64 (hits f j : Nat) ∧ (∀ i, i < j → Dig.okAt f last i = true) ∧ wr = wi) (fun _ _ jv _ => 4 - (intOf jv).toNat)
      case atStart => exact ⟨0, by omega, by omega, rfl, by rw [Dig.allTo_zero]; rfl, by rw [hits_zero]; rfl, fun i hi => by omega, rfl⟩
      case round =>
        obtain ⟨j, hj, hnj, rfl, rfl, rfl, hok, rfl⟩ := hrel
        by_cases h4 : j < 4
        · by_cases hin : n + j < s.size
          · have HG := Lib.hid (HFG.out j h4 hin)
            have hjf : j < f.length := by rw [HFL.out]; omega
            have hA : Dig.allTo f j < 262144 := Nat.lt_of_lt_of_le (Dig.allTo_lt f j) (by match j, h4 with | 0, _ => decide | 1, _ => decide | 2, _ => decide | 3, _ => decide)
            have hSle := hits_le f j
            obtain ⟨A, hAe⟩ : ∃ A, A = Dig.allTo f j := ⟨_, rfl⟩
            obtain ⟨S, hSe⟩ : ∃ S, S = hits f j := ⟨_, rfl⟩
            rw [← hAe] at hA ⊢
            rw [← hSe] at hSle ⊢
            have HA := Lib.hid hAe
            have HS := Lib.hid hSe
            clear hAe hSe
            by_cases hv : Dig.value (strAt s (n + j)) < 64
            · have h61 : (((strAt s (n + j)).toNat : Int) == 61) = false := ne61 (not61 hv)
              by_cases hSj : S = j
              · have hSn : ¬ (S : Int) < (j : Int) := by omega
                have hok' : ∀ i, i < j + 1 → Dig.okAt f last i = true := by
                  intro i hi
                  by_cases e : i = j
                  · subst e; exact four_ok h4 hok (by rw [← HS.out]; exact hSj) (by rw [HG.out]; exact hv)
                  · exact hok i (by omega)
                have hn1 : Dig.allTo f (j + 1) = A * 64 + Dig.value (strAt s (n + j)) := by rw [Dig.allTo_succ, HG.out, Dig.value0_eq hv, ← HA.out]
                have hn2 : hits f (j + 1) = S + 1 := by rw [hits_yes (by rw [HG.out]; exact hv), ← HS.out]
                have H1 := Lib.hid hn1
                have H2 := Lib.hid hn2
                have HK := Lib.hid hok'
                clear hok hok' hn1 hn2
                go_wp2_with (go_at_call 45; refine (place64_yes _ hv _).mono ?_; rintro e w' ⟨rfl, rfl⟩)
                go_roundw
                case rel => exact ⟨j + 1, by omega, by omega, by go_num, by (rw [H1.out]) <;> go_num, by (rw [H2.out]) <;> go_num, HK.out, trivial⟩
                case measure => simp [intOf]; omega
              · have hSn : (S : Int) < (j : Int) := by omega
                have hSl : S < j := by omega
                have e := HE.out
                rw [Dig.decStep_bad (Dig.wrong4_at (i := j) hjf hok (four_bad_late h4 hok (by rw [← HS.out]; exact hSl) (by rw [HG.out]; exact not61 hv))), Dig.after_error] at e
                have HX := Lib.hid (HR.out.trans (ansOf_error e))
                clear e hok HE
                go_wp2_with (go_at_call 45; refine (place64_yes _ hv _).mono ?_; rintro e w' ⟨rfl, rfl⟩)
                go_ret3
                exact ⟨by rw [HX.out]; rfl, HB.out⟩
            · by_cases hc : strAt s (n + j) = 61
              · have h61 : (((strAt s (n + j)).toNat : Int) == 61) = true := eq61 hc
                have HC := Lib.hid hc
                clear hc
                by_cases hSj : S = j
                · have hSn : ¬ (S : Int) < (j : Int) := by omega
                  by_cases h2 : 2 ≤ j
                  · have h2i : (2 : Int) ≤ (j : Int) := by omega
                    cases hlb : last with
                    | true =>
                      subst hlb
                      have hok' : ∀ i, i < j + 1 → Dig.okAt f true i = true := by
                        intro i hi
                        by_cases e : i = j
                        · subst e; exact four_end h4 h2 hok (by rw [← HS.out]; exact hSj) (by rw [HG.out]; exact HC.out)
                        · exact hok i (by omega)
                      have hn1 : Dig.allTo f (j + 1) = A * 64 := by rw [Dig.allTo_succ, HG.out, Dig.value0_no hv, ← HA.out]; rfl
                      have hn2 : hits f (j + 1) = S := by rw [hits_no (by rw [HG.out]; exact hv), ← HS.out]
                      have H1 := Lib.hid hn1
                      have H2 := Lib.hid hn2
                      have HK := Lib.hid hok'
                      clear hok hok' hn1 hn2
                      go_wp2_with (go_at_call 45; refine (place64_no _ hv _).mono ?_; rintro e w' ⟨rfl, rfl⟩)
                      go_roundw
                      case rel => exact ⟨j + 1, by omega, by omega, by go_num, by (rw [H1.out]) <;> go_num, by (rw [H2.out]) <;> go_num, HK.out, trivial⟩
                      case measure => simp [intOf]; omega
                    | false =>
                      subst hlb
                      have e := HE.out
                      rw [Dig.decStep_bad (Dig.wrong4_at (i := j) hjf hok (four_end h4 h2 hok (by rw [← HS.out]; exact hSj) (by rw [HG.out]; exact HC.out))), Dig.after_error] at e
                      have HX := Lib.hid (HR.out.trans (ansOf_error e))
                      clear e hok HE
                      go_wp2_with (go_at_call 45; refine (place64_no _ hv _).mono ?_; rintro e w' ⟨rfl, rfl⟩)
                      go_ret3
                      exact ⟨by rw [HX.out]; rfl, HB.out⟩
                  · have h2i : decide ((2 : Int) ≤ (j : Int)) = false := by simp; omega
                    have e := HE.out
                    rw [Dig.decStep_bad (Dig.wrong4_at (i := j) hjf hok (four_bad_low (by omega) (by rw [HG.out]; exact HC.out))), Dig.after_error] at e
                    have HX := Lib.hid (HR.out.trans (ansOf_error e))
                    clear e hok HE
                    go_wp2_with (go_at_call 45; refine (place64_no _ hv _).mono ?_; rintro e w' ⟨rfl, rfl⟩)
                    all_goals
                      go_ret3
                      exact ⟨by rw [HX.out]; rfl, HB.out⟩
                · have hSn : (S : Int) < (j : Int) := by omega
                  have hSl : S < j := by omega
                  cases hlb : last with
                  | true =>
                    subst hlb
                    have hok' : ∀ i, i < j + 1 → Dig.okAt f true i = true := by
                      intro i hi
                      by_cases e : i = j
                      · subst e; exact four_ok_late h4 hok (by rw [← HS.out]; exact hSl) (by rw [HG.out]; exact HC.out)
                      · exact hok i (by omega)
                    have hn1 : Dig.allTo f (j + 1) = A * 64 := by rw [Dig.allTo_succ, HG.out, Dig.value0_no hv, ← HA.out]; rfl
                    have hn2 : hits f (j + 1) = S := by rw [hits_no (by rw [HG.out]; exact hv), ← HS.out]
                    have H1 := Lib.hid hn1
                    have H2 := Lib.hid hn2
                    have HK := Lib.hid hok'
                    clear hok hok' hn1 hn2
                    go_wp2_with (go_at_call 45; refine (place64_no _ hv _).mono ?_; rintro e w' ⟨rfl, rfl⟩)
                    go_roundw
                    case rel => exact ⟨j + 1, by omega, by omega, by go_num, by (rw [H1.out]) <;> go_num, by (rw [H2.out]) <;> go_num, HK.out, trivial⟩
                    case measure => simp [intOf]; omega
                  | false =>
                    subst hlb
                    have hok' : ∀ i, i < j + 1 → Dig.okAt f false i = true := by
                      intro i hi
                      by_cases e : i = j
                      · subst e; exact four_ok_late h4 hok (by rw [← HS.out]; exact hSl) (by rw [HG.out]; exact HC.out)
                      · exact hok i (by omega)
                    have hn1 : Dig.allTo f (j + 1) = A * 64 := by rw [Dig.allTo_succ, HG.out, Dig.value0_no hv, ← HA.out]; rfl
                    have hn2 : hits f (j + 1) = S := by rw [hits_no (by rw [HG.out]; exact hv), ← HS.out]
                    have H1 := Lib.hid hn1
                    have H2 := Lib.hid hn2
                    have HK := Lib.hid hok'
                    clear hok hok' hn1 hn2
                    go_wp2_with (go_at_call 45; refine (place64_no _ hv _).mono ?_; rintro e w' ⟨rfl, rfl⟩)
                    go_roundw
                    case rel => exact ⟨j + 1, by omega, by omega, by go_num, by (rw [H1.out]) <;> go_num, by (rw [H2.out]) <;> go_num, HK.out, trivial⟩
                    case measure => simp [intOf]; omega
              · have h61 : (((strAt s (n + j)).toNat : Int) == 61) = false := ne61 hc
                by_cases hSj : S = j
                · have hSn : ¬ (S : Int) < (j : Int) := by omega
                  have e := HE.out
                  rw [Dig.decStep_bad (Dig.wrong4_at (i := j) hjf hok (four_bad h4 hok (by rw [← HS.out]; exact hSj) (by rw [HG.out]; exact hv) (by rw [HG.out]; exact hc))), Dig.after_error] at e
                  have HX := Lib.hid (HR.out.trans (ansOf_error e))
                  clear e hok HE
                  go_wp2_with (go_at_call 45; refine (place64_no _ hv _).mono ?_; rintro e w' ⟨rfl, rfl⟩)
                  go_ret3
                  exact ⟨by rw [HX.out]; rfl, HB.out⟩
                · have hSn : (S : Int) < (j : Int) := by omega
                  have hSl : S < j := by omega
                  have e := HE.out
                  rw [Dig.decStep_bad (Dig.wrong4_at (i := j) hjf hok (four_bad_late h4 hok (by rw [← HS.out]; exact hSl) (by rw [HG.out]; exact hc))), Dig.after_error] at e
                  have HX := Lib.hid (HR.out.trans (ansOf_error e))
                  clear e hok HE
                  go_wp2_with (go_at_call 45; refine (place64_no _ hv _).mono ?_; rintro e w' ⟨rfl, rfl⟩)
                  go_ret3
                  exact ⟨by rw [HX.out]; rfl, HB.out⟩
          · have e := HE.out
            have hjs : n + j = s.size := by omega
            have hfj : f.length = j := by rw [HFL.out]; omega
            rw [Dig.decStep_bad (Dig.wrong4_short (fun i hi => hok i (by rw [← hfj]; exact hi)) (by omega)), Dig.after_error, hfj, hjs] at e
            have HX := Lib.hid (HR.out.trans (ansOf_error e))
            clear e hok HE hjs hfj
            go_wp2_with fail
            go_ret3
            exact ⟨by rw [HX.out]; rfl, HB.out⟩
        · obtain rfl : j = 4 := by omega
          have hf4 : f.length = 4 := by rw [HFL.out]; omega
          have hA : Dig.allTo f 4 < 16777216 := Dig.allTo_lt f 4
          have h12 := all_12 f
          have h6 := all_6 f
          have hA4 := Dig.allTo_all f
          have hF := Dig.full4_eq f
          rw [← hA4] at hF
          have hok4 : ∀ i, i < f.length → Dig.okAt f last i = true := fun i h => hok i (by omega)
          obtain ⟨A, hAe⟩ : ∃ A, A = Dig.allTo f 4 := ⟨_, rfl⟩
          rw [← hAe] at hA h12 h6 hA4 hF ⊢
          clear hAe
          have HG2 : Hid ((wr.alloc (.cells #[.int .u8 (UInt8.ofNat (A / 65536)).toNat, .int .u8 (UInt8.ofNat (A / 256)).toNat, .int .u8 (UInt8.ofNat A).toNat] 5)).heap[wr.heap.size]? = some (.cells ((Dig.full4 f).map u8v).toArray 5 (0, 0))) := Lib.hid (by rw [hF]; exact heap_alloc_new wr _)
          have hm3 : w.heap.size ≤ (wr.alloc (.cells #[.int .u8 (UInt8.ofNat (A / 65536)).toNat, .int .u8 (UInt8.ofNat (A / 256)).toNat, .int .u8 (UInt8.ofNat A).toNat] 5)).heap.size := by simp; omega
          have HOK4 := Lib.hid hok4
          have HF4 := Lib.hid hf4
          have H12 := Lib.hid h12
          have H6 := Lib.hid h6
          clear hok4 h12 h6
          rcases four_all hok with ⟨hS, hlo⟩ | ⟨hS, hlo⟩ | ⟨hS, hlo⟩
          · rw [hS]
            by_cases hx : A / 4096 % 16 = 0
            · have hw := Dig.wrong4_none HOK4.out hf4 (by rw [hlo, ← H12.out]; exact hx)
              have hxi : ((A : Int) / 4096 % 16 != 0) = false := by simp; omega
              clear hlo hx
              have e := HE.out
              rw [Dig.decStep_good hw, Dig.after_after] at e
              have h3 : ((Dig.full4 f).take 1).map u8v = (Dig.three4 f).map u8v := by rw [Dig.three4_eq, ← hits_many hf4, hS]
              have hl3 : (Dig.three4 f).length = 1 := by rw [Dig.three4_eq, ← hits_many hf4, hS, List.length_take, Dig.length_full4]; rfl
              have hln : (((Dig.full4 f).take 1).map u8v).length = 1 * 1 := by rw [h3, List.length_map, hl3]
              have hm1 : tl + 1 ≤ maxLen := by have := HN.out; have := HTL.out; unfold maxLen; omega
              have hm2 : (tl + 1) * 1 ≤ 140737488355328 := by have := HN.out; have := HTL.out; omega
              have E := Lib.hid e
              have H3 := Lib.hid h3
              have L3 := Lib.hid hl3
              clear e h3 hl3 hw hok HE hS hF hA4
              go_wp2_with (at_builtin; refine wpList_append_own _ rfl _ _ 57 rfl w.heap.size 5 i0 (.int .u8 0) 1 1 Try.underlying57 hi hz0 hz1 hz2 rfl (by decide) _ tl _ rfl (HO.out.alloc _) ⟨wr.heap.size, 0, none⟩ 1 3 (((Dig.full4 f).take 1).map u8v) rfl hln (news_take (HG2.out) 1) (agg_ones _) hm1 hm2 hm3 ?_; intro v5 w5 hO5 hg5 _)
              have O5 := Lib.hid hO5
              have G5 := Lib.hid hg5
              clear hO5 hg5
              go_roundw
              case rel =>
                refine ⟨k + 1, tl + 1, T ++ Dig.three4 f, by have := HN.out; omega, by rw [List.length_append, HT.out, L3.out], by have := HTL.out; omega, int64_congr (by have := HN.out; omega), ?_, ?_, (HB.out.alloc hsz _).grown G5.out hm3 (fun q hq => (HO.out.lt q hq).1)⟩
                · rw [E.out, show 4 * (k + 1) = n + 4 from by have := HN.out; omega]
                · rw [List.map_append, ← H3.out]; exact O5.out
              case measure => simp [intOf]; omega
            · have hw := Dig.wrong4_loose HOK4.out hf4 (by rw [hlo, ← H12.out]; exact hx)
              have hxi : ((A : Int) / 4096 % 16 != 0) = true := by simp; omega
              rw [hlo] at hw
              clear hlo hx
              have e := HE.out
              rw [Dig.decStep_bad hw, Dig.after_error] at e
              have HX : Hid (r = .tuple #[.string ⟨#[]⟩, .int .i64 50, .int .i64 ((n : Int) + 2 - 1)]) := Lib.hid (by rw [HR.out, ansOf_error e, show ((n + 1 : Nat) : Int) = (n : Int) + 2 - 1 from by omega])
              clear e hw hok HE hS hF hA4
              go_wp2_with fail
              go_ret3
              exact ⟨by rw [HX.out]; rfl, HB.out⟩
          · rw [hS]
            by_cases hx : A / 64 % 4 = 0
            · have hw := Dig.wrong4_none HOK4.out hf4 (by rw [hlo, ← H6.out]; exact hx)
              have hxi : ((A : Int) / 64 % 4 != 0) = false := by simp; omega
              clear hlo hx
              have e := HE.out
              rw [Dig.decStep_good hw, Dig.after_after] at e
              have h3 : ((Dig.full4 f).take 2).map u8v = (Dig.three4 f).map u8v := by rw [Dig.three4_eq, ← hits_many hf4, hS]
              have hl3 : (Dig.three4 f).length = 2 := by rw [Dig.three4_eq, ← hits_many hf4, hS, List.length_take, Dig.length_full4]; rfl
              have hln : (((Dig.full4 f).take 2).map u8v).length = 2 * 1 := by rw [h3, List.length_map, hl3]
              have hm1 : tl + 2 ≤ maxLen := by have := HN.out; have := HTL.out; unfold maxLen; omega
              have hm2 : (tl + 2) * 1 ≤ 140737488355328 := by have := HN.out; have := HTL.out; omega
              have E := Lib.hid e
              have H3 := Lib.hid h3
              have L3 := Lib.hid hl3
              clear e h3 hl3 hw hok HE hS hF hA4
              go_wp2_with (at_builtin; refine wpList_append_own _ rfl _ _ 57 rfl w.heap.size 5 i0 (.int .u8 0) 1 1 Try.underlying57 hi hz0 hz1 hz2 rfl (by decide) _ tl _ rfl (HO.out.alloc _) ⟨wr.heap.size, 0, none⟩ 2 3 (((Dig.full4 f).take 2).map u8v) rfl hln (news_take (HG2.out) 2) (agg_ones _) hm1 hm2 hm3 ?_; intro v5 w5 hO5 hg5 _)
              have O5 := Lib.hid hO5
              have G5 := Lib.hid hg5
              clear hO5 hg5
              go_roundw
              case rel =>
                refine ⟨k + 1, tl + 2, T ++ Dig.three4 f, by have := HN.out; omega, by rw [List.length_append, HT.out, L3.out], by have := HTL.out; omega, int64_congr (by have := HN.out; omega), ?_, ?_, (HB.out.alloc hsz _).grown G5.out hm3 (fun q hq => (HO.out.lt q hq).1)⟩
                · rw [E.out, show 4 * (k + 1) = n + 4 from by have := HN.out; omega]
                · rw [List.map_append, ← H3.out]; exact O5.out
              case measure => simp [intOf]; omega
            · have hw := Dig.wrong4_loose HOK4.out hf4 (by rw [hlo, ← H6.out]; exact hx)
              have hxi : ((A : Int) / 64 % 4 != 0) = true := by simp; omega
              rw [hlo] at hw
              clear hlo hx
              have e := HE.out
              rw [Dig.decStep_bad hw, Dig.after_error] at e
              have HX : Hid (r = .tuple #[.string ⟨#[]⟩, .int .i64 50, .int .i64 ((n : Int) + 3 - 1)]) := Lib.hid (by rw [HR.out, ansOf_error e, show ((n + 2 : Nat) : Int) = (n : Int) + 3 - 1 from by omega])
              clear e hw hok HE hS hF hA4
              go_wp2_with fail
              go_ret3
              exact ⟨by rw [HX.out]; rfl, HB.out⟩
          · rw [hS]
            have hw := Dig.wrong4_none HOK4.out hf4 (by rw [hlo]; exact Nat.mod_one _)
            clear hlo
            have e := HE.out
            rw [Dig.decStep_good hw, Dig.after_after] at e
            have h3 : ((Dig.full4 f).take 3).map u8v = (Dig.three4 f).map u8v := by rw [Dig.three4_eq, ← hits_many hf4, hS]
            have hl3 : (Dig.three4 f).length = 3 := by rw [Dig.three4_eq, ← hits_many hf4, hS, List.length_take, Dig.length_full4]; rfl
            have hln : (((Dig.full4 f).take 3).map u8v).length = 3 * 1 := by rw [h3, List.length_map, hl3]
            have hm1 : tl + 3 ≤ maxLen := by have := HN.out; have := HTL.out; unfold maxLen; omega
            have hm2 : (tl + 3) * 1 ≤ 140737488355328 := by have := HN.out; have := HTL.out; omega
            have E := Lib.hid e
            have H3 := Lib.hid h3
            have L3 := Lib.hid hl3
            clear e h3 hl3 hw hok HE hS hF hA4
            go_wp2_with (at_builtin; refine wpList_append_own _ rfl _ _ 57 rfl w.heap.size 5 i0 (.int .u8 0) 1 1 Try.underlying57 hi hz0 hz1 hz2 rfl (by decide) _ tl _ rfl (HO.out.alloc _) ⟨wr.heap.size, 0, none⟩ 3 3 (((Dig.full4 f).take 3).map u8v) rfl hln (news_take (HG2.out) 3) (agg_ones _) hm1 hm2 hm3 ?_; intro v5 w5 hO5 hg5 _)
            have O5 := Lib.hid hO5
            have G5 := Lib.hid hg5
            clear hO5 hg5
            go_roundw
            case rel =>
              refine ⟨k + 1, tl + 3, T ++ Dig.three4 f, by have := HN.out; omega, by rw [List.length_append, HT.out, L3.out], by have := HTL.out; omega, int64_congr (by have := HN.out; omega), ?_, ?_, (HB.out.alloc hsz _).grown G5.out hm3 (fun q hq => (HO.out.lt q hq).1)⟩
              · rw [E.out, show 4 * (k + 1) = n + 4 from by have := HN.out; omega]
              · rw [List.map_append, ← H3.out]; exact O5.out
            case measure => simp [intOf]; omega
    · have hE2 : Dig.dec l = .ok T := by
        rw [hE, List.drop_of_length_le (by rw [HLEN.out]; omega), Dig.dec_nil, Dig.after_fine, List.append_nil]
      have HX := Lib.hid (HR.out.trans (ansOf_ok hE2))
      have HO := Lib.hid hown
      have HB := Lib.hid hB
      have HT := Lib.hid hT
      clear hE hown hB hE2 hT
      go_wp2_with (refine wpList_own_string rfl 57 9 _ rfl w.heap.size 5 _ tl rfl T HT.out Try.underlying57 Try.underlying5 Try.underlying9 HO.out ?_; go_frame)
      go_ret3
      exact ⟨by rw [HX.out]; rfl, HB.out⟩
end Go.Proofs.Ytckfmkokdghinaa
