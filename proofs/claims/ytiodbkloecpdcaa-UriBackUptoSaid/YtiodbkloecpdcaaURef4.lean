/- The document's own bucket's name. -/
import Derived.Test.YtiodbkloecpdcaaURef3
namespace Go.Proofs.Ytiodbkloecpdcaa

namespace Ur
def near (p c : UInt8) : Prop := (c = 46 ∧ (p = 46 ∨ p = 45)) ∨ (c = 45 ∧ p = 46)
theorem bkt_kind (S : List UInt8) (i : Nat) (hi : i < S.length) (h : ofName (S.getD i 0) = false) : bkt S = false := by
  have : S.all ofName = false := by
    rw [Bool.eq_false_iff]
    intro ha
    rw [List.all_eq_true] at ha
    have := ha (S.getD i 0) (by rw [List.getD, List.getElem?_eq_getElem hi]; exact List.getElem_mem hi)
    rw [h] at this
    cases this
  rw [bkt, this]; simp
theorem bkt_edge (S : List UInt8) (i : Nat) (he : i = 0 ∨ i + 1 = S.length) (h : firm (S.getD i 0) = false) : bkt S = false := by
  have : ends S = false := by
    unfold ends
    rcases he with rfl | he
    · rw [h]; rfl
    · rw [show S.length - 1 = i by omega, h, Bool.and_false]
  rw [bkt, this]; simp
theorem bkt_near (S : List UInt8) (i : Nat) (hi : i + 1 < S.length) (h : near (S.getD i 0) (S.getD (i + 1) 0)) : bkt S = false := by
  have : dots S = false := by
    unfold dots
    rcases h with ⟨h1, h2 | h2⟩ | ⟨h1, h2⟩
    · rw [(contains_two S 46 46).2 ⟨i, hi, h2, h1⟩]; rfl
    · rw [(contains_two S 45 46).2 ⟨i, hi, h2, h1⟩]; simp
    · rw [(contains_two S 46 45).2 ⟨i, hi, h2, h1⟩]; simp
  rw [bkt, this]; simp
/-- What is asked of a name's byte. -/
def fine (S : List UInt8) (i : Nat) : Prop := ofName (S.getD i 0) = true ∧ (i = 0 ∨ i + 1 = S.length → firm (S.getD i 0) = true) ∧ (∀ k, i = k + 1 → ¬ near (S.getD k 0) (S.getD i 0))
theorem bkt_fine (S : List UInt8) (h1 : 3 ≤ S.length) (h2 : S.length ≤ 63) (h : ∀ i, i < S.length → fine S i) : bkt S = !addr S := by
  have a1 : S.all ofName = true := by
    rw [List.all_eq_true]
    intro x hx
    obtain ⟨i, hi, rfl⟩ := List.getElem_of_mem hx
    have := (h i hi).1
    rwa [List.getD, List.getElem?_eq_getElem hi] at this
  have a2 : ends S = true := by
    unfold ends
    rw [(h 0 (by omega)).2.1 (.inl rfl), (h (S.length - 1) (by omega)).2.1 (.inr (by omega))]; rfl
  have no : ∀ a b : UInt8, near a b → Lib.contains S [a, b] = false := by
    intro a b hn
    rw [Bool.eq_false_iff]
    intro hc
    obtain ⟨k, hk, h3, h4⟩ := (contains_two S a b).1 hc
    exact (h (k + 1) hk).2.2 k rfl (by rw [h3, h4]; exact hn)
  have a3 : dots S = true := by
    unfold dots
    rw [no 46 46 (.inl ⟨rfl, .inl rfl⟩), no 45 46 (.inl ⟨rfl, .inr rfl⟩), no 46 45 (.inr ⟨rfl, rfl⟩)]; rfl
  rw [bkt, a1, a2, a3, decide_eq_true h1, decide_eq_true h2]; simp
theorem firm_45 (c : UInt8) (h : c.toNat = 45 ∨ c.toNat = 46) : firm c = false := by
  rw [Bool.eq_false_iff]; simp only [firm, sml, dgt, ne_eq, Bool.or_eq_true, Bool.and_eq_true, decide_eq_true_eq]; omega
theorem ofName_no (c : UInt8) (h1 : ¬ (97 ≤ c.toNat ∧ c.toNat ≤ 122)) (h2 : ¬ (48 ≤ c.toNat ∧ c.toNat ≤ 57)) (h3 : c.toNat ≠ 45) (h4 : c.toNat ≠ 46) : ofName c = false := by
  rw [Bool.eq_false_iff]; simp only [ofName, firm, sml, dgt, c45, c46, ne_eq, Bool.or_eq_true, Bool.and_eq_true, decide_eq_true_eq]; omega
theorem ofName_yes (c : UInt8) (h : (97 ≤ c.toNat ∧ c.toNat ≤ 122) ∨ (48 ≤ c.toNat ∧ c.toNat ≤ 57) ∨ c.toNat = 45 ∨ c.toNat = 46) : ofName c = true := by
  simp only [ofName, firm, sml, dgt, c45, c46, Bool.or_eq_true, Bool.and_eq_true, decide_eq_true_eq]; omega
theorem firm_yes (c : UInt8) (h : (97 ≤ c.toNat ∧ c.toNat ≤ 122) ∨ (48 ≤ c.toNat ∧ c.toNat ≤ 57)) : firm c = true := by
  simp only [firm, sml, dgt, Bool.or_eq_true, Bool.and_eq_true, decide_eq_true_eq]; omega
theorem near_nat (p c : UInt8) : near p c ↔ (c.toNat = 46 ∧ (p.toNat = 46 ∨ p.toNat = 45)) ∨ (c.toNat = 45 ∧ p.toNat = 46) := by
  unfold near
  simp only [← UInt8.toNat_inj]
  exact Iff.rfl
theorem adr_nat (c : UInt8) : adr c = (dgt c || decide (c.toNat = 46)) := by rw [adr, c46]
theorem take_more (S : List UInt8) (j : Nat) (h : j < S.length) (c : UInt8) (hc : S.getD j 0 = c) : S.take (j + 1) = S.take j ++ [c] := by
  rw [List.take_succ_eq_append_getElem h, ← hc]; simp [List.getD, List.getElem?_eq_getElem h]
end Ur

open Go.RowKit
attribute [local go_sem high] run_index_byte
set_option maxRecDepth 100000 in
set_option maxHeartbeats 8000000 in
theorem vBucket_any (S : List UInt8) (hmax : S.length ≤ 4611686018427387904) (w : World) : Calls Try.prog 25 #[.string (bs S)] w fun e w' => e = .returned (.bool (Ur.bkt S)) ∧ w' = w := by
  obtain ⟨s, hs⟩ : ∃ s, s = bs S := ⟨_, rfl⟩
  have hss : s.size = S.length := by rw [hs, bs_size]
  have hst : ∀ i, S.getD i 0 = strAt s i := fun i => by rw [hs]; exact (strAt_bs S i).symm
  have HST := Lib.hid hst
  rw [← hs]
  clear hs hst
  by_cases h1 : S.length < 3
  · rw [Ur.bkt, decide_eq_false (show ¬ 3 ≤ S.length by omega)]
    go_enter Try.func25, Try.ntmps25
    go_wp2_with fail
    go_ret
    exact ⟨by simp, rfl⟩
  by_cases h2 : 63 < S.length
  · rw [Ur.bkt, decide_eq_false (show ¬ S.length ≤ 63 by omega)]
    go_enter Try.func25, Try.ntmps25
    go_wp2_with fail
    go_ret
    exact ⟨by simp, rfl⟩
  obtain ⟨R, hR⟩ : ∃ R, R = Ur.bkt S := ⟨_, rfl⟩
  rw [← hR]
  have HR := Lib.hid hR
  clear hR
  obtain ⟨N, hN⟩ : ∃ N, N = S.length := ⟨_, rfl⟩
  have HN := Lib.hid hN
  rw [← hN] at hss h1 h2 hmax
  clear hN
  go_enter Try.func25, Try.ntmps25
  go_wp2_with fail
  go_loopw [3, 4, 5] (fun nv bv iv wr => ∃ (j n : Nat) (b : Bool), j ≤ N ∧ nv = .int .i64 n ∧ bv = .bool b ∧ iv = .int .i64 j ∧ n ≤ j ∧ Hid (n = (S.take j).count 46 ∧ b = (S.take j).all Ur.adr) ∧ Hid (∀ k, k < j → Ur.fine S k) ∧ w = wr) (fun _ _ iv _ => N - (intOf iv).toNat)
  case atStart => exact ⟨0, 0, true, by omega, rfl, rfl, rfl, by omega, Lib.hid ⟨rfl, rfl⟩, Lib.hid (fun k hk => by omega), rfl⟩
  case round =>
    obtain ⟨j, n, b, hj, rfl, rfl, rfl, hn, hnb, hf, rfl⟩ := hrel
    by_cases hlt : j < N
    · have hlS : j < S.length := by rw [← HN.out]; exact hlt
      obtain ⟨c, hc⟩ : ∃ c, c = strAt s j := ⟨_, rfl⟩
      have hcS : S.getD j 0 = c := by rw [hc]; exact HST.out j
      have RI : ∀ v : World, (Instr.index 9 (.string s) (.int .i64 (j : Int))).run Try.prog v = .ok (.int .u8 (c.toNat : Int)) v := fun v => by rw [hc]; exact run_index_byte v _ _ _ j Try.underlying9 (by omega)
      have htk := Ur.take_more S j hlS c hcS
      have hct : (S.take (j + 1)).count 46 = n + (if c.toNat = 46 then 1 else 0) := by
        rw [htk, List.count_append, ← hnb.out.1, List.count_singleton, c46]
        by_cases h : c.toNat = 46 <;> simp [h]
      have hal : (S.take (j + 1)).all Ur.adr = (b && Ur.adr c) := by rw [htk, List.all_append, ← hnb.out.2]; simp
      have HCS := Lib.hid hcS; have HCT := Lib.hid hct; have HAL := Lib.hid hal; have HLS := Lib.hid hlS
      clear hc hcS htk hct hal hlS
      by_cases hA : Ur.ofName c = false
      · have hR : R = false := by rw [HR.out]; exact Ur.bkt_kind S j HLS.out (by rw [HCS.out]; exact hA)
        have k45 : c.toNat ≠ 45 := fun h => by rw [Ur.ofName_yes c (by omega)] at hA; cases hA
        have k46 : c.toNat ≠ 46 := fun h => by rw [Ur.ofName_yes c (by omega)] at hA; cases hA
        have q45 : ((c.toNat : Int) == 45) = false := by simp; omega
        have n45 : ((c.toNat : Int) != 45) = true := by rw [bne, q45]; rfl
        have q46 : ((c.toNat : Int) == 46) = false := by simp; omega
        have n46 : ((c.toNat : Int) != 46) = true := by rw [bne, q46]; rfl
        have kk : c.toNat < 48 ∨ (57 < c.toNat ∧ c.toNat < 97) ∨ 122 < c.toNat := by
          by_cases h : c.toNat < 48 ∨ (57 < c.toNat ∧ c.toNat < 97) ∨ 122 < c.toNat
          · exact h
          · rw [Ur.ofName_yes c (by omega)] at hA; cases hA
        have HRF := Lib.hid hR
        clear hA hR k45 k46
        rcases kk with kk | ⟨k1, k2⟩ | kk
        · have d97 : decide ((97 : Int) ≤ (c.toNat : Int)) = false := decide_eq_false (by omega)
          have d48 : decide ((48 : Int) ≤ (c.toNat : Int)) = false := decide_eq_false (by omega)
          go_wp2_with fail
          go_ret
          exact ⟨by rw [HRF.out]; rfl, rfl⟩
        · have d97 : decide ((97 : Int) ≤ (c.toNat : Int)) = false := decide_eq_false (by omega)
          have d48 : decide ((48 : Int) ≤ (c.toNat : Int)) = true := decide_eq_true (by omega)
          have d57 : decide ((c.toNat : Int) ≤ 57) = false := decide_eq_false (by omega)
          go_wp2_with fail
          go_ret
          exact ⟨by rw [HRF.out]; rfl, rfl⟩
        · have d97 : decide ((97 : Int) ≤ (c.toNat : Int)) = true := decide_eq_true (by omega)
          have d122 : decide ((c.toNat : Int) ≤ 122) = false := decide_eq_false (by omega)
          have d48 : decide ((48 : Int) ≤ (c.toNat : Int)) = true := decide_eq_true (by omega)
          have d57 : decide ((c.toNat : Int) ≤ 57) = false := decide_eq_false (by omega)
          go_wp2_with fail
          go_ret
          exact ⟨by rw [HRF.out]; rfl, rfl⟩
      have hA' : Ur.ofName c = true := by simpa using hA
      clear hA
      by_cases hs1 : 97 ≤ c.toNat ∧ c.toNat ≤ 122
      · obtain ⟨k1, k2⟩ := hs1
        have K := Lib.hid (show 97 ≤ c.toNat ∧ c.toNat ≤ 122 from ⟨k1, k2⟩)
        have FINE := Lib.hid (show Ur.fine S j from ⟨by rw [HCS.out]; exact hA', fun _ => by rw [HCS.out]; exact Ur.firm_yes c (by omega), fun k _ => by rw [HCS.out, Ur.near_nat]; omega⟩)
        clear hA'
        have q45 : ((c.toNat : Int) == 45) = false := by simp; omega
        have n45 : ((c.toNat : Int) != 45) = true := by rw [bne, q45]; rfl
        have q46 : ((c.toNat : Int) == 46) = false := by simp; omega
        have n46 : ((c.toNat : Int) != 46) = true := by rw [bne, q46]; rfl
        have d97 : decide ((97 : Int) ≤ (c.toNat : Int)) = true := decide_eq_true (by omega)
        have d122 : decide ((c.toNat : Int) ≤ 122) = true := decide_eq_true (by omega)
        have d48 : decide ((48 : Int) ≤ (c.toNat : Int)) = true := decide_eq_true (by omega)
        have d57 : decide ((c.toNat : Int) ≤ 57) = false := decide_eq_false (by omega)
        by_cases h0 : j = 0
        · have j0 : ((j : Int) == 0) = true := by rw [h0]; rfl
          have dj : j ≤ 0 := by omega
          clear h0
          go_wp2_with fail
          go_roundw
          case rel =>
            refine ⟨j + 1, n, false, by omega, by go_num, rfl, by go_num, by omega, Lib.hid ⟨?_, ?_⟩, Lib.hid (fun k hk => ?_), trivial⟩
            · rw [HCT.out]; have := K.out; split <;> omega
            · rw [HAL.out, Ur.adr_nat]; have := K.out; simp only [Ur.dgt]; rw [decide_eq_false (show ¬ c.toNat ≤ 57 by omega), decide_eq_false (show ¬ c.toNat = 46 by omega)]; simp
            · by_cases e : k = j
              · rw [e]; exact FINE.out
              · exact hf.out k (by omega)
          case measure => simp [intOf]; omega
        have j0 : ((j : Int) == 0) = false := by simp; omega
        have dj : 1 ≤ j := by omega
        by_cases hN1 : j = N - 1
        · have qe : ((j : Int) == (N : Int) - 1) = true := by rw [beq_iff_eq]; omega
          clear hN1 h0
          go_wp2_with fail
          go_roundw
          case rel =>
            refine ⟨j + 1, n, false, by omega, by go_num, rfl, by go_num, by omega, Lib.hid ⟨?_, ?_⟩, Lib.hid (fun k hk => ?_), trivial⟩
            · rw [HCT.out]; have := K.out; split <;> omega
            · rw [HAL.out, Ur.adr_nat]; have := K.out; simp only [Ur.dgt]; rw [decide_eq_false (show ¬ c.toNat ≤ 57 by omega), decide_eq_false (show ¬ c.toNat = 46 by omega)]; simp
            · by_cases e : k = j
              · rw [e]; exact FINE.out
              · exact hf.out k (by omega)
          case measure => simp [intOf]; omega
        · have qe : ((j : Int) == (N : Int) - 1) = false := by simp; omega
          clear hN1 h0
          go_wp2_with fail
          go_roundw
          case rel =>
            refine ⟨j + 1, n, false, by omega, by go_num, rfl, by go_num, by omega, Lib.hid ⟨?_, ?_⟩, Lib.hid (fun k hk => ?_), trivial⟩
            · rw [HCT.out]; have := K.out; split <;> omega
            · rw [HAL.out, Ur.adr_nat]; have := K.out; simp only [Ur.dgt]; rw [decide_eq_false (show ¬ c.toNat ≤ 57 by omega), decide_eq_false (show ¬ c.toNat = 46 by omega)]; simp
            · by_cases e : k = j
              · rw [e]; exact FINE.out
              · exact hf.out k (by omega)
          case measure => simp [intOf]; omega
      by_cases hs2 : 48 ≤ c.toNat ∧ c.toNat ≤ 57
      · obtain ⟨k1, k2⟩ := hs2
        have K := Lib.hid (show 48 ≤ c.toNat ∧ c.toNat ≤ 57 from ⟨k1, k2⟩)
        have FINE := Lib.hid (show Ur.fine S j from ⟨by rw [HCS.out]; exact hA', fun _ => by rw [HCS.out]; exact Ur.firm_yes c (by omega), fun k _ => by rw [HCS.out, Ur.near_nat]; omega⟩)
        clear hA' hs1
        have q45 : ((c.toNat : Int) == 45) = false := by simp; omega
        have n45 : ((c.toNat : Int) != 45) = true := by rw [bne, q45]; rfl
        have q46 : ((c.toNat : Int) == 46) = false := by simp; omega
        have n46 : ((c.toNat : Int) != 46) = true := by rw [bne, q46]; rfl
        have d97 : decide ((97 : Int) ≤ (c.toNat : Int)) = false := decide_eq_false (by omega)
        have d48 : decide ((48 : Int) ≤ (c.toNat : Int)) = true := decide_eq_true (by omega)
        have d57 : decide ((c.toNat : Int) ≤ 57) = true := decide_eq_true (by omega)
        by_cases h0 : j = 0
        · have j0 : ((j : Int) == 0) = true := by rw [h0]; rfl
          have dj : j ≤ 0 := by omega
          clear h0
          go_wp2_with fail
          go_roundw
          case rel =>
            refine ⟨j + 1, n, b, by omega, by go_num, rfl, by go_num, by omega, Lib.hid ⟨?_, ?_⟩, Lib.hid (fun k hk => ?_), trivial⟩
            · rw [HCT.out]; have := K.out; split <;> omega
            · rw [HAL.out, Ur.adr_nat]; have := K.out; simp only [Ur.dgt]; rw [decide_eq_true (show 48 ≤ c.toNat by omega), decide_eq_true (show c.toNat ≤ 57 by omega)]; simp
            · by_cases e : k = j
              · rw [e]; exact FINE.out
              · exact hf.out k (by omega)
          case measure => simp [intOf]; omega
        have j0 : ((j : Int) == 0) = false := by simp; omega
        have dj : 1 ≤ j := by omega
        by_cases hN1 : j = N - 1
        · have qe : ((j : Int) == (N : Int) - 1) = true := by rw [beq_iff_eq]; omega
          clear hN1 h0
          go_wp2_with fail
          go_roundw
          case rel =>
            refine ⟨j + 1, n, b, by omega, by go_num, rfl, by go_num, by omega, Lib.hid ⟨?_, ?_⟩, Lib.hid (fun k hk => ?_), trivial⟩
            · rw [HCT.out]; have := K.out; split <;> omega
            · rw [HAL.out, Ur.adr_nat]; have := K.out; simp only [Ur.dgt]; rw [decide_eq_true (show 48 ≤ c.toNat by omega), decide_eq_true (show c.toNat ≤ 57 by omega)]; simp
            · by_cases e : k = j
              · rw [e]; exact FINE.out
              · exact hf.out k (by omega)
          case measure => simp [intOf]; omega
        · have qe : ((j : Int) == (N : Int) - 1) = false := by simp; omega
          clear hN1 h0
          go_wp2_with fail
          go_roundw
          case rel =>
            refine ⟨j + 1, n, b, by omega, by go_num, rfl, by go_num, by omega, Lib.hid ⟨?_, ?_⟩, Lib.hid (fun k hk => ?_), trivial⟩
            · rw [HCT.out]; have := K.out; split <;> omega
            · rw [HAL.out, Ur.adr_nat]; have := K.out; simp only [Ur.dgt]; rw [decide_eq_true (show 48 ≤ c.toNat by omega), decide_eq_true (show c.toNat ≤ 57 by omega)]; simp
            · by_cases e : k = j
              · rw [e]; exact FINE.out
              · exact hf.out k (by omega)
          case measure => simp [intOf]; omega
      have kc : c.toNat = 45 ∨ c.toNat = 46 := by
        by_cases h : c.toNat = 45 ∨ c.toNat = 46
        · exact h
        · rw [Ur.ofName_no c hs1 hs2 (by omega) (by omega)] at hA'; cases hA'
      have k1 : 45 ≤ c.toNat := by omega
      have k2 : c.toNat ≤ 46 := by omega
      have KC := Lib.hid kc
      have d97 : decide ((97 : Int) ≤ (c.toNat : Int)) = false := decide_eq_false (by omega)
      have d48 : decide ((48 : Int) ≤ (c.toNat : Int)) = false := decide_eq_false (by omega)
      clear hs1 hs2 kc
      have edge : j = 0 ∨ j = N - 1 → R = false := fun h => by rw [HR.out]; exact Ur.bkt_edge S j (by rw [← HN.out]; omega) (by rw [HCS.out]; exact Ur.firm_45 c KC.out)
      by_cases h0 : j = 0
      · have HRF := Lib.hid (edge (.inl h0))
        clear edge hA'
        have j0 : ((j : Int) == 0) = true := by rw [h0]; rfl
        clear h0
        rcases KC.out with h | h
        · have q45 : ((c.toNat : Int) == 45) = true := by rw [h]; rfl
          have n45 : ((c.toNat : Int) != 45) = false := by rw [bne, q45]; rfl
          have q46 : ((c.toNat : Int) == 46) = false := by rw [h]; rfl
          have n46 : ((c.toNat : Int) != 46) = true := by rw [bne, q46]; rfl
          clear h
          go_wp2_with fail
          go_ret
          exact ⟨by rw [HRF.out]; rfl, rfl⟩
        · have q45 : ((c.toNat : Int) == 45) = false := by rw [h]; rfl
          have n45 : ((c.toNat : Int) != 45) = true := by rw [bne, q45]; rfl
          have q46 : ((c.toNat : Int) == 46) = true := by rw [h]; rfl
          have n46 : ((c.toNat : Int) != 46) = false := by rw [bne, q46]; rfl
          clear h
          go_wp2_with fail
          go_ret
          exact ⟨by rw [HRF.out]; rfl, rfl⟩
      have j0 : ((j : Int) == 0) = false := by simp; omega
      have dj : 1 ≤ j := by omega
      by_cases hN1 : j = N - 1
      · have HRF := Lib.hid (edge (.inr hN1))
        clear edge hA'
        have qe : ((j : Int) == (N : Int) - 1) = true := by rw [beq_iff_eq]; omega
        clear hN1
        rcases KC.out with h | h
        · have q45 : ((c.toNat : Int) == 45) = true := by rw [h]; rfl
          have n45 : ((c.toNat : Int) != 45) = false := by rw [bne, q45]; rfl
          have q46 : ((c.toNat : Int) == 46) = false := by rw [h]; rfl
          have n46 : ((c.toNat : Int) != 46) = true := by rw [bne, q46]; rfl
          clear h
          go_wp2_with fail
          go_ret
          exact ⟨by rw [HRF.out]; rfl, rfl⟩
        · have q45 : ((c.toNat : Int) == 45) = false := by rw [h]; rfl
          have n45 : ((c.toNat : Int) != 45) = true := by rw [bne, q45]; rfl
          have q46 : ((c.toNat : Int) == 46) = true := by rw [h]; rfl
          have n46 : ((c.toNat : Int) != 46) = false := by rw [bne, q46]; rfl
          clear h
          go_wp2_with fail
          go_ret
          exact ⟨by rw [HRF.out]; rfl, rfl⟩
      have qe : ((j : Int) == (N : Int) - 1) = false := by simp; omega
      clear edge hN1
      obtain ⟨p, hp⟩ : ∃ p, p = strAt s (j - 1) := ⟨_, rfl⟩
      have hpS : S.getD (j - 1) 0 = p := by rw [hp]; exact HST.out (j - 1)
      have RP : ∀ v : World, (Instr.index 9 (.string s) (.int .i64 ((j : Int) - 1))).run Try.prog v = .ok (.int .u8 (p.toNat : Int)) v := fun v => by
        have := run_index_byte v 9 s .i64 (j - 1) Try.underlying9 (by omega)
        rw [show ((j - 1 : Nat) : Int) = (j : Int) - 1 by omega] at this
        rw [hp]; exact this
      have nearR : Ur.near p c → R = false := fun h => by
        rw [HR.out]
        exact Ur.bkt_near S (j - 1) (by rw [show j - 1 + 1 = j by omega]; exact HLS.out) (by rw [show j - 1 + 1 = j by omega, hpS, HCS.out]; exact h)
      have fineR : ¬ Ur.near p c → Ur.fine S j := fun h => ⟨by rw [HCS.out]; exact hA', fun he => by rw [← HN.out] at he; exfalso; simp at qe j0; omega, fun k hk => by
        rw [HCS.out, show k = j - 1 by omega, hpS]; exact h⟩
      have j1 : 1 ≤ j := by omega
      have HNR := Lib.hid nearR; have HFR := Lib.hid fineR
      clear hp hpS nearR fineR hA' h0
      rcases KC.out with h | h
      · have q45 : ((c.toNat : Int) == 45) = true := by rw [h]; rfl
        have n45 : ((c.toNat : Int) != 45) = false := by rw [bne, q45]; rfl
        have q46 : ((c.toNat : Int) == 46) = false := by rw [h]; rfl
        have n46 : ((c.toNat : Int) != 46) = true := by rw [bne, q46]; rfl
        have K := Lib.hid h
        clear h
        by_cases hp46 : p.toNat = 46
        · have p46 : ((p.toNat : Int) == 46) = true := by rw [hp46]; rfl
          have HRF := Lib.hid (HNR.out ((Ur.near_nat p c).2 (.inr ⟨K.out, hp46⟩)))
          clear hp46
          go_wp2_with fail
          go_ret
          exact ⟨by rw [HRF.out]; rfl, rfl⟩
        · have p46 : ((p.toNat : Int) == 46) = false := by simp; omega
          have FINE := Lib.hid (HFR.out (by rw [Ur.near_nat]; have := K.out; omega))
          clear hp46
          go_wp2_with fail
          go_roundw
          case rel =>
            refine ⟨j + 1, n, false, by omega, by go_num, rfl, by go_num, by omega, Lib.hid ⟨?_, ?_⟩, Lib.hid (fun k hk => ?_), trivial⟩
            · rw [HCT.out]; have := K.out; split <;> omega
            · rw [HAL.out, Ur.adr_nat]; have := K.out; simp only [Ur.dgt]; rw [decide_eq_false (show ¬ 48 ≤ c.toNat by omega), decide_eq_false (show ¬ c.toNat = 46 by omega)]; simp
            · by_cases e : k = j
              · rw [e]; exact FINE.out
              · exact hf.out k (by omega)
          case measure => simp [intOf]; omega
      · have q45 : ((c.toNat : Int) == 45) = false := by rw [h]; rfl
        have n45 : ((c.toNat : Int) != 45) = true := by rw [bne, q45]; rfl
        have q46 : ((c.toNat : Int) == 46) = true := by rw [h]; rfl
        have n46 : ((c.toNat : Int) != 46) = false := by rw [bne, q46]; rfl
        have K := Lib.hid h
        clear h
        by_cases hp46 : p.toNat = 46
        · have p46 : ((p.toNat : Int) == 46) = true := by rw [hp46]; rfl
          have HRF := Lib.hid (HNR.out ((Ur.near_nat p c).2 (.inl ⟨K.out, .inl hp46⟩)))
          clear hp46
          go_wp2_with fail
          go_ret
          exact ⟨by rw [HRF.out]; rfl, rfl⟩
        · have p46 : ((p.toNat : Int) == 46) = false := by simp; omega
          by_cases hp45 : p.toNat = 45
          · have p45 : ((p.toNat : Int) == 45) = true := by rw [hp45]; rfl
            have HRF := Lib.hid (HNR.out ((Ur.near_nat p c).2 (.inl ⟨K.out, .inr hp45⟩)))
            clear hp46 hp45
            go_wp2_with fail
            go_ret
            exact ⟨by rw [HRF.out]; rfl, rfl⟩
          · have p45 : ((p.toNat : Int) == 45) = false := by simp; omega
            have FINE := Lib.hid (HFR.out (by rw [Ur.near_nat]; have := K.out; omega))
            clear hp46 hp45
            go_wp2_with fail
            go_roundw
            case rel =>
              refine ⟨j + 1, n + 1, b, by omega, by go_num, rfl, by go_num, by omega, Lib.hid ⟨?_, ?_⟩, Lib.hid (fun k hk => ?_), trivial⟩
              · rw [HCT.out]; have := K.out; split <;> omega
              · rw [HAL.out, Ur.adr_nat]; have := K.out; rw [decide_eq_true (show c.toNat = 46 by omega)]; simp
              · by_cases e : k = j
                · rw [e]; exact FINE.out
                · exact hf.out k (by omega)
            case measure => simp [intOf]; omega
    · obtain rfl : j = N := by omega
      have hR := HR.out
      rw [Ur.bkt_fine S (by rw [← HN.out]; omega) (by rw [← HN.out]; omega) (fun i hi => hf.out i (by rw [HN.out]; exact hi)), Ur.addr] at hR
      have e1 := hnb.out.1
      have e2 := hnb.out.2
      rw [List.take_of_length_le (by rw [HN.out]; exact Nat.le_refl _)] at e1 e2
      rw [← e1, ← e2] at hR
      clear e1 e2
      have HR2 := Lib.hid hR
      clear hR
      cases b
      · go_wp2_with fail
        go_ret
        refine ⟨?_, rfl⟩
        rw [HR2.out]; simp
      · go_wp2_with fail
        go_ret
        refine ret_bool_w ?_
        rw [HR2.out]
        simp only [Bool.and_true, Bool.not_eq_true', decide_eq_false_iff_not, bne_iff_ne, ne_eq]
        omega
end Go.Proofs.Ytiodbkloecpdcaa
