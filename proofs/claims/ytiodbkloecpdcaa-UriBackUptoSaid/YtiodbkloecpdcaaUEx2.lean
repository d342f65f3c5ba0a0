/- The chapter's examples, asked. -/
import Derived.Test.YtiodbkloecpdcaaUEx
namespace Go.Proofs.Ytiodbkloecpdcaa
open Go.RowKit

theorem own_two {w : World} {B n size : Nat} {e : TypeId} {v : Value} {xs : List Value} (h : w.ownsRow B e size v (n + 1) xs) : ∃ g cap, v = .slice (some ⟨g, 0, none⟩) (n + 1) cap := by
  rcases h.2 with ⟨_, h0⟩ | ⟨g, cap, _, rfl, _⟩
  · omega
  · exact ⟨g, cap, rfl⟩
theorem own_cell {w : World} {B n size g cap : Nat} {e : TypeId} {xs : List Value} (h : w.ownsRow B e size (.slice (some ⟨g, 0, none⟩) n cap) n xs) (j : Nat) {v : Value} (hv : xs[j]? = some v) : w.cell? ⟨g, j, none⟩ = some v := by
  have := h.cells (g := g) rfl j v hv
  rw [Addr.add_mid, Nat.zero_add] at this
  exact this
set_option maxRecDepth 100000 in
set_option maxHeartbeats 8000000 in
theorem examples_true (w : World) (hm0 : Mx w) : Calls Try.prog 10 #[] w fun e w' => e = .returned (.bool true) ∧ Below w.heap.size w w' := by
  have T1 := Lib.hid (fun v : World => Target_any [47, 98, 47, 97, 37, 50, 48, 98, 63, 118, 101, 114, 115, 105, 111, 110, 115, 38, 112, 114, 101, 102, 105, 120, 61, 120, 37, 50, 70, 38] (by decide) v)
  have T2 := Lib.hid (fun v : World => Target_any [47, 63, 97, 61, 37, 52, 38, 98, 61, 49] (by decide) v)
  rw [ex_t1, ← (show (⟨#[47, 98, 47, 97, 37, 50, 48, 98, 63, 118, 101, 114, 115, 105, 111, 110, 115, 38, 112, 114, 101, 102, 105, 120, 61, 120, 37, 50, 70, 38]⟩ : ByteArray) = bs [47, 98, 47, 97, 37, 50, 48, 98, 63, 118, 101, 114, 115, 105, 111, 110, 115, 38, 112, 114, 101, 102, 105, 120, 61, 120, 37, 50, 70, 38] by rw [← bs_eq])] at T1
  rw [ex_t2, ← (show (⟨#[47, 63, 97, 61, 37, 52, 38, 98, 61, 49]⟩ : ByteArray) = bs [47, 63, 97, 61, 37, 52, 38, 98, 61, 49] by rw [← bs_eq])] at T2
  simp only [Tg] at T1 T2
  have S1 := Lib.hid (fun v : World => Split_any [47, 98, 47, 107, 47, 108] (by decide) v)
  rw [ex_s1, ex_s2, ← (show (⟨#[47, 98, 47, 107, 47, 108]⟩ : ByteArray) = bs [47, 98, 47, 107, 47, 108] by rw [← bs_eq])] at S1
  have E1 := Lib.hid (fun v : World => Encode_any [97, 32, 98, 47] (by decide) true v)
  have E2 := Lib.hid (fun v : World => Encode_any [97, 32, 98, 47] (by decide) false v)
  simp only [if_true, Bool.false_eq_true, if_false] at E1 E2
  rw [ex_e1, ← (show (⟨#[97, 32, 98, 47]⟩ : ByteArray) = bs [97, 32, 98, 47] by rw [← bs_eq])] at E1
  rw [ex_e2, ← (show (⟨#[97, 32, 98, 47]⟩ : ByteArray) = bs [97, 32, 98, 47] by rw [← bs_eq])] at E2
  have B1 := Lib.hid (fun v hm => Bucket_any [109, 121, 45, 98, 46, 49] v hm (by decide))
  have B2 := Lib.hid (fun v hm => Bucket_any [49, 46, 50, 46, 51, 46, 52] v hm (by decide))
  rw [ex_b1, ← (show (⟨#[109, 121, 45, 98, 46, 49]⟩ : ByteArray) = bs [109, 121, 45, 98, 46, 49] by rw [← bs_eq])] at B1
  rw [ex_b2, ← (show (⟨#[49, 46, 50, 46, 51, 46, 52]⟩ : ByteArray) = bs [49, 46, 50, 46, 51, 46, 52] by rw [← bs_eq])] at B2
  have CA := Lib.hid (fun (sv : Value) (v : World) h => Canon_any sv [([118, 101, 114, 115, 105, 111, 110, 115], []), ([112, 114, 101, 102, 105, 120], [120, 47])] (by decide) (by intro p hp; simp only [List.mem_cons, List.not_mem_nil, or_false] at hp; rcases hp with rfl | rfl <;> decide) (by rw [ex_c]; decide) v h)
  rw [ex_c] at CA
  have q1 := bs_is [47, 98, 47, 97, 32, 98]
  have q2 := bs_is [118, 101, 114, 115, 105, 111, 110, 115]
  have q4 := bs_is [112, 114, 101, 102, 105, 120]
  have q5 := bs_is [120, 47]
  have q6 := bs_is [98]
  have q7 := bs_is [107, 47, 108]
  have q8 := bs_is [97, 37, 50, 48, 98, 37, 50, 70]
  have q9 := bs_is [97, 37, 50, 48, 98, 47]
  have q10 := bs_is [112, 114, 101, 102, 105, 120, 61, 120, 37, 50, 70, 38, 118, 101, 114, 115, 105, 111, 110, 115, 61]
  have q3 := bs_none
  obtain ⟨x1, h1⟩ : ∃ x, x = bs [47, 98, 47, 97, 32, 98] := ⟨_, rfl⟩
  obtain ⟨x2, h2⟩ : ∃ x, x = bs [118, 101, 114, 115, 105, 111, 110, 115] := ⟨_, rfl⟩
  obtain ⟨x3, h3⟩ : ∃ x, x = bs [] := ⟨_, rfl⟩
  obtain ⟨x4, h4⟩ : ∃ x, x = bs [112, 114, 101, 102, 105, 120] := ⟨_, rfl⟩
  obtain ⟨x5, h5⟩ : ∃ x, x = bs [120, 47] := ⟨_, rfl⟩
  obtain ⟨x6, h6⟩ : ∃ x, x = bs [98] := ⟨_, rfl⟩
  obtain ⟨x7, h7⟩ : ∃ x, x = bs [107, 47, 108] := ⟨_, rfl⟩
  obtain ⟨x8, h8⟩ : ∃ x, x = bs [97, 37, 50, 48, 98, 37, 50, 70] := ⟨_, rfl⟩
  obtain ⟨x9, h9⟩ : ∃ x, x = bs [97, 37, 50, 48, 98, 47] := ⟨_, rfl⟩
  obtain ⟨x10, h10⟩ : ∃ x, x = bs [112, 114, 101, 102, 105, 120, 61, 120, 37, 50, 70, 38, 118, 101, 114, 115, 105, 111, 110, 115, 61] := ⟨_, rfl⟩
  obtain ⟨Lp, hLp⟩ : ∃ l : List Ur.Pr, l = [([118, 101, 114, 115, 105, 111, 110, 115], []), ([112, 114, 101, 102, 105, 120], [120, 47])] := ⟨_, rfl⟩
  have hprs : prs Lp = [Value.string x2, .string x3, .string x4, .string x5] := by rw [hLp, h2, h3, h4, h5]; rfl
  have hlp : Lp.length = 2 := by rw [hLp]; rfl
  rw [← hLp] at T1 CA
  rw [hlp] at T1
  rw [← h1] at T1 q1
  rw [← h3] at T2 q3
  rw [← h6, ← h7] at S1
  rw [← h2] at q2; rw [← h4] at q4; rw [← h5] at q5; rw [← h6] at q6; rw [← h7] at q7
  rw [← h8] at E1 q8; rw [← h9] at E2 q9; rw [← h10] at CA q10
  have HPRS := Lib.hid hprs
  have HLP := Lib.hid hlp
  have EQ := eq_pair
  have GD := gd_pair
  have HB := Lib.hid (Below.refl w.heap.size w)
  have HM := Lib.hid hm0
  clear h1 h2 h3 h4 h5 h6 h7 h8 h9 h10 hLp hprs hlp hm0
  go_enter Try.func10, Try.ntmps10
  go_wp2_with (first
    | (go_at_call 14; first
      | ((with_reducible refine (T1.out _).mono ?_); rintro e w1 ⟨⟨v1, rfl, ho1⟩, hb1⟩; have HO := Lib.hid (own_base ho1 HB.out.size); replace HB := Lib.hid (bthen HB.out hb1); replace HM := Lib.hid (HM.out.below hb1); clear ho1 hb1)
      | ((with_reducible refine (T2.out _).mono ?_); rintro e w2 ⟨rfl, hb2⟩; replace HO := Lib.hid (own_below HO.out hb2); replace HB := Lib.hid (bthen HB.out hb2); replace HM := Lib.hid (HM.out.below hb2); clear hb2))
    | (go_at_call 16; (with_reducible refine (S1.out _).mono ?_); rintro e w3 ⟨rfl, hb3⟩; replace HO := Lib.hid (own_below HO.out hb3); replace HB := Lib.hid (bthen HB.out hb3); replace HM := Lib.hid (HM.out.below hb3); clear hb3)
    | (go_at_call 12; first
      | ((with_reducible refine (E1.out _).mono ?_); rintro e w4 ⟨rfl, hb4⟩; replace HO := Lib.hid (own_below HO.out hb4); replace HB := Lib.hid (bthen HB.out hb4); replace HM := Lib.hid (HM.out.below hb4); clear hb4)
      | ((with_reducible refine (E2.out _).mono ?_); rintro e w5 ⟨rfl, hb5⟩; replace HO := Lib.hid (own_below HO.out hb5); replace HB := Lib.hid (bthen HB.out hb5); replace HM := Lib.hid (HM.out.below hb5); clear hb5; obtain ⟨gg, gc, rfl⟩ := own_two HO.out; have c00 := own_cell HO.out 0 (v := .string x2) (by rw [HPRS.out]; rfl); have c01 := own_cell HO.out 1 (v := .string x3) (by rw [HPRS.out]; rfl); have c10 := own_cell HO.out 2 (v := .string x4) (by rw [HPRS.out]; rfl); have c11 := own_cell HO.out 3 (v := .string x5) (by rw [HPRS.out]; rfl)))
    | (go_at_call 15; first
      | ((with_reducible refine (B1.out _ HM.out).mono ?_); rintro e w6 ⟨rfl, hb6⟩; replace HO := Lib.hid (own_below HO.out hb6); replace HB := Lib.hid (bthen HB.out hb6); replace HM := Lib.hid (HM.out.below hb6); clear hb6)
      | ((with_reducible refine (B2.out _ HM.out).mono ?_); rintro e w7 ⟨rfl, hb7⟩; replace HO := Lib.hid (own_below HO.out hb7); replace HB := Lib.hid (bthen HB.out hb7); replace HM := Lib.hid (HM.out.below hb7); clear hb7))
    | (go_at_call 13; refine (CA.out _ _ (pairsAt_self (l := Lp) (by rw [HLP.out]; exact HO.out) rfl (Nat.le_refl _))).mono ?_; rintro e w8 ⟨rfl, hb8⟩; replace HB := Lib.hid (bthen HB.out hb8); clear hb8))
  go_ret
  exact ⟨rfl, HB.out⟩
end Go.Proofs.Ytiodbkloecpdcaa
