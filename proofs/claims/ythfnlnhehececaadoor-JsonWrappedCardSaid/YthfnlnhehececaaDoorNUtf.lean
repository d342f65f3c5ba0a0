/- A character's bytes and what the library's decoder says of them. -/
import Derived.Test.YthfnlnhehececaaDoorNSpec
import Derived.Test.YthfnlnhehececaaDoorTBase
import Derived.Lib.DecodeN
import Derived.Lib.ValidLaws
import Derived.Lib.RuneBytes
import Derived.Lib.TrimUEq
namespace Go.Proofs.YthfnlnhehececaaDoor

namespace Js
theorem u8_of (c : UInt8) (n : Nat) (h : n = c.toNat) : UInt8.ofNat n = c := by
  apply UInt8.toNat_inj.1
  rw [UInt8.toNat_ofNat', h]
  have := c.toNat_lt
  omega
/-- Where a character stands, its bytes are those that stand there. -/
theorem enc_u8c {l : List UInt8} {c n : Nat} (h : u8c l = some (c, n)) : enc c = l.take n ∧ 0 < n ∧ n ≤ l.length ∧ n ≤ 4 ∧ c ≤ 1114111 ∧ ¬ (55296 ≤ c ∧ c ≤ 57343) := by
  cases l with
  | nil => simp [u8c] at h
  | cons a r =>
    have ha := a.toNat_lt
    unfold u8c at h
    dsimp only at h
    by_cases h1 : a.toNat < 128
    · rw [if_pos h1] at h
      obtain ⟨rfl, rfl⟩ : a.toNat = c ∧ 1 = n := by simpa using h
      refine ⟨?_, by omega, by simp, by omega, by omega, by omega⟩
      rw [enc, if_pos h1, u8_of a _ rfl]; rfl
    · rw [if_neg h1] at h
      by_cases h2 : 194 ≤ a.toNat ∧ a.toNat < 224
      · rw [if_pos h2] at h
        cases r with
        | nil => simp at h
        | cons b r =>
          simp only [cont, Bool.and_eq_true, decide_eq_true_eq] at h
          by_cases hb : 128 ≤ b.toNat ∧ b.toNat ≤ 191
          · rw [if_pos hb] at h
            obtain ⟨rfl, rfl⟩ : 64 * (a.toNat - 192) + (b.toNat - 128) = c ∧ 2 = n := by simpa using h
            refine ⟨?_, by omega, by simp, by omega, by omega, by omega⟩
            rw [enc, if_neg (by omega), if_pos (by omega), u8_of a _ (by omega), u8_of b _ (by omega)]; rfl
          · rw [if_neg hb] at h; cases h
      · rw [if_neg h2] at h
        by_cases h3 : 224 ≤ a.toNat ∧ a.toNat < 240
        · rw [if_pos h3] at h
          cases r with
          | nil => simp at h
          | cons b r =>
            cases r with
            | nil => simp at h
            | cons d r =>
              simp only [cont, Bool.and_eq_true, decide_eq_true_eq] at h
              by_cases hb : (128 ≤ b.toNat ∧ b.toNat ≤ 191) ∧ 128 ≤ d.toNat ∧ d.toNat ≤ 191
              · rw [if_pos hb] at h
                by_cases hn : 4096 * (a.toNat - 224) + 64 * (b.toNat - 128) + (d.toNat - 128) < 2048 ∨ 55296 ≤ 4096 * (a.toNat - 224) + 64 * (b.toNat - 128) + (d.toNat - 128) ∧ 4096 * (a.toNat - 224) + 64 * (b.toNat - 128) + (d.toNat - 128) ≤ 57343
                · rw [if_pos hn] at h; cases h
                · rw [if_neg hn] at h
                  obtain ⟨rfl, rfl⟩ : 4096 * (a.toNat - 224) + 64 * (b.toNat - 128) + (d.toNat - 128) = c ∧ 3 = n := by simpa using h
                  refine ⟨?_, by omega, by simp, by omega, by omega, by omega⟩
                  rw [enc, if_neg (by omega), if_neg (by omega), if_pos (by omega), u8_of a _ (by omega), u8_of b _ (by omega), u8_of d _ (by omega)]; rfl
              · rw [if_neg hb] at h; cases h
        · rw [if_neg h3] at h
          by_cases h4 : 240 ≤ a.toNat ∧ a.toNat < 245
          · rw [if_pos h4] at h
            cases r with
            | nil => simp at h
            | cons b r =>
              cases r with
              | nil => simp at h
              | cons d r =>
                cases r with
                | nil => simp at h
                | cons f r =>
                  simp only [cont, Bool.and_eq_true, decide_eq_true_eq] at h
                  by_cases hb : ((128 ≤ b.toNat ∧ b.toNat ≤ 191) ∧ 128 ≤ d.toNat ∧ d.toNat ≤ 191) ∧ 128 ≤ f.toNat ∧ f.toNat ≤ 191
                  · rw [if_pos hb] at h
                    by_cases hn : 262144 * (a.toNat - 240) + 4096 * (b.toNat - 128) + 64 * (d.toNat - 128) + (f.toNat - 128) < 65536 ∨ 1114111 < 262144 * (a.toNat - 240) + 4096 * (b.toNat - 128) + 64 * (d.toNat - 128) + (f.toNat - 128)
                    · rw [if_pos hn] at h; cases h
                    · rw [if_neg hn] at h
                      obtain ⟨rfl, rfl⟩ : 262144 * (a.toNat - 240) + 4096 * (b.toNat - 128) + 64 * (d.toNat - 128) + (f.toNat - 128) = c ∧ 4 = n := by simpa using h
                      refine ⟨?_, by omega, by simp, by omega, by omega, by omega⟩
                      rw [enc, if_neg (by omega), if_neg (by omega), if_neg (by omega), u8_of a _ (by omega), u8_of b _ (by omega), u8_of d _ (by omega), u8_of f _ (by omega)]; rfl
                  · rw [if_neg hb] at h; cases h
          · rw [if_neg h4] at h; cases h
theorem bs_get (l : List UInt8) (k : Nat) : (bs l).get! k = l.getD k 0 := by rw [← Lib.getD_get!', bs_list]
set_option maxRecDepth 100000 in
set_option maxHeartbeats 2000000 in
theorem dec_u8c (l : List UInt8) (hl : l ≠ []) : Utf8.decode (bs l) 0 = (u8c l).getD (65533, 1) := by
  rw [Lib.decode_at, bs_size, bs_get, bs_get, bs_get, bs_get, Nat.zero_add, Nat.zero_add, Nat.zero_add, Nat.sub_zero]
  cases l with
  | nil => exact absurd rfl hl
  | cons a r =>
    have ha := a.toNat_lt
    rw [show (a :: r).getD 0 0 = a from rfl]
    unfold u8c
    dsimp only
    by_cases h1 : a.toNat < 128
    · rw [if_pos h1, Lib.decodeN, if_pos h1]; rfl
    · rw [if_neg h1]
      cases r with
      | nil =>
        have : Lib.decodeN 1 a.toNat 0 0 0 = (65533, 1) := by unfold Lib.decodeN; simp [h1]
        simp only [List.length_cons, List.length_nil]
        show Lib.decodeN 1 a.toNat 0 0 0 = _
        rw [this]
        repeat' split
        all_goals rfl
      | cons b r =>
        have hb := b.toNat_lt
        rw [show (a :: b :: r).getD 1 0 = b from rfl]
        cases r with
        | nil =>
          show Lib.decodeN 2 a.toNat b.toNat 0 0 = _
          unfold Lib.decodeN cont
          simp only [Bool.and_eq_true, decide_eq_true_eq]
          repeat' split
          all_goals first | (exfalso; omega) | (simp only [Option.getD_none]; done) | (simp only [Option.getD_some]; apply Prod.ext <;> simp only <;> omega)
        | cons d r =>
          have hd := d.toNat_lt
          rw [show (a :: b :: d :: r).getD 2 0 = d from rfl]
          cases r with
          | nil =>
            show Lib.decodeN 3 a.toNat b.toNat d.toNat 0 = _
            unfold Lib.decodeN cont
            simp only [Bool.and_eq_true, decide_eq_true_eq]
            repeat' split
            all_goals first | (exfalso; omega) | (simp only [Option.getD_none]; done) | (simp only [Option.getD_some]; apply Prod.ext <;> simp only <;> omega)
          | cons f r =>
            have hf := f.toNat_lt
            rw [show (a :: b :: d :: f :: r).getD 3 0 = f from rfl]
            simp only [List.length_cons]
            have hn : 4 ≤ r.length + 1 + 1 + 1 + 1 := by omega
            generalize r.length + 1 + 1 + 1 + 1 = N at *
            unfold Lib.decodeN cont
            simp only [Bool.and_eq_true, decide_eq_true_eq]
            repeat' split
            all_goals first | (exfalso; omega) | (simp only [Option.getD_none]; done) | (simp only [Option.getD_some]; apply Prod.ext <;> simp only <;> omega)
/-- A text's bytes are characters. -/
def utfG : Nat → List UInt8 → Bool
  | 0, _ => true
  | n + 1, l =>
    if l = [] then true else
    match u8c l with
    | none => false
    | some (_, k) => utfG n (l.drop k)
def utf (l : List UInt8) : Bool := utfG l.length l
theorem utfG_more : ∀ (n m : Nat) (l : List UInt8), l.length ≤ n → l.length ≤ m → utfG n l = utfG m l
  | 0, 0, _, _, _ => rfl
  | 0, m + 1, l, h, _ => by
    have : l = [] := List.eq_nil_of_length_eq_zero (by omega)
    subst this; rfl
  | n + 1, 0, l, _, h => by
    have : l = [] := List.eq_nil_of_length_eq_zero (by omega)
    subst this; rfl
  | n + 1, m + 1, l, h1, h2 => by
    unfold utfG
    by_cases hl : l = []
    · rw [if_pos hl, if_pos hl]
    · rw [if_neg hl, if_neg hl]
      cases hu : u8c l with
      | none => rfl
      | some x =>
        obtain ⟨c, k⟩ := x
        have := (enc_u8c hu).2
        exact utfG_more n m _ (by rw [List.length_drop]; omega) (by rw [List.length_drop]; omega)
theorem utf_nil : utf [] = true := rfl
theorem utf_none {l : List UInt8} (hl : l ≠ []) (h : u8c l = none) : utf l = false := by
  unfold utf
  cases hk : l.length with
  | zero => exact absurd (List.eq_nil_of_length_eq_zero hk) hl
  | succ n => rw [utfG, if_neg hl, h]
theorem utf_some {l : List UInt8} {c k : Nat} (h : u8c l = some (c, k)) : utf l = utf (l.drop k) := by
  have hl : l ≠ [] := fun e => by subst e; simp [u8c] at h
  have h3 := (enc_u8c h).2
  unfold utf
  cases hk : l.length with
  | zero => exact absurd (List.eq_nil_of_length_eq_zero hk) hl
  | succ n =>
    rw [utfG, if_neg hl, h]
    exact utfG_more _ _ _ (by rw [List.length_drop]; omega) (Nat.le_refl _)
theorem decL (l : List UInt8) (hl : l ≠ []) : Lib.decodeL l = (u8c l).getD (65533, 1) := by
  rw [← dec_u8c l hl]
  unfold Lib.decodeL
  rw [bs_eq]
theorem utf_valid : ∀ (n : Nat) (l : List UInt8), l.length ≤ n → Lib.validD l = utf l
  | 0, l, h => by
    have : l = [] := List.eq_nil_of_length_eq_zero (by omega)
    subst this; rfl
  | n + 1, l, h => by
    by_cases hl : l = []
    · subst hl; rfl
    · rw [Lib.validD_step l hl, decL l hl]
      cases hu : u8c l with
      | none => rw [utf_none hl hu]; rfl
      | some x =>
        obtain ⟨c, k⟩ := x
        have h3 := (enc_u8c hu).2
        rw [utf_some hu]
        simp only [Option.getD_some]
        have : ¬ (c = 65533 ∧ k = 1) := by
          rintro ⟨rfl, rfl⟩
          have := (enc_u8c hu).1
          rw [show enc 65533 = [239, 191, 189] by decide] at this
          have := congrArg List.length this
          rw [List.length_take] at this
          simp at this
          omega
        rw [if_neg this]
        exact utf_valid n _ (by rw [List.length_drop]; omega)
/-- A small character is one byte. -/
theorem u8c_small {l : List UInt8} {c k : Nat} (h : u8c l = some (c, k)) (hc : c < 128) : k = 1 ∧ ∃ a r, l = a :: r ∧ a.toNat = c := by
  have h3 := enc_u8c h
  rw [enc, if_pos hc] at h3
  have := congrArg List.length h3.1
  rw [List.length_take] at this
  simp only [List.length_cons, List.length_nil] at this
  obtain rfl : k = 1 := by omega
  refine ⟨rfl, ?_⟩
  cases l with
  | nil => simp [u8c] at h
  | cons a r =>
    refine ⟨a, r, rfl, ?_⟩
    have h4 := h3.1
    simp only [List.take_succ_cons, List.take_zero, List.cons.injEq, and_true] at h4
    rw [← h4, UInt8.toNat_ofNat']
    omega
theorem u8c_ascii (a : UInt8) (r : List UInt8) (h : a.toNat < 128) : u8c (a :: r) = some (a.toNat, 1) := by unfold u8c; dsimp only; rw [if_pos h]
/-- The library's word for a character's bytes. -/
theorem rune_enc (c : Nat) (h : c ≤ 1114111) (hs : ¬ (55296 ≤ c ∧ c ≤ 57343)) : Lib.runeCells (c : Int) = (enc c).map u8v := by
  unfold Lib.runeCells enc
  have e : ∀ n : Nat, n < 256 → Value.int .u8 (n : Int) = u8v (UInt8.ofNat n) := fun n hn => by
    unfold u8v
    rw [UInt8.toNat_ofNat', Nat.mod_eq_of_lt (by omega)]
  by_cases h1 : c < 128
  · rw [Lib.encodeRuneZ_one (by omega) (by omega), if_pos h1]
    simp [e c (by omega)]
  · rw [if_neg h1]
    by_cases h2 : c < 2048
    · rw [Lib.encodeRuneZ_two (by omega) (by omega), if_pos h2]
      simp only [List.map_cons, List.map_nil]
      rw [← e _ (by omega), ← e _ (by omega)]
      simp
    · rw [if_neg h2]
      by_cases h3 : c < 65536
      · rw [Lib.encodeRuneZ_three (by omega), if_pos h3]
        simp only [List.map_cons, List.map_nil]
        rw [← e _ (by omega), ← e _ (by omega), ← e _ (by omega)]
        simp
      · rw [Lib.encodeRuneZ_four (by omega) (by omega), if_neg h3]
        simp only [List.map_cons, List.map_nil]
        rw [← e _ (by omega), ← e _ (by omega), ← e _ (by omega), ← e _ (by omega)]
        simp
theorem enc_len (c : Nat) : 1 ≤ (enc c).length ∧ (enc c).length ≤ 4 := by
  unfold enc
  repeat' split
  all_goals simp
end Js
end Go.Proofs.YthfnlnhehececaaDoor
